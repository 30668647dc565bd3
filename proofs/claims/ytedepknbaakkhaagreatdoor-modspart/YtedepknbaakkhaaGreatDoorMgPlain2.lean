/-
  Plain mathematics of the document's own search: which beginnings of a text are all that a pattern's beginnings are; it answers just what the pattern means. No program is named here.
-/
import Derived.Test.YtedepknbaakkhaaGreatDoorMgPlain
namespace Go.Proofs.YtedepknbaakkhaaGreatDoor.G

/-- Some beginning that is marked leaves a rest which the parts match. -/
def DP (at1 : List Bool) (ts : List (Option (UInt8 → Bool))) (s : List UInt8) : Prop := ∃ i, i ≤ s.length ∧ at1[i]? = some true ∧ mt ts (s.drop i) = true

def fillTo (t : List Bool) (i : Nat) : List Bool := t.take i ++ List.replicate (t.length - i) false

theorem fillTo_length (t : List Bool) (i : Nat) (h : i ≤ t.length) : (fillTo t i).length = t.length := by
  unfold fillTo; simp; omega
theorem fillTo_all (t : List Bool) : fillTo t t.length = t := by unfold fillTo; simp
theorem fillTo_zero (t : List Bool) : fillTo t 0 = List.replicate t.length false := by unfold fillTo; simp
theorem fillTo_one (t : List Bool) (h0 : t[0]? = some false) : fillTo t 1 = List.replicate t.length false := by
  cases t with
  | nil => simp at h0
  | cons b r =>
    simp at h0; subst h0
    unfold fillTo; simp [List.replicate_succ]
theorem fillTo_set (t : List Bool) (i : Nat) (h : i < t.length) : (fillTo t i).set i t[i] = fillTo t (i + 1) := by
  unfold fillTo
  rw [List.set_append_right _ _ (by simp; omega)]
  have e : i - (t.take i).length = 0 := by simp; omega
  rw [e]
  obtain ⟨m, hm⟩ : ∃ m, t.length - i = m + 1 := ⟨t.length - i - 1, by omega⟩
  rw [hm, show t.length - (i + 1) = m by omega, List.replicate_succ, List.set_cons_zero, List.take_succ_eq_append_getElem h, List.append_assoc]; rfl

def anyTo (a : List Bool) (i : Nat) : Bool := (a.take i).any id
theorem anyTo_succ (a : List Bool) (i : Nat) (h : i < a.length) : anyTo a (i + 1) = (anyTo a i || a[i]) := by
  unfold anyTo; rw [List.take_succ_eq_append_getElem h, List.any_append]; simp only [List.any_cons, List.any_nil, Bool.or_false, id]
theorem anyTo_iff (a : List Bool) (i : Nat) : anyTo a i = true ↔ ∃ j, j < i ∧ a[j]? = some true := by
  unfold anyTo
  rw [List.any_eq_true]
  constructor
  · rintro ⟨x, hx, ht⟩
    obtain ⟨j, hj, rfl⟩ := List.getElem_of_mem hx
    simp at hj
    refine ⟨j, by omega, ?_⟩
    rw [List.getElem_take] at ht
    rw [List.getElem?_eq_getElem (by omega)]; simpa using ht
  · rintro ⟨j, hj, ht⟩
    have hl : j < a.length := by
      rw [List.getElem?_eq_some_iff] at ht; exact ht.1
    refine ⟨true, ?_, rfl⟩
    have : (a.take i)[j]? = some true := by rw [List.getElem?_take_of_lt hj]; exact ht
    exact List.mem_of_getElem? this

/-- The row behind a star. -/
def starRow (a : List Bool) : List Bool := (List.range a.length).map fun i => anyTo a (i + 1)
theorem starRow_length (a : List Bool) : (starRow a).length = a.length := by simp [starRow]
theorem starRow_get (a : List Bool) (i : Nat) (h : i < a.length) : (starRow a)[i]'(by simpa [starRow] using h) = anyTo a (i + 1) := by simp [starRow]

/-- The row behind a part that is one byte. -/
def oneRow (a : List Bool) (f : UInt8 → Bool) (s : List UInt8) : List Bool := false :: (List.range s.length).map fun i => a.getD i false && f (s.getD i 0)
theorem oneRow_length (a : List Bool) (f : UInt8 → Bool) (s : List UInt8) : (oneRow a f s).length = s.length + 1 := by simp [oneRow]
theorem oneRow_get (a : List Bool) (f : UInt8 → Bool) (s : List UInt8) (i : Nat) (h : i < s.length) (ha : i < a.length) : (oneRow a f s)[i + 1]'(by rw [oneRow_length]; omega) = (a[i] && f s[i]) := by
  simp [oneRow, h, ha]

theorem dp_star (a : List Bool) (ts : List (Option (UInt8 → Bool))) (s : List UInt8) (hl : a.length = s.length + 1) : DP (starRow a) ts s ↔ DP a (none :: ts) s := by
  constructor
  · rintro ⟨i, hi, h1, h2⟩
    rw [List.getElem?_eq_getElem (by rw [starRow_length]; omega), starRow_get _ _ (by omega)] at h1
    simp only [Option.some.injEq] at h1
    rw [anyTo_iff] at h1
    obtain ⟨j, hj, hj2⟩ := h1
    refine ⟨j, by omega, hj2, ?_⟩
    show starM (mt ts) (s.drop j) = true
    rw [starM_iff]
    refine ⟨i - j, by simp; omega, ?_⟩
    rw [List.drop_drop, show j + (i - j) = i by omega]; exact h2
  · rintro ⟨j, hj, h1, h2⟩
    have h3 : starM (mt ts) (s.drop j) = true := h2
    rw [starM_iff] at h3
    obtain ⟨k, hk, h4⟩ := h3
    simp at hk
    refine ⟨j + k, by omega, ?_, by rw [List.drop_drop] at h4; exact h4⟩
    rw [List.getElem?_eq_getElem (by rw [starRow_length]; omega), starRow_get _ _ (by omega)]
    simp only [Option.some.injEq]
    rw [anyTo_iff]
    exact ⟨j, by omega, h1⟩

theorem dp_one (a : List Bool) (f : UInt8 → Bool) (ts : List (Option (UInt8 → Bool))) (s : List UInt8) (hl : a.length = s.length + 1) : DP (oneRow a f s) ts s ↔ DP a (some f :: ts) s := by
  constructor
  · rintro ⟨i, hi, h1, h2⟩
    cases i with
    | zero => simp [oneRow] at h1
    | succ i =>
      rw [List.getElem?_eq_getElem (by rw [oneRow_length]; omega), oneRow_get _ _ _ _ (by omega) (by omega)] at h1
      simp only [Option.some.injEq, Bool.and_eq_true] at h1
      refine ⟨i, by omega, by rw [List.getElem?_eq_getElem (by omega), h1.1], ?_⟩
      rw [drop_cons s i (by omega)]
      simp only [mt, Bool.and_eq_true]
      exact ⟨h1.2, h2⟩
  · rintro ⟨i, hi, h1, h2⟩
    by_cases hlt : i < s.length
    · rw [drop_cons s i hlt] at h2
      simp only [mt, Bool.and_eq_true] at h2
      rw [List.getElem?_eq_getElem (by omega)] at h1
      simp only [Option.some.injEq] at h1
      refine ⟨i + 1, by omega, ?_, h2.2⟩
      rw [List.getElem?_eq_getElem (by rw [oneRow_length]; omega), oneRow_get _ _ _ _ hlt (by omega), h1, h2.1]; rfl
    · rw [List.drop_of_length_le (by omega)] at h2; simp [mt] at h2

theorem dp_start (ts : List (Option (UInt8 → Bool))) (s : List UInt8) : DP (true :: List.replicate s.length false) ts s ↔ mt ts s = true := by
  constructor
  · rintro ⟨i, hi, h1, h2⟩
    cases i with
    | zero => simpa using h2
    | succ i =>
      simp only [List.getElem?_cons_succ] at h1
      rw [List.getElem?_replicate] at h1
      split at h1 <;> simp at h1
  · intro h; exact ⟨0, by omega, by simp, by simpa using h⟩

theorem dp_end (a : List Bool) (s : List UInt8) (hl : a.length = s.length + 1) : DP a [] s ↔ a[s.length]'(by omega) = true := by
  constructor
  · rintro ⟨i, hi, h1, h2⟩
    have : i = s.length := by
      simp [mt] at h2; omega
    subst this
    rw [List.getElem?_eq_getElem (by omega)] at h1
    simpa using h1
  · intro h
    exact ⟨s.length, by omega, by rw [List.getElem?_eq_getElem (by omega), h], by simp [mt]⟩
end Go.Proofs.YtedepknbaakkhaaGreatDoor.G
