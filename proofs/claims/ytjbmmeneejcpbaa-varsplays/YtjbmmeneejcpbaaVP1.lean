/-
  The document's own set as a list of all variables: what of it is a scope's.
-/
import Derived.Test.YtjbmmeneejcpbaaVMath
namespace Go.Proofs.Ytjbmmeneejcpbaa
open Go.RowKit Go.Shelf Go.Maps

structure Vr where
  n : Int
  q : ByteArray
  v : ByteArray
abbrev Vl := List Vr
def proj (L : Vl) (n : Int) : Sc := (L.filter fun x => decide (x.n = n)).map fun x => (x.q, x.v)
theorem proj_nil (n : Int) : proj [] n = [] := rfl
theorem proj_cons (x : Vr) (L : Vl) (n : Int) : proj (x :: L) n = if x.n = n then (x.q, x.v) :: proj L n else proj L n := by
  unfold proj
  rw [List.filter_cons]
  by_cases h : x.n = n <;> simp [h]
theorem proj_append (L L' : Vl) (n : Int) : proj (L ++ L') n = proj L n ++ proj L' n := by unfold proj; rw [List.filter_append, List.map_append]
theorem proj_clear (L : Vl) (n m : Int) : proj (L.filter fun x => decide (x.n ≠ n)) m = if m = n then [] else proj L m := by
  induction L with
  | nil => simp [proj_nil]
  | cons x L ih =>
    rw [List.filter_cons]
    by_cases h : x.n = n
    · rw [if_neg (by simp [h]), ih, proj_cons]
      by_cases hm : m = n
      · rw [if_pos hm, if_pos hm]
      · rw [if_neg hm, if_neg hm, if_neg (by rw [h]; exact Ne.symm hm)]
    · rw [if_pos (by simp [h]), proj_cons, proj_cons, ih]
      by_cases hm : m = n
      · rw [if_pos hm, if_pos hm, if_neg (by rw [hm]; exact h)]
      · rw [if_neg hm, if_neg hm]

/-- Where a variable stands. -/
def AtIs (L : Vl) (n : Int) (q : ByteArray) (r : Int) : Prop :=
  (r = -1 ∧ (proj L n).look q = none) ∨ ∃ (i : Nat) (x : Vr), r = i ∧ L[i]? = some x ∧ x.n = n ∧ x.q = q ∧ (proj L n).look q = some x.v ∧ ∀ j, j < i → ∀ y, L[j]? = some y → ¬ (y.n = n ∧ y.q = q)
theorem look_at {L : Vl} {n : Int} {q : ByteArray} {x : Vr} {i : Nat} (h : L[i]? = some x) (h1 : x.n = n) (h2 : x.q = q) (hb : ∀ j, j < i → ∀ y, L[j]? = some y → ¬ (y.n = n ∧ y.q = q)) : (proj L n).look q = some x.v := by
  induction L generalizing i with
  | nil => simp at h
  | cons y t ih =>
    rw [proj_cons]
    cases i with
    | zero => simp at h; subst h; rw [if_pos h1, Sc.look_cons, if_pos h2]
    | succ i =>
      have h0 := hb 0 (by omega) y rfl
      have h3 := ih (by simpa using h) (fun j hj z hz => hb (j + 1) (by omega) z (by simpa using hz))
      by_cases hy : y.n = n
      · rw [if_pos hy, Sc.look_cons, if_neg (fun e => h0 ⟨hy, e⟩)]; exact h3
      · rw [if_neg hy]; exact h3
theorem look_nowhere {L : Vl} {n : Int} {q : ByteArray} (h : ∀ (j : Nat) (y : Vr), L[j]? = some y → ¬ (y.n = n ∧ y.q = q)) : (proj L n).look q = none := by
  induction L with
  | nil => rfl
  | cons y t ih =>
    have h0 := h 0 y rfl
    have h3 := ih (fun j z hz => h (j + 1) z (by simpa using hz))
    rw [proj_cons]
    by_cases hy : y.n = n
    · rw [if_pos hy, Sc.look_cons, if_neg (fun e => h0 ⟨hy, e⟩)]; exact h3
    · rw [if_neg hy]; exact h3
theorem proj_set {L : Vl} {n : Int} {q v : ByteArray} {x : Vr} {i : Nat} (h : L[i]? = some x) (h1 : x.n = n) (h2 : x.q = q) (hb : ∀ j, j < i → ∀ y, L[j]? = some y → ¬ (y.n = n ∧ y.q = q)) (m : Int) :
    proj (L.set i ⟨n, q, v⟩) m = if m = n then (proj L n).set q v else proj L m := by
  induction L generalizing i with
  | nil => simp at h
  | cons y t ih =>
    cases i with
    | zero =>
      simp at h; subst h
      rw [List.set_cons_zero, proj_cons, proj_cons, proj_cons]
      subst h1; subst h2
      by_cases hm : m = y.n
      · subst hm; rw [if_pos rfl, if_pos rfl, if_pos rfl]; unfold Sc.set; rw [if_pos rfl]
      · rw [if_neg (Ne.symm hm), if_neg hm, if_neg (Ne.symm hm)]
    | succ i =>
      have h0 := hb 0 (by omega) y rfl
      have h3 := ih (i := i) (by simpa using h) (fun j hj z hz => hb (j + 1) (by omega) z (by simpa using hz))
      rw [List.set_cons_succ, proj_cons, proj_cons, proj_cons, h3]
      by_cases hm : m = n
      · subst hm
        rw [if_pos rfl, if_pos rfl]
        by_cases hy : y.n = m
        · rw [if_pos hy, if_pos hy]
          have e : Sc.set ((y.q, y.v) :: proj t m) q v = (y.q, y.v) :: Sc.set (proj t m) q v := by
            show (if y.q = q then _ else _) = _
            rw [if_neg (fun e => h0 ⟨hy, e⟩)]
          rw [e]
        · rw [if_neg hy, if_neg hy]
      · rw [if_neg hm, if_neg hm]
theorem proj_out {L : Vl} {n : Int} {q : ByteArray} {x : Vr} {i : Nat} (hu : (proj L n).Uniq) (h : L[i]? = some x) (h1 : x.n = n) (h2 : x.q = q) (hb : ∀ j, j < i → ∀ y, L[j]? = some y → ¬ (y.n = n ∧ y.q = q)) (m : Int) :
    proj (L.take i ++ L.drop (i + 1)) m = if m = n then (proj L n).del q else proj L m := by
  induction L generalizing i with
  | nil => simp at h
  | cons y t ih =>
    cases i with
    | zero =>
      simp at h; subst h
      subst h1; subst h2
      show proj t m = _
      rw [proj_cons, proj_cons]
      rw [proj_cons, if_pos rfl] at hu
      by_cases hm : m = y.n
      · subst hm; rw [if_pos rfl, if_pos rfl]
        unfold Sc.del
        rw [List.filter_cons, if_neg (by simp)]
        obtain ⟨hu1, _⟩ := List.pairwise_cons.1 hu
        exact (List.filter_eq_self.2 fun z hz => by simpa using Ne.symm (hu1 z hz)).symm
      · rw [if_neg hm, if_neg (Ne.symm hm)]
    | succ i =>
      have h0 := hb 0 (by omega) y rfl
      have hu2 : (proj t n).Uniq := by
        rw [proj_cons] at hu
        split at hu
        · exact (List.pairwise_cons.1 hu).2
        · exact hu
      have h3 := ih (i := i) hu2 (by simpa using h) (fun j hj z hz => hb (j + 1) (by omega) z (by simpa using hz))
      show proj (y :: (t.take i ++ t.drop (i + 1))) m = _
      rw [proj_cons, proj_cons, proj_cons, h3]
      by_cases hm : m = n
      · subst hm
        rw [if_pos rfl, if_pos rfl]
        by_cases hy : y.n = m
        · rw [if_pos hy, if_pos hy]
          unfold Sc.del
          rw [List.filter_cons, if_pos (by simp; exact fun e => h0 ⟨hy, e⟩)]
        · rw [if_neg hy, if_neg hy]
      · rw [if_neg hm, if_neg hm]

/-- The document's list has what a set has. -/
structure Rel (L : Vl) (s : VS) : Prop where
  proj : ∀ n, s n = proj L n
  sc : ∀ x ∈ L, isSc x.n = true
  ok : s.Ok
theorem len_parts {L : Vl} (h : ∀ x ∈ L, isSc x.n = true) : L.length = (proj L 1).length + (proj L 2).length + (proj L 3).length + (proj L 4).length := by
  induction L with
  | nil => rfl
  | cons x L ih =>
    have h1 := ih (fun y hy => h y (List.mem_cons_of_mem _ hy))
    rw [proj_cons, proj_cons, proj_cons, proj_cons, List.length_cons]
    rcases isSc_cases (h x (List.mem_cons_self ..)) with e | e | e | e <;> rw [e] <;> simp <;> omega
theorem Rel.len {L : Vl} {s : VS} (h : Rel L s) : L.length ≤ 4096 := by
  rw [len_parts h.sc, ← h.proj, ← h.proj, ← h.proj, ← h.proj]
  have := h.ok.len 1; have := h.ok.len 2; have := h.ok.len 3; have := h.ok.len 4
  omega
theorem rel_none : Rel [] VS.none_ := ⟨fun _ => rfl, fun x hx => (by cases hx), VS.ok_none⟩
theorem Rel.val {L : Vl} {s : VS} (h : Rel L s) {x : Vr} (hx : x ∈ L) : x.v.size ≤ 65536 := by
  have : (x.q, x.v) ∈ s x.n := by
    rw [h.proj]; unfold Go.Proofs.Ytjbmmeneejcpbaa.proj
    exact List.mem_map.2 ⟨x, List.mem_filter.2 ⟨hx, by simp⟩, rfl⟩
  exact h.ok.val _ _ this
theorem Rel.upd {L L' : Vl} {s : VS} (h : Rel L s) {n : Int} {S : Sc} (hk : (s.upd n S).Ok) (hp : ∀ m, Go.Proofs.Ytjbmmeneejcpbaa.proj L' m = if m = n then S else Go.Proofs.Ytjbmmeneejcpbaa.proj L m) (hs : ∀ x ∈ L', isSc x.n = true) : Rel L' (s.upd n S) := by
  refine ⟨fun m => ?_, hs, hk⟩
  rw [hp]
  by_cases e : m = n
  · subst e; rw [VS.upd_same, if_pos rfl]
  · rw [VS.upd_other _ _ e, if_neg e, h.proj]
end Go.Proofs.Ytjbmmeneejcpbaa
