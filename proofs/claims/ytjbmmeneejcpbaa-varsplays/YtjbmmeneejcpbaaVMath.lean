/-
  What follows of a set's calls: a scope that comes ahead hides the others; what is refused turns nothing; no call turns another scope.
-/
import Derived.Test.YtjbmmeneejcpbaaVAlive
namespace Go.Proofs.Ytjbmmeneejcpbaa
open Go.RowKit Go.Shelf Go.Maps

theorem get_congr {s s' : VS} {q : ByteArray} (h : ∀ n, isSc n = true → (s n).look q = (s' n).look q) : s.get q = s'.get q := by
  unfold VS.get
  rw [h 1 rfl, h 2 rfl, h 3 rfl, h 4 rfl]

/-- Has one of the first scopes a name? -/
def aheadB (s : VS) (q : ByteArray) : Nat → Bool
  | 0 => false
  | k + 1 => aheadB s q k || ((s ((k + 1 : Nat) : Int)).look q).isSome

def newT : ByteArray := ⟨#[110, 101, 119]⟩
theorem sc_nat {n : Int} (h : isSc n = true) : ∃ k : Nat, k ≤ 3 ∧ n = ((k + 1 : Nat) : Int) := by
  rcases isSc_cases h with rfl | rfl | rfl | rfl
  · exact ⟨0, by omega, rfl⟩
  · exact ⟨1, by omega, rfl⟩
  · exact ⟨2, by omega, rfl⟩
  · exact ⟨3, by omega, rfl⟩

theorem put_zero {s : VS} {n : Int} {q v : ByteArray} (h : (s.put n q v).2 = 0) : isSc n = true ∧ (s.put n q v).1 = s.upd n ((s n).set q v) := by
  unfold VS.put at h ⊢
  cases hk : VS.ok n q
  · rw [hk] at h; simp at h
  · rw [hk] at h
    simp only [if_true] at h ⊢
    unfold VS.give at h ⊢
    split at h
    · simp at h
    · rename_i hc
      rw [if_neg hc]
      refine ⟨?_, rfl⟩
      unfold VS.ok at hk; rw [Bool.and_eq_true] at hk; exact hk.1

theorem dropped (s : VS) (n : Int) (q : ByteArray) (hn : isSc n = true) : (((s.drop n q).1) n).look q = none := by
  unfold VS.drop
  rw [hn, if_pos rfl]
  split
  · simp only [VS.upd_same]; exact Sc.look_del_same _ _
  · rename_i h
    simp only
    cases hl : (s n).look q with
    | none => rfl
    | some v => rw [hl] at h; simp at h

section
variable {s2 : VS} {n : Int} {q : ByteArray}
/-- What put behind drop shows. -/
theorem hides_now {k : Nat} (hn : n = ((k + 1 : Nat) : Int)) (hk : k ≤ 3) {s3 : VS} (hs3 : s3 = s2.upd n ((s2 n).set q newT)) :
    (aheadB s3 q k = true → s3.get q = s2.get q ∧ (s3.get q).isSome = true) ∧ (aheadB s3 q k = false → s3.get q = some newT) := by
  have hsame : (s3 n).look q = some newT := by rw [hs3, VS.upd_same, Sc.look_set_same]
  have hoth : ∀ j, j ≠ n → s3 j = s2 j := fun j hj => by rw [hs3, VS.upd_other _ _ hj]
  have hk4 : k = 0 ∨ k = 1 ∨ k = 2 ∨ k = 3 := by omega
  rcases hk4 with rfl | rfl | rfl | rfl
  · obtain rfl : n = 1 := hn
    refine ⟨fun h => (by cases h), fun _ => ?_⟩
    unfold VS.get; rw [hsame]
  · obtain rfl : n = 2 := hn
    have h1 := hoth 1 (by decide)
    unfold VS.get
    have ha : aheadB s3 q 1 = ((s3 1).look q).isSome := by unfold aheadB aheadB; rfl
    rw [ha, h1]
    cases (s2 1).look q with
    | some v => exact ⟨fun _ => ⟨rfl, rfl⟩, fun h => by cases h⟩
    | none => exact ⟨fun h => (by cases h), fun _ => by simp only; rw [hsame]⟩
  · obtain rfl : n = 3 := hn
    have h1 := hoth 1 (by decide)
    have h2 := hoth 2 (by decide)
    unfold VS.get
    have ha : aheadB s3 q 2 = (((s3 1).look q).isSome || ((s3 2).look q).isSome) := by unfold aheadB aheadB aheadB; rfl
    rw [ha, h1, h2]
    cases (s2 1).look q with
    | some v => exact ⟨fun _ => ⟨rfl, rfl⟩, fun h => by cases h⟩
    | none =>
      cases (s2 2).look q with
      | some v => exact ⟨fun _ => ⟨rfl, rfl⟩, fun h => by cases h⟩
      | none => exact ⟨fun h => (by cases h), fun _ => by simp only; rw [hsame]⟩
  · obtain rfl : n = 4 := hn
    have h1 := hoth 1 (by decide)
    have h2 := hoth 2 (by decide)
    have h3 := hoth 3 (by decide)
    unfold VS.get
    have ha : aheadB s3 q 3 = ((((s3 1).look q).isSome || ((s3 2).look q).isSome) || ((s3 3).look q).isSome) := by unfold aheadB aheadB aheadB aheadB; rfl
    rw [ha, h1, h2, h3]
    cases (s2 1).look q with
    | some v => exact ⟨fun _ => ⟨rfl, rfl⟩, fun h => by cases h⟩
    | none =>
      cases (s2 2).look q with
      | some v => exact ⟨fun _ => ⟨rfl, rfl⟩, fun h => by cases h⟩
      | none =>
        cases (s2 3).look q with
        | some v => exact ⟨fun _ => ⟨rfl, rfl⟩, fun h => by cases h⟩
        | none => exact ⟨fun h => (by cases h), fun _ => by simp only; rw [hsame]⟩
theorem hides_back (hn : isSc n = true) (h0 : (s2 n).look q = none) {s3 : VS} (hs3 : s3 = s2.upd n ((s2 n).set q newT)) : (s3.drop n q).2 = 0 ∧ (s3.drop n q).1.get q = s2.get q := by
  have hsame : (s3 n).look q = some newT := by rw [hs3, VS.upd_same, Sc.look_set_same]
  have hd : s3.drop n q = (s3.upd n ((s3 n).del q), 0) := by unfold VS.drop; rw [hn, hsame]; rfl
  rw [hd]
  refine ⟨rfl, get_congr fun j _ => ?_⟩
  by_cases e : j = n
  · subst e; simp only [VS.upd_same]; rw [Sc.look_del_same, h0]
  · simp only; rw [VS.upd_other _ _ e, hs3, VS.upd_other _ _ e]
end

theorem give_refused (s : VS) (n : Int) (q v : ByteArray) (h : (s.give n q v).2 ≠ 0) : (s.give n q v).1 = s := by
  unfold VS.give at h ⊢
  split
  · rfl
  · rename_i hc; rw [if_neg hc] at h; exact absurd rfl h
theorem act_refused (s : VS) (a : Act) (h : (s.act a).2 ≠ 0 ∨ (a.kind.tmod 5 = 2 ∧ (s.get a.q).isSome = true)) : (s.act a).1 = s := by
  unfold VS.act at h ⊢
  by_cases h0 : a.kind.tmod 5 = 0
  · rw [if_pos h0] at h ⊢
    have h := h.resolve_right (by omega)
    unfold VS.put at h ⊢
    split
    · rename_i hk; rw [if_pos hk] at h; exact give_refused _ _ _ _ h
    · rfl
  rw [if_neg h0] at h ⊢
  by_cases h1 : a.kind.tmod 5 = 1
  · rw [if_pos h1] at h ⊢
    have h := h.resolve_right (by omega)
    unfold VS.add at h ⊢
    split
    · rename_i hk; rw [if_pos hk] at h; exact give_refused _ _ _ _ h
    · rfl
  rw [if_neg h1] at h ⊢
  by_cases h2 : a.kind.tmod 5 = 2
  · rw [if_pos h2] at h ⊢
    unfold VS.dflt at h ⊢
    split
    · rename_i hk
      rw [if_pos hk] at h
      split
      · rfl
      · rename_i hg
        rw [if_neg hg] at h
        rcases h with h | h
        · exact give_refused _ _ _ _ h
        · exact absurd h.2 hg
    · rfl
  rw [if_neg h2] at h ⊢
  have h := h.resolve_right (fun e => h2 e.1)
  by_cases h3 : a.kind.tmod 5 = 3
  · rw [if_pos h3] at h ⊢
    unfold VS.drop at h ⊢
    split
    · rename_i hk
      rw [if_pos hk] at h
      split
      · rename_i hl; rw [if_pos hl] at h; exact absurd rfl h
      · rfl
    · rfl
  · rw [if_neg h3] at h; exact absurd rfl h

theorem give_other (s : VS) {n k : Int} (q v : ByteArray) (h : k ≠ n) : (s.give n q v).1 k = s k := by
  unfold VS.give; split
  · rfl
  · exact VS.upd_other _ _ h
theorem act_other (s : VS) (a : Act) {k : Int} (h : k ≠ a.n) : (s.act a).1 k = s k := by
  unfold VS.act
  split
  · unfold VS.put; split
    · exact give_other s _ _ h
    · rfl
  split
  · unfold VS.add; split
    · exact give_other s _ _ h
    · rfl
  split
  · unfold VS.dflt; split
    · split
      · rfl
      · exact give_other s _ _ h
    · rfl
  split
  · unfold VS.drop; split
    · split
      · exact VS.upd_other _ _ h
      · rfl
    · rfl
  · exact VS.upd_other _ _ h
end Go.Proofs.Ytjbmmeneejcpbaa
