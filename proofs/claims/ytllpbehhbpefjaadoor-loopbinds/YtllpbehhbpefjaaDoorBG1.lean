/-
  A use is found wherever a text begins with it: the document's way of binding is the program's.
-/
import Derived.Test.YtllpbehhbpefjaaDoorBN2
namespace Go.Proofs.YtllpbehhbpefjaaDoor
open Go.RowKit Go.Shelf
open Ex (useN bodyF endN clo)

theorem body_app : ∀ (n : Nat) (o c : UInt8) (d : Nat) (t r : List UInt8) (k m : Nat), bodyF n o c d t = some k → n ≤ m → bodyF m o c d (t ++ r) = some k := by
  intro n
  induction n with
  | zero => intro o c d t r k m h _; simp [bodyF] at h
  | succ n ih =>
    intro o c d t r k m h hm
    obtain ⟨m, rfl⟩ : ∃ m', m = m' + 1 := ⟨m - 1, by omega⟩
    cases t with
    | nil => simp [bodyF] at h
    | cons x t =>
      rw [List.cons_append]
      unfold bodyF at h ⊢
      dsimp only at h ⊢
      by_cases hx : x = 36
      · rw [if_pos hx] at h ⊢
        cases t with
        | nil => simp at h
        | cons y r2 =>
          rw [List.cons_append]
          dsimp only at h ⊢
          by_cases hy : clo y = 0
          · rw [if_pos hy] at h ⊢
            obtain ⟨j, hj, rfl⟩ := Option.map_eq_some_iff.1 h
            rw [ih o c d r2 r j m hj (by omega)]; rfl
          · rw [if_neg hy] at h ⊢
            cases hb : bodyF n y (clo y) 0 r2 with
            | none => rw [hb] at h; simp at h
            | some j =>
              rw [hb] at h
              rw [ih y (clo y) 0 r2 r j m hb (by omega)]
              dsimp only at h ⊢
              have hj := (Ex.body_le n y (clo y) 0 r2 j hb).2
              rw [List.drop_append_of_le_length hj]
              obtain ⟨q, hq, rfl⟩ := Option.map_eq_some_iff.1 h
              rw [ih o c d (r2.drop j) r q m hq (by omega)]; rfl
      · rw [if_neg hx] at h ⊢
        by_cases h1 : x = o
        · simp only [h1, if_true] at h ⊢
          obtain ⟨q, hq, rfl⟩ := Option.map_eq_some_iff.1 h
          rw [ih _ _ _ t r q m hq (by omega)]; rfl
        · simp only [h1, if_false] at h ⊢
          by_cases h2 : x = c
          · simp only [h2, if_true] at h ⊢
            by_cases h3 : d = 0
            · simp only [h3, if_true] at h ⊢; exact h
            · simp only [h3, if_false] at h ⊢
              obtain ⟨q, hq, rfl⟩ := Option.map_eq_some_iff.1 h
              rw [ih _ _ _ t r q m hq (by omega)]; rfl
          · simp only [h2, if_false] at h ⊢
            obtain ⟨q, hq, rfl⟩ := Option.map_eq_some_iff.1 h
            rw [ih _ _ _ t r q m hq (by omega)]; rfl
end Go.Proofs.YtllpbehhbpefjaaDoor
