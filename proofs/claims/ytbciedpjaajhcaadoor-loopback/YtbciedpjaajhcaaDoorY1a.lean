/-
  Plain mathematics of the expand package: the names of a text's uses, as the document tells them.
-/
import Derived.Test.YtbciedpjaajhcaaDoorE3
namespace Go.Proofs.YtbciedpjaajhcaaDoor.Ex
open Go.RowKit Go.Shelf

def nameD (b : List UInt8) : List UInt8 := b.take (cutL b)
def usesD : Nat → List UInt8 → Option (List (List UInt8))
  | 0, _ => some []
  | n + 1, t => match t with
    | [] => some []
    | x :: r => if x = 36 then (match r with
      | [] => some []
      | y :: r2 => match endN (x :: y :: r2) with
        | none => none
        | some k => (usesD n ((x :: y :: r2).drop k)).map (fun l => if clo y = 0 then (if y = 36 then l else [y] :: l) else nameD (r2.take (k - 3)) :: l))
      else usesD n r
theorem usesD_fuel : ∀ (n m : Nat) (t : List UInt8), t.length ≤ n → t.length ≤ m → usesD n t = usesD m t := by
  intro n
  induction n with
  | zero => intro m t h1 h2; cases t with
    | nil => cases m <;> rfl
    | cons x r => simp at h1
  | succ n ih =>
    intro m t h1 h2
    cases t with
    | nil => cases m <;> rfl
    | cons x r =>
      cases m with
      | zero => simp at h2
      | succ m =>
        simp only [List.length_cons] at h1 h2
        unfold usesD
        dsimp only
        rw [ih m r (by omega) (by omega)]
        cases r with
        | nil => rfl
        | cons y r2 =>
          dsimp only
          cases he : endN (x :: y :: r2) with
          | none => rfl
          | some k =>
            have := end_le he
            simp only [List.length_cons] at this h1 h2
            dsimp only
            rw [ih m ((x :: y :: r2).drop k) (by rw [List.length_drop]; simp; omega) (by rw [List.length_drop]; simp; omega)]
def usesU (t : List UInt8) : Option (List (List UInt8)) := usesD t.length t
theorem usesU_nil : usesU [] = some [] := rfl
theorem usesU_last : usesU [36] = some [] := rfl
theorem usesU_other {x : UInt8} (r : List UInt8) (h : x ≠ 36) : usesU (x :: r) = usesU r := by
  unfold usesU; rw [List.length_cons, usesD.eq_def]; dsimp only; rw [if_neg h]
theorem usesU_none {y : UInt8} {r : List UInt8} (h : endN (36 :: y :: r) = none) : usesU (36 :: y :: r) = none := by
  unfold usesU; rw [List.length_cons, usesD.eq_def]; dsimp only; rw [if_pos rfl, h]
theorem usesU_use {y : UInt8} {r : List UInt8} {k : Nat} (h : endN (36 :: y :: r) = some k) : usesU (36 :: y :: r) = (usesU ((36 :: y :: r).drop k)).map (fun l => if clo y = 0 then (if y = 36 then l else [y] :: l) else nameD (r.take (k - 3)) :: l) := by
  have := end_le h
  simp only [List.length_cons] at this
  unfold usesU; rw [List.length_cons, usesD.eq_def]; dsimp only; rw [if_pos rfl, h]
  dsimp only
  rw [usesD_fuel (y :: r).length ((36 :: y :: r).drop k).length _ (by rw [List.length_drop]; simp; omega) (Nat.le_refl _)]

/-- Within a text that ends, every use ends: what the document's cut leans on. -/
def CutOk : Nat → List UInt8 → Prop
  | 0, _ => True
  | n + 1, t => match t with
    | [] => True
    | x :: r => if x = 58 then True else if x = 36 then (match endN (x :: r) with
      | none => False
      | some k => CutOk n ((x :: r).drop k)) else CutOk n r
theorem body_cut : ∀ (n : Nat) (o c : UInt8) (d : Nat) (t : List UInt8) (k m : Nat), bodyF n o c d t = some k → t.length ≤ n → CutOk m (t.take (k - 1)) := by
  intro n
  induction n with
  | zero => intro o c d t k m h; simp [bodyF] at h
  | succ n ih =>
    intro o c d t k m h hn
    have hk := (body_le _ _ _ _ _ _ h).1
    cases m with
    | zero => exact trivial
    | succ m =>
      cases t with
      | nil => simp [bodyF] at h
      | cons x r =>
        simp only [List.length_cons] at hn
        by_cases hk1 : k = 1
        · subst hk1; exact trivial
        · obtain ⟨j, rfl⟩ : ∃ j, k = j + 2 := ⟨k - 2, by omega⟩
          rw [show j + 2 - 1 = j + 1 by omega, List.take_succ_cons]
          unfold bodyF at h
          dsimp only at h
          unfold CutOk
          dsimp only
          by_cases h58 : x = 58
          · rw [if_pos h58]; trivial
          · rw [if_neg h58]
            by_cases h36 : x = 36
            · rw [if_pos h36] at h ⊢
              subst h36
              cases r with
              | nil => cases h
              | cons y r2 =>
                dsimp only at h
                simp only [List.length_cons] at hn
                by_cases hy : clo y = 0
                · rw [if_pos hy] at h
                  obtain ⟨k1, h1, e1⟩ := Option.map_eq_some_iff.1 h
                  have hk1b := (body_le _ _ _ _ _ _ h1).1
                  obtain ⟨i, rfl⟩ : ∃ i, j = i + 1 := ⟨j - 1, by omega⟩
                  have he : endN (36 :: (y :: r2).take (i + 1)) = some 2 := by rw [List.take_succ_cons]; unfold endN; dsimp only; rw [if_pos hy]
                  rw [he]
                  dsimp only
                  rw [List.take_succ_cons, List.drop_succ_cons, List.drop_succ_cons, List.drop_zero, show i = k1 - 1 by omega]
                  exact ih _ _ _ _ _ m h1 (by omega)
                · rw [if_neg hy] at h
                  cases h0 : bodyF n y (clo y) 0 r2 with
                  | none => rw [h0] at h; cases h
                  | some k0 =>
                    rw [h0] at h
                    dsimp only at h
                    obtain ⟨k1, h1, e1⟩ := Option.map_eq_some_iff.1 h
                    have hk1b := (body_le _ _ _ _ _ _ h1).1
                    have hk0 := body_le _ _ _ _ _ _ h0
                    obtain ⟨i, rfl⟩ : ∃ i, j = i + 1 := ⟨j - 1, by omega⟩
                    have hb0 : bodyF r2.length y (clo y) 0 r2 = some k0 := by rw [body_fuel r2.length n _ _ _ _ (Nat.le_refl _) (by omega)]; exact h0
                    have he0 := end_take (m := i + 2) (end_cons hy hb0) (by omega) (by omega)
                    rw [List.take_succ_cons] at he0
                    rw [he0]
                    dsimp only
                    rw [List.take_succ_cons, List.drop_succ_cons, List.drop_succ_cons, List.drop_take, show i - k0 = k1 - 1 by omega]
                    exact ih _ _ _ _ _ m h1 (by rw [List.length_drop]; omega)
            · rw [if_neg h36] at h ⊢
              have hrest : ∀ d', (bodyF n o c d' r).map (· + 1) = some (j + 2) → CutOk m (r.take j) := by
                intro d' h'
                obtain ⟨k1, h1, e1⟩ := Option.map_eq_some_iff.1 h'
                rw [show j = k1 - 1 by omega]
                exact ih _ _ _ _ _ m h1 (by omega)
              by_cases ho : x = o
              · rw [if_pos ho] at h; exact hrest _ h
              · rw [if_neg ho] at h
                by_cases hc : x = c
                · rw [if_pos hc] at h
                  by_cases hd : d = 0
                  · rw [if_pos hd] at h; cases h
                  · rw [if_neg hd] at h; exact hrest _ h
                · rw [if_neg hc] at h; exact hrest _ h
end Go.Proofs.YtbciedpjaajhcaaDoor.Ex
