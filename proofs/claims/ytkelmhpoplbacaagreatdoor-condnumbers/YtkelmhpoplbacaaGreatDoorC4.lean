/-
  What the document's until does.
-/
import Derived.Test.YtkelmhpoplbacaaGreatDoorC3
namespace Go.Proofs.YtkelmhpoplbacaaGreatDoor.Cd
open Go.RowKit Go.Shelf Ex

/-- The first of some bytes that no use takes: (true, its place, or the length), or (false, the place of a use that does not end). -/
def untilF (st : List UInt8) : Nat → List UInt8 → Nat → Bool × Nat
  | 0, _, i => (true, i)
  | n + 1, t, i => match t with
    | [] => (true, i)
    | x :: r => if st.contains x then (true, i) else if x = 36 then (match endN (x :: r) with
      | none => (false, i)
      | some k => untilF st n ((x :: r).drop k) (i + k)) else untilF st n r (i + 1)
theorem until_fuel (st : List UInt8) : ∀ (n m : Nat) (t : List UInt8) (i : Nat), t.length ≤ n → t.length ≤ m → untilF st n t i = untilF st m t i := by
  intro n
  induction n with
  | zero => intro m t i h1 h2; cases t with
    | nil => cases m <;> rfl
    | cons x r => simp at h1
  | succ n ih =>
    intro m t i h1 h2
    cases t with
    | nil => cases m <;> rfl
    | cons x r =>
      cases m with
      | zero => simp at h2
      | succ m =>
        simp only [List.length_cons] at h1 h2
        unfold untilF
        dsimp only
        rw [ih m r (i + 1) (by omega) (by omega)]
        cases he : endN (x :: r) with
        | none => rfl
        | some k =>
          have := end_le he
          dsimp only
          rw [ih m ((x :: r).drop k) (i + k) (by rw [List.length_drop]; simp; omega) (by rw [List.length_drop]; simp; omega)]
def untilP (T st : List UInt8) (i : Nat) : Bool × Nat := untilF st (T.drop i).length (T.drop i) i
section
variable {s : ByteArray} {st : List UInt8} {i : Nat}
theorem until_end (h : ¬ i < s.size) : untilP (bl s) st i = (true, i) := by
  unfold untilP
  rw [List.drop_of_length_le (by rw [bl_length]; omega)]; rfl
theorem until_hit (h : i < s.size) (hc : st.contains s[i] = true) : untilP (bl s) st i = (true, i) := by
  unfold untilP
  rw [drop_at s i h, List.length_cons, untilF.eq_def]
  dsimp only
  rw [if_pos hc]
theorem until_bad (h : i < s.size) (hc : st.contains s[i] = false) (hx : s[i] = 36) (he : endN ((bl s).drop i) = none) : untilP (bl s) st i = (false, i) := by
  unfold untilP
  rw [drop_at s i h] at he ⊢
  rw [List.length_cons, untilF.eq_def]
  dsimp only
  rw [if_neg (by rw [hc]; decide), if_pos hx, he]
theorem until_use {k : Nat} (h : i < s.size) (hc : st.contains s[i] = false) (hx : s[i] = 36) (he : endN ((bl s).drop i) = some k) : untilP (bl s) st i = untilP (bl s) st (i + k) := by
  have hd : (bl s).drop (i + k) = ((bl s).drop i).drop k := by rw [List.drop_drop]
  have hk := end_le he
  unfold untilP
  rw [hd]
  rw [drop_at s i h] at he hk ⊢
  rw [List.length_cons, untilF.eq_def]
  dsimp only
  rw [if_neg (by rw [hc]; decide), if_pos hx, he]
  dsimp only
  simp only [List.length_cons] at hk
  exact until_fuel st _ _ _ _ (by rw [List.length_drop]; simp; omega) (Nat.le_refl _)
theorem until_go (h : i < s.size) (hc : st.contains s[i] = false) (hx : ¬ s[i] = 36) : untilP (bl s) st i = untilP (bl s) st (i + 1) := by
  unfold untilP
  rw [drop_at s i h, List.length_cons, untilF.eq_def]
  dsimp only
  rw [if_neg (by rw [hc]; decide), if_neg hx]
end
end Go.Proofs.YtkelmhpoplbacaaGreatDoor.Cd
