import Derived.Test.YtmmhajlfbjjocaaGreatRxTotal
/-
  The matches of a text, from a place on: at each place the longest one. Plain mathematics.
-/
namespace RxSem

inductive LM (s : List UInt8) (n : Nd) : Nat → List (Nat × Nat) → Prop where
  | top : LM s n (s.length + 1) []
  | no {p : Nat} {K : List (Nat × Nat)} (h : LM s n (p + 1) K) (hp : p ≤ s.length) (hn : ∀ e, ¬ M s n p e) : LM s n p K
  | yes {p e : Nat} {K : List (Nat × Nat)} (h : LM s n (p + 1) K) (hp : p ≤ s.length) (he : M s n p e) (hm : ∀ e', M s n p e' → e' ≤ e) : LM s n p ((p, e) :: K)
theorem LM.same {s : List UInt8} {n : Nd} {p : Nat} {K K' : List (Nat × Nat)} (h : LM s n p K) (h' : LM s n p K') : K = K' := by
  induction h generalizing K' with
  | top => cases h' with
    | top => rfl
    | no _ hp => omega
    | yes _ hp => omega
  | no h hp hn ih => cases h' with
    | top => omega
    | no h2 => exact ih h2
    | yes _ _ he => exact absurd he (hn _)
  | @yes p e K h hp he hm ih => cases h' with
    | top => omega
    | no _ _ hn => exact absurd he (hn _)
    | @yes _ e2 K2 h2 _ he2 hm2 =>
      have h1 := hm e2 he2
      have h3 := hm2 e he
      have : e = e2 := by omega
      rw [ih h2, this]
/-- What is found first. -/
theorem LM.first {s : List UInt8} {n : Nd} {f : Nat} {K : List (Nat × Nat)} (h : LM s n f K) : match K with
    | [] => ∀ p e, f ≤ p → p ≤ s.length → ¬ M s n p e
    | (p, e) :: _ => f ≤ p ∧ p ≤ s.length ∧ M s n p e ∧ (∀ e', M s n p e' → e' ≤ e) ∧ ∀ p' e', f ≤ p' → p' < p → ¬ M s n p' e' := by
  induction h with
  | top => intro p e h1 h2; omega
  | @no p K h hp hn ih =>
    cases K with
    | nil =>
      intro p' e h1 h2
      by_cases e1 : p' = p
      · subst e1; exact hn e
      · exact ih p' e (by omega) h2
    | cons x K =>
      obtain ⟨q, e⟩ := x
      obtain ⟨h1, h2, h3, h4, h5⟩ := ih
      refine ⟨by omega, h2, h3, h4, fun p' e' h6 h7 => ?_⟩
      by_cases e1 : p' = p
      · subst e1; exact hn e'
      · exact h5 p' e' (by omega) h7
  | @yes p e K h hp he hm ih => exact ⟨Nat.le_refl _, hp, he, hm, fun p' e' h6 h7 => by omega⟩
/-- All of a text. -/
theorem LM.all {s : List UInt8} {n : Nd} {K : List (Nat × Nat)} (h : LM s n 0 K) : (K.head? = some (0, s.length)) ↔ M s n 0 s.length := by
  have hf := h.first
  constructor
  · intro e
    cases K with
    | nil => cases e
    | cons x K =>
      simp at e; subst e
      exact hf.2.2.1
  · intro hM
    cases K with
    | nil => exact absurd hM (hf 0 _ (Nat.le_refl _) (Nat.zero_le _))
    | cons x K =>
      obtain ⟨q, e⟩ := x
      obtain ⟨h1, h2, h3, h4, h5⟩ := hf
      have hq : q = 0 := by
        rcases Nat.eq_zero_or_pos q with h | h
        · exact h
        · exact absurd hM (h5 0 _ (Nat.le_refl _) h)
      subst hq
      have h6 := h4 _ hM
      have h7 := M_top s n 0 e h3 h2
      have : e = s.length := by omega
      simp [this]
end RxSem
