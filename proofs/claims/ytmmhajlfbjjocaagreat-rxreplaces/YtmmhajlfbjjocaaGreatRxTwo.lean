import Derived.Test.YtmmhajlfbjjocaaGreatRxMore
/-
  Two expressions in brackets: ways, once or more, and what they lead to. Plain mathematics.
-/
namespace RxSem

theorem group_thing {o : Nat} {p : List UInt8} {k : List Nd} (ho : o < 16) (h : P .ways (o + 1) p (.ok k [])) (e : List UInt8) : P .thing o (40 :: (p ++ 41 :: e)) (.ok [.alt k] e) :=
  .group o _ e k ho (by simpa using h.more rfl e)
/-- (p)|(q) -/
theorem read_or {p q : List UInt8} {k m : List Nd} (h1 : P .ways 1 p (.ok k [])) (h2 : P .ways 1 q (.ok m [])) : P .ways 0 (40 :: (p ++ 41 :: 124 :: 40 :: (q ++ [41]))) (.ok [.seq [.alt k], .seq [.alt m]] []) := by
  have a1 : P .way 0 (40 :: (p ++ 41 :: 124 :: 40 :: (q ++ [41]))) (.ok [.alt k] (124 :: 40 :: (q ++ [41]))) :=
    .wayNext 0 _ (124 :: 40 :: (q ++ [41])) _ (.alt k) [] rfl (group_thing (by omega) h1 _) (.wayEnd _ _ rfl)
  have a2 : P .way 0 (40 :: (q ++ [41])) (.ok [.alt m] []) :=
    .wayNext 0 _ [] _ (.alt m) [] rfl (group_thing (by omega) h2 _) (.wayEnd _ _ rfl)
  exact .waysNext _ _ _ _ _ _ a1 (.waysOne _ _ _ _ a2 (by simp))
/-- (p)+ -/
theorem read_plus {p : List UInt8} {k : List Nd} (h1 : P .ways 1 p (.ok k [])) : P .ways 0 (40 :: (p ++ [41, 43])) (.ok [.seq [.plus (.alt k)]] []) :=
  .waysOne _ _ _ _ (.wayNext 0 _ [43] _ (.alt k) [] rfl (group_thing (by omega) h1 _) (.wayEnd _ _ rfl)) (by simp)
/-- (p)(p)* -/
theorem read_star {p : List UInt8} {k : List Nd} (h1 : P .ways 1 p (.ok k [])) : P .ways 0 (40 :: (p ++ 41 :: 40 :: (p ++ [41, 42]))) (.ok [.seq [.alt k, .star (.alt k)]] []) :=
  .waysOne _ _ _ _ (.wayNext 0 _ (40 :: (p ++ [41, 42])) _ (.alt k) _ rfl (group_thing (by omega) h1 _) (.wayNext 0 _ [42] _ (.alt k) [] rfl (group_thing (by omega) h1 _) (.wayEnd _ _ rfl))) (by simp)
theorem setL_why : ∀ (m : Nat) (r : List UInt8) (first : Bool) (f : UInt8 → Bool) (w l : Nat), r.length ≤ m → setL r first f = .inr (w, l) → w ≠ 5 := by
  intro m
  induction m with
  | zero =>
    intro r first f w l hm h
    have : r = [] := List.length_eq_zero_iff.1 (by omega)
    subst this
    rw [setL_nil] at h
    simp at h; omega
  | succ m ih =>
    intro r first f w l hm h
    cases r with
    | nil => rw [setL_nil] at h; simp at h; omega
    | cons c t =>
      simp only [List.length_cons] at hm
      by_cases hc : c = 93 ∧ first = false
      · rw [setL_stop hc] at h; cases h
      · cases t with
        | nil => rw [setL_last hc] at h; simp at h; omega
        | cons a t =>
          simp only [List.length_cons] at hm
          by_cases ha : a = 45
          · subst ha
            cases t with
            | nil => rw [setL_dash hc] at h; simp at h; omega
            | cons d t =>
              simp only [List.length_cons] at hm
              rw [setL_range hc] at h
              by_cases hd : d = 93
              · rw [if_pos hd] at h; exact ih _ _ _ _ _ (by simp; omega) h
              · rw [if_neg hd] at h
                by_cases hl : d < c
                · rw [if_pos hl] at h; simp at h; omega
                · rw [if_neg hl] at h; exact ih _ _ _ _ _ (by omega) h
          · rw [setL_byte hc ha] at h; exact ih _ _ _ _ _ (by simp; omega) h
theorem setR_why {r : List UInt8} {w l : Nat} (h : setR r = .bad w l) : w ≠ 5 := by
  unfold setR at h
  split at h
  · split at h
    · cases h
    · rename_i hs; cases h; exact setL_why _ _ _ _ _ _ (Nat.le_refl _) hs
  · split at h
    · cases h
    · rename_i hs; cases h; exact setL_why _ _ _ _ _ _ (Nat.le_refl _) hs
/-- What is too deep is too deep with a bracket behind it. -/
theorem P.more5 {g : Tag} {o : Nat} {r : List UInt8} {a : Res} (h : P g o r a) {left : Nat} (ha : a = .bad 5 left) (e : List UInt8) : ∃ l, P g o (r ++ 41 :: e) (.bad 5 l) := by
  induction h generalizing left with
  | rep => cases ha
  | dot => cases ha
  | bol => cases ha
  | eol => cases ha
  | deep o t h => exact ⟨_, .deep _ _ h⟩
  | inBad o t w l h h1 ih => cases ha; obtain ⟨x, hx⟩ := ih rfl; exact ⟨x, .inBad _ _ _ _ h hx⟩
  | inEnd => cases ha
  | group => cases ha
  | set o t => exact absurd rfl (setR_why ha)
  | esc => cases ha
  | escEnd => cases ha
  | byte => cases ha
  | wayEnd => cases ha
  | wayBad o r w l h h1 ih => cases ha; obtain ⟨x, hx⟩ := ih rfl; exact ⟨x, .wayBad _ _ _ _ (by rw [stops_more]; exact h) hx⟩
  | wayNext => cases ha
  | wayLater o r r1 n w l h h1 h2 ih1 ih2 =>
    cases ha
    obtain ⟨x, hx⟩ := ih2 rfl
    have hp := post_more n r1 e
    exact ⟨x, .wayLater o _ (r1 ++ 41 :: e) n _ _ (by rw [stops_more]; exact h) (h1.more rfl e) (by rw [hp]; exact hx)⟩
  | waysBad o r w l h1 ih => cases ha; obtain ⟨x, hx⟩ := ih rfl; exact ⟨x, .waysBad _ _ _ _ hx⟩
  | waysOne => cases ha
  | waysNext => cases ha
  | waysLater o r r1 k w l h1 h2 ih1 ih2 => cases ha; obtain ⟨x, hx⟩ := ih2 rfl; exact ⟨x, .waysLater _ _ _ _ _ _ (h1.more rfl e) hx⟩
/-- (p.. : too deep within p. -/
theorem read_deep {p : List UInt8} {left : Nat} (h : P .ways 1 p (.bad 5 left)) (e : List UInt8) : ∃ l, P .ways 0 (40 :: (p ++ 41 :: e)) (.bad 5 l) := by
  obtain ⟨l, h2⟩ := h.more5 rfl e
  exact ⟨l, .waysBad _ _ _ _ (.wayBad _ _ _ _ rfl (.inBad _ _ _ _ (by omega) h2))⟩
theorem M_seq1 (s : List UInt8) (n : Nd) (i k : Nat) : M s (.seq [n]) i k ↔ M s n i k := by
  rw [M, MS]
  constructor
  · rintro ⟨j, h, h2⟩
    rw [MS] at h2
    rw [← h2]; exact h
  · intro h
    exact ⟨k, h, by rw [MS]⟩
theorem M_alt2 (s : List UInt8) (a c : Nd) (i k : Nat) : M s (.alt [a, c]) i k ↔ M s a i k ∨ M s c i k := by
  conv => lhs; unfold M
  unfold MA MA MA
  simp
theorem M_alt1 (s : List UInt8) (a : Nd) (i k : Nat) : M s (.alt [a]) i k ↔ M s a i k := by
  conv => lhs; unfold M
  unfold MA MA
  simp
theorem M_or (s : List UInt8) (k m : List Nd) (i j : Nat) : M s (.alt [.seq [.alt k], .seq [.alt m]]) i j ↔ M s (.alt k) i j ∨ M s (.alt m) i j := by
  rw [M_alt2, M_seq1, M_seq1]
theorem M_plus (s : List UInt8) (k : List Nd) (i j : Nat) : M s (.alt [.seq [.plus (.alt k)]]) i j ↔ M s (.alt [.seq [.alt k, .star (.alt k)]]) i j := by
  rw [M_alt1, M_alt1, M_seq1]
  constructor
  · intro h
    rw [M] at h
    obtain ⟨x, h1, h2⟩ := h
    rw [M, MS]
    refine ⟨x, h1, ?_⟩
    rw [MS]
    refine ⟨j, ?_, by rw [MS]⟩
    rw [M]; exact h2
  · intro h
    rw [M, MS] at h
    obtain ⟨x, h1, h2⟩ := h
    rw [MS] at h2
    obtain ⟨y, h3, h4⟩ := h2
    rw [MS] at h4
    subst h4
    rw [M] at h3
    rw [M]
    exact ⟨x, h1, h3⟩
end RxSem
