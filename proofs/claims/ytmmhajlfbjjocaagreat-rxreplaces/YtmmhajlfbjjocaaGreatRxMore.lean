import Derived.Test.YtmmhajlfbjjocaaGreatRxRead
/-
  What is read is read alike with a bracket behind it, and one bracket deeper, if that is not too deep. Plain mathematics.
-/
namespace RxSem

theorem setL_eq (c : UInt8) (t : List UInt8) (first : Bool) (f : UInt8 → Bool) : setL (c :: t) first f = if c = 93 ∧ first = false then .inl (f, t)
    else match t with
      | 45 :: h :: t' => if h = 93 then setL (45 :: h :: t') false (fun x => f x || x == c) else if h < c then .inr (3, t'.length + 2) else setL t' false (range f c h)
      | t => setL t false (fun x => f x || x == c) := by
  rw [setL.eq_def]; rfl
theorem setL_nil (first : Bool) (f : UInt8 → Bool) : setL [] first f = .inr (4, 0) := by rw [setL.eq_def]
theorem setL_stop {c : UInt8} {first : Bool} (h : c = 93 ∧ first = false) (t : List UInt8) (f : UInt8 → Bool) : setL (c :: t) first f = .inl (f, t) := by rw [setL_eq, if_pos h]
theorem setL_byte {c a : UInt8} {first : Bool} (h : ¬ (c = 93 ∧ first = false)) (ha : a ≠ 45) (t : List UInt8) (f : UInt8 → Bool) : setL (c :: a :: t) first f = setL (a :: t) false (fun x => f x || x == c) := by
  rw [setL_eq, if_neg h]
  split
  · rename_i heq; simp at heq; exact absurd heq.1 ha
  · rfl
theorem setL_last {c : UInt8} {first : Bool} (h : ¬ (c = 93 ∧ first = false)) (f : UInt8 → Bool) : setL [c] first f = .inr (4, 0) := by
  rw [setL_eq, if_neg h]; exact setL_nil _ _
theorem setL_dash {c : UInt8} {first : Bool} (h : ¬ (c = 93 ∧ first = false)) (f : UInt8 → Bool) : setL [c, 45] first f = .inr (4, 0) := by
  rw [setL_eq, if_neg h]; exact setL_last (by simp) _
theorem setL_range {c d : UInt8} {first : Bool} (h : ¬ (c = 93 ∧ first = false)) (t : List UInt8) (f : UInt8 → Bool) : setL (c :: 45 :: d :: t) first f = if d = 93 then setL (45 :: d :: t) false (fun x => f x || x == c) else if d < c then .inr (3, t.length + 2) else setL t false (range f c d) := by
  rw [setL_eq, if_neg h]; rfl
theorem setL_more (e : List UInt8) : ∀ (m : Nat) (r : List UInt8) (first : Bool) (f g : UInt8 → Bool) (rest : List UInt8), r.length ≤ m → setL r first f = .inl (g, rest) → setL (r ++ e) first f = .inl (g, rest ++ e) := by
  intro m
  induction m with
  | zero =>
    intro r first f g rest hm h
    have : r = [] := List.length_eq_zero_iff.1 (by omega)
    subst this
    rw [setL_nil] at h; cases h
  | succ m ih =>
    intro r first f g rest hm h
    cases r with
    | nil => rw [setL_nil] at h; cases h
    | cons c t =>
      simp only [List.length_cons] at hm
      rw [List.cons_append]
      by_cases hc : c = 93 ∧ first = false
      · rw [setL_stop hc] at h ⊢
        simp only [Sum.inl.injEq, Prod.mk.injEq] at h ⊢
        exact ⟨h.1, by rw [h.2]⟩
      · cases t with
        | nil => rw [setL_last hc] at h; cases h
        | cons a t =>
          simp only [List.length_cons] at hm
          rw [List.cons_append]
          by_cases ha : a = 45
          · subst ha
            cases t with
            | nil => rw [setL_dash hc] at h; cases h
            | cons d t =>
              simp only [List.length_cons] at hm
              rw [List.cons_append]
              rw [setL_range hc] at h ⊢
              by_cases hd : d = 93
              · rw [if_pos hd] at h ⊢
                have := ih (45 :: d :: t) false _ g rest (by simp; omega) h
                simpa using this
              · rw [if_neg hd] at h ⊢
                by_cases hl : d < c
                · rw [if_pos hl] at h; cases h
                · rw [if_neg hl] at h ⊢
                  exact ih t false _ g rest (by omega) h
          · rw [setL_byte hc ha] at h ⊢
            have := ih (a :: t) false _ g rest (by simp; omega) h
            simpa using this
theorem setR_more {r rest e : List UInt8} {l : List Nd} (h : setR r = .ok l rest) : setR (r ++ e) = .ok l (rest ++ e) := by
  cases r with
  | nil => simp [setR, setL] at h
  | cons c t =>
    by_cases hc : c = 94
    · subst hc
      simp only [setR, List.cons_append] at h ⊢
      cases hs : setL t true (fun _ => false) with
      | inr x => rw [hs] at h; cases h
      | inl x =>
        obtain ⟨g, r'⟩ := x
        rw [hs] at h
        rw [setL_more e _ t true _ g r' (Nat.le_refl _) hs]
        simp only [Res.ok.injEq] at h ⊢
        exact ⟨h.1, by rw [h.2]⟩
    · have e1 : ∀ u, setR (c :: u) = match setL (c :: u) true (fun _ => false) with | .inl (f, r) => .ok [.set f] r | .inr (w, l) => .bad w l := fun u => by
        rw [setR]
        · rfl
        · intro t' heq; simp at heq; exact hc heq.1
      rw [List.cons_append, e1]
      rw [e1] at h
      cases hs : setL (c :: t) true (fun _ => false) with
      | inr x => rw [hs] at h; cases h
      | inl x =>
        obtain ⟨g, r'⟩ := x
        rw [hs] at h
        have := setL_more e _ (c :: t) true _ g r' (Nat.le_refl _) hs
        rw [List.cons_append] at this
        rw [this]
        simp only [Res.ok.injEq] at h ⊢
        exact ⟨h.1, by rw [h.2]⟩
theorem post_more (n : Nd) (r e : List UInt8) : post n (r ++ 41 :: e) = ((post n r).1, (post n r).2 ++ 41 :: e) := by
  cases r with
  | nil => rfl
  | cons c t =>
    rw [List.cons_append]
    by_cases h1 : c = 42
    · subst h1; rfl
    · by_cases h2 : c = 43
      · subst h2; rfl
      · by_cases h3 : c = 63
        · subst h3; rfl
        · have k : ∀ u, post n (c :: u) = (n, c :: u) := fun u => by
            rw [post]
            · intro t h; simp at h; exact h1 h.1
            · intro t h; simp at h; exact h2 h.1
            · intro t h; simp at h; exact h3 h.1
          rw [k, k, List.cons_append]
theorem stops_more (r e : List UInt8) : stops (r ++ 41 :: e) = stops r := by
  cases r with
  | nil => rfl
  | cons c t => rfl
/-- With a bracket behind it. -/
theorem P.more {g : Tag} {o : Nat} {r rest : List UInt8} {l : List Nd} {a : Res} (h : P g o r a) (ha : a = .ok l rest) (e : List UInt8) : P g o (r ++ 41 :: e) (.ok l (rest ++ 41 :: e)) := by
  induction h generalizing l rest with
  | rep => cases ha
  | dot o t => cases ha; exact .dot ..
  | bol o t => cases ha; exact .bol ..
  | eol o t => cases ha; exact .eol ..
  | deep => cases ha
  | inBad => cases ha
  | inEnd => cases ha
  | group o t r k h h1 ih => cases ha; exact .group o _ _ k h (ih rfl)
  | set o t =>
    have := P.set o (t ++ 41 :: e)
    rw [setR_more ha] at this
    exact this
  | esc o c t => cases ha; exact .esc ..
  | escEnd => cases ha
  | byte o c t h => cases ha; exact .byte _ _ _ h
  | wayEnd o r h => cases ha; exact .wayEnd _ _ (by rw [stops_more]; exact h)
  | wayBad => cases ha
  | wayNext o r r1 r2 n k h h1 h2 ih1 ih2 =>
    cases ha
    have h3 := ih1 rfl
    have h4 := ih2 rfl
    have hp := post_more n r1 e
    have := P.wayNext o (r ++ 41 :: e) (r1 ++ 41 :: e) (r2 ++ 41 :: e) n k (by rw [stops_more]; exact h) h3 (by rw [hp]; exact h4)
    rw [hp] at this
    exact this
  | wayLater => cases ha
  | waysBad => cases ha
  | waysOne o r r1 k h1 h2 ih =>
    cases ha
    refine .waysOne _ _ _ _ (ih rfl) ?_
    cases r1 with
    | nil => simp
    | cons c t => simpa using h2
  | waysNext o r r1 r2 k m h1 h2 ih1 ih2 => cases ha; exact .waysNext _ _ _ _ _ _ (ih1 rfl) (ih2 rfl)
  | waysLater => cases ha
/-- One bracket deeper: the same, or too deep. -/
theorem P.deeper {g : Tag} {o : Nat} {r : List UInt8} {a : Res} (h : P g o r a) : P g (o + 1) r a ∨ ∃ left, P g (o + 1) r (.bad 5 left) := by
  induction h with
  | rep o c t h => exact .inl (.rep _ _ _ h)
  | dot o t => exact .inl (.dot ..)
  | bol o t => exact .inl (.bol ..)
  | eol o t => exact .inl (.eol ..)
  | deep o t h => exact .inl (.deep _ _ (by omega))
  | inBad o t w l h h1 ih =>
    by_cases ho : o + 1 < 16
    · rcases ih with ih | ⟨x, ih⟩
      · exact .inl (.inBad _ _ _ _ ho ih)
      · exact .inr ⟨x, .inBad _ _ _ _ ho ih⟩
    · exact .inr ⟨_, .deep _ _ (by omega)⟩
  | inEnd o t k h h1 ih =>
    by_cases ho : o + 1 < 16
    · rcases ih with ih | ⟨x, ih⟩
      · exact .inl (.inEnd _ _ _ ho ih)
      · exact .inr ⟨x, .inBad _ _ _ _ ho ih⟩
    · exact .inr ⟨_, .deep _ _ (by omega)⟩
  | group o t r k h h1 ih =>
    by_cases ho : o + 1 < 16
    · rcases ih with ih | ⟨x, ih⟩
      · exact .inl (.group _ _ _ _ ho ih)
      · exact .inr ⟨x, .inBad _ _ _ _ ho ih⟩
    · exact .inr ⟨_, .deep _ _ (by omega)⟩
  | set o t => exact .inl (.set ..)
  | esc o c t => exact .inl (.esc ..)
  | escEnd o => exact .inl (.escEnd _)
  | byte o c t h => exact .inl (.byte _ _ _ h)
  | wayEnd o r h => exact .inl (.wayEnd _ _ h)
  | wayBad o r w l h h1 ih =>
    rcases ih with ih | ⟨x, ih⟩
    · exact .inl (.wayBad _ _ _ _ h ih)
    · exact .inr ⟨x, .wayBad _ _ _ _ h ih⟩
  | wayNext o r r1 r2 n k h h1 h2 ih1 ih2 =>
    rcases ih1 with ih1 | ⟨x, ih1⟩
    · rcases ih2 with ih2 | ⟨x, ih2⟩
      · exact .inl (.wayNext _ _ _ _ _ _ h ih1 ih2)
      · exact .inr ⟨x, .wayLater _ _ _ _ _ _ h ih1 ih2⟩
    · exact .inr ⟨x, .wayBad _ _ _ _ h ih1⟩
  | wayLater o r r1 n w l h h1 h2 ih1 ih2 =>
    rcases ih1 with ih1 | ⟨x, ih1⟩
    · rcases ih2 with ih2 | ⟨x, ih2⟩
      · exact .inl (.wayLater _ _ _ _ _ _ h ih1 ih2)
      · exact .inr ⟨x, .wayLater _ _ _ _ _ _ h ih1 ih2⟩
    · exact .inr ⟨x, .wayBad _ _ _ _ h ih1⟩
  | waysBad o r w l h1 ih =>
    rcases ih with ih | ⟨x, ih⟩
    · exact .inl (.waysBad _ _ _ _ ih)
    · exact .inr ⟨x, .waysBad _ _ _ _ ih⟩
  | waysOne o r r1 k h1 h2 ih =>
    rcases ih with ih | ⟨x, ih⟩
    · exact .inl (.waysOne _ _ _ _ ih h2)
    · exact .inr ⟨x, .waysBad _ _ _ _ ih⟩
  | waysNext o r r1 r2 k m h1 h2 ih1 ih2 =>
    rcases ih1 with ih1 | ⟨x, ih1⟩
    · rcases ih2 with ih2 | ⟨x, ih2⟩
      · exact .inl (.waysNext _ _ _ _ _ _ ih1 ih2)
      · exact .inr ⟨x, .waysLater _ _ _ _ _ _ ih1 ih2⟩
    · exact .inr ⟨x, .waysBad _ _ _ _ ih1⟩
  | waysLater o r r1 k w l h1 h2 ih1 ih2 =>
    rcases ih1 with ih1 | ⟨x, ih1⟩
    · rcases ih2 with ih2 | ⟨x, ih2⟩
      · exact .inl (.waysLater _ _ _ _ _ _ ih1 ih2)
      · exact .inr ⟨x, .waysLater _ _ _ _ _ _ ih1 ih2⟩
    · exact .inr ⟨x, .waysBad _ _ _ _ ih1⟩
/-- A quoted text is read byte behind byte. -/
def special (c : UInt8) : Bool := c == 46 || c == 94 || c == 36 || c == 42 || c == 43 || c == 63 || c == 124 || c == 40 || c == 41 || c == 91 || c == 93 || c == 92
def quote : List UInt8 → List UInt8
  | [] => []
  | c :: t => if special c then 92 :: c :: quote t else c :: quote t
theorem post_quote (n : Nd) (t : List UInt8) : post n (quote t) = (n, quote t) := by
  cases t with
  | nil => rfl
  | cons c t =>
    unfold quote
    split
    · rfl
    · rename_i h
      rw [post]
      all_goals
        intro u hu
        simp at hu
        rw [hu.1] at h
        simp [special] at h
theorem quote_way (o : Nat) (t : List UInt8) : P .way o (quote t) (.ok (t.map one) []) := by
  induction t with
  | nil => exact .wayEnd _ _ rfl
  | cons c t ih =>
    have hp := post_quote (one c) t
    unfold quote
    by_cases hs : special c = true
    · rw [if_pos hs]
      have := P.wayNext o (92 :: c :: quote t) (quote t) [] (one c) (t.map one) rfl (.esc ..) (by rw [hp]; exact ih)
      rw [hp] at this; exact this
    · rw [if_neg hs]
      have h1 : stops (c :: quote t) = false := by
        cases h : stops (c :: quote t) with
        | false => rfl
        | true => simp [stops] at h; simp [special] at hs; rcases h with h | h <;> simp [h] at hs
      have h2 : plain c = true := by
        cases h : plain c with
        | true => rfl
        | false => simp [plain] at h; simp [special] at hs; simp_all
      have := P.wayNext o (c :: quote t) (quote t) [] (one c) (t.map one) h1 (.byte _ _ _ h2) (by rw [hp]; exact ih)
      rw [hp] at this; exact this
end RxSem
