import Derived.Test.YtmmhajlfbjjocaaGreatRxFind
/-
  What the laws ask of expressions: an expression without ^ and $ asks for no place; what is first of a few texts. Plain mathematics.
-/
namespace RxSem

theorem setL_sub : ∀ (m : Nat) (r : List UInt8) (first : Bool) (f g : UInt8 → Bool) (rest : List UInt8), r.length ≤ m → setL r first f = .inl (g, rest) → ∀ x ∈ rest, x ∈ r := by
  intro m
  induction m with
  | zero =>
    intro r first f g rest hm h
    have : r = [] := List.length_eq_zero_iff.1 (by omega)
    subst this
    rw [setL_nil] at h; cases h
  | succ m ih =>
    intro r first f g rest hm h
    cases r with
    | nil => rw [setL_nil] at h; cases h
    | cons c t =>
      simp only [List.length_cons] at hm
      by_cases hc : c = 93 ∧ first = false
      · rw [setL_stop hc] at h
        simp only [Sum.inl.injEq, Prod.mk.injEq] at h
        intro x hx
        rw [h.2]
        exact List.mem_cons_of_mem _ hx
      · cases t with
        | nil => rw [setL_last hc] at h; cases h
        | cons a t =>
          simp only [List.length_cons] at hm
          by_cases ha : a = 45
          · subst ha
            cases t with
            | nil => rw [setL_dash hc] at h; cases h
            | cons d t =>
              simp only [List.length_cons] at hm
              rw [setL_range hc] at h
              by_cases hd : d = 93
              · rw [if_pos hd] at h
                intro x hx
                exact List.mem_cons_of_mem _ (ih (45 :: d :: t) false _ g rest (by simp; omega) h x hx)
              · rw [if_neg hd] at h
                by_cases hl : d < c
                · rw [if_pos hl] at h; cases h
                · rw [if_neg hl] at h
                  intro x hx
                  exact List.mem_cons_of_mem _ (List.mem_cons_of_mem _ (List.mem_cons_of_mem _ (ih t false _ g rest (by omega) h x hx)))
          · rw [setL_byte hc ha] at h
            intro x hx
            exact List.mem_cons_of_mem _ (ih (a :: t) false _ g rest (by simp; omega) h x hx)
theorem setR_sub {r rest : List UInt8} {l : List Nd} (h : setR r = .ok l rest) : freeL l = true ∧ ∀ x ∈ rest, x ∈ r := by
  unfold setR at h
  split at h
  · split at h
    · rename_i heq
      cases h
      exact ⟨rfl, fun x hx => List.mem_cons_of_mem _ (setL_sub _ _ _ _ _ _ (Nat.le_refl _) heq x hx)⟩
    · cases h
  · split at h
    · rename_i heq
      cases h
      exact ⟨rfl, fun x hx => setL_sub _ _ _ _ _ _ (Nat.le_refl _) heq x hx⟩
    · cases h
theorem post_free (n : Nd) (r : List UInt8) (h : free n = true) : free (post n r).1 = true ∧ ∀ x ∈ (post n r).2, x ∈ r := by
  unfold post
  split
  · exact ⟨by simpa [free] using h, fun x hx => List.mem_cons_of_mem _ hx⟩
  · exact ⟨by simpa [free] using h, fun x hx => List.mem_cons_of_mem _ hx⟩
  · exact ⟨by simpa [free] using h, fun x hx => List.mem_cons_of_mem _ hx⟩
  · exact ⟨h, fun x hx => hx⟩
/-- An expression that has no ^ and no $ asks for no place. -/
theorem P.free {g : Tag} {o : Nat} {r : List UInt8} {a : Res} (h : P g o r a) : (∀ x ∈ r, x ≠ 94 ∧ x ≠ 36) → ∀ l rest, a = .ok l rest → freeL l = true ∧ ∀ x ∈ rest, x ∈ r := by
  induction h with
  | rep => intro _ l rest e; cases e
  | dot o t => intro _ l rest e; cases e; exact ⟨rfl, fun x hx => List.mem_cons_of_mem _ hx⟩
  | bol o t => intro hr; exact absurd rfl (hr 94 List.mem_cons_self).1
  | eol o t => intro hr; exact absurd rfl (hr 36 List.mem_cons_self).2
  | deep => intro _ l rest e; cases e
  | inBad => intro _ l rest e; cases e
  | inEnd => intro _ l rest e; cases e
  | group o t r k h h1 ih =>
    intro hr l rest e
    cases e
    obtain ⟨h2, h3⟩ := ih (fun x hx => hr x (List.mem_cons_of_mem _ hx)) k _ rfl
    exact ⟨by simp [freeL, RxSem.free, h2], fun x hx => List.mem_cons_of_mem _ (h3 x (List.mem_cons_of_mem _ hx))⟩
  | set o t =>
    intro _ l rest e
    obtain ⟨h1, h2⟩ := setR_sub e
    exact ⟨h1, fun x hx => List.mem_cons_of_mem _ (h2 x hx)⟩
  | esc o c t => intro _ l rest e; cases e; exact ⟨rfl, fun x hx => List.mem_cons_of_mem _ (List.mem_cons_of_mem _ hx)⟩
  | escEnd => intro _ l rest e; cases e
  | byte o c t h => intro _ l rest e; cases e; exact ⟨rfl, fun x hx => List.mem_cons_of_mem _ hx⟩
  | wayEnd o r h => intro _ l rest e; cases e; exact ⟨rfl, fun x hx => hx⟩
  | wayBad => intro _ l rest e; cases e
  | wayNext o r r1 r2 n k h h1 h2 ih1 ih2 =>
    intro hr l rest e
    cases e
    obtain ⟨a1, a2⟩ := ih1 hr [n] r1 rfl
    have hn : RxSem.free n = true := by simpa [freeL] using a1
    obtain ⟨b1, b2⟩ := post_free n r1 hn
    obtain ⟨c1, c2⟩ := ih2 (fun x hx => hr x (a2 x (b2 x hx))) k _ rfl
    exact ⟨by simp [freeL, b1, c1], fun x hx => a2 x (b2 x (c2 x hx))⟩
  | wayLater => intro _ l rest e; cases e
  | waysBad => intro _ l rest e; cases e
  | waysOne o r r1 k h1 h2 ih =>
    intro hr l rest e
    cases e
    obtain ⟨a1, a2⟩ := ih hr k _ rfl
    exact ⟨by simp [freeL, RxSem.free, a1], a2⟩
  | waysNext o r r1 r2 k m h1 h2 ih1 ih2 =>
    intro hr l rest e
    cases e
    obtain ⟨a1, a2⟩ := ih1 hr k _ rfl
    obtain ⟨b1, b2⟩ := ih2 (fun x hx => hr x (a2 x (List.mem_cons_of_mem _ hx))) m _ rfl
    exact ⟨by simp [freeL, RxSem.free, a1, b1], fun x hx => a2 x (List.mem_cons_of_mem _ (b2 x hx))⟩
  | waysLater => intro _ l rest e; cases e

/-- A match is told by reckoning. -/
def from1 (N i : Nat) : List Bool := (List.range (N + 1)).map fun j => j == i
theorem at_from1 (N i j : Nat) (hi : i ≤ N) : At (from1 N i) j ↔ j = i := by
  unfold At from1
  rw [List.getElem?_map]
  by_cases hj : j < N + 1
  · rw [List.getElem?_range hj]; simp
  · rw [List.getElem?_eq_none (by simp; omega)]; simp; omega
theorem M_ends (s : List UInt8) (n : Nd) (i k : Nat) (hi : i ≤ s.length) : M s n i k ↔ (ends s n (from1 s.length i))[k]? = some true := by
  have h := (ends_ok s n (from1 s.length i) (by simp [from1])).2 k
  constructor
  · intro hm
    exact h.2 ⟨i, (at_from1 _ _ _ hi).2 rfl, hm⟩
  · intro hm
    obtain ⟨j, h1, h2⟩ := h.1 hm
    rw [at_from1 _ _ _ hi] at h1
    subst h1
    exact h2
theorem LM.head {s : List UInt8} {n : Nd} {f p e : Nat} {K : List (Nat × Nat)} (h : LM s n f K) (hf : f ≤ p) (hp : p ≤ s.length) (hM : M s n p e) (hm : ∀ e', M s n p e' → e' ≤ e) (hn : ∀ p' e', f ≤ p' → p' < p → ¬ M s n p' e') : K.head? = some (p, e) := by
  have h1 := h.first
  cases K with
  | nil => exact absurd hM (h1 p e hf hp)
  | cons x K =>
    obtain ⟨q, e'⟩ := x
    obtain ⟨g1, g2, g3, g4, g5⟩ := h1
    have hq : q = p := by
      rcases Nat.lt_trichotomy q p with hh | hh | hh
      · exact absurd g3 (hn q e' g1 hh)
      · exact hh
      · exact absurd hM (g5 p e hf hh)
    subst hq
    have := g4 e hM
    have := hm e' g3
    have : e' = e := by omega
    subst this
    rfl
def ndA : List Nd := [.seq [one 97], .seq [one 97, one 98]]
def ndB : List Nd := [.seq [.plus (one 98)]]
theorem compA : Comp [97, 124, 97, 98] (.inl ndA) := by
  refine .ok _ (by simp) ?_
  refine .waysNext 0 _ [97, 98] [] [one 97] [.seq [one 97, one 98]] ?_ ?_
  · exact .wayNext 0 [97, 124, 97, 98] [124, 97, 98] [124, 97, 98] (one 97) [] rfl (.byte _ _ _ rfl) (.wayEnd _ _ rfl)
  · refine .waysOne 0 _ [] [one 97, one 98] ?_ (by simp)
    exact .wayNext 0 [97, 98] [98] [] (one 97) [one 98] rfl (.byte _ _ _ rfl) (.wayNext 0 [98] [] [] (one 98) [] rfl (.byte _ _ _ rfl) (.wayEnd _ _ rfl))
theorem compB : Comp [98, 43] (.inl ndB) := by
  refine .ok _ (by simp) ?_
  refine .waysOne 0 _ [] [.plus (one 98)] ?_ (by simp)
  exact .wayNext 0 [98, 43] [43] [] (one 98) [] rfl (.byte _ _ _ rfl) (.wayEnd _ _ rfl)
theorem headA {K : List (Nat × Nat)} (h : LM [120, 97, 98] (.alt ndA) 0 K) : K.head? = some (1, 3) := by
  refine h.head (Nat.zero_le _) (by decide) ((M_ends _ _ _ _ (by decide)).2 (by decide)) (fun e' he => M_top _ _ _ _ he (by decide)) (fun p' e' _ hp hM => ?_)
  have hp0 : p' = 0 := by omega
  subst hp0
  have h1 := M_top _ _ _ _ hM (by decide)
  rw [M_ends _ _ _ _ (by decide)] at hM
  have h2 : ∀ e' : Fin 4, ¬ (ends [120, 97, 98] (.alt ndA) (from1 3 0))[e'.val]? = some true := by decide
  exact h2 ⟨e', by simp at h1; omega⟩ hM
theorem headB {K : List (Nat × Nat)} (h : LM [97, 98, 98, 99] (.alt ndB) 0 K) : K.head? = some (1, 3) := by
  refine h.head (Nat.zero_le _) (by decide) ((M_ends _ _ _ _ (by decide)).2 (by decide)) (fun e' he => ?_) (fun p' e' _ hp hM => ?_)
  · have h1 := M_top _ _ _ _ he (by decide)
    rw [M_ends _ _ _ _ (by decide)] at he
    have h2 : ∀ e' : Fin 5, (ends [97, 98, 98, 99] (.alt ndB) (from1 4 1))[e'.val]? = some true → e'.val ≤ 3 := by decide
    exact h2 ⟨e', by simp at h1; omega⟩ he
  · have hp0 : p' = 0 := by omega
    subst hp0
    have h1 := M_top _ _ _ _ hM (by decide)
    rw [M_ends _ _ _ _ (by decide)] at hM
    have h2 : ∀ e' : Fin 5, ¬ (ends [97, 98, 98, 99] (.alt ndB) (from1 4 0))[e'.val]? = some true := by decide
    exact h2 ⟨e', by simp at h1; omega⟩ hM
theorem isB : M [98, 98] (.alt ndB) 0 2 := (M_ends _ _ _ _ (by decide)).2 (by decide)
/-- A quoted text, compiled. -/
theorem comp_quote (s : List UInt8) (h : (quote s).length ≤ 200) : Comp (quote s) (.inl [.seq (s.map one)]) :=
  .ok _ h (.waysOne _ _ _ _ (quote_way 0 s) (by simp))
theorem M_quote (s p : List UInt8) (i k : Nat) : M s (.alt [.seq (p.map one)]) i k ↔ (k = i + p.length ∧ ∀ t, t < p.length → s[i + t]? = p[t]?) := by
  rw [M_alt1, M]
  exact MS_bytes s p i k
/-- Either it is made, or it is too deep. -/
theorem comp_or {p q : List UInt8} {k m : List Nd} (hp : Comp p (.inl k)) (hq : Comp q (.inl m)) (hl : p.length + q.length ≤ 90) : Comp (40 :: (p ++ 41 :: 124 :: 40 :: (q ++ [41]))) (.inl [.seq [.alt k], .seq [.alt m]]) ∨ ∃ a, Comp (40 :: (p ++ 41 :: 124 :: 40 :: (q ++ [41]))) (.inr (5, a)) := by
  have hlen : (40 :: (p ++ 41 :: 124 :: 40 :: (q ++ [41]))).length ≤ 200 := by simp; omega
  cases hp with
  | ok _ _ hp =>
    cases hq with
    | ok _ _ hq =>
      rcases hp.deeper with h1 | ⟨l, h1⟩
      · rcases hq.deeper with h2 | ⟨l, h2⟩
        · exact .inl (.ok _ hlen (read_or h1 h2))
        · obtain ⟨x, hx⟩ := read_deep h2 []
          have a1 : P .way 0 (40 :: (p ++ 41 :: 124 :: 40 :: (q ++ [41]))) (.ok [.alt k] (124 :: 40 :: (q ++ [41]))) :=
            .wayNext 0 _ (124 :: 40 :: (q ++ [41])) _ (.alt k) [] rfl (group_thing (by omega) h1 _) (.wayEnd _ _ rfl)
          exact .inr ⟨_, .bad _ _ hlen (.waysLater _ _ _ _ _ _ a1 hx)⟩
      · obtain ⟨x, hx⟩ := read_deep h1 (124 :: 40 :: (q ++ [41]))
        exact .inr ⟨_, .bad _ _ hlen hx⟩
theorem comp_plus {p : List UInt8} {k : List Nd} (hp : Comp p (.inl k)) (hl : p.length ≤ 90) : (Comp (40 :: (p ++ [41, 43])) (.inl [.seq [.plus (.alt k)]]) ∧ Comp (40 :: (p ++ 41 :: 40 :: (p ++ [41, 42]))) (.inl [.seq [.alt k, .star (.alt k)]])) ∨ ((∃ a, Comp (40 :: (p ++ [41, 43])) (.inr (5, a))) ∧ ∃ a, Comp (40 :: (p ++ 41 :: 40 :: (p ++ [41, 42]))) (.inr (5, a))) := by
  have hl1 : (40 :: (p ++ [41, 43])).length ≤ 200 := by simp; omega
  have hl2 : (40 :: (p ++ 41 :: 40 :: (p ++ [41, 42]))).length ≤ 200 := by simp; omega
  cases hp with
  | ok _ _ hp =>
    rcases hp.deeper with h1 | ⟨l, h1⟩
    · exact .inl ⟨.ok _ hl1 (read_plus h1), .ok _ hl2 (read_star h1)⟩
    · obtain ⟨x, hx⟩ := read_deep h1 [43]
      obtain ⟨y, hy⟩ := read_deep h1 (40 :: (p ++ [41, 42]))
      exact .inr ⟨⟨_, .bad _ _ hl1 hx⟩, ⟨_, .bad _ _ hl2 hy⟩⟩
theorem comp_free {p : List UInt8} {k : List Nd} (hp : Comp p (.inl k)) (h : ∀ x ∈ p, x ≠ 94 ∧ x ≠ 36) : RxSem.free (.alt k) = true := by
  cases hp with
  | ok _ _ hp => exact (hp.free h k [] rfl).1
end RxSem
