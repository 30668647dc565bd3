import Derived.Test.YtmmhajlfbjjocaaGreatRxTwo
/-
  Steps, and what they lead to: they go over a text from the end of a match back to its beginning. Plain mathematics.
-/
namespace RxSem

inductive Stp where
  | take (f : UInt8 → Bool)
  | first
  | last
  | fork (a c : Int)
  | done

def either (a c : List Stp) : List Stp := .fork 1 (a.length + 2) :: (a ++ .fork (c.length + 1) (c.length + 1) :: c)
def agn (a : List Stp) : List Stp := a ++ [.fork (-(a.length : Int)) 1]
def maybe (a : List Stp) : List Stp := .fork 1 (a.length + 1) :: a
mutual
def code : Nd → List Stp
  | .none => [.take fun _ => false]
  | .set f => [.take f]
  | .bol => [.first]
  | .eol => [.last]
  | .seq l => codeS l
  | .alt [] => [.take fun _ => false]
  | .alt (n :: l) => codeA (code n) l
  | .star n => maybe (agn (code n))
  | .plus n => agn (code n)
  | .opt n => maybe (code n)
def codeS : List Nd → List Stp
  | [] => []
  | n :: l => codeS l ++ code n
def codeA : List Stp → List Nd → List Stp
  | a, [] => a
  | a, n :: l => codeA (either a (code n)) l
end

/-- One step: to a step, at a place. -/
inductive Mv (cs : List Stp) (s : List UInt8) : Nat → Nat → Nat → Nat → Prop where
  | take {t p : Nat} {f : UInt8 → Bool} {c : UInt8} (h : cs[t]? = some (.take f)) (hc : s[p]? = some c) (hf : f c = true) : Mv cs s t (p + 1) (t + 1) p
  | first {t : Nat} (h : cs[t]? = some .first) : Mv cs s t 0 (t + 1) 0
  | last {t : Nat} (h : cs[t]? = some .last) : Mv cs s t s.length (t + 1) s.length
  | one {t t' p : Nat} {a c : Int} (h : cs[t]? = some (.fork a c)) (ht : (t' : Int) = t + a) : Mv cs s t p t' p
  | two {t t' p : Nat} {a c : Int} (h : cs[t]? = some (.fork a c)) (ht : (t' : Int) = t + c) : Mv cs s t p t' p

/-- In so many steps to the goal. -/
def Ac (cs : List Stp) (s : List UInt8) (L P0 : Nat) : Nat → Nat → Nat → Prop
  | 0, t, p => t = L ∧ p = P0
  | m + 1, t, p => ∃ t' p', Mv cs s t p t' p' ∧ Ac cs s L P0 m t' p'

def Lies (cs : List Stp) (o : Nat) (C : List Stp) : Prop := ∀ i, i < C.length → cs[o + i]? = C[i]?
theorem Lies.app {cs : List Stp} {o : Nat} {C D : List Stp} (h : Lies cs o (C ++ D)) : Lies cs o C ∧ Lies cs (o + C.length) D := by
  constructor
  · intro i hi
    rw [h i (by rw [List.length_append]; omega), List.getElem?_append_left hi]
  · intro i hi
    have := h (C.length + i) (by rw [List.length_append]; omega)
    rw [List.getElem?_append_right (by omega), Nat.add_sub_cancel_left] at this
    rw [Nat.add_assoc]; exact this
theorem Lies.head {cs : List Stp} {o : Nat} {x : Stp} {C : List Stp} (h : Lies cs o (x :: C)) : cs[o]? = some x ∧ Lies cs (o + 1) C := by
  constructor
  · have := h 0 (by simp); simpa using this
  · intro i hi
    have := h (i + 1) (by simp; omega)
    rw [show o + 1 + i = o + (i + 1) by omega, this]; simp

/-- What a piece of the steps means. -/
def Den (s : List UInt8) (C : List Stp) (R : Nat → Nat → Prop) : Prop :=
  ∀ cs o L P0, Lies cs o C → o + C.length ≤ L →
    (∀ m e, Ac cs s L P0 m o e → ∃ p m', m' ≤ m ∧ R p e ∧ Ac cs s L P0 m' (o + C.length) p) ∧
    (∀ p e, R p e → (∃ m, Ac cs s L P0 m (o + C.length) p) → ∃ m, Ac cs s L P0 m o e)
theorem Den.iff {s : List UInt8} {C : List Stp} {R R' : Nat → Nat → Prop} (h : Den s C R) (e : ∀ i k, R i k ↔ R' i k) : Den s C R' := by
  have : R = R' := by funext i k; exact propext (e i k)
  rw [← this]; exact h
theorem den_nil (s : List UInt8) : Den s [] fun i k => i = k := fun cs o L P0 _ _ =>
  ⟨fun m e h => ⟨e, m, Nat.le_refl _, rfl, h⟩, fun p e h h2 => by subst h; exact h2⟩
theorem den_take (s : List UInt8) (f : UInt8 → Bool) : Den s [.take f] fun i k => k = i + 1 ∧ ∃ c, s[i]? = some c ∧ f c = true := fun cs o L P0 hl hL => by
  have h0 := hl.head.1
  simp only [List.length_singleton] at hL ⊢
  constructor
  · intro m e h
    cases m with
    | zero => have := h.1; omega
    | succ m =>
      obtain ⟨t', p', h1, h2⟩ := h
      cases h1 with
      | take h3 hc hf => rw [h0] at h3; cases h3; exact ⟨p', m, by omega, ⟨rfl, _, hc, hf⟩, h2⟩
      | first h3 => rw [h0] at h3; cases h3
      | last h3 => rw [h0] at h3; cases h3
      | one h3 => rw [h0] at h3; cases h3
      | two h3 => rw [h0] at h3; cases h3
  · rintro p e ⟨rfl, c, hc, hf⟩ ⟨m, h⟩
    exact ⟨m + 1, _, _, .take h0 hc hf, h⟩
theorem den_first (s : List UInt8) : Den s [.first] fun i k => i = 0 ∧ k = 0 := fun cs o L P0 hl hL => by
  have h0 := hl.head.1
  simp only [List.length_singleton] at hL ⊢
  constructor
  · intro m e h
    cases m with
    | zero => have := h.1; omega
    | succ m =>
      obtain ⟨t', p', h1, h2⟩ := h
      cases h1 with
      | take h3 => rw [h0] at h3; cases h3
      | first h3 => exact ⟨0, m, by omega, ⟨rfl, rfl⟩, h2⟩
      | last h3 => rw [h0] at h3; cases h3
      | one h3 => rw [h0] at h3; cases h3
      | two h3 => rw [h0] at h3; cases h3
  · rintro p e ⟨rfl, rfl⟩ ⟨m, h⟩
    exact ⟨m + 1, _, _, .first h0, h⟩
theorem den_last (s : List UInt8) : Den s [.last] fun i k => i = s.length ∧ k = s.length := fun cs o L P0 hl hL => by
  have h0 := hl.head.1
  simp only [List.length_singleton] at hL ⊢
  constructor
  · intro m e h
    cases m with
    | zero => have := h.1; omega
    | succ m =>
      obtain ⟨t', p', h1, h2⟩ := h
      cases h1 with
      | take h3 => rw [h0] at h3; cases h3
      | first h3 => rw [h0] at h3; cases h3
      | last h3 => exact ⟨s.length, m, by omega, ⟨rfl, rfl⟩, h2⟩
      | one h3 => rw [h0] at h3; cases h3
      | two h3 => rw [h0] at h3; cases h3
  · rintro p e ⟨rfl, rfl⟩ ⟨m, h⟩
    exact ⟨m + 1, _, _, .last h0, h⟩
theorem ac_fork {cs : List Stp} {s : List UInt8} {L P0 o : Nat} {a c : Int} (h0 : cs[o]? = some (.fork a c)) (hL : o < L) {m e : Nat} (h : Ac cs s L P0 m o e) : ∃ (t' m' : Nat), m = m' + 1 ∧ ((t' : Int) = o + a ∨ (t' : Int) = o + c) ∧ Ac cs s L P0 m' t' e := by
  cases m with
  | zero => have := h.1; omega
  | succ m =>
    obtain ⟨t', p', h1, h2⟩ := h
    cases h1 with
    | take h3 => rw [h0] at h3; cases h3
    | first h3 => rw [h0] at h3; cases h3
    | last h3 => rw [h0] at h3; cases h3
    | one h3 ht => rw [h0] at h3; cases h3; exact ⟨t', m, rfl, .inl ht, h2⟩
    | two h3 ht => rw [h0] at h3; cases h3; exact ⟨t', m, rfl, .inr ht, h2⟩
/-- One behind the other: what comes later in the text first. -/
theorem den_app {s : List UInt8} {C D : List Stp} {R Q : Nat → Nat → Prop} (hC : Den s C R) (hD : Den s D Q) : Den s (C ++ D) fun i k => ∃ j, Q i j ∧ R j k := fun cs o L P0 hl hL => by
  obtain ⟨h1, h2⟩ := hl.app
  rw [List.length_append] at hL ⊢
  obtain ⟨c1, c2⟩ := hC cs o L P0 h1 (by omega)
  obtain ⟨d1, d2⟩ := hD cs (o + C.length) L P0 h2 (by omega)
  rw [← Nat.add_assoc]
  constructor
  · intro m e h
    obtain ⟨p, m1, a1, a2, a3⟩ := c1 m e h
    obtain ⟨q, m2, b1, b2, b3⟩ := d1 m1 p a3
    exact ⟨q, m2, by omega, ⟨p, b2, a2⟩, b3⟩
  · rintro p e ⟨j, a1, a2⟩ h
    exact c2 j e a2 (d2 p j a1 h)
theorem den_maybe {s : List UInt8} {C : List Stp} {R : Nat → Nat → Prop} (hC : Den s C R) : Den s (maybe C) fun i k => i = k ∨ R i k := fun cs o L P0 hl hL => by
  unfold maybe at hl hL ⊢
  obtain ⟨h1, h2⟩ := hl.head
  simp only [List.length_cons] at hL ⊢
  obtain ⟨c1, c2⟩ := hC cs (o + 1) L P0 h2 (by omega)
  have e1 : o + (C.length + 1) = o + 1 + C.length := by omega
  rw [e1]
  constructor
  · intro m e h
    obtain ⟨t, m1, rfl, ht, h3⟩ := ac_fork h1 (by omega) h
    rcases ht with ht | ht
    · have : t = o + 1 := by omega
      subst this
      obtain ⟨p, m2, a1, a2, a3⟩ := c1 _ e h3
      exact ⟨p, m2, by omega, .inr a2, a3⟩
    · have : t = o + 1 + C.length := by omega
      subst this
      exact ⟨e, m1, by omega, .inl rfl, h3⟩
  · rintro p e (rfl | hr) h
    · obtain ⟨m, h⟩ := h
      exact ⟨m + 1, _, _, .two h1 (by omega), h⟩
    · obtain ⟨m, h⟩ := c2 p e hr h
      exact ⟨m + 1, _, _, .one h1 (by omega), h⟩
theorem Star.snoc {R : Nat → Nat → Prop} {i j k : Nat} (h : Star R i j) (h2 : R j k) : Star R i k := h.trans (.one h2)
theorem den_agn {s : List UInt8} {C : List Stp} {R : Nat → Nat → Prop} (hC : Den s C R) : Den s (agn C) fun i k => ∃ j, R i j ∧ Star R j k := fun cs o L P0 hl hL => by
  unfold agn at hl hL ⊢
  obtain ⟨h1, h2⟩ := hl.app
  have h0 := h2.head.1
  simp only [List.length_append, List.length_singleton] at hL ⊢
  obtain ⟨c1, c2⟩ := hC cs o L P0 h1 (by omega)
  rw [← Nat.add_assoc] at hL ⊢
  constructor
  · intro m
    induction m using Nat.strongRecOn with
    | ind m ih =>
      intro e h
      obtain ⟨p, m1, a1, a2, a3⟩ := c1 m e h
      obtain ⟨t, m2, rfl, ht, h3⟩ := ac_fork h0 (by omega) a3
      rcases ht with ht | ht
      · have : t = o := by omega
        subst this
        obtain ⟨q, m3, b1, ⟨j, b2, b3⟩, b4⟩ := ih m2 (by omega) p h3
        exact ⟨q, m3, by omega, ⟨j, b2, b3.snoc a2⟩, b4⟩
      · have : t = o + C.length + 1 := by omega
        subst this
        exact ⟨p, m2, by omega, ⟨e, a2, .here e⟩, h3⟩
  · rintro p e ⟨j, a1, a2⟩ ⟨m, h⟩
    have b1 := c2 p j a1 ⟨m + 1, _, _, .two h0 (by omega), h⟩
    clear a1
    induction a2 with
    | here => exact b1
    | @step i j' k r _ ih =>
      obtain ⟨m', h'⟩ := b1
      exact ih (c2 i j' r ⟨m' + 1, _, _, .one h0 (by omega), h'⟩)
theorem den_either {s : List UInt8} {C D : List Stp} {R Q : Nat → Nat → Prop} (hC : Den s C R) (hD : Den s D Q) : Den s (either C D) fun i k => R i k ∨ Q i k := fun cs o L P0 hl hL => by
  unfold either at hl hL ⊢
  obtain ⟨h1, h2⟩ := hl.head
  obtain ⟨h3, h4⟩ := h2.app
  obtain ⟨h5, h6⟩ := h4.head
  simp only [List.length_cons, List.length_append] at hL ⊢
  obtain ⟨c1, c2⟩ := hC cs (o + 1) L P0 h3 (by omega)
  obtain ⟨d1, d2⟩ := hD cs (o + 1 + C.length + 1) L P0 h6 (by omega)
  have e1 : o + (C.length + (D.length + 1) + 1) = o + 1 + C.length + 1 + D.length := by omega
  rw [e1]
  constructor
  · intro m e h
    obtain ⟨t, m1, rfl, ht, g⟩ := ac_fork h1 (by omega) h
    rcases ht with ht | ht
    · have : t = o + 1 := by omega
      subst this
      obtain ⟨p, m2, a1, a2, a3⟩ := c1 _ e g
      obtain ⟨t, m3, rfl, ht', g'⟩ := ac_fork h5 (by omega) a3
      have : t = o + 1 + C.length + 1 + D.length := by omega
      subst this
      exact ⟨p, m3, by omega, .inl a2, g'⟩
    · have : t = o + 1 + C.length + 1 := by omega
      subst this
      obtain ⟨p, m2, a1, a2, a3⟩ := d1 _ e g
      exact ⟨p, m2, by omega, .inr a2, a3⟩
  · rintro p e (hr | hq) ⟨m, h⟩
    · obtain ⟨m', h'⟩ := c2 p e hr ⟨m + 1, _, _, .one h5 (by omega), h⟩
      exact ⟨m' + 1, _, _, .one h1 (by omega), h'⟩
    · obtain ⟨m', h'⟩ := d2 p e hq ⟨m, h⟩
      exact ⟨m' + 1, _, _, .two h1 (by omega), h'⟩
mutual
theorem den (s : List UInt8) : (n : Nd) → Den s (code n) (M s n)
  | .none => (den_take s fun _ => false).iff fun i k => by unfold M; simp
  | .set f => by unfold code; exact (den_take s f).iff fun i k => by unfold M; exact Iff.rfl
  | .bol => by unfold code; exact (den_first s).iff fun i k => by unfold M; exact Iff.rfl
  | .eol => by unfold code; exact (den_last s).iff fun i k => by unfold M; exact Iff.rfl
  | .seq l => by unfold code; exact (denS s l).iff fun i k => by rw [M]
  | .alt [] => by unfold code; exact (den_take s fun _ => false).iff fun i k => by rw [M, MA]; simp
  | .alt (n :: l) => by unfold code; exact (denA s l _ _ (den s n)).iff fun i k => by rw [M, MA]
  | .star n => by
    unfold code
    refine (den_maybe (den_agn (den s n))).iff fun i k => ?_
    rw [M]
    constructor
    · rintro (rfl | ⟨j, h1, h2⟩)
      · exact .here _
      · exact .step h1 h2
    · intro h
      cases h with
      | here => exact .inl rfl
      | step h1 h2 => exact .inr ⟨_, h1, h2⟩
  | .plus n => by unfold code; exact (den_agn (den s n)).iff fun i k => by rw [M]
  | .opt n => by unfold code; exact (den_maybe (den s n)).iff fun i k => by rw [M]
theorem denS (s : List UInt8) : (l : List Nd) → Den s (codeS l) (MS s l)
  | [] => by unfold codeS; exact (den_nil s).iff fun i k => by rw [MS]
  | n :: l => by unfold codeS; exact (den_app (denS s l) (den s n)).iff fun i k => by rw [MS]
theorem denA (s : List UInt8) : (l : List Nd) → (C : List Stp) → (R : Nat → Nat → Prop) → Den s C R → Den s (codeA C l) fun i k => R i k ∨ MA s l i k
  | [], C, R, h => by unfold codeA; exact h.iff fun i k => by rw [MA]; simp
  | n :: l, C, R, h => by
    unfold codeA
    refine (denA s l _ _ (den_either h (den s n))).iff fun i k => ?_
    rw [MA, or_assoc]
end

/-- From a place at step 0 to a step at a place. -/
inductive Rch (cs : List Stp) (s : List UInt8) (e : Nat) : Nat → Nat → Prop where
  | start : Rch cs s e 0 e
  | step {t p t' p' : Nat} (h : Rch cs s e t p) (hm : Mv cs s t p t' p') : Rch cs s e t' p'
theorem ac_rch {cs : List Stp} {s : List UInt8} {L P0 e : Nat} : ∀ {m t p}, Rch cs s e t p → Ac cs s L P0 m t p → Rch cs s e L P0 := by
  intro m
  induction m with
  | zero => intro t p h h2; obtain ⟨rfl, rfl⟩ := h2; exact h
  | succ m ih => intro t p h h2; obtain ⟨t', p', h3, h4⟩ := h2; exact ih (.step h h3) h4
theorem rch_ac {cs : List Stp} {s : List UInt8} {L P0 e : Nat} {t p : Nat} (h : Rch cs s e t p) (h2 : ∃ m, Ac cs s L P0 m t p) : ∃ m, Ac cs s L P0 m 0 e := by
  induction h with
  | start => exact h2
  | step _ hm ih => obtain ⟨m, h2⟩ := h2; exact ih ⟨m + 1, _, _, hm, h2⟩
/-- A match: from its end back to its beginning. -/
theorem rch_match (s : List UInt8) (n : Nd) (p e : Nat) : Rch (code n ++ [.done]) s e (code n).length p ↔ M s n p e := by
  have hl : Lies (code n ++ [.done]) 0 (code n) := by
    have : Lies (code n ++ [.done]) 0 (code n ++ [.done]) := fun i hi => by rw [Nat.zero_add]
    exact this.app.1
  obtain ⟨h1, h2⟩ := den s n (code n ++ [.done]) 0 (code n).length p hl (by omega)
  rw [Nat.zero_add] at h1 h2
  constructor
  · intro h
    obtain ⟨m, h3⟩ := rch_ac h ⟨0, rfl, rfl⟩
    obtain ⟨q, m', _, h4, h5⟩ := h1 m e h3
    have : q = p := by
      cases m' with
      | zero => exact h5.2
      | succ m' =>
        obtain ⟨t', p', h6, _⟩ := h5
        have hd : (code n ++ [Stp.done])[(code n).length]? = some .done := by simp
        cases h6 with
        | take h7 => rw [hd] at h7; cases h7
        | first h7 => rw [hd] at h7; cases h7
        | last h7 => rw [hd] at h7; cases h7
        | one h7 => rw [hd] at h7; cases h7
        | two h7 => rw [hd] at h7; cases h7
    rw [← this]; exact h4
  · intro h
    obtain ⟨m, h3⟩ := h2 p e h ⟨0, rfl, rfl⟩
    exact ac_rch .start h3
end RxSem
