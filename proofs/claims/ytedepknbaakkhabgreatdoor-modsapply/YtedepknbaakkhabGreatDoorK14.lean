/-
  RxSem RxRead RxMore RxTwo RxCode
-/
namespace RxSem
inductive Nd where
  | none
  | set (f : UInt8 → Bool)
  | bol
  | eol
  | seq (l : List Nd)
  | alt (l : List Nd)
  | star (n : Nd)
  | plus (n : Nd)
  | opt (n : Nd)
inductive Star (R : Nat → Nat → Prop) : Nat → Nat → Prop where
  | here (i : Nat) : Star R i i
  | step {i j k : Nat} : R i j → Star R j k → Star R i k
mutual
/-- From a place to a place. -/
def M (s : List UInt8) : Nd → Nat → Nat → Prop
  | .none, _, _ => False
  | .set f, i, k => k = i + 1 ∧ ∃ c, s[i]? = some c ∧ f c = true
  | .bol, i, k => i = 0 ∧ k = 0
  | .eol, i, k => i = s.length ∧ k = s.length
  | .seq l, i, k => MS s l i k
  | .alt l, i, k => MA s l i k
  | .star n, i, k => Star (M s n) i k
  | .plus n, i, k => ∃ j, M s n i j ∧ Star (M s n) j k
  | .opt n, i, k => i = k ∨ M s n i k
def MS (s : List UInt8) : List Nd → Nat → Nat → Prop
  | [], i, k => i = k
  | n :: l, i, k => ∃ j, M s n i j ∧ MS s l j k
def MA (s : List UInt8) : List Nd → Nat → Nat → Prop
  | [], _, _ => False
  | n :: l, i, k => M s n i k ∨ MA s l i k
end
theorem Star.trans {R : Nat → Nat → Prop} {i j k : Nat} (h : Star R i j) (h2 : Star R j k) : Star R i k := by
  induction h with
  | here => exact h2
  | step a _ ih => exact .step a (ih h2)
theorem Star.one {R : Nat → Nat → Prop} {i k : Nat} (h : R i k) : Star R i k := .step h (.here k)
theorem Star.le {R : Nat → Nat → Prop} (hR : ∀ i k, R i k → i ≤ k) {i k : Nat} (h : Star R i k) : i ≤ k := by
  induction h with
  | here => exact Nat.le_refl _
  | step a _ ih => exact Nat.le_trans (hR _ _ a) ih
mutual
theorem M_le (s : List UInt8) : (n : Nd) → (i k : Nat) → M s n i k → i ≤ k
  | .none, _, _, h => by unfold M at h; exact h.elim
  | .set f, i, k, h => by unfold M at h; omega
  | .bol, i, k, h => by unfold M at h; omega
  | .eol, i, k, h => by unfold M at h; omega
  | .seq l, i, k, h => by unfold M at h; exact MS_le s l i k h
  | .alt l, i, k, h => by unfold M at h; exact MA_le s l i k h
  | .star n, i, k, h => by unfold M at h; exact h.le (M_le s n)
  | .plus n, i, k, h => by unfold M at h; obtain ⟨j, h1, h2⟩ := h; exact Nat.le_trans (M_le s n i j h1) (h2.le (M_le s n))
  | .opt n, i, k, h => by
    unfold M at h
    rcases h with h | h
    · omega
    · exact M_le s n i k h
theorem MS_le (s : List UInt8) : (l : List Nd) → (i k : Nat) → MS s l i k → i ≤ k
  | [], i, k, h => by unfold MS at h; omega
  | n :: l, i, k, h => by unfold MS at h; obtain ⟨j, h1, h2⟩ := h; exact Nat.le_trans (M_le s n i j h1) (MS_le s l j k h2)
theorem MA_le (s : List UInt8) : (l : List Nd) → (i k : Nat) → MA s l i k → i ≤ k
  | [], _, _, h => by unfold MA at h; exact h.elim
  | n :: l, i, k, h => by
    unfold MA at h
    rcases h with h | h
    · exact M_le s n i k h
    · exact MA_le s l i k h
end
mutual
theorem M_top (s : List UInt8) : (n : Nd) → (i k : Nat) → M s n i k → i ≤ s.length → k ≤ s.length
  | .none, _, _, h, _ => by unfold M at h; exact h.elim
  | .set f, i, k, h, _ => by
    unfold M at h
    obtain ⟨h1, c, h2, _⟩ := h
    have := (List.getElem?_eq_some_iff.1 h2).1
    omega
  | .bol, i, k, h, _ => by unfold M at h; omega
  | .eol, i, k, h, _ => by unfold M at h; omega
  | .seq l, i, k, h, hi => by unfold M at h; exact MS_top s l i k h hi
  | .alt l, i, k, h, hi => by unfold M at h; exact MA_top s l i k h hi
  | .star n, i, k, h, hi => by unfold M at h; exact star_top s n i k h hi
  | .plus n, i, k, h, hi => by unfold M at h; obtain ⟨j, h1, h2⟩ := h; exact star_top s n j k h2 (M_top s n i j h1 hi)
  | .opt n, i, k, h, hi => by
    unfold M at h
    rcases h with h | h
    · omega
    · exact M_top s n i k h hi
theorem star_top (s : List UInt8) : (n : Nd) → (i k : Nat) → Star (M s n) i k → i ≤ s.length → k ≤ s.length
  | n, i, k, h, hi => by
    have hM : ∀ a c, M s n a c → a ≤ s.length → c ≤ s.length := fun a c h => M_top s n a c h
    induction h with
    | here => exact hi
    | step a _ ih => exact ih (hM _ _ a hi)
theorem MS_top (s : List UInt8) : (l : List Nd) → (i k : Nat) → MS s l i k → i ≤ s.length → k ≤ s.length
  | [], i, k, h, hi => by unfold MS at h; omega
  | n :: l, i, k, h, hi => by unfold MS at h; obtain ⟨j, h1, h2⟩ := h; exact MS_top s l j k h2 (M_top s n i j h1 hi)
theorem MA_top (s : List UInt8) : (l : List Nd) → (i k : Nat) → MA s l i k → i ≤ s.length → k ≤ s.length
  | [], _, _, h, _ => by unfold MA at h; exact h.elim
  | n :: l, i, k, h, hi => by
    unfold MA at h
    rcases h with h | h
    · exact M_top s n i k h hi
    · exact MA_top s l i k h hi
end
end RxSem
namespace RxSem
inductive Res where
  | ok (l : List Nd) (rest : List UInt8)
  | bad (why left : Nat)
inductive Tag where
  | thing
  | way
  | ways
def one (c : UInt8) : Nd := .set fun x => x == c
def range (f : UInt8 → Bool) (a c : UInt8) : UInt8 → Bool := fun x => f x || (decide (a ≤ x) && decide (x ≤ c))
def setL : List UInt8 → Bool → (UInt8 → Bool) → (UInt8 → Bool) × List UInt8 ⊕ Nat × Nat
  | [], _, _ => .inr (4, 0)
  | c :: t, first, f =>
    if c = 93 ∧ first = false then .inl (f, t)
    else match t with
      | 45 :: h :: t' => if h = 93 then setL (45 :: h :: t') false (fun x => f x || x == c) else if h < c then .inr (3, t'.length + 2) else setL t' false (range f c h)
      | t => setL t false (fun x => f x || x == c)
termination_by l => l.length
decreasing_by all_goals (simp_wf <;> omega)
def setR : List UInt8 → Res
  | 94 :: t => match setL t true (fun _ => false) with
    | .inl (f, r) => .ok [.set fun x => !f x] r
    | .inr (w, l) => .bad w l
  | t => match setL t true (fun _ => false) with
    | .inl (f, r) => .ok [.set f] r
    | .inr (w, l) => .bad w l
def post : Nd → List UInt8 → Nd × List UInt8
  | n, 42 :: t => (.star n, t)
  | n, 43 :: t => (.plus n, t)
  | n, 63 :: t => (.opt n, t)
  | n, t => (n, t)
def stops : List UInt8 → Bool
  | [] => true
  | c :: _ => c == 124 || c == 41
def plain (c : UInt8) : Bool := !(c == 42 || c == 43 || c == 63 || c == 46 || c == 94 || c == 36 || c == 40 || c == 91 || c == 92)
inductive P : Tag → Nat → List UInt8 → Res → Prop where
  | rep (o : Nat) (c : UInt8) (t : List UInt8) (h : c = 42 ∨ c = 43 ∨ c = 63) : P .thing o (c :: t) (.bad 3 (t.length + 1))
  | dot (o : Nat) (t : List UInt8) : P .thing o (46 :: t) (.ok [.set fun _ => true] t)
  | bol (o : Nat) (t : List UInt8) : P .thing o (94 :: t) (.ok [.bol] t)
  | eol (o : Nat) (t : List UInt8) : P .thing o (36 :: t) (.ok [.eol] t)
  | deep (o : Nat) (t : List UInt8) (h : 16 ≤ o) : P .thing o (40 :: t) (.bad 5 (t.length + 1))
  | inBad (o : Nat) (t : List UInt8) (w l : Nat) (h : o < 16) (h1 : P .ways (o + 1) t (.bad w l)) : P .thing o (40 :: t) (.bad w l)
  | inEnd (o : Nat) (t : List UInt8) (k : List Nd) (h : o < 16) (h1 : P .ways (o + 1) t (.ok k [])) : P .thing o (40 :: t) (.bad 4 0)
  | group (o : Nat) (t r : List UInt8) (k : List Nd) (h : o < 16) (h1 : P .ways (o + 1) t (.ok k (41 :: r))) : P .thing o (40 :: t) (.ok [.alt k] r)
  | set (o : Nat) (t : List UInt8) : P .thing o (91 :: t) (setR t)
  | esc (o : Nat) (c : UInt8) (t : List UInt8) : P .thing o (92 :: c :: t) (.ok [one c] t)
  | escEnd (o : Nat) : P .thing o [92] (.bad 4 0)
  | byte (o : Nat) (c : UInt8) (t : List UInt8) (h : plain c = true) : P .thing o (c :: t) (.ok [one c] t)
  | wayEnd (o : Nat) (r : List UInt8) (h : stops r = true) : P .way o r (.ok [] r)
  | wayBad (o : Nat) (r : List UInt8) (w l : Nat) (h : stops r = false) (h1 : P .thing o r (.bad w l)) : P .way o r (.bad w l)
  | wayNext (o : Nat) (r r1 r2 : List UInt8) (n : Nd) (k : List Nd) (h : stops r = false) (h1 : P .thing o r (.ok [n] r1)) (h2 : P .way o (post n r1).2 (.ok k r2)) : P .way o r (.ok ((post n r1).1 :: k) r2)
  | wayLater (o : Nat) (r r1 : List UInt8) (n : Nd) (w l : Nat) (h : stops r = false) (h1 : P .thing o r (.ok [n] r1)) (h2 : P .way o (post n r1).2 (.bad w l)) : P .way o r (.bad w l)
  | waysBad (o : Nat) (r : List UInt8) (w l : Nat) (h1 : P .way o r (.bad w l)) : P .ways o r (.bad w l)
  | waysOne (o : Nat) (r r1 : List UInt8) (k : List Nd) (h1 : P .way o r (.ok k r1)) (h2 : r1.head? ≠ some 124) : P .ways o r (.ok [.seq k] r1)
  | waysNext (o : Nat) (r r1 r2 : List UInt8) (k m : List Nd) (h1 : P .way o r (.ok k (124 :: r1))) (h2 : P .ways o r1 (.ok m r2)) : P .ways o r (.ok (.seq k :: m) r2)
  | waysLater (o : Nat) (r r1 : List UInt8) (k : List Nd) (w l : Nat) (h1 : P .way o r (.ok k (124 :: r1))) (h2 : P .ways o r1 (.bad w l)) : P .ways o r (.bad w l)
theorem P.same {g : Tag} {o : Nat} {r : List UInt8} {a b : Res} (h : P g o r a) : P g o r b → a = b := by
  intro h'
  induction h generalizing b with
  | rep o c t h => cases h' <;> first | rfl | (simp at h; done) | (exfalso; revert h; simp; done) | (rename_i hp; exfalso; rcases h with rfl | rfl | rfl <;> simp [plain] at hp)
  | dot o t => cases h' <;> first | rfl | (rename_i hp; simp [plain] at hp; done)
  | bol o t => cases h' <;> first | rfl | (rename_i hp; simp [plain] at hp; done)
  | eol o t => cases h' <;> first | rfl | (rename_i hp; simp [plain] at hp; done)
  | deep o t h => cases h' <;> first | rfl | (exfalso; omega) | (rename_i hp; simp [plain] at hp; done)
  | inBad o t w l h h1 ih => cases h' with
    | inBad _ _ _ _ _ h2 => exact ih h2
    | inEnd _ _ _ _ h2 => cases ih h2
    | group _ _ _ _ _ h2 => cases ih h2
    | deep _ _ h2 => omega
    | rep _ _ _ h2 => simp at h2
    | byte _ _ _ h2 => simp [plain] at h2
  | inEnd o t k h h1 ih => cases h' with
    | inBad _ _ _ _ _ h2 => cases ih h2
    | inEnd _ _ _ _ h2 => rfl
    | group _ _ _ _ _ h2 => cases ih h2
    | deep _ _ h2 => omega
    | rep _ _ _ h2 => simp at h2
    | byte _ _ _ h2 => simp [plain] at h2
  | group o t r k h h1 ih => cases h' with
    | inBad _ _ _ _ _ h2 => cases ih h2
    | inEnd _ _ _ _ h2 => cases ih h2
    | group _ _ _ _ _ h2 => cases ih h2; rfl
    | deep _ _ h2 => omega
    | rep _ _ _ h2 => simp at h2
    | byte _ _ _ h2 => simp [plain] at h2
  | set o t => cases h' <;> first | rfl | (rename_i hp; simp [plain] at hp; done)
  | esc o c t => cases h' <;> first | rfl | (rename_i hp; simp [plain] at hp; done)
  | escEnd o => cases h' <;> first | rfl | (rename_i hp; simp [plain] at hp; done)
  | byte o c t h => cases h' <;> first | rfl | (simp [plain] at h; done) | (rename_i hp; rcases hp with rfl | rfl | rfl <;> simp [plain] at h)
  | wayEnd o r h => cases h' <;> first | rfl | (rename_i hp _; rw [h] at hp; cases hp) | (rename_i hp _ _; rw [h] at hp; cases hp)
  | wayBad o r w l h h1 ih => cases h' with
    | wayEnd _ _ h2 => rw [h] at h2; cases h2
    | wayBad _ _ _ _ _ h2 => exact ih h2
    | wayNext _ _ _ _ _ _ _ h2 _ => cases ih h2
    | wayLater _ _ _ _ _ _ _ h2 _ => cases ih h2
  | wayNext o r r1 r2 n k h h1 h2 ih1 ih2 => cases h' with
    | wayEnd _ _ h3 => rw [h] at h3; cases h3
    | wayBad _ _ _ _ _ h3 => cases ih1 h3
    | wayNext _ _ _ _ _ _ _ h3 h4 => cases ih1 h3; cases ih2 h4; rfl
    | wayLater _ _ _ _ _ _ _ h3 h4 => cases ih1 h3; cases ih2 h4
  | wayLater o r r1 n w l h h1 h2 ih1 ih2 => cases h' with
    | wayEnd _ _ h3 => rw [h] at h3; cases h3
    | wayBad _ _ _ _ _ h3 => cases ih1 h3
    | wayNext _ _ _ _ _ _ _ h3 h4 => cases ih1 h3; cases ih2 h4
    | wayLater _ _ _ _ _ _ _ h3 h4 => cases ih1 h3; cases ih2 h4; rfl
  | waysBad o r w l h1 ih => cases h' with
    | waysBad _ _ _ _ h2 => exact ih h2
    | waysOne _ _ _ _ h2 _ => cases ih h2
    | waysNext _ _ _ _ _ _ h2 _ => cases ih h2
    | waysLater _ _ _ _ _ _ h2 _ => cases ih h2
  | waysOne o r r1 k h1 h2 ih => cases h' with
    | waysBad _ _ _ _ h3 => cases ih h3
    | waysOne _ _ _ _ h3 _ => cases ih h3; rfl
    | waysNext _ _ _ _ _ _ h3 _ => cases ih h3; simp at h2
    | waysLater _ _ _ _ _ _ h3 _ => cases ih h3; simp at h2
  | waysNext o r r1 r2 k m h1 h2 ih1 ih2 => cases h' with
    | waysBad _ _ _ _ h3 => cases ih1 h3
    | waysOne _ _ _ _ h3 h4 => cases ih1 h3; simp at h4
    | waysNext _ _ _ _ _ _ h3 h4 => cases ih1 h3; cases ih2 h4; rfl
    | waysLater _ _ _ _ _ _ h3 h4 => cases ih1 h3; cases ih2 h4
  | waysLater o r r1 k w l h1 h2 ih1 ih2 => cases h' with
    | waysBad _ _ _ _ h3 => cases ih1 h3
    | waysOne _ _ _ _ h3 h4 => cases ih1 h3; simp at h4
    | waysNext _ _ _ _ _ _ h3 h4 => cases ih1 h3; cases ih2 h4
    | waysLater _ _ _ _ _ _ h3 h4 => cases ih1 h3; cases ih2 h4; rfl
end RxSem
namespace RxSem
theorem setL_eq (c : UInt8) (t : List UInt8) (first : Bool) (f : UInt8 → Bool) : setL (c :: t) first f = if c = 93 ∧ first = false then .inl (f, t)
    else match t with
      | 45 :: h :: t' => if h = 93 then setL (45 :: h :: t') false (fun x => f x || x == c) else if h < c then .inr (3, t'.length + 2) else setL t' false (range f c h)
      | t => setL t false (fun x => f x || x == c) := by
  rw [setL.eq_def] <;> rfl
theorem setL_nil (first : Bool) (f : UInt8 → Bool) : setL [] first f = .inr (4, 0) := by rw [setL.eq_def]
theorem setL_stop {c : UInt8} {first : Bool} (h : c = 93 ∧ first = false) (t : List UInt8) (f : UInt8 → Bool) : setL (c :: t) first f = .inl (f, t) := by rw [setL_eq, if_pos h]
theorem setL_byte {c a : UInt8} {first : Bool} (h : ¬ (c = 93 ∧ first = false)) (ha : a ≠ 45) (t : List UInt8) (f : UInt8 → Bool) : setL (c :: a :: t) first f = setL (a :: t) false (fun x => f x || x == c) := by
  rw [setL_eq, if_neg h]
  split
  · rename_i heq; simp at heq; exact absurd heq.1 ha
  · rfl
theorem setL_last {c : UInt8} {first : Bool} (h : ¬ (c = 93 ∧ first = false)) (f : UInt8 → Bool) : setL [c] first f = .inr (4, 0) := by
  rw [setL_eq, if_neg h]; exact setL_nil _ _
theorem setL_dash {c : UInt8} {first : Bool} (h : ¬ (c = 93 ∧ first = false)) (f : UInt8 → Bool) : setL [c, 45] first f = .inr (4, 0) := by
  rw [setL_eq, if_neg h]; exact setL_last (by simp) _
theorem setL_range {c d : UInt8} {first : Bool} (h : ¬ (c = 93 ∧ first = false)) (t : List UInt8) (f : UInt8 → Bool) : setL (c :: 45 :: d :: t) first f = if d = 93 then setL (45 :: d :: t) false (fun x => f x || x == c) else if d < c then .inr (3, t.length + 2) else setL t false (range f c d) := by
  rw [setL_eq, if_neg h]; rfl
end RxSem
namespace RxSem
end RxSem
namespace RxSem
inductive Stp where
  | take (f : UInt8 → Bool)
  | first
  | last
  | fork (a c : Int)
  | done
def either (a c : List Stp) : List Stp := .fork 1 (a.length + 2) :: (a ++ .fork (c.length + 1) (c.length + 1) :: c)
def agn (a : List Stp) : List Stp := a ++ [.fork (-(a.length : Int)) 1]
def maybe (a : List Stp) : List Stp := .fork 1 (a.length + 1) :: a
mutual
def code : Nd → List Stp
  | .none => [.take fun _ => false]
  | .set f => [.take f]
  | .bol => [.first]
  | .eol => [.last]
  | .seq l => codeS l
  | .alt [] => [.take fun _ => false]
  | .alt (n :: l) => codeA (code n) l
  | .star n => maybe (agn (code n))
  | .plus n => agn (code n)
  | .opt n => maybe (code n)
def codeS : List Nd → List Stp
  | [] => []
  | n :: l => codeS l ++ code n
def codeA : List Stp → List Nd → List Stp
  | a, [] => a
  | a, n :: l => codeA (either a (code n)) l
end
inductive Mv (cs : List Stp) (s : List UInt8) : Nat → Nat → Nat → Nat → Prop where
  | take {t p : Nat} {f : UInt8 → Bool} {c : UInt8} (h : cs[t]? = some (.take f)) (hc : s[p]? = some c) (hf : f c = true) : Mv cs s t (p + 1) (t + 1) p
  | first {t : Nat} (h : cs[t]? = some .first) : Mv cs s t 0 (t + 1) 0
  | last {t : Nat} (h : cs[t]? = some .last) : Mv cs s t s.length (t + 1) s.length
  | one {t t' p : Nat} {a c : Int} (h : cs[t]? = some (.fork a c)) (ht : (t' : Int) = t + a) : Mv cs s t p t' p
  | two {t t' p : Nat} {a c : Int} (h : cs[t]? = some (.fork a c)) (ht : (t' : Int) = t + c) : Mv cs s t p t' p
def Ac (cs : List Stp) (s : List UInt8) (L P0 : Nat) : Nat → Nat → Nat → Prop
  | 0, t, p => t = L ∧ p = P0
  | m + 1, t, p => ∃ t' p', Mv cs s t p t' p' ∧ Ac cs s L P0 m t' p'
def Lies (cs : List Stp) (o : Nat) (C : List Stp) : Prop := ∀ i, i < C.length → cs[o + i]? = C[i]?
theorem Lies.app {cs : List Stp} {o : Nat} {C D : List Stp} (h : Lies cs o (C ++ D)) : Lies cs o C ∧ Lies cs (o + C.length) D := by
  constructor
  · intro i hi
    rw [h i (by rw [List.length_append]; omega), List.getElem?_append_left hi]
  · intro i hi
    have := h (C.length + i) (by rw [List.length_append]; omega)
    rw [List.getElem?_append_right (by omega), Nat.add_sub_cancel_left] at this
    rw [Nat.add_assoc]; exact this
theorem Lies.head {cs : List Stp} {o : Nat} {x : Stp} {C : List Stp} (h : Lies cs o (x :: C)) : cs[o]? = some x ∧ Lies cs (o + 1) C := by
  constructor
  · have := h 0 (by simp); simpa using this
  · intro i hi
    have := h (i + 1) (by simp; omega)
    rw [show o + 1 + i = o + (i + 1) by omega, this]; simp
def Den (s : List UInt8) (C : List Stp) (R : Nat → Nat → Prop) : Prop :=
  ∀ cs o L P0, Lies cs o C → o + C.length ≤ L →
    (∀ m e, Ac cs s L P0 m o e → ∃ p m', m' ≤ m ∧ R p e ∧ Ac cs s L P0 m' (o + C.length) p) ∧
    (∀ p e, R p e → (∃ m, Ac cs s L P0 m (o + C.length) p) → ∃ m, Ac cs s L P0 m o e)
theorem Den.iff {s : List UInt8} {C : List Stp} {R R' : Nat → Nat → Prop} (h : Den s C R) (e : ∀ i k, R i k ↔ R' i k) : Den s C R' := by
  have : R = R' := by funext i k; exact propext (e i k)
  rw [← this]; exact h
theorem den_nil (s : List UInt8) : Den s [] fun i k => i = k := fun cs o L P0 _ _ =>
  ⟨fun m e h => ⟨e, m, Nat.le_refl _, rfl, h⟩, fun p e h h2 => by subst h; exact h2⟩
theorem den_take (s : List UInt8) (f : UInt8 → Bool) : Den s [.take f] fun i k => k = i + 1 ∧ ∃ c, s[i]? = some c ∧ f c = true := fun cs o L P0 hl hL => by
  have h0 := hl.head.1
  simp only [List.length_singleton] at hL ⊢
  constructor
  · intro m e h
    cases m with
    | zero => have := h.1; omega
    | succ m =>
      obtain ⟨t', p', h1, h2⟩ := h
      cases h1 with
      | take h3 hc hf => rw [h0] at h3; cases h3; exact ⟨p', m, by omega, ⟨rfl, _, hc, hf⟩, h2⟩
      | first h3 => rw [h0] at h3; cases h3
      | last h3 => rw [h0] at h3; cases h3
      | one h3 => rw [h0] at h3; cases h3
      | two h3 => rw [h0] at h3; cases h3
  · rintro p e ⟨rfl, c, hc, hf⟩ ⟨m, h⟩
    exact ⟨m + 1, _, _, .take h0 hc hf, h⟩
theorem den_first (s : List UInt8) : Den s [.first] fun i k => i = 0 ∧ k = 0 := fun cs o L P0 hl hL => by
  have h0 := hl.head.1
  simp only [List.length_singleton] at hL ⊢
  constructor
  · intro m e h
    cases m with
    | zero => have := h.1; omega
    | succ m =>
      obtain ⟨t', p', h1, h2⟩ := h
      cases h1 with
      | take h3 => rw [h0] at h3; cases h3
      | first h3 => exact ⟨0, m, by omega, ⟨rfl, rfl⟩, h2⟩
      | last h3 => rw [h0] at h3; cases h3
      | one h3 => rw [h0] at h3; cases h3
      | two h3 => rw [h0] at h3; cases h3
  · rintro p e ⟨rfl, rfl⟩ ⟨m, h⟩
    exact ⟨m + 1, _, _, .first h0, h⟩
theorem den_last (s : List UInt8) : Den s [.last] fun i k => i = s.length ∧ k = s.length := fun cs o L P0 hl hL => by
  have h0 := hl.head.1
  simp only [List.length_singleton] at hL ⊢
  constructor
  · intro m e h
    cases m with
    | zero => have := h.1; omega
    | succ m =>
      obtain ⟨t', p', h1, h2⟩ := h
      cases h1 with
      | take h3 => rw [h0] at h3; cases h3
      | first h3 => rw [h0] at h3; cases h3
      | last h3 => exact ⟨s.length, m, by omega, ⟨rfl, rfl⟩, h2⟩
      | one h3 => rw [h0] at h3; cases h3
      | two h3 => rw [h0] at h3; cases h3
  · rintro p e ⟨rfl, rfl⟩ ⟨m, h⟩
    exact ⟨m + 1, _, _, .last h0, h⟩
theorem ac_fork {cs : List Stp} {s : List UInt8} {L P0 o : Nat} {a c : Int} (h0 : cs[o]? = some (.fork a c)) (hL : o < L) {m e : Nat} (h : Ac cs s L P0 m o e) : ∃ (t' m' : Nat), m = m' + 1 ∧ ((t' : Int) = o + a ∨ (t' : Int) = o + c) ∧ Ac cs s L P0 m' t' e := by
  cases m with
  | zero => have := h.1; omega
  | succ m =>
    obtain ⟨t', p', h1, h2⟩ := h
    cases h1 with
    | take h3 => rw [h0] at h3; cases h3
    | first h3 => rw [h0] at h3; cases h3
    | last h3 => rw [h0] at h3; cases h3
    | one h3 ht => rw [h0] at h3; cases h3; exact ⟨t', m, rfl, .inl ht, h2⟩
    | two h3 ht => rw [h0] at h3; cases h3; exact ⟨t', m, rfl, .inr ht, h2⟩
theorem den_app {s : List UInt8} {C D : List Stp} {R Q : Nat → Nat → Prop} (hC : Den s C R) (hD : Den s D Q) : Den s (C ++ D) fun i k => ∃ j, Q i j ∧ R j k := fun cs o L P0 hl hL => by
  obtain ⟨h1, h2⟩ := hl.app
  rw [List.length_append] at hL ⊢
  obtain ⟨c1, c2⟩ := hC cs o L P0 h1 (by omega)
  obtain ⟨d1, d2⟩ := hD cs (o + C.length) L P0 h2 (by omega)
  rw [← Nat.add_assoc]
  constructor
  · intro m e h
    obtain ⟨p, m1, a1, a2, a3⟩ := c1 m e h
    obtain ⟨q, m2, b1, b2, b3⟩ := d1 m1 p a3
    exact ⟨q, m2, by omega, ⟨p, b2, a2⟩, b3⟩
  · rintro p e ⟨j, a1, a2⟩ h
    exact c2 j e a2 (d2 p j a1 h)
theorem den_maybe {s : List UInt8} {C : List Stp} {R : Nat → Nat → Prop} (hC : Den s C R) : Den s (maybe C) fun i k => i = k ∨ R i k := fun cs o L P0 hl hL => by
  unfold maybe at hl hL ⊢
  obtain ⟨h1, h2⟩ := hl.head
  simp only [List.length_cons] at hL ⊢
  obtain ⟨c1, c2⟩ := hC cs (o + 1) L P0 h2 (by omega)
  have e1 : o + (C.length + 1) = o + 1 + C.length := by omega
  rw [e1]
  constructor
  · intro m e h
    obtain ⟨t, m1, rfl, ht, h3⟩ := ac_fork h1 (by omega) h
    rcases ht with ht | ht
    · have : t = o + 1 := by omega
      subst this
      obtain ⟨p, m2, a1, a2, a3⟩ := c1 _ e h3
      exact ⟨p, m2, by omega, .inr a2, a3⟩
    · have : t = o + 1 + C.length := by omega
      subst this
      exact ⟨e, m1, by omega, .inl rfl, h3⟩
  · rintro p e (rfl | hr) h
    · obtain ⟨m, h⟩ := h
      exact ⟨m + 1, _, _, .two h1 (by omega), h⟩
    · obtain ⟨m, h⟩ := c2 p e hr h
      exact ⟨m + 1, _, _, .one h1 (by omega), h⟩
theorem Star.snoc {R : Nat → Nat → Prop} {i j k : Nat} (h : Star R i j) (h2 : R j k) : Star R i k := h.trans (.one h2)
theorem den_agn {s : List UInt8} {C : List Stp} {R : Nat → Nat → Prop} (hC : Den s C R) : Den s (agn C) fun i k => ∃ j, R i j ∧ Star R j k := fun cs o L P0 hl hL => by
  unfold agn at hl hL ⊢
  obtain ⟨h1, h2⟩ := hl.app
  have h0 := h2.head.1
  simp only [List.length_append, List.length_singleton] at hL ⊢
  obtain ⟨c1, c2⟩ := hC cs o L P0 h1 (by omega)
  rw [← Nat.add_assoc] at hL ⊢
  constructor
  · intro m
    induction m using Nat.strongRecOn with
    | ind m ih =>
      intro e h
      obtain ⟨p, m1, a1, a2, a3⟩ := c1 m e h
      obtain ⟨t, m2, rfl, ht, h3⟩ := ac_fork h0 (by omega) a3
      rcases ht with ht | ht
      · have : t = o := by omega
        subst this
        obtain ⟨q, m3, b1, ⟨j, b2, b3⟩, b4⟩ := ih m2 (by omega) p h3
        exact ⟨q, m3, by omega, ⟨j, b2, b3.snoc a2⟩, b4⟩
      · have : t = o + C.length + 1 := by omega
        subst this
        exact ⟨p, m2, by omega, ⟨e, a2, .here e⟩, h3⟩
  · rintro p e ⟨j, a1, a2⟩ ⟨m, h⟩
    have b1 := c2 p j a1 ⟨m + 1, _, _, .two h0 (by omega), h⟩
    clear a1
    induction a2 with
    | here => exact b1
    | @step i j' k r _ ih =>
      obtain ⟨m', h'⟩ := b1
      exact ih (c2 i j' r ⟨m' + 1, _, _, .one h0 (by omega), h'⟩)
theorem den_either {s : List UInt8} {C D : List Stp} {R Q : Nat → Nat → Prop} (hC : Den s C R) (hD : Den s D Q) : Den s (either C D) fun i k => R i k ∨ Q i k := fun cs o L P0 hl hL => by
  unfold either at hl hL ⊢
  obtain ⟨h1, h2⟩ := hl.head
  obtain ⟨h3, h4⟩ := h2.app
  obtain ⟨h5, h6⟩ := h4.head
  simp only [List.length_cons, List.length_append] at hL ⊢
  obtain ⟨c1, c2⟩ := hC cs (o + 1) L P0 h3 (by omega)
  obtain ⟨d1, d2⟩ := hD cs (o + 1 + C.length + 1) L P0 h6 (by omega)
  have e1 : o + (C.length + (D.length + 1) + 1) = o + 1 + C.length + 1 + D.length := by omega
  rw [e1]
  constructor
  · intro m e h
    obtain ⟨t, m1, rfl, ht, g⟩ := ac_fork h1 (by omega) h
    rcases ht with ht | ht
    · have : t = o + 1 := by omega
      subst this
      obtain ⟨p, m2, a1, a2, a3⟩ := c1 _ e g
      obtain ⟨t, m3, rfl, ht', g'⟩ := ac_fork h5 (by omega) a3
      have : t = o + 1 + C.length + 1 + D.length := by omega
      subst this
      exact ⟨p, m3, by omega, .inl a2, g'⟩
    · have : t = o + 1 + C.length + 1 := by omega
      subst this
      obtain ⟨p, m2, a1, a2, a3⟩ := d1 _ e g
      exact ⟨p, m2, by omega, .inr a2, a3⟩
  · rintro p e (hr | hq) ⟨m, h⟩
    · obtain ⟨m', h'⟩ := c2 p e hr ⟨m + 1, _, _, .one h5 (by omega), h⟩
      exact ⟨m' + 1, _, _, .one h1 (by omega), h'⟩
    · obtain ⟨m', h'⟩ := d2 p e hq ⟨m, h⟩
      exact ⟨m' + 1, _, _, .two h1 (by omega), h'⟩
mutual
theorem den (s : List UInt8) : (n : Nd) → Den s (code n) (M s n)
  | .none => (den_take s fun _ => false).iff fun i k => by unfold M; simp
  | .set f => by unfold code; exact (den_take s f).iff fun i k => by unfold M; exact Iff.rfl
  | .bol => by unfold code; exact (den_first s).iff fun i k => by unfold M; exact Iff.rfl
  | .eol => by unfold code; exact (den_last s).iff fun i k => by unfold M; exact Iff.rfl
  | .seq l => by unfold code; exact (denS s l).iff fun i k => by rw [M]
  | .alt [] => by unfold code; exact (den_take s fun _ => false).iff fun i k => by rw [M, MA]; simp
  | .alt (n :: l) => by unfold code; exact (denA s l _ _ (den s n)).iff fun i k => by rw [M, MA]
  | .star n => by
    unfold code
    refine (den_maybe (den_agn (den s n))).iff fun i k => ?_
    rw [M]
    constructor
    · rintro (rfl | ⟨j, h1, h2⟩)
      · exact .here _
      · exact .step h1 h2
    · intro h
      cases h with
      | here => exact .inl rfl
      | step h1 h2 => exact .inr ⟨_, h1, h2⟩
  | .plus n => by unfold code; exact (den_agn (den s n)).iff fun i k => by rw [M]
  | .opt n => by unfold code; exact (den_maybe (den s n)).iff fun i k => by rw [M]
theorem denS (s : List UInt8) : (l : List Nd) → Den s (codeS l) (MS s l)
  | [] => by unfold codeS; exact (den_nil s).iff fun i k => by rw [MS]
  | n :: l => by unfold codeS; exact (den_app (denS s l) (den s n)).iff fun i k => by rw [MS]
theorem denA (s : List UInt8) : (l : List Nd) → (C : List Stp) → (R : Nat → Nat → Prop) → Den s C R → Den s (codeA C l) fun i k => R i k ∨ MA s l i k
  | [], C, R, h => by unfold codeA; exact h.iff fun i k => by rw [MA]; simp
  | n :: l, C, R, h => by
    unfold codeA
    refine (denA s l _ _ (den_either h (den s n))).iff fun i k => ?_
    rw [MA, or_assoc]
end
inductive Rch (cs : List Stp) (s : List UInt8) (e : Nat) : Nat → Nat → Prop where
  | start : Rch cs s e 0 e
  | step {t p t' p' : Nat} (h : Rch cs s e t p) (hm : Mv cs s t p t' p') : Rch cs s e t' p'
theorem ac_rch {cs : List Stp} {s : List UInt8} {L P0 e : Nat} : ∀ {m t p}, Rch cs s e t p → Ac cs s L P0 m t p → Rch cs s e L P0 := by
  intro m
  induction m with
  | zero => intro t p h h2; obtain ⟨rfl, rfl⟩ := h2; exact h
  | succ m ih => intro t p h h2; obtain ⟨t', p', h3, h4⟩ := h2; exact ih (.step h h3) h4
theorem rch_ac {cs : List Stp} {s : List UInt8} {L P0 e : Nat} {t p : Nat} (h : Rch cs s e t p) (h2 : ∃ m, Ac cs s L P0 m t p) : ∃ m, Ac cs s L P0 m 0 e := by
  induction h with
  | start => exact h2
  | step _ hm ih => obtain ⟨m, h2⟩ := h2; exact ih ⟨m + 1, _, _, hm, h2⟩
theorem rch_match (s : List UInt8) (n : Nd) (p e : Nat) : Rch (code n ++ [.done]) s e (code n).length p ↔ M s n p e := by
  have hl : Lies (code n ++ [.done]) 0 (code n) := by
    have : Lies (code n ++ [.done]) 0 (code n ++ [.done]) := fun i hi => by rw [Nat.zero_add]
    exact this.app.1
  obtain ⟨h1, h2⟩ := den s n (code n ++ [.done]) 0 (code n).length p hl (by omega)
  rw [Nat.zero_add] at h1 h2
  constructor
  · intro h
    obtain ⟨m, h3⟩ := rch_ac h ⟨0, rfl, rfl⟩
    obtain ⟨q, m', _, h4, h5⟩ := h1 m e h3
    have : q = p := by
      cases m' with
      | zero => exact h5.2
      | succ m' =>
        obtain ⟨t', p', h6, _⟩ := h5
        have hd : (code n ++ [Stp.done])[(code n).length]? = some .done := by simp
        cases h6 with
        | take h7 => rw [hd] at h7; cases h7
        | first h7 => rw [hd] at h7; cases h7
        | last h7 => rw [hd] at h7; cases h7
        | one h7 => rw [hd] at h7; cases h7
        | two h7 => rw [hd] at h7; cases h7
    rw [← this]; exact h4
  · intro h
    obtain ⟨m, h3⟩ := h2 p e h ⟨0, rfl, rfl⟩
    exact ac_rch .start h3
end RxSem
