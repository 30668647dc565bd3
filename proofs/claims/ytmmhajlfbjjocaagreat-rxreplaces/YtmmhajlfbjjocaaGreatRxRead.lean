import Derived.Test.YtmmhajlfbjjocaaGreatRxSem
/-
  How an expression is read, as the document tells it: a relation between what is ahead and what is read, or the first fault. Plain mathematics.
-/
namespace RxSem

inductive Res where
  | ok (l : List Nd) (rest : List UInt8)
  | bad (why left : Nat)
inductive Tag where
  | thing
  | way
  | ways
def one (c : UInt8) : Nd := .set fun x => x == c
def range (f : UInt8 → Bool) (a c : UInt8) : UInt8 → Bool := fun x => f x || (decide (a ≤ x) && decide (x ≤ c))
/-- A set, behind its bracket and perhaps its ^: bytes and ranges up to the bracket. -/
def setL : List UInt8 → Bool → (UInt8 → Bool) → (UInt8 → Bool) × List UInt8 ⊕ Nat × Nat
  | [], _, _ => .inr (4, 0)
  | c :: t, first, f =>
    if c = 93 ∧ first = false then .inl (f, t)
    else match t with
      | 45 :: h :: t' => if h = 93 then setL (45 :: h :: t') false (fun x => f x || x == c) else if h < c then .inr (3, t'.length + 2) else setL t' false (range f c h)
      | t => setL t false (fun x => f x || x == c)
termination_by l => l.length
decreasing_by all_goals (simp_wf <;> omega)
def setR : List UInt8 → Res
  | 94 :: t => match setL t true (fun _ => false) with
    | .inl (f, r) => .ok [.set fun x => !f x] r
    | .inr (w, l) => .bad w l
  | t => match setL t true (fun _ => false) with
    | .inl (f, r) => .ok [.set f] r
    | .inr (w, l) => .bad w l
/-- What stands behind a thing. -/
def post : Nd → List UInt8 → Nd × List UInt8
  | n, 42 :: t => (.star n, t)
  | n, 43 :: t => (.plus n, t)
  | n, 63 :: t => (.opt n, t)
  | n, t => (n, t)
def stops : List UInt8 → Bool
  | [] => true
  | c :: _ => c == 124 || c == 41
def plain (c : UInt8) : Bool := !(c == 42 || c == 43 || c == 63 || c == 46 || c == 94 || c == 36 || c == 40 || c == 91 || c == 92)

inductive P : Tag → Nat → List UInt8 → Res → Prop where
  | rep (o : Nat) (c : UInt8) (t : List UInt8) (h : c = 42 ∨ c = 43 ∨ c = 63) : P .thing o (c :: t) (.bad 3 (t.length + 1))
  | dot (o : Nat) (t : List UInt8) : P .thing o (46 :: t) (.ok [.set fun _ => true] t)
  | bol (o : Nat) (t : List UInt8) : P .thing o (94 :: t) (.ok [.bol] t)
  | eol (o : Nat) (t : List UInt8) : P .thing o (36 :: t) (.ok [.eol] t)
  | deep (o : Nat) (t : List UInt8) (h : 16 ≤ o) : P .thing o (40 :: t) (.bad 5 (t.length + 1))
  | inBad (o : Nat) (t : List UInt8) (w l : Nat) (h : o < 16) (h1 : P .ways (o + 1) t (.bad w l)) : P .thing o (40 :: t) (.bad w l)
  | inEnd (o : Nat) (t : List UInt8) (k : List Nd) (h : o < 16) (h1 : P .ways (o + 1) t (.ok k [])) : P .thing o (40 :: t) (.bad 4 0)
  | group (o : Nat) (t r : List UInt8) (k : List Nd) (h : o < 16) (h1 : P .ways (o + 1) t (.ok k (41 :: r))) : P .thing o (40 :: t) (.ok [.alt k] r)
  | set (o : Nat) (t : List UInt8) : P .thing o (91 :: t) (setR t)
  | esc (o : Nat) (c : UInt8) (t : List UInt8) : P .thing o (92 :: c :: t) (.ok [one c] t)
  | escEnd (o : Nat) : P .thing o [92] (.bad 4 0)
  | byte (o : Nat) (c : UInt8) (t : List UInt8) (h : plain c = true) : P .thing o (c :: t) (.ok [one c] t)
  | wayEnd (o : Nat) (r : List UInt8) (h : stops r = true) : P .way o r (.ok [] r)
  | wayBad (o : Nat) (r : List UInt8) (w l : Nat) (h : stops r = false) (h1 : P .thing o r (.bad w l)) : P .way o r (.bad w l)
  | wayNext (o : Nat) (r r1 r2 : List UInt8) (n : Nd) (k : List Nd) (h : stops r = false) (h1 : P .thing o r (.ok [n] r1)) (h2 : P .way o (post n r1).2 (.ok k r2)) : P .way o r (.ok ((post n r1).1 :: k) r2)
  | wayLater (o : Nat) (r r1 : List UInt8) (n : Nd) (w l : Nat) (h : stops r = false) (h1 : P .thing o r (.ok [n] r1)) (h2 : P .way o (post n r1).2 (.bad w l)) : P .way o r (.bad w l)
  | waysBad (o : Nat) (r : List UInt8) (w l : Nat) (h1 : P .way o r (.bad w l)) : P .ways o r (.bad w l)
  | waysOne (o : Nat) (r r1 : List UInt8) (k : List Nd) (h1 : P .way o r (.ok k r1)) (h2 : r1.head? ≠ some 124) : P .ways o r (.ok [.seq k] r1)
  | waysNext (o : Nat) (r r1 r2 : List UInt8) (k m : List Nd) (h1 : P .way o r (.ok k (124 :: r1))) (h2 : P .ways o r1 (.ok m r2)) : P .ways o r (.ok (.seq k :: m) r2)
  | waysLater (o : Nat) (r r1 : List UInt8) (k : List Nd) (w l : Nat) (h1 : P .way o r (.ok k (124 :: r1))) (h2 : P .ways o r1 (.bad w l)) : P .ways o r (.bad w l)

/-- It is read in one way alone. -/
theorem P.same {g : Tag} {o : Nat} {r : List UInt8} {a b : Res} (h : P g o r a) : P g o r b → a = b := by
  intro h'
  induction h generalizing b with
  | rep o c t h => cases h' <;> first | rfl | (simp at h; done) | (exfalso; revert h; simp; done) | (rename_i hp; exfalso; rcases h with rfl | rfl | rfl <;> simp [plain] at hp)
  | dot o t => cases h' <;> first | rfl | (rename_i hp; simp [plain] at hp; done)
  | bol o t => cases h' <;> first | rfl | (rename_i hp; simp [plain] at hp; done)
  | eol o t => cases h' <;> first | rfl | (rename_i hp; simp [plain] at hp; done)
  | deep o t h => cases h' <;> first | rfl | (exfalso; omega) | (rename_i hp; simp [plain] at hp; done)
  | inBad o t w l h h1 ih => cases h' with
    | inBad _ _ _ _ _ h2 => exact ih h2
    | inEnd _ _ _ _ h2 => cases ih h2
    | group _ _ _ _ _ h2 => cases ih h2
    | deep _ _ h2 => omega
    | rep _ _ _ h2 => simp at h2
    | byte _ _ _ h2 => simp [plain] at h2
  | inEnd o t k h h1 ih => cases h' with
    | inBad _ _ _ _ _ h2 => cases ih h2
    | inEnd _ _ _ _ h2 => rfl
    | group _ _ _ _ _ h2 => cases ih h2
    | deep _ _ h2 => omega
    | rep _ _ _ h2 => simp at h2
    | byte _ _ _ h2 => simp [plain] at h2
  | group o t r k h h1 ih => cases h' with
    | inBad _ _ _ _ _ h2 => cases ih h2
    | inEnd _ _ _ _ h2 => cases ih h2
    | group _ _ _ _ _ h2 => cases ih h2; rfl
    | deep _ _ h2 => omega
    | rep _ _ _ h2 => simp at h2
    | byte _ _ _ h2 => simp [plain] at h2
  | set o t => cases h' <;> first | rfl | (rename_i hp; simp [plain] at hp; done)
  | esc o c t => cases h' <;> first | rfl | (rename_i hp; simp [plain] at hp; done)
  | escEnd o => cases h' <;> first | rfl | (rename_i hp; simp [plain] at hp; done)
  | byte o c t h => cases h' <;> first | rfl | (simp [plain] at h; done) | (rename_i hp; rcases hp with rfl | rfl | rfl <;> simp [plain] at h)
  | wayEnd o r h => cases h' <;> first | rfl | (rename_i hp _; rw [h] at hp; cases hp) | (rename_i hp _ _; rw [h] at hp; cases hp)
  | wayBad o r w l h h1 ih => cases h' with
    | wayEnd _ _ h2 => rw [h] at h2; cases h2
    | wayBad _ _ _ _ _ h2 => exact ih h2
    | wayNext _ _ _ _ _ _ _ h2 _ => cases ih h2
    | wayLater _ _ _ _ _ _ _ h2 _ => cases ih h2
  | wayNext o r r1 r2 n k h h1 h2 ih1 ih2 => cases h' with
    | wayEnd _ _ h3 => rw [h] at h3; cases h3
    | wayBad _ _ _ _ _ h3 => cases ih1 h3
    | wayNext _ _ _ _ _ _ _ h3 h4 => cases ih1 h3; cases ih2 h4; rfl
    | wayLater _ _ _ _ _ _ _ h3 h4 => cases ih1 h3; cases ih2 h4
  | wayLater o r r1 n w l h h1 h2 ih1 ih2 => cases h' with
    | wayEnd _ _ h3 => rw [h] at h3; cases h3
    | wayBad _ _ _ _ _ h3 => cases ih1 h3
    | wayNext _ _ _ _ _ _ _ h3 h4 => cases ih1 h3; cases ih2 h4
    | wayLater _ _ _ _ _ _ _ h3 h4 => cases ih1 h3; cases ih2 h4; rfl
  | waysBad o r w l h1 ih => cases h' with
    | waysBad _ _ _ _ h2 => exact ih h2
    | waysOne _ _ _ _ h2 _ => cases ih h2
    | waysNext _ _ _ _ _ _ h2 _ => cases ih h2
    | waysLater _ _ _ _ _ _ h2 _ => cases ih h2
  | waysOne o r r1 k h1 h2 ih => cases h' with
    | waysBad _ _ _ _ h3 => cases ih h3
    | waysOne _ _ _ _ h3 _ => cases ih h3; rfl
    | waysNext _ _ _ _ _ _ h3 _ => cases ih h3; simp at h2
    | waysLater _ _ _ _ _ _ h3 _ => cases ih h3; simp at h2
  | waysNext o r r1 r2 k m h1 h2 ih1 ih2 => cases h' with
    | waysBad _ _ _ _ h3 => cases ih1 h3
    | waysOne _ _ _ _ h3 h4 => cases ih1 h3; simp at h4
    | waysNext _ _ _ _ _ _ h3 h4 => cases ih1 h3; cases ih2 h4; rfl
    | waysLater _ _ _ _ _ _ h3 h4 => cases ih1 h3; cases ih2 h4
  | waysLater o r r1 k w l h1 h2 ih1 ih2 => cases h' with
    | waysBad _ _ _ _ h3 => cases ih1 h3
    | waysOne _ _ _ _ h3 h4 => cases ih1 h3; simp at h4
    | waysNext _ _ _ _ _ _ h3 h4 => cases ih1 h3; cases ih2 h4
    | waysLater _ _ _ _ _ _ h3 h4 => cases ih1 h3; cases ih2 h4; rfl
end RxSem
