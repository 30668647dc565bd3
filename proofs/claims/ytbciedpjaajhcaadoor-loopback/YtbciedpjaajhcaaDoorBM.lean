/-
  The blocks of lines, as mathematics, and how they lie in memory.
-/
import Derived.Test.YtbciedpjaajhcaaDoorL19
import Derived.Shelf.GgClosure.StringsIndexFuncTop
namespace Go.Proofs.YtbciedpjaajhcaaDoor
open Go.RowKit Go.Shelf

def small (c : UInt8) : Bool := decide (97 ≤ c.toNat) && decide (c.toNat ≤ 122)
def endsL : List UInt8 → Bool
  | [] => true
  | c :: _ => [32, 9, 40, 33, 34].contains c
def dirB (s : List UInt8) : List UInt8 × List UInt8 :=
  if s.takeWhile small = [] ∨ endsL (s.dropWhile small) = false then ([], []) else (s.takeWhile small, ltrim (s.dropWhile small))
def dirL (cmd : Bool) : List UInt8 → List UInt8 × List UInt8
  | [] => ([], [])
  | c :: t => if cmd = true ∨ c ≠ 46 then ([], []) else dirB (ltrim t)
def dirW (x : Lz) : ByteArray := ba (dirL x.cmd (bl x.text)).1
def dirX (x : Lz) : ByteArray := ba (dirL x.cmd (bl x.text)).2

abbrev kIf : ByteArray := ⟨#[105, 102]⟩
abbrev kIfdef : ByteArray := ⟨#[105, 102, 100, 101, 102]⟩
abbrev kIfndef : ByteArray := ⟨#[105, 102, 110, 100, 101, 102]⟩
abbrev kIfmake : ByteArray := ⟨#[105, 102, 109, 97, 107, 101]⟩
abbrev kIfnmake : ByteArray := ⟨#[105, 102, 110, 109, 97, 107, 101]⟩
abbrev kFor : ByteArray := ⟨#[102, 111, 114]⟩
abbrev kElif : ByteArray := ⟨#[101, 108, 105, 102]⟩
abbrev kElse : ByteArray := ⟨#[101, 108, 115, 101]⟩
abbrev kEndif : ByteArray := ⟨#[101, 110, 100, 105, 102]⟩
abbrev kEndfor : ByteArray := ⟨#[101, 110, 100, 102, 111, 114]⟩
abbrev kIn : ByteArray := ⟨#[105, 110]⟩

/-- What a word does: 1 opens a condition, 2 a loop, 3 parts, 4 closes a condition, 5 a loop, 0 nothing. -/
def kindW (w : ByteArray) : Nat :=
  if w = kIf ∨ w = kIfdef ∨ w = kIfndef ∨ w = kIfmake ∨ w = kIfnmake then 1
  else if w = kFor then 2
  else if w = kElif ∨ w = kElse then 3
  else if w = kEndif then 4
  else if w = kEndfor then 5
  else 0

/-- May a rune not stand in a name? -/
def noName (r : Nat) : Bool := !((decide (97 ≤ r) && decide (r ≤ 122)) || (decide (65 ≤ r) && decide (r ≤ 90))) && (!decide (r = 95) && (decide (r < 48) || decide (57 < r)))
def nameOk (n : ByteArray) : Bool := !decide (n = E) && decide (Lib.idxFunc noName true n < 0)
/-- Is a text one of several? -/
def mem9 (q : ByteArray) (L : List ByteArray) : Bool := L.any fun n => decide (n = q)
theorem mem9_snoc (q p : ByteArray) (L : List ByteArray) : mem9 q (L ++ [p]) = (mem9 q L || decide (p = q)) := by simp [mem9]
/-- The names and the list of a for's text. -/
def forL : Nat → List ByteArray → ByteArray → Option (List ByteArray × ByteArray)
  | 0, _, _ => none
  | k + 1, names, t =>
    if ba (wordA (bl t)) = kIn then (if names = [] then none else some (names, ba (wordB (bl t))))
    else if mem9 (ba (wordA (bl t))) names = true ∨ nameOk (ba (wordA (bl t))) = false then none
    else forL k (names ++ [ba (wordA (bl t))]) (ba (wordB (bl t)))
def forText (t : ByteArray) : Option (List ByteArray × ByteArray) := forL (t.size + 1) [] t

mutual
inductive Nd where
  | pl (l : Lz)
  | cn (l : Lz) (bs : List Bk)
  | fr (l : Lz) (ns : List ByteArray) (li : ByteArray) (ks : List Nd)
inductive Bk where
  | mk (w t : ByteArray) (a : Int) (ks : List Nd)
end
/-- A block that is open. -/
inductive Fm where
  | cn (l : Lz) (bs : List Bk) (w t : ByteArray) (a : Int) (ks : List Nd)
  | fr (l : Lz) (ns : List ByteArray) (li : ByteArray) (ks : List Nd)
def Fm.line : Fm → Lz
  | .cn l _ _ _ _ _ => l
  | .fr l _ _ _ => l
def Fm.add : Fm → Nd → Fm
  | .cn l bs w t a ks, n => .cn l bs w t a (ks ++ [n])
  | .fr l ns li ks, n => .fr l ns li (ks ++ [n])
def Fm.close : Fm → Nd
  | .cn l bs w t a ks => .cn l (bs ++ [.mk w t a ks])
  | .fr l ns li ks => .fr l ns li ks
structure Sx where
  done : List Nd
  op : List Fm
inductive Rs where
  | bad (e : Int)
  | ok (s : Sx)
def Sx.addTo (done : List Nd) (fs : List Fm) (n : Nd) : Sx :=
  match fs.getLast? with
  | none => ⟨done ++ [n], fs⟩
  | some f => ⟨done, fs.dropLast ++ [f.add n]⟩
def Sx.step (s : Sx) (x : Lz) : Rs :=
  match kindW (dirW x) with
  | 1 => if s.op.length = 32 then .bad 5 else .ok ⟨s.done, s.op ++ [.cn x [] (dirW x) (dirX x) x.at_ []]⟩
  | 2 => match forText (dirX x) with
    | none => .bad 3
    | some (ns, li) => if s.op.length = 32 then .bad 5 else .ok ⟨s.done, s.op ++ [.fr x ns li []]⟩
  | 3 => match s.op.getLast? with
    | some (.cn l bs w0 t0 a0 ks) => if w0 = kElse ∨ (dirW x = kElse ∧ dirX x ≠ E) then .bad 3 else .ok ⟨s.done, s.op.dropLast ++ [.cn l (bs ++ [.mk w0 t0 a0 ks]) (dirW x) (dirX x) x.at_ []]⟩
    | _ => .bad 3
  | 4 => match s.op.getLast? with
    | some (.cn l bs w0 t0 a0 ks) => if dirX x ≠ E then .bad 3 else .ok (Sx.addTo s.done s.op.dropLast (Fm.cn l bs w0 t0 a0 ks).close)
    | _ => .bad 3
  | 5 => match s.op.getLast? with
    | some (.fr l ns li ks) => if dirX x ≠ E then .bad 3 else .ok (Sx.addTo s.done s.op.dropLast (Fm.fr l ns li ks).close)
    | _ => .bad 3
  | _ => .ok (Sx.addTo s.done s.op (.pl x))
inductive Bd where
  | bad (e a : Int)
  | good (ts : List Nd)
def Sx.run (s : Sx) : List Lz → Bd
  | [] => match s.op.getLast? with
    | some f => .bad 4 f.line.at_
    | none => .good s.done
  | x :: l => match s.step x with
    | .bad e => .bad e x.at_
    | .ok s' => s'.run l
def buildL (l : List Lz) : Bd := (⟨[], []⟩ : Sx).run l

inductive All2 {α β : Type} (R : α → β → Prop) : List α → List β → Prop where
  | nil : All2 R [] []
  | cons {a b xs ys} : R a b → All2 R xs ys → All2 R (a :: xs) (b :: ys)
namespace All2
variable {α β : Type} {R S : α → β → Prop}
theorem snoc {xs : List α} {ys : List β} (h : All2 R xs ys) {a : α} {b : β} (k : R a b) : All2 R (xs ++ [a]) (ys ++ [b]) := by
  induction h with
  | nil => exact .cons k .nil
  | cons h1 _ ih => exact .cons h1 ih
theorem length {xs : List α} {ys : List β} (h : All2 R xs ys) : xs.length = ys.length := by
  induction h with
  | nil => rfl
  | cons _ _ ih => simp [ih]
theorem mono {xs : List α} {ys : List β} (h : All2 R xs ys) (f : ∀ a b, R a b → S a b) : All2 S xs ys := by
  induction h with
  | nil => exact .nil
  | cons h1 _ ih => exact .cons (f _ _ h1) ih
theorem get {xs : List α} {ys : List β} (h : All2 R xs ys) : ∀ {i : Nat} {b : β}, ys[i]? = some b → ∃ a, xs[i]? = some a ∧ R a b := by
  induction h with
  | nil => intro i b hb; simp at hb
  | cons h1 _ ih =>
    intro i b hb
    cases i with
    | zero => simp at hb; subst hb; exact ⟨_, rfl, h1⟩
    | succ i => simp at hb; obtain ⟨a, e1, e2⟩ := ih hb; exact ⟨a, by simpa using e1, e2⟩
theorem unsnoc {xs : List α} {a : α} {ys : List β} {b : β} (h : All2 R (xs ++ [a]) (ys ++ [b])) : All2 R xs ys ∧ R a b := by
  induction xs generalizing ys with
  | nil =>
    cases ys with
    | nil => cases h with | cons h1 _ => exact ⟨.nil, h1⟩
    | cons c cs => cases h with | cons h1 h2 => have := h2.length; simp at this
  | cons c cs ih =>
    cases ys with
    | nil => cases h with | cons h1 h2 => have := h2.length; simp at this
    | cons d ds => cases h with | cons h1 h2 => obtain ⟨e1, e2⟩ := ih h2; exact ⟨.cons h1 e1, e2⟩
end All2

abbrev nilS : Value := .slice none 0 0
/-- The eight cells of a block, the four of a branch. -/
def ndC (k : Int) (l : Lz) (vB vN : Value) (li : ByteArray) (vK : Value) : List Value := [.int .i64 k, .string l.text, .int .i64 l.at_, .bool l.cmd, vB, vN, .string li, vK]
def bkC (w t : ByteArray) (a : Int) (vK : Value) : List Value := [.string w, .string t, .int .i64 a, vK]
/-- A slice value whose row lies in a block that is not hot; its elements' cells are told. -/
def RowAt (H : Nat → Prop) (w : World) (k : Nat) (v : Value) (css : List (List Value)) : Prop :=
  (v = nilS ∧ css = []) ∨ ∃ g c, v = .slice (some ⟨g, 0, none⟩) css.length c ∧ css.length ≤ c ∧ g < w.heap.size ∧ ¬ H g ∧ ∀ i cs, css[i]? = some cs → cs.length = k ∧ ∀ j u, cs[j]? = some u → w.cell? ⟨g, i * k + j, none⟩ = some u
def NdAt (H : Nat → Prop) (w : World) : Nat → List Value → Nd → Prop
  | 0, cs, t => match t with
    | .pl l => cs = ndC 1 l nilS nilS E nilS
    | _ => False
  | r + 1, cs, t => match t with
    | .pl l => cs = ndC 1 l nilS nilS E nilS
    | .cn l bs => ∃ vB css, cs = ndC 2 l vB nilS E nilS ∧ RowAt H w 4 vB css ∧ All2 (fun c b => match b with | .mk wd t a ks => ∃ vK cks, c = bkC wd t a vK ∧ RowAt H w 8 vK cks ∧ All2 (NdAt H w r) cks ks) css bs
    | .fr l ns li ks => ∃ vN vK cks, cs = ndC 3 l nilS vN li vK ∧ RowAt H w 1 vN (ns.map fun n => [.string n]) ∧ RowAt H w 8 vK cks ∧ All2 (NdAt H w r) cks ks
/-- Blocks in a row that is not hot. -/
def NdsAt (H : Nat → Prop) (w : World) (r : Nat) (v : Value) (ts : List Nd) : Prop := ∃ css, RowAt H w 8 v css ∧ All2 (NdAt H w r) css ts
def BkAt (H : Nat → Prop) (w : World) (r : Nat) (c : List Value) : Bk → Prop
  | .mk wd t a ks => ∃ vK, c = bkC wd t a vK ∧ NdsAt H w r vK ks
theorem nd_cn {H : Nat → Prop} {w : World} {r : Nat} {cs : List Value} {l : Lz} {bs : List Bk} (h : NdAt H w (r + 1) cs (.cn l bs)) : ∃ vB css, cs = ndC 2 l vB nilS E nilS ∧ RowAt H w 4 vB css ∧ All2 (BkAt H w r) css bs := by
  obtain ⟨vB, css, h1, h2, h3⟩ := h
  refine ⟨vB, css, h1, h2, h3.mono fun c b hb => ?_⟩
  cases b with
  | mk wd t a ks => obtain ⟨vK, cks, e1, e2, e3⟩ := hb; exact ⟨vK, e1, cks, e2, e3⟩
theorem cn_nd {H : Nat → Prop} {w : World} {r : Nat} {l : Lz} {bs : List Bk} {vB : Value} {css : List (List Value)} (h2 : RowAt H w 4 vB css) (h3 : All2 (BkAt H w r) css bs) : NdAt H w (r + 1) (ndC 2 l vB nilS E nilS) (.cn l bs) := by
  refine ⟨vB, css, rfl, h2, h3.mono fun c b hb => ?_⟩
  cases b with
  | mk wd t a ks => obtain ⟨vK, e1, cks, e2, e3⟩ := hb; exact ⟨vK, cks, e1, e2, e3⟩
theorem nd_fr {H : Nat → Prop} {w : World} {r : Nat} {cs : List Value} {l : Lz} {ns : List ByteArray} {li : ByteArray} {ks : List Nd} (h : NdAt H w (r + 1) cs (.fr l ns li ks)) : ∃ vN vK, cs = ndC 3 l nilS vN li vK ∧ RowAt H w 1 vN (ns.map fun n => [.string n]) ∧ NdsAt H w r vK ks := by
  obtain ⟨vN, vK, cks, h1, h2, h3, h4⟩ := h
  exact ⟨vN, vK, h1, h2, cks, h3, h4⟩
theorem fr_nd {H : Nat → Prop} {w : World} {r : Nat} {l : Lz} {ns : List ByteArray} {li : ByteArray} {ks : List Nd} {vN vK : Value} (h2 : RowAt H w 1 vN (ns.map fun n => [.string n])) (h3 : NdsAt H w r vK ks) : NdAt H w (r + 1) (ndC 3 l nilS vN li vK) (.fr l ns li ks) := by
  obtain ⟨cks, h3, h4⟩ := h3
  exact ⟨vN, vK, cks, rfl, h2, h3, h4⟩
theorem nd_pl {H : Nat → Prop} {w : World} (r : Nat) (l : Lz) : NdAt H w r (ndC 1 l nilS nilS E nilS) (.pl l) := by cases r <;> rfl
theorem nd_pl' {H : Nat → Prop} {w : World} {r : Nat} {l : Lz} {cs : List Value} (h : NdAt H w r cs (.pl l)) : cs = ndC 1 l nilS nilS E nilS := by cases r <;> exact h
theorem nd_zero {H : Nat → Prop} {w : World} {cs : List Value} {t : Nd} (h : NdAt H w 0 cs t) : ∃ l, t = .pl l ∧ cs = ndC 1 l nilS nilS E nilS := by
  cases t with
  | pl l => exact ⟨l, rfl, h⟩
  | cn l bs => exact h.elim
  | fr l ns li ks => exact h.elim

/-- What is not hot stays while hot blocks are written and new ones made. -/
structure Keeps (H H' : Nat → Prop) (w w' : World) : Prop where
  size : w.heap.size ≤ w'.heap.size
  block : ∀ g, g < w.heap.size → ¬ H g → w'.heap[g]? = w.heap[g]?
  hot : ∀ g, g < w.heap.size → H' g → H g
theorem Keeps.refl (H : Nat → Prop) (w : World) : Keeps H H w w := ⟨Nat.le_refl _, fun _ _ _ => rfl, fun _ _ h => h⟩
theorem Keeps.trans {H H' H2 : Nat → Prop} {w w' w2 : World} (h : Keeps H H' w w') (k : Keeps H' H2 w' w2) : Keeps H H2 w w2 :=
  ⟨Nat.le_trans h.size k.size, fun g hg hn => (k.block g (Nat.lt_of_lt_of_le hg h.size) (fun e => hn (h.hot g hg e))).trans (h.block g hg hn), fun g hg e => h.hot g hg (k.hot g (Nat.lt_of_lt_of_le hg h.size) e)⟩
theorem Keeps.of_below {H : Nat → Prop} {w w' : World} (h : Below w.heap.size w w') : Keeps H H w w' := ⟨h.size, fun g hg _ => h.block g hg, fun _ _ h => h⟩
theorem cell_same {w w' : World} {g i : Nat} (h : w'.heap[g]? = w.heap[g]?) : w'.cell? ⟨g, i, none⟩ = w.cell? ⟨g, i, none⟩ := by simp only [World.cell?, h]
theorem RowAt.keeps {H H' : Nat → Prop} {w w' : World} {k : Nat} {v : Value} {css : List (List Value)} (h : RowAt H w k v css) (hk : Keeps H H' w w') : RowAt H' w' k v css := by
  rcases h with h | ⟨g, c, h1, h2, h3, h4, h5⟩
  · exact .inl h
  · exact .inr ⟨g, c, h1, h2, Nat.lt_of_lt_of_le h3 hk.size, fun e => h4 (hk.hot g h3 e), fun i cs hi => ⟨(h5 i cs hi).1, fun j u hj => by rw [cell_same (hk.block g h3 h4)]; exact (h5 i cs hi).2 j u hj⟩⟩
theorem NdAt.keeps {H H' : Nat → Prop} {w w' : World} (hk : Keeps H H' w w') : ∀ (r : Nat) (cs : List Value) (t : Nd), NdAt H w r cs t → NdAt H' w' r cs t
  | 0, cs, t, h => by obtain ⟨l, rfl, e⟩ := nd_zero h; rw [e]; exact nd_pl 0 l
  | r + 1, cs, .pl l, h => h
  | r + 1, cs, .cn l bs, h => by
    obtain ⟨vB, css, rfl, h2, h3⟩ := nd_cn h
    refine cn_nd (h2.keeps hk) (h3.mono fun c b hb => ?_)
    cases b with
    | mk wd t a ks => obtain ⟨vK, e1, cks, e2, e3⟩ := hb; exact ⟨vK, e1, cks, e2.keeps hk, e3.mono fun c t h => NdAt.keeps hk r c t h⟩
  | r + 1, cs, .fr l ns li ks, h => by
    obtain ⟨vN, vK, rfl, h2, cks, h3, h4⟩ := nd_fr h
    exact fr_nd (h2.keeps hk) ⟨cks, h3.keeps hk, h4.mono fun c t h => NdAt.keeps hk r c t h⟩
theorem NdsAt.keeps {H H' : Nat → Prop} {w w' : World} {r : Nat} {v : Value} {ts : List Nd} (h : NdsAt H w r v ts) (hk : Keeps H H' w w') : NdsAt H' w' r v ts := by
  obtain ⟨css, h1, h2⟩ := h
  exact ⟨css, h1.keeps hk, h2.mono fun c t h => NdAt.keeps hk r c t h⟩
theorem BkAt.keeps {H H' : Nat → Prop} {w w' : World} {r : Nat} {c : List Value} {b : Bk} (h : BkAt H w r c b) (hk : Keeps H H' w w') : BkAt H' w' r c b := by
  cases b with
  | mk wd t a ks => obtain ⟨vK, e1, e2⟩ := h; exact ⟨vK, e1, e2.keeps hk⟩
end Go.Proofs.YtbciedpjaajhcaaDoor
