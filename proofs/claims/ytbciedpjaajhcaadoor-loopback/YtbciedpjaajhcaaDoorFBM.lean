/-
  The lines of blocks, and that they give the blocks again: mathematics.
-/
import Derived.Test.YtbciedpjaajhcaaDoorBM
namespace Go.Proofs.YtbciedpjaajhcaaDoor
open Go.RowKit Go.Shelf

/-- A directive's text. -/
def dotT (w t : ByteArray) : ByteArray := if t = E then ba (46 :: bl w) else ba (46 :: (bl w ++ 32 :: bl t))
def Bk.word : Bk → ByteArray
  | .mk w _ _ _ => w
def headL : List Bk → Lz
  | [] => ⟨E, 0, false⟩
  | .mk w t a _ :: _ => ⟨dotT w t, a, false⟩
mutual
/-- The lines of a block. -/
def flatT : Nd → List Lz
  | .pl l => [l]
  | .cn l bs => flatBs bs ++ [⟨dotT kEndif E, l.at_, false⟩]
  | .fr l _ _ ks => l :: (flatNs ks ++ [⟨dotT kEndfor E, l.at_, false⟩])
def flatNs : List Nd → List Lz
  | [] => []
  | n :: ns => flatT n ++ flatNs ns
def flatBs : List Bk → List Lz
  | [] => []
  | b :: bs => flatB b ++ flatBs bs
def flatB : Bk → List Lz
  | .mk w t a ks => ⟨dotT w t, a, false⟩ :: flatNs ks
end
mutual
/-- The blocks that the lines of blocks give: only the line of a condition may be another. -/
def rebT : Nd → Nd
  | .pl l => .pl l
  | .cn _ bs => .cn (headL bs) (rebBs bs)
  | .fr l ns li ks => .fr l ns li (rebNs ks)
def rebNs : List Nd → List Nd
  | [] => []
  | n :: ns => rebT n :: rebNs ns
def rebBs : List Bk → List Bk
  | [] => []
  | b :: bs => rebB b :: rebBs bs
def rebB : Bk → Bk
  | .mk w t a ks => .mk w t a (rebNs ks)
end
/-- May a branch stand behind a word? -/
def okB (w t : ByteArray) : Option ByteArray → Prop
  | none => kindW w = 1
  | some v => kindW w = 3 ∧ ¬ v = kElse ∧ (w = kElse → t = E)
mutual
/-- A block as lines give it, with room for blocks within. -/
def wfT : Nd → Nat → Prop
  | .pl l, _ => kindW (dirW l) = 0
  | .cn _ bs, r => 1 ≤ r ∧ bs ≠ [] ∧ wfBs bs (r - 1) none
  | .fr l ns li ks, r => 1 ≤ r ∧ kindW (dirW l) = 2 ∧ forText (dirX l) = some (ns, li) ∧ wfNs ks (r - 1)
def wfNs : List Nd → Nat → Prop
  | [], _ => True
  | n :: ns, r => wfT n r ∧ wfNs ns r
def wfBs : List Bk → Nat → Option ByteArray → Prop
  | [], _, _ => True
  | b :: bs, r, p => wfB b r p ∧ wfBs bs r (some b.word)
def wfB : Bk → Nat → Option ByteArray → Prop
  | .mk w t _ ks, r, p => okB w t p ∧ ltrim (bl t) = bl t ∧ wfNs ks r
end

theorem kind_casesF {w : ByteArray} (h : ¬ kindW w = 0) : w = kIf ∨ w = kIfdef ∨ w = kIfndef ∨ w = kIfmake ∨ w = kIfnmake ∨ w = kFor ∨ w = kElif ∨ w = kElse ∨ w = kEndif ∨ w = kEndfor := by
  unfold kindW at h
  split at h
  · rename_i h1; rcases h1 with h1 | h1 | h1 | h1 | h1 <;> simp [h1]
  · split at h
    · rename_i h1; simp [h1]
    · split at h
      · rename_i h1; rcases h1 with h1 | h1 <;> simp [h1]
      · split at h
        · rename_i h1; simp [h1]
        · split at h
          · rename_i h1; simp [h1]
          · exact absurd rfl h
theorem kind_small {w : ByteArray} (h : ¬ kindW w = 0) : ∃ c l, bl w = c :: l ∧ ∀ x ∈ c :: l, small x = true := by
  rcases kind_casesF h with rfl | rfl | rfl | rfl | rfl | rfl | rfl | rfl | rfl | rfl <;> exact ⟨_, _, rfl, by decide⟩
theorem small_noB {c : UInt8} (h : small c = true) : isB c = false := by
  unfold small at h
  simp only [Bool.and_eq_true, decide_eq_true_eq] at h
  have e1 : ¬ c = 32 := fun e => by rw [e] at h; exact absurd h.1 (by decide)
  have e2 : ¬ c = 9 := fun e => by rw [e] at h; exact absurd h.1 (by decide)
  simp [isB, e1, e2]
theorem takeSmall {l t : List UInt8} (h : ∀ x ∈ l, small x = true) (ht : t.takeWhile small = []) : (l ++ t).takeWhile small = l ∧ (l ++ t).dropWhile small = t := by
  induction l with
  | nil =>
    refine ⟨ht, ?_⟩
    cases t with
    | nil => rfl
    | cons c t =>
      cases hc : small c with
      | true => rw [List.takeWhile_cons_of_pos hc] at ht; cases ht
      | false => rw [List.nil_append, List.dropWhile_cons_of_neg (by simp [hc])]
  | cons x l ih =>
    have hx := h x (by simp)
    obtain ⟨i1, i2⟩ := ih fun y hy => h y (by simp [hy])
    rw [List.cons_append, List.takeWhile_cons_of_pos hx, List.dropWhile_cons_of_pos hx, i1, i2]
    exact ⟨rfl, rfl⟩
theorem dir_dot {w t : ByteArray} (a : Int) (hw : ¬ kindW w = 0) (ht : ltrim (bl t) = bl t) : dirW ⟨dotT w t, a, false⟩ = w ∧ dirX ⟨dotT w t, a, false⟩ = t := by
  obtain ⟨c, l, hl, hs⟩ := kind_small hw
  have hc := hs c (by simp)
  have key : dirL false (bl (dotT w t)) = (bl w, bl t) := by
    unfold dotT
    by_cases hE : t = E
    · subst hE
      rw [if_pos rfl, bl_ba]
      show dirL false (46 :: bl w) = _
      rw [dirL, if_neg (by simp), hl, ltrim_miss _ (small_noB hc), dirB]
      obtain ⟨e1, e2⟩ := takeSmall (t := []) hs rfl
      rw [List.append_nil] at e1 e2
      rw [e1, e2, if_neg (by simp [endsL])]
      rfl
    · rw [if_neg hE, bl_ba]
      rw [dirL, if_neg (by simp), hl, List.cons_append, ltrim_miss _ (small_noB hc), dirB]
      obtain ⟨e1, e2⟩ := takeSmall (l := c :: l) (t := 32 :: bl t) hs (by rw [List.takeWhile_cons_of_neg (by decide)])
      rw [List.cons_append] at e1 e2
      rw [e1, e2, if_neg (by simp [endsL]), ltrim_hit _ (by decide), ht]
  unfold dirW dirX
  rw [key]
  exact ⟨ba_bl w, ba_bl t⟩
/-- A block put into the state. -/
def Sx.put (s : Sx) (n : Nd) : Sx := Sx.addTo s.done s.op n
def Sx.putN (s : Sx) : List Nd → Sx
  | [] => s
  | n :: ns => (s.put n).putN ns
theorem addTo_snoc (done : List Nd) (b : List Fm) (f : Fm) (n : Nd) : Sx.addTo done (b ++ [f]) n = ⟨done, b ++ [f.add n]⟩ := by
  unfold Sx.addTo
  rw [List.getLast?_concat, List.dropLast_concat]
theorem addTo_len (done : List Nd) (fs : List Fm) (n : Nd) : (Sx.addTo done fs n).op.length = fs.length := by
  unfold Sx.addTo
  cases h : fs.getLast? with
  | none => rfl
  | some f =>
    obtain ⟨l, rfl⟩ := List.getLast?_eq_some_iff.1 h
    simp
theorem putN_cn (done : List Nd) (b : List Fm) (l : Lz) (bs : List Bk) (w t : ByteArray) (a : Int) : ∀ (ns ks : List Nd), (⟨done, b ++ [.cn l bs w t a ks]⟩ : Sx).putN ns = ⟨done, b ++ [.cn l bs w t a (ks ++ ns)]⟩
  | [], ks => by rw [List.append_nil]; rfl
  | n :: ns, ks => by
    rw [Sx.putN, Sx.put, addTo_snoc, Fm.add, putN_cn done b l bs w t a ns (ks ++ [n]), List.append_assoc]; rfl
theorem putN_fr (done : List Nd) (b : List Fm) (l : Lz) (nm : List ByteArray) (li : ByteArray) : ∀ (ns ks : List Nd), (⟨done, b ++ [.fr l nm li ks]⟩ : Sx).putN ns = ⟨done, b ++ [.fr l nm li (ks ++ ns)]⟩
  | [], ks => by rw [List.append_nil]; rfl
  | n :: ns, ks => by
    rw [Sx.putN, Sx.put, addTo_snoc, Fm.add, putN_fr done b l nm li ns (ks ++ [n]), List.append_assoc]; rfl
theorem putN_nil (done : List Nd) : ∀ ns : List Nd, (⟨done, []⟩ : Sx).putN ns = ⟨done ++ ns, []⟩
  | [] => by rw [List.append_nil]; rfl
  | n :: ns => by
    rw [Sx.putN, Sx.put]
    show (⟨done ++ [n], []⟩ : Sx).putN ns = _
    rw [putN_nil (done ++ [n]) ns, List.append_assoc]; rfl
theorem run_step {s s' : Sx} {x : Lz} (l : List Lz) (h : s.step x = .ok s') : s.run (x :: l) = s'.run l := by rw [Sx.run, h]
theorem step_endif (done : List Nd) (b : List Fm) (l : Lz) (bs : List Bk) (w t : ByteArray) (a z : Int) (ks : List Nd) : (⟨done, b ++ [.cn l bs w t a ks]⟩ : Sx).step ⟨dotT kEndif E, z, false⟩ = .ok (Sx.addTo done b (.cn l (bs ++ [.mk w t a ks]))) := by
  obtain ⟨e1, e2⟩ := dir_dot (w := kEndif) (t := E) z (by decide) rfl
  have hk : kindW kEndif = 4 := by decide
  unfold Sx.step
  rw [e1, hk, e2]
  simp only [List.getLast?_concat, List.dropLast_concat, ne_eq, not_true_eq_false, if_false, Fm.close]
theorem step_endfor (done : List Nd) (b : List Fm) (l : Lz) (nm : List ByteArray) (li : ByteArray) (z : Int) (ks : List Nd) : (⟨done, b ++ [.fr l nm li ks]⟩ : Sx).step ⟨dotT kEndfor E, z, false⟩ = .ok (Sx.addTo done b (.fr l nm li ks)) := by
  obtain ⟨e1, e2⟩ := dir_dot (w := kEndfor) (t := E) z (by decide) rfl
  have hk : kindW kEndfor = 5 := by decide
  unfold Sx.step
  rw [e1, hk, e2]
  simp only [List.getLast?_concat, List.dropLast_concat, ne_eq, not_true_eq_false, if_false, Fm.close]
theorem step_part (done : List Nd) (b : List Fm) (l : Lz) (bs : List Bk) (w t w' t' : ByteArray) (a a' : Int) (ks : List Nd) (h : okB w' t' (some w)) (ht : ltrim (bl t') = bl t') : (⟨done, b ++ [.cn l bs w t a ks]⟩ : Sx).step ⟨dotT w' t', a', false⟩ = .ok ⟨done, b ++ [.cn l (bs ++ [.mk w t a ks]) w' t' a' []]⟩ := by
  obtain ⟨h1, h2, h3⟩ := h
  obtain ⟨e1, e2⟩ := dir_dot (w := w') (t := t') a' (by rw [h1]; decide) ht
  unfold Sx.step
  rw [e1, h1, e2]
  have hn : ¬ (w = kElse ∨ (w' = kElse ∧ t' ≠ E)) := by
    rintro (h | ⟨h, k⟩)
    · exact h2 h
    · exact k (h3 h)
  simp only [List.getLast?_concat, List.dropLast_concat, if_neg hn]
theorem step_open (done : List Nd) (b : List Fm) (w t : ByteArray) (a : Int) (h : kindW w = 1) (ht : ltrim (bl t) = bl t) (hb : b.length < 32) : (⟨done, b⟩ : Sx).step ⟨dotT w t, a, false⟩ = .ok ⟨done, b ++ [.cn ⟨dotT w t, a, false⟩ [] w t a []]⟩ := by
  obtain ⟨e1, e2⟩ := dir_dot (w := w) (t := t) a (by rw [h]; decide) ht
  unfold Sx.step
  rw [e1, h, e2]
  simp only [if_neg (show ¬ b.length = 32 by omega)]
theorem step_for (done : List Nd) (b : List Fm) (x : Lz) (nm : List ByteArray) (li : ByteArray) (h : kindW (dirW x) = 2) (hf : forText (dirX x) = some (nm, li)) (hb : b.length < 32) : (⟨done, b⟩ : Sx).step x = .ok ⟨done, b ++ [.fr x nm li []]⟩ := by
  unfold Sx.step
  rw [h, hf]
  simp only [if_neg (show ¬ b.length = 32 by omega)]
theorem step_plain (s : Sx) (x : Lz) (h : kindW (dirW x) = 0) : s.step x = .ok (s.put (.pl x)) := by
  unfold Sx.step
  rw [h]; rfl

mutual
theorem run_flatT : ∀ (n : Nd) (r : Nat) (done : List Nd) (b : List Fm) (l : List Lz), wfT n r → b.length + r ≤ 32 → (⟨done, b⟩ : Sx).run (flatT n ++ l) = (Sx.addTo done b (rebT n)).run l
  | .pl x, r, done, b, l, h, hb => by
    unfold wfT at h
    unfold flatT rebT
    exact run_step l (step_plain _ x h)
  | .cn x [], r, done, b, l, h, hb => by
    unfold wfT at h
    exact absurd rfl h.2.1
  | .cn x (.mk w t a ks :: bs), r, done, b, l, h, hb => by
    unfold wfT wfBs wfB at h
    obtain ⟨h1, _, ⟨h2, h3, h4⟩, h5⟩ := h
    unfold flatT flatBs flatB rebT rebBs rebB headL
    rw [List.append_assoc, List.append_assoc, List.cons_append, run_step _ (step_open done b w t a h2 h3 (by omega))]
    rw [run_flatNs ks (r - 1) _ _ _ h4 (by simp; omega), putN_cn, List.nil_append, List.cons_append, List.nil_append]
    rw [run_flatBs bs (r - 1) done b _ [] w t a _ x.at_ l h5 (by omega)]
    rfl
  | .fr x nm li ks, r, done, b, l, h, hb => by
    unfold wfT at h
    obtain ⟨h1, h2, h3, h4⟩ := h
    unfold flatT rebT
    rw [List.cons_append, run_step _ (step_for done b x nm li h2 h3 (by omega)), List.append_assoc]
    rw [run_flatNs ks (r - 1) _ _ _ h4 (by simp; omega), putN_fr, List.nil_append, List.cons_append, List.nil_append]
    exact run_step l (step_endfor done b x nm li x.at_ _)
theorem run_flatNs : ∀ (ns : List Nd) (r : Nat) (done : List Nd) (b : List Fm) (l : List Lz), wfNs ns r → b.length + r ≤ 32 → (⟨done, b⟩ : Sx).run (flatNs ns ++ l) = ((⟨done, b⟩ : Sx).putN (rebNs ns)).run l
  | [], r, done, b, l, h, hb => by unfold flatNs rebNs; rfl
  | n :: ns, r, done, b, l, h, hb => by
    unfold wfNs at h
    unfold flatNs rebNs
    rw [List.append_assoc, run_flatT n r done b _ h.1 hb, Sx.putN, Sx.put]
    exact run_flatNs ns r _ _ l h.2 (Nat.le_trans (Nat.le_of_eq (congrArg (· + r) (addTo_len done b (rebT n)))) hb)
theorem run_flatBs : ∀ (bs : List Bk) (r : Nat) (done : List Nd) (b : List Fm) (x : Lz) (b0 : List Bk) (w t : ByteArray) (a : Int) (ks : List Nd) (z : Int) (l : List Lz), wfBs bs r (some w) → b.length + 1 + r ≤ 32 → (⟨done, b ++ [.cn x b0 w t a ks]⟩ : Sx).run (flatBs bs ++ (⟨dotT kEndif E, z, false⟩ :: l)) = (Sx.addTo done b (.cn x (b0 ++ .mk w t a ks :: rebBs bs))).run l
  | [], r, done, b, x, b0, w, t, a, ks, z, l, h, hb => by
    unfold flatBs rebBs
    exact run_step l (step_endif done b x b0 w t a z ks)
  | .mk w' t' a' ks' :: bs, r, done, b, x, b0, w, t, a, ks, z, l, h, hb => by
    unfold wfBs wfB at h
    obtain ⟨⟨h2, h3, h4⟩, h5⟩ := h
    unfold flatBs flatB rebBs rebB
    rw [List.append_assoc, List.cons_append, run_step _ (step_part done b x b0 w t w' t' a a' ks h2 h3)]
    rw [run_flatNs ks' r _ _ _ h4 (by simp; omega), putN_cn, List.nil_append]
    rw [run_flatBs bs r done b x _ w' t' a' _ z l h5 hb, List.append_assoc]
    rfl
end
/-- The lines of well made blocks give the blocks again. -/
theorem build_flat {ns : List Nd} (h : wfNs ns 32) : buildL (flatNs ns) = .good (rebNs ns) := by
  have h2 := run_flatNs ns 32 [] [] [] h (by simp)
  rw [List.append_nil, putN_nil, List.nil_append] at h2
  unfold buildL
  rw [h2]; rfl
def lastW : List Bk → Option ByteArray → Option ByteArray
  | [], p => p
  | b :: bs, _ => lastW bs (some b.word)
theorem wfNs_append (r : Nat) : ∀ a b : List Nd, wfNs (a ++ b) r ↔ wfNs a r ∧ wfNs b r
  | [], b => by simp [wfNs]
  | n :: a, b => by simp only [List.cons_append, wfNs, wfNs_append r a b, and_assoc]
theorem wfNs_one {n : Nd} {r : Nat} : wfNs [n] r ↔ wfT n r := by simp [wfNs]
theorem wfBs_append (r : Nat) : ∀ (a b : List Bk) (p : Option ByteArray), wfBs (a ++ b) r p ↔ wfBs a r p ∧ wfBs b r (lastW a p)
  | [], b, p => by simp [wfBs, lastW]
  | n :: a, b, p => by simp only [List.cons_append, wfBs, lastW, wfBs_append r a b, and_assoc]
theorem lastW_snoc : ∀ (a : List Bk) (b : Bk) (p : Option ByteArray), lastW (a ++ [b]) p = some b.word
  | [], _, _ => rfl
  | _ :: a, b, _ => lastW_snoc a b _
theorem wfBs_one {b : Bk} {r : Nat} {p : Option ByteArray} : wfBs [b] r p ↔ wfB b r p := by simp [wfBs]
def wfFm : Fm → Nat → Prop
  | .cn _ bs w t a ks, r => wfBs (bs ++ [.mk w t a ks]) r none
  | .fr l ns li ks, r => kindW (dirW l) = 2 ∧ forText (dirX l) = some (ns, li) ∧ wfNs ks r
theorem wfFm_add {f : Fm} {r : Nat} {n : Nd} (h : wfFm f r) (hn : wfT n r) : wfFm (f.add n) r := by
  cases f with
  | cn l bs w t a ks =>
    rw [Fm.add, wfFm, wfBs_append, wfBs_one]
    rw [wfFm, wfBs_append, wfBs_one] at h
    unfold wfB at h ⊢
    exact ⟨h.1, h.2.1, h.2.2.1, (wfNs_append r ks [n]).2 ⟨h.2.2.2, wfNs_one.2 hn⟩⟩
  | fr l ns li ks =>
    exact ⟨h.1, h.2.1, (wfNs_append r ks [n]).2 ⟨h.2.2, wfNs_one.2 hn⟩⟩
theorem wfFm_close {f : Fm} {r : Nat} (h : wfFm f r) : wfT f.close (r + 1) := by
  cases f with
  | cn l bs w t a ks => unfold Fm.close wfT; exact ⟨by omega, by simp, h⟩
  | fr l ns li ks => unfold Fm.close wfT; exact ⟨by omega, h.1, h.2.1, h.2.2⟩
/-- The frames that are open, the innermost last; k is how many stand outside of them. -/
def wfFs : Nat → List Fm → Prop
  | _, [] => True
  | k, f :: fs => wfFm f (31 - k) ∧ wfFs (k + 1) fs
theorem wfFs_append : ∀ (a b : List Fm) (k : Nat), wfFs k (a ++ b) ↔ wfFs k a ∧ wfFs (k + a.length) b
  | [], b, k => by simp [wfFs]
  | f :: a, b, k => by
    rw [List.cons_append, wfFs, wfFs, wfFs_append a b (k + 1), List.length_cons, and_assoc, show k + 1 + a.length = k + (a.length + 1) by omega]
theorem wfFs_snoc {b : List Fm} {f : Fm} : wfFs 0 (b ++ [f]) ↔ wfFs 0 b ∧ wfFm f (31 - b.length) := by
  rw [wfFs_append]; simp [wfFs]
def Sx.wf (s : Sx) : Prop := wfNs s.done 32 ∧ s.op.length ≤ 32 ∧ wfFs 0 s.op
theorem wf_addTo {done : List Nd} {b : List Fm} {n : Nd} (h : (⟨done, b⟩ : Sx).wf) (hn : wfT n (32 - b.length)) : (Sx.addTo done b n).wf := by
  obtain ⟨h1, h2, h3⟩ := h
  unfold Sx.addTo
  cases hb : b.getLast? with
  | none =>
    have : b = [] := List.getLast?_eq_none_iff.1 hb
    subst this
    exact ⟨(wfNs_append 32 done [n]).2 ⟨h1, wfNs_one.2 hn⟩, h2, h3⟩
  | some f =>
    obtain ⟨l, rfl⟩ := List.getLast?_eq_some_iff.1 hb
    have h3 : wfFs 0 (l ++ [f]) := h3
    rw [wfFs_snoc] at h3
    rw [List.length_append, List.length_singleton, show 32 - (l.length + 1) = 31 - l.length by omega] at hn
    refine ⟨h1, ?_, ?_⟩
    · simpa using h2
    · show wfFs 0 ((l ++ [f]).dropLast ++ [f.add n])
      rw [List.dropLast_concat, wfFs_snoc]
      exact ⟨h3.1, wfFm_add h3.2 hn⟩
theorem ltrim_ltrim : ∀ l : List UInt8, ltrim (ltrim l) = ltrim l
  | [] => rfl
  | c :: l => by
    cases h : isB c with
    | true => rw [ltrim_hit l h]; exact ltrim_ltrim l
    | false => rw [ltrim_miss l h, ltrim_miss l h]
theorem dirX_ltrim (x : Lz) : ltrim (bl (dirX x)) = bl (dirX x) := by
  unfold dirX
  rw [bl_ba]
  have hB : ∀ s, ltrim (dirB s).2 = (dirB s).2 := fun s => by
    unfold dirB
    split
    · rfl
    · exact ltrim_ltrim _
  cases bl x.text with
  | nil => rfl
  | cons c t =>
    rw [dirL]
    split
    · rfl
    · exact hB _
theorem kind_leF (w : ByteArray) : kindW w = 0 ∨ kindW w = 1 ∨ kindW w = 2 ∨ kindW w = 3 ∨ kindW w = 4 ∨ kindW w = 5 := by
  unfold kindW
  repeat' split
  all_goals simp
theorem else_kind : kindW kElse = 3 := by decide
theorem wf_step {s s' : Sx} {x : Lz} (h : s.wf) (hs : s.step x = .ok s') : s'.wf := by
  obtain ⟨done, b⟩ := s
  have h0 := h
  obtain ⟨h1, h2, h3⟩ := h
  have h2 : b.length ≤ 32 := h2
  have h3 : wfFs 0 b := h3
  unfold Sx.step at hs
  rcases kind_leF (dirW x) with hk | hk | hk | hk | hk | hk
  · rw [hk] at hs
    cases hs
    exact wf_addTo h0 (by unfold wfT; exact hk)
  · rw [hk] at hs
    by_cases hb : b.length = 32
    · simp only [if_pos hb] at hs; cases hs
    · simp only [if_neg hb] at hs
      cases hs
      refine ⟨h1, by simp; omega, ?_⟩
      show wfFs 0 (b ++ [_])
      rw [wfFs_snoc]
      refine ⟨h3, ?_⟩
      rw [wfFm, List.nil_append, wfBs_one]
      unfold wfB
      exact ⟨hk, dirX_ltrim x, trivial⟩
  · rw [hk] at hs
    cases hf : forText (dirX x) with
    | none => simp only [hf] at hs; cases hs
    | some p =>
      obtain ⟨ns, li⟩ := p
      simp only [hf] at hs
      by_cases hb : b.length = 32
      · simp only [if_pos hb] at hs; cases hs
      · simp only [if_neg hb] at hs
        cases hs
        refine ⟨h1, by simp; omega, ?_⟩
        show wfFs 0 (b ++ [_])
        rw [wfFs_snoc]
        exact ⟨h3, hk, hf, trivial⟩
  · rw [hk] at hs
    simp only at hs
    split at hs
    · rename_i l bs w0 t0 a0 ks hg
      obtain ⟨d, rfl⟩ := List.getLast?_eq_some_iff.1 hg
      rw [wfFs_snoc] at h3
      split at hs
      · cases hs
      · rename_i hn
        cases hs
        refine ⟨h1, by simpa using h2, ?_⟩
        show wfFs 0 ((d ++ [_]).dropLast ++ [_])
        rw [List.dropLast_concat, wfFs_snoc]
        refine ⟨h3.1, ?_⟩
        rw [wfFm, wfBs_append, wfBs_one, lastW_snoc]
        refine ⟨h3.2, ?_⟩
        unfold wfB
        refine ⟨⟨hk, fun e => hn (.inl e), fun e => ?_⟩, dirX_ltrim x, trivial⟩
        exact Classical.byContradiction fun k => hn (.inr ⟨e, k⟩)
    · cases hs
  · rw [hk] at hs
    simp only at hs
    split at hs
    · rename_i l bs w0 t0 a0 ks hg
      obtain ⟨d, rfl⟩ := List.getLast?_eq_some_iff.1 hg
      rw [wfFs_snoc] at h3
      rw [List.length_append, List.length_singleton] at h2
      split at hs
      · cases hs
      · cases hs
        rw [List.dropLast_concat]
        refine wf_addTo ⟨h1, by show d.length ≤ 32; omega, h3.1⟩ ?_
        rw [show 32 - d.length = 31 - d.length + 1 by omega]
        exact wfFm_close h3.2
    · cases hs
  · rw [hk] at hs
    simp only at hs
    split at hs
    · rename_i l ns li ks hg
      obtain ⟨d, rfl⟩ := List.getLast?_eq_some_iff.1 hg
      rw [wfFs_snoc] at h3
      rw [List.length_append, List.length_singleton] at h2
      split at hs
      · cases hs
      · cases hs
        rw [List.dropLast_concat]
        refine wf_addTo ⟨h1, by show d.length ≤ 32; omega, h3.1⟩ ?_
        rw [show 32 - d.length = 31 - d.length + 1 by omega]
        exact wfFm_close h3.2
    · cases hs
theorem wf_run : ∀ (l : List Lz) {s : Sx} {ts : List Nd}, s.wf → s.run l = .good ts → wfNs ts 32
  | [], s, ts, h, hr => by
    unfold Sx.run at hr
    split at hr
    · cases hr
    · cases hr; exact h.1
  | x :: l, s, ts, h, hr => by
    unfold Sx.run at hr
    split at hr
    · cases hr
    · rename_i s' hs
      exact wf_run l (wf_step h hs) hr
theorem build_wf {l : List Lz} {ts : List Nd} (h : buildL l = .good ts) : wfNs ts 32 :=
  wf_run l (s := ⟨[], []⟩) ⟨trivial, by simp, trivial⟩ h
/-- Blocks of the lines of what lines give. -/
theorem build_back {l : List Lz} {ts : List Nd} (h : buildL l = .good ts) : buildL (flatNs ts) = .good (rebNs ts) := build_flat (build_wf h)
end Go.Proofs.YtbciedpjaajhcaaDoor
