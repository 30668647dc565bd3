import Derived.Test.YtbciedpjaajhcaaDoorFA
import Derived.Test.YtbciedpjaajhcaaDoorBPL
import Derived.Test.YtbciedpjaajhcaaDoorBBM
import Derived.Deep.RegionHeld3
import Derived.Deep.CutRange
/-
  Blocks and the blocks that their lines give, beside one another in memory.
-/
namespace Go.Proofs.YtbciedpjaajhcaaDoor
open Go.RowKit Go.Shelf

theorem forL_le : ∀ (k : Nat) (ns : List ByteArray) (t : ByteArray) {p : List ByteArray × ByteArray}, forL k ns t = some p → p.1.length ≤ ns.length + k
  | 0, _, _, _, h => by unfold forL at h; cases h
  | k + 1, ns, t, p, h => by
    unfold forL at h
    split at h
    · split at h
      · cases h
      · cases h; simp
    · split at h
      · cases h
      · have := forL_le k _ _ h
        simp only [List.length_append, List.length_singleton] at this
        omega
theorem for_le {t li : ByteArray} {ns : List ByteArray} (h : forText t = some (ns, li)) : ns.length ≤ t.size + 1 := by
  have := forL_le _ _ _ h
  simpa using this
mutual
/-- No for has many names. -/
def nmT : Nd → Prop
  | .pl _ => True
  | .cn _ bs => nmBs bs
  | .fr _ ns _ ks => ns.length ≤ 4001 ∧ nmNs ks
def nmNs : List Nd → Prop
  | [] => True
  | n :: ns => nmT n ∧ nmNs ns
def nmBs : List Bk → Prop
  | [] => True
  | b :: bs => nmB b ∧ nmBs bs
def nmB : Bk → Prop
  | .mk _ _ _ ks => nmNs ks
end
mutual
theorem nmFlatT : ∀ (t : Nd) (r : Nat), wfT t r → shortL (flatT t) → nmT t
  | .pl _, _, _, _ => by unfold nmT; trivial
  | .cn _ bs, r, h, hs => by
    unfold wfT at h; unfold flatT at hs; unfold nmT
    exact nm_flatBs bs _ _ h.2.2 (shortL_app.1 hs).1
  | .fr l ns li ks, r, h, hs => by
    unfold wfT at h; unfold flatT at hs; unfold nmT
    have h1 := shortL_cons.1 hs
    exact ⟨by have := for_le h.2.2.1; have := (dir_size l).2; have := h1.1; omega, nm_flatNs ks _ h.2.2.2 (shortL_app.1 h1.2).1⟩
theorem nm_flatNs : ∀ (ts : List Nd) (r : Nat), wfNs ts r → shortL (flatNs ts) → nmNs ts
  | [], _, _, _ => by unfold nmNs; trivial
  | n :: ns, r, h, hs => by
    unfold wfNs at h; unfold flatNs at hs; unfold nmNs
    exact ⟨nmFlatT n r h.1 (shortL_app.1 hs).1, nm_flatNs ns r h.2 (shortL_app.1 hs).2⟩
theorem nm_flatBs : ∀ (bs : List Bk) (r : Nat) (p : Option ByteArray), wfBs bs r p → shortL (flatBs bs) → nmBs bs
  | [], _, _, _, _ => by unfold nmBs; trivial
  | b :: bs, r, p, h, hs => by
    unfold wfBs at h; unfold flatBs at hs; unfold nmBs
    exact ⟨nm_flatB b r p h.1 (shortL_app.1 hs).1, nm_flatBs bs r _ h.2 (shortL_app.1 hs).2⟩
theorem nm_flatB : ∀ (b : Bk) (r : Nat) (p : Option ByteArray), wfB b r p → shortL (flatB b) → nmB b
  | .mk w t a ks, r, p, h, hs => by
    unfold wfB at h; unfold flatB at hs; unfold nmB
    exact nm_flatNs ks r h.2.2 (shortL_cons.1 hs).2
end
theorem nmNs_get : ∀ {a : List Nd} {i : Nat} {t : Nd}, nmNs a → a[i]? = some t → nmT t
  | [], _, _, _, h => by simp at h
  | n :: ns, 0, t, hn, h => by unfold nmNs at hn; simp at h; subst h; exact hn.1
  | n :: ns, i + 1, t, hn, h => by unfold nmNs at hn; simp at h; exact nmNs_get hn.2 h
theorem nmBs_get : ∀ {a : List Bk} {i : Nat} {b : Bk}, nmBs a → a[i]? = some b → nmB b
  | [], _, _, _, h => by simp at h
  | n :: ns, 0, t, hn, h => by unfold nmBs at hn; simp at h; subst h; exact hn.1
  | n :: ns, i + 1, t, hn, h => by unfold nmBs at hn; simp at h; exact nmBs_get hn.2 h
theorem rebNs_len : ∀ ts : List Nd, (rebNs ts).length = ts.length
  | [] => by unfold rebNs; rfl
  | n :: ns => by unfold rebNs; simp [rebNs_len ns]
theorem rebBs_len : ∀ bs : List Bk, (rebBs bs).length = bs.length
  | [] => by unfold rebBs; rfl
  | n :: ns => by unfold rebBs; simp [rebBs_len ns]
theorem rebNs_get : ∀ {ts : List Nd} {i : Nat} {t : Nd}, ts[i]? = some t → (rebNs ts)[i]? = some (rebT t)
  | [], _, _, h => by simp at h
  | n :: ns, 0, t, h => by unfold rebNs; simp at h; subst h; simp
  | n :: ns, i + 1, t, h => by unfold rebNs; simp at h; simpa using rebNs_get h
theorem rebBs_get : ∀ {bs : List Bk} {i : Nat} {b : Bk}, bs[i]? = some b → (rebBs bs)[i]? = some (rebB b)
  | [], _, _, h => by simp at h
  | n :: ns, 0, t, h => by unfold rebBs; simp at h; subst h; simp
  | n :: ns, i + 1, t, h => by unfold rebBs; simp at h; simpa using rebBs_get h

abbrev nmV (ns : List ByteArray) : List (List Value) := ns.map fun n => [.string n]
theorem br_of {w : World} {r : Nat} {css : List (List Value)} {bs : List Bk} (h : All2 (BkAt H0 w r) css bs) : All2 (BrV w (r + 1)) css bs := h.mono fun c b hb => by
  cases b with
  | mk wd t a ks => obtain ⟨vK, e1, e2⟩ := hb; exact ⟨wd, t, a, vK, ks, e1, rfl, e2⟩
/-- A block, and the one that its lines give. -/
theorem nd_two {w : World} {r : Nat} {c d : List Value} {t : Nd} (h1 : NdAt H0 w r c t) (h2 : NdAt H0 w r d (rebT t)) (hn : nmT t) :
    ∃ (k : Int) (l m : Lz) (vB vB' vN vN' : Value) (li : ByteArray) (vK vK' : Value) (ns : List ByteArray) (bs : List Bk) (css css' : List (List Value)) (ks : List Nd),
      c = ndC k l vB vN li vK ∧ d = ndC k m vB' vN' li vK' ∧ (k = 2 ∨ ¬ k = 2 ∧ l = m) ∧ RowAt H0 w 4 vB css ∧ RowAt H0 w 4 vB' css' ∧ All2 (BrV w r) css bs ∧ All2 (BrV w r) css' (rebBs bs) ∧ RowAt H0 w 1 vN (nmV ns) ∧ RowAt H0 w 1 vN' (nmV ns) ∧ Kd w vK ks r ∧ Kd w vK' (rebNs ks) r ∧ ns.length ≤ 4001 ∧ nmBs bs ∧ nmNs ks ∧ 1 + loadB bs + loadN ks ≤ t.load := by
  cases t with
  | pl l =>
    unfold rebT at h2
    refine ⟨1, l, l, nilS, nilS, nilS, nilS, E, nilS, nilS, [], [], [], [], [], nd_pl' h1, nd_pl' h2, .inr ⟨by decide, rfl⟩, .inl ⟨rfl, rfl⟩, .inl ⟨rfl, rfl⟩, .nil, ?_, .inl ⟨rfl, rfl⟩, .inl ⟨rfl, rfl⟩, Kd.noth w r, ?_, by simp, ?_, ?_, by simp [Nd.load, loadB, loadN]⟩
    · unfold rebBs; exact .nil
    · unfold rebNs; exact Kd.noth w r
    · unfold nmBs; trivial
    · unfold nmNs; trivial
  | cn l bs =>
    cases r with
    | zero => exact h1.elim
    | succ r =>
      unfold rebT at h2
      unfold nmT at hn
      obtain ⟨vB, css, e1, e2, e3⟩ := nd_cn h1
      obtain ⟨vB', css', d1, d2, d3⟩ := nd_cn h2
      refine ⟨2, l, headL bs, vB, vB', nilS, nilS, E, nilS, nilS, [], bs, css, css', [], e1, d1, .inl rfl, e2, d2, br_of e3, br_of d3, .inl ⟨rfl, rfl⟩, .inl ⟨rfl, rfl⟩, Kd.noth w _, ?_, by simp, hn, ?_, by simp [Nd.load, loadN]⟩
      · unfold rebNs; exact Kd.noth w _
      · unfold nmNs; trivial
  | fr l ns li ks =>
    cases r with
    | zero => exact h1.elim
    | succ r =>
      unfold rebT at h2
      unfold nmT at hn
      obtain ⟨vN, vK, e1, e2, e3⟩ := nd_fr h1
      obtain ⟨vN', vK', d1, d2, d3⟩ := nd_fr h2
      refine ⟨3, l, l, nilS, nilS, vN, vN', li, vK, vK', ns, [], [], [], ks, e1, d1, .inr ⟨by decide, rfl⟩, .inl ⟨rfl, rfl⟩, .inl ⟨rfl, rfl⟩, .nil, ?_, e2, d2, e3, d3, hn.1, ?_, hn.2, by simp [Nd.load, loadB]⟩
      · unfold rebBs; exact .nil
      · unfold nmBs; trivial
/-- The j-th name. -/
theorem nm_pick {w : World} {a : Option Addr} {n c : Nat} {ns : List ByteArray} (h : RowAt H0 w 1 (.slice a n c) (nmV ns)) {j : Nat} {q : ByteArray} (hj : ns[j]? = some q) : ∃ g, a = some ⟨g, 0, none⟩ ∧ g < w.heap.size ∧ w.cell? ⟨g, j, none⟩ = some (.string q) := by
  have hq : (nmV ns)[j]? = some [.string q] := by simp [nmV, hj]
  rcases h with ⟨_, h⟩ | ⟨g, c', hv, _, hg, _, hcells⟩
  · rw [h] at hq; simp at hq
  · injection hv with q1 q2 q3
    refine ⟨g, q1, hg, ?_⟩
    have := (hcells j _ hq).2 0 _ rfl
    simpa using this
/-- The j-th branch of two lists. -/
theorem br_two {w : World} {r : Nat} {aB aB' : Option Addr} {m m' cB cB' : Nat} {css css' : List (List Value)} {bs : List Bk} (h1 : RowAt H0 w 4 (.slice aB m cB) css) (h2 : All2 (BrV w r) css bs) (h1' : RowAt H0 w 4 (.slice aB' m' cB') css') (h2' : All2 (BrV w r) css' (rebBs bs)) (hm : nmBs bs) {j : Nat} (hj : j < bs.length) :
    ∃ (g g' : Nat) (wd t : ByteArray) (a : Int) (aq aq' : Option Addr) (nq cq nq' cq' : Nat) (ks : List Nd), aB = some ⟨g, 0, none⟩ ∧ aB' = some ⟨g', 0, none⟩ ∧ g < w.heap.size ∧ g' < w.heap.size ∧
      (w.cell? ⟨g, j * 4, none⟩ = some (.string wd) ∧ w.cell? ⟨g, j * 4 + 1, none⟩ = some (.string t) ∧ w.cell? ⟨g, j * 4 + 2, none⟩ = some (.int .i64 a) ∧ w.cell? ⟨g, j * 4 + 3, none⟩ = some (.slice aq nq cq)) ∧
      (w.cell? ⟨g', j * 4, none⟩ = some (.string wd) ∧ w.cell? ⟨g', j * 4 + 1, none⟩ = some (.string t) ∧ w.cell? ⟨g', j * 4 + 2, none⟩ = some (.int .i64 a) ∧ w.cell? ⟨g', j * 4 + 3, none⟩ = some (.slice aq' nq' cq')) ∧
      Kd w (.slice aq nq cq) ks r ∧ Kd w (.slice aq' nq' cq') (rebNs ks) r ∧ nmNs ks ∧ loadN ks ≤ loadB bs := by
  obtain ⟨b, hb⟩ : ∃ b, bs[j]? = some b := ⟨_, List.getElem?_eq_getElem hj⟩
  obtain ⟨c, hc, wd, t, a, vK, ks, e1, e2, e3⟩ := h2.get hb
  obtain ⟨c', hc', wd', t', a', vK', ks', d1, d2, d3⟩ := h2'.get (rebBs_get hb)
  have hn := nmBs_get hm hb
  have hld := loadB_get hb
  subst e2
  unfold rebB at d2
  unfold nmB at hn
  obtain ⟨rfl, rfl, rfl, rfl⟩ : wd = wd' ∧ t = t' ∧ a = a' ∧ rebNs ks = ks' := by simpa using d2
  obtain ⟨aq, nq, cq, rfl⟩ := e3.slice
  obtain ⟨aq', nq', cq', rfl⟩ := d3.slice
  rcases h1 with ⟨_, rfl⟩ | ⟨g, x, hv, _, hg, _, hcells⟩
  · simp at hc
  rcases h1' with ⟨_, rfl⟩ | ⟨g', x', hv', _, hg', _, hcells'⟩
  · simp at hc'
  injection hv with q1 q2 q3
  injection hv' with q1' q2' q3'
  obtain ⟨_, hcell⟩ := hcells j c hc
  obtain ⟨_, hcell'⟩ := hcells' j c' hc'
  subst e1 d1
  refine ⟨g, g', wd, t, a, aq, aq', nq, cq, nq', cq', ks, q1, q1', hg, hg', ⟨hcell 0 _ rfl, hcell 1 _ rfl, hcell 2 _ rfl, hcell 3 _ rfl⟩, ⟨hcell' 0 _ rfl, hcell' 1 _ rfl, hcell' 2 _ rfl, hcell' 3 _ rfl⟩, e3, d3, hn, ?_⟩
  simp only [Bk.load] at hld; omega
end Go.Proofs.YtbciedpjaajhcaaDoor

/-
  The document's Same of blocks, numbers aside, at blocks and the blocks that their lines give.
-/
namespace Go.Proofs.YtbciedpjaajhcaaDoor
open Go.RowKit Go.Shelf
open Ex (Fr)

def SameC (r : Nat) : Prop := ∀ (v1 v2 : Value) (ts : List Nd) (W : World), Kd W v1 ts r → Kd W v2 (rebNs ts) r → loadN ts ≤ 4000000 → nmNs ts →
  Calls Tryd.prog 10 #[v1, v2, .bool false] W fun e w' => e = .returned (.bool true) ∧ Below W.heap.size W w'

set_option maxRecDepth 20000 in
set_option maxHeartbeats 800000 in
theorem same_none (a1 a2 : Option Addr) (c1 c2 : Nat) (w : World) :
    Calls Tryd.prog 10 #[.slice a1 0 c1, .slice a2 0 c2, .bool false] w fun e w' => e = .returned (.bool true) ∧ Below w.heap.size w w' := by
  go_enter Tryd.func10, Tryd.ntmps10
  go_wp2
  go_loopw [7] (fun vi wr => vi = .int .i64 0 ∧ w = wr) (fun _ _ => 0)
  case atStart => exact ⟨rfl, rfl⟩
  case round =>
    obtain ⟨rfl, rfl⟩ := hrel
    go_wp2
    go_ret
    exact ⟨rfl, Below.refl _ _⟩

/-- Two blocks side by side, as they lie in two rows. -/
theorem nd_pair {w : World} {r g1 g2 : Nat} {css1 css2 : List (List Value)} {ts : List Nd}
    (hc1 : ∀ i cs, css1[i]? = some cs → cs.length = 8 ∧ ∀ j u, cs[j]? = some u → w.cell? ⟨g1, i * 8 + j, none⟩ = some u)
    (hc2 : ∀ i cs, css2[i]? = some cs → cs.length = 8 ∧ ∀ j u, cs[j]? = some u → w.cell? ⟨g2, i * 8 + j, none⟩ = some u)
    (h1 : All2 (NdAt H0 w r) css1 ts) (h2 : All2 (NdAt H0 w r) css2 (rebNs ts)) (hnm : nmNs ts) {i : Nat} (hi : i < ts.length) :
    ∃ (k : Int) (lt : ByteArray) (la : Int) (lc : Bool) (mt : ByteArray) (ma : Int) (mc : Bool) (aB : Option Addr) (m cB : Nat) (aB' : Option Addr) (cB' : Nat) (aN : Option Addr) (nN cN : Nat) (aN' : Option Addr) (cN' : Nat) (li : ByteArray) (aK : Option Addr) (nK cK : Nat) (aK' : Option Addr) (nK' cK' : Nat) (ns : List ByteArray) (bs : List Bk) (bss bss' : List (List Value)) (ks : List Nd),
      (w.cell? ⟨g1, i * 8, none⟩ = some (.int .i64 k) ∧ w.cell? ⟨g1, i * 8 + 1, none⟩ = some (.string lt) ∧ w.cell? ⟨g1, i * 8 + 2, none⟩ = some (.int .i64 la) ∧ w.cell? ⟨g1, i * 8 + 3, none⟩ = some (.bool lc) ∧ w.cell? ⟨g1, i * 8 + 4, none⟩ = some (.slice aB m cB) ∧ w.cell? ⟨g1, i * 8 + 5, none⟩ = some (.slice aN nN cN) ∧ w.cell? ⟨g1, i * 8 + 6, none⟩ = some (.string li) ∧ w.cell? ⟨g1, i * 8 + 7, none⟩ = some (.slice aK nK cK)) ∧
      (w.cell? ⟨g2, i * 8, none⟩ = some (.int .i64 k) ∧ w.cell? ⟨g2, i * 8 + 1, none⟩ = some (.string mt) ∧ w.cell? ⟨g2, i * 8 + 2, none⟩ = some (.int .i64 ma) ∧ w.cell? ⟨g2, i * 8 + 3, none⟩ = some (.bool mc) ∧ w.cell? ⟨g2, i * 8 + 4, none⟩ = some (.slice aB' m cB') ∧ w.cell? ⟨g2, i * 8 + 5, none⟩ = some (.slice aN' nN cN') ∧ w.cell? ⟨g2, i * 8 + 6, none⟩ = some (.string li) ∧ w.cell? ⟨g2, i * 8 + 7, none⟩ = some (.slice aK' nK' cK')) ∧
      (k = 2 ∨ ¬ k = 2 ∧ lt = mt ∧ lc = mc) ∧ m = bs.length ∧ nN = ns.length ∧ (RowAt H0 w 4 (.slice aB m cB) bss ∧ All2 (BrV w r) bss bs ∧ RowAt H0 w 4 (.slice aB' m cB') bss' ∧ All2 (BrV w r) bss' (rebBs bs) ∧ nmBs bs ∧ loadB bs ≤ loadN ts) ∧ (RowAt H0 w 1 (.slice aN nN cN) (nmV ns) ∧ RowAt H0 w 1 (.slice aN' nN cN') (nmV ns)) ∧ nN ≤ 4001 ∧ (Kd w (.slice aK nK cK) ks r ∧ Kd w (.slice aK' nK' cK') (rebNs ks) r ∧ nmNs ks ∧ loadN ks ≤ loadN ts) := by
  obtain ⟨t, ht⟩ : ∃ t, ts[i]? = some t := ⟨_, List.getElem?_eq_getElem hi⟩
  obtain ⟨c, hc, hnd⟩ := h1.get ht
  obtain ⟨c', hc', hnd'⟩ := h2.get (rebNs_get ht)
  obtain ⟨k, l, l', vB, vB', vN, vN', li, vK, vK', ns, bs, css, css', ks, e1, e2, e3, e4, e5, e6, e7, e8, e9, e10, e11, e12, e13, e14, e15⟩ := nd_two hnd hnd' (nmNs_get hnm ht)
  obtain ⟨aB, cB, rfl⟩ := row_slice e4
  obtain ⟨aB', cB', rfl⟩ := row_slice e5
  obtain ⟨aN, cN, rfl⟩ := row_slice e8
  obtain ⟨aN', cN', rfl⟩ := row_slice e9
  obtain ⟨aK, nK, cK, rfl⟩ := e10.slice
  obtain ⟨aK', nK', cK', rfl⟩ := e11.slice
  have q1 : css.length = bs.length := e6.length
  have q2 : css'.length = bs.length := e7.length.trans (rebBs_len bs)
  have q3 : (nmV ns).length = ns.length := by simp [nmV]
  rw [q1] at e1 e4
  rw [q2] at e2 e5
  rw [q3] at e1 e2 e8 e9
  obtain ⟨_, hcell⟩ := hc1 i c hc
  obtain ⟨_, hcell'⟩ := hc2 i c' hc'
  subst e1 e2
  have hld := loadN_get ht
  refine ⟨k, l.text, l.at_, l.cmd, l'.text, l'.at_, l'.cmd, aB, _, cB, aB', cB', aN, _, cN, aN', cN', li, aK, nK, cK, aK', nK', cK', ns, bs, css, css', ks, ⟨hcell 0 _ rfl, hcell 1 _ rfl, hcell 2 _ rfl, hcell 3 _ rfl, hcell 4 _ rfl, hcell 5 _ rfl, hcell 6 _ rfl, hcell 7 _ rfl⟩, ⟨hcell' 0 _ rfl, hcell' 1 _ rfl, hcell' 2 _ rfl, hcell' 3 _ rfl, hcell' 4 _ rfl, hcell' 5 _ rfl, hcell' 6 _ rfl, hcell' 7 _ rfl⟩, ?_, rfl, rfl, ⟨e4, e6, e5, e7, e13, by omega⟩, ⟨e8, e9⟩, e12, ⟨e10, e11, e14, by omega⟩⟩
  rcases e3 with h | ⟨h, rfl⟩
  · exact .inl h
  · exact .inr ⟨h, rfl, rfl⟩

/-- Two boxes, made behind a world. -/
structure TwoB (T : TypeId) (W1 : World) (x y : Nat) (cx cy : Array Value) (W : World) : Prop where
  bx : W.heap[x]? = some (.cells cx T (0, 0))
  by_ : W.heap[y]? = some (.cells cy T (0, 0))
  lx : W1.heap.size ≤ x
  ly : W1.heap.size ≤ y
  ne : ¬ x = y
  bel : Below W1.heap.size W1 W

theorem two_a {T : TypeId} {W1 : World} (cx cy : Array Value) : TwoB T W1 W1.heap.size (W1.heap.size + 1) cx cy ((W1.alloc (.cells cx T)).alloc (.cells cy T)).drew := by
  refine ⟨?_, ?_, Nat.le_refl _, Nat.le_succ _, by omega, ((Below.refl _ _).alloc (Nat.le_refl _) _ |>.alloc (by simp) _).drew⟩
  · exact (Below.heap_alloc _ _ _ (by simp)).trans (alloc_last _ _)
  · have := alloc_last (W1.alloc (.cells cx T)) (.cells cy T)
    rw [show (W1.alloc (.cells cx T)).heap.size = W1.heap.size + 1 by simp] at this
    exact this
theorem two_b {T : TypeId} {W1 : World} (cx cy : Array Value) : TwoB T W1 (W1.heap.size + 1) W1.heap.size cx cy ((W1.alloc (.cells cy T)).alloc (.cells cx T)).drew := by
  obtain ⟨h1, h2, h3, h4, h5, h6⟩ := two_a (T := T) (W1 := W1) cy cx
  exact ⟨h2, h1, h4, h3, fun e => h5 e.symm, h6⟩
theorem belowN (w : World) : ∀ n, Below w.heap.size w (w.drewN n)
  | 0 => Below.refl _ _
  | n + 1 => (belowN w n).drew
/-- Two lines' numbers are struck. -/
theorem two_at {T : TypeId} {W1 W : World} {x y : Nat} {a0 a1 a2 a3 a4 a5 a6 a7 b0 b1 b2 b3 b4 b5 b6 b7 u v : Value} (h : TwoB T W1 x y #[a0, a1, a2, a3, a4, a5, a6, a7] #[b0, b1, b2, b3, b4, b5, b6, b7] W) :
    TwoB T W1 x y #[a0, a1, u, a3, a4, a5, a6, a7] #[b0, b1, v, b3, b4, b5, b6, b7] ((W.setCell ⟨x, 2, none⟩ u).setCell ⟨y, 2, none⟩ v) := by
  have hne : y ≠ x := fun e => h.ne e.symm
  refine ⟨?_, ?_, h.lx, h.ly, h.ne, bs2 (bs2 h.bel h.lx) h.ly⟩
  · rw [Below.heap_setCell _ _ _ _ h.ne, heap_set h.bx]; simp
  · have h1 : (W.setCell ⟨x, 2, none⟩ u).heap[y]? = some (.cells #[b0, b1, b2, b3, b4, b5, b6, b7] T (0, 0)) := (Below.heap_setCell _ _ _ _ hne).trans h.by_
    rw [heap_set h1]; simp
theorem TwoB.below {T : TypeId} {W1 W W' : World} {x y : Nat} {cx cy : Array Value} (h : TwoB T W1 x y cx cy W) (hb : Below W.heap.size W W') : TwoB T W1 x y cx cy W' :=
  ⟨(hb.block x (Array.getElem?_eq_some_iff.1 h.bx).1).trans h.bx, (hb.block y (Array.getElem?_eq_some_iff.1 h.by_).1).trans h.by_, h.lx, h.ly, h.ne, bt2 h.bel hb⟩

/-- Two boxes of elder days. -/
structure TwoA (T : TypeId) (W1 : World) (x y : Nat) (cx cy : Array Value) (W : World) : Prop where
  bx : W.heap[x]? = some (.cells cx T (0, 0))
  by_ : W.heap[y]? = some (.cells cy T (0, 0))
  bel : Below W1.heap.size W1 W
theorem TwoA.below {T : TypeId} {W1 W W' : World} {x y : Nat} {cx cy : Array Value} (h : TwoA T W1 x y cx cy W) (hb : Below W.heap.size W W') : TwoA T W1 x y cx cy W' :=
  ⟨(hb.block x (Array.getElem?_eq_some_iff.1 h.bx).1).trans h.bx, (hb.block y (Array.getElem?_eq_some_iff.1 h.by_).1).trans h.by_, bt2 h.bel hb⟩

set_option maxRecDepth 20000 in
set_option maxHeartbeats 4000000 in
theorem same_row (r : Nat) (ih : SameC r) (g1 g2 n c1 c2 : Nat) (css1 css2 : List (List Value)) (ts : List Nd) (w : World) (hn : n = ts.length) (hg1 : g1 < w.heap.size) (hg2 : g2 < w.heap.size)
    (hc1 : ∀ i cs, css1[i]? = some cs → cs.length = 8 ∧ ∀ j u, cs[j]? = some u → w.cell? ⟨g1, i * 8 + j, none⟩ = some u)
    (hc2 : ∀ i cs, css2[i]? = some cs → cs.length = 8 ∧ ∀ j u, cs[j]? = some u → w.cell? ⟨g2, i * 8 + j, none⟩ = some u)
    (h1 : All2 (NdAt H0 w r) css1 ts) (h2 : All2 (NdAt H0 w r) css2 (rebNs ts)) (hl : loadN ts ≤ 4000000) (hnm : nmNs ts) (hn4 : n ≤ 4000000) :
    Calls Tryd.prog 10 #[.slice (some ⟨g1, 0, none⟩) n c1, .slice (some ⟨g2, 0, none⟩) n c2, .bool false] w fun e w' => e = .returned (.bool true) ∧ Below w.heap.size w w' := by
  have IH : Hid (SameC r) := ih
  have HN : Hid (n = ts.length) := hn
  have HPK : Hid (∀ i, i < ts.length → _) := fun i hi => nd_pair hc1 hc2 h1 h2 hnm (i := i) hi
  clear ih hn hc1 hc2 h1 h2 hnm
  go_enter Tryd.func10, Tryd.ntmps10
  go_wp2
  go_loopw [7] (fun vi wr => ∃ i : Nat, i ≤ n ∧ vi = .int .i64 (i : Int) ∧ Hid (Below w.heap.size w wr)) (fun vi _ => n - (intOf vi).toNat)
  case atStart => exact ⟨0, Nat.zero_le _, rfl, Below.refl _ _⟩
  case round =>
    obtain ⟨i, hin, rfl, HB⟩ := hrel
    by_cases hlt : i < n
    · have hil : (i : Int) < (n : Int) := by omega
      obtain ⟨k, lt, la, lc, mt, ma, mc, aB, m, cB, aB', cB', aN, nN, cN, aN', cN', li, aK, nK, cK, aK', nK', cK', ns, bs, bss, bss', ks, ⟨d0, d1, d2, d3, d4, d5, d6, d7⟩, ⟨f0, f1, f2, f3, f4, f5, f6, f7⟩, hk, hm, hnN, hB, hYtbciedpjaajhcaaDoor, hn4k, hK⟩ := HPK.out i (by rw [← HN.out]; exact hlt)
      have HBR : Hid _ := hB
      have HNM : Hid _ := hYtbciedpjaajhcaaDoor
      have HKK : Hid _ := hK
      have HMN : Hid (m = bs.length ∧ nN = ns.length) := ⟨hm, hnN⟩
      have hm4 : m ≤ 4000000 := by have := loadB_length bs; have := hB.2.2.2.2.2; omega
      have HS : Hid (∀ W, Below wr.heap.size wr W → (W.cell? ⟨g1, i * 8, none⟩ = some (.int .i64 k) ∧ W.cell? ⟨g1, i * 8 + 1, none⟩ = some (.string lt) ∧ W.cell? ⟨g1, i * 8 + 2, none⟩ = some (.int .i64 la) ∧ W.cell? ⟨g1, i * 8 + 3, none⟩ = some (.bool lc) ∧ W.cell? ⟨g1, i * 8 + 4, none⟩ = some (.slice aB m cB) ∧ W.cell? ⟨g1, i * 8 + 5, none⟩ = some (.slice aN nN cN) ∧ W.cell? ⟨g1, i * 8 + 6, none⟩ = some (.string li) ∧ W.cell? ⟨g1, i * 8 + 7, none⟩ = some (.slice aK nK cK)) ∧
          (W.cell? ⟨g2, i * 8, none⟩ = some (.int .i64 k) ∧ W.cell? ⟨g2, i * 8 + 1, none⟩ = some (.string mt) ∧ W.cell? ⟨g2, i * 8 + 2, none⟩ = some (.int .i64 ma) ∧ W.cell? ⟨g2, i * 8 + 3, none⟩ = some (.bool mc) ∧ W.cell? ⟨g2, i * 8 + 4, none⟩ = some (.slice aB' m cB') ∧ W.cell? ⟨g2, i * 8 + 5, none⟩ = some (.slice aN' nN cN') ∧ W.cell? ⟨g2, i * 8 + 6, none⟩ = some (.string li) ∧ W.cell? ⟨g2, i * 8 + 7, none⟩ = some (.slice aK' nK' cK'))) := by
        intro W hW
        have hw := bt2 HB.out hW
        exact ⟨⟨(hw.cell (p := ⟨g1, i * 8, none⟩) hg1).trans d0, (hw.cell (p := ⟨g1, i * 8 + 1, none⟩) hg1).trans d1, (hw.cell (p := ⟨g1, i * 8 + 2, none⟩) hg1).trans d2, (hw.cell (p := ⟨g1, i * 8 + 3, none⟩) hg1).trans d3, (hw.cell (p := ⟨g1, i * 8 + 4, none⟩) hg1).trans d4, (hw.cell (p := ⟨g1, i * 8 + 5, none⟩) hg1).trans d5, (hw.cell (p := ⟨g1, i * 8 + 6, none⟩) hg1).trans d6, (hw.cell (p := ⟨g1, i * 8 + 7, none⟩) hg1).trans d7⟩, ⟨(hw.cell (p := ⟨g2, i * 8, none⟩) hg2).trans f0, (hw.cell (p := ⟨g2, i * 8 + 1, none⟩) hg2).trans f1, (hw.cell (p := ⟨g2, i * 8 + 2, none⟩) hg2).trans f2, (hw.cell (p := ⟨g2, i * 8 + 3, none⟩) hg2).trans f3, (hw.cell (p := ⟨g2, i * 8 + 4, none⟩) hg2).trans f4, (hw.cell (p := ⟨g2, i * 8 + 5, none⟩) hg2).trans f5, (hw.cell (p := ⟨g2, i * 8 + 6, none⟩) hg2).trans f6, (hw.cell (p := ⟨g2, i * 8 + 7, none⟩) hg2).trans f7⟩⟩
      have P0 : Below wr.heap.size wr wr.drew := (Below.refl _ _).drew
      clear d0 d1 d2 d3 d4 d5 d6 d7 f0 f1 f2 f3 f4 f5 f6 f7 hB hYtbciedpjaajhcaaDoor hK hm hnN
      go_upto_region 6 with fail
      go_cut [8, 9] from 19 to 178 (fun x y wc => ∃ bx by_ : Nat, x = .pointer (some ⟨bx, 0, none⟩) ∧ y = .pointer (some ⟨by_, 0, none⟩) ∧ Hid (TwoB 61 wr bx by_ #[.int .i64 k, .string lt, .int .i64 la, .bool lc, .slice aB m cB, .slice aN nN cN, .string li, .slice aK nK cK] #[.int .i64 k, .string mt, .int .i64 ma, .bool mc, .slice aB' m cB', .slice aN' nN cN', .string li, .slice aK' nK' cK'] wc))
      case first =>
        go_region_held3 (fun W => (W.cell? ⟨g1, i * 8, none⟩ = some (.int .i64 k) ∧ W.cell? ⟨g1, i * 8 + 1, none⟩ = some (.string lt) ∧ W.cell? ⟨g1, i * 8 + 2, none⟩ = some (.int .i64 la) ∧ W.cell? ⟨g1, i * 8 + 3, none⟩ = some (.bool lc) ∧ W.cell? ⟨g1, i * 8 + 4, none⟩ = some (.slice aB m cB) ∧ W.cell? ⟨g1, i * 8 + 5, none⟩ = some (.slice aN nN cN) ∧ W.cell? ⟨g1, i * 8 + 6, none⟩ = some (.string li) ∧ W.cell? ⟨g1, i * 8 + 7, none⟩ = some (.slice aK nK cK)) ∧
          (W.cell? ⟨g2, i * 8, none⟩ = some (.int .i64 k) ∧ W.cell? ⟨g2, i * 8 + 1, none⟩ = some (.string mt) ∧ W.cell? ⟨g2, i * 8 + 2, none⟩ = some (.int .i64 ma) ∧ W.cell? ⟨g2, i * 8 + 3, none⟩ = some (.bool mc) ∧ W.cell? ⟨g2, i * 8 + 4, none⟩ = some (.slice aB' m cB') ∧ W.cell? ⟨g2, i * 8 + 5, none⟩ = some (.slice aN' nN cN') ∧ W.cell? ⟨g2, i * 8 + 6, none⟩ = some (.string li) ∧ W.cell? ⟨g2, i * 8 + 7, none⟩ = some (.slice aK' nK' cK')))
          (first | (refine HS.out _ ?_; repeat (first | with_reducible exact P0 | with_reducible exact bd2 P0 | with_reducible refine bd2 ?_ | (with_reducible refine bs2 ?_ (by with_reducible first | exact Nat.le_refl _ | exact P0.size | (simp; omega))) | with_reducible exact Below.refl _ _ | with_reducible refine ba2 ?_ _)))
          (fail)
        · go_wp2_with fail
          go_meet
          exact ⟨_, _, rfl, rfl, two_a _ _⟩
        · go_wp2_with fail
          go_meet
          exact ⟨_, _, rfl, rfl, two_b _ _⟩
      case rest =>
        obtain ⟨bx, by_, rfl, rfl, H2⟩ := hcut
        have hx := H2.out.bx
        have hy := H2.out.by_
        have hne := H2.out.ne
        have hne' : ¬ by_ = bx := fun e => hne e.symm
        have q0 : wc.frozen? ⟨bx, 2, none⟩ = false := by simp [World.frozen?, hx]
        have q1 : wc.frozen? ⟨by_, 2, none⟩ = false := by simp [World.frozen?, hy]
        have x2 : wc.cell? ⟨bx, 2, none⟩ = some (.int .i64 la) := cell_in hx 2 rfl
        have y2 : wc.cell? ⟨by_, 2, none⟩ = some (.int .i64 ma) := cell_in hy 2 rfl
        clear hx hy
        go_upto_region 9 with fail
        clear q0 q1 x2 y2 P0
        obtain ⟨W9, hW9⟩ : ∃ W9, W9 = (wc.setCell ⟨bx, 2, none⟩ (.int .i64 0)).setCell ⟨by_, 2, none⟩ (.int .i64 0) := ⟨_, rfl⟩
        have h9 : TwoB 61 wr bx by_ #[.int .i64 k, .string lt, .int .i64 0, .bool lc, .slice aB m cB, .slice aN nN cN, .string li, .slice aK nK cK] #[.int .i64 k, .string mt, .int .i64 0, .bool mc, .slice aB' m cB', .slice aN' nN cN', .string li, .slice aK' nK' cK'] W9 := by rw [hW9]; exact two_at H2.out
        rw [← hW9]
        clear hW9
        have x0 := cell_in h9.bx 0 rfl
        have x1 := cell_in h9.bx 1 rfl
        have x2 := cell_in h9.bx 2 rfl
        have x3 := cell_in h9.bx 3 rfl
        have x4 := cell_in h9.bx 4 rfl
        have x5 := cell_in h9.bx 5 rfl
        have x6 := cell_in h9.bx 6 rfl
        have x7 := cell_in h9.bx 7 rfl
        have y0 := cell_in h9.by_ 0 rfl
        have y1 := cell_in h9.by_ 1 rfl
        have y2 := cell_in h9.by_ 2 rfl
        have y3 := cell_in h9.by_ 3 rfl
        have y4 := cell_in h9.by_ 4 rfl
        have y5 := cell_in h9.by_ 5 rfl
        have y6 := cell_in h9.by_ 6 rfl
        have y7 := cell_in h9.by_ 7 rfl
        have HKK : Hid (Kd W9 (.slice aK nK cK) ks r ∧ Kd W9 (.slice aK' nK' cK') (rebNs ks) r ∧ nmNs ks ∧ loadN ks ≤ loadN ts ∧ loadN ts ≤ 4000000 ∧ TwoB 61 wr bx by_ #[.int .i64 k, .string lt, .int .i64 0, .bool lc, .slice aB m cB, .slice aN nN cN, .string li, .slice aK nK cK] #[.int .i64 k, .string mt, .int .i64 0, .bool mc, .slice aB' m cB', .slice aN' nN cN', .string li, .slice aK' nK' cK'] W9) := by
          have hb : Below w.heap.size w W9 := bt2 HB.out h9.bel
          exact ⟨HKK.out.1.keeps hb, HKK.out.2.1.keeps hb, HKK.out.2.2.1, HKK.out.2.2.2, hl, h9⟩
        clear h9
        rcases hk with rfl | ⟨hk2, rfl, rfl⟩
        · clear hne hne'
          go_wp2_with fail
          refine (IH.out _ _ ks W9 HKK.out.1 HKK.out.2.1 (by have := HKK.out.2.2.2.1; have := HKK.out.2.2.2.2.1; omega) HKK.out.2.2.1).mono ?_
          rintro e w10 ⟨rfl, hb10⟩
          have H10 : Hid (TwoB 61 wr bx by_ #[.int .i64 2, .string lt, .int .i64 0, .bool lc, .slice aB m cB, .slice aN nN cN, .string li, .slice aK nK cK] #[.int .i64 2, .string mt, .int .i64 0, .bool mc, .slice aB' m cB', .slice aN' nN cN', .string li, .slice aK' nK' cK'] w10) := HKK.out.2.2.2.2.2.below hb10
          have HBw : Hid (Below w.heap.size w w10) := bt2 HB.out H10.out.bel
          clear hb10 x0 x1 x2 x3 x4 x5 x6 x7 y0 y1 y2 y3 y4 y5 y6 y7
          have x5 : w10.cell? ⟨bx, 5, none⟩ = some (.slice aN nN cN) := cell_in H10.out.bx 5 rfl
          have y5 : w10.cell? ⟨by_, 5, none⟩ = some (.slice aN' nN cN') := cell_in H10.out.by_ 5 rfl
          go_wp2_with fail
          go_loopw [10] (fun vi wr => ∃ j q : Nat, j ≤ nN ∧ vi = .int .i64 (j : Int) ∧ wr = w10.drewN q) (fun vi _ => nN - (intOf vi).toNat)
          case atStart => exact ⟨0, 0, Nat.zero_le _, rfl, rfl⟩
          case round =>
            obtain ⟨j, q, hj, rfl, rfl⟩ := hrel
            by_cases hjn : j < nN
            · have hji : (j : Int) < (nN : Int) := by omega
              have hjl : j < ns.length := by rw [← HMN.out.2]; exact hjn
              obtain ⟨qn, hqn⟩ : ∃ qn, ns[j]? = some qn := ⟨_, List.getElem?_eq_getElem hjl⟩
              obtain ⟨ga, rfl, hga, ca⟩ := nm_pick HNM.out.1 hqn
              obtain ⟨gb, rfl, hgb, cb⟩ := nm_pick HNM.out.2 hqn
              have ca1 := (HBw.out.cell (p := ⟨ga, j, none⟩) hga).trans ca
              have cb1 := (HBw.out.cell (p := ⟨gb, j, none⟩) hgb).trans cb
              clear ca cb hqn
              go_wp2_with fail
              go_quiet (fail)
              go_wp2_with fail
              go_roundw
              case rel => exact ⟨j + 1, _, by omega, by go_num, rfl⟩
              case measure => simp [intOf]; omega
            · obtain rfl : nN = j := by omega
              go_wp2_with fail
              clear x5 y5
              go_loopw [11] (fun vi wr => ∃ j : Nat, j ≤ m ∧ vi = .int .i64 (j : Int) ∧ Hid (TwoA 61 w10 bx by_ #[.int .i64 2, .string lt, .int .i64 0, .bool lc, .slice aB m cB, .slice aN nN cN, .string li, .slice aK nK cK] #[.int .i64 2, .string mt, .int .i64 0, .bool mc, .slice aB' m cB', .slice aN' nN cN', .string li, .slice aK' nK' cK'] wr)) (fun vi _ => m - (intOf vi).toNat)
              case atStart => exact ⟨0, Nat.zero_le _, rfl, ⟨H10.out.bx, H10.out.by_, belowN _ _⟩⟩
              case round =>
                obtain ⟨j, hj, rfl, HT⟩ := hrel
                have hbw : Below w.heap.size w wr := bt2 HBw.out HT.out.bel
                have x4 : wr.cell? ⟨bx, 4, none⟩ = some (.slice aB m cB) := cell_in HT.out.bx 4 rfl
                have y4 : wr.cell? ⟨by_, 4, none⟩ = some (.slice aB' m cB') := cell_in HT.out.by_ 4 rfl
                by_cases hjm : j < m
                · have hji : (j : Int) < (m : Int) := by omega
                  obtain ⟨ga, gb, wd, bt, ba_, aq, aq', nq, cq, nq', cq', ks2, rfl, rfl, hga, hgb, ⟨d0, d1, d2, d3⟩, ⟨f0, f1, f2, f3⟩, hk1, hk2, hk3, hk4⟩ := br_two HBR.out.1 HBR.out.2.1 HBR.out.2.2.1 HBR.out.2.2.2.1 HBR.out.2.2.2.2.1 (j := j) (by rw [← HMN.out.1]; exact hjm)
                  have hbxl : bx < wr.heap.size := (Array.getElem?_eq_some_iff.1 HT.out.bx).1
                  have hbyl : by_ < wr.heap.size := (Array.getElem?_eq_some_iff.1 HT.out.by_).1
                  have HS2 : Hid (∀ W, Below wr.heap.size wr W → (W.cell? ⟨ga, j * 4, none⟩ = some (.string wd) ∧ W.cell? ⟨ga, j * 4 + 1, none⟩ = some (.string bt) ∧ W.cell? ⟨ga, j * 4 + 2, none⟩ = some (.int .i64 ba_) ∧ W.cell? ⟨ga, j * 4 + 3, none⟩ = some (.slice aq nq cq)) ∧ (W.cell? ⟨gb, j * 4, none⟩ = some (.string wd) ∧ W.cell? ⟨gb, j * 4 + 1, none⟩ = some (.string bt) ∧ W.cell? ⟨gb, j * 4 + 2, none⟩ = some (.int .i64 ba_) ∧ W.cell? ⟨gb, j * 4 + 3, none⟩ = some (.slice aq' nq' cq')) ∧ W.cell? ⟨bx, 4, none⟩ = some (.slice (some ⟨ga, 0, none⟩) m cB) ∧ W.cell? ⟨by_, 4, none⟩ = some (.slice (some ⟨gb, 0, none⟩) m cB')) := by
                    intro W hW
                    have hw := bt2 hbw hW
                    exact ⟨⟨(hw.cell (p := ⟨ga, j * 4, none⟩) hga).trans d0, (hw.cell (p := ⟨ga, j * 4 + 1, none⟩) hga).trans d1, (hw.cell (p := ⟨ga, j * 4 + 2, none⟩) hga).trans d2, (hw.cell (p := ⟨ga, j * 4 + 3, none⟩) hga).trans d3⟩, ⟨(hw.cell (p := ⟨gb, j * 4, none⟩) hgb).trans f0, (hw.cell (p := ⟨gb, j * 4 + 1, none⟩) hgb).trans f1, (hw.cell (p := ⟨gb, j * 4 + 2, none⟩) hgb).trans f2, (hw.cell (p := ⟨gb, j * 4 + 3, none⟩) hgb).trans f3⟩, (hW.cell (p := ⟨bx, 4, none⟩) hbxl).trans x4, (hW.cell (p := ⟨by_, 4, none⟩) hbyl).trans y4⟩
                  have HK2 : Hid (∀ W, Below wr.heap.size wr W → Kd W (.slice aq nq cq) ks2 r ∧ Kd W (.slice aq' nq' cq') (rebNs ks2) r ∧ nmNs ks2 ∧ loadN ks2 ≤ 4000000) := fun W hW => ⟨hk1.keeps (bt2 hbw hW), hk2.keeps (bt2 hbw hW), hk3, by have := HBR.out.2.2.2.2.2; have := HKK.out.2.2.2.2.1; omega⟩
                  have P2 : Below wr.heap.size wr wr.drew := (Below.refl _ _).drew
                  clear d0 d1 d2 d3 f0 f1 f2 f3 hk1 hk2 hk3 hk4 hbw
                  go_upto_region 19 with fail
                  go_cut [12, 13] from 124 to 178 (fun x y wc => ∃ b3 b4 : Nat, x = .pointer (some ⟨b3, 0, none⟩) ∧ y = .pointer (some ⟨b4, 0, none⟩) ∧ Hid (TwoB 63 wr b3 b4 #[.string wd, .string bt, .int .i64 ba_, .slice aq nq cq] #[.string wd, .string bt, .int .i64 ba_, .slice aq' nq' cq'] wc))
                  case first =>
                    clear x4 y4
                    go_region_held3 (fun W => (W.cell? ⟨ga, j * 4, none⟩ = some (.string wd) ∧ W.cell? ⟨ga, j * 4 + 1, none⟩ = some (.string bt) ∧ W.cell? ⟨ga, j * 4 + 2, none⟩ = some (.int .i64 ba_) ∧ W.cell? ⟨ga, j * 4 + 3, none⟩ = some (.slice aq nq cq)) ∧ (W.cell? ⟨gb, j * 4, none⟩ = some (.string wd) ∧ W.cell? ⟨gb, j * 4 + 1, none⟩ = some (.string bt) ∧ W.cell? ⟨gb, j * 4 + 2, none⟩ = some (.int .i64 ba_) ∧ W.cell? ⟨gb, j * 4 + 3, none⟩ = some (.slice aq' nq' cq')) ∧ W.cell? ⟨bx, 4, none⟩ = some (.slice (some ⟨ga, 0, none⟩) m cB) ∧ W.cell? ⟨by_, 4, none⟩ = some (.slice (some ⟨gb, 0, none⟩) m cB'))
                      (first | (refine HS2.out _ ?_; repeat (first | with_reducible exact P2 | with_reducible exact bd2 P2 | with_reducible refine bd2 ?_ | (with_reducible refine bs2 ?_ (by with_reducible first | exact Nat.le_refl _ | exact P2.size | (simp; omega))) | with_reducible exact Below.refl _ _ | with_reducible refine ba2 ?_ _)))
                      (fail)
                    · go_wp2_with fail
                      go_meet
                      exact ⟨_, _, rfl, rfl, two_a _ _⟩
                    · go_wp2_with fail
                      go_meet
                      exact ⟨_, _, rfl, rfl, two_b _ _⟩
                  case rest =>
                    obtain ⟨b3, b4, rfl, rfl, H3⟩ := hcut
                    have z0 := cell_in H3.out.bx 0 rfl
                    have z1 := cell_in H3.out.bx 1 rfl
                    have z3 := cell_in H3.out.bx 3 rfl
                    have t0 := cell_in H3.out.by_ 0 rfl
                    have t1 := cell_in H3.out.by_ 1 rfl
                    have t3 := cell_in H3.out.by_ 3 rfl
                    clear x4 y4
                    go_wp2_with fail
                    refine (IH.out _ _ ks2 wc (HK2.out wc H3.out.bel).1 (HK2.out wc H3.out.bel).2.1 (HK2.out wc H3.out.bel).2.2.2 (HK2.out wc H3.out.bel).2.2.1).mono ?_
                    rintro e w12 ⟨rfl, hb12⟩
                    have H12 : Hid (TwoA 61 w10 bx by_ #[.int .i64 2, .string lt, .int .i64 0, .bool lc, .slice (some ⟨ga, 0, none⟩) m cB, .slice aN nN cN, .string li, .slice aK nK cK] #[.int .i64 2, .string mt, .int .i64 0, .bool mc, .slice (some ⟨gb, 0, none⟩) m cB', .slice aN' nN cN', .string li, .slice aK' nK' cK'] w12) := HT.out.below (bt2 H3.out.bel hb12)
                    clear hb12 z0 z1 z3 t0 t1 t3
                    go_wp2_with fail
                    go_roundw
                    case rel => exact ⟨j + 1, by omega, by go_num, H12⟩
                    case measure => simp [intOf]; omega
                · obtain rfl : m = j := by omega
                  have HE : Hid (Below w.heap.size w wr) := hbw
                  clear hbw
                  go_wp2_with fail
                  go_roundw
                  case rel => exact ⟨i + 1, by omega, by go_num, HE⟩
                  case measure => simp [intOf]; omega
        · have hne52 : ∀ W, Sem.run Tryd.prog (binOp .neq 38 (.agg #[.string lt, .int .i64 0, .bool lc]) (.agg #[.string lt, .int .i64 0, .bool lc])) W = .ok (.bool false) W := fun W => by rw [neq52, ba_beq]; simp
          clear hne hne'
          go_wp2_with fail
          refine (IH.out _ _ ks W9 HKK.out.1 HKK.out.2.1 (by have := HKK.out.2.2.2.1; have := HKK.out.2.2.2.2.1; omega) HKK.out.2.2.1).mono ?_
          rintro e w10 ⟨rfl, hb10⟩
          have H10 : Hid (TwoB 61 wr bx by_ #[.int .i64 k, .string lt, .int .i64 0, .bool lc, .slice aB m cB, .slice aN nN cN, .string li, .slice aK nK cK] #[.int .i64 k, .string lt, .int .i64 0, .bool lc, .slice aB' m cB', .slice aN' nN cN', .string li, .slice aK' nK' cK'] w10) := HKK.out.2.2.2.2.2.below hb10
          have HBw : Hid (Below w.heap.size w w10) := bt2 HB.out H10.out.bel
          clear hb10 x0 x1 x2 x3 x4 x5 x6 x7 y0 y1 y2 y3 y4 y5 y6 y7
          have x5 : w10.cell? ⟨bx, 5, none⟩ = some (.slice aN nN cN) := cell_in H10.out.bx 5 rfl
          have y5 : w10.cell? ⟨by_, 5, none⟩ = some (.slice aN' nN cN') := cell_in H10.out.by_ 5 rfl
          go_wp2_with fail
          go_loopw [10] (fun vi wr => ∃ j q : Nat, j ≤ nN ∧ vi = .int .i64 (j : Int) ∧ wr = w10.drewN q) (fun vi _ => nN - (intOf vi).toNat)
          case atStart => exact ⟨0, 0, Nat.zero_le _, rfl, rfl⟩
          case round =>
            obtain ⟨j, q, hj, rfl, rfl⟩ := hrel
            by_cases hjn : j < nN
            · have hji : (j : Int) < (nN : Int) := by omega
              have hjl : j < ns.length := by rw [← HMN.out.2]; exact hjn
              obtain ⟨qn, hqn⟩ : ∃ qn, ns[j]? = some qn := ⟨_, List.getElem?_eq_getElem hjl⟩
              obtain ⟨ga, rfl, hga, ca⟩ := nm_pick HNM.out.1 hqn
              obtain ⟨gb, rfl, hgb, cb⟩ := nm_pick HNM.out.2 hqn
              have ca1 := (HBw.out.cell (p := ⟨ga, j, none⟩) hga).trans ca
              have cb1 := (HBw.out.cell (p := ⟨gb, j, none⟩) hgb).trans cb
              clear ca cb hqn
              go_wp2_with fail
              go_quiet (fail)
              go_wp2_with fail
              go_roundw
              case rel => exact ⟨j + 1, _, by omega, by go_num, rfl⟩
              case measure => simp [intOf]; omega
            · obtain rfl : nN = j := by omega
              go_wp2_with fail
              clear x5 y5
              go_loopw [11] (fun vi wr => ∃ j : Nat, j ≤ m ∧ vi = .int .i64 (j : Int) ∧ Hid (TwoA 61 w10 bx by_ #[.int .i64 k, .string lt, .int .i64 0, .bool lc, .slice aB m cB, .slice aN nN cN, .string li, .slice aK nK cK] #[.int .i64 k, .string lt, .int .i64 0, .bool lc, .slice aB' m cB', .slice aN' nN cN', .string li, .slice aK' nK' cK'] wr)) (fun vi _ => m - (intOf vi).toNat)
              case atStart => exact ⟨0, Nat.zero_le _, rfl, ⟨H10.out.bx, H10.out.by_, belowN _ _⟩⟩
              case round =>
                obtain ⟨j, hj, rfl, HT⟩ := hrel
                have hbw : Below w.heap.size w wr := bt2 HBw.out HT.out.bel
                have x4 : wr.cell? ⟨bx, 4, none⟩ = some (.slice aB m cB) := cell_in HT.out.bx 4 rfl
                have y4 : wr.cell? ⟨by_, 4, none⟩ = some (.slice aB' m cB') := cell_in HT.out.by_ 4 rfl
                by_cases hjm : j < m
                · have hji : (j : Int) < (m : Int) := by omega
                  obtain ⟨ga, gb, wd, bt, ba_, aq, aq', nq, cq, nq', cq', ks2, rfl, rfl, hga, hgb, ⟨d0, d1, d2, d3⟩, ⟨f0, f1, f2, f3⟩, hk1, hk2, hk3, hk4⟩ := br_two HBR.out.1 HBR.out.2.1 HBR.out.2.2.1 HBR.out.2.2.2.1 HBR.out.2.2.2.2.1 (j := j) (by rw [← HMN.out.1]; exact hjm)
                  have hbxl : bx < wr.heap.size := (Array.getElem?_eq_some_iff.1 HT.out.bx).1
                  have hbyl : by_ < wr.heap.size := (Array.getElem?_eq_some_iff.1 HT.out.by_).1
                  have HS2 : Hid (∀ W, Below wr.heap.size wr W → (W.cell? ⟨ga, j * 4, none⟩ = some (.string wd) ∧ W.cell? ⟨ga, j * 4 + 1, none⟩ = some (.string bt) ∧ W.cell? ⟨ga, j * 4 + 2, none⟩ = some (.int .i64 ba_) ∧ W.cell? ⟨ga, j * 4 + 3, none⟩ = some (.slice aq nq cq)) ∧ (W.cell? ⟨gb, j * 4, none⟩ = some (.string wd) ∧ W.cell? ⟨gb, j * 4 + 1, none⟩ = some (.string bt) ∧ W.cell? ⟨gb, j * 4 + 2, none⟩ = some (.int .i64 ba_) ∧ W.cell? ⟨gb, j * 4 + 3, none⟩ = some (.slice aq' nq' cq')) ∧ W.cell? ⟨bx, 4, none⟩ = some (.slice (some ⟨ga, 0, none⟩) m cB) ∧ W.cell? ⟨by_, 4, none⟩ = some (.slice (some ⟨gb, 0, none⟩) m cB')) := by
                    intro W hW
                    have hw := bt2 hbw hW
                    exact ⟨⟨(hw.cell (p := ⟨ga, j * 4, none⟩) hga).trans d0, (hw.cell (p := ⟨ga, j * 4 + 1, none⟩) hga).trans d1, (hw.cell (p := ⟨ga, j * 4 + 2, none⟩) hga).trans d2, (hw.cell (p := ⟨ga, j * 4 + 3, none⟩) hga).trans d3⟩, ⟨(hw.cell (p := ⟨gb, j * 4, none⟩) hgb).trans f0, (hw.cell (p := ⟨gb, j * 4 + 1, none⟩) hgb).trans f1, (hw.cell (p := ⟨gb, j * 4 + 2, none⟩) hgb).trans f2, (hw.cell (p := ⟨gb, j * 4 + 3, none⟩) hgb).trans f3⟩, (hW.cell (p := ⟨bx, 4, none⟩) hbxl).trans x4, (hW.cell (p := ⟨by_, 4, none⟩) hbyl).trans y4⟩
                  have HK2 : Hid (∀ W, Below wr.heap.size wr W → Kd W (.slice aq nq cq) ks2 r ∧ Kd W (.slice aq' nq' cq') (rebNs ks2) r ∧ nmNs ks2 ∧ loadN ks2 ≤ 4000000) := fun W hW => ⟨hk1.keeps (bt2 hbw hW), hk2.keeps (bt2 hbw hW), hk3, by have := HBR.out.2.2.2.2.2; have := HKK.out.2.2.2.2.1; omega⟩
                  have P2 : Below wr.heap.size wr wr.drew := (Below.refl _ _).drew
                  clear d0 d1 d2 d3 f0 f1 f2 f3 hk1 hk2 hk3 hk4 hbw
                  go_upto_region 19 with fail
                  go_cut [12, 13] from 124 to 178 (fun x y wc => ∃ b3 b4 : Nat, x = .pointer (some ⟨b3, 0, none⟩) ∧ y = .pointer (some ⟨b4, 0, none⟩) ∧ Hid (TwoB 63 wr b3 b4 #[.string wd, .string bt, .int .i64 ba_, .slice aq nq cq] #[.string wd, .string bt, .int .i64 ba_, .slice aq' nq' cq'] wc))
                  case first =>
                    clear x4 y4
                    go_region_held3 (fun W => (W.cell? ⟨ga, j * 4, none⟩ = some (.string wd) ∧ W.cell? ⟨ga, j * 4 + 1, none⟩ = some (.string bt) ∧ W.cell? ⟨ga, j * 4 + 2, none⟩ = some (.int .i64 ba_) ∧ W.cell? ⟨ga, j * 4 + 3, none⟩ = some (.slice aq nq cq)) ∧ (W.cell? ⟨gb, j * 4, none⟩ = some (.string wd) ∧ W.cell? ⟨gb, j * 4 + 1, none⟩ = some (.string bt) ∧ W.cell? ⟨gb, j * 4 + 2, none⟩ = some (.int .i64 ba_) ∧ W.cell? ⟨gb, j * 4 + 3, none⟩ = some (.slice aq' nq' cq')) ∧ W.cell? ⟨bx, 4, none⟩ = some (.slice (some ⟨ga, 0, none⟩) m cB) ∧ W.cell? ⟨by_, 4, none⟩ = some (.slice (some ⟨gb, 0, none⟩) m cB'))
                      (first | (refine HS2.out _ ?_; repeat (first | with_reducible exact P2 | with_reducible exact bd2 P2 | with_reducible refine bd2 ?_ | (with_reducible refine bs2 ?_ (by with_reducible first | exact Nat.le_refl _ | exact P2.size | (simp; omega))) | with_reducible exact Below.refl _ _ | with_reducible refine ba2 ?_ _)))
                      (fail)
                    · go_wp2_with fail
                      go_meet
                      exact ⟨_, _, rfl, rfl, two_a _ _⟩
                    · go_wp2_with fail
                      go_meet
                      exact ⟨_, _, rfl, rfl, two_b _ _⟩
                  case rest =>
                    obtain ⟨b3, b4, rfl, rfl, H3⟩ := hcut
                    have z0 := cell_in H3.out.bx 0 rfl
                    have z1 := cell_in H3.out.bx 1 rfl
                    have z3 := cell_in H3.out.bx 3 rfl
                    have t0 := cell_in H3.out.by_ 0 rfl
                    have t1 := cell_in H3.out.by_ 1 rfl
                    have t3 := cell_in H3.out.by_ 3 rfl
                    clear x4 y4
                    go_wp2_with fail
                    refine (IH.out _ _ ks2 wc (HK2.out wc H3.out.bel).1 (HK2.out wc H3.out.bel).2.1 (HK2.out wc H3.out.bel).2.2.2 (HK2.out wc H3.out.bel).2.2.1).mono ?_
                    rintro e w12 ⟨rfl, hb12⟩
                    have H12 : Hid (TwoA 61 w10 bx by_ #[.int .i64 k, .string lt, .int .i64 0, .bool lc, .slice (some ⟨ga, 0, none⟩) m cB, .slice aN nN cN, .string li, .slice aK nK cK] #[.int .i64 k, .string lt, .int .i64 0, .bool lc, .slice (some ⟨gb, 0, none⟩) m cB', .slice aN' nN cN', .string li, .slice aK' nK' cK'] w12) := HT.out.below (bt2 H3.out.bel hb12)
                    clear hb12 z0 z1 z3 t0 t1 t3
                    go_wp2_with fail
                    go_roundw
                    case rel => exact ⟨j + 1, by omega, by go_num, H12⟩
                    case measure => simp [intOf]; omega
                · obtain rfl : m = j := by omega
                  have HE : Hid (Below w.heap.size w wr) := hbw
                  clear hbw
                  go_wp2_with fail
                  go_roundw
                  case rel => exact ⟨i + 1, by omega, by go_num, HE⟩
                  case measure => simp [intOf]; omega
    · go_wp2
      go_ret
      exact ⟨rfl, HB.out⟩
end Go.Proofs.YtbciedpjaajhcaaDoor

/-
  The document's Same of blocks and the blocks that their lines give: yes, at any depth.
-/
namespace Go.Proofs.YtbciedpjaajhcaaDoor
open Go.RowKit Go.Shelf

theorem same_zero : SameC 0 := by
  rintro v1 v2 ts W ⟨rfl, rfl⟩ h2 _ _
  unfold rebNs at h2
  obtain ⟨rfl, _⟩ := h2
  exact same_none none none 0 0 W
theorem same_step (r : Nat) (ih : SameC r) : SameC (r + 1) := by
  rintro v1 v2 ts W ⟨css1, p1, p2⟩ ⟨css2, q1, q2⟩ hl hnm
  have e1 := p2.length
  have e2 := q2.length.trans (rebNs_len ts)
  obtain ⟨n, hn⟩ : ∃ n, n = ts.length := ⟨_, rfl⟩
  rw [← hn] at e1 e2
  by_cases h0 : n = 0
  · obtain ⟨a1, c1, rfl⟩ := row_slice p1
    obtain ⟨a2, c2, rfl⟩ := row_slice q1
    rw [e1, e2, h0]
    exact same_none a1 a2 c1 c2 W
  · rcases p1 with ⟨_, rfl⟩ | ⟨g1, c1, rfl, hc1, hg1, _, hx1⟩
    · exact absurd e1.symm h0
    rcases q1 with ⟨_, rfl⟩ | ⟨g2, c2, rfl, hc2, hg2, _, hx2⟩
    · exact absurd e2.symm h0
    have hlen := loadN_length ts
    rw [e1, e2]
    exact same_row r ih g1 g2 n c1 c2 css1 css2 ts W hn hg1 hg2 hx1 hx2 p2 q2 hl hnm (by omega)
/-- The document's Same of blocks and the blocks that their lines give says yes. -/
theorem same_all : ∀ r, SameC r
  | 0 => same_zero
  | r + 1 => same_step r (same_all r)
end Go.Proofs.YtbciedpjaajhcaaDoor
