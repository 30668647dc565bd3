/-
  What the law's blocks answers: the same blocks.
-/
import Derived.Test.YtbciedpjaajhcaaDoorBRT
namespace Go.Proofs.YtbciedpjaajhcaaDoor
open Go.RowKit Go.Shelf
open Ex (Fr)

/-- The j-th branch of a block. -/
theorem brH_pick {H : Nat → Prop} {w : World} {r : Nat} {aB : Option Addr} {m cB : Nat} {css : List (List Value)} {bs : List Bk} (h1 : RowAt H w 4 (.slice aB m cB) css) (h2 : All2 (BrH H w r) css bs) {j : Nat} (hj : j < bs.length) :
    ∃ (gb : Nat) (wd t : ByteArray) (at_ : Int) (aq : Option Addr) (nq cq : Nat) (ks : List Nd), aB = some ⟨gb, 0, none⟩ ∧ gb < w.heap.size ∧ w.cell? ⟨gb, j * 4, none⟩ = some (.string wd) ∧ w.cell? ⟨gb, j * 4 + 1, none⟩ = some (.string t) ∧ w.cell? ⟨gb, j * 4 + 2, none⟩ = some (.int .i64 at_) ∧ w.cell? ⟨gb, j * 4 + 3, none⟩ = some (.slice aq nq cq) ∧ KdH H w (.slice aq nq cq) ks r ∧ bs[j]? = some (.mk wd t at_ ks) ∧ loadN ks ≤ loadB bs := by
  obtain ⟨b, hb⟩ : ∃ b, bs[j]? = some b := ⟨_, List.getElem?_eq_getElem hj⟩
  obtain ⟨c, hc, wd, t, a, vK, ks, e1, e2, e3⟩ := h2.get hb
  obtain ⟨aq, nq, cq, rfl⟩ := e3.slice
  rcases h1 with ⟨_, rfl⟩ | ⟨g, c', hv, _, hg, _, hcells⟩
  · simp at hc
  · injection hv with q1 q2 q3
    obtain ⟨_, hcell⟩ := hcells j c hc
    subst e1 e2
    have hld := loadB_get hb
    refine ⟨g, wd, t, a, aq, nq, cq, ks, q1, hg, hcell 0 _ rfl, hcell 1 _ rfl, hcell 2 _ rfl, hcell 3 _ rfl, e3, hb, ?_⟩
    simp only [Bk.load] at hld; omega

set_option maxRecDepth 20000 in
set_option maxHeartbeats 2000000 in
theorem blocks_row (r : Nat) (ih : BlocksH r) (H : Nat → Prop) (g n c : Nat) (css : List (List Value)) (ts : List Nd) (w : World) (lf : Nat) (hlf : r + 1 ≤ lf) (hlf2 : lf ≤ 1000) (hH : ∀ g, H g → g < w.heap.size) (hn : n = ts.length) (hg : g < w.heap.size) (_hgH : ¬ H g)
    (hcells : ∀ i cs, css[i]? = some cs → cs.length = 8 ∧ ∀ j u, cs[j]? = some u → w.cell? ⟨g, i * 8 + j, none⟩ = some u) (h2 : All2 (NdAt H w r) css ts) (hl : loadN ts ≤ 4000000) (hnc : n ≤ c) (hn4 : n ≤ 4000000) :
    Calls Tryd.prog 11 #[.slice (some ⟨g, 0, none⟩) n c, .int .i64 (lf : Int)] w (BlPost H (r + 1) (.slice (some ⟨g, 0, none⟩) n c) ts w) := by
  obtain ⟨lq, hlq⟩ : ∃ lq, lf = lq + 1 := ⟨lf - 1, by omega⟩
  have IH : Hid (BlocksH r) := ih
  obtain ⟨i0, hi, hy0, hy1, hy2⟩ := info_of infoRB
  obtain ⟨i1, hi1, hx0, hx1, hx2⟩ := info_of infoRN
  have HN : Hid (n = ts.length ∧ (∀ g, H g → g < w.heap.size) ∧ r ≤ lq ∧ lq ≤ 1000 ∧ loadN ts ≤ 4000000) := ⟨hn, hH, by omega, by omega, hl⟩
  have HPK : Hid (∀ i t, ts[i]? = some t → ∃ cs, NdAt H w r cs t ∧ ∀ j u, cs[j]? = some u → w.cell? ⟨g, i * 8 + j, none⟩ = some u) := fun i t hi => by
    obtain ⟨cs, h3, h4⟩ := h2.get hi
    exact ⟨cs, h4, (hcells i cs h3).2⟩
  have hz0 : ¬ (lf : Int) = 0 := by omega
  have hz1 : ((lf : Int) == 0) = false := by simpa using hz0
  have hz2 : IntKind.i64.wrap ((lf : Int) - 1) = (lq : Int) := by simp [IntKind.wrap, IntKind.bits, IntKind.signed]; omega
  clear ih hn hcells h2 hlq hlf hlf2 hH _hgH hl
  go_enter Tryd.func11, Tryd.ntmps11
  go_wp2
  go_loopw [5, 13] (fun v vi wr => ∃ i : Nat, i ≤ n ∧ vi = .int .i64 (i : Int) ∧ Hid (BbI H r ts w i v wr)) (fun _ vi _ => n - (intOf vi).toNat)
  case atStart => exact ⟨0, Nat.zero_le _, rfl, [], owns_nil _ _ _ _, .nil, Below.refl _ _⟩
  case round =>
    obtain ⟨i, hin, rfl, HI⟩ := hrel
    by_cases hlt : i < n
    · have hil : (i : Int) < (n : Int) := by omega
      obtain ⟨t, ht⟩ : ∃ t, ts[i]? = some t := ⟨_, List.getElem?_eq_getElem (by rw [← HN.out.1]; exact hlt)⟩
      obtain ⟨cs, hnd, hcs⟩ := HPK.out i t ht
      obtain ⟨k, ⟨lt, la, lc⟩, vB, aN, nN, cN, li, vK, bs, bss, ks, rfl, hB1, hB2, hK, hld, hback⟩ := nd_open hnd
      obtain ⟨aB, m, cB, rfl⟩ : ∃ a n c, vB = .slice a n c := by obtain ⟨a, c, e⟩ := row_slice hB1; exact ⟨a, _, c, e⟩
      obtain ⟨aK, nK, cK, rfl⟩ := hK.slice
      obtain ⟨wo, rfl⟩ : ∃ wo : World, wo = wr := ⟨_, rfl⟩
      obtain ⟨vo, hvo⟩ : ∃ vo, vo = u5 := ⟨_, rfl⟩
      rw [← hvo] at HI ⊢
      clear hvo
      obtain ⟨css, hown, hall, hb⟩ := HI.out
      have hbt := loadN_get ht
      have hmB : m = bss.length := by
        rcases hB1 with ⟨e1, e2⟩ | ⟨_, _, e1, _⟩
        · rw [e2]; simp at e1; exact e1.2.1
        · simp at e1; exact e1.2.1
      have hmb : m = bs.length := by rw [hmB, hB2.length]
      have hm4 : m ≤ 4000000 := by have := loadB_length bs; have := HN.out.2.2.2.2; omega
      have hKs : loadN ks ≤ 4000000 := by have := HN.out.2.2.2.2; omega
      have hBs : loadB bs ≤ 4000000 := by have := HN.out.2.2.2.2; omega
      have c0 := (hb.cell (p := ⟨g, i * 8, none⟩) hg).trans (hcs 0 _ rfl)
      have c1 := (hb.cell (p := ⟨g, i * 8 + 1, none⟩) hg).trans (hcs 1 _ rfl)
      have c2 := (hb.cell (p := ⟨g, i * 8 + 2, none⟩) hg).trans (hcs 2 _ rfl)
      have c3 := (hb.cell (p := ⟨g, i * 8 + 3, none⟩) hg).trans (hcs 3 _ rfl)
      have c4 := (hb.cell (p := ⟨g, i * 8 + 4, none⟩) hg).trans (hcs 4 _ rfl)
      have c5 := (hb.cell (p := ⟨g, i * 8 + 5, none⟩) hg).trans (hcs 5 _ rfl)
      have c6 := (hb.cell (p := ⟨g, i * 8 + 6, none⟩) hg).trans (hcs 6 _ rfl)
      have c7 := (hb.cell (p := ⟨g, i * 8 + 7, none⟩) hg).trans (hcs 7 _ rfl)
      obtain ⟨W1, hW1⟩ : ∃ W1, W1 = wo.alloc (.cells #[.int .i64 k, .string lt, .int .i64 la, .bool lc, .slice aB m cB, .slice aN nN cN, .string li, .slice aK nK cK] 47) := ⟨_, rfl⟩
      have hbx : W1.heap[wo.heap.size]? = some (.cells #[.int .i64 k, .string lt, .int .i64 la, .bool lc, .slice aB m cB, .slice aN nN cN, .string li, .slice aK nK cK] 47 (0, 0)) := by rw [hW1]; exact alloc_last _ _
      obtain ⟨xb, hxb⟩ : ∃ xb, xb = wo.heap.size := ⟨_, rfl⟩
      rw [← hxb] at hbx
      have hxl : xb < W1.heap.size := (Array.getElem?_eq_some_iff.1 hbx).1
      have HS : Hid (∀ W, Below W1.heap.size W1 W → W.cell? ⟨xb, 0, none⟩ = some (.int .i64 k) ∧ W.cell? ⟨xb, 1, none⟩ = some (.string lt) ∧ W.cell? ⟨xb, 2, none⟩ = some (.int .i64 la) ∧ W.cell? ⟨xb, 3, none⟩ = some (.bool lc) ∧ W.cell? ⟨xb, 5, none⟩ = some (.slice aN nN cN) ∧ W.cell? ⟨xb, 6, none⟩ = some (.string li) ∧ W.cell? ⟨xb, 7, none⟩ = some (.slice aK nK cK)) := fun W hW =>
        ⟨(hW.cell hxl).trans (cell_in hbx 0 rfl), (hW.cell hxl).trans (cell_in hbx 1 rfl), (hW.cell hxl).trans (cell_in hbx 2 rfl), (hW.cell hxl).trans (cell_in hbx 3 rfl), (hW.cell hxl).trans (cell_in hbx 5 rfl), (hW.cell hxl).trans (cell_in hbx 6 rfl), (hW.cell hxl).trans (cell_in hbx 7 rfl)⟩
      have HOne : Hid (∀ W, Calls Tryd.prog 20 #[.agg #[.string lt, .int .i64 la, .bool lc]] W fun e w' => e = .returned (.agg #[.string lt, .int .i64 la, .bool lc]) ∧ Below W.heap.size W w') := fun W => oneW_any lt la lc W
      have HBl : Hid (∀ W, Below W1.heap.size W1 W → Calls Tryd.prog 11 #[.slice aK nK cK, .int .i64 (lq : Int)] W (BlPost (fun x => (H x ∨ vo.ownBlock = some x) ∨ (W1.heap.size ≤ x ∧ x < W.heap.size)) r (.slice aK nK cK) ks W)) := by
        intro W hW
        have hW1b : Below wo.heap.size wo W1 := by rw [hW1]; exact (Below.refl _ _).alloc (Nat.le_refl _) _
        have hww : Below w.heap.size w W := bt2 (bt2 hb hW1b) hW
        have s1 := hb.size
        have s2 := hW1b.size
        have s3 := hW.size
        refine IH.out _ _ ks W lq (fun x hx => ?_) (hK.keeps ⟨hww.size, fun x hx _ => hww.block x hx, fun x hx hh => ?_⟩) hKs HN.out.2.2.1 HN.out.2.2.2.1
        · rcases hx with (hx | hx) | hx
          · have := HN.out.2.1 x hx; omega
          · have := (hown.lt x hx).2; omega
          · exact hx.2
        · rcases hh with (hh | hh) | hh
          · exact hh
          · have := (hown.lt x hh).1; omega
          · omega
      have HO : Hid (wo.ownsRow w.heap.size 61 8 vo css.length css.flatten ∧ All2 (NdAt (fun g => H g ∨ vo.ownBlock = some g) wo r) css (ts.take i) ∧ Below w.heap.size w wo ∧ Below wo.heap.size wo W1) := ⟨hown, hall, hb, by rw [hW1]; exact (Below.refl _ _).alloc (Nat.le_refl _) _⟩
      have HBR : Hid (RowAt H w 4 (.slice aB m cB) bss ∧ All2 (BrH H w r) bss bs ∧ loadB bs ≤ 4000000 ∧ m = bs.length) := ⟨hB1, hB2, hBs, hmb⟩
      have HBK : Hid _ := hback
      have HT : Hid (ts[i]? = some t) := ht
      have P0 : Below W1.heap.size W1 W1.drew := (Below.refl _ _).drew
      have b4 : W1.cell? ⟨xb, 4, none⟩ = some (.slice aB m cB) := cell_in hbx 4 rfl
      have HX4 : Hid (∀ W, Below W1.heap.size W1 W → W.cell? ⟨xb, 4, none⟩ = some (.slice aB m cB)) := fun W hW => (hW.cell hxl).trans b4
      clear hcs hnd hbx hb hB1 hB2 hK hld hown hall hbt hmB hmb hKs hBs hback ht b4
      go_upto_region 7 with fail
      rw [← hW1, ← hxb]
      clear hW1 hxb c0 c1 c2 c3 c4 c5 c6 c7
      go_region_held3 (fun W => W.cell? ⟨xb, 0, none⟩ = some (.int .i64 k) ∧ W.cell? ⟨xb, 1, none⟩ = some (.string lt) ∧ W.cell? ⟨xb, 2, none⟩ = some (.int .i64 la) ∧ W.cell? ⟨xb, 3, none⟩ = some (.bool lc) ∧ W.cell? ⟨xb, 5, none⟩ = some (.slice aN nN cN) ∧ W.cell? ⟨xb, 6, none⟩ = some (.string li) ∧ W.cell? ⟨xb, 7, none⟩ = some (.slice aK nK cK))
        (first | (refine HS.out _ ?_; repeat (first | with_reducible exact P0 | with_reducible exact bd2 P0 | with_reducible refine bd2 ?_ | (with_reducible refine bs2 ?_ (by with_reducible first | exact Nat.le_refl _ | exact P0.size | exact Nat.le_trans P0.size ha.size | exact Nat.le_trans P0.size hb2.size | exact Nat.le_trans (Nat.le_trans P0.size ha.size) hb2.size | exact Nat.le_trans (Nat.le_trans P0.size hb2.size) ha.size)) | with_reducible exact Below.refl _ _ | with_reducible refine ba2 ?_ _ | with_reducible refine bt2 ?_ (by with_reducible assumption))))
        (first | (go_at_call 20; refine (HOne.out _).mono ?_; rintro e wa ⟨rfl, ha⟩; first | (have hya := (ha.block _ (lt_alloc _ _)).trans (alloc_last _ _); obtain ⟨⟨y0, y1, y2, y3, y4, y5, y6, y7⟩, z0, z1, z2, z3, z4, z5, z6, z7⟩ := cells8 hya) | (have hya := (ha.block _ (Array.getElem?_eq_some_iff.1 hyb).1).trans hyb; obtain ⟨⟨y0, y1, y2, y3, y4, y5, y6, y7⟩, z0, z1, z2, z3, z4, z5, z6, z7⟩ := cells8 hya) | skip) | (go_at_call 11; refine (HBl.out _ (by repeat (first | with_reducible exact P0 | with_reducible exact Below.refl _ _ | with_reducible refine bd2 ?_ | with_reducible refine ba2 ?_ _ | with_reducible refine bt2 ?_ (by with_reducible assumption)))).mono ?_; rintro e wb ⟨a2, n2, c2, rfl, hk2, hn2, hb2⟩; first | (have hyb := (hb2.block _ (lt_alloc _ _)).trans (alloc_last _ _); obtain ⟨⟨y0, y1, y2, y3, y4, y5, y6, y7⟩, z0, z1, z2, z3, z4, z5, z6, z7⟩ := cells8 hyb) | (have hyb := (hb2.block _ (Array.getElem?_eq_some_iff.1 hya).1).trans hya; obtain ⟨⟨y0, y1, y2, y3, y4, y5, y6, y7⟩, z0, z1, z2, z3, z4, z5, z6, z7⟩ := cells8 hyb) | skip))
      · have HYA : Hid (YI (fun x => H x ∨ vo.ownBlock = some x) r W1 wb.heap.size (.int .i64 k) (.string lt) (.int .i64 la) (.bool lc) (.slice aN nN cN) (.string li) (.slice a2 n2 c2) ks (wb.alloc (.cells #[.int .i64 k, .string lt, .int .i64 la, .bool lc, .slice none 0 0, .slice aN nN cN, .string li, .slice a2 n2 c2] 61))) := yi_alloc hk2 (bt2 (bt2 P0 ha) hb2)
        obtain ⟨W3, hW3⟩ : ∃ W3, W3 = wb.alloc (.cells #[.int .i64 k, .string lt, .int .i64 la, .bool lc, .slice none 0 0, .slice aN nN cN, .string li, .slice a2 n2 c2] 61) := ⟨_, rfl⟩
        obtain ⟨y, hy⟩ : ∃ y, y = wb.heap.size := ⟨_, rfl⟩
        rw [← hW3, ← hy] at HYA ⊢
        have HN2 : Hid _ := hn2
        clear hW3 hy ha hk2 hb2 hn2
        have hx4 := HX4.out W3 HYA.out.bel
        go_wp2_with fail
        clear hx4
        go_loopw [37] (fun vi wr => ∃ j : Nat, j ≤ m ∧ vi = .int .i64 (j : Int) ∧ Hid (∃ vb cb, BJ (fun x => H x ∨ vo.ownBlock = some x) r W1 y (.int .i64 k) (.string lt) (.int .i64 la) (.bool lc) (.slice aN nN cN) (.string li) (.slice a2 n2 c2) ks bs j vb cb wr)) (fun vi _ => m - (intOf vi).toNat)
        case atStart => exact ⟨0, Nat.zero_le _, rfl, nilS, [], bj_start HYA.out bs⟩
        case round =>
          obtain ⟨j, hj, rfl, HJ⟩ := hrel
          by_cases hjm : j < m
          · have hji : (j : Int) < (m : Int) := by omega
            obtain ⟨vb, cb, hbj⟩ := HJ.out
            obtain ⟨gb, wd, tt, at_, aq, nq, cq, ks3, rfl, hgb, d0, d1, d2, d3, hkd, hbs, hll⟩ := brH_pick HBR.out.1 HBR.out.2.1 (j := j) (by rw [← HBR.out.2.2.2]; exact hjm)
            have hbw : Below w.heap.size w wr := bt2 (bt2 HO.out.2.2.1 HO.out.2.2.2) hbj.bel
            have e0 := (hbw.cell (p := ⟨gb, j * 4, none⟩) hgb).trans d0
            have e1 := (hbw.cell (p := ⟨gb, j * 4 + 1, none⟩) hgb).trans d1
            have e2 := (hbw.cell (p := ⟨gb, j * 4 + 2, none⟩) hgb).trans d2
            have e3 := (hbw.cell (p := ⟨gb, j * 4 + 3, none⟩) hgb).trans d3
            have hcb : cb.length = j := by
              have h1 := hbj.br.length
              have h2 := HBR.out.2.2.2
              rw [List.length_take] at h1; omega
            have hyl : y < wr.heap.size := (Array.getElem?_eq_some_iff.1 hbj.blk).1
            have HCa : Hid (∀ W, Below wr.heap.size wr W → Calls Tryd.prog 11 #[.slice aq nq cq, .int .i64 (lq : Int)] W (BlPost (Hj (fun x => H x ∨ vo.ownBlock = some x) y vb) r (.slice aq nq cq) ks3 W)) := by
              intro W hW
              have hww : Below w.heap.size w W := bt2 hbw hW
              have s1 := HO.out.2.2.1.size
              have s2 := HO.out.2.2.2.size
              have s3 := hbj.bel.size
              have s4 := hW.size
              have s5 := hbj.lo
              refine IH.out _ _ ks3 W lq (fun x hx => ?_) (hkd.keeps ⟨hww.size, fun x hx _ => hww.block x hx, fun x hx hh => ?_⟩) (by have := HBR.out.2.2.1; omega) HN.out.2.2.1 HN.out.2.2.2.1
              · rcases hx with ((hx | hx) | hx) | hx
                · have := HN.out.2.1 x hx; omega
                · have := (HO.out.1.lt x hx).2; omega
                · omega
                · have := (hbj.own.lt x hx).2; omega
              · rcases hh with ((hh | hh) | hh) | hh
                · exact hh
                · have := (HO.out.1.lt x hh).1; omega
                · omega
                · have := (hbj.own.lt x hh).1; omega
            obtain ⟨W2, hW2⟩ : ∃ W2, W2 = wr.alloc (.cells #[.string wd, .string tt, .int .i64 at_, .slice aq nq cq] 66) := ⟨_, rfl⟩
            have hW2b : Below wr.heap.size wr W2 := by rw [hW2]; exact (Below.refl _ _).alloc (Nat.le_refl _) _
            have hbb : W2.heap[wr.heap.size]? = some (.cells #[.string wd, .string tt, .int .i64 at_, .slice aq nq cq] 66 (0, 0)) := by rw [hW2]; exact alloc_last _ _
            obtain ⟨x2, hx2'⟩ : ∃ x2, x2 = wr.heap.size := ⟨_, rfl⟩
            rw [← hx2'] at hbb
            have hy2 := (hW2b.block y hyl).trans hbj.blk
            have hx2l : x2 < W2.heap.size := (Array.getElem?_eq_some_iff.1 hbb).1
            have hy2l : y < W2.heap.size := (Array.getElem?_eq_some_iff.1 hy2).1
            have y4 : W2.cell? ⟨y, 4, none⟩ = some vb := cell_in hy2 4 rfl
            have b0 := cell_in hbb 0 rfl
            have b1 := cell_in hbb 1 rfl
            have b2 := cell_in hbb 2 rfl
            have b3 := cell_in hbb 3 rfl
            have HBJ : Hid (BJ (fun x => H x ∨ vo.ownBlock = some x) r W1 y (.int .i64 k) (.string lt) (.int .i64 la) (.bool lc) (.slice aN nN cN) (.string li) (.slice a2 n2 c2) ks bs j vb cb wr ∧ Below wr.heap.size wr W2 ∧ bs[j]? = some (.mk wd tt at_ ks3) ∧ cb.length = j) := ⟨hbj, hW2b, hbs, hcb⟩
            have HSx : Hid (∀ W : World, W.heap[x2]? = some (.cells #[.string wd, .string tt, .int .i64 at_, .slice aq nq cq] 66 (0, 0)) → W.cell? ⟨x2, 0, none⟩ = some (.string wd) ∧ W.cell? ⟨x2, 1, none⟩ = some (.string tt) ∧ W.cell? ⟨x2, 2, none⟩ = some (.int .i64 at_) ∧ W.cell? ⟨x2, 3, none⟩ = some (.slice aq nq cq)) := fun W hW => ⟨cell_in hW 0 rfl, cell_in hW 1 rfl, cell_in hW 2 rfl, cell_in hW 3 rfl⟩
            have HB2 : Hid (∀ W, Below W2.heap.size W2 W → W.heap[x2]? = some (.cells #[.string wd, .string tt, .int .i64 at_, .slice aq nq cq] 66 (0, 0))) := fun W hW => (hW.block x2 hx2l).trans hbb
            have HNY : Hid (x2 ≠ y ∧ vb.ownBlock ≠ some x2) := ⟨fun e => (by rw [e, hy2] at hbb; cases hbb), Ex.row_ne' (T := 66) (owns_below hbj.own hW2b) hbb (by decide)⟩
            have HF : Hid (∀ w3, Below W2.drew.heap.size W2.drew w3 → w3.cell? ⟨y, 4, none⟩ = some vb ∧ w3.cell? ⟨x2, 0, none⟩ = some (.string wd) ∧ w3.cell? ⟨x2, 1, none⟩ = some (.string tt) ∧ w3.cell? ⟨x2, 2, none⟩ = some (.int .i64 at_) ∧ (∀ o, (w3.alloc o).ownsRow W1.heap.size 63 4 vb cb.length cb.flatten) ∧ W1.heap.size ≤ w3.heap.size ∧ y < w3.heap.size) := fun w3 h3 => by
              have h3' : Below W2.heap.size W2 w3 := bt2 (bd2 (Below.refl _ _)) h3
              have s3 := HBJ.out.1.bel.size
              have s4 := HBJ.out.2.1.size
              have s5 := h3'.size
              exact ⟨(h3'.cell (p := ⟨y, 4, none⟩) hy2l).trans y4, (h3'.cell (p := ⟨x2, 0, none⟩) hx2l).trans b0, (h3'.cell (p := ⟨x2, 1, none⟩) hx2l).trans b1, (h3'.cell (p := ⟨x2, 2, none⟩) hx2l).trans b2, fun o => (owns_below (owns_below HBJ.out.1.own HBJ.out.2.1) h3').alloc o, by omega, by omega⟩
            have HQ : Hid (∀ (w3 w4 : World) (o : Obj) (g4 c4 : Nat) (v3 : Value), Below W2.drew.heap.size W2.drew w3 → KdH (Hj (fun x => H x ∨ vo.ownBlock = some x) y vb) w3 v3 ks3 r → w4.ownsRow W1.heap.size 63 4 (.slice (some ⟨g4, 0, none⟩) (cb.length + 1) c4) (cb.length + 1) (cb.flatten ++ bkC wd tt at_ v3) → (w3.alloc o).grownBy w4 vb.ownBlock → (vb.ownBlock = some g4 ∨ g4 = (w3.alloc o).heap.size) → w4.heap[y]? = some (.cells #[.int .i64 k, .string lt, .int .i64 la, .bool lc, vb, .slice aN nN cN, .string li, .slice a2 n2 c2] 61 (0, 0)) ∧ w4.heap[x2]? = some (.cells #[.string wd, .string tt, .int .i64 at_, .slice aq nq cq] 66 (0, 0)) ∧ BJ (fun x => H x ∨ vo.ownBlock = some x) r W1 y (.int .i64 k) (.string lt) (.int .i64 la) (.bool lc) (.slice aN nN cN) (.string li) (.slice a2 n2 c2) ks bs (j + 1) (.slice (some ⟨g4, 0, none⟩) (cb.length + 1) c4) (cb ++ [bkC wd tt at_ v3]) (w4.setCell ⟨y, 4, none⟩ (.slice (some ⟨g4, 0, none⟩) (cb.length + 1) c4))) := fun w3 w4 o g4 c4 v3 h3 hk3 hown hgr hgg => by
              have h3' : Below wr.heap.size wr w3 := bt2 (bt2 HBJ.out.2.1 (bd2 (Below.refl _ _))) h3
              have s5 := h3'.size
              have hz : (w3.alloc o).heap.size = w3.heap.size + 1 := by simp
              have hyy := (Array.getElem?_eq_some_iff.1 HBJ.out.1.blk).1
              have hx3 := HB2.out w3 (bt2 (bd2 (Below.refl _ _)) h3)
              exact ⟨(hgr.block y (by omega) (fun e => HBJ.out.1.row e.symm)).trans ((Below.heap_alloc _ _ _ (by omega)).trans ((h3'.block y hyy).trans HBJ.out.1.blk)), (hgr.block x2 (by rw [hz]; have := (Array.getElem?_eq_some_iff.1 hx3).1; omega) (fun e => HNY.out.2 e.symm)).trans ((Below.heap_alloc _ _ _ (Array.getElem?_eq_some_iff.1 hx3).1).trans hx3), bj_step HBJ.out.1 h3' hk3 HBJ.out.2.2.1 hown rfl hgr hgg⟩
            have HN1 : ∀ v3 : Value, v3.oneCell' = true → ∀ u ∈ [Value.string wd, .string tt, .int .i64 at_, v3], u.oneCell' = true := by
              intro v3 h3 u hu
              simp at hu
              rcases hu with rfl | rfl | rfl | rfl
              · rfl
              · rfl
              · rfl
              · exact h3
            have hcl : cb.length ≤ 4000000 := by omega
            clear d0 d1 d2 d3 hkd hbs hll hbw hcb hyl hW2b hbb hy2 hbj
            go_upto_region 11 with fail
            rw [← hW2, ← hx2']
            clear hW2 hx2' e0 e1 e2 e3
            have PB0 : Below W2.heap.size W2 W2.drew := bd2 (Below.refl _ _)
            have SA0 := HSx.out _ (HB2.out _ PB0)
            have SB0 : W2.drew.cell? ⟨y, 4, none⟩ = some vb := y4
            refine wp_region_t (SA := fun W : World => W.cell? ⟨x2, 0, none⟩ = some (.string wd) ∧ W.cell? ⟨x2, 1, none⟩ = some (.string tt) ∧ W.cell? ⟨x2, 2, none⟩ = some (.int .i64 at_) ∧ W.cell? ⟨x2, 3, none⟩ = some (.slice aq nq cq)) (SB := fun W : World => W.cell? ⟨y, 4, none⟩ = some vb) (m := 15) (n := 18) (by kernel_rfl) rfl ?_
            refine t_take (i := 0) (v := ?v0a) rfl (by kernel_rfl) (by kernel_rfl) (by kernel_rfl) (by decide) (fun _ _ _ h => h) SA0 (fun _ => SB0) (Or.inl ⟨by rfl, ?hy0a⟩) ?rest0a
            case hy0a => (intro w' hSw; (try dsimp only at hSw); go_simp; try with_reducible rfl)
            simp only [Act.put]
            refine t_takeB (i := 1) (v := ?v1a) rfl (by kernel_rfl) (by kernel_rfl) (by kernel_rfl) (by decide) rfl (by kernel_rfl) (by kernel_rfl) (fun _ _ _ h => h) SA0 (fun _ => SB0) (Or.inl ⟨by rfl, ?hy1a⟩) ?rest1a
            case hy1a => (intro w' hSw; (try dsimp only at hSw); go_simp; try with_reducible rfl)
            simp only [Act.put]
            refine t_take (i := 2) (v := ?v2a) rfl (by kernel_rfl) (by kernel_rfl) (by kernel_rfl) (by decide) (fun _ _ _ h => h) SA0 (fun _ => SB0) (Or.inl ⟨by rfl, ?hy2a⟩) ?rest2a
            case hy2a => (intro w' hSw; (try dsimp only at hSw); go_simp; try with_reducible rfl)
            simp only [Act.put]
            refine t_take (i := 3) (v := ?v3a) rfl (by kernel_rfl) (by kernel_rfl) (by kernel_rfl) (by decide) (fun _ _ _ h => h) SA0 (fun _ => SB0) (Or.inl ⟨by rfl, ?hy3a⟩) ?rest3a
            case hy3a => (intro w' hSw; (try dsimp only at hSw); go_simp; try with_reducible rfl)
            simp only [Act.put]
            refine t_take (i := 4) (v := ?v4a) rfl (by kernel_rfl) (by kernel_rfl) (by kernel_rfl) (by decide) (fun _ _ _ h => h) SA0 (fun _ => SB0) (Or.inl ⟨by rfl, ?hy4a⟩) ?rest4a
            case hy4a => (intro w' hSw; (try dsimp only at hSw); go_simp; try with_reducible rfl)
            simp only [Act.put]
            refine t_take (i := 5) (v := ?v5a) rfl (by kernel_rfl) (by kernel_rfl) (by kernel_rfl) (by decide) (fun _ _ _ h => h) SA0 (fun _ => SB0) (Or.inl ⟨by rfl, ?hy5a⟩) ?rest5a
            case hy5a => (intro w' hSw; (try dsimp only at hSw); go_simp; try with_reducible rfl)
            simp only [Act.put]
            refine t_take (i := 6) (v := ?v6a) rfl (by kernel_rfl) (by kernel_rfl) (by kernel_rfl) (by decide) (fun _ _ _ h => h) SA0 (fun _ => SB0) (Or.inl ⟨by rfl, ?hy6a⟩) ?rest6a
            case hy6a => (intro w' hSw; (try dsimp only at hSw); go_simp; try with_reducible rfl)
            simp only [Act.put]
            refine t_take (i := 7) (v := ?v7a) rfl (by kernel_rfl) (by kernel_rfl) (by kernel_rfl) (by decide) (fun _ _ _ h => h) SA0 (fun _ => SB0) (Or.inl ⟨by rfl, ?hy7a⟩) ?rest7a
            case hy7a => (intro w' hSw; (try dsimp only at hSw); go_simp; try with_reducible rfl)
            simp only [Act.put]
            refine t_take (i := 8) (v := ?v8a) rfl (by kernel_rfl) (by kernel_rfl) (by kernel_rfl) (by decide) (fun _ _ _ h => h) SA0 (fun _ => SB0) (Or.inl ⟨by rfl, ?hy8a⟩) ?rest8a
            case hy8a => (intro w' hSw; (try dsimp only at hSw); go_simp; try with_reducible rfl)
            simp only [Act.put]
            refine t_take (i := 9) (v := ?v9a) rfl (by kernel_rfl) (by kernel_rfl) (by kernel_rfl) (by decide) (fun _ _ _ h => h) SA0 (fun _ => SB0) (Or.inl ⟨by rfl, ?hy9a⟩) ?rest9a
            case hy9a => (intro w' hSw; (try dsimp only at hSw); go_simp; try with_reducible rfl)
            simp only [Act.put]
            refine t_take (i := 10) (v := ?v10a) rfl (by kernel_rfl) (by kernel_rfl) (by kernel_rfl) (by decide) (fun _ _ _ h => h) SA0 (fun _ => SB0) (Or.inl ⟨by rfl, ?hy10a⟩) ?rest10a
            case hy10a => (intro w' hSw; (try dsimp only at hSw); go_simp; try with_reducible rfl)
            simp only [Act.put]
            refine t_take (i := 11) (v := ?v11a) rfl (by kernel_rfl) (by kernel_rfl) (by kernel_rfl) (by decide) (fun _ _ _ h => h) SA0 (fun _ => SB0) (Or.inl ⟨by rfl, ?hy11a⟩) ?rest11a
            case hy11a => (intro w' hSw; (try dsimp only at hSw); go_simp; try with_reducible rfl)
            simp only [Act.put]
            refine t_step (i := 12) rfl (by kernel_rfl) (fun K hK => ?_)
            go_simp
            go_at_call 11
            refine (HCa.out _ (bd2 HBJ.out.2.1)).mono ?_
            rintro e w3 ⟨a3, n3, c3, rfl, hk3, _, hb3⟩
            obtain ⟨y43, b03, b13, b23, hrow3, hlo3, hy3l⟩ := HF.out w3 hb3
            go_wp2_with fail
            have SA3 := HSx.out _ (HB2.out _ (bt2 PB0 hb3))
            refine hK _ _ SA3 (fun _ => y43) ?_
            clear hK
            refine t_take (i := 13) (v := ?v13a) rfl (by kernel_rfl) (by kernel_rfl) (by kernel_rfl) (by decide) (fun _ _ _ h => h) SA3 (fun _ => y43) (Or.inl ⟨by rfl, ?hy13a⟩) ?rest13a
            case hy13a => (intro w' hSw; (try dsimp only at hSw); go_simp; try with_reducible rfl)
            simp only [Act.put]
            refine t_step (i := 14) rfl (by kernel_rfl) (fun K hK => ?_)
            go_simp
            have SB3 : (w3.alloc (.cells #[.string wd, .string tt, .int .i64 at_, .slice a3 n3 c3] 63)).cell? ⟨y, 4, none⟩ = some vb := (((Below.refl _ w3).alloc (Nat.le_refl _) _).cell (p := ⟨y, 4, none⟩) hy3l).trans y43
            refine hK _ _ (HSx.out _ (HB2.out _ (ba2 (bt2 PB0 hb3) _))) (fun _ => SB3) ?_
            clear hK
            refine t_step (i := 15) rfl (by kernel_rfl) (fun K hK => ?_)
            refine step_append_lies _ (by rfl) (.tmp 42) (.tmp 55) 59 (by rfl) W1.heap.size 63 i0 (.agg #[.string ⟨#[]⟩, .string ⟨#[]⟩, .int .i64 0, .slice none 0 0]) 4 64 Tryd.underlying59 hi hy0 hy1 hy2 rfl (by decide) vb cb.length cb.flatten (by rfl) (hrow3 _) ⟨w3.heap.size, 0, none⟩ 1 1 [.string wd, .string tt, .int .i64 at_, .slice a3 n3 c3] (by rfl) rfl (World.news_of_block (alloc_last _ _)) (HN1 _ rfl) (by decide) (by unfold maxLen; omega) (by omega) (Nat.le_trans hlo3 (by simp)) _ rfl ?_
            intro g4 c4 w4 hown4 hgr4 hgg4 _
            obtain ⟨q1, S4, q2⟩ := HQ.out w3 w4 _ g4 c4 _ hb3 hk3 hown4 hgr4 hgg4
            have HE4 : Hid _ := q2
            have fz : w4.frozen? ⟨y, 4, none⟩ = false := by simp [World.frozen?, q1]
            have y48 := cell_in q1 4 rfl
            have S5 := (Below.heap_setCell w4 ⟨y, 4, none⟩ (.slice (some ⟨g4, 0, none⟩) (cb.length + 1) c4) x2 HNY.out.1).trans S4
            have SA4 := HSx.out _ S4
            have SA5 := HSx.out _ S5
            refine hK _ _ SA4 (fun _ => y48) ?_
            clear hK hown4 hgr4 hgg4 q1 q2 S4 S5 hk3 hb3 y43 b03 b13 b23 hrow3 hlo3 hy3l SA3 SB3 SA0 SB0 PB0 HQ HF
            refine t_take (i := 16) (v := ?v16a) rfl (by kernel_rfl) (by kernel_rfl) (by kernel_rfl) (by decide) (fun _ _ _ h => h) SA4 (fun _ => y48) (Or.inl ⟨by rfl, ?hy16a⟩) ?rest16a
            case hy16a => (intro w' hSw; (try dsimp only at hSw); go_simp; try with_reducible rfl)
            simp only [Act.put]
            refine t_step (i := 17) rfl (by kernel_rfl) (fun K hK => ?_)
            go_simp
            refine hK _ _ SA5 (fun h => absurd (h.symm.trans (by kernel_rfl : _ = true)) (by decide)) ?_
            clear hK
            refine t_done (by kernel_rfl) ?_ _
            clear SA4 SA5 y48 fz y4 b0 b1 b2 b3
            go_wp2_with fail
            go_roundw
            case rel => exact ⟨j + 1, by omega, by go_num, _, _, HE4.out⟩
            case measure => simp [intOf]; omega
          · have hjb : j = bs.length := by have := HBR.out.2.2.2; omega
            have hji : ¬ (j : Int) < (m : Int) := by omega
            obtain ⟨vb, cb, hbj⟩ := HJ.out
            obtain ⟨ab, cbc, rfl⟩ := V.owns_slice hbj.own
            obtain ⟨⟨k0, k1, k2, k3, k4, k5, k6, k7⟩, _⟩ := cells8 hbj.blk
            have hownW : wr.ownsRow w.heap.size 61 8 vo css.length css.flatten := owns_below (owns_below HO.out.1 HO.out.2.2.2) hbj.bel
            have hcl : css.length ≤ 4000000 := by
              have h1 := HO.out.2.1.length
              have h2 := HN.out.1
              rw [List.length_take] at h1; omega
            have hws : w.heap.size ≤ wr.heap.size := by
              have s1 := HO.out.2.2.1.size
              have s2 := HO.out.2.2.2.size
              have s3 := hbj.bel.size
              omega
            have HJE : Hid (BJ (fun x => H x ∨ vo.ownBlock = some x) r W1 y (.int .i64 k) (.string lt) (.int .i64 la) (.bool lc) (.slice aN nN cN) (.string li) (.slice a2 n2 c2) ks bs bs.length (.slice ab cb.length cbc) cb wr) := by
              unfold Hid; rw [← hjb]; exact hbj
            clear hbj hjb
            obtain ⟨cbn, hcbn⟩ : ∃ x, x = cb.length := ⟨_, rfl⟩
            rw [← hcbn] at HJE k4
            clear hcbn
            have HNW : Hid (∀ (jj : Nat) (u : Value), [.int .i64 k, .string lt, .int .i64 la, .bool lc, .slice ab cbn cbc, .slice aN nN cN, .string li, .slice a2 n2 c2][jj]? = some u → (wr.alloc (.cells #[.int .i64 k, .string lt, .int .i64 la, .bool lc, .slice ab cbn cbc, .slice aN nN cN, .string li, .slice a2 n2 c2] 61)).cell? ((⟨wr.heap.size, 0, none⟩ : Addr).add jj) = some u) := World.news_of_block (alloc_last _ _)
            have HN8 : ∀ u ∈ [Value.int .i64 k, .string lt, .int .i64 la, .bool lc, .slice ab cbn cbc, .slice aN nN cN, .string li, .slice a2 n2 c2], u.oneCell' = true := by
              intro u hu
              simp at hu
              rcases hu with rfl | rfl | rfl | rfl | rfl | rfl | rfl | rfl <;> rfl
            go_wp2_with (at_builtin; refine wpList_append_own_at _ rfl _ _ 35 rfl w.heap.size 61 i1 (.agg #[.int .i64 0, .string ⟨#[]⟩, .int .i64 0, .bool false, .slice none 0 0, .slice none 0 0, .string ⟨#[]⟩, .slice none 0 0]) 8 128 Tryd.underlying35 hi1 hx0 hx1 hx2 rfl (by decide) _ _ _ rfl (hownW.alloc _) ⟨wr.heap.size, 0, none⟩ 1 1 [.int .i64 k, .string lt, .int .i64 la, .bool lc, .slice ab cbn cbc, .slice aN nN cN, .string li, .slice a2 n2 c2] rfl rfl ?c1a ?c2a ?c3a ?c4a ?c5a ?_)
            case c3a => unfold maxLen; omega
            case c4a => omega
            case c5a => first | omega | (simp; omega)
            intro v' w4 hown4 hgr4 _ hat4
            have HBE : Hid (BbI H r ts w (i + 1) v' w4) := bi_step (l := ⟨lt, la, lc⟩) HN.out.2.1 HT.out HO.out.2.2.1 HO.out.1 HO.out.2.1 HO.out.2.2.2 HJE.out hown4 hgr4 (hat4.imp_right (fun h => h.trans (by simp))) (fun H' w' vB' css' vK' g1 g2 g3 g4 g5 g6 => HBK.out H' w' vB' css' vK' g1 g2 g3 g4 g5 (fun hv => g6 ▸ HN2.out hv))
            clear hown4 hgr4 hat4 hownW k0 k1 k2 k3 k4 k5 k6 k7
            go_wp2_with fail
            go_roundw
            case rel => exact ⟨i + 1, by omega, by go_num, HBE.out⟩
            case measure => simp [intOf]; omega
      · have HYA : Hid (YI (fun x => H x ∨ vo.ownBlock = some x) r W1 wa.heap.size (.int .i64 k) (.string lt) (.int .i64 la) (.bool lc) (.slice aN nN cN) (.string li) (.slice a2 n2 c2) ks ((((((((wb.setCell ⟨wa.heap.size, 0, none⟩ (.int .i64 k)).setCell ⟨wa.heap.size, 1, none⟩ (.string lt)).setCell ⟨wa.heap.size, 2, none⟩ (.int .i64 la)).setCell ⟨wa.heap.size, 3, none⟩ (.bool lc)).setCell ⟨wa.heap.size, 4, none⟩ (.slice none 0 0)).setCell ⟨wa.heap.size, 5, none⟩ (.slice aN nN cN)).setCell ⟨wa.heap.size, 6, none⟩ (.string li)).setCell ⟨wa.heap.size, 7, none⟩ (.slice a2 n2 c2))) := yi_set hk2 (bt2 (ba2 (bt2 P0 ha) _) hb2) ((bt2 P0 ha).size) (lt_alloc _ _) hyb
        obtain ⟨W3, hW3⟩ : ∃ W3, W3 = ((((((((wb.setCell ⟨wa.heap.size, 0, none⟩ (.int .i64 k)).setCell ⟨wa.heap.size, 1, none⟩ (.string lt)).setCell ⟨wa.heap.size, 2, none⟩ (.int .i64 la)).setCell ⟨wa.heap.size, 3, none⟩ (.bool lc)).setCell ⟨wa.heap.size, 4, none⟩ (.slice none 0 0)).setCell ⟨wa.heap.size, 5, none⟩ (.slice aN nN cN)).setCell ⟨wa.heap.size, 6, none⟩ (.string li)).setCell ⟨wa.heap.size, 7, none⟩ (.slice a2 n2 c2)) := ⟨_, rfl⟩
        obtain ⟨y, hy⟩ : ∃ y, y = wa.heap.size := ⟨_, rfl⟩
        rw [← hW3] at HYA ⊢
        rw [← hy] at HYA ⊢
        have HN2 : Hid _ := hn2
        clear hW3 hy ha hk2 hb2 hn2 hyb y0 y1 y2 y3 y4 y5 y6 y7 z0 z1 z2 z3 z4 z5 z6 z7
        have hx4 := HX4.out W3 HYA.out.bel
        go_wp2_with fail
        clear hx4
        go_loopw [37] (fun vi wr => ∃ j : Nat, j ≤ m ∧ vi = .int .i64 (j : Int) ∧ Hid (∃ vb cb, BJ (fun x => H x ∨ vo.ownBlock = some x) r W1 y (.int .i64 k) (.string lt) (.int .i64 la) (.bool lc) (.slice aN nN cN) (.string li) (.slice a2 n2 c2) ks bs j vb cb wr)) (fun vi _ => m - (intOf vi).toNat)
        case atStart => exact ⟨0, Nat.zero_le _, rfl, nilS, [], bj_start HYA.out bs⟩
        case round =>
          obtain ⟨j, hj, rfl, HJ⟩ := hrel
          by_cases hjm : j < m
          · have hji : (j : Int) < (m : Int) := by omega
            obtain ⟨vb, cb, hbj⟩ := HJ.out
            obtain ⟨gb, wd, tt, at_, aq, nq, cq, ks3, rfl, hgb, d0, d1, d2, d3, hkd, hbs, hll⟩ := brH_pick HBR.out.1 HBR.out.2.1 (j := j) (by rw [← HBR.out.2.2.2]; exact hjm)
            have hbw : Below w.heap.size w wr := bt2 (bt2 HO.out.2.2.1 HO.out.2.2.2) hbj.bel
            have e0 := (hbw.cell (p := ⟨gb, j * 4, none⟩) hgb).trans d0
            have e1 := (hbw.cell (p := ⟨gb, j * 4 + 1, none⟩) hgb).trans d1
            have e2 := (hbw.cell (p := ⟨gb, j * 4 + 2, none⟩) hgb).trans d2
            have e3 := (hbw.cell (p := ⟨gb, j * 4 + 3, none⟩) hgb).trans d3
            have hcb : cb.length = j := by
              have h1 := hbj.br.length
              have h2 := HBR.out.2.2.2
              rw [List.length_take] at h1; omega
            have hyl : y < wr.heap.size := (Array.getElem?_eq_some_iff.1 hbj.blk).1
            have HCa : Hid (∀ W, Below wr.heap.size wr W → Calls Tryd.prog 11 #[.slice aq nq cq, .int .i64 (lq : Int)] W (BlPost (Hj (fun x => H x ∨ vo.ownBlock = some x) y vb) r (.slice aq nq cq) ks3 W)) := by
              intro W hW
              have hww : Below w.heap.size w W := bt2 hbw hW
              have s1 := HO.out.2.2.1.size
              have s2 := HO.out.2.2.2.size
              have s3 := hbj.bel.size
              have s4 := hW.size
              have s5 := hbj.lo
              refine IH.out _ _ ks3 W lq (fun x hx => ?_) (hkd.keeps ⟨hww.size, fun x hx _ => hww.block x hx, fun x hx hh => ?_⟩) (by have := HBR.out.2.2.1; omega) HN.out.2.2.1 HN.out.2.2.2.1
              · rcases hx with ((hx | hx) | hx) | hx
                · have := HN.out.2.1 x hx; omega
                · have := (HO.out.1.lt x hx).2; omega
                · omega
                · have := (hbj.own.lt x hx).2; omega
              · rcases hh with ((hh | hh) | hh) | hh
                · exact hh
                · have := (HO.out.1.lt x hh).1; omega
                · omega
                · have := (hbj.own.lt x hh).1; omega
            obtain ⟨W2, hW2⟩ : ∃ W2, W2 = wr.alloc (.cells #[.string wd, .string tt, .int .i64 at_, .slice aq nq cq] 66) := ⟨_, rfl⟩
            have hW2b : Below wr.heap.size wr W2 := by rw [hW2]; exact (Below.refl _ _).alloc (Nat.le_refl _) _
            have hbb : W2.heap[wr.heap.size]? = some (.cells #[.string wd, .string tt, .int .i64 at_, .slice aq nq cq] 66 (0, 0)) := by rw [hW2]; exact alloc_last _ _
            obtain ⟨x2, hx2'⟩ : ∃ x2, x2 = wr.heap.size := ⟨_, rfl⟩
            rw [← hx2'] at hbb
            have hy2 := (hW2b.block y hyl).trans hbj.blk
            have hx2l : x2 < W2.heap.size := (Array.getElem?_eq_some_iff.1 hbb).1
            have hy2l : y < W2.heap.size := (Array.getElem?_eq_some_iff.1 hy2).1
            have y4 : W2.cell? ⟨y, 4, none⟩ = some vb := cell_in hy2 4 rfl
            have b0 := cell_in hbb 0 rfl
            have b1 := cell_in hbb 1 rfl
            have b2 := cell_in hbb 2 rfl
            have b3 := cell_in hbb 3 rfl
            have HBJ : Hid (BJ (fun x => H x ∨ vo.ownBlock = some x) r W1 y (.int .i64 k) (.string lt) (.int .i64 la) (.bool lc) (.slice aN nN cN) (.string li) (.slice a2 n2 c2) ks bs j vb cb wr ∧ Below wr.heap.size wr W2 ∧ bs[j]? = some (.mk wd tt at_ ks3) ∧ cb.length = j) := ⟨hbj, hW2b, hbs, hcb⟩
            have HSx : Hid (∀ W : World, W.heap[x2]? = some (.cells #[.string wd, .string tt, .int .i64 at_, .slice aq nq cq] 66 (0, 0)) → W.cell? ⟨x2, 0, none⟩ = some (.string wd) ∧ W.cell? ⟨x2, 1, none⟩ = some (.string tt) ∧ W.cell? ⟨x2, 2, none⟩ = some (.int .i64 at_) ∧ W.cell? ⟨x2, 3, none⟩ = some (.slice aq nq cq)) := fun W hW => ⟨cell_in hW 0 rfl, cell_in hW 1 rfl, cell_in hW 2 rfl, cell_in hW 3 rfl⟩
            have HB2 : Hid (∀ W, Below W2.heap.size W2 W → W.heap[x2]? = some (.cells #[.string wd, .string tt, .int .i64 at_, .slice aq nq cq] 66 (0, 0))) := fun W hW => (hW.block x2 hx2l).trans hbb
            have HNY : Hid (x2 ≠ y ∧ vb.ownBlock ≠ some x2) := ⟨fun e => (by rw [e, hy2] at hbb; cases hbb), Ex.row_ne' (T := 66) (owns_below hbj.own hW2b) hbb (by decide)⟩
            have HF : Hid (∀ w3, Below W2.drew.heap.size W2.drew w3 → w3.cell? ⟨y, 4, none⟩ = some vb ∧ w3.cell? ⟨x2, 0, none⟩ = some (.string wd) ∧ w3.cell? ⟨x2, 1, none⟩ = some (.string tt) ∧ w3.cell? ⟨x2, 2, none⟩ = some (.int .i64 at_) ∧ (∀ o, (w3.alloc o).ownsRow W1.heap.size 63 4 vb cb.length cb.flatten) ∧ W1.heap.size ≤ w3.heap.size ∧ y < w3.heap.size) := fun w3 h3 => by
              have h3' : Below W2.heap.size W2 w3 := bt2 (bd2 (Below.refl _ _)) h3
              have s3 := HBJ.out.1.bel.size
              have s4 := HBJ.out.2.1.size
              have s5 := h3'.size
              exact ⟨(h3'.cell (p := ⟨y, 4, none⟩) hy2l).trans y4, (h3'.cell (p := ⟨x2, 0, none⟩) hx2l).trans b0, (h3'.cell (p := ⟨x2, 1, none⟩) hx2l).trans b1, (h3'.cell (p := ⟨x2, 2, none⟩) hx2l).trans b2, fun o => (owns_below (owns_below HBJ.out.1.own HBJ.out.2.1) h3').alloc o, by omega, by omega⟩
            have HQ : Hid (∀ (w3 w4 : World) (o : Obj) (g4 c4 : Nat) (v3 : Value), Below W2.drew.heap.size W2.drew w3 → KdH (Hj (fun x => H x ∨ vo.ownBlock = some x) y vb) w3 v3 ks3 r → w4.ownsRow W1.heap.size 63 4 (.slice (some ⟨g4, 0, none⟩) (cb.length + 1) c4) (cb.length + 1) (cb.flatten ++ bkC wd tt at_ v3) → (w3.alloc o).grownBy w4 vb.ownBlock → (vb.ownBlock = some g4 ∨ g4 = (w3.alloc o).heap.size) → w4.heap[y]? = some (.cells #[.int .i64 k, .string lt, .int .i64 la, .bool lc, vb, .slice aN nN cN, .string li, .slice a2 n2 c2] 61 (0, 0)) ∧ w4.heap[x2]? = some (.cells #[.string wd, .string tt, .int .i64 at_, .slice aq nq cq] 66 (0, 0)) ∧ BJ (fun x => H x ∨ vo.ownBlock = some x) r W1 y (.int .i64 k) (.string lt) (.int .i64 la) (.bool lc) (.slice aN nN cN) (.string li) (.slice a2 n2 c2) ks bs (j + 1) (.slice (some ⟨g4, 0, none⟩) (cb.length + 1) c4) (cb ++ [bkC wd tt at_ v3]) (w4.setCell ⟨y, 4, none⟩ (.slice (some ⟨g4, 0, none⟩) (cb.length + 1) c4))) := fun w3 w4 o g4 c4 v3 h3 hk3 hown hgr hgg => by
              have h3' : Below wr.heap.size wr w3 := bt2 (bt2 HBJ.out.2.1 (bd2 (Below.refl _ _))) h3
              have s5 := h3'.size
              have hz : (w3.alloc o).heap.size = w3.heap.size + 1 := by simp
              have hyy := (Array.getElem?_eq_some_iff.1 HBJ.out.1.blk).1
              have hx3 := HB2.out w3 (bt2 (bd2 (Below.refl _ _)) h3)
              exact ⟨(hgr.block y (by omega) (fun e => HBJ.out.1.row e.symm)).trans ((Below.heap_alloc _ _ _ (by omega)).trans ((h3'.block y hyy).trans HBJ.out.1.blk)), (hgr.block x2 (by rw [hz]; have := (Array.getElem?_eq_some_iff.1 hx3).1; omega) (fun e => HNY.out.2 e.symm)).trans ((Below.heap_alloc _ _ _ (Array.getElem?_eq_some_iff.1 hx3).1).trans hx3), bj_step HBJ.out.1 h3' hk3 HBJ.out.2.2.1 hown rfl hgr hgg⟩
            have HN1 : ∀ v3 : Value, v3.oneCell' = true → ∀ u ∈ [Value.string wd, .string tt, .int .i64 at_, v3], u.oneCell' = true := by
              intro v3 h3 u hu
              simp at hu
              rcases hu with rfl | rfl | rfl | rfl
              · rfl
              · rfl
              · rfl
              · exact h3
            have hcl : cb.length ≤ 4000000 := by omega
            clear d0 d1 d2 d3 hkd hbs hll hbw hcb hyl hW2b hbb hy2 hbj
            go_upto_region 11 with fail
            rw [← hW2, ← hx2']
            clear hW2 hx2' e0 e1 e2 e3
            have PB0 : Below W2.heap.size W2 W2.drew := bd2 (Below.refl _ _)
            have SA0 := HSx.out _ (HB2.out _ PB0)
            have SB0 : W2.drew.cell? ⟨y, 4, none⟩ = some vb := y4
            refine wp_region_t (SA := fun W : World => W.cell? ⟨x2, 0, none⟩ = some (.string wd) ∧ W.cell? ⟨x2, 1, none⟩ = some (.string tt) ∧ W.cell? ⟨x2, 2, none⟩ = some (.int .i64 at_) ∧ W.cell? ⟨x2, 3, none⟩ = some (.slice aq nq cq)) (SB := fun W : World => W.cell? ⟨y, 4, none⟩ = some vb) (m := 15) (n := 18) (by kernel_rfl) rfl ?_
            refine t_take (i := 0) (v := ?v0b) rfl (by kernel_rfl) (by kernel_rfl) (by kernel_rfl) (by decide) (fun _ _ _ h => h) SA0 (fun _ => SB0) (Or.inl ⟨by rfl, ?hy0b⟩) ?rest0b
            case hy0b => (intro w' hSw; (try dsimp only at hSw); go_simp; try with_reducible rfl)
            simp only [Act.put]
            refine t_takeB (i := 1) (v := ?v1b) rfl (by kernel_rfl) (by kernel_rfl) (by kernel_rfl) (by decide) rfl (by kernel_rfl) (by kernel_rfl) (fun _ _ _ h => h) SA0 (fun _ => SB0) (Or.inl ⟨by rfl, ?hy1b⟩) ?rest1b
            case hy1b => (intro w' hSw; (try dsimp only at hSw); go_simp; try with_reducible rfl)
            simp only [Act.put]
            refine t_take (i := 2) (v := ?v2b) rfl (by kernel_rfl) (by kernel_rfl) (by kernel_rfl) (by decide) (fun _ _ _ h => h) SA0 (fun _ => SB0) (Or.inl ⟨by rfl, ?hy2b⟩) ?rest2b
            case hy2b => (intro w' hSw; (try dsimp only at hSw); go_simp; try with_reducible rfl)
            simp only [Act.put]
            refine t_take (i := 3) (v := ?v3b) rfl (by kernel_rfl) (by kernel_rfl) (by kernel_rfl) (by decide) (fun _ _ _ h => h) SA0 (fun _ => SB0) (Or.inl ⟨by rfl, ?hy3b⟩) ?rest3b
            case hy3b => (intro w' hSw; (try dsimp only at hSw); go_simp; try with_reducible rfl)
            simp only [Act.put]
            refine t_take (i := 4) (v := ?v4b) rfl (by kernel_rfl) (by kernel_rfl) (by kernel_rfl) (by decide) (fun _ _ _ h => h) SA0 (fun _ => SB0) (Or.inl ⟨by rfl, ?hy4b⟩) ?rest4b
            case hy4b => (intro w' hSw; (try dsimp only at hSw); go_simp; try with_reducible rfl)
            simp only [Act.put]
            refine t_take (i := 5) (v := ?v5b) rfl (by kernel_rfl) (by kernel_rfl) (by kernel_rfl) (by decide) (fun _ _ _ h => h) SA0 (fun _ => SB0) (Or.inl ⟨by rfl, ?hy5b⟩) ?rest5b
            case hy5b => (intro w' hSw; (try dsimp only at hSw); go_simp; try with_reducible rfl)
            simp only [Act.put]
            refine t_take (i := 6) (v := ?v6b) rfl (by kernel_rfl) (by kernel_rfl) (by kernel_rfl) (by decide) (fun _ _ _ h => h) SA0 (fun _ => SB0) (Or.inl ⟨by rfl, ?hy6b⟩) ?rest6b
            case hy6b => (intro w' hSw; (try dsimp only at hSw); go_simp; try with_reducible rfl)
            simp only [Act.put]
            refine t_take (i := 7) (v := ?v7b) rfl (by kernel_rfl) (by kernel_rfl) (by kernel_rfl) (by decide) (fun _ _ _ h => h) SA0 (fun _ => SB0) (Or.inl ⟨by rfl, ?hy7b⟩) ?rest7b
            case hy7b => (intro w' hSw; (try dsimp only at hSw); go_simp; try with_reducible rfl)
            simp only [Act.put]
            refine t_take (i := 8) (v := ?v8b) rfl (by kernel_rfl) (by kernel_rfl) (by kernel_rfl) (by decide) (fun _ _ _ h => h) SA0 (fun _ => SB0) (Or.inl ⟨by rfl, ?hy8b⟩) ?rest8b
            case hy8b => (intro w' hSw; (try dsimp only at hSw); go_simp; try with_reducible rfl)
            simp only [Act.put]
            refine t_take (i := 9) (v := ?v9b) rfl (by kernel_rfl) (by kernel_rfl) (by kernel_rfl) (by decide) (fun _ _ _ h => h) SA0 (fun _ => SB0) (Or.inl ⟨by rfl, ?hy9b⟩) ?rest9b
            case hy9b => (intro w' hSw; (try dsimp only at hSw); go_simp; try with_reducible rfl)
            simp only [Act.put]
            refine t_take (i := 10) (v := ?v10b) rfl (by kernel_rfl) (by kernel_rfl) (by kernel_rfl) (by decide) (fun _ _ _ h => h) SA0 (fun _ => SB0) (Or.inl ⟨by rfl, ?hy10b⟩) ?rest10b
            case hy10b => (intro w' hSw; (try dsimp only at hSw); go_simp; try with_reducible rfl)
            simp only [Act.put]
            refine t_take (i := 11) (v := ?v11b) rfl (by kernel_rfl) (by kernel_rfl) (by kernel_rfl) (by decide) (fun _ _ _ h => h) SA0 (fun _ => SB0) (Or.inl ⟨by rfl, ?hy11b⟩) ?rest11b
            case hy11b => (intro w' hSw; (try dsimp only at hSw); go_simp; try with_reducible rfl)
            simp only [Act.put]
            refine t_step (i := 12) rfl (by kernel_rfl) (fun K hK => ?_)
            go_simp
            go_at_call 11
            refine (HCa.out _ (bd2 HBJ.out.2.1)).mono ?_
            rintro e w3 ⟨a3, n3, c3, rfl, hk3, _, hb3⟩
            obtain ⟨y43, b03, b13, b23, hrow3, hlo3, hy3l⟩ := HF.out w3 hb3
            go_wp2_with fail
            have SA3 := HSx.out _ (HB2.out _ (bt2 PB0 hb3))
            refine hK _ _ SA3 (fun _ => y43) ?_
            clear hK
            refine t_take (i := 13) (v := ?v13b) rfl (by kernel_rfl) (by kernel_rfl) (by kernel_rfl) (by decide) (fun _ _ _ h => h) SA3 (fun _ => y43) (Or.inl ⟨by rfl, ?hy13b⟩) ?rest13b
            case hy13b => (intro w' hSw; (try dsimp only at hSw); go_simp; try with_reducible rfl)
            simp only [Act.put]
            refine t_step (i := 14) rfl (by kernel_rfl) (fun K hK => ?_)
            go_simp
            have SB3 : (w3.alloc (.cells #[.string wd, .string tt, .int .i64 at_, .slice a3 n3 c3] 63)).cell? ⟨y, 4, none⟩ = some vb := (((Below.refl _ w3).alloc (Nat.le_refl _) _).cell (p := ⟨y, 4, none⟩) hy3l).trans y43
            refine hK _ _ (HSx.out _ (HB2.out _ (ba2 (bt2 PB0 hb3) _))) (fun _ => SB3) ?_
            clear hK
            refine t_step (i := 15) rfl (by kernel_rfl) (fun K hK => ?_)
            refine step_append_lies _ (by rfl) (.tmp 42) (.tmp 55) 59 (by rfl) W1.heap.size 63 i0 (.agg #[.string ⟨#[]⟩, .string ⟨#[]⟩, .int .i64 0, .slice none 0 0]) 4 64 Tryd.underlying59 hi hy0 hy1 hy2 rfl (by decide) vb cb.length cb.flatten (by rfl) (hrow3 _) ⟨w3.heap.size, 0, none⟩ 1 1 [.string wd, .string tt, .int .i64 at_, .slice a3 n3 c3] (by rfl) rfl (World.news_of_block (alloc_last _ _)) (HN1 _ rfl) (by decide) (by unfold maxLen; omega) (by omega) (Nat.le_trans hlo3 (by simp)) _ rfl ?_
            intro g4 c4 w4 hown4 hgr4 hgg4 _
            obtain ⟨q1, S4, q2⟩ := HQ.out w3 w4 _ g4 c4 _ hb3 hk3 hown4 hgr4 hgg4
            have HE4 : Hid _ := q2
            have fz : w4.frozen? ⟨y, 4, none⟩ = false := by simp [World.frozen?, q1]
            have y48 := cell_in q1 4 rfl
            have S5 := (Below.heap_setCell w4 ⟨y, 4, none⟩ (.slice (some ⟨g4, 0, none⟩) (cb.length + 1) c4) x2 HNY.out.1).trans S4
            have SA4 := HSx.out _ S4
            have SA5 := HSx.out _ S5
            refine hK _ _ SA4 (fun _ => y48) ?_
            clear hK hown4 hgr4 hgg4 q1 q2 S4 S5 hk3 hb3 y43 b03 b13 b23 hrow3 hlo3 hy3l SA3 SB3 SA0 SB0 PB0 HQ HF
            refine t_take (i := 16) (v := ?v16b) rfl (by kernel_rfl) (by kernel_rfl) (by kernel_rfl) (by decide) (fun _ _ _ h => h) SA4 (fun _ => y48) (Or.inl ⟨by rfl, ?hy16b⟩) ?rest16b
            case hy16b => (intro w' hSw; (try dsimp only at hSw); go_simp; try with_reducible rfl)
            simp only [Act.put]
            refine t_step (i := 17) rfl (by kernel_rfl) (fun K hK => ?_)
            go_simp
            refine hK _ _ SA5 (fun h => absurd (h.symm.trans (by kernel_rfl : _ = true)) (by decide)) ?_
            clear hK
            refine t_done (by kernel_rfl) ?_ _
            clear SA4 SA5 y48 fz y4 b0 b1 b2 b3
            go_wp2_with fail
            go_roundw
            case rel => exact ⟨j + 1, by omega, by go_num, _, _, HE4.out⟩
            case measure => simp [intOf]; omega
          · have hjb : j = bs.length := by have := HBR.out.2.2.2; omega
            have hji : ¬ (j : Int) < (m : Int) := by omega
            obtain ⟨vb, cb, hbj⟩ := HJ.out
            obtain ⟨ab, cbc, rfl⟩ := V.owns_slice hbj.own
            obtain ⟨⟨k0, k1, k2, k3, k4, k5, k6, k7⟩, _⟩ := cells8 hbj.blk
            have hownW : wr.ownsRow w.heap.size 61 8 vo css.length css.flatten := owns_below (owns_below HO.out.1 HO.out.2.2.2) hbj.bel
            have hcl : css.length ≤ 4000000 := by
              have h1 := HO.out.2.1.length
              have h2 := HN.out.1
              rw [List.length_take] at h1; omega
            have hws : w.heap.size ≤ wr.heap.size := by
              have s1 := HO.out.2.2.1.size
              have s2 := HO.out.2.2.2.size
              have s3 := hbj.bel.size
              omega
            have HJE : Hid (BJ (fun x => H x ∨ vo.ownBlock = some x) r W1 y (.int .i64 k) (.string lt) (.int .i64 la) (.bool lc) (.slice aN nN cN) (.string li) (.slice a2 n2 c2) ks bs bs.length (.slice ab cb.length cbc) cb wr) := by
              unfold Hid; rw [← hjb]; exact hbj
            clear hbj hjb
            obtain ⟨cbn, hcbn⟩ : ∃ x, x = cb.length := ⟨_, rfl⟩
            rw [← hcbn] at HJE k4
            clear hcbn
            have HNW : Hid (∀ (jj : Nat) (u : Value), [.int .i64 k, .string lt, .int .i64 la, .bool lc, .slice ab cbn cbc, .slice aN nN cN, .string li, .slice a2 n2 c2][jj]? = some u → (wr.alloc (.cells #[.int .i64 k, .string lt, .int .i64 la, .bool lc, .slice ab cbn cbc, .slice aN nN cN, .string li, .slice a2 n2 c2] 61)).cell? ((⟨wr.heap.size, 0, none⟩ : Addr).add jj) = some u) := World.news_of_block (alloc_last _ _)
            have HN8 : ∀ u ∈ [Value.int .i64 k, .string lt, .int .i64 la, .bool lc, .slice ab cbn cbc, .slice aN nN cN, .string li, .slice a2 n2 c2], u.oneCell' = true := by
              intro u hu
              simp at hu
              rcases hu with rfl | rfl | rfl | rfl | rfl | rfl | rfl | rfl <;> rfl
            go_wp2_with (at_builtin; refine wpList_append_own_at _ rfl _ _ 35 rfl w.heap.size 61 i1 (.agg #[.int .i64 0, .string ⟨#[]⟩, .int .i64 0, .bool false, .slice none 0 0, .slice none 0 0, .string ⟨#[]⟩, .slice none 0 0]) 8 128 Tryd.underlying35 hi1 hx0 hx1 hx2 rfl (by decide) _ _ _ rfl (hownW.alloc _) ⟨wr.heap.size, 0, none⟩ 1 1 [.int .i64 k, .string lt, .int .i64 la, .bool lc, .slice ab cbn cbc, .slice aN nN cN, .string li, .slice a2 n2 c2] rfl rfl ?c1b ?c2b ?c3b ?c4b ?c5b ?_)
            case c3b => unfold maxLen; omega
            case c4b => omega
            case c5b => first | omega | (simp; omega)
            intro v' w4 hown4 hgr4 _ hat4
            have HBE : Hid (BbI H r ts w (i + 1) v' w4) := bi_step (l := ⟨lt, la, lc⟩) HN.out.2.1 HT.out HO.out.2.2.1 HO.out.1 HO.out.2.1 HO.out.2.2.2 HJE.out hown4 hgr4 (hat4.imp_right (fun h => h.trans (by simp))) (fun H' w' vB' css' vK' g1 g2 g3 g4 g5 g6 => HBK.out H' w' vB' css' vK' g1 g2 g3 g4 g5 (fun hv => g6 ▸ HN2.out hv))
            clear hown4 hgr4 hat4 hownW k0 k1 k2 k3 k4 k5 k6 k7
            go_wp2_with fail
            go_roundw
            case rel => exact ⟨i + 1, by omega, by go_num, HBE.out⟩
            case measure => simp [intOf]; omega
      · have HYA : Hid (YI (fun x => H x ∨ vo.ownBlock = some x) r W1 W1.heap.size (.int .i64 k) (.string lt) (.int .i64 la) (.bool lc) (.slice aN nN cN) (.string li) (.slice a2 n2 c2) ks ((((((((wb.setCell ⟨W1.heap.size, 0, none⟩ (.int .i64 k)).setCell ⟨W1.heap.size, 1, none⟩ (.string lt)).setCell ⟨W1.heap.size, 2, none⟩ (.int .i64 la)).setCell ⟨W1.heap.size, 3, none⟩ (.bool lc)).setCell ⟨W1.heap.size, 4, none⟩ (.slice none 0 0)).setCell ⟨W1.heap.size, 5, none⟩ (.slice aN nN cN)).setCell ⟨W1.heap.size, 6, none⟩ (.string li)).setCell ⟨W1.heap.size, 7, none⟩ (.slice a2 n2 c2))) := yi_set hk2 (bt2 (bt2 (bd2 (ba2 (Below.refl _ _) _)) ha) hb2) (Nat.le_refl _) ((Array.getElem?_eq_some_iff.1 hya).1) hyb
        obtain ⟨W3, hW3⟩ : ∃ W3, W3 = ((((((((wb.setCell ⟨W1.heap.size, 0, none⟩ (.int .i64 k)).setCell ⟨W1.heap.size, 1, none⟩ (.string lt)).setCell ⟨W1.heap.size, 2, none⟩ (.int .i64 la)).setCell ⟨W1.heap.size, 3, none⟩ (.bool lc)).setCell ⟨W1.heap.size, 4, none⟩ (.slice none 0 0)).setCell ⟨W1.heap.size, 5, none⟩ (.slice aN nN cN)).setCell ⟨W1.heap.size, 6, none⟩ (.string li)).setCell ⟨W1.heap.size, 7, none⟩ (.slice a2 n2 c2)) := ⟨_, rfl⟩
        obtain ⟨y, hy⟩ : ∃ y, y = W1.heap.size := ⟨_, rfl⟩
        rw [← hW3] at HYA ⊢
        rw [← hy] at HYA ⊢
        have HN2 : Hid _ := hn2
        clear hW3 hy ha hk2 hb2 hn2 hyb y0 y1 y2 y3 y4 y5 y6 y7 z0 z1 z2 z3 z4 z5 z6 z7 hya
        have hx4 := HX4.out W3 HYA.out.bel
        go_wp2_with fail
        clear hx4
        go_loopw [37] (fun vi wr => ∃ j : Nat, j ≤ m ∧ vi = .int .i64 (j : Int) ∧ Hid (∃ vb cb, BJ (fun x => H x ∨ vo.ownBlock = some x) r W1 y (.int .i64 k) (.string lt) (.int .i64 la) (.bool lc) (.slice aN nN cN) (.string li) (.slice a2 n2 c2) ks bs j vb cb wr)) (fun vi _ => m - (intOf vi).toNat)
        case atStart => exact ⟨0, Nat.zero_le _, rfl, nilS, [], bj_start HYA.out bs⟩
        case round =>
          obtain ⟨j, hj, rfl, HJ⟩ := hrel
          by_cases hjm : j < m
          · have hji : (j : Int) < (m : Int) := by omega
            obtain ⟨vb, cb, hbj⟩ := HJ.out
            obtain ⟨gb, wd, tt, at_, aq, nq, cq, ks3, rfl, hgb, d0, d1, d2, d3, hkd, hbs, hll⟩ := brH_pick HBR.out.1 HBR.out.2.1 (j := j) (by rw [← HBR.out.2.2.2]; exact hjm)
            have hbw : Below w.heap.size w wr := bt2 (bt2 HO.out.2.2.1 HO.out.2.2.2) hbj.bel
            have e0 := (hbw.cell (p := ⟨gb, j * 4, none⟩) hgb).trans d0
            have e1 := (hbw.cell (p := ⟨gb, j * 4 + 1, none⟩) hgb).trans d1
            have e2 := (hbw.cell (p := ⟨gb, j * 4 + 2, none⟩) hgb).trans d2
            have e3 := (hbw.cell (p := ⟨gb, j * 4 + 3, none⟩) hgb).trans d3
            have hcb : cb.length = j := by
              have h1 := hbj.br.length
              have h2 := HBR.out.2.2.2
              rw [List.length_take] at h1; omega
            have hyl : y < wr.heap.size := (Array.getElem?_eq_some_iff.1 hbj.blk).1
            have HCa : Hid (∀ W, Below wr.heap.size wr W → Calls Tryd.prog 11 #[.slice aq nq cq, .int .i64 (lq : Int)] W (BlPost (Hj (fun x => H x ∨ vo.ownBlock = some x) y vb) r (.slice aq nq cq) ks3 W)) := by
              intro W hW
              have hww : Below w.heap.size w W := bt2 hbw hW
              have s1 := HO.out.2.2.1.size
              have s2 := HO.out.2.2.2.size
              have s3 := hbj.bel.size
              have s4 := hW.size
              have s5 := hbj.lo
              refine IH.out _ _ ks3 W lq (fun x hx => ?_) (hkd.keeps ⟨hww.size, fun x hx _ => hww.block x hx, fun x hx hh => ?_⟩) (by have := HBR.out.2.2.1; omega) HN.out.2.2.1 HN.out.2.2.2.1
              · rcases hx with ((hx | hx) | hx) | hx
                · have := HN.out.2.1 x hx; omega
                · have := (HO.out.1.lt x hx).2; omega
                · omega
                · have := (hbj.own.lt x hx).2; omega
              · rcases hh with ((hh | hh) | hh) | hh
                · exact hh
                · have := (HO.out.1.lt x hh).1; omega
                · omega
                · have := (hbj.own.lt x hh).1; omega
            obtain ⟨W2, hW2⟩ : ∃ W2, W2 = wr.alloc (.cells #[.string wd, .string tt, .int .i64 at_, .slice aq nq cq] 66) := ⟨_, rfl⟩
            have hW2b : Below wr.heap.size wr W2 := by rw [hW2]; exact (Below.refl _ _).alloc (Nat.le_refl _) _
            have hbb : W2.heap[wr.heap.size]? = some (.cells #[.string wd, .string tt, .int .i64 at_, .slice aq nq cq] 66 (0, 0)) := by rw [hW2]; exact alloc_last _ _
            obtain ⟨x2, hx2'⟩ : ∃ x2, x2 = wr.heap.size := ⟨_, rfl⟩
            rw [← hx2'] at hbb
            have hy2 := (hW2b.block y hyl).trans hbj.blk
            have hx2l : x2 < W2.heap.size := (Array.getElem?_eq_some_iff.1 hbb).1
            have hy2l : y < W2.heap.size := (Array.getElem?_eq_some_iff.1 hy2).1
            have y4 : W2.cell? ⟨y, 4, none⟩ = some vb := cell_in hy2 4 rfl
            have b0 := cell_in hbb 0 rfl
            have b1 := cell_in hbb 1 rfl
            have b2 := cell_in hbb 2 rfl
            have b3 := cell_in hbb 3 rfl
            have HBJ : Hid (BJ (fun x => H x ∨ vo.ownBlock = some x) r W1 y (.int .i64 k) (.string lt) (.int .i64 la) (.bool lc) (.slice aN nN cN) (.string li) (.slice a2 n2 c2) ks bs j vb cb wr ∧ Below wr.heap.size wr W2 ∧ bs[j]? = some (.mk wd tt at_ ks3) ∧ cb.length = j) := ⟨hbj, hW2b, hbs, hcb⟩
            have HSx : Hid (∀ W : World, W.heap[x2]? = some (.cells #[.string wd, .string tt, .int .i64 at_, .slice aq nq cq] 66 (0, 0)) → W.cell? ⟨x2, 0, none⟩ = some (.string wd) ∧ W.cell? ⟨x2, 1, none⟩ = some (.string tt) ∧ W.cell? ⟨x2, 2, none⟩ = some (.int .i64 at_) ∧ W.cell? ⟨x2, 3, none⟩ = some (.slice aq nq cq)) := fun W hW => ⟨cell_in hW 0 rfl, cell_in hW 1 rfl, cell_in hW 2 rfl, cell_in hW 3 rfl⟩
            have HB2 : Hid (∀ W, Below W2.heap.size W2 W → W.heap[x2]? = some (.cells #[.string wd, .string tt, .int .i64 at_, .slice aq nq cq] 66 (0, 0))) := fun W hW => (hW.block x2 hx2l).trans hbb
            have HNY : Hid (x2 ≠ y ∧ vb.ownBlock ≠ some x2) := ⟨fun e => (by rw [e, hy2] at hbb; cases hbb), Ex.row_ne' (T := 66) (owns_below hbj.own hW2b) hbb (by decide)⟩
            have HF : Hid (∀ w3, Below W2.drew.heap.size W2.drew w3 → w3.cell? ⟨y, 4, none⟩ = some vb ∧ w3.cell? ⟨x2, 0, none⟩ = some (.string wd) ∧ w3.cell? ⟨x2, 1, none⟩ = some (.string tt) ∧ w3.cell? ⟨x2, 2, none⟩ = some (.int .i64 at_) ∧ (∀ o, (w3.alloc o).ownsRow W1.heap.size 63 4 vb cb.length cb.flatten) ∧ W1.heap.size ≤ w3.heap.size ∧ y < w3.heap.size) := fun w3 h3 => by
              have h3' : Below W2.heap.size W2 w3 := bt2 (bd2 (Below.refl _ _)) h3
              have s3 := HBJ.out.1.bel.size
              have s4 := HBJ.out.2.1.size
              have s5 := h3'.size
              exact ⟨(h3'.cell (p := ⟨y, 4, none⟩) hy2l).trans y4, (h3'.cell (p := ⟨x2, 0, none⟩) hx2l).trans b0, (h3'.cell (p := ⟨x2, 1, none⟩) hx2l).trans b1, (h3'.cell (p := ⟨x2, 2, none⟩) hx2l).trans b2, fun o => (owns_below (owns_below HBJ.out.1.own HBJ.out.2.1) h3').alloc o, by omega, by omega⟩
            have HQ : Hid (∀ (w3 w4 : World) (o : Obj) (g4 c4 : Nat) (v3 : Value), Below W2.drew.heap.size W2.drew w3 → KdH (Hj (fun x => H x ∨ vo.ownBlock = some x) y vb) w3 v3 ks3 r → w4.ownsRow W1.heap.size 63 4 (.slice (some ⟨g4, 0, none⟩) (cb.length + 1) c4) (cb.length + 1) (cb.flatten ++ bkC wd tt at_ v3) → (w3.alloc o).grownBy w4 vb.ownBlock → (vb.ownBlock = some g4 ∨ g4 = (w3.alloc o).heap.size) → w4.heap[y]? = some (.cells #[.int .i64 k, .string lt, .int .i64 la, .bool lc, vb, .slice aN nN cN, .string li, .slice a2 n2 c2] 61 (0, 0)) ∧ w4.heap[x2]? = some (.cells #[.string wd, .string tt, .int .i64 at_, .slice aq nq cq] 66 (0, 0)) ∧ BJ (fun x => H x ∨ vo.ownBlock = some x) r W1 y (.int .i64 k) (.string lt) (.int .i64 la) (.bool lc) (.slice aN nN cN) (.string li) (.slice a2 n2 c2) ks bs (j + 1) (.slice (some ⟨g4, 0, none⟩) (cb.length + 1) c4) (cb ++ [bkC wd tt at_ v3]) (w4.setCell ⟨y, 4, none⟩ (.slice (some ⟨g4, 0, none⟩) (cb.length + 1) c4))) := fun w3 w4 o g4 c4 v3 h3 hk3 hown hgr hgg => by
              have h3' : Below wr.heap.size wr w3 := bt2 (bt2 HBJ.out.2.1 (bd2 (Below.refl _ _))) h3
              have s5 := h3'.size
              have hz : (w3.alloc o).heap.size = w3.heap.size + 1 := by simp
              have hyy := (Array.getElem?_eq_some_iff.1 HBJ.out.1.blk).1
              have hx3 := HB2.out w3 (bt2 (bd2 (Below.refl _ _)) h3)
              exact ⟨(hgr.block y (by omega) (fun e => HBJ.out.1.row e.symm)).trans ((Below.heap_alloc _ _ _ (by omega)).trans ((h3'.block y hyy).trans HBJ.out.1.blk)), (hgr.block x2 (by rw [hz]; have := (Array.getElem?_eq_some_iff.1 hx3).1; omega) (fun e => HNY.out.2 e.symm)).trans ((Below.heap_alloc _ _ _ (Array.getElem?_eq_some_iff.1 hx3).1).trans hx3), bj_step HBJ.out.1 h3' hk3 HBJ.out.2.2.1 hown rfl hgr hgg⟩
            have HN1 : ∀ v3 : Value, v3.oneCell' = true → ∀ u ∈ [Value.string wd, .string tt, .int .i64 at_, v3], u.oneCell' = true := by
              intro v3 h3 u hu
              simp at hu
              rcases hu with rfl | rfl | rfl | rfl
              · rfl
              · rfl
              · rfl
              · exact h3
            have hcl : cb.length ≤ 4000000 := by omega
            clear d0 d1 d2 d3 hkd hbs hll hbw hcb hyl hW2b hbb hy2 hbj
            go_upto_region 11 with fail
            rw [← hW2, ← hx2']
            clear hW2 hx2' e0 e1 e2 e3
            have PB0 : Below W2.heap.size W2 W2.drew := bd2 (Below.refl _ _)
            have SA0 := HSx.out _ (HB2.out _ PB0)
            have SB0 : W2.drew.cell? ⟨y, 4, none⟩ = some vb := y4
            refine wp_region_t (SA := fun W : World => W.cell? ⟨x2, 0, none⟩ = some (.string wd) ∧ W.cell? ⟨x2, 1, none⟩ = some (.string tt) ∧ W.cell? ⟨x2, 2, none⟩ = some (.int .i64 at_) ∧ W.cell? ⟨x2, 3, none⟩ = some (.slice aq nq cq)) (SB := fun W : World => W.cell? ⟨y, 4, none⟩ = some vb) (m := 15) (n := 18) (by kernel_rfl) rfl ?_
            refine t_take (i := 0) (v := ?v0c) rfl (by kernel_rfl) (by kernel_rfl) (by kernel_rfl) (by decide) (fun _ _ _ h => h) SA0 (fun _ => SB0) (Or.inl ⟨by rfl, ?hy0c⟩) ?rest0c
            case hy0c => (intro w' hSw; (try dsimp only at hSw); go_simp; try with_reducible rfl)
            simp only [Act.put]
            refine t_takeB (i := 1) (v := ?v1c) rfl (by kernel_rfl) (by kernel_rfl) (by kernel_rfl) (by decide) rfl (by kernel_rfl) (by kernel_rfl) (fun _ _ _ h => h) SA0 (fun _ => SB0) (Or.inl ⟨by rfl, ?hy1c⟩) ?rest1c
            case hy1c => (intro w' hSw; (try dsimp only at hSw); go_simp; try with_reducible rfl)
            simp only [Act.put]
            refine t_take (i := 2) (v := ?v2c) rfl (by kernel_rfl) (by kernel_rfl) (by kernel_rfl) (by decide) (fun _ _ _ h => h) SA0 (fun _ => SB0) (Or.inl ⟨by rfl, ?hy2c⟩) ?rest2c
            case hy2c => (intro w' hSw; (try dsimp only at hSw); go_simp; try with_reducible rfl)
            simp only [Act.put]
            refine t_take (i := 3) (v := ?v3c) rfl (by kernel_rfl) (by kernel_rfl) (by kernel_rfl) (by decide) (fun _ _ _ h => h) SA0 (fun _ => SB0) (Or.inl ⟨by rfl, ?hy3c⟩) ?rest3c
            case hy3c => (intro w' hSw; (try dsimp only at hSw); go_simp; try with_reducible rfl)
            simp only [Act.put]
            refine t_take (i := 4) (v := ?v4c) rfl (by kernel_rfl) (by kernel_rfl) (by kernel_rfl) (by decide) (fun _ _ _ h => h) SA0 (fun _ => SB0) (Or.inl ⟨by rfl, ?hy4c⟩) ?rest4c
            case hy4c => (intro w' hSw; (try dsimp only at hSw); go_simp; try with_reducible rfl)
            simp only [Act.put]
            refine t_take (i := 5) (v := ?v5c) rfl (by kernel_rfl) (by kernel_rfl) (by kernel_rfl) (by decide) (fun _ _ _ h => h) SA0 (fun _ => SB0) (Or.inl ⟨by rfl, ?hy5c⟩) ?rest5c
            case hy5c => (intro w' hSw; (try dsimp only at hSw); go_simp; try with_reducible rfl)
            simp only [Act.put]
            refine t_take (i := 6) (v := ?v6c) rfl (by kernel_rfl) (by kernel_rfl) (by kernel_rfl) (by decide) (fun _ _ _ h => h) SA0 (fun _ => SB0) (Or.inl ⟨by rfl, ?hy6c⟩) ?rest6c
            case hy6c => (intro w' hSw; (try dsimp only at hSw); go_simp; try with_reducible rfl)
            simp only [Act.put]
            refine t_take (i := 7) (v := ?v7c) rfl (by kernel_rfl) (by kernel_rfl) (by kernel_rfl) (by decide) (fun _ _ _ h => h) SA0 (fun _ => SB0) (Or.inl ⟨by rfl, ?hy7c⟩) ?rest7c
            case hy7c => (intro w' hSw; (try dsimp only at hSw); go_simp; try with_reducible rfl)
            simp only [Act.put]
            refine t_take (i := 8) (v := ?v8c) rfl (by kernel_rfl) (by kernel_rfl) (by kernel_rfl) (by decide) (fun _ _ _ h => h) SA0 (fun _ => SB0) (Or.inl ⟨by rfl, ?hy8c⟩) ?rest8c
            case hy8c => (intro w' hSw; (try dsimp only at hSw); go_simp; try with_reducible rfl)
            simp only [Act.put]
            refine t_take (i := 9) (v := ?v9c) rfl (by kernel_rfl) (by kernel_rfl) (by kernel_rfl) (by decide) (fun _ _ _ h => h) SA0 (fun _ => SB0) (Or.inl ⟨by rfl, ?hy9c⟩) ?rest9c
            case hy9c => (intro w' hSw; (try dsimp only at hSw); go_simp; try with_reducible rfl)
            simp only [Act.put]
            refine t_take (i := 10) (v := ?v10c) rfl (by kernel_rfl) (by kernel_rfl) (by kernel_rfl) (by decide) (fun _ _ _ h => h) SA0 (fun _ => SB0) (Or.inl ⟨by rfl, ?hy10c⟩) ?rest10c
            case hy10c => (intro w' hSw; (try dsimp only at hSw); go_simp; try with_reducible rfl)
            simp only [Act.put]
            refine t_take (i := 11) (v := ?v11c) rfl (by kernel_rfl) (by kernel_rfl) (by kernel_rfl) (by decide) (fun _ _ _ h => h) SA0 (fun _ => SB0) (Or.inl ⟨by rfl, ?hy11c⟩) ?rest11c
            case hy11c => (intro w' hSw; (try dsimp only at hSw); go_simp; try with_reducible rfl)
            simp only [Act.put]
            refine t_step (i := 12) rfl (by kernel_rfl) (fun K hK => ?_)
            go_simp
            go_at_call 11
            refine (HCa.out _ (bd2 HBJ.out.2.1)).mono ?_
            rintro e w3 ⟨a3, n3, c3, rfl, hk3, _, hb3⟩
            obtain ⟨y43, b03, b13, b23, hrow3, hlo3, hy3l⟩ := HF.out w3 hb3
            go_wp2_with fail
            have SA3 := HSx.out _ (HB2.out _ (bt2 PB0 hb3))
            refine hK _ _ SA3 (fun _ => y43) ?_
            clear hK
            refine t_take (i := 13) (v := ?v13c) rfl (by kernel_rfl) (by kernel_rfl) (by kernel_rfl) (by decide) (fun _ _ _ h => h) SA3 (fun _ => y43) (Or.inl ⟨by rfl, ?hy13c⟩) ?rest13c
            case hy13c => (intro w' hSw; (try dsimp only at hSw); go_simp; try with_reducible rfl)
            simp only [Act.put]
            refine t_step (i := 14) rfl (by kernel_rfl) (fun K hK => ?_)
            go_simp
            have SB3 : (w3.alloc (.cells #[.string wd, .string tt, .int .i64 at_, .slice a3 n3 c3] 63)).cell? ⟨y, 4, none⟩ = some vb := (((Below.refl _ w3).alloc (Nat.le_refl _) _).cell (p := ⟨y, 4, none⟩) hy3l).trans y43
            refine hK _ _ (HSx.out _ (HB2.out _ (ba2 (bt2 PB0 hb3) _))) (fun _ => SB3) ?_
            clear hK
            refine t_step (i := 15) rfl (by kernel_rfl) (fun K hK => ?_)
            refine step_append_lies _ (by rfl) (.tmp 42) (.tmp 55) 59 (by rfl) W1.heap.size 63 i0 (.agg #[.string ⟨#[]⟩, .string ⟨#[]⟩, .int .i64 0, .slice none 0 0]) 4 64 Tryd.underlying59 hi hy0 hy1 hy2 rfl (by decide) vb cb.length cb.flatten (by rfl) (hrow3 _) ⟨w3.heap.size, 0, none⟩ 1 1 [.string wd, .string tt, .int .i64 at_, .slice a3 n3 c3] (by rfl) rfl (World.news_of_block (alloc_last _ _)) (HN1 _ rfl) (by decide) (by unfold maxLen; omega) (by omega) (Nat.le_trans hlo3 (by simp)) _ rfl ?_
            intro g4 c4 w4 hown4 hgr4 hgg4 _
            obtain ⟨q1, S4, q2⟩ := HQ.out w3 w4 _ g4 c4 _ hb3 hk3 hown4 hgr4 hgg4
            have HE4 : Hid _ := q2
            have fz : w4.frozen? ⟨y, 4, none⟩ = false := by simp [World.frozen?, q1]
            have y48 := cell_in q1 4 rfl
            have S5 := (Below.heap_setCell w4 ⟨y, 4, none⟩ (.slice (some ⟨g4, 0, none⟩) (cb.length + 1) c4) x2 HNY.out.1).trans S4
            have SA4 := HSx.out _ S4
            have SA5 := HSx.out _ S5
            refine hK _ _ SA4 (fun _ => y48) ?_
            clear hK hown4 hgr4 hgg4 q1 q2 S4 S5 hk3 hb3 y43 b03 b13 b23 hrow3 hlo3 hy3l SA3 SB3 SA0 SB0 PB0 HQ HF
            refine t_take (i := 16) (v := ?v16c) rfl (by kernel_rfl) (by kernel_rfl) (by kernel_rfl) (by decide) (fun _ _ _ h => h) SA4 (fun _ => y48) (Or.inl ⟨by rfl, ?hy16c⟩) ?rest16c
            case hy16c => (intro w' hSw; (try dsimp only at hSw); go_simp; try with_reducible rfl)
            simp only [Act.put]
            refine t_step (i := 17) rfl (by kernel_rfl) (fun K hK => ?_)
            go_simp
            refine hK _ _ SA5 (fun h => absurd (h.symm.trans (by kernel_rfl : _ = true)) (by decide)) ?_
            clear hK
            refine t_done (by kernel_rfl) ?_ _
            clear SA4 SA5 y48 fz y4 b0 b1 b2 b3
            go_wp2_with fail
            go_roundw
            case rel => exact ⟨j + 1, by omega, by go_num, _, _, HE4.out⟩
            case measure => simp [intOf]; omega
          · have hjb : j = bs.length := by have := HBR.out.2.2.2; omega
            have hji : ¬ (j : Int) < (m : Int) := by omega
            obtain ⟨vb, cb, hbj⟩ := HJ.out
            obtain ⟨ab, cbc, rfl⟩ := V.owns_slice hbj.own
            obtain ⟨⟨k0, k1, k2, k3, k4, k5, k6, k7⟩, _⟩ := cells8 hbj.blk
            have hownW : wr.ownsRow w.heap.size 61 8 vo css.length css.flatten := owns_below (owns_below HO.out.1 HO.out.2.2.2) hbj.bel
            have hcl : css.length ≤ 4000000 := by
              have h1 := HO.out.2.1.length
              have h2 := HN.out.1
              rw [List.length_take] at h1; omega
            have hws : w.heap.size ≤ wr.heap.size := by
              have s1 := HO.out.2.2.1.size
              have s2 := HO.out.2.2.2.size
              have s3 := hbj.bel.size
              omega
            have HJE : Hid (BJ (fun x => H x ∨ vo.ownBlock = some x) r W1 y (.int .i64 k) (.string lt) (.int .i64 la) (.bool lc) (.slice aN nN cN) (.string li) (.slice a2 n2 c2) ks bs bs.length (.slice ab cb.length cbc) cb wr) := by
              unfold Hid; rw [← hjb]; exact hbj
            clear hbj hjb
            obtain ⟨cbn, hcbn⟩ : ∃ x, x = cb.length := ⟨_, rfl⟩
            rw [← hcbn] at HJE k4
            clear hcbn
            have HNW : Hid (∀ (jj : Nat) (u : Value), [.int .i64 k, .string lt, .int .i64 la, .bool lc, .slice ab cbn cbc, .slice aN nN cN, .string li, .slice a2 n2 c2][jj]? = some u → (wr.alloc (.cells #[.int .i64 k, .string lt, .int .i64 la, .bool lc, .slice ab cbn cbc, .slice aN nN cN, .string li, .slice a2 n2 c2] 61)).cell? ((⟨wr.heap.size, 0, none⟩ : Addr).add jj) = some u) := World.news_of_block (alloc_last _ _)
            have HN8 : ∀ u ∈ [Value.int .i64 k, .string lt, .int .i64 la, .bool lc, .slice ab cbn cbc, .slice aN nN cN, .string li, .slice a2 n2 c2], u.oneCell' = true := by
              intro u hu
              simp at hu
              rcases hu with rfl | rfl | rfl | rfl | rfl | rfl | rfl | rfl <;> rfl
            go_wp2_with (at_builtin; refine wpList_append_own_at _ rfl _ _ 35 rfl w.heap.size 61 i1 (.agg #[.int .i64 0, .string ⟨#[]⟩, .int .i64 0, .bool false, .slice none 0 0, .slice none 0 0, .string ⟨#[]⟩, .slice none 0 0]) 8 128 Tryd.underlying35 hi1 hx0 hx1 hx2 rfl (by decide) _ _ _ rfl (hownW.alloc _) ⟨wr.heap.size, 0, none⟩ 1 1 [.int .i64 k, .string lt, .int .i64 la, .bool lc, .slice ab cbn cbc, .slice aN nN cN, .string li, .slice a2 n2 c2] rfl rfl ?c1c ?c2c ?c3c ?c4c ?c5c ?_)
            case c3c => unfold maxLen; omega
            case c4c => omega
            case c5c => first | omega | (simp; omega)
            intro v' w4 hown4 hgr4 _ hat4
            have HBE : Hid (BbI H r ts w (i + 1) v' w4) := bi_step (l := ⟨lt, la, lc⟩) HN.out.2.1 HT.out HO.out.2.2.1 HO.out.1 HO.out.2.1 HO.out.2.2.2 HJE.out hown4 hgr4 (hat4.imp_right (fun h => h.trans (by simp))) (fun H' w' vB' css' vK' g1 g2 g3 g4 g5 g6 => HBK.out H' w' vB' css' vK' g1 g2 g3 g4 g5 (fun hv => g6 ▸ HN2.out hv))
            clear hown4 hgr4 hat4 hownW k0 k1 k2 k3 k4 k5 k6 k7
            go_wp2_with fail
            go_roundw
            case rel => exact ⟨i + 1, by omega, by go_num, HBE.out⟩
            case measure => simp [intOf]; omega
    · obtain rfl : i = n := by omega
      have HE : Hid (BbI H r ts w ts.length u5 wr) := by have h := HI.out; rw [HN.out.1] at h; exact h
      obtain ⟨css, hown, _, _⟩ := HI.out
      obtain ⟨aa, cc, rfl⟩ := V.owns_slice hown
      have HEB : Hid (Below w.heap.size w wr) := HE.out.choose_spec.2.2
      clear hown
      go_wp2
      go_ret
      exact ⟨_, _, _, rfl, bi_end HN.out.2.1 HE.out, fun h => (by cases h), HEB.out⟩
end Go.Proofs.YtbciedpjaajhcaaDoor
