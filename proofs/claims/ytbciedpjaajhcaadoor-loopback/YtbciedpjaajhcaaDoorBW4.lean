/-
  What add does where a loop is the innermost block.
-/
import Derived.Test.YtbciedpjaajhcaaDoorBW0
namespace Go.Proofs.YtbciedpjaajhcaaDoor
open Go.RowKit Go.Shelf
open Ex (Fr)

set_option maxRecDepth 20000 in
set_option maxHeartbeats 2000000 in
theorem add_fr (base b gO n cO kn : Nat) (vD vS : Value) (cs : Array Value) (xs : List Value) (k : Int) (l : Lz) (vB vN : Value) (li : ByteArray) (vK : Value) (hsl : IsS vB ∧ IsS vN ∧ IsS vK) (w : World) (hb : base ≤ w.heap.size)
    (hblk : w.heap[b]? = some (.cells #[vD, .slice (some ⟨gO, 0, none⟩) (n + 1) cO] 50 (0, 0))) (hO : w.heap[gO]? = some (.cells cs 47 (0, 0))) (hk2 : cs[n * 8]? = some (.int .i64 3)) (hc : cs[n * 8 + 7]? = some vS) (hS : w.ownsRow base 47 8 vS kn xs) (hne : vS.ownBlock ≠ some gO) (hn : n ≤ 1000000) (hkn : kn ≤ 1000000) :
    Calls Tryd.prog 52 #[.pointer (some ⟨b, 0, none⟩), .agg #[.int .i64 k, .string l.text, .int .i64 l.at_, .bool l.cmd, vB, vN, .string li, vK]] w fun e w' => e = .returned (.tuple #[]) ∧ Grew base gO (n * 8 + 7) cs 47 vS 47 8 kn xs [.int .i64 k, .string l.text, .int .i64 l.at_, .bool l.cmd, vB, vN, .string li, vK] w w' := by
  obtain ⟨i0, hi, hz0, hz1, hz2⟩ := info_of infoN
  obtain ⟨ao, co, rfl⟩ := V.owns_slice hS
  obtain ⟨⟨aB, nB, cB, rfl⟩, ⟨aN, nN, cN, rfl⟩, ⟨aK, nK, cK, rfl⟩⟩ := hsl
  have hxl : xs.length = kn * 8 := hS.1
  have hbl : b < w.heap.size := (Array.getElem?_eq_some_iff.1 hblk).1
  have hOl : gO < w.heap.size := (Array.getElem?_eq_some_iff.1 hO).1
  have HC : Hid (cs[n * 8 + 7]? = some (.slice ao kn co)) := hc
  have HNE : Hid ((Value.slice ao kn co).ownBlock ≠ some gO) := hne
  obtain ⟨w4, hw4⟩ : ∃ w4, w4 = w.alloc (.cells #[.int .i64 k, .string l.text, .int .i64 l.at_, .bool l.cmd, .slice aB nB cB, .slice aN nN cN, .string li, .slice aK nK cK] 47) := ⟨_, rfl⟩
  have HP4 : Hid (∀ q, (w4.drewN q).ownsRow base 47 8 (.slice ao kn co) kn xs ∧ (w4.drewN q).heap[gO]? = some (.cells cs 47 (0, 0)) ∧ (w4.drewN q).heap[w.heap.size]? = some (.cells #[.int .i64 k, .string l.text, .int .i64 l.at_, .bool l.cmd, .slice aB nB cB, .slice aN nN cN, .string li, .slice aK nK cK] 47 (0, 0)) ∧ base ≤ (w4.drewN q).heap.size ∧ Fr (fun j => j = gO ∨ (Value.slice ao kn co).ownBlock = some j) w (w4.drewN q)) := fun q => by
    rw [hw4]
    exact ⟨owns_below (hS.alloc _) (below_drewN (Below.refl _ _) q), (Below.heap_alloc _ _ _ hOl).trans hO, alloc_last _ _, by show base ≤ (w.heap.push _).size; simp; omega, (Fr.alloc _ _).trans (Fr.drewN _ _)⟩
  have HI : Hid (Calls Tryd.prog 18 #[.pointer (some ⟨b, 0, none⟩)] w4 fun e w' => e = .returned (.pointer (some ⟨gO, n * 8, none⟩)) ∧ ∃ q, w' = w4.drewN q) := inner_some b gO n cO w4 hn (by rw [hw4]; exact cell_in ((Below.heap_alloc _ _ _ hbl).trans hblk) 1 rfl)
  have HK2 : Hid (∀ q, (w4.drewN q).cell? ⟨gO, n * 8, none⟩ = some (.int .i64 3)) := fun q => by rw [hw4]; exact cell_in ((Below.heap_alloc _ _ _ hOl).trans hO) _ hk2
  clear hS hblk hO hk2 hc hne
  go_enter Tryd.func52, Tryd.ntmps52
  go_wp2_with fail
  rw [← hw4]
  clear hw4
  refine HI.out.mono ?_
  rintro e w' ⟨rfl, q, rfl⟩
  have hk2 := HK2.out q
  go_wp2_with fail
  have HP := HP4.out q
  have HP : Hid _ := HP
  obtain ⟨w5, hw5⟩ : ∃ w5, w5 = w4.drewN q := ⟨_, rfl⟩
  rw [← hw5] at HP ⊢
  clear hw5 hb hk2 HP4 HI HK2
  have hS1 : w5.ownsRow base 47 8 (.slice ao kn co) kn xs := HP.out.1
  have hblk5 : w5.heap[gO]? = some (.cells cs 47 (0, 0)) := HP.out.2.1
  have hbox5 : w5.heap[w.heap.size]? = some (.cells #[.int .i64 k, .string l.text, .int .i64 l.at_, .bool l.cmd, .slice aB nB cB, .slice aN nN cN, .string li, .slice aK nK cK] 47 (0, 0)) := HP.out.2.2.1
  have hb5 : base ≤ w5.heap.size := HP.out.2.2.2.1
  have e1 : w5.cell? ⟨gO, n * 8 + 7, none⟩ = some (.slice ao kn co) := cell_in hblk5 _ HC.out
  have y0 := cell_in hbox5 0 rfl
  have y1 := cell_in hbox5 1 rfl
  have y2 := cell_in hbox5 2 rfl
  have y3 := cell_in hbox5 3 rfl
  have y4 := cell_in hbox5 4 rfl
  have y5 := cell_in hbox5 5 rfl
  have y6 := cell_in hbox5 6 rfl
  have y7 := cell_in hbox5 7 rfl
  have l1 : gO < w5.heap.size := (Array.getElem?_eq_some_iff.1 hblk5).1
  have l2 : w.heap.size < w5.heap.size := (Array.getElem?_eq_some_iff.1 hbox5).1
  have HG : Hid (∀ (w2 : World) (o2 : Obj) (g c2 : Nat), (w5.drew.alloc o2).grownBy w2 (Value.slice ao kn co).ownBlock → w2.ownsRow base 47 8 (.slice (some ⟨g, 0, none⟩) (kn + 1) c2) (kn + 1) (xs ++ zN) → ((Value.slice ao kn co).ownBlock = some g ∨ g = (w5.drew.alloc o2).heap.size) → w2.heap[gO]? = some (.cells cs 47 (0, 0)) ∧ gO ≠ g ∧ ((Value.slice ao kn co).ownBlock = some g ∨ w.heap.size ≤ g) ∧ Fr (fun j => j = gO ∨ (Value.slice ao kn co).ownBlock = some j) w w2) := by
    intro w2 o2 g c2 hgr hown hg
    have hf : Fr (fun j => (Value.slice ao kn co).ownBlock = some j) w5 w2 := ((Fr.drew _).trans (Fr.alloc _ o2)).trans (Fr.grown hgr (fun g hg => hg))
    have hbk := (hf.block gO l1 HNE.out).trans HP.out.2.1
    refine ⟨hbk, fun e => ?_, hg.imp id (fun h => ?_), HP.out.2.2.2.2.trans (hf.mono fun j _ h => .inr h)⟩
    · rcases hg with hg | hg
      · exact HNE.out (by rw [hg, e])
      · have hz : (w5.drew.alloc o2).heap.size = w5.heap.size + 1 := by show (w5.heap.push o2).size = _; simp
        omega
    · have hz : (w5.drew.alloc o2).heap.size = w5.heap.size + 1 := by show (w5.heap.push o2).size = _; simp
      omega
  have hlt : (kn : Int) < (kn : Int) + 1 := by omega
  clear hblk5 hbox5
  go_region_law (first | (refine step_append_lies _ (by rfl) (.tmp 11) (.tmp 14) 25 (by rfl) base 47 i0 (.agg #[.int .i64 0, .string ⟨#[]⟩, .int .i64 0, .bool false, .slice none 0 0, .slice none 0 0, .string ⟨#[]⟩, .slice none 0 0]) 8 128 Tryd.underlying25 hi hz0 hz1 hz2 rfl (by decide) (.slice ao kn co) kn xs (by rfl) (hS1.kept (row := none) ⟨rfl, rfl, rfl, by simp, fun k hk _ => Below.heap_alloc _ _ _ hk⟩ (Classical.em _)) ⟨w5.heap.size, 0, none⟩ 1 1 zN (by rfl) rfl zN_at zN_one (by decide) (by unfold maxLen; omega) (by omega) (by simp; omega) _ rfl ?_; intro g c2 w2 hown hgr hgg hg1; obtain ⟨z1, hbg, HGG, HFR⟩ := HG.out w2 _ g c2 hgr hown hgg; obtain ⟨q0, q1, q2, q3, q4, q5, q6, q7⟩ := new_elem hown hxl; obtain ⟨fz0, fz1, fz2, fz3, fz4, fz5, fz6, fz7⟩ := new_frozen hown; have x1 : w2.cell? ⟨gO, n * 8 + 7, none⟩ = some (.slice ao kn co) := cell_in z1 _ HC.out; have x2 : w2.frozen? ⟨gO, n * 8 + 7, none⟩ = false := (by simp [World.frozen?, z1]); have HGG : Hid _ := HGG; have HFR : Hid _ := HFR; have HZ1 : Hid _ := z1; have HOW : Hid _ := hown; clear hgg hgr z1 hown))
  all_goals
    go_wp2
    go_end0
    have ga := grew_a (o := n * 8 + 7) HOW.out hxl HZ1.out hbg HGG.out HFR.out (.int .i64 k) (.string l.text) (.int .i64 l.at_) (.bool l.cmd) (.slice aB nB cB) (.slice aN nN cN) (.string li) (.slice aK nK cK)
    have gb := grew_b (o := n * 8 + 7) HOW.out hxl HZ1.out hbg HGG.out HFR.out (.int .i64 k) (.string l.text) (.int .i64 l.at_) (.bool l.cmd) (.slice aB nB cB) (.slice aN nN cN) (.string li) (.slice aK nK cK)
    refine ⟨rfl, ?_⟩
    first
    | with_reducible exact ga
    | with_reducible exact gb
end Go.Proofs.YtbciedpjaajhcaaDoor
