/-
  What add does where no block is open.
-/
import Derived.Test.YtbciedpjaajhcaaDoorBW0
namespace Go.Proofs.YtbciedpjaajhcaaDoor
open Go.RowKit Go.Shelf
open Ex (Fr)

set_option maxRecDepth 20000 in
set_option maxHeartbeats 2000000 in
theorem add_done (base b n : Nat) (vD : Value) (aO : Option Addr) (cO : Nat) (xs : List Value) (k : Int) (l : Lz) (vB vN : Value) (li : ByteArray) (vK : Value) (hsl : IsS vB ∧ IsS vN ∧ IsS vK) (w : World) (hb : base ≤ w.heap.size)
    (hblk : w.heap[b]? = some (.cells #[vD, .slice aO 0 cO] 50 (0, 0))) (hS : w.ownsRow base 47 8 vD n xs) (hn : n ≤ 1000000) :
    Calls Tryd.prog 52 #[.pointer (some ⟨b, 0, none⟩), .agg #[.int .i64 k, .string l.text, .int .i64 l.at_, .bool l.cmd, vB, vN, .string li, vK]] w fun e w' => e = .returned (.tuple #[]) ∧ Grew base b 0 #[vD, .slice aO 0 cO] 50 vD 47 8 n xs [.int .i64 k, .string l.text, .int .i64 l.at_, .bool l.cmd, vB, vN, .string li, vK] w w' := by
  obtain ⟨i0, hi, hz0, hz1, hz2⟩ := info_of infoN
  obtain ⟨ao, co, rfl⟩ := V.owns_slice hS
  obtain ⟨⟨aB, nB, cB, rfl⟩, ⟨aN, nN, cN, rfl⟩, ⟨aK, nK, cK, rfl⟩⟩ := hsl
  have hxl : xs.length = n * 8 := hS.1
  have hbl : b < w.heap.size := (Array.getElem?_eq_some_iff.1 hblk).1
  obtain ⟨cs, hcs⟩ : ∃ cs : Array Value, cs = #[.slice ao n co, .slice aO 0 cO] := ⟨_, rfl⟩
  have HC : Hid (cs[0]? = some (.slice ao n co)) := by rw [hcs]; rfl
  have HNE : Hid ((Value.slice ao n co).ownBlock ≠ some b) := Ex.row_ne' hS hblk (by decide)
  obtain ⟨w5, hw5⟩ : ∃ w5, w5 = w.alloc (.cells #[.int .i64 k, .string l.text, .int .i64 l.at_, .bool l.cmd, .slice aB nB cB, .slice aN nN cN, .string li, .slice aK nK cK] 47) := ⟨_, rfl⟩
  have HP : Hid (w5.ownsRow base 47 8 (.slice ao n co) n xs ∧ w5.heap[b]? = some (.cells cs 50 (0, 0)) ∧ w5.heap[w.heap.size]? = some (.cells #[.int .i64 k, .string l.text, .int .i64 l.at_, .bool l.cmd, .slice aB nB cB, .slice aN nN cN, .string li, .slice aK nK cK] 47 (0, 0)) ∧ base ≤ w5.heap.size ∧ Fr (fun j => j = b ∨ (Value.slice ao n co).ownBlock = some j) w w5) := by
    rw [hw5, hcs]
    exact ⟨hS.alloc _, (Below.heap_alloc _ _ _ hbl).trans hblk, alloc_last _ _, by simp; omega, Fr.alloc _ _⟩
  have HI : Hid (Calls Tryd.prog 18 #[.pointer (some ⟨b, 0, none⟩)] w5 fun e w' => e = .returned (.pointer none) ∧ w5 = w') := inner_none b aO cO w5 (cell_in HP.out.2.1 1 (by rw [hcs]; rfl))
  clear hS hblk
  rw [← hcs]
  clear hcs
  go_enter Tryd.func52, Tryd.ntmps52
  go_wp2_with fail
  rw [← hw5]
  clear hw5
  refine HI.out.mono ?_
  rintro e w' ⟨rfl, rfl⟩
  go_wp2_with fail
  clear hb
  have hS1 : w5.ownsRow base 47 8 (.slice ao n co) n xs := HP.out.1
  have hblk5 : w5.heap[b]? = some (.cells cs 50 (0, 0)) := HP.out.2.1
  have hbox5 : w5.heap[w.heap.size]? = some (.cells #[.int .i64 k, .string l.text, .int .i64 l.at_, .bool l.cmd, .slice aB nB cB, .slice aN nN cN, .string li, .slice aK nK cK] 47 (0, 0)) := HP.out.2.2.1
  have hb5 : base ≤ w5.heap.size := HP.out.2.2.2.1
  have e1 : w5.cell? ⟨b, 0, none⟩ = some (.slice ao n co) := cell_in hblk5 _ HC.out
  have y0 := cell_in hbox5 0 rfl
  have y1 := cell_in hbox5 1 rfl
  have y2 := cell_in hbox5 2 rfl
  have y3 := cell_in hbox5 3 rfl
  have y4 := cell_in hbox5 4 rfl
  have y5 := cell_in hbox5 5 rfl
  have y6 := cell_in hbox5 6 rfl
  have y7 := cell_in hbox5 7 rfl
  have l1 : b < w5.heap.size := (Array.getElem?_eq_some_iff.1 hblk5).1
  have l2 : w.heap.size < w5.heap.size := (Array.getElem?_eq_some_iff.1 hbox5).1
  have HG : Hid (∀ (w2 : World) (o2 : Obj) (g c2 : Nat), (w5.drew.alloc o2).grownBy w2 (Value.slice ao n co).ownBlock → w2.ownsRow base 47 8 (.slice (some ⟨g, 0, none⟩) (n + 1) c2) (n + 1) (xs ++ zN) → ((Value.slice ao n co).ownBlock = some g ∨ g = (w5.drew.alloc o2).heap.size) → w2.heap[b]? = some (.cells cs 50 (0, 0)) ∧ b ≠ g ∧ ((Value.slice ao n co).ownBlock = some g ∨ w.heap.size ≤ g) ∧ Fr (fun j => j = b ∨ (Value.slice ao n co).ownBlock = some j) w w2) := by
    intro w2 o2 g c2 hgr hown hg
    have hf : Fr (fun j => (Value.slice ao n co).ownBlock = some j) w5 w2 := ((Fr.drew _).trans (Fr.alloc _ o2)).trans (Fr.grown hgr (fun g hg => hg))
    have hbk := (hf.block b l1 HNE.out).trans HP.out.2.1
    refine ⟨hbk, fun e => ?_, hg.imp id (fun h => ?_), HP.out.2.2.2.2.trans (hf.mono fun j _ h => .inr h)⟩
    · rcases hg with hg | hg
      · exact HNE.out (by rw [hg, e])
      · have hz : (w5.drew.alloc o2).heap.size = w5.heap.size + 1 := by show (w5.heap.push o2).size = _; simp
        omega
    · have hz : (w5.drew.alloc o2).heap.size = w5.heap.size + 1 := by show (w5.heap.push o2).size = _; simp
      omega
  have hlt : (n : Int) < (n : Int) + 1 := by omega
  clear hblk5 hbox5
  go_region_law (first | (refine step_append_lies _ (by rfl) (.tmp 25) (.tmp 28) 25 (by rfl) base 47 i0 (.agg #[.int .i64 0, .string ⟨#[]⟩, .int .i64 0, .bool false, .slice none 0 0, .slice none 0 0, .string ⟨#[]⟩, .slice none 0 0]) 8 128 Tryd.underlying25 hi hz0 hz1 hz2 rfl (by decide) (.slice ao n co) n xs (by rfl) (hS1.kept (row := none) ⟨rfl, rfl, rfl, by simp, fun k hk _ => Below.heap_alloc _ _ _ hk⟩ (Classical.em _)) ⟨w5.heap.size, 0, none⟩ 1 1 zN (by rfl) rfl zN_at zN_one (by decide) (by unfold maxLen; omega) (by omega) (by simp; omega) _ rfl ?_; intro g c2 w2 hown hgr hgg hg1; obtain ⟨z1, hbg, HGG, HFR⟩ := HG.out w2 _ g c2 hgr hown hgg; obtain ⟨q0, q1, q2, q3, q4, q5, q6, q7⟩ := new_elem hown hxl; obtain ⟨fz0, fz1, fz2, fz3, fz4, fz5, fz6, fz7⟩ := new_frozen hown; have x1 : w2.cell? ⟨b, 0, none⟩ = some (.slice ao n co) := cell_in z1 _ HC.out; have x2 : w2.frozen? ⟨b, 0, none⟩ = false := (by simp [World.frozen?, z1]); have HGG : Hid _ := HGG; have HFR : Hid _ := HFR; have HZ1 : Hid _ := z1; have HOW : Hid _ := hown; clear hgg hgr z1 hown))
  all_goals
    go_wp2
    go_end0
    have ga := grew_a (o := 0) HOW.out hxl HZ1.out hbg HGG.out HFR.out (.int .i64 k) (.string l.text) (.int .i64 l.at_) (.bool l.cmd) (.slice aB nB cB) (.slice aN nN cN) (.string li) (.slice aK nK cK)
    have gb := grew_b (o := 0) HOW.out hxl HZ1.out hbg HGG.out HFR.out (.int .i64 k) (.string l.text) (.int .i64 l.at_) (.bool l.cmd) (.slice aB nB cB) (.slice aN nN cN) (.string li) (.slice aK nK cK)
    refine ⟨rfl, ?_⟩
    first
    | with_reducible exact ga
    | with_reducible exact gb
end Go.Proofs.YtbciedpjaajhcaaDoor
