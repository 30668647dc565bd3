/-
  What end does.
-/
import Derived.Test.YtbciedpjaajhcaaDoorBW5
namespace Go.Proofs.YtbciedpjaajhcaaDoor
open Go.RowKit Go.Shelf
open Ex (Fr)

section
variable (b : Nat) (kd : Int) (t : ByteArray) (w : World)
set_option maxRecDepth 20000 in
set_option maxHeartbeats 400000 in
theorem end_none (a : Option Addr) (c : Nat) (vD : Value) (hblk : w.heap[b]? = some (.cells #[vD, .slice a 0 c] 50 (0, 0))) :
    Calls Tryd.prog 51 #[.pointer (some ⟨b, 0, none⟩), .int .i64 kd, .string t] w (PartBad w) := by
  have HI : Hid (Calls Tryd.prog 18 #[.pointer (some ⟨b, 0, none⟩)] w fun e w' => e = .returned (.pointer none) ∧ w = w') := inner_none b a c w (cell_in hblk 1 rfl)
  clear hblk
  go_enter Tryd.func51, Tryd.ntmps51
  go_wp2_with fail
  refine HI.out.mono ?_
  rintro e w' ⟨rfl, rfl⟩
  go_wp2
  go_ret
  exact ⟨rfl, Below.refl _ _⟩
set_option maxRecDepth 20000 in
set_option maxHeartbeats 400000 in
theorem end_kind (gO n cO : Nat) (vD : Value) (cs : Array Value) (k : Int) (hn : n ≤ 1000000) (hblk : w.heap[b]? = some (.cells #[vD, .slice (some ⟨gO, 0, none⟩) (n + 1) cO] 50 (0, 0))) (hO : w.heap[gO]? = some (.cells cs 47 (0, 0))) (hk2 : cs[n * 8]? = some (.int .i64 k)) (hk : ¬ k = kd) :
    Calls Tryd.prog 51 #[.pointer (some ⟨b, 0, none⟩), .int .i64 kd, .string t] w (PartBad w) := by
  have HI : Hid (Calls Tryd.prog 18 #[.pointer (some ⟨b, 0, none⟩)] w fun e w' => e = .returned (.pointer (some ⟨gO, n * 8, none⟩)) ∧ ∃ q, w' = w.drewN q) := inner_some b gO n cO w hn (cell_in hblk 1 rfl)
  have HK2 : Hid (∀ q, (w.drewN q).cell? ⟨gO, n * 8, none⟩ = some (.int .i64 k)) := fun q => cell_in hO _ hk2
  have hk3 : (k == kd) = false := by simpa using hk
  clear hk2 hO hblk
  go_enter Tryd.func51, Tryd.ntmps51
  go_wp2_with fail
  refine HI.out.mono ?_
  rintro e w' ⟨rfl, q, rfl⟩
  have hk2 := HK2.out q
  go_wp2
  go_ret
  exact ⟨rfl, below_drewN (Below.refl _ _) q⟩
set_option maxRecDepth 20000 in
set_option maxHeartbeats 400000 in
theorem end_text (gO n cO : Nat) (vD : Value) (cs : Array Value) (hn : n ≤ 1000000) (hblk : w.heap[b]? = some (.cells #[vD, .slice (some ⟨gO, 0, none⟩) (n + 1) cO] 50 (0, 0))) (hO : w.heap[gO]? = some (.cells cs 47 (0, 0))) (hk2 : cs[n * 8]? = some (.int .i64 kd)) (ht : ¬ t = E) :
    Calls Tryd.prog 51 #[.pointer (some ⟨b, 0, none⟩), .int .i64 kd, .string t] w (PartBad w) := by
  obtain ⟨s3, s4⟩ := ne_empty ht
  have HI : Hid (Calls Tryd.prog 18 #[.pointer (some ⟨b, 0, none⟩)] w fun e w' => e = .returned (.pointer (some ⟨gO, n * 8, none⟩)) ∧ ∃ q, w' = w.drewN q) := inner_some b gO n cO w hn (cell_in hblk 1 rfl)
  have HK2 : Hid (∀ q, (w.drewN q).cell? ⟨gO, n * 8, none⟩ = some (.int .i64 kd)) := fun q => cell_in hO _ hk2
  clear hk2 hO hblk ht
  go_enter Tryd.func51, Tryd.ntmps51
  go_wp2_with fail
  refine HI.out.mono ?_
  rintro e w' ⟨rfl, q, rfl⟩
  have hk2 := HK2.out q
  go_wp2
  go_ret
  exact ⟨rfl, below_drewN (Below.refl _ _) q⟩
end
set_option maxRecDepth 20000 in
set_option maxHeartbeats 1000000 in
theorem end_ok (b gO n cO : Nat) (vD : Value) (cs : Array Value) (kd : Int) (l : Lz) (vB vN : Value) (li : ByteArray) (vK : Value) (w : World) (Pst : World → Prop) (hn : n ≤ 1000000) (hcO : n + 1 ≤ cO) (hblk : w.heap[b]? = some (.cells #[vD, .slice (some ⟨gO, 0, none⟩) (n + 1) cO] 50 (0, 0))) (hO : w.heap[gO]? = some (.cells cs 47 (0, 0)))
    (hcs : ∀ j u, (ndC kd l vB vN li vK)[j]? = some u → cs[n * 8 + j]? = some u) (hsl : IsS vB ∧ IsS vN ∧ IsS vK)
    (hadd : ∀ W, W.heap[b]? = some (.cells #[vD, .slice (some ⟨gO, 0, none⟩) n cO] 50 (0, 0)) → Fr (fun j => j = b) w W → Calls Tryd.prog 52 #[.pointer (some ⟨b, 0, none⟩), .agg #[.int .i64 kd, .string l.text, .int .i64 l.at_, .bool l.cmd, vB, vN, .string li, vK]] W fun e w' => e = .returned (.tuple #[]) ∧ Pst w') :
    Calls Tryd.prog 51 #[.pointer (some ⟨b, 0, none⟩), .int .i64 kd, .string E] w fun e w' => e = .returned (.int .i64 0) ∧ Pst w' := by
  have HI : Hid (Calls Tryd.prog 18 #[.pointer (some ⟨b, 0, none⟩)] w fun e w' => e = .returned (.pointer (some ⟨gO, n * 8, none⟩)) ∧ ∃ q, w' = w.drewN q) := inner_some b gO n cO w hn (cell_in hblk 1 rfl)
  obtain ⟨⟨aB, nB, cB, rfl⟩, ⟨aN, nN, cN, rfl⟩, ⟨aK, nK, cK, rfl⟩⟩ := hsl
  have HK2 : Hid (∀ q j u, (ndC kd l (.slice aB nB cB) (.slice aN nN cN) li (.slice aK nK cK))[j]? = some u → (w.drewN q).cell? ⟨gO, n * 8 + j, none⟩ = some u) := fun q j u h => cell_in hO _ (hcs j u h)
  have HBK : Hid (w.heap[b]? = some (.cells #[vD, .slice (some ⟨gO, 0, none⟩) (n + 1) cO] 50 (0, 0))) := hblk
  have hbl : b < w.heap.size := (Array.getElem?_eq_some_iff.1 hblk).1
  have HA : Hid _ := hadd
  have h3 : ((n : Int) + 1 - 1).toNat = n := by omega
  have h4 : (n : Int) + 1 - 1 ≤ (cO : Int) := by omega
  have h5 : (n : Int) ≤ (cO : Int) := by omega
  have h6 : (0 : Int) ≤ (n : Int) + 1 - 1 := by omega
  clear hcs hO hblk hadd
  go_enter Tryd.func51, Tryd.ntmps51
  go_wp2_with fail
  refine HI.out.mono ?_
  rintro e w' ⟨rfl, q, rfl⟩
  obtain ⟨w1, hw1⟩ : ∃ w1, w1 = w.drewN q := ⟨_, rfl⟩
  have HK2 := HK2.out q
  have HF : Hid (Fr (fun j => j = b) w w1) := by rw [hw1]; exact Fr.drewN _ _
  have HBK1 : Hid (w1.heap[b]? = some (.cells #[vD, .slice (some ⟨gO, 0, none⟩) (n + 1) cO] 50 (0, 0))) := by rw [hw1]; exact HBK.out
  have hb1 : b < w1.heap.size := by rw [hw1]; exact hbl
  rw [← hw1] at HK2 ⊢
  clear hw1
  have c0 : w1.cell? ⟨gO, n * 8, none⟩ = some (.int .i64 kd) := HK2 0 _ rfl
  have c1 := HK2 1 _ rfl
  have c2 := HK2 2 _ rfl
  have c3 := HK2 3 _ rfl
  have c4 := HK2 4 _ rfl
  have c5 := HK2 5 _ rfl
  have c6 := HK2 6 _ rfl
  have c7 := HK2 7 _ rfl
  clear HK2
  go_wp2_with fail
  obtain ⟨w2, hw2⟩ : ∃ w2, w2 = w1.alloc (.cells #[.int .i64 kd, .string l.text, .int .i64 l.at_, .bool l.cmd, .slice aB nB cB, .slice aN nN cN, .string li, .slice aK nK cK] 47) := ⟨_, rfl⟩
  have z1 : w2.heap[b]? = some (.cells #[vD, .slice (some ⟨gO, 0, none⟩) (n + 1) cO] 50 (0, 0)) := by rw [hw2]; exact (Below.heap_alloc _ _ _ hb1).trans HBK1.out
  have z2 : w2.heap[w1.heap.size]? = some (.cells #[.int .i64 kd, .string l.text, .int .i64 l.at_, .bool l.cmd, .slice aB nB cB, .slice aN nN cN, .string li, .slice aK nK cK] 47 (0, 0)) := by rw [hw2]; exact alloc_last _ _
  have HF2 : Hid (Fr (fun j => j = b) w w2) := by rw [hw2]; exact HF.out.trans (Fr.alloc _ _)
  rw [← hw2]
  clear hw2 c0 c1 c2 c3 c4 c5 c6 c7
  have e1 : w2.cell? ⟨b, 1, none⟩ = some (.slice (some ⟨gO, 0, none⟩) (n + 1) cO) := cell_in z1 1 rfl
  have e2 : w2.frozen? ⟨b, 1, none⟩ = false := by simp [World.frozen?, z1]
  go_region
  all_goals
    have HW : Hid ((((w2.setCell ⟨b, 1, none⟩ (.slice (some ⟨gO, 0, none⟩) n cO)).drew).heap[b]? = some (.cells #[vD, .slice (some ⟨gO, 0, none⟩) n cO] 50 (0, 0))) ∧ Fr (fun j => j = b) w ((w2.setCell ⟨b, 1, none⟩ (.slice (some ⟨gO, 0, none⟩) n cO)).drew) ∧ ∀ j u, (ndC kd l (.slice aB nB cB) (.slice aN nN cN) li (.slice aK nK cK))[j]? = some u → ((w2.setCell ⟨b, 1, none⟩ (.slice (some ⟨gO, 0, none⟩) n cO)).drew).cell? ⟨w1.heap.size, j, none⟩ = some u) := by
      refine ⟨heap_set z1 _, HF2.out.trans ((Fr.set (D := fun j => j = b) b 1 _ _ rfl).trans (Fr.drew _)), fun j u hj => ?_⟩
      refine cell_in (cs := #[.int .i64 kd, .string l.text, .int .i64 l.at_, .bool l.cmd, .slice aB nB cB, .slice aN nN cN, .string li, .slice aK nK cK]) (T := 47) ?_ j (by simpa [ndC] using hj)
      exact (Below.heap_setCell _ _ _ _ (Nat.ne_of_gt hb1)).trans z2
    obtain ⟨w3, hw3⟩ : ∃ w3, w3 = (w2.setCell ⟨b, 1, none⟩ (.slice (some ⟨gO, 0, none⟩) n cO)).drew := ⟨_, rfl⟩
    rw [← hw3] at HW ⊢
    clear hw3 e1 e2 z1 z2
    have c0 := HW.out.2.2 0 _ rfl
    have c1 := HW.out.2.2 1 _ rfl
    have c2 := HW.out.2.2 2 _ rfl
    have c3 := HW.out.2.2 3 _ rfl
    have c4 := HW.out.2.2 4 _ rfl
    have c5 := HW.out.2.2 5 _ rfl
    have c6 := HW.out.2.2 6 _ rfl
    have c7 := HW.out.2.2 7 _ rfl
    go_wp2_with fail
    refine (HA.out w3 HW.out.1 HW.out.2.1).mono ?_
    rintro e w' ⟨rfl, HPS⟩
    have HPS : Hid _ := HPS
    go_wp2_with fail
    go_ret
    exact ⟨rfl, HPS.out⟩
end Go.Proofs.YtbciedpjaajhcaaDoor
