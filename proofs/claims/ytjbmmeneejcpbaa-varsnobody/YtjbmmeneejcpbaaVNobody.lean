/-
  VarsNobody at every call.
-/
import Derived.Test.YtjbmmeneejcpbaaVNo
namespace Go.Proofs.Ytjbmmeneejcpbaa
open Go.RowKit Go.Shelf Go.Maps

namespace Nb
def a : ByteArray := ⟨#[65]⟩
def s1 : VS := (VS.none_.put 3 a ⟨#[49]⟩).1
theorem r1 : (VS.none_.put 3 a ⟨#[49]⟩).2 = 0 := by decide +kernel
theorem g1 : s1.get a = some ⟨#[49]⟩ := by decide +kernel
theorem n1 : (s1 1).length = 0 := by decide +kernel
end Nb

set_option maxRecDepth 20000 in
set_option maxHeartbeats 8000000 in
theorem nobody_law (x : Act) (w : World) (hx : x.Fine) :
    Calls Try.prog 8 #[actArg x] w fun e w' => e = .returned (.bool true) ∧ Below w.heap.size w w' := by
  obtain ⟨kd, sc, q, t⟩ := x
  obtain ⟨hq, ht⟩ := hx.2
  simp only at hq ht
  have HA : Hid (∀ W, Calls Try.prog 12 #[] W fun e w' => e = .returned (.bool true) ∧ Below W.heap.size W w') := fun W => alive_any W
  obtain ⟨W0, hW0⟩ : ∃ W0, W0 = (((w.alloc (.cells #[.int .u8 kd, .int .i64 sc, .string q, .string t] 32)).alloc (.cells #[.bool false, .map none, .map none, .map none, .map none] 55)).alloc (.cells #[.pointer none, .pointer (some ⟨w.heap.size + 1, 0, none⟩)] 23)) := ⟨_, rfl⟩
  have hs0 : W0.heap.size = w.heap.size + 3 := by rw [hW0]; simp
  have hbw : Below w.heap.size w W0 := by
    rw [hW0]
    exact (((Below.refl _ w).alloc (Nat.le_refl _) _).alloc (by simp) _).alloc (by simp; omega) _
  have HC : Hid (∀ W, Below (w.heap.size + 3) W0 W → (Below w.heap.size w W ∧ No (.pointer none) W ∧ No (.pointer (some ⟨w.heap.size + 1, 0, none⟩)) W) ∧ W.cell? ⟨w.heap.size, 0, none⟩ = some (.int .u8 kd) ∧ W.cell? ⟨w.heap.size, 1, none⟩ = some (.int .i64 sc) ∧ W.cell? ⟨w.heap.size, 2, none⟩ = some (.string q) ∧ W.cell? ⟨w.heap.size, 3, none⟩ = some (.string t) ∧ W.cell? ⟨w.heap.size + 1 + 1, 0, none⟩ = some (.pointer none) ∧ W.cell? ⟨w.heap.size + 1 + 1, 1, none⟩ = some (.pointer (some ⟨w.heap.size + 1, 0, none⟩))) := fun W hB => by
    have k0 : W.heap[w.heap.size]? = some (.cells #[.int .u8 kd, .int .i64 sc, .string q, .string t] 32 (0, 0)) := by
      rw [hB.block w.heap.size (by omega), hW0, Below.heap_alloc _ _ _ (by simp; omega), Below.heap_alloc _ _ _ (by simp)]; exact heap_alloc_new w _
    have k1 : W.heap[w.heap.size + 1]? = some (.cells #[.bool false, .map none, .map none, .map none, .map none] 55 (0, 0)) := by
      rw [hB.block (w.heap.size + 1) (by omega), hW0, Below.heap_alloc _ _ _ (by simp)]
      have := heap_alloc_new (w.alloc (.cells #[.int .u8 kd, .int .i64 sc, .string q, .string t] 32)) (.cells #[.bool false, .map none, .map none, .map none, .map none] 55)
      rw [World.size_alloc] at this; exact this
    have k2 : W.heap[w.heap.size + 1 + 1]? = some (.cells #[.pointer none, .pointer (some ⟨w.heap.size + 1, 0, none⟩)] 23 (0, 0)) := by
      rw [hB.block (w.heap.size + 1 + 1) (by omega), hW0]
      have := heap_alloc_new ((w.alloc (.cells #[.int .u8 kd, .int .i64 sc, .string q, .string t] 32)).alloc (.cells #[.bool false, .map none, .map none, .map none, .map none] 55)) (.cells #[.pointer none, .pointer (some ⟨w.heap.size + 1, 0, none⟩)] 23)
      rw [World.size_alloc, World.size_alloc] at this; exact this
    exact ⟨⟨hbw.trans (hB.mono (by omega)), .inl rfl, .inr ⟨_, rfl, (Array.getElem?_eq_some_iff.1 k1).1, cell_in k1 0 rfl⟩⟩, cell_in k0 0 rfl, cell_in k0 1 rfl, cell_in k0 2 rfl, cell_in k0 3 rfl, cell_in k2 0 rfl, cell_in k2 1 rfl⟩
  have HG : Hid (∀ v W, No v W → Calls Try.prog 16 #[v, .string q] W fun e w' => e = .returned (.tuple #[.string ⟨#[]⟩, .bool false]) ∧ Below W.heap.size W w') := fun v W h => no_get q W h hq
  have HI : Hid (∀ v W, No v W → Calls Try.prog 18 #[v, .int .i64 sc, .string q] W fun e w' => e = .returned (.tuple #[.string ⟨#[]⟩, .bool false]) ∧ Below W.heap.size W w') := fun v W h => no_in sc q W h hq
  have H1 : Hid (∀ v W, No v W → Calls Try.prog 24 #[v, .int .i64 sc, .string q, .string t] W fun e w' => e = .returned (.int .i64 2) ∧ W = w') := fun v W h => no_put sc q t W h
  have H2 : Hid (∀ v W, No v W → Calls Try.prog 27 #[v, .int .i64 sc, .string q, .string t] W fun e w' => e = .returned (.int .i64 2) ∧ W = w') := fun v W h => no_add sc q t W h
  have H3 : Hid (∀ v W, No v W → Calls Try.prog 28 #[v, .int .i64 sc, .string q, .string t] W fun e w' => e = .returned (.int .i64 2) ∧ W = w') := fun v W h => no_dflt sc q t W h
  have H4 : Hid (∀ v W, No v W → Calls Try.prog 23 #[v, .int .i64 sc, .string q] W fun e w' => e = .returned (.int .i64 2) ∧ W = w') := fun v W h => no_drop sc q W h
  have H5 : Hid (∀ v W, No v W → Calls Try.prog 26 #[v, .int .i64 sc] W fun e w' => e = .returned (.int .i64 0) ∧ W = w') := fun v W h => no_clear sc W h
  have H6 : Hid (∀ v W, No v W → Calls Try.prog 21 #[v, .int .i64 sc] W fun e w' => ∃ a c, e = .returned (.slice a 0 c) ∧ Below W.heap.size W w') := fun v W h => no_names sc W h
  have H7 : Hid (∀ v W, No v W → Calls Try.prog 25 #[v] W fun e w' => e = .returned (.pointer none) ∧ W = w') := fun v W h => no_copy W h
  have HN : Hid (∀ W : World, Calls Try.prog 9 #[] W fun e w' => e = .returned (ptr W.heap.size) ∧ VSet W.heap.size W.heap.size (newM W.heap.size) VS.none_ w' ∧ Below W.heap.size W w') := fun W => new_any W
  have HP1 : Hid (∀ base b m W, VSet base b m VS.none_ W → Calls Try.prog 24 #[ptr b, .int .i64 3, .string ⟨#[65]⟩, .string ⟨#[49]⟩] W fun e w' => e = .returned (.int .i64 0) ∧ VSet base b m Nb.s1 w' ∧ Turn m W w') := fun base b m W h => by
    have := put_any 3 Nb.a ⟨#[49]⟩ W h (by decide)
    rw [Nb.r1] at this; exact this
  have HCp : Hid (∀ base b m W, VSet base b m Nb.s1 W → Calls Try.prog 25 #[ptr b] W fun e w' => e = .returned (ptr W.heap.size) ∧ VSet W.heap.size W.heap.size (newM W.heap.size) Nb.s1 w' ∧ Below W.heap.size W w') := fun base b m W h => copy_any W h
  have HP2 : Hid (∀ base b m s W, VSet base b m s W → Calls Try.prog 24 #[ptr b, .int .i64 3, .string ⟨#[65]⟩, .string ⟨#[50]⟩] W fun e w' => ∃ r s', e = .returned (.int .i64 r) ∧ VSet base b m s' w' ∧ Turn m W w') := fun base b m s W h =>
    (put_any 3 ⟨#[65]⟩ ⟨#[50]⟩ W h (by decide)).mono fun _ _ hx => ⟨_, _, hx.1, hx.2.1, hx.2.2⟩
  have HP3 : Hid (∀ base b m s W, VSet base b m s W → Calls Try.prog 24 #[ptr b, .int .i64 1, .string ⟨#[65]⟩, .string ⟨#[51]⟩] W fun e w' => ∃ r s', e = .returned (.int .i64 r) ∧ VSet base b m s' w' ∧ Turn m W w') := fun base b m s W h =>
    (put_any 1 ⟨#[65]⟩ ⟨#[51]⟩ W h (by decide)).mono fun _ _ hx => ⟨_, _, hx.1, hx.2.1, hx.2.2⟩
  have HGc : Hid (∀ base b m W, VSet base b m Nb.s1 W → Calls Try.prog 16 #[ptr b, .string ⟨#[65]⟩] W fun e w' => e = .returned (.tuple #[.string ⟨#[49]⟩, .bool true]) ∧ Below W.heap.size W w') := fun base b m W h => by
    have := get_any Nb.a W h (by decide)
    rw [Nb.g1] at this; exact this
  have HNc : Hid (∀ base b m W, VSet base b m Nb.s1 W → Calls Try.prog 21 #[ptr b, .int .i64 1] W fun e w' => ∃ a c, e = .returned (.slice a 0 c) ∧ Below W.heap.size W w') := fun base b m W h => by
    have := names_len_any 1 W h
    rw [Nb.n1] at this; exact this
  clear hx hq ht
  go_enter Try.func8, Try.ntmps8
  go_wp2
  rw [← hW0]
  have hb0 : Below (w.heap.size + 3) W0 W0 := Below.refl _ _
  clear hW0 hbw
  go_loopw [17] (fun vi wr => ∃ j : Nat, j ≤ 2 ∧ vi = .int .i64 j ∧ Below (w.heap.size + 3) W0 wr)
    (fun vi _ => 2 - (intOf vi).toNat)
  case atStart => exact ⟨0, by omega, rfl, hb0⟩
  case round =>
    obtain ⟨j, hj, rfl, hb⟩ := hrel
    have HSZ : Hid (∀ W, Below (w.heap.size + 3) W0 W → w.heap.size + 3 ≤ W.heap.size) := fun W h => by have := h.size; omega
    clear hb0 hs0
    have hj3 : j = 0 ∨ j = 1 ∨ j = 2 := by omega
    rcases hj3 with rfl | rfl | rfl
    · obtain ⟨hlow, y0, y1, y2, y3, z0, z1⟩ := HC.out wr hb
      go_wp2_with fail
      refine (HG.out _ _ hlow.2.1).mono ?_
      rintro e w2 ⟨rfl, hb2⟩
      have hbb2 := hb.trans (hb2.mono (HSZ.out _ hb))
      clear hlow y0 y1 y2 y3 z0 z1 hb2 hb
      obtain ⟨hlow, y0, y1, y2, y3, z0, z1⟩ := HC.out w2 hbb2
      go_wp2_with fail
      refine (HI.out _ _ hlow.2.1).mono ?_
      rintro e w3 ⟨rfl, hb3⟩
      have hbb3 := hbb2.trans (hb3.mono (HSZ.out _ hbb2))
      clear hlow y0 y1 y2 y3 z0 z1 hb3 hbb2
      obtain ⟨hlow, y0, y1, y2, y3, z0, z1⟩ := HC.out w3 hbb3
      go_wp2_with fail
      refine (H1.out _ _ hlow.2.1).mono ?_
      rintro e w' ⟨rfl, rfl⟩
      go_wp2_with fail
      refine (H2.out _ _ hlow.2.1).mono ?_
      rintro e w' ⟨rfl, rfl⟩
      go_wp2_with fail
      refine (H3.out _ _ hlow.2.1).mono ?_
      rintro e w' ⟨rfl, rfl⟩
      go_wp2_with fail
      refine (H4.out _ _ hlow.2.1).mono ?_
      rintro e w' ⟨rfl, rfl⟩
      go_wp2_with fail
      refine (H5.out _ _ hlow.2.1).mono ?_
      rintro e w' ⟨rfl, rfl⟩
      go_wp2_with fail
      refine (H6.out _ _ hlow.2.1).mono ?_
      rintro e w4 ⟨a4, c4, rfl, hb4⟩
      have hbb4 := hbb3.trans (hb4.mono (HSZ.out _ hbb3))
      clear hlow y0 y1 y2 y3 z0 z1 hb4 hbb3
      obtain ⟨hlow, y0, y1, y2, y3, z0, z1⟩ := HC.out w4 hbb4
      go_wp2_with fail
      refine (H7.out _ _ hlow.2.1).mono ?_
      rintro e w' ⟨rfl, rfl⟩
      clear hlow
      go_wp2
      go_roundw
      case rel => exact ⟨1, by omega, rfl, hbb4⟩
      case measure => simp [intOf]
    · obtain ⟨hlow, y0, y1, y2, y3, z0, z1⟩ := HC.out wr hb
      go_wp2_with fail
      refine (HG.out _ _ hlow.2.2).mono ?_
      rintro e w2 ⟨rfl, hb2⟩
      have hbb2 := hb.trans (hb2.mono (HSZ.out _ hb))
      clear hlow y0 y1 y2 y3 z0 z1 hb2 hb
      obtain ⟨hlow, y0, y1, y2, y3, z0, z1⟩ := HC.out w2 hbb2
      go_wp2_with fail
      refine (HI.out _ _ hlow.2.2).mono ?_
      rintro e w3 ⟨rfl, hb3⟩
      have hbb3 := hbb2.trans (hb3.mono (HSZ.out _ hbb2))
      clear hlow y0 y1 y2 y3 z0 z1 hb3 hbb2
      obtain ⟨hlow, y0, y1, y2, y3, z0, z1⟩ := HC.out w3 hbb3
      go_wp2_with fail
      refine (H1.out _ _ hlow.2.2).mono ?_
      rintro e w' ⟨rfl, rfl⟩
      go_wp2_with fail
      refine (H2.out _ _ hlow.2.2).mono ?_
      rintro e w' ⟨rfl, rfl⟩
      go_wp2_with fail
      refine (H3.out _ _ hlow.2.2).mono ?_
      rintro e w' ⟨rfl, rfl⟩
      go_wp2_with fail
      refine (H4.out _ _ hlow.2.2).mono ?_
      rintro e w' ⟨rfl, rfl⟩
      go_wp2_with fail
      refine (H5.out _ _ hlow.2.2).mono ?_
      rintro e w' ⟨rfl, rfl⟩
      go_wp2_with fail
      refine (H6.out _ _ hlow.2.2).mono ?_
      rintro e w4 ⟨a4, c4, rfl, hb4⟩
      have hbb4 := hbb3.trans (hb4.mono (HSZ.out _ hbb3))
      clear hlow y0 y1 y2 y3 z0 z1 hb4 hbb3
      obtain ⟨hlow, y0, y1, y2, y3, z0, z1⟩ := HC.out w4 hbb4
      go_wp2_with fail
      refine (H7.out _ _ hlow.2.2).mono ?_
      rintro e w' ⟨rfl, rfl⟩
      clear hlow
      go_wp2
      go_roundw
      case rel => exact ⟨2, by omega, rfl, hbb4⟩
      case measure => simp [intOf]
    · have hlow := (HC.out wr hb).1.1
      clear HC HSZ H1 H2 H3 H4 H5 H6 H7 HG HI hb
      go_wp2_with fail
      refine (HN.out _).mono ?_
      rintro e w1 ⟨rfl, hv1, hb1⟩
      have hlow1 := hlow.trans (hb1.mono hlow.size)
      have hB1 : w.heap.size ≤ wr.heap.size := hlow.size
      obtain ⟨B, hB⟩ : ∃ B, B = wr.heap.size := ⟨_, rfl⟩
      obtain ⟨M, hM⟩ : ∃ M, M = newM wr.heap.size := ⟨_, rfl⟩
      rw [← hM, ← hB] at hv1
      rw [← hB]
      rw [← hB] at hB1
      clear hb1 hlow hM hB
      go_wp2_with fail
      refine (HP1.out _ _ _ _ hv1).mono ?_
      rintro e w2 ⟨rfl, hv2, ht2⟩
      have hlow2 := hlow1.trans ((hv1.lower hB1).low ht2)
      clear hv1 ht2 hlow1
      go_wp2_with fail
      refine (HCp.out _ _ _ _ hv2).mono ?_
      rintro e w3 ⟨rfl, hc3, hb3⟩
      have hv3 := hv2.below hb3
      have hlow3 := hlow2.trans (hb3.mono hlow2.size)
      have hne1 : ∀ n, isSc n = true → w2.heap.size ≠ M n := fun n hn => by have := hv2.ltm hn; omega
      have hne2 : ∀ i k, isSc i = true → isSc k = true → newM w2.heap.size i ≠ M k := fun i k hi hk => by have := hv2.ltm hk; unfold newM; omega
      have HB2 : Hid (w.heap.size ≤ w2.heap.size) := hlow2.size
      obtain ⟨C, hC⟩ : ∃ C, C = w2.heap.size := ⟨_, rfl⟩
      obtain ⟨MC, hMC⟩ : ∃ MC, MC = newM w2.heap.size := ⟨_, rfl⟩
      rw [← hMC] at hc3 hne2
      rw [← hC] at hc3 hne1 ⊢
      clear hv2 hb3 hlow2 hC hMC
      go_wp2_with fail
      refine (HP2.out _ _ _ _ _ hv3).mono ?_
      rintro e w4 ⟨r4, s4, rfl, hv4, ht4⟩
      have hc4 := hc3.other ht4 hne1 hne2
      have hlow4 := hlow3.trans ((hv3.lower hB1).low ht4)
      clear hv3 hc3 ht4 hlow3
      go_wp2_with fail
      refine (HP3.out _ _ _ _ _ hv4).mono ?_
      rintro e w5 ⟨r5, s5, rfl, hv5, ht5⟩
      have hc5 := hc4.other ht5 hne1 hne2
      have hlow5 := hlow4.trans ((hv4.lower hB1).low ht5)
      clear hv4 hv5 hc4 ht5 hlow4 hne1 hne2
      go_wp2_with fail
      refine (HGc.out _ _ _ _ hc5).mono ?_
      rintro e w6 ⟨rfl, hb6⟩
      have hc6 := hc5.below hb6
      have hlow6 := hlow5.trans (hb6.mono hlow5.size)
      clear hc5 hb6 hlow5
      go_wp2_with fail
      refine (HNc.out _ _ _ _ hc6).mono ?_
      rintro e w7 ⟨a7, c7, rfl, hb7⟩
      have hlow7 := hlow6.trans (hb7.mono hlow6.size)
      clear hc6 hb7 hlow6
      go_wp2_with fail
      refine (HA.out _).mono ?_
      rintro e w8 ⟨rfl, hb8⟩
      have hlow8 := hlow7.trans (hb8.mono hlow7.size)
      clear hb8 hlow7
      go_wp2
      go_ret
      exact ⟨rfl, hlow8⟩
end Go.Proofs.Ytjbmmeneejcpbaa
