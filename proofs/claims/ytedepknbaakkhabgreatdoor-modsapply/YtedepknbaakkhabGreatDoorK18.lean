/-
  PBytes
-/
import Derived.Test.YtedepknbaakkhabGreatDoorK17
set_option maxRecDepth 20000
namespace Go.Proofs.YtedepknbaakkhabGreatDoor.X
open Go.RowKit Go.Shelf RxSem
set_option maxHeartbeats 2000000 in
theorem bytes_any {b : Nat} {t : ByteArray} {i o : Nat} {ah : Bool} (w : World) (h : Rd b t i o ah w) (ht : t.size ≤ 1000000) (hi : i ≤ t.size) (R : (Stp × List UInt8) ⊕ (Nat × Nat)) (hR : thingR (91 :: (bl t).drop i) = R) : Calls Tryz.prog 170 #[.pointer (some ⟨b, 0, none⟩)] w (ThingPost b t o ah w R) := by
  have hb := h.lt
  have hil : (i : Int) ≤ (t.size : Int) := by omega
  have HP : Hid (∀ W, Calls Tryz.prog 14 #[.string (t.extract i t.size), .string ⟨#[94]⟩] W fun e w' => e = .returned (.bool (((bl t).drop i).head? == some 94)) ∧ w' = W) := fun W => by
    rw [drop_get, ← hasPrefix94]; exact Tryz.strings_HasPrefix _ _ W
  cases hp : (((bl t).drop i).head? == some 94) with
  | false =>
    rw [hp] at HP
    have HR : Hid (setRes false (setL ((bl t).drop i) true fun _ => false) = R) := by rw [← set_plain _ (by simpa using hp)]; exact hR
    clear hp hR
    obtain ⟨W0, hW, hB, hS, k1, k2, k3⟩ := three w (.cells #[.int .i64 0, .int .u64 0, .int .u64 0, .int .u64 0, .int .u64 0, .int .i64 0, .int .i64 0] 146) (.cells #[.int .i64 0, .int .i64 0] 28) (.cells #[.int .u64 0, .int .u64 0, .int .u64 0, .int .u64 0] 143)
    have h0 := h.below hB
    have c0 := h0.c0
    have c1 := h0.c1
    have HW : Hid (Below w.heap.size w W0 ∧ W0.heap.size = w.heap.size + 3 ∧ W0.heap[w.heap.size]? = _ ∧ W0.heap[w.heap.size + 1]? = _ ∧ W0.heap[w.heap.size + 1 + 1]? = _ ∧ Rd b t i o ah W0) := ⟨hB, hS, k1, k2, k3, h0⟩
    clear h h0 hB hS k1 k2 k3
    go_enter Tryz.func170, Tryz.ntmps170
    go_wp2_with fail
    rw [← hW]
    clear hW
    go_quiet (first | (go_at_call 14; refine Calls.quiet_of_same (HP.out _)))
    go_wp2_with fail
    go_loopw [] (fun wr => ∃ a y f, Rd b t a o ah wr ∧ a ≤ t.size ∧ i ≤ a ∧ wr.heap[w.heap.size]? = some (.cells #[.int .i64 0, .int .u64 0, .int .u64 0, .int .u64 0, .int .u64 0, .int .i64 0, .int .i64 0] 146 (0, 0)) ∧ wr.heap[w.heap.size + 1]? = some (.cells #[.int .i64 0, .int .i64 0] 28 (0, 0)) ∧ wr.heap[w.heap.size + 1 + 1]? = some (.cells (cellsW y) 143 (0, 0)) ∧ y.Ok ∧ y.has = f ∧ Wrote b w wr ∧ setL ((bl t).drop a) (decide (a = i)) f = setL ((bl t).drop i) true fun _ => false) (fun wr => t.size - atOf b wr)
    case atStart =>
      obtain ⟨g1, g2, g3, g4, g5, g6⟩ := HW.out
      exact ⟨i, W4.zero, fun _ => false, g6, hi, Nat.le_refl _, g3, g4, g5, W4.zero_ok, by funext c; exact W4.zero_has c, (Wrote.of_below g1).drewN _, by simp⟩
    case round =>
      obtain ⟨a, y, f, hRd, ha, hia, k1, k2, k3, hy, hf, hwr, hset⟩ := hrel
      have c0 := hRd.c0
      have c1 := hRd.c1
      have fr := hRd.fr
      have hbr := hRd.lt
      have b0 : ¬ b = w.heap.size := by omega
      have b1 : ¬ b = w.heap.size + 1 := by omega
      have b2 : ¬ b = w.heap.size + 1 + 1 := by omega
      have y0 : wr.cell? ⟨w.heap.size + 1 + 1, 0, none⟩ = some (.int .u64 (y.a : Int)) := by simp only [World.cell?, k3]; rfl
      have y1 : wr.cell? ⟨w.heap.size + 1 + 1, 1, none⟩ = some (.int .u64 (y.b : Int)) := by simp only [World.cell?, k3]; rfl
      have y2 : wr.cell? ⟨w.heap.size + 1 + 1, 2, none⟩ = some (.int .u64 (y.c : Int)) := by simp only [World.cell?, k3]; rfl
      have y3 : wr.cell? ⟨w.heap.size + 1 + 1, 3, none⟩ = some (.int .u64 (y.d : Int)) := by simp only [World.cell?, k3]; rfl
      have yf : ∀ j, wr.frozen? ⟨w.heap.size + 1 + 1, j, none⟩ = false := fun j => by simp [World.frozen?, k3]
      have s0 : wr.cell? ⟨w.heap.size, 0, none⟩ = some (.int .i64 0) := by simp only [World.cell?, k1]; rfl
      have s1 : wr.cell? ⟨w.heap.size, 1, none⟩ = some (.int .u64 0) := by simp only [World.cell?, k1]; rfl
      have s2 : wr.cell? ⟨w.heap.size, 2, none⟩ = some (.int .u64 0) := by simp only [World.cell?, k1]; rfl
      have s3 : wr.cell? ⟨w.heap.size, 3, none⟩ = some (.int .u64 0) := by simp only [World.cell?, k1]; rfl
      have s4 : wr.cell? ⟨w.heap.size, 4, none⟩ = some (.int .u64 0) := by simp only [World.cell?, k1]; rfl
      have s5 : wr.cell? ⟨w.heap.size, 5, none⟩ = some (.int .i64 0) := by simp only [World.cell?, k1]; rfl
      have s6 : wr.cell? ⟨w.heap.size, 6, none⟩ = some (.int .i64 0) := by simp only [World.cell?, k1]; rfl
      have sf : ∀ j, wr.frozen? ⟨w.heap.size, j, none⟩ = false := fun j => by simp [World.frozen?, k1]
      have t0 : wr.cell? ⟨w.heap.size + 1, 0, none⟩ = some (.int .i64 0) := by simp only [World.cell?, k2]; rfl
      have t1 : wr.cell? ⟨w.heap.size + 1, 1, none⟩ = some (.int .i64 0) := by simp only [World.cell?, k2]; rfl
      have tf : ∀ j, wr.frozen? ⟨w.heap.size + 1, j, none⟩ = false := fun j => by simp [World.frozen?, k2]
      by_cases hlt : a < t.size
      · have hl2 : (a : Int) < (t.size : Int) := by omega
        obtain ⟨c, hc⟩ : ∃ c, c = t[a] := ⟨_, rfl⟩
        have hd := drop_ba t a hlt
        rw [← hc] at hd
        have HH : Hid (c = t[a] ∧ Rd b t a o ah wr ∧ a ≤ t.size ∧ i ≤ a ∧ wr.heap[w.heap.size]? = some (.cells #[.int .i64 0, .int .u64 0, .int .u64 0, .int .u64 0, .int .u64 0, .int .i64 0, .int .i64 0] 146 (0, 0)) ∧ wr.heap[w.heap.size + 1]? = some (.cells #[.int .i64 0, .int .i64 0] 28 (0, 0)) ∧ wr.heap[w.heap.size + 1 + 1]? = some (.cells (cellsW y) 143 (0, 0)) ∧ y.Ok ∧ y.has = f ∧ Wrote b w wr ∧ setL ((bl t).drop a) (decide (a = i)) f = setL ((bl t).drop i) true fun _ => false) := ⟨hc, hRd, ha, hia, k1, k2, k3, hy, hf, hwr, hset⟩
        by_cases h93 : c = 93 ∧ i < a
        · have hc2 : t[a].toNat = 93 := by rw [← hc, h93.1]; rfl
          have hia2 : (i : Int) < (a : Int) := by omega
          clear hRd ha k1 k2 k3 hy hf hwr hset hc hd
          go_wp2_with fail
          go_quiet (fail)
          obtain ⟨nq0, hn0⟩ : ∃ n, n = nq := ⟨_, rfl⟩
          rw [← hn0]
          clear hn0 nq
          go_wp2_with fail
          go_quiet (fail)
          go_wp2_with fail
          obtain ⟨w9, e9, r0, r1, r2, r3, r4, r5, r6, q0, q1, h9, hO⟩ := out_cells (w1 := (wr.drewN (nq0 + nq)).setCell ⟨b, 1, none⟩ (.int .i64 ((a : Int) + 1))) (B := w.heap.size) ((Below.heap_setCell _ _ _ _ (Ne.symm b0)).trans HH.out.2.2.2.2.1) ((Below.heap_setCell _ _ _ _ (Ne.symm b1)).trans HH.out.2.2.2.2.2.1) ⟨0, y, 0, 0⟩ (0) (0)
          have e8 : (((((((((((wr.drewN (nq0 + nq)).setCell ⟨b, 1, none⟩ (.int .i64 ((a : Int) + 1))).setCell ⟨w.heap.size, 0, none⟩ (.int .i64 0)).setCell ⟨w.heap.size, 1, none⟩ (.int .u64 (y.a : Int))).setCell ⟨w.heap.size, 2, none⟩ (.int .u64 (y.b : Int))).setCell ⟨w.heap.size, 3, none⟩ (.int .u64 (y.c : Int))).setCell ⟨w.heap.size, 4, none⟩ (.int .u64 (y.d : Int))).setCell ⟨w.heap.size, 5, none⟩ (.int .i64 0)).setCell ⟨w.heap.size, 6, none⟩ (.int .i64 0)).setCell ⟨w.heap.size + 1, 0, none⟩ (.int .i64 0)).setCell ⟨w.heap.size + 1, 1, none⟩ (.int .i64 0)) = w9 := e9.symm
          rw [e8]
          clear e8 e9
          refine bodyPost_ret (by simp [results, Tryz.results170, go_sem, r0, r1, r2, r3, r4, r5, r6, q0, q1]; try rfl) rfl ?_
          obtain ⟨hc, hRd, ha, hia, _, _, _, hy, hf, hwr, hset⟩ := HH.out
          have hd := drop_ba t a hlt
          rw [hd, ← hc, setL_stop ⟨h93.1, by simp; omega⟩] at hset
          refine ⟨out_wrote ((hwr.drewN _).set _) (Nat.le_refl _) h9 hO, ?_⟩
          rw [← HR.out, ← hset]
          refine ⟨⟨0, y, 0, 0⟩, ⟨hy, by simp, by simp, by simp⟩, ?_, rfl, a + 1, ?_, by omega, rfl⟩
          · simp [SV.abs, hf]
          · exact (hO b b0 b1).trans (Rd.set1 (w := wr.drewN (nq0 + nq)) hRd (a + 1))
        · have hE : t.extract a t.size = t.extract a t.size := rfl
          have hnot : ¬ (c = 93 ∧ decide (a = i) = false) := by
            rintro ⟨e, hd'⟩
            simp at hd'
            exact h93 ⟨e, by omega⟩
          have HS := setL_mem c ((bl t).drop (a + 1)) (decide (a = i)) f hnot
          rw [← hd] at HS
          obtain ⟨lo, hlo⟩ : ∃ lo, lo = (mem ((bl t).drop a)).1 := ⟨_, rfl⟩
          obtain ⟨hi', hhi⟩ : ∃ lo, lo = (mem ((bl t).drop a)).2.1 := ⟨_, rfl⟩
          obtain ⟨sz, hsz⟩ : ∃ lo, lo = (mem ((bl t).drop a)).2.2 := ⟨_, rfl⟩
          rw [← hlo, ← hhi, ← hsz] at HS
          have HMem : Hid (∀ W, Calls Tryz.prog 185 #[.string (t.extract a t.size)] W fun e w' => e = .returned (.tuple #[.int .u8 (lo.toNat : Int), .int .u8 (hi'.toNat : Int), .int .i64 (sz : Int)]) ∧ ∃ n, w' = W.drewN n) := fun W => by
            have := member_any (t.extract a t.size) (by simp; omega) (by simp; omega) W
            rw [← drop_get] at this
            unfold memV at this
            rw [← hlo, ← hhi, ← hsz] at this
            exact this
          have HSH : Hid (_) := HS
          clear hRd ha k1 k2 k3 hf hwr hset hd HS hlo hhi hsz hE
          by_cases hc93 : c = 93
          · have hc2 : t[a].toNat = 93 := by rw [← hc, hc93]; rfl
            have hia2 : ¬ (i : Int) < (a : Int) := fun h => h93 ⟨hc93, by omega⟩
            clear hc h93 hc93 hnot
            go_wp2_with fail
            go_quiet (fail)
            obtain ⟨n1, hn1⟩ : ∃ n, n = nq := ⟨_, rfl⟩
            rw [← hn1]
            clear hn1 nq
            go_wp2_with fail
            go_quiet (fail)
            obtain ⟨n2, hn2⟩ : ∃ n, n = nq := ⟨_, rfl⟩
            rw [← hn2]
            clear hn2 nq
            go_wp2_with fail
            by_cases hlh : hi' < lo
            · have hl4 : (hi'.toNat : Int) < (lo.toNat : Int) := by rw [UInt8.lt_iff_toNat_lt] at hlh; omega
              go_quiet (first | (go_at_call 185; refine quiet_at (HMem.out _)))
              obtain ⟨n3, hn3⟩ : ∃ n, n = nq := ⟨_, rfl⟩
              rw [← hn3]
              clear hn3 nq
              go_wp2_with fail
              go_region_with (fail)
              all_goals
                go_wp2_with fail
                obtain ⟨w9, e9, r0, r1, r2, r3, r4, r5, r6, q0, q1, h9, hO⟩ := out_cells (w1 := wr.drewN (n1 + n2 + n3 + 1)) (B := w.heap.size) (HH.out.2.2.2.2.1) (HH.out.2.2.2.2.2.1) SV.zero (3) (a + 1)
                have hwp : IntKind.i64.wrap ((a : Int) + 1) = ((a + 1 : Nat) : Int) := by (simp [IntKind.wrap, IntKind.bits, IntKind.signed]; omega)
                rw [hwp]
                have e8 : ((((((((((wr.drewN (n1 + n2 + n3 + 1)).setCell ⟨w.heap.size, 0, none⟩ (.int .i64 0)).setCell ⟨w.heap.size, 1, none⟩ (.int .u64 0)).setCell ⟨w.heap.size, 2, none⟩ (.int .u64 0)).setCell ⟨w.heap.size, 3, none⟩ (.int .u64 0)).setCell ⟨w.heap.size, 4, none⟩ (.int .u64 0)).setCell ⟨w.heap.size, 5, none⟩ (.int .i64 0)).setCell ⟨w.heap.size, 6, none⟩ (.int .i64 0)).setCell ⟨w.heap.size + 1, 0, none⟩ (.int .i64 3)).setCell ⟨w.heap.size + 1, 1, none⟩ (.int .i64 ((a + 1 : Nat) : Int))) = w9 := e9.symm
                rw [e8]
                clear e8 e9
                refine bodyPost_ret (by simp [results, Tryz.results170, go_sem, r0, r1, r2, r3, r4, r5, r6, q0, q1]; try rfl) rfl ?_
                obtain ⟨hc, hRd, ha, hia, _, _, _, hy, hf, hwr, hset⟩ := HH.out
                obtain ⟨m1, m2, m3⟩ := HSH.out
                rw [if_pos hlh] at m1
                rw [m1] at hset
                refine ⟨out_wrote (hwr.drewN _) (Nat.le_refl _) h9 hO, ?_⟩
                rw [← HR.out, ← hset]
                refine ⟨SV.zero, a, ?_, (hO b b0 b1).trans hRd⟩
                rw [List.length_drop, bl_length, show t.size - (t.size - (a + 1)) = a + 1 by omega]
                rfl
            · have hl4 : ¬ (hi'.toNat : Int) < (lo.toNat : Int) := by rw [UInt8.lt_iff_toNat_lt] at hlh; omega
              have HWith : Hid (∀ W, Calls Tryz.prog 171 #[setV y, .int .u8 (lo.toNat : Int), .int .u8 (hi'.toNat : Int)] W fun e w' => e = .returned (setV (y.addN lo.toNat (hi'.toNat + 1 - lo.toNat))) ∧ Below W.heap.size W w') := fun W => with_any y HH.out.2.2.2.2.2.2.2.1 lo hi' W
              go_quiet (first | (go_at_call 185; refine quiet_at (HMem.out _)))
              obtain ⟨n3, hn3⟩ : ∃ n, n = nq := ⟨_, rfl⟩
              rw [← hn3]
              clear hn3 nq
              go_wp2_with fail
              refine (HWith.out (wr.drewN (n1 + n2 + n3))).mono ?_
              rintro e w1 ⟨rfl, hb1⟩
              have HH1 : Hid (w1.heap[w.heap.size]? = wr.heap[w.heap.size]? ∧ w1.heap[w.heap.size + 1]? = wr.heap[w.heap.size + 1]? ∧ w1.heap[w.heap.size + 1 + 1]? = wr.heap[w.heap.size + 1 + 1]? ∧ Wrote b w w1 ∧ Rd b t a o ah w1) := by
                obtain ⟨hc, hRd, ha, hia, k1, k2, k3, hy, hf, hwr, hset⟩ := HH.out
                exact ⟨hb1.block _ (Array.getElem?_eq_some_iff.1 k1).1, hb1.block _ (Array.getElem?_eq_some_iff.1 k2).1, hb1.block _ (Array.getElem?_eq_some_iff.1 k3).1, (hwr.drewN _).trans (.of_below hb1), Rd.below (w := wr.drewN (n1 + n2 + n3)) hRd hb1⟩
              have c1 := HH1.out.2.2.2.2.c1
              have fr := HH1.out.2.2.2.2.fr
              have hbr := HH1.out.2.2.2.2.lt
              have y0 : w1.cell? ⟨w.heap.size + 1 + 1, 0, none⟩ = some (.int .u64 (y.a : Int)) := by simp only [World.cell?, HH1.out.2.2.1, HH.out.2.2.2.2.2.2.1]; rfl
              have y1 : w1.cell? ⟨w.heap.size + 1 + 1, 1, none⟩ = some (.int .u64 (y.b : Int)) := by simp only [World.cell?, HH1.out.2.2.1, HH.out.2.2.2.2.2.2.1]; rfl
              have y2 : w1.cell? ⟨w.heap.size + 1 + 1, 2, none⟩ = some (.int .u64 (y.c : Int)) := by simp only [World.cell?, HH1.out.2.2.1, HH.out.2.2.2.2.2.2.1]; rfl
              have y3 : w1.cell? ⟨w.heap.size + 1 + 1, 3, none⟩ = some (.int .u64 (y.d : Int)) := by simp only [World.cell?, HH1.out.2.2.1, HH.out.2.2.2.2.2.2.1]; rfl
              have yf : ∀ j, w1.frozen? ⟨w.heap.size + 1 + 1, j, none⟩ = false := fun j => by simp [World.frozen?, HH1.out.2.2.1, HH.out.2.2.2.2.2.2.1]
              clear hb1 s0 s1 s2 s3 s4 s5 s6 sf t0 t1 tf
              obtain ⟨z, hz⟩ : ∃ z, z = y.addN lo.toNat (hi'.toNat + 1 - lo.toNat) := ⟨_, rfl⟩
              have HZ : Hid (z = y.addN lo.toNat (hi'.toNat + 1 - lo.toNat)) := hz
              rw [← hz]
              clear hz
              unfold setV
              have hsz2 : sz ≤ 1000000 := by have := HSH.out.2.2; rw [List.length_drop, bl_length] at this; omega
              go_wp2_with fail
              go_roundw
              case rel =>
                obtain ⟨hc, hRd, ha, hia, k1, k2, k3, hy, hf, hwr, hset⟩ := HH.out
                obtain ⟨m1, m2, m3⟩ := HSH.out
                rw [if_neg hlh] at m1
                have m4 : sz ≤ t.size - a := by rw [List.length_drop, bl_length] at m3; omega
                have hz := HZ.out
                have d1 := HH1.out.2.2.2.2
                have e1 : (w1.heap[w.heap.size + 1 + 1]? = some (.cells (cellsW y) 143 (0, 0))) := HH1.out.2.2.1.trans k3
                have e2 := setW (y := z) e1
                have oS : Only (w.heap.size + 1 + 1) w1 ((((w1.setCell ⟨w.heap.size + 1 + 1, 0, none⟩ (.int .u64 (z.a : Int))).setCell ⟨w.heap.size + 1 + 1, 1, none⟩ (.int .u64 (z.b : Int))).setCell ⟨w.heap.size + 1 + 1, 2, none⟩ (.int .u64 (z.c : Int))).setCell ⟨w.heap.size + 1 + 1, 3, none⟩ (.int .u64 (z.d : Int))) := ((((Only.set _ _ _ _).trans (Only.set _ _ _ _)).trans (Only.set _ _ _ _)).trans (Only.set _ _ _ _))
                have wS : Wrote b w ((((w1.setCell ⟨w.heap.size + 1 + 1, 0, none⟩ (.int .u64 (z.a : Int))).setCell ⟨w.heap.size + 1 + 1, 1, none⟩ (.int .u64 (z.b : Int))).setCell ⟨w.heap.size + 1 + 1, 2, none⟩ (.int .u64 (z.c : Int))).setCell ⟨w.heap.size + 1 + 1, 3, none⟩ (.int .u64 (z.d : Int))) := by
                  have v := HH1.out.2.2.2.1
                  exact ⟨oS.os.trans v.os, oS.tape.trans v.tape, oS.output.trans v.output, by rw [oS.size]; exact v.size, fun j hj hb' => (oS.block j (by omega)).trans (v.block j hj hb')⟩
                refine ⟨a + sz, z, range f lo hi', Rd.set1 (i := a) ((oS.block b b2).trans d1) (a + sz), by omega, by omega, ?_, ?_, ?_, by rw [hz]; exact W4.addN_ok hy _ _, by rw [hz, addN_range y lo hi' hlh, hf], wS.set _, ?_⟩
                · exact ((Below.heap_setCell _ _ _ _ (Ne.symm b0)).trans (oS.block _ (by omega))).trans (HH1.out.1.trans k1)
                · exact ((Below.heap_setCell _ _ _ _ (Ne.symm b1)).trans (oS.block _ (by omega))).trans (HH1.out.2.1.trans k2)
                · exact (Below.heap_setCell _ _ _ _ (Ne.symm b2)).trans e2
                · rw [← hset, m1, List.drop_drop]
                  congr 1
                  simp; omega
              case measure =>
                rw [HH.out.2.1.at]
                have m3 := HSH.out.2
                have q : atOf b (((((w1.setCell ⟨w.heap.size + 1 + 1, 0, none⟩ (.int .u64 (z.a : Int))).setCell ⟨w.heap.size + 1 + 1, 1, none⟩ (.int .u64 (z.b : Int))).setCell ⟨w.heap.size + 1 + 1, 2, none⟩ (.int .u64 (z.c : Int))).setCell ⟨w.heap.size + 1 + 1, 3, none⟩ (.int .u64 (z.d : Int))).setCell ⟨b, 1, none⟩ (.int .i64 ((a : Int) + (sz : Int)))) = a + sz := by
                  have oS : Only (w.heap.size + 1 + 1) w1 ((((w1.setCell ⟨w.heap.size + 1 + 1, 0, none⟩ (.int .u64 (z.a : Int))).setCell ⟨w.heap.size + 1 + 1, 1, none⟩ (.int .u64 (z.b : Int))).setCell ⟨w.heap.size + 1 + 1, 2, none⟩ (.int .u64 (z.c : Int))).setCell ⟨w.heap.size + 1 + 1, 3, none⟩ (.int .u64 (z.d : Int))) := ((((Only.set _ _ _ _).trans (Only.set _ _ _ _)).trans (Only.set _ _ _ _)).trans (Only.set _ _ _ _))
                  exact (Rd.set1 (i := a) ((oS.block b b2).trans HH1.out.2.2.2.2) (a + sz)).at
                rw [q]
                omega
          · have hc2 : ¬ t[a].toNat = 93 := by rw [← hc, ← u8_lit _ 93 (by omega)]; exact hc93
            have hc3 : ((t[a].toNat : Int) == 93) = false := by simp; omega
            clear hc h93 hc93 hnot
            go_wp2_with fail
            go_quiet (fail)
            obtain ⟨n1, hn1⟩ : ∃ n, n = nq := ⟨_, rfl⟩
            rw [← hn1]
            clear hn1 nq
            go_wp2_with fail
            go_quiet (fail)
            obtain ⟨n2, hn2⟩ : ∃ n, n = nq := ⟨_, rfl⟩
            rw [← hn2]
            clear hn2 nq
            go_wp2_with fail
            by_cases hlh : hi' < lo
            · have hl4 : (hi'.toNat : Int) < (lo.toNat : Int) := by rw [UInt8.lt_iff_toNat_lt] at hlh; omega
              go_quiet (first | (go_at_call 185; refine quiet_at (HMem.out _)))
              obtain ⟨n3, hn3⟩ : ∃ n, n = nq := ⟨_, rfl⟩
              rw [← hn3]
              clear hn3 nq
              go_wp2_with fail
              go_region_with (fail)
              all_goals
                go_wp2_with fail
                obtain ⟨w9, e9, r0, r1, r2, r3, r4, r5, r6, q0, q1, h9, hO⟩ := out_cells (w1 := wr.drewN (n1 + n2 + n3 + 1)) (B := w.heap.size) (HH.out.2.2.2.2.1) (HH.out.2.2.2.2.2.1) SV.zero (3) (a + 1)
                have hwp : IntKind.i64.wrap ((a : Int) + 1) = ((a + 1 : Nat) : Int) := by (simp [IntKind.wrap, IntKind.bits, IntKind.signed]; omega)
                rw [hwp]
                have e8 : ((((((((((wr.drewN (n1 + n2 + n3 + 1)).setCell ⟨w.heap.size, 0, none⟩ (.int .i64 0)).setCell ⟨w.heap.size, 1, none⟩ (.int .u64 0)).setCell ⟨w.heap.size, 2, none⟩ (.int .u64 0)).setCell ⟨w.heap.size, 3, none⟩ (.int .u64 0)).setCell ⟨w.heap.size, 4, none⟩ (.int .u64 0)).setCell ⟨w.heap.size, 5, none⟩ (.int .i64 0)).setCell ⟨w.heap.size, 6, none⟩ (.int .i64 0)).setCell ⟨w.heap.size + 1, 0, none⟩ (.int .i64 3)).setCell ⟨w.heap.size + 1, 1, none⟩ (.int .i64 ((a + 1 : Nat) : Int))) = w9 := e9.symm
                rw [e8]
                clear e8 e9
                refine bodyPost_ret (by simp [results, Tryz.results170, go_sem, r0, r1, r2, r3, r4, r5, r6, q0, q1]; try rfl) rfl ?_
                obtain ⟨hc, hRd, ha, hia, _, _, _, hy, hf, hwr, hset⟩ := HH.out
                obtain ⟨m1, m2, m3⟩ := HSH.out
                rw [if_pos hlh] at m1
                rw [m1] at hset
                refine ⟨out_wrote (hwr.drewN _) (Nat.le_refl _) h9 hO, ?_⟩
                rw [← HR.out, ← hset]
                refine ⟨SV.zero, a, ?_, (hO b b0 b1).trans hRd⟩
                rw [List.length_drop, bl_length, show t.size - (t.size - (a + 1)) = a + 1 by omega]
                rfl
            · have hl4 : ¬ (hi'.toNat : Int) < (lo.toNat : Int) := by rw [UInt8.lt_iff_toNat_lt] at hlh; omega
              have HWith : Hid (∀ W, Calls Tryz.prog 171 #[setV y, .int .u8 (lo.toNat : Int), .int .u8 (hi'.toNat : Int)] W fun e w' => e = .returned (setV (y.addN lo.toNat (hi'.toNat + 1 - lo.toNat))) ∧ Below W.heap.size W w') := fun W => with_any y HH.out.2.2.2.2.2.2.2.1 lo hi' W
              go_quiet (first | (go_at_call 185; refine quiet_at (HMem.out _)))
              obtain ⟨n3, hn3⟩ : ∃ n, n = nq := ⟨_, rfl⟩
              rw [← hn3]
              clear hn3 nq
              go_wp2_with fail
              refine (HWith.out (wr.drewN (n1 + n2 + n3))).mono ?_
              rintro e w1 ⟨rfl, hb1⟩
              have HH1 : Hid (w1.heap[w.heap.size]? = wr.heap[w.heap.size]? ∧ w1.heap[w.heap.size + 1]? = wr.heap[w.heap.size + 1]? ∧ w1.heap[w.heap.size + 1 + 1]? = wr.heap[w.heap.size + 1 + 1]? ∧ Wrote b w w1 ∧ Rd b t a o ah w1) := by
                obtain ⟨hc, hRd, ha, hia, k1, k2, k3, hy, hf, hwr, hset⟩ := HH.out
                exact ⟨hb1.block _ (Array.getElem?_eq_some_iff.1 k1).1, hb1.block _ (Array.getElem?_eq_some_iff.1 k2).1, hb1.block _ (Array.getElem?_eq_some_iff.1 k3).1, (hwr.drewN _).trans (.of_below hb1), Rd.below (w := wr.drewN (n1 + n2 + n3)) hRd hb1⟩
              have c1 := HH1.out.2.2.2.2.c1
              have fr := HH1.out.2.2.2.2.fr
              have hbr := HH1.out.2.2.2.2.lt
              have y0 : w1.cell? ⟨w.heap.size + 1 + 1, 0, none⟩ = some (.int .u64 (y.a : Int)) := by simp only [World.cell?, HH1.out.2.2.1, HH.out.2.2.2.2.2.2.1]; rfl
              have y1 : w1.cell? ⟨w.heap.size + 1 + 1, 1, none⟩ = some (.int .u64 (y.b : Int)) := by simp only [World.cell?, HH1.out.2.2.1, HH.out.2.2.2.2.2.2.1]; rfl
              have y2 : w1.cell? ⟨w.heap.size + 1 + 1, 2, none⟩ = some (.int .u64 (y.c : Int)) := by simp only [World.cell?, HH1.out.2.2.1, HH.out.2.2.2.2.2.2.1]; rfl
              have y3 : w1.cell? ⟨w.heap.size + 1 + 1, 3, none⟩ = some (.int .u64 (y.d : Int)) := by simp only [World.cell?, HH1.out.2.2.1, HH.out.2.2.2.2.2.2.1]; rfl
              have yf : ∀ j, w1.frozen? ⟨w.heap.size + 1 + 1, j, none⟩ = false := fun j => by simp [World.frozen?, HH1.out.2.2.1, HH.out.2.2.2.2.2.2.1]
              clear hb1 s0 s1 s2 s3 s4 s5 s6 sf t0 t1 tf
              obtain ⟨z, hz⟩ : ∃ z, z = y.addN lo.toNat (hi'.toNat + 1 - lo.toNat) := ⟨_, rfl⟩
              have HZ : Hid (z = y.addN lo.toNat (hi'.toNat + 1 - lo.toNat)) := hz
              rw [← hz]
              clear hz
              unfold setV
              have hsz2 : sz ≤ 1000000 := by have := HSH.out.2.2; rw [List.length_drop, bl_length] at this; omega
              go_wp2_with fail
              go_roundw
              case rel =>
                obtain ⟨hc, hRd, ha, hia, k1, k2, k3, hy, hf, hwr, hset⟩ := HH.out
                obtain ⟨m1, m2, m3⟩ := HSH.out
                rw [if_neg hlh] at m1
                have m4 : sz ≤ t.size - a := by rw [List.length_drop, bl_length] at m3; omega
                have hz := HZ.out
                have d1 := HH1.out.2.2.2.2
                have e1 : (w1.heap[w.heap.size + 1 + 1]? = some (.cells (cellsW y) 143 (0, 0))) := HH1.out.2.2.1.trans k3
                have e2 := setW (y := z) e1
                have oS : Only (w.heap.size + 1 + 1) w1 ((((w1.setCell ⟨w.heap.size + 1 + 1, 0, none⟩ (.int .u64 (z.a : Int))).setCell ⟨w.heap.size + 1 + 1, 1, none⟩ (.int .u64 (z.b : Int))).setCell ⟨w.heap.size + 1 + 1, 2, none⟩ (.int .u64 (z.c : Int))).setCell ⟨w.heap.size + 1 + 1, 3, none⟩ (.int .u64 (z.d : Int))) := ((((Only.set _ _ _ _).trans (Only.set _ _ _ _)).trans (Only.set _ _ _ _)).trans (Only.set _ _ _ _))
                have wS : Wrote b w ((((w1.setCell ⟨w.heap.size + 1 + 1, 0, none⟩ (.int .u64 (z.a : Int))).setCell ⟨w.heap.size + 1 + 1, 1, none⟩ (.int .u64 (z.b : Int))).setCell ⟨w.heap.size + 1 + 1, 2, none⟩ (.int .u64 (z.c : Int))).setCell ⟨w.heap.size + 1 + 1, 3, none⟩ (.int .u64 (z.d : Int))) := by
                  have v := HH1.out.2.2.2.1
                  exact ⟨oS.os.trans v.os, oS.tape.trans v.tape, oS.output.trans v.output, by rw [oS.size]; exact v.size, fun j hj hb' => (oS.block j (by omega)).trans (v.block j hj hb')⟩
                refine ⟨a + sz, z, range f lo hi', Rd.set1 (i := a) ((oS.block b b2).trans d1) (a + sz), by omega, by omega, ?_, ?_, ?_, by rw [hz]; exact W4.addN_ok hy _ _, by rw [hz, addN_range y lo hi' hlh, hf], wS.set _, ?_⟩
                · exact ((Below.heap_setCell _ _ _ _ (Ne.symm b0)).trans (oS.block _ (by omega))).trans (HH1.out.1.trans k1)
                · exact ((Below.heap_setCell _ _ _ _ (Ne.symm b1)).trans (oS.block _ (by omega))).trans (HH1.out.2.1.trans k2)
                · exact (Below.heap_setCell _ _ _ _ (Ne.symm b2)).trans e2
                · rw [← hset, m1, List.drop_drop]
                  congr 1
                  simp; omega
              case measure =>
                rw [HH.out.2.1.at]
                have m3 := HSH.out.2
                have q : atOf b (((((w1.setCell ⟨w.heap.size + 1 + 1, 0, none⟩ (.int .u64 (z.a : Int))).setCell ⟨w.heap.size + 1 + 1, 1, none⟩ (.int .u64 (z.b : Int))).setCell ⟨w.heap.size + 1 + 1, 2, none⟩ (.int .u64 (z.c : Int))).setCell ⟨w.heap.size + 1 + 1, 3, none⟩ (.int .u64 (z.d : Int))).setCell ⟨b, 1, none⟩ (.int .i64 ((a : Int) + (sz : Int)))) = a + sz := by
                  have oS : Only (w.heap.size + 1 + 1) w1 ((((w1.setCell ⟨w.heap.size + 1 + 1, 0, none⟩ (.int .u64 (z.a : Int))).setCell ⟨w.heap.size + 1 + 1, 1, none⟩ (.int .u64 (z.b : Int))).setCell ⟨w.heap.size + 1 + 1, 2, none⟩ (.int .u64 (z.c : Int))).setCell ⟨w.heap.size + 1 + 1, 3, none⟩ (.int .u64 (z.d : Int))) := ((((Only.set _ _ _ _).trans (Only.set _ _ _ _)).trans (Only.set _ _ _ _)).trans (Only.set _ _ _ _))
                  exact (Rd.set1 (i := a) ((oS.block b b2).trans HH1.out.2.2.2.2) (a + sz)).at
                rw [q]
                omega
      · have hl2 : ¬ (a : Int) < (t.size : Int) := by omega
        have HH : Hid (Rd b t a o ah wr ∧ a ≤ t.size ∧ i ≤ a ∧ wr.heap[w.heap.size]? = some (.cells #[.int .i64 0, .int .u64 0, .int .u64 0, .int .u64 0, .int .u64 0, .int .i64 0, .int .i64 0] 146 (0, 0)) ∧ wr.heap[w.heap.size + 1]? = some (.cells #[.int .i64 0, .int .i64 0] 28 (0, 0)) ∧ wr.heap[w.heap.size + 1 + 1]? = some (.cells (cellsW y) 143 (0, 0)) ∧ y.Ok ∧ y.has = f ∧ Wrote b w wr ∧ setL ((bl t).drop a) (decide (a = i)) f = setL ((bl t).drop i) true fun _ => false) := ⟨hRd, ha, hia, k1, k2, k3, hy, hf, hwr, hset⟩
        have HM : Hid (∀ W, Rd b t a o ah W → Calls Tryz.prog 115 #[.pointer (some ⟨b, 0, none⟩)] W fun e w' => e = .returned (faultV 4 t.size) ∧ Below W.heap.size W w') := fun W hW => missing_any W hW
        clear hRd ha k1 k2 k3 hy hf hwr hset
        go_wp2_with fail
        go_quiet (fail)
        go_wp2_with fail
        refine (HM.out (wr.drewN nq) HH.out.1).mono ?_
        rintro e w1 ⟨rfl, hb1⟩
        have HH1 : Hid (w1.heap[w.heap.size]? = wr.heap[w.heap.size]? ∧ w1.heap[w.heap.size + 1]? = wr.heap[w.heap.size + 1]? ∧ Wrote b w w1 ∧ Rd b t a o ah w1) := by
          obtain ⟨hRd, ha, hia, k1, k2, k3, hy, hf, hwr, hset⟩ := HH.out
          refine ⟨hb1.block _ (Array.getElem?_eq_some_iff.1 k1).1, hb1.block _ (Array.getElem?_eq_some_iff.1 k2).1, (hwr.drewN _).trans (.of_below hb1), Rd.below (w := wr.drewN nq) hRd hb1⟩
        have s0 : w1.cell? ⟨w.heap.size, 0, none⟩ = some (.int .i64 0) := by simp only [World.cell?, HH1.out.1, HH.out.2.2.2.1]; rfl
        have s1 : w1.cell? ⟨w.heap.size, 1, none⟩ = some (.int .u64 0) := by simp only [World.cell?, HH1.out.1, HH.out.2.2.2.1]; rfl
        have s2 : w1.cell? ⟨w.heap.size, 2, none⟩ = some (.int .u64 0) := by simp only [World.cell?, HH1.out.1, HH.out.2.2.2.1]; rfl
        have s3 : w1.cell? ⟨w.heap.size, 3, none⟩ = some (.int .u64 0) := by simp only [World.cell?, HH1.out.1, HH.out.2.2.2.1]; rfl
        have s4 : w1.cell? ⟨w.heap.size, 4, none⟩ = some (.int .u64 0) := by simp only [World.cell?, HH1.out.1, HH.out.2.2.2.1]; rfl
        have s5 : w1.cell? ⟨w.heap.size, 5, none⟩ = some (.int .i64 0) := by simp only [World.cell?, HH1.out.1, HH.out.2.2.2.1]; rfl
        have s6 : w1.cell? ⟨w.heap.size, 6, none⟩ = some (.int .i64 0) := by simp only [World.cell?, HH1.out.1, HH.out.2.2.2.1]; rfl
        have sf : ∀ j, w1.frozen? ⟨w.heap.size, j, none⟩ = false := fun j => by simp [World.frozen?, HH1.out.1, HH.out.2.2.2.1]
        have t0 : w1.cell? ⟨w.heap.size + 1, 0, none⟩ = some (.int .i64 0) := by simp only [World.cell?, HH1.out.2.1, HH.out.2.2.2.2.1]; rfl
        have t1 : w1.cell? ⟨w.heap.size + 1, 1, none⟩ = some (.int .i64 0) := by simp only [World.cell?, HH1.out.2.1, HH.out.2.2.2.2.1]; rfl
        have tf : ∀ j, w1.frozen? ⟨w.heap.size + 1, j, none⟩ = false := fun j => by simp [World.frozen?, HH1.out.2.1, HH.out.2.2.2.2.1]
        have hb1 : Hid (Below (wr.drewN nq).heap.size (wr.drewN nq) w1) := hb1
        unfold faultV
        go_wp2_with fail
        obtain ⟨w9, e9, r0, r1, r2, r3, r4, r5, r6, q0, q1, h9, hO⟩ := out_cells (w1 := w1) (B := w.heap.size) (HH1.out.1.trans HH.out.2.2.2.1) (HH1.out.2.1.trans HH.out.2.2.2.2.1) SV.zero (4) (t.size)
        have e8 : ((((((((((w1).setCell ⟨w.heap.size, 0, none⟩ (.int .i64 0)).setCell ⟨w.heap.size, 1, none⟩ (.int .u64 0)).setCell ⟨w.heap.size, 2, none⟩ (.int .u64 0)).setCell ⟨w.heap.size, 3, none⟩ (.int .u64 0)).setCell ⟨w.heap.size, 4, none⟩ (.int .u64 0)).setCell ⟨w.heap.size, 5, none⟩ (.int .i64 0)).setCell ⟨w.heap.size, 6, none⟩ (.int .i64 0)).setCell ⟨w.heap.size + 1, 0, none⟩ (.int .i64 4)).setCell ⟨w.heap.size + 1, 1, none⟩ (.int .i64 (t.size : Int))) = w9 := e9.symm
        rw [e8]
        clear e8 e9
        refine bodyPost_ret (by simp [results, Tryz.results170, go_sem, r0, r1, r2, r3, r4, r5, r6, q0, q1]; try rfl) rfl ?_
        obtain ⟨hRd, ha, hia, _, _, _, hy, hf, hwr, hset⟩ := HH.out
        have hat : a = t.size := by omega
        rw [hat, drop_all, setL_nil] at hset
        refine ⟨out_wrote HH1.out.2.2.1 (Nat.le_refl _) h9 hO, ?_⟩
        rw [← HR.out, ← hset]
        exact ⟨SV.zero, a, rfl, (hO b b0 b1).trans HH1.out.2.2.2⟩
  | true =>
    rw [hp] at HP
    have hlt0 : i < t.size := by
      rcases Nat.lt_or_ge i t.size with h | h
      · exact h
      · rw [List.drop_of_length_le (by rw [bl_length]; exact h)] at hp; cases hp
    have HR : Hid (setRes true (setL ((bl t).drop (i + 1)) true fun _ => false) = R) := by
      have hd := drop_ba t i hlt0
      rw [hd] at hp
      have h94 : t[i] = 94 := by simpa using hp
      rw [hd, h94] at hR
      rw [← set_not]; exact hR
    clear hp hR
    obtain ⟨W0, hW, hB, hS, k1, k2, k3⟩ := three w (.cells #[.int .i64 0, .int .u64 0, .int .u64 0, .int .u64 0, .int .u64 0, .int .i64 0, .int .i64 0] 146) (.cells #[.int .i64 0, .int .i64 0] 28) (.cells #[.int .u64 0, .int .u64 0, .int .u64 0, .int .u64 0] 143)
    have h0 := h.below hB
    have c0 := h0.c0
    have c1 := h0.c1
    have f1 := h0.fr 1
    have HW : Hid (Below w.heap.size w W0 ∧ W0.heap.size = w.heap.size + 3 ∧ W0.heap[w.heap.size]? = _ ∧ W0.heap[w.heap.size + 1]? = _ ∧ W0.heap[w.heap.size + 1 + 1]? = _ ∧ Rd b t i o ah W0) := ⟨hB, hS, k1, k2, k3, h0⟩
    clear h h0 hB hS k1 k2 k3
    go_enter Tryz.func170, Tryz.ntmps170
    go_wp2_with fail
    rw [← hW]
    clear hW
    go_quiet (first | (go_at_call 14; refine Calls.quiet_of_same (HP.out _)))
    go_wp2_with fail
    obtain ⟨i1, hi1⟩ : ∃ i1, i1 = i + 1 := ⟨_, rfl⟩
    have e1 : ((i : Int) + 1) = (i1 : Int) := by omega
    have HI : Hid (i1 = i + 1) := hi1
    rw [← hi1] at HR
    rw [e1]
    clear e1 hi1
    go_loopw [] (fun wr => ∃ a y f, Rd b t a o ah wr ∧ a ≤ t.size ∧ i1 ≤ a ∧ wr.heap[w.heap.size]? = some (.cells #[.int .i64 0, .int .u64 0, .int .u64 0, .int .u64 0, .int .u64 0, .int .i64 0, .int .i64 0] 146 (0, 0)) ∧ wr.heap[w.heap.size + 1]? = some (.cells #[.int .i64 0, .int .i64 0] 28 (0, 0)) ∧ wr.heap[w.heap.size + 1 + 1]? = some (.cells (cellsW y) 143 (0, 0)) ∧ y.Ok ∧ y.has = f ∧ Wrote b w wr ∧ setL ((bl t).drop a) (decide (a = i1)) f = setL ((bl t).drop i1) true fun _ => false) (fun wr => t.size - atOf b wr)
    case atStart =>
      obtain ⟨g1, g2, g3, g4, g5, g6⟩ := HW.out
      have hI := HI.out
      refine ⟨i1, W4.zero, fun _ => false, ?_, by omega, Nat.le_refl _, (Below.heap_setCell _ _ _ _ (by show w.heap.size ≠ b; omega)).trans g3, (Below.heap_setCell _ _ _ _ (by show w.heap.size + 1 ≠ b; omega)).trans g4, (Below.heap_setCell _ _ _ _ (by show w.heap.size + 1 + 1 ≠ b; omega)).trans g5, W4.zero_ok, by funext c; exact W4.zero_has c, ((Wrote.of_below g1).drewN _).set _, by simp⟩
      exact Rd.set1 (w := W0.drewN nq) g6 i1
    case round =>
      obtain ⟨a, y, f, hRd, ha, hia, k1, k2, k3, hy, hf, hwr, hset⟩ := hrel
      have HOth : Hid (∀ W, Calls Tryz.prog 169 #[setV y] W fun e w' => e = .returned (setV y.not) ∧ Below W.heap.size W w') := fun W => others_any y hy W
      have c0 := hRd.c0
      have c1 := hRd.c1
      have fr := hRd.fr
      have hbr := hRd.lt
      have b0 : ¬ b = w.heap.size := by omega
      have b1 : ¬ b = w.heap.size + 1 := by omega
      have b2 : ¬ b = w.heap.size + 1 + 1 := by omega
      have y0 : wr.cell? ⟨w.heap.size + 1 + 1, 0, none⟩ = some (.int .u64 (y.a : Int)) := by simp only [World.cell?, k3]; rfl
      have y1 : wr.cell? ⟨w.heap.size + 1 + 1, 1, none⟩ = some (.int .u64 (y.b : Int)) := by simp only [World.cell?, k3]; rfl
      have y2 : wr.cell? ⟨w.heap.size + 1 + 1, 2, none⟩ = some (.int .u64 (y.c : Int)) := by simp only [World.cell?, k3]; rfl
      have y3 : wr.cell? ⟨w.heap.size + 1 + 1, 3, none⟩ = some (.int .u64 (y.d : Int)) := by simp only [World.cell?, k3]; rfl
      have yf : ∀ j, wr.frozen? ⟨w.heap.size + 1 + 1, j, none⟩ = false := fun j => by simp [World.frozen?, k3]
      have s0 : wr.cell? ⟨w.heap.size, 0, none⟩ = some (.int .i64 0) := by simp only [World.cell?, k1]; rfl
      have s1 : wr.cell? ⟨w.heap.size, 1, none⟩ = some (.int .u64 0) := by simp only [World.cell?, k1]; rfl
      have s2 : wr.cell? ⟨w.heap.size, 2, none⟩ = some (.int .u64 0) := by simp only [World.cell?, k1]; rfl
      have s3 : wr.cell? ⟨w.heap.size, 3, none⟩ = some (.int .u64 0) := by simp only [World.cell?, k1]; rfl
      have s4 : wr.cell? ⟨w.heap.size, 4, none⟩ = some (.int .u64 0) := by simp only [World.cell?, k1]; rfl
      have s5 : wr.cell? ⟨w.heap.size, 5, none⟩ = some (.int .i64 0) := by simp only [World.cell?, k1]; rfl
      have s6 : wr.cell? ⟨w.heap.size, 6, none⟩ = some (.int .i64 0) := by simp only [World.cell?, k1]; rfl
      have sf : ∀ j, wr.frozen? ⟨w.heap.size, j, none⟩ = false := fun j => by simp [World.frozen?, k1]
      have t0 : wr.cell? ⟨w.heap.size + 1, 0, none⟩ = some (.int .i64 0) := by simp only [World.cell?, k2]; rfl
      have t1 : wr.cell? ⟨w.heap.size + 1, 1, none⟩ = some (.int .i64 0) := by simp only [World.cell?, k2]; rfl
      have tf : ∀ j, wr.frozen? ⟨w.heap.size + 1, j, none⟩ = false := fun j => by simp [World.frozen?, k2]
      by_cases hlt : a < t.size
      · have hl2 : (a : Int) < (t.size : Int) := by omega
        obtain ⟨c, hc⟩ : ∃ c, c = t[a] := ⟨_, rfl⟩
        have hd := drop_ba t a hlt
        rw [← hc] at hd
        have HH : Hid (c = t[a] ∧ Rd b t a o ah wr ∧ a ≤ t.size ∧ i1 ≤ a ∧ wr.heap[w.heap.size]? = some (.cells #[.int .i64 0, .int .u64 0, .int .u64 0, .int .u64 0, .int .u64 0, .int .i64 0, .int .i64 0] 146 (0, 0)) ∧ wr.heap[w.heap.size + 1]? = some (.cells #[.int .i64 0, .int .i64 0] 28 (0, 0)) ∧ wr.heap[w.heap.size + 1 + 1]? = some (.cells (cellsW y) 143 (0, 0)) ∧ y.Ok ∧ y.has = f ∧ Wrote b w wr ∧ setL ((bl t).drop a) (decide (a = i1)) f = setL ((bl t).drop i1) true fun _ => false) := ⟨hc, hRd, ha, hia, k1, k2, k3, hy, hf, hwr, hset⟩
        by_cases h93 : c = 93 ∧ i1 < a
        · have hc2 : t[a].toNat = 93 := by rw [← hc, h93.1]; rfl
          have hia2 : (i1 : Int) < (a : Int) := by omega
          clear hRd ha k1 k2 k3 hy hf hwr hset hc hd
          go_wp2_with fail
          go_quiet (fail)
          obtain ⟨nq0, hn0⟩ : ∃ n, n = nq := ⟨_, rfl⟩
          rw [← hn0]
          clear hn0 nq
          go_wp2_with fail
          go_quiet (fail)
          go_wp2_with fail
          refine (HOth.out ((wr.drewN (nq0 + nq)).setCell ⟨b, 1, none⟩ (.int .i64 ((a : Int) + 1)))).mono ?_
          rintro e w1 ⟨rfl, hb1⟩
          have HH1 : Hid (w1.heap[w.heap.size]? = wr.heap[w.heap.size]? ∧ w1.heap[w.heap.size + 1]? = wr.heap[w.heap.size + 1]? ∧ w1.heap[w.heap.size + 1 + 1]? = wr.heap[w.heap.size + 1 + 1]? ∧ Wrote b w w1 ∧ Rd b t (a + 1) o ah w1) := by
            obtain ⟨hc, hRd, ha, hia, k1, k2, k3, hy, hf, hwr, hset⟩ := HH.out
            have u : ∀ j, j ≠ b → j < wr.heap.size → w1.heap[j]? = wr.heap[j]? := fun j hj hl => (hb1.block j (by rw [size_set]; exact hl)).trans (Below.heap_setCell _ _ _ _ hj)
            exact ⟨u _ (Ne.symm b0) (Array.getElem?_eq_some_iff.1 k1).1, u _ (Ne.symm b1) (Array.getElem?_eq_some_iff.1 k2).1, u _ (Ne.symm b2) (Array.getElem?_eq_some_iff.1 k3).1, ((hwr.drewN _).set _).trans (.of_below hb1), Rd.below (Rd.set1 (w := wr.drewN (nq0 + nq)) hRd (a + 1)) hb1⟩
          have s0 : w1.cell? ⟨w.heap.size, 0, none⟩ = some (.int .i64 0) := by simp only [World.cell?, HH1.out.1, HH.out.2.2.2.2.1]; rfl
          have s1 : w1.cell? ⟨w.heap.size, 1, none⟩ = some (.int .u64 0) := by simp only [World.cell?, HH1.out.1, HH.out.2.2.2.2.1]; rfl
          have s2 : w1.cell? ⟨w.heap.size, 2, none⟩ = some (.int .u64 0) := by simp only [World.cell?, HH1.out.1, HH.out.2.2.2.2.1]; rfl
          have s3 : w1.cell? ⟨w.heap.size, 3, none⟩ = some (.int .u64 0) := by simp only [World.cell?, HH1.out.1, HH.out.2.2.2.2.1]; rfl
          have s4 : w1.cell? ⟨w.heap.size, 4, none⟩ = some (.int .u64 0) := by simp only [World.cell?, HH1.out.1, HH.out.2.2.2.2.1]; rfl
          have s5 : w1.cell? ⟨w.heap.size, 5, none⟩ = some (.int .i64 0) := by simp only [World.cell?, HH1.out.1, HH.out.2.2.2.2.1]; rfl
          have s6 : w1.cell? ⟨w.heap.size, 6, none⟩ = some (.int .i64 0) := by simp only [World.cell?, HH1.out.1, HH.out.2.2.2.2.1]; rfl
          have sf : ∀ j, w1.frozen? ⟨w.heap.size, j, none⟩ = false := fun j => by simp [World.frozen?, HH1.out.1, HH.out.2.2.2.2.1]
          have t0 : w1.cell? ⟨w.heap.size + 1, 0, none⟩ = some (.int .i64 0) := by simp only [World.cell?, HH1.out.2.1, HH.out.2.2.2.2.2.1]; rfl
          have t1 : w1.cell? ⟨w.heap.size + 1, 1, none⟩ = some (.int .i64 0) := by simp only [World.cell?, HH1.out.2.1, HH.out.2.2.2.2.2.1]; rfl
          have tf : ∀ j, w1.frozen? ⟨w.heap.size + 1, j, none⟩ = false := fun j => by simp [World.frozen?, HH1.out.2.1, HH.out.2.2.2.2.2.1]
          have y0 : w1.cell? ⟨w.heap.size + 1 + 1, 0, none⟩ = some (.int .u64 (y.a : Int)) := by simp only [World.cell?, HH1.out.2.2.1, HH.out.2.2.2.2.2.2.1]; rfl
          have y1 : w1.cell? ⟨w.heap.size + 1 + 1, 1, none⟩ = some (.int .u64 (y.b : Int)) := by simp only [World.cell?, HH1.out.2.2.1, HH.out.2.2.2.2.2.2.1]; rfl
          have y2 : w1.cell? ⟨w.heap.size + 1 + 1, 2, none⟩ = some (.int .u64 (y.c : Int)) := by simp only [World.cell?, HH1.out.2.2.1, HH.out.2.2.2.2.2.2.1]; rfl
          have y3 : w1.cell? ⟨w.heap.size + 1 + 1, 3, none⟩ = some (.int .u64 (y.d : Int)) := by simp only [World.cell?, HH1.out.2.2.1, HH.out.2.2.2.2.2.2.1]; rfl
          have yf : ∀ j, w1.frozen? ⟨w.heap.size + 1 + 1, j, none⟩ = false := fun j => by simp [World.frozen?, HH1.out.2.2.1, HH.out.2.2.2.2.2.2.1]
          clear hb1
          unfold setV
          go_wp2_with fail
          have oS : Only (w.heap.size + 1 + 1) w1 ((((w1.setCell ⟨w.heap.size + 1 + 1, 0, none⟩ (.int .u64 (y.not.a : Int))).setCell ⟨w.heap.size + 1 + 1, 1, none⟩ (.int .u64 (y.not.b : Int))).setCell ⟨w.heap.size + 1 + 1, 2, none⟩ (.int .u64 (y.not.c : Int))).setCell ⟨w.heap.size + 1 + 1, 3, none⟩ (.int .u64 (y.not.d : Int))) := ((((Only.set _ _ _ _).trans (Only.set _ _ _ _)).trans (Only.set _ _ _ _)).trans (Only.set _ _ _ _))
          obtain ⟨w9, e9, r0, r1, r2, r3, r4, r5, r6, q0, q1, h9, hO⟩ := out_cells (w1 := (((w1.setCell ⟨w.heap.size + 1 + 1, 0, none⟩ (.int .u64 (y.not.a : Int))).setCell ⟨w.heap.size + 1 + 1, 1, none⟩ (.int .u64 (y.not.b : Int))).setCell ⟨w.heap.size + 1 + 1, 2, none⟩ (.int .u64 (y.not.c : Int))).setCell ⟨w.heap.size + 1 + 1, 3, none⟩ (.int .u64 (y.not.d : Int))) (B := w.heap.size) ((oS.block _ (by omega)).trans (HH1.out.1.trans HH.out.2.2.2.2.1)) ((oS.block _ (by omega)).trans (HH1.out.2.1.trans HH.out.2.2.2.2.2.1)) ⟨0, y.not, 0, 0⟩ (0) (0)
          have e8 : (((((((((((((w1.setCell ⟨w.heap.size + 1 + 1, 0, none⟩ (.int .u64 (y.not.a : Int))).setCell ⟨w.heap.size + 1 + 1, 1, none⟩ (.int .u64 (y.not.b : Int))).setCell ⟨w.heap.size + 1 + 1, 2, none⟩ (.int .u64 (y.not.c : Int))).setCell ⟨w.heap.size + 1 + 1, 3, none⟩ (.int .u64 (y.not.d : Int))).setCell ⟨w.heap.size, 0, none⟩ (.int .i64 0)).setCell ⟨w.heap.size, 1, none⟩ (.int .u64 (y.not.a : Int))).setCell ⟨w.heap.size, 2, none⟩ (.int .u64 (y.not.b : Int))).setCell ⟨w.heap.size, 3, none⟩ (.int .u64 (y.not.c : Int))).setCell ⟨w.heap.size, 4, none⟩ (.int .u64 (y.not.d : Int))).setCell ⟨w.heap.size, 5, none⟩ (.int .i64 0)).setCell ⟨w.heap.size, 6, none⟩ (.int .i64 0)).setCell ⟨w.heap.size + 1, 0, none⟩ (.int .i64 0)).setCell ⟨w.heap.size + 1, 1, none⟩ (.int .i64 0)) = w9 := e9.symm
          rw [e8]
          clear e8 e9
          refine bodyPost_ret (by simp [results, Tryz.results170, go_sem, r0, r1, r2, r3, r4, r5, r6, q0, q1]; try rfl) rfl ?_
          obtain ⟨hc, hRd, ha, hia, _, _, _, hy, hf, hwr, hset⟩ := HH.out
          have hd := drop_ba t a hlt
          rw [hd, ← hc, setL_stop ⟨h93.1, by simp; omega⟩] at hset
          have v := HH1.out.2.2.2.1
          have wS : Wrote b w ((((w1.setCell ⟨w.heap.size + 1 + 1, 0, none⟩ (.int .u64 (y.not.a : Int))).setCell ⟨w.heap.size + 1 + 1, 1, none⟩ (.int .u64 (y.not.b : Int))).setCell ⟨w.heap.size + 1 + 1, 2, none⟩ (.int .u64 (y.not.c : Int))).setCell ⟨w.heap.size + 1 + 1, 3, none⟩ (.int .u64 (y.not.d : Int))) := ⟨oS.os.trans v.os, oS.tape.trans v.tape, oS.output.trans v.output, by rw [oS.size]; exact v.size, fun j hj hb' => (oS.block j (by omega)).trans (v.block j hj hb')⟩
          refine ⟨out_wrote wS (Nat.le_refl _) h9 hO, ?_⟩
          rw [← HR.out, ← hset]
          refine ⟨⟨0, y.not, 0, 0⟩, ⟨W4.not_ok y, by simp, by simp, by simp⟩, ?_, rfl, a + 1, ?_, by omega, rfl⟩
          · simp only [SV.abs]
            congr 1
            funext c
            rw [W4.not_has y hy, hf]
            simp
          · exact (hO b b0 b1).trans ((oS.block b b2).trans HH1.out.2.2.2.2)
        · have hE : t.extract a t.size = t.extract a t.size := rfl
          have hnot : ¬ (c = 93 ∧ decide (a = i1) = false) := by
            rintro ⟨e, hd'⟩
            simp at hd'
            exact h93 ⟨e, by omega⟩
          have HS := setL_mem c ((bl t).drop (a + 1)) (decide (a = i1)) f hnot
          rw [← hd] at HS
          obtain ⟨lo, hlo⟩ : ∃ lo, lo = (mem ((bl t).drop a)).1 := ⟨_, rfl⟩
          obtain ⟨hi', hhi⟩ : ∃ lo, lo = (mem ((bl t).drop a)).2.1 := ⟨_, rfl⟩
          obtain ⟨sz, hsz⟩ : ∃ lo, lo = (mem ((bl t).drop a)).2.2 := ⟨_, rfl⟩
          rw [← hlo, ← hhi, ← hsz] at HS
          have HMem : Hid (∀ W, Calls Tryz.prog 185 #[.string (t.extract a t.size)] W fun e w' => e = .returned (.tuple #[.int .u8 (lo.toNat : Int), .int .u8 (hi'.toNat : Int), .int .i64 (sz : Int)]) ∧ ∃ n, w' = W.drewN n) := fun W => by
            have := member_any (t.extract a t.size) (by simp; omega) (by simp; omega) W
            rw [← drop_get] at this
            unfold memV at this
            rw [← hlo, ← hhi, ← hsz] at this
            exact this
          have HSH : Hid (_) := HS
          clear hRd ha k1 k2 k3 hf hwr hset hd HS hlo hhi hsz hE
          by_cases hc93 : c = 93
          · have hc2 : t[a].toNat = 93 := by rw [← hc, hc93]; rfl
            have hia2 : ¬ (i1 : Int) < (a : Int) := fun h => h93 ⟨hc93, by omega⟩
            clear hc h93 hc93 hnot
            go_wp2_with fail
            go_quiet (fail)
            obtain ⟨n1, hn1⟩ : ∃ n, n = nq := ⟨_, rfl⟩
            rw [← hn1]
            clear hn1 nq
            go_wp2_with fail
            go_quiet (fail)
            obtain ⟨n2, hn2⟩ : ∃ n, n = nq := ⟨_, rfl⟩
            rw [← hn2]
            clear hn2 nq
            go_wp2_with fail
            by_cases hlh : hi' < lo
            · have hl4 : (hi'.toNat : Int) < (lo.toNat : Int) := by rw [UInt8.lt_iff_toNat_lt] at hlh; omega
              go_quiet (first | (go_at_call 185; refine quiet_at (HMem.out _)))
              obtain ⟨n3, hn3⟩ : ∃ n, n = nq := ⟨_, rfl⟩
              rw [← hn3]
              clear hn3 nq
              go_wp2_with fail
              go_region_with (fail)
              all_goals
                go_wp2_with fail
                obtain ⟨w9, e9, r0, r1, r2, r3, r4, r5, r6, q0, q1, h9, hO⟩ := out_cells (w1 := wr.drewN (n1 + n2 + n3 + 1)) (B := w.heap.size) (HH.out.2.2.2.2.1) (HH.out.2.2.2.2.2.1) SV.zero (3) (a + 1)
                have hwp : IntKind.i64.wrap ((a : Int) + 1) = ((a + 1 : Nat) : Int) := by (simp [IntKind.wrap, IntKind.bits, IntKind.signed]; omega)
                rw [hwp]
                have e8 : ((((((((((wr.drewN (n1 + n2 + n3 + 1)).setCell ⟨w.heap.size, 0, none⟩ (.int .i64 0)).setCell ⟨w.heap.size, 1, none⟩ (.int .u64 0)).setCell ⟨w.heap.size, 2, none⟩ (.int .u64 0)).setCell ⟨w.heap.size, 3, none⟩ (.int .u64 0)).setCell ⟨w.heap.size, 4, none⟩ (.int .u64 0)).setCell ⟨w.heap.size, 5, none⟩ (.int .i64 0)).setCell ⟨w.heap.size, 6, none⟩ (.int .i64 0)).setCell ⟨w.heap.size + 1, 0, none⟩ (.int .i64 3)).setCell ⟨w.heap.size + 1, 1, none⟩ (.int .i64 ((a + 1 : Nat) : Int))) = w9 := e9.symm
                rw [e8]
                clear e8 e9
                refine bodyPost_ret (by simp [results, Tryz.results170, go_sem, r0, r1, r2, r3, r4, r5, r6, q0, q1]; try rfl) rfl ?_
                obtain ⟨hc, hRd, ha, hia, _, _, _, hy, hf, hwr, hset⟩ := HH.out
                obtain ⟨m1, m2, m3⟩ := HSH.out
                rw [if_pos hlh] at m1
                rw [m1] at hset
                refine ⟨out_wrote (hwr.drewN _) (Nat.le_refl _) h9 hO, ?_⟩
                rw [← HR.out, ← hset]
                refine ⟨SV.zero, a, ?_, (hO b b0 b1).trans hRd⟩
                rw [List.length_drop, bl_length, show t.size - (t.size - (a + 1)) = a + 1 by omega]
                rfl
            · have hl4 : ¬ (hi'.toNat : Int) < (lo.toNat : Int) := by rw [UInt8.lt_iff_toNat_lt] at hlh; omega
              have HWith : Hid (∀ W, Calls Tryz.prog 171 #[setV y, .int .u8 (lo.toNat : Int), .int .u8 (hi'.toNat : Int)] W fun e w' => e = .returned (setV (y.addN lo.toNat (hi'.toNat + 1 - lo.toNat))) ∧ Below W.heap.size W w') := fun W => with_any y HH.out.2.2.2.2.2.2.2.1 lo hi' W
              go_quiet (first | (go_at_call 185; refine quiet_at (HMem.out _)))
              obtain ⟨n3, hn3⟩ : ∃ n, n = nq := ⟨_, rfl⟩
              rw [← hn3]
              clear hn3 nq
              go_wp2_with fail
              refine (HWith.out (wr.drewN (n1 + n2 + n3))).mono ?_
              rintro e w1 ⟨rfl, hb1⟩
              have HH1 : Hid (w1.heap[w.heap.size]? = wr.heap[w.heap.size]? ∧ w1.heap[w.heap.size + 1]? = wr.heap[w.heap.size + 1]? ∧ w1.heap[w.heap.size + 1 + 1]? = wr.heap[w.heap.size + 1 + 1]? ∧ Wrote b w w1 ∧ Rd b t a o ah w1) := by
                obtain ⟨hc, hRd, ha, hia, k1, k2, k3, hy, hf, hwr, hset⟩ := HH.out
                exact ⟨hb1.block _ (Array.getElem?_eq_some_iff.1 k1).1, hb1.block _ (Array.getElem?_eq_some_iff.1 k2).1, hb1.block _ (Array.getElem?_eq_some_iff.1 k3).1, (hwr.drewN _).trans (.of_below hb1), Rd.below (w := wr.drewN (n1 + n2 + n3)) hRd hb1⟩
              have c1 := HH1.out.2.2.2.2.c1
              have fr := HH1.out.2.2.2.2.fr
              have hbr := HH1.out.2.2.2.2.lt
              have y0 : w1.cell? ⟨w.heap.size + 1 + 1, 0, none⟩ = some (.int .u64 (y.a : Int)) := by simp only [World.cell?, HH1.out.2.2.1, HH.out.2.2.2.2.2.2.1]; rfl
              have y1 : w1.cell? ⟨w.heap.size + 1 + 1, 1, none⟩ = some (.int .u64 (y.b : Int)) := by simp only [World.cell?, HH1.out.2.2.1, HH.out.2.2.2.2.2.2.1]; rfl
              have y2 : w1.cell? ⟨w.heap.size + 1 + 1, 2, none⟩ = some (.int .u64 (y.c : Int)) := by simp only [World.cell?, HH1.out.2.2.1, HH.out.2.2.2.2.2.2.1]; rfl
              have y3 : w1.cell? ⟨w.heap.size + 1 + 1, 3, none⟩ = some (.int .u64 (y.d : Int)) := by simp only [World.cell?, HH1.out.2.2.1, HH.out.2.2.2.2.2.2.1]; rfl
              have yf : ∀ j, w1.frozen? ⟨w.heap.size + 1 + 1, j, none⟩ = false := fun j => by simp [World.frozen?, HH1.out.2.2.1, HH.out.2.2.2.2.2.2.1]
              clear hb1 s0 s1 s2 s3 s4 s5 s6 sf t0 t1 tf
              obtain ⟨z, hz⟩ : ∃ z, z = y.addN lo.toNat (hi'.toNat + 1 - lo.toNat) := ⟨_, rfl⟩
              have HZ : Hid (z = y.addN lo.toNat (hi'.toNat + 1 - lo.toNat)) := hz
              rw [← hz]
              clear hz
              unfold setV
              have hsz2 : sz ≤ 1000000 := by have := HSH.out.2.2; rw [List.length_drop, bl_length] at this; omega
              go_wp2_with fail
              go_roundw
              case rel =>
                obtain ⟨hc, hRd, ha, hia, k1, k2, k3, hy, hf, hwr, hset⟩ := HH.out
                obtain ⟨m1, m2, m3⟩ := HSH.out
                rw [if_neg hlh] at m1
                have m4 : sz ≤ t.size - a := by rw [List.length_drop, bl_length] at m3; omega
                have hz := HZ.out
                have d1 := HH1.out.2.2.2.2
                have e1 : (w1.heap[w.heap.size + 1 + 1]? = some (.cells (cellsW y) 143 (0, 0))) := HH1.out.2.2.1.trans k3
                have e2 := setW (y := z) e1
                have oS : Only (w.heap.size + 1 + 1) w1 ((((w1.setCell ⟨w.heap.size + 1 + 1, 0, none⟩ (.int .u64 (z.a : Int))).setCell ⟨w.heap.size + 1 + 1, 1, none⟩ (.int .u64 (z.b : Int))).setCell ⟨w.heap.size + 1 + 1, 2, none⟩ (.int .u64 (z.c : Int))).setCell ⟨w.heap.size + 1 + 1, 3, none⟩ (.int .u64 (z.d : Int))) := ((((Only.set _ _ _ _).trans (Only.set _ _ _ _)).trans (Only.set _ _ _ _)).trans (Only.set _ _ _ _))
                have wS : Wrote b w ((((w1.setCell ⟨w.heap.size + 1 + 1, 0, none⟩ (.int .u64 (z.a : Int))).setCell ⟨w.heap.size + 1 + 1, 1, none⟩ (.int .u64 (z.b : Int))).setCell ⟨w.heap.size + 1 + 1, 2, none⟩ (.int .u64 (z.c : Int))).setCell ⟨w.heap.size + 1 + 1, 3, none⟩ (.int .u64 (z.d : Int))) := by
                  have v := HH1.out.2.2.2.1
                  exact ⟨oS.os.trans v.os, oS.tape.trans v.tape, oS.output.trans v.output, by rw [oS.size]; exact v.size, fun j hj hb' => (oS.block j (by omega)).trans (v.block j hj hb')⟩
                refine ⟨a + sz, z, range f lo hi', Rd.set1 (i := a) ((oS.block b b2).trans d1) (a + sz), by omega, by omega, ?_, ?_, ?_, by rw [hz]; exact W4.addN_ok hy _ _, by rw [hz, addN_range y lo hi' hlh, hf], wS.set _, ?_⟩
                · exact ((Below.heap_setCell _ _ _ _ (Ne.symm b0)).trans (oS.block _ (by omega))).trans (HH1.out.1.trans k1)
                · exact ((Below.heap_setCell _ _ _ _ (Ne.symm b1)).trans (oS.block _ (by omega))).trans (HH1.out.2.1.trans k2)
                · exact (Below.heap_setCell _ _ _ _ (Ne.symm b2)).trans e2
                · rw [← hset, m1, List.drop_drop]
                  congr 1
                  simp; omega
              case measure =>
                rw [HH.out.2.1.at]
                have m3 := HSH.out.2
                have q : atOf b (((((w1.setCell ⟨w.heap.size + 1 + 1, 0, none⟩ (.int .u64 (z.a : Int))).setCell ⟨w.heap.size + 1 + 1, 1, none⟩ (.int .u64 (z.b : Int))).setCell ⟨w.heap.size + 1 + 1, 2, none⟩ (.int .u64 (z.c : Int))).setCell ⟨w.heap.size + 1 + 1, 3, none⟩ (.int .u64 (z.d : Int))).setCell ⟨b, 1, none⟩ (.int .i64 ((a : Int) + (sz : Int)))) = a + sz := by
                  have oS : Only (w.heap.size + 1 + 1) w1 ((((w1.setCell ⟨w.heap.size + 1 + 1, 0, none⟩ (.int .u64 (z.a : Int))).setCell ⟨w.heap.size + 1 + 1, 1, none⟩ (.int .u64 (z.b : Int))).setCell ⟨w.heap.size + 1 + 1, 2, none⟩ (.int .u64 (z.c : Int))).setCell ⟨w.heap.size + 1 + 1, 3, none⟩ (.int .u64 (z.d : Int))) := ((((Only.set _ _ _ _).trans (Only.set _ _ _ _)).trans (Only.set _ _ _ _)).trans (Only.set _ _ _ _))
                  exact (Rd.set1 (i := a) ((oS.block b b2).trans HH1.out.2.2.2.2) (a + sz)).at
                rw [q]
                omega
          · have hc2 : ¬ t[a].toNat = 93 := by rw [← hc, ← u8_lit _ 93 (by omega)]; exact hc93
            have hc3 : ((t[a].toNat : Int) == 93) = false := by simp; omega
            clear hc h93 hc93 hnot
            go_wp2_with fail
            go_quiet (fail)
            obtain ⟨n1, hn1⟩ : ∃ n, n = nq := ⟨_, rfl⟩
            rw [← hn1]
            clear hn1 nq
            go_wp2_with fail
            go_quiet (fail)
            obtain ⟨n2, hn2⟩ : ∃ n, n = nq := ⟨_, rfl⟩
            rw [← hn2]
            clear hn2 nq
            go_wp2_with fail
            by_cases hlh : hi' < lo
            · have hl4 : (hi'.toNat : Int) < (lo.toNat : Int) := by rw [UInt8.lt_iff_toNat_lt] at hlh; omega
              go_quiet (first | (go_at_call 185; refine quiet_at (HMem.out _)))
              obtain ⟨n3, hn3⟩ : ∃ n, n = nq := ⟨_, rfl⟩
              rw [← hn3]
              clear hn3 nq
              go_wp2_with fail
              go_region_with (fail)
              all_goals
                go_wp2_with fail
                obtain ⟨w9, e9, r0, r1, r2, r3, r4, r5, r6, q0, q1, h9, hO⟩ := out_cells (w1 := wr.drewN (n1 + n2 + n3 + 1)) (B := w.heap.size) (HH.out.2.2.2.2.1) (HH.out.2.2.2.2.2.1) SV.zero (3) (a + 1)
                have hwp : IntKind.i64.wrap ((a : Int) + 1) = ((a + 1 : Nat) : Int) := by (simp [IntKind.wrap, IntKind.bits, IntKind.signed]; omega)
                rw [hwp]
                have e8 : ((((((((((wr.drewN (n1 + n2 + n3 + 1)).setCell ⟨w.heap.size, 0, none⟩ (.int .i64 0)).setCell ⟨w.heap.size, 1, none⟩ (.int .u64 0)).setCell ⟨w.heap.size, 2, none⟩ (.int .u64 0)).setCell ⟨w.heap.size, 3, none⟩ (.int .u64 0)).setCell ⟨w.heap.size, 4, none⟩ (.int .u64 0)).setCell ⟨w.heap.size, 5, none⟩ (.int .i64 0)).setCell ⟨w.heap.size, 6, none⟩ (.int .i64 0)).setCell ⟨w.heap.size + 1, 0, none⟩ (.int .i64 3)).setCell ⟨w.heap.size + 1, 1, none⟩ (.int .i64 ((a + 1 : Nat) : Int))) = w9 := e9.symm
                rw [e8]
                clear e8 e9
                refine bodyPost_ret (by simp [results, Tryz.results170, go_sem, r0, r1, r2, r3, r4, r5, r6, q0, q1]; try rfl) rfl ?_
                obtain ⟨hc, hRd, ha, hia, _, _, _, hy, hf, hwr, hset⟩ := HH.out
                obtain ⟨m1, m2, m3⟩ := HSH.out
                rw [if_pos hlh] at m1
                rw [m1] at hset
                refine ⟨out_wrote (hwr.drewN _) (Nat.le_refl _) h9 hO, ?_⟩
                rw [← HR.out, ← hset]
                refine ⟨SV.zero, a, ?_, (hO b b0 b1).trans hRd⟩
                rw [List.length_drop, bl_length, show t.size - (t.size - (a + 1)) = a + 1 by omega]
                rfl
            · have hl4 : ¬ (hi'.toNat : Int) < (lo.toNat : Int) := by rw [UInt8.lt_iff_toNat_lt] at hlh; omega
              have HWith : Hid (∀ W, Calls Tryz.prog 171 #[setV y, .int .u8 (lo.toNat : Int), .int .u8 (hi'.toNat : Int)] W fun e w' => e = .returned (setV (y.addN lo.toNat (hi'.toNat + 1 - lo.toNat))) ∧ Below W.heap.size W w') := fun W => with_any y HH.out.2.2.2.2.2.2.2.1 lo hi' W
              go_quiet (first | (go_at_call 185; refine quiet_at (HMem.out _)))
              obtain ⟨n3, hn3⟩ : ∃ n, n = nq := ⟨_, rfl⟩
              rw [← hn3]
              clear hn3 nq
              go_wp2_with fail
              refine (HWith.out (wr.drewN (n1 + n2 + n3))).mono ?_
              rintro e w1 ⟨rfl, hb1⟩
              have HH1 : Hid (w1.heap[w.heap.size]? = wr.heap[w.heap.size]? ∧ w1.heap[w.heap.size + 1]? = wr.heap[w.heap.size + 1]? ∧ w1.heap[w.heap.size + 1 + 1]? = wr.heap[w.heap.size + 1 + 1]? ∧ Wrote b w w1 ∧ Rd b t a o ah w1) := by
                obtain ⟨hc, hRd, ha, hia, k1, k2, k3, hy, hf, hwr, hset⟩ := HH.out
                exact ⟨hb1.block _ (Array.getElem?_eq_some_iff.1 k1).1, hb1.block _ (Array.getElem?_eq_some_iff.1 k2).1, hb1.block _ (Array.getElem?_eq_some_iff.1 k3).1, (hwr.drewN _).trans (.of_below hb1), Rd.below (w := wr.drewN (n1 + n2 + n3)) hRd hb1⟩
              have c1 := HH1.out.2.2.2.2.c1
              have fr := HH1.out.2.2.2.2.fr
              have hbr := HH1.out.2.2.2.2.lt
              have y0 : w1.cell? ⟨w.heap.size + 1 + 1, 0, none⟩ = some (.int .u64 (y.a : Int)) := by simp only [World.cell?, HH1.out.2.2.1, HH.out.2.2.2.2.2.2.1]; rfl
              have y1 : w1.cell? ⟨w.heap.size + 1 + 1, 1, none⟩ = some (.int .u64 (y.b : Int)) := by simp only [World.cell?, HH1.out.2.2.1, HH.out.2.2.2.2.2.2.1]; rfl
              have y2 : w1.cell? ⟨w.heap.size + 1 + 1, 2, none⟩ = some (.int .u64 (y.c : Int)) := by simp only [World.cell?, HH1.out.2.2.1, HH.out.2.2.2.2.2.2.1]; rfl
              have y3 : w1.cell? ⟨w.heap.size + 1 + 1, 3, none⟩ = some (.int .u64 (y.d : Int)) := by simp only [World.cell?, HH1.out.2.2.1, HH.out.2.2.2.2.2.2.1]; rfl
              have yf : ∀ j, w1.frozen? ⟨w.heap.size + 1 + 1, j, none⟩ = false := fun j => by simp [World.frozen?, HH1.out.2.2.1, HH.out.2.2.2.2.2.2.1]
              clear hb1 s0 s1 s2 s3 s4 s5 s6 sf t0 t1 tf
              obtain ⟨z, hz⟩ : ∃ z, z = y.addN lo.toNat (hi'.toNat + 1 - lo.toNat) := ⟨_, rfl⟩
              have HZ : Hid (z = y.addN lo.toNat (hi'.toNat + 1 - lo.toNat)) := hz
              rw [← hz]
              clear hz
              unfold setV
              have hsz2 : sz ≤ 1000000 := by have := HSH.out.2.2; rw [List.length_drop, bl_length] at this; omega
              go_wp2_with fail
              go_roundw
              case rel =>
                obtain ⟨hc, hRd, ha, hia, k1, k2, k3, hy, hf, hwr, hset⟩ := HH.out
                obtain ⟨m1, m2, m3⟩ := HSH.out
                rw [if_neg hlh] at m1
                have m4 : sz ≤ t.size - a := by rw [List.length_drop, bl_length] at m3; omega
                have hz := HZ.out
                have d1 := HH1.out.2.2.2.2
                have e1 : (w1.heap[w.heap.size + 1 + 1]? = some (.cells (cellsW y) 143 (0, 0))) := HH1.out.2.2.1.trans k3
                have e2 := setW (y := z) e1
                have oS : Only (w.heap.size + 1 + 1) w1 ((((w1.setCell ⟨w.heap.size + 1 + 1, 0, none⟩ (.int .u64 (z.a : Int))).setCell ⟨w.heap.size + 1 + 1, 1, none⟩ (.int .u64 (z.b : Int))).setCell ⟨w.heap.size + 1 + 1, 2, none⟩ (.int .u64 (z.c : Int))).setCell ⟨w.heap.size + 1 + 1, 3, none⟩ (.int .u64 (z.d : Int))) := ((((Only.set _ _ _ _).trans (Only.set _ _ _ _)).trans (Only.set _ _ _ _)).trans (Only.set _ _ _ _))
                have wS : Wrote b w ((((w1.setCell ⟨w.heap.size + 1 + 1, 0, none⟩ (.int .u64 (z.a : Int))).setCell ⟨w.heap.size + 1 + 1, 1, none⟩ (.int .u64 (z.b : Int))).setCell ⟨w.heap.size + 1 + 1, 2, none⟩ (.int .u64 (z.c : Int))).setCell ⟨w.heap.size + 1 + 1, 3, none⟩ (.int .u64 (z.d : Int))) := by
                  have v := HH1.out.2.2.2.1
                  exact ⟨oS.os.trans v.os, oS.tape.trans v.tape, oS.output.trans v.output, by rw [oS.size]; exact v.size, fun j hj hb' => (oS.block j (by omega)).trans (v.block j hj hb')⟩
                refine ⟨a + sz, z, range f lo hi', Rd.set1 (i := a) ((oS.block b b2).trans d1) (a + sz), by omega, by omega, ?_, ?_, ?_, by rw [hz]; exact W4.addN_ok hy _ _, by rw [hz, addN_range y lo hi' hlh, hf], wS.set _, ?_⟩
                · exact ((Below.heap_setCell _ _ _ _ (Ne.symm b0)).trans (oS.block _ (by omega))).trans (HH1.out.1.trans k1)
                · exact ((Below.heap_setCell _ _ _ _ (Ne.symm b1)).trans (oS.block _ (by omega))).trans (HH1.out.2.1.trans k2)
                · exact (Below.heap_setCell _ _ _ _ (Ne.symm b2)).trans e2
                · rw [← hset, m1, List.drop_drop]
                  congr 1
                  simp; omega
              case measure =>
                rw [HH.out.2.1.at]
                have m3 := HSH.out.2
                have q : atOf b (((((w1.setCell ⟨w.heap.size + 1 + 1, 0, none⟩ (.int .u64 (z.a : Int))).setCell ⟨w.heap.size + 1 + 1, 1, none⟩ (.int .u64 (z.b : Int))).setCell ⟨w.heap.size + 1 + 1, 2, none⟩ (.int .u64 (z.c : Int))).setCell ⟨w.heap.size + 1 + 1, 3, none⟩ (.int .u64 (z.d : Int))).setCell ⟨b, 1, none⟩ (.int .i64 ((a : Int) + (sz : Int)))) = a + sz := by
                  have oS : Only (w.heap.size + 1 + 1) w1 ((((w1.setCell ⟨w.heap.size + 1 + 1, 0, none⟩ (.int .u64 (z.a : Int))).setCell ⟨w.heap.size + 1 + 1, 1, none⟩ (.int .u64 (z.b : Int))).setCell ⟨w.heap.size + 1 + 1, 2, none⟩ (.int .u64 (z.c : Int))).setCell ⟨w.heap.size + 1 + 1, 3, none⟩ (.int .u64 (z.d : Int))) := ((((Only.set _ _ _ _).trans (Only.set _ _ _ _)).trans (Only.set _ _ _ _)).trans (Only.set _ _ _ _))
                  exact (Rd.set1 (i := a) ((oS.block b b2).trans HH1.out.2.2.2.2) (a + sz)).at
                rw [q]
                omega
      · have hl2 : ¬ (a : Int) < (t.size : Int) := by omega
        have HH : Hid (Rd b t a o ah wr ∧ a ≤ t.size ∧ i1 ≤ a ∧ wr.heap[w.heap.size]? = some (.cells #[.int .i64 0, .int .u64 0, .int .u64 0, .int .u64 0, .int .u64 0, .int .i64 0, .int .i64 0] 146 (0, 0)) ∧ wr.heap[w.heap.size + 1]? = some (.cells #[.int .i64 0, .int .i64 0] 28 (0, 0)) ∧ wr.heap[w.heap.size + 1 + 1]? = some (.cells (cellsW y) 143 (0, 0)) ∧ y.Ok ∧ y.has = f ∧ Wrote b w wr ∧ setL ((bl t).drop a) (decide (a = i1)) f = setL ((bl t).drop i1) true fun _ => false) := ⟨hRd, ha, hia, k1, k2, k3, hy, hf, hwr, hset⟩
        have HM : Hid (∀ W, Rd b t a o ah W → Calls Tryz.prog 115 #[.pointer (some ⟨b, 0, none⟩)] W fun e w' => e = .returned (faultV 4 t.size) ∧ Below W.heap.size W w') := fun W hW => missing_any W hW
        clear hRd ha k1 k2 k3 hy hf hwr hset
        go_wp2_with fail
        go_quiet (fail)
        go_wp2_with fail
        refine (HM.out (wr.drewN nq) HH.out.1).mono ?_
        rintro e w1 ⟨rfl, hb1⟩
        have HH1 : Hid (w1.heap[w.heap.size]? = wr.heap[w.heap.size]? ∧ w1.heap[w.heap.size + 1]? = wr.heap[w.heap.size + 1]? ∧ Wrote b w w1 ∧ Rd b t a o ah w1) := by
          obtain ⟨hRd, ha, hia, k1, k2, k3, hy, hf, hwr, hset⟩ := HH.out
          refine ⟨hb1.block _ (Array.getElem?_eq_some_iff.1 k1).1, hb1.block _ (Array.getElem?_eq_some_iff.1 k2).1, (hwr.drewN _).trans (.of_below hb1), Rd.below (w := wr.drewN nq) hRd hb1⟩
        have s0 : w1.cell? ⟨w.heap.size, 0, none⟩ = some (.int .i64 0) := by simp only [World.cell?, HH1.out.1, HH.out.2.2.2.1]; rfl
        have s1 : w1.cell? ⟨w.heap.size, 1, none⟩ = some (.int .u64 0) := by simp only [World.cell?, HH1.out.1, HH.out.2.2.2.1]; rfl
        have s2 : w1.cell? ⟨w.heap.size, 2, none⟩ = some (.int .u64 0) := by simp only [World.cell?, HH1.out.1, HH.out.2.2.2.1]; rfl
        have s3 : w1.cell? ⟨w.heap.size, 3, none⟩ = some (.int .u64 0) := by simp only [World.cell?, HH1.out.1, HH.out.2.2.2.1]; rfl
        have s4 : w1.cell? ⟨w.heap.size, 4, none⟩ = some (.int .u64 0) := by simp only [World.cell?, HH1.out.1, HH.out.2.2.2.1]; rfl
        have s5 : w1.cell? ⟨w.heap.size, 5, none⟩ = some (.int .i64 0) := by simp only [World.cell?, HH1.out.1, HH.out.2.2.2.1]; rfl
        have s6 : w1.cell? ⟨w.heap.size, 6, none⟩ = some (.int .i64 0) := by simp only [World.cell?, HH1.out.1, HH.out.2.2.2.1]; rfl
        have sf : ∀ j, w1.frozen? ⟨w.heap.size, j, none⟩ = false := fun j => by simp [World.frozen?, HH1.out.1, HH.out.2.2.2.1]
        have t0 : w1.cell? ⟨w.heap.size + 1, 0, none⟩ = some (.int .i64 0) := by simp only [World.cell?, HH1.out.2.1, HH.out.2.2.2.2.1]; rfl
        have t1 : w1.cell? ⟨w.heap.size + 1, 1, none⟩ = some (.int .i64 0) := by simp only [World.cell?, HH1.out.2.1, HH.out.2.2.2.2.1]; rfl
        have tf : ∀ j, w1.frozen? ⟨w.heap.size + 1, j, none⟩ = false := fun j => by simp [World.frozen?, HH1.out.2.1, HH.out.2.2.2.2.1]
        have hb1 : Hid (Below (wr.drewN nq).heap.size (wr.drewN nq) w1) := hb1
        unfold faultV
        go_wp2_with fail
        obtain ⟨w9, e9, r0, r1, r2, r3, r4, r5, r6, q0, q1, h9, hO⟩ := out_cells (w1 := w1) (B := w.heap.size) (HH1.out.1.trans HH.out.2.2.2.1) (HH1.out.2.1.trans HH.out.2.2.2.2.1) SV.zero (4) (t.size)
        have e8 : ((((((((((w1).setCell ⟨w.heap.size, 0, none⟩ (.int .i64 0)).setCell ⟨w.heap.size, 1, none⟩ (.int .u64 0)).setCell ⟨w.heap.size, 2, none⟩ (.int .u64 0)).setCell ⟨w.heap.size, 3, none⟩ (.int .u64 0)).setCell ⟨w.heap.size, 4, none⟩ (.int .u64 0)).setCell ⟨w.heap.size, 5, none⟩ (.int .i64 0)).setCell ⟨w.heap.size, 6, none⟩ (.int .i64 0)).setCell ⟨w.heap.size + 1, 0, none⟩ (.int .i64 4)).setCell ⟨w.heap.size + 1, 1, none⟩ (.int .i64 (t.size : Int))) = w9 := e9.symm
        rw [e8]
        clear e8 e9
        refine bodyPost_ret (by simp [results, Tryz.results170, go_sem, r0, r1, r2, r3, r4, r5, r6, q0, q1]; try rfl) rfl ?_
        obtain ⟨hRd, ha, hia, _, _, _, hy, hf, hwr, hset⟩ := HH.out
        have hat : a = t.size := by omega
        rw [hat, drop_all, setL_nil] at hset
        refine ⟨out_wrote HH1.out.2.2.1 (Nat.le_refl _) h9 hO, ?_⟩
        rw [← HR.out, ← hset]
        exact ⟨SV.zero, a, rfl, (hO b b0 b1).trans HH1.out.2.2.2⟩
end Go.Proofs.YtedepknbaakkhabGreatDoor.X
