/-
  What text answers.
-/
import Derived.Test.YtgbleikjdecikaaDoorBB3
namespace Go.Proofs.YtgbleikjdecikaaDoor
open Go.RowKit Go.Shelf
open Ex (useN Fr)

theorem index_dol (s : List UInt8) : (Lib.indexByte s 36 < 0 ∧ ∀ U val, bindL U val s = s) ∨ ∃ k : Nat, Lib.indexByte s 36 = (k : Int) ∧ k < s.length ∧ (s.drop k).head? = some 36 ∧ ∀ U val, bindL U val s = s.take k ++ bindL U val (s.drop k) := by
  by_cases h : Lib.indexByte s 36 < 0
  · have hge := Lib.indexByte_ge s 36
    have h1 : Lib.indexByte s 36 = -1 := by omega
    refine .inl ⟨h, fun U val => ?_⟩
    rw [bindL_skip s.length s (Nat.le_refl _) (fun j _ => Lib.indexByte_none h1 j), List.take_length, List.drop_length, bindL_nil, List.append_nil]
  · obtain ⟨k, hk⟩ : ∃ k : Nat, Lib.indexByte s 36 = (k : Int) := ⟨(Lib.indexByte s 36).toNat, by omega⟩
    obtain ⟨h1, h2⟩ := Lib.indexByte_some hk
    have hkl := (List.getElem?_eq_some_iff.1 h1).1
    refine .inr ⟨k, hk, hkl, by rw [List.head?_drop]; exact h1, fun U val => bindL_skip k s (by omega) h2⟩
theorem start_le {U : List ByteArray} {s : List UInt8} : startN U s ≤ s.length := by
  induction U with
  | nil => exact Nat.zero_le _
  | cons u U ih =>
    rw [startN]; split
    · rename_i h
      have := (List.isPrefixOf_iff_prefix.1 h).length_le
      rw [bl_length] at this; exact this
    · exact ih
set_option maxRecDepth 20000 in
set_option maxHeartbeats 1600000 in
theorem text_any (vU : Value) (U : List ByteArray) (q s0 : ByteArray) (w : World) (hW : Words w.heap.size w vU U) (hU : U.length ≤ 1000) (hs : s0.size ≤ 1000000) (hq : q.size ≤ 1000000) (hb : (q.size + 1) * s0.size ≤ 500000000) :
    Calls Tryd.prog 24 #[.agg #[vU, .string q], .string s0] w fun e w' => e = .returned (.string (ba (bindL U (bl q) (bl s0)))) ∧ Below w.heap.size w w' := by
  have hsv : IsS vU := by obtain ⟨a, n, c, hv, _⟩ := hW; exact ⟨a, n, c, hv⟩
  have hlen := bindL_len (U := U) (val := bl q) s0.size (bl s0) (by rw [bl_length]; exact Nat.le_refl _)
  rw [bl_length, bl_length] at hlen
  obtain ⟨w1, hw1⟩ : ∃ w1, w1 = w.alloc (.cells #[vU, .string q] 70) := ⟨_, rfl⟩
  have hb1 : Below w.heap.size w w1 := by rw [hw1]; exact (Below.refl _ _).alloc (Nat.le_refl _) _
  have hl1 : w1.heap.size = w.heap.size + 1 := by rw [hw1]; simp
  have z1 : w1.heap[w.heap.size]? = some (.cells #[vU, .string q] 70 (0, 0)) := by rw [hw1]; exact alloc_last _ _
  have HW1 : Hid (∀ W, Below (w.heap.size + 1) w1 W → Words W.heap.size W vU U ∧ W.cell? ⟨w.heap.size, 0, none⟩ = some vU ∧ W.cell? ⟨w.heap.size, 1, none⟩ = some (.string q) ∧ Below w.heap.size w W) := fun W h => by
    have hbw := hb1.trans (h.mono (by omega))
    have zz := (h.block w.heap.size (by omega)).trans z1
    exact ⟨(hW.below hbw).mono hbw.size, cell_in zz 0 rfl, cell_in zz 1 rfl, hbw⟩
  have HST : Hid (∀ (s : ByteArray) W, Words W.heap.size W vU U → Calls Tryd.prog 42 #[.agg #[vU, .string q], .string s] W fun e w' => e = .returned (.int .i64 (startN U (bl s) : Nat)) ∧ Below W.heap.size W w') := fun s W h => starts_any vU U q s W h hU
  have HIB : Hid (∀ (s : ByteArray) W, Calls Tryd.prog 39 #[.string s, .int .u8 36] W fun e w' => e = .returned (.int .i64 (Lib.indexByte (bl s) 36)) ∧ W = w') := fun s W => (Tryd.strings_IndexByte s 36 W).mono fun e w' h => ⟨h.1, h.2.symm⟩
  have HWS : Hid (∀ (p : List UInt8) (m : ByteArray) (W : World), Bu (w.heap.size + 1) p W → p.length ≤ 600000000 → m.size ≤ 600000000 → Calls Tryd.prog 40 #[.pointer (some ⟨w.heap.size + 1, 0, none⟩), .string m] W fun e w' => e = .returned (.tuple #[.int .i64 m.size, .nilIface]) ∧ BuPost (w.heap.size + 1) (p ++ bl m) W w') := fun p m W h h2 h3 => ws_any _ p m W h h2 h3
  have HBS : Hid (∀ (p : List UInt8) (W : World), Bu (w.heap.size + 1) p W → Calls Tryd.prog 41 #[.pointer (some ⟨w.heap.size + 1, 0, none⟩)] W fun e w' => e = .returned (.string (ba p)) ∧ Below (w.heap.size + 1) W w') := fun p W h => bs_any _ p W h
  have HLT : Hid ((bindL U (bl q) (bl s0)).length ≤ 500000000) := by unfold Hid; omega
  have HBN : Hid (Bu (w.heap.size + 1) [] (w1.alloc (.cells #[.pointer none, .slice none 0 0] 83)) ∧ Below (w.heap.size + 1) w1 (w1.alloc (.cells #[.pointer none, .slice none 0 0] 83))) := by
    rw [← hl1]; exact ⟨bu_new w1, (Below.refl _ _).alloc (Nat.le_refl _) _⟩
  have HSZ : Hid (w.heap.size + 1 ≤ w1.heap.size) := by unfold Hid; omega
  clear hW hb1 z1 hlen hl1
  obtain ⟨ua, un, uc, rfl⟩ := hsv
  go_enter Tryd.func24, Tryd.ntmps24
  go_wp2_with fail
  rw [← hw1]
  clear hw1
  go_loopw [1] (fun vs wr => ∃ (s : ByteArray) (p : List UInt8), vs = .string s ∧ s.size ≤ s0.size ∧ p.length ≤ 500000000 ∧ Hid (Bu (w.heap.size + 1) p wr ∧ Below (w.heap.size + 1) w1 wr ∧ bindL U (bl q) (bl s0) = p ++ bindL U (bl q) (bl s))) (fun vs _ => szS vs)
  case atStart => exact ⟨s0, [], rfl, Nat.le_refl _, by simp, HBN.out.1, HBN.out.2, by simp⟩
  case round =>
    obtain ⟨s, p, rfl, hss, hpl, HI⟩ := hrel
    rcases index_dol (bl s) with ⟨h1, h2⟩ | ⟨k, h1, h2, h3, h4⟩
    · have HF : Hid (bindL U (bl q) (bl s0) = p ++ bl s) := by unfold Hid; rw [HI.out.2.2, h2]
      obtain ⟨X, hX⟩ : ∃ X, X = Lib.indexByte (bl s) 36 := ⟨_, rfl⟩
      have HIs := HIB.out s
      rw [← hX] at HIs h1
      have HIs : Hid _ := HIs
      clear h2 hX
      go_wp2_with fail
      refine (HIs.out _).mono ?_
      rintro e w2 ⟨rfl, rfl⟩
      go_wp2_with fail
      refine (HWS.out p s _ HI.out.1 (by omega) (by omega)).mono ?_
      rintro e w3 ⟨rfl, b1, b2, b3⟩
      have H3 : Hid (Bu (w.heap.size + 1) (p ++ bl s) w3 ∧ Below (w.heap.size + 1) w1 w3) := ⟨b1, HI.out.2.1.trans b2⟩
      clear b1 b2 b3
      go_wp2_with fail
      refine (HBS.out _ _ H3.out.1).mono ?_
      rintro e w4 ⟨rfl, b4⟩
      have H4 : Hid (Below w.heap.size w w4) := (HW1.out w4 (H3.out.2.trans b4)).2.2.2
      clear b4
      go_wp2_with fail
      go_ret
      exact ⟨ret_str (by rw [HF.out]), H4.out⟩
    · rw [bl_length] at h2
      have hk0 : ¬ (k : Int) < 0 := by omega
      have hki : (k : Int) ≤ (s.size : Int) := by omega
      obtain ⟨x, hx⟩ : ∃ x, x = s.extract 0 k := ⟨_, rfl⟩
      obtain ⟨y, hy⟩ : ∃ y, y = s.extract k s.size := ⟨_, rfl⟩
      have hxb : bl x = (bl s).take k := by rw [hx, bl_extract, List.drop_zero]
      have hyb : bl y = (bl s).drop k := by rw [hy, bl_extract, take_all]
      have hxs : x.size = k := by rw [← bl_length, hxb, List.length_take, bl_length]; omega
      have hys : y.size = s.size - k := by rw [← bl_length, hyb, List.length_drop, bl_length]
      have hs1 : ∀ W, (Instr.slice 9 (.string s) none (some (.int .i64 (k : Int))) none).run Tryd.prog W = .ok (.string x) W := by
        intro W; rw [hx]; exact run_slice_string_h (P := Tryd.prog) W 9 s Tryd.underlying9 .i64 k (by omega) (by omega)
      have hs2 : ∀ W, (Instr.slice 9 (.string s) (some (.int .i64 (k : Int))) none none).run Tryd.prog W = .ok (.string y) W := by
        intro W; rw [hy]; exact run_slice_string_l (P := Tryd.prog) W 9 s Tryd.underlying9 .i64 k (by omega) (by omega)
      have HIs := HIB.out s
      rw [h1] at HIs
      have HIs : Hid _ := HIs
      have HY : Hid ((bl y).head? = some 36 ∧ bindL U (bl q) (bl s0) = (p ++ bl x) ++ bindL U (bl q) (bl y)) := ⟨by rw [hyb]; exact h3, by rw [HI.out.2.2, h4, hxb, hyb, List.append_assoc]⟩
      have hpx : (p ++ bl x).length ≤ 500000000 := by
        have := congrArg List.length HY.out.2
        rw [List.length_append] at this
        have := HLT.out
        omega
      have HSy := HST.out y
      have hsl := start_le (U := U) (s := bl y)
      rw [bl_length] at hsl
      obtain ⟨n, hn⟩ : ∃ n, n = startN U (bl y) := ⟨_, rfl⟩
      have HN : Hid (n = startN U (bl y)) := hn
      rw [← hn] at HSy hsl
      have HSy : Hid _ := HSy
      have hy1 : 1 ≤ y.size := by omega
      have hyl : y.size ≤ s.size := by omega
      have hxl : x.size ≤ s.size := by omega
      clear hx hy hxb hyb h1 h3 h4 hn hys hxs
      by_cases hn0 : 0 < n
      · have hni : (0 : Int) < (n : Int) := by omega
        have hnj : (n : Int) ≤ (y.size : Int) := by omega
        obtain ⟨z, hz⟩ : ∃ z, z = y.extract n y.size := ⟨_, rfl⟩
        have hzb : bl z = (bl y).drop n := by rw [hz, bl_extract, take_all]
        have hzs : z.size + 1 ≤ y.size := by rw [← bl_length z, hzb, List.length_drop, bl_length]; omega
        have hs3 : ∀ W, (Instr.slice 9 (.string y) (some (.int .i64 (n : Int))) none none).run Tryd.prog W = .ok (.string z) W := by
          intro W; rw [hz]; exact run_slice_string_l (P := Tryd.prog) W 9 y Tryd.underlying9 .i64 n (by omega) (by omega)
        have HZ : Hid (bindL U (bl q) (bl s0) = (p ++ bl x ++ bl q) ++ bindL U (bl q) (bl z)) := by
          unfold Hid
          rw [HY.out.2, bindL_hit HY.out.1 (by rw [← HN.out]; exact hn0), ← HN.out, hzb, List.append_assoc]; simp
        have hpq : (p ++ bl x ++ bl q).length ≤ 500000000 := by
          have := congrArg List.length HZ.out
          rw [List.length_append] at this
          have := HLT.out
          omega
        clear hz hzb
        go_wp2_with fail
        refine (HIs.out _).mono ?_
        rintro e w2 ⟨rfl, rfl⟩
        go_wp2_with fail
        refine (HWS.out p x _ HI.out.1 (by omega) (by omega)).mono ?_
        rintro e w3 ⟨rfl, b1, b2, b3⟩
        have H3 : Hid (Bu (w.heap.size + 1) (p ++ bl x) w3 ∧ Below (w.heap.size + 1) w1 w3) := ⟨b1, HI.out.2.1.trans b2⟩
        clear b1 b2 b3
        obtain ⟨g1, g2, g3, _⟩ := HW1.out w3 H3.out.2
        have G1 : Hid _ := g1
        clear g1
        go_wp2_with fail
        refine (HSy.out _ G1.out).mono ?_
        rintro e w4 ⟨rfl, b4⟩
        have H4 : Hid (Bu (w.heap.size + 1) (p ++ bl x) w4 ∧ Below (w.heap.size + 1) w1 w4) := ⟨H3.out.1.below b4, H3.out.2.trans (b4.mono (Nat.le_trans HSZ.out H3.out.2.size))⟩
        clear b4 g2 g3
        obtain ⟨_, g2, g3, _⟩ := HW1.out w4 H4.out.2
        go_wp2_with fail
        refine (HWS.out (p ++ bl x) q _ H4.out.1 (by omega) (by omega)).mono ?_
        rintro e w5 ⟨rfl, b1, b2, b3⟩
        have H5 : Hid (Bu (w.heap.size + 1) (p ++ bl x ++ bl q) w5 ∧ Below (w.heap.size + 1) w1 w5) := ⟨b1, H4.out.2.trans b2⟩
        clear b1 b2 b3 g2 g3
        go_wp2
        go_roundw
        case rel => exact ⟨z, p ++ bl x ++ bl q, rfl, by omega, hpq, H5.out.1, H5.out.2, HZ.out⟩
        case measure => show z.size < s.size; omega
      · have hn00 : n = 0 := by omega
        subst hn00
        obtain ⟨m, hm⟩ : ∃ m, m = min 2 y.size := ⟨_, rfl⟩
        have hmi : min (2 : Int) (y.size : Int) = (m : Int) := by rw [hm]; omega
        have hm1 : 1 ≤ m ∧ m ≤ y.size := by omega
        have hmj : (m : Int) ≤ (y.size : Int) := by omega
        obtain ⟨u, hu⟩ : ∃ u, u = y.extract 0 m := ⟨_, rfl⟩
        obtain ⟨z, hz⟩ : ∃ z, z = y.extract m y.size := ⟨_, rfl⟩
        have hub : bl u = (bl y).take 2 := by
          rw [hu, bl_extract, List.drop_zero, hm]
          rw [← bl_length, ← List.take_take, List.take_length]
        have hzb : bl z = (bl y).drop 2 := by
          rw [hz, bl_extract, take_all, hm]
          by_cases h2 : 2 ≤ y.size
          · rw [Nat.min_eq_left h2]
          · rw [Nat.min_eq_right (by omega), List.drop_of_length_le (by rw [bl_length]; exact Nat.le_refl _), List.drop_of_length_le (by rw [bl_length]; omega)]
        have hus : u.size ≤ 2 := by rw [← bl_length, hub, List.length_take]; omega
        have hzs : z.size + 1 ≤ y.size := by rw [hz]; simp; omega
        have hs3 : ∀ W, (Instr.slice 9 (.string y) none (some (.int .i64 (m : Int))) none).run Tryd.prog W = .ok (.string u) W := by
          intro W; rw [hu]; exact run_slice_string_h (P := Tryd.prog) W 9 y Tryd.underlying9 .i64 m (by omega) (by omega)
        have hs4 : ∀ W, (Instr.slice 9 (.string y) (some (.int .i64 (m : Int))) none none).run Tryd.prog W = .ok (.string z) W := by
          intro W; rw [hz]; exact run_slice_string_l (P := Tryd.prog) W 9 y Tryd.underlying9 .i64 m (by omega) (by omega)
        have HZ : Hid (bindL U (bl q) (bl s0) = (p ++ bl x ++ bl u) ++ bindL U (bl q) (bl z)) := by
          unfold Hid
          rw [HY.out.2, bindL_miss HY.out.1 (by rw [← HN.out]; omega), hub, hzb, List.append_assoc]; simp
        have hpq : (p ++ bl x ++ bl u).length ≤ 500000000 := by
          have := congrArg List.length HZ.out
          rw [List.length_append] at this
          have := HLT.out
          omega
        clear hu hz hub hzb hm
        go_wp2_with fail
        refine (HIs.out _).mono ?_
        rintro e w2 ⟨rfl, rfl⟩
        go_wp2_with fail
        refine (HWS.out p x _ HI.out.1 (by omega) (by omega)).mono ?_
        rintro e w3 ⟨rfl, b1, b2, b3⟩
        have H3 : Hid (Bu (w.heap.size + 1) (p ++ bl x) w3 ∧ Below (w.heap.size + 1) w1 w3) := ⟨b1, HI.out.2.1.trans b2⟩
        clear b1 b2 b3
        obtain ⟨g1, g2, g3, _⟩ := HW1.out w3 H3.out.2
        have G1 : Hid _ := g1
        clear g1
        go_wp2_with fail
        refine (HSy.out _ G1.out).mono ?_
        rintro e w4 ⟨rfl, b4⟩
        have H4 : Hid (Bu (w.heap.size + 1) (p ++ bl x) w4 ∧ Below (w.heap.size + 1) w1 w4) := ⟨H3.out.1.below b4, H3.out.2.trans (b4.mono (Nat.le_trans HSZ.out H3.out.2.size))⟩
        clear b4 g2 g3
        go_wp2_with fail
        refine (HWS.out (p ++ bl x) u _ H4.out.1 (by omega) (by omega)).mono ?_
        rintro e w5 ⟨rfl, b1, b2, b3⟩
        have H5 : Hid (Bu (w.heap.size + 1) (p ++ bl x ++ bl u) w5 ∧ Below (w.heap.size + 1) w1 w5) := ⟨b1, H4.out.2.trans b2⟩
        clear b1 b2 b3
        go_wp2
        go_roundw
        case rel => exact ⟨z, p ++ bl x ++ bl u, rfl, by omega, hpq, H5.out.1, H5.out.2, HZ.out⟩
        case measure => show z.size < s.size; omega
end Go.Proofs.YtgbleikjdecikaaDoor
