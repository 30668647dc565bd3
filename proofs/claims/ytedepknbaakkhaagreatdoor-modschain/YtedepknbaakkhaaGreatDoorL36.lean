/-
  M7b MR2
-/
import Derived.Test.YtedepknbaakkhaaGreatDoorJ07
import Derived.Test.YtedepknbaakkhaaGreatDoorL35
set_option maxRecDepth 20000
namespace Go.Proofs.YtedepknbaakkhaaGreatDoor
open Go.RowKit Go.Shelf
set_option maxHeartbeats 3200000 in
theorem read_eq_S1 (s t : ByteArray) (n : Nat) (f : Bool) (w : World) (hs : s.size ≤ 1000000) (hk : headIs s 83 = true) (hz : ¬ 1 < s.size) (hu : untilL 58 (bl s) = (bl t, n, f)) (ht : t ∉ wordsL) (hmx : Mx w) :
    Calls Tryz.prog 19 #[.string s] w fun e w' => e = .returned (if (Lib.cut (bl t) [61]).2.2 = true then (Rd.ok { kind := ⟨#[61]⟩, a := ba (Lib.cut (bl t) [61]).1, b := ba (Lib.cut (bl t) [61]).2.1 } n) else .bad 12).val ∧ Below w.heap.size w w' := by
  have HM := pre_is (head_not (d := 77) hk (by decide))
  have HN := pre_is (head_not (d := 78) hk (by decide))
  have HS := pre_is hk
  have hzi : ¬ (1 : Int) < (s.size : Int) := by omega
  have HU : Hid (∀ W, Calls Tryz.prog 28 #[.string s, .int .u8 58] W fun x w' => x = .returned (.tuple #[.string t, .int .i64 n, .bool f]) ∧ Below W.heap.size W w') := fun W => by
    have := until_any s 58 W hs
    unfold untilV at this
    rw [hu, ba_bl] at this
    exact this
  have hnb := (until_len 58 (bl s))
  rw [hu, bl_length, bl_length] at hnb
  simp only at hnb
  have hnb1 : n ≤ 1000000 := by omega
  rcases hcu : Lib.cut (bl t) [61] with ⟨c1, c2, c3⟩
  have HCu : Hid (∀ W, Mx W → Calls Tryz.prog 32 #[.string t, .string ⟨#[61]⟩] W fun e w' => e = .returned (.tuple #[.string (ba c1), .string (ba c2), .bool c3]) ∧ Below W.heap.size W w') := fun W hW => by
    obtain ⟨m, hm⟩ := hW
    refine (Tryz.strings_Cut t ⟨#[61]⟩ m W (by omega) hm).mono ?_
    rintro e w' ⟨rfl, k, rfl⟩
    refine ⟨?_, below_drewN (Below.refl _ _) k⟩
    show Ending.returned (.tuple #[.string ⟨(Lib.cut (bl t) [61]).1.toArray⟩, .string ⟨(Lib.cut (bl t) [61]).2.1.toArray⟩, .bool (Lib.cut (bl t) [61]).2.2]) = _
    rw [hcu]; rfl
  have HB0 := one_new w
  have HMx : Hid (∀ W, Below w.heap.size w W → Mx W) := fun W hB => hmx.below hB hmx.pos
  clear hk hu hmx hcu hnb
  unfold wordsL at ht
  simp only [List.mem_cons, List.not_mem_nil, or_false, not_or] at ht
  obtain ⟨t1, t2, t3, t4, t5, t6, t7, t8, t9, t10, t11⟩ := ht
  replace t1 := ne_list (l := [84]) t1
  replace t2 := ne_list (l := [72]) t2
  replace t3 := ne_list (l := [69]) t3
  replace t4 := ne_list (l := [82]) t4
  replace t5 := ne_list (l := [79]) t5
  replace t6 := ne_list (l := [79, 114]) t6
  replace t7 := ne_list (l := [117]) t7
  replace t8 := ne_list (l := [114]) t8
  replace t9 := ne_list (l := [116, 108]) t9
  replace t10 := ne_list (l := [116, 117]) t10
  replace t11 := ne_list (l := [81]) t11
  have u1 : (t.toList == [84]) = false := beq_eq_false_iff_ne.2 t1
  have u2 : (t.toList == [72]) = false := beq_eq_false_iff_ne.2 t2
  have u3 : (t.toList == [69]) = false := beq_eq_false_iff_ne.2 t3
  have u4 : (t.toList == [82]) = false := beq_eq_false_iff_ne.2 t4
  have u5 : (t.toList == [79]) = false := beq_eq_false_iff_ne.2 t5
  have u6 : (t.toList == [79, 114]) = false := beq_eq_false_iff_ne.2 t6
  have u7 : (t.toList == [117]) = false := beq_eq_false_iff_ne.2 t7
  have u8 : (t.toList == [114]) = false := beq_eq_false_iff_ne.2 t8
  have u9 : (t.toList == [116, 108]) = false := beq_eq_false_iff_ne.2 t9
  have u10 : (t.toList == [116, 117]) = false := beq_eq_false_iff_ne.2 t10
  have u11 : (t.toList == [81]) = false := beq_eq_false_iff_ne.2 t11
  cases c3 with
  | false =>
    rw [if_neg (by simp)]
    dsimp only [Rd.val]
    go_enter Tryz.func19, Tryz.ntmps19
    go_wp2_with fail
    refine (HM.out _).mono ?_
    rintro e w' ⟨rfl, rfl⟩
    go_wp2_with fail
    refine (HN.out _).mono ?_
    rintro e w' ⟨rfl, rfl⟩
    go_wp2_with fail
    refine (HS.out _).mono ?_
    rintro e w' ⟨rfl, rfl⟩
    go_wp2_with fail
    refine (HU.out _).mono ?_
    rintro e w1 ⟨rfl, hb1⟩
    rw [World.size_alloc] at hb1
    have HZ : Hid (Below (w.heap.size + 1) (w.alloc (.cells zeroMd 50)) w1 ∧ Below w.heap.size w w1) := ⟨hb1, (HB0.out w1 hb1).2⟩
    clear hb1
    go_wp2_with fail
    refine (HCu.out _ (HMx.out _ HZ.out.2)).mono ?_
    rintro e w2 ⟨rfl, hb2⟩
    obtain ⟨hblk, hlow⟩ := HB0.out w2 (HZ.out.1.trans (hb2.mono (by have := HZ.out.1.size; simpa using this)))
    clear hb2 HZ
    obtain ⟨⟨r0, r1, r2, r3, r4, r5, r6, r7, r8, r9, r10, r11⟩, hfz⟩ := mod_cells hblk
    have HBk : Hid (w2.heap[w.heap.size]? = some (.cells zeroMd 50 (0, 0))) := hblk
    clear hblk
    go_wp2
    obtain ⟨W, hW⟩ : ∃ W, W = setMd w2 w.heap.size E E E false false none false false 0 0 0 0 := ⟨_, rfl⟩
    have hWb : Below w.heap.size w W := by rw [hW]; exact setMd_below hlow (Nat.le_refl _)
    have hWh := setMd_heap (kind := E) (a := E) (c := E) (bg := false) (en := false) (ex := none) (al := false) (on := false) (mks := 0) (ots := 0) (frm := 0) (upto := 0) HBk.out
    rw [← hW] at hWh
    obtain ⟨⟨q0, q1, q2, q3, q4, q5, q6, q7, q8, q9, q10, q11⟩, _⟩ := mod_cells hWh
    show bodyPost Tryz.prog Tryz.f19 _ Exit.ret _ (setMd w2 w.heap.size E E E false false none false false 0 0 0 0)
    rw [← hW]
    refine bodyPost_ret (v := .tuple #[.agg zeroMd, .int .i64 0, .int .i64 12]) (by simp [results, Tryz.results19, go_sem, q0, q1, q2, q3, q4, q5, q6, q7, q8, q9, q10, q11]; try rfl) rfl ⟨rfl, hWb⟩
  | true =>
    rw [if_pos rfl]
    dsimp only [Rd.val, Md.cells]
    go_enter Tryz.func19, Tryz.ntmps19
    go_wp2_with fail
    refine (HM.out _).mono ?_
    rintro e w' ⟨rfl, rfl⟩
    go_wp2_with fail
    refine (HN.out _).mono ?_
    rintro e w' ⟨rfl, rfl⟩
    go_wp2_with fail
    refine (HS.out _).mono ?_
    rintro e w' ⟨rfl, rfl⟩
    go_wp2_with fail
    refine (HU.out _).mono ?_
    rintro e w1 ⟨rfl, hb1⟩
    rw [World.size_alloc] at hb1
    have HZ : Hid (Below (w.heap.size + 1) (w.alloc (.cells zeroMd 50)) w1 ∧ Below w.heap.size w w1) := ⟨hb1, (HB0.out w1 hb1).2⟩
    clear hb1
    go_wp2_with fail
    refine (HCu.out _ (HMx.out _ HZ.out.2)).mono ?_
    rintro e w2 ⟨rfl, hb2⟩
    obtain ⟨hblk, hlow⟩ := HB0.out w2 (HZ.out.1.trans (hb2.mono (by have := HZ.out.1.size; simpa using this)))
    clear hb2 HZ
    obtain ⟨⟨r0, r1, r2, r3, r4, r5, r6, r7, r8, r9, r10, r11⟩, hfz⟩ := mod_cells hblk
    have HBk : Hid (w2.heap[w.heap.size]? = some (.cells zeroMd 50 (0, 0))) := hblk
    clear hblk
    go_wp2
    obtain ⟨W, hW⟩ : ∃ W, W = setMd w2 w.heap.size ⟨#[61]⟩ (ba c1) (ba c2) false false none false false 0 0 0 0 := ⟨_, rfl⟩
    have hWb : Below w.heap.size w W := by rw [hW]; exact setMd_below hlow (Nat.le_refl _)
    have hWh := setMd_heap (kind := ⟨#[61]⟩) (a := ba c1) (c := ba c2) (bg := false) (en := false) (ex := none) (al := false) (on := false) (mks := 0) (ots := 0) (frm := 0) (upto := 0) HBk.out
    rw [← hW] at hWh
    obtain ⟨⟨q0, q1, q2, q3, q4, q5, q6, q7, q8, q9, q10, q11⟩, _⟩ := mod_cells hWh
    show bodyPost Tryz.prog Tryz.f19 _ Exit.ret _ (setMd w2 w.heap.size ⟨#[61]⟩ (ba c1) (ba c2) false false none false false 0 0 0 0)
    rw [← hW]
    refine bodyPost_ret (v := .tuple #[.agg (mdV ⟨#[61]⟩ (ba c1) (ba c2) false false none false false 0 0 0 0), .int .i64 n, .int .i64 0]) (by simp [results, Tryz.results19, go_sem, q0, q1, q2, q3, q4, q5, q6, q7, q8, q9, q10, q11]; try rfl) rfl ⟨rfl, hWb⟩
set_option maxHeartbeats 3200000 in
theorem read_eq_S2 (s t : ByteArray) (n : Nat) (f : Bool) (w : World) (hs : s.size ≤ 1000000) (hk : headIs s 83 = true) (hz : 1 < s.size) (hp : partsB s[1] = false) (hu : untilL 58 (bl s) = (bl t, n, f)) (ht : t ∉ wordsL) (hmx : Mx w) :
    Calls Tryz.prog 19 #[.string s] w fun e w' => e = .returned (if (Lib.cut (bl t) [61]).2.2 = true then (Rd.ok { kind := ⟨#[61]⟩, a := ba (Lib.cut (bl t) [61]).1, b := ba (Lib.cut (bl t) [61]).2.1 } n) else .bad 12).val ∧ Below w.heap.size w w' := by
  have HM := pre_is (head_not (d := 77) hk (by decide))
  have HN := pre_is (head_not (d := 78) hk (by decide))
  have HS := pre_is hk
  have hzi : (1 : Int) < (s.size : Int) := by omega
  obtain ⟨dn, hdn⟩ : ∃ dn : Int, dn = (s[1].toNat : Int) := ⟨_, rfl⟩
  have HPa : Hid (∀ W, Calls Tryz.prog 29 #[.int .u8 dn] W fun e w' => e = .returned (.bool false) ∧ W = w') := fun W => by
    have := parts_any s[1] dn W hdn; rw [hp] at this; exact this
  have hgk : (s[1].toNat : Int) = dn := hdn.symm
  clear hdn hp
  have HU : Hid (∀ W, Calls Tryz.prog 28 #[.string s, .int .u8 58] W fun x w' => x = .returned (.tuple #[.string t, .int .i64 n, .bool f]) ∧ Below W.heap.size W w') := fun W => by
    have := until_any s 58 W hs
    unfold untilV at this
    rw [hu, ba_bl] at this
    exact this
  have hnb := (until_len 58 (bl s))
  rw [hu, bl_length, bl_length] at hnb
  simp only at hnb
  have hnb1 : n ≤ 1000000 := by omega
  rcases hcu : Lib.cut (bl t) [61] with ⟨c1, c2, c3⟩
  have HCu : Hid (∀ W, Mx W → Calls Tryz.prog 32 #[.string t, .string ⟨#[61]⟩] W fun e w' => e = .returned (.tuple #[.string (ba c1), .string (ba c2), .bool c3]) ∧ Below W.heap.size W w') := fun W hW => by
    obtain ⟨m, hm⟩ := hW
    refine (Tryz.strings_Cut t ⟨#[61]⟩ m W (by omega) hm).mono ?_
    rintro e w' ⟨rfl, k, rfl⟩
    refine ⟨?_, below_drewN (Below.refl _ _) k⟩
    show Ending.returned (.tuple #[.string ⟨(Lib.cut (bl t) [61]).1.toArray⟩, .string ⟨(Lib.cut (bl t) [61]).2.1.toArray⟩, .bool (Lib.cut (bl t) [61]).2.2]) = _
    rw [hcu]; rfl
  have HB0 := one_new w
  have HMx : Hid (∀ W, Below w.heap.size w W → Mx W) := fun W hB => hmx.below hB hmx.pos
  clear hk hu hmx hcu hnb
  unfold wordsL at ht
  simp only [List.mem_cons, List.not_mem_nil, or_false, not_or] at ht
  obtain ⟨t1, t2, t3, t4, t5, t6, t7, t8, t9, t10, t11⟩ := ht
  replace t1 := ne_list (l := [84]) t1
  replace t2 := ne_list (l := [72]) t2
  replace t3 := ne_list (l := [69]) t3
  replace t4 := ne_list (l := [82]) t4
  replace t5 := ne_list (l := [79]) t5
  replace t6 := ne_list (l := [79, 114]) t6
  replace t7 := ne_list (l := [117]) t7
  replace t8 := ne_list (l := [114]) t8
  replace t9 := ne_list (l := [116, 108]) t9
  replace t10 := ne_list (l := [116, 117]) t10
  replace t11 := ne_list (l := [81]) t11
  have u1 : (t.toList == [84]) = false := beq_eq_false_iff_ne.2 t1
  have u2 : (t.toList == [72]) = false := beq_eq_false_iff_ne.2 t2
  have u3 : (t.toList == [69]) = false := beq_eq_false_iff_ne.2 t3
  have u4 : (t.toList == [82]) = false := beq_eq_false_iff_ne.2 t4
  have u5 : (t.toList == [79]) = false := beq_eq_false_iff_ne.2 t5
  have u6 : (t.toList == [79, 114]) = false := beq_eq_false_iff_ne.2 t6
  have u7 : (t.toList == [117]) = false := beq_eq_false_iff_ne.2 t7
  have u8 : (t.toList == [114]) = false := beq_eq_false_iff_ne.2 t8
  have u9 : (t.toList == [116, 108]) = false := beq_eq_false_iff_ne.2 t9
  have u10 : (t.toList == [116, 117]) = false := beq_eq_false_iff_ne.2 t10
  have u11 : (t.toList == [81]) = false := beq_eq_false_iff_ne.2 t11
  cases c3 with
  | false =>
    rw [if_neg (by simp)]
    dsimp only [Rd.val]
    go_enter Tryz.func19, Tryz.ntmps19
    go_wp2_with fail
    refine (HM.out _).mono ?_
    rintro e w' ⟨rfl, rfl⟩
    go_wp2_with fail
    refine (HN.out _).mono ?_
    rintro e w' ⟨rfl, rfl⟩
    go_wp2_with fail
    refine (HS.out _).mono ?_
    rintro e w' ⟨rfl, rfl⟩
    go_wp2_with fail
    refine (HPa.out _).mono ?_
    rintro e w' ⟨rfl, rfl⟩
    go_wp2_with fail
    refine (HU.out _).mono ?_
    rintro e w1 ⟨rfl, hb1⟩
    rw [World.size_alloc] at hb1
    have HZ : Hid (Below (w.heap.size + 1) (w.alloc (.cells zeroMd 50)) w1 ∧ Below w.heap.size w w1) := ⟨hb1, (HB0.out w1 hb1).2⟩
    clear hb1
    go_wp2_with fail
    refine (HCu.out _ (HMx.out _ HZ.out.2)).mono ?_
    rintro e w2 ⟨rfl, hb2⟩
    obtain ⟨hblk, hlow⟩ := HB0.out w2 (HZ.out.1.trans (hb2.mono (by have := HZ.out.1.size; simpa using this)))
    clear hb2 HZ
    obtain ⟨⟨r0, r1, r2, r3, r4, r5, r6, r7, r8, r9, r10, r11⟩, hfz⟩ := mod_cells hblk
    have HBk : Hid (w2.heap[w.heap.size]? = some (.cells zeroMd 50 (0, 0))) := hblk
    clear hblk
    go_wp2
    obtain ⟨W, hW⟩ : ∃ W, W = setMd w2 w.heap.size E E E false false none false false 0 0 0 0 := ⟨_, rfl⟩
    have hWb : Below w.heap.size w W := by rw [hW]; exact setMd_below hlow (Nat.le_refl _)
    have hWh := setMd_heap (kind := E) (a := E) (c := E) (bg := false) (en := false) (ex := none) (al := false) (on := false) (mks := 0) (ots := 0) (frm := 0) (upto := 0) HBk.out
    rw [← hW] at hWh
    obtain ⟨⟨q0, q1, q2, q3, q4, q5, q6, q7, q8, q9, q10, q11⟩, _⟩ := mod_cells hWh
    show bodyPost Tryz.prog Tryz.f19 _ Exit.ret _ (setMd w2 w.heap.size E E E false false none false false 0 0 0 0)
    rw [← hW]
    refine bodyPost_ret (v := .tuple #[.agg zeroMd, .int .i64 0, .int .i64 12]) (by simp [results, Tryz.results19, go_sem, q0, q1, q2, q3, q4, q5, q6, q7, q8, q9, q10, q11]; try rfl) rfl ⟨rfl, hWb⟩
  | true =>
    rw [if_pos rfl]
    dsimp only [Rd.val, Md.cells]
    go_enter Tryz.func19, Tryz.ntmps19
    go_wp2_with fail
    refine (HM.out _).mono ?_
    rintro e w' ⟨rfl, rfl⟩
    go_wp2_with fail
    refine (HN.out _).mono ?_
    rintro e w' ⟨rfl, rfl⟩
    go_wp2_with fail
    refine (HS.out _).mono ?_
    rintro e w' ⟨rfl, rfl⟩
    go_wp2_with fail
    refine (HPa.out _).mono ?_
    rintro e w' ⟨rfl, rfl⟩
    go_wp2_with fail
    refine (HU.out _).mono ?_
    rintro e w1 ⟨rfl, hb1⟩
    rw [World.size_alloc] at hb1
    have HZ : Hid (Below (w.heap.size + 1) (w.alloc (.cells zeroMd 50)) w1 ∧ Below w.heap.size w w1) := ⟨hb1, (HB0.out w1 hb1).2⟩
    clear hb1
    go_wp2_with fail
    refine (HCu.out _ (HMx.out _ HZ.out.2)).mono ?_
    rintro e w2 ⟨rfl, hb2⟩
    obtain ⟨hblk, hlow⟩ := HB0.out w2 (HZ.out.1.trans (hb2.mono (by have := HZ.out.1.size; simpa using this)))
    clear hb2 HZ
    obtain ⟨⟨r0, r1, r2, r3, r4, r5, r6, r7, r8, r9, r10, r11⟩, hfz⟩ := mod_cells hblk
    have HBk : Hid (w2.heap[w.heap.size]? = some (.cells zeroMd 50 (0, 0))) := hblk
    clear hblk
    go_wp2
    obtain ⟨W, hW⟩ : ∃ W, W = setMd w2 w.heap.size ⟨#[61]⟩ (ba c1) (ba c2) false false none false false 0 0 0 0 := ⟨_, rfl⟩
    have hWb : Below w.heap.size w W := by rw [hW]; exact setMd_below hlow (Nat.le_refl _)
    have hWh := setMd_heap (kind := ⟨#[61]⟩) (a := ba c1) (c := ba c2) (bg := false) (en := false) (ex := none) (al := false) (on := false) (mks := 0) (ots := 0) (frm := 0) (upto := 0) HBk.out
    rw [← hW] at hWh
    obtain ⟨⟨q0, q1, q2, q3, q4, q5, q6, q7, q8, q9, q10, q11⟩, _⟩ := mod_cells hWh
    show bodyPost Tryz.prog Tryz.f19 _ Exit.ret _ (setMd w2 w.heap.size ⟨#[61]⟩ (ba c1) (ba c2) false false none false false 0 0 0 0)
    rw [← hW]
    refine bodyPost_ret (v := .tuple #[.agg (mdV ⟨#[61]⟩ (ba c1) (ba c2) false false none false false 0 0 0 0), .int .i64 n, .int .i64 0]) (by simp [results, Tryz.results19, go_sem, q0, q1, q2, q3, q4, q5, q6, q7, q8, q9, q10, q11]; try rfl) rfl ⟨rfl, hWb⟩
set_option maxHeartbeats 3200000 in
theorem read_eq_C1 (s t : ByteArray) (n : Nat) (f : Bool) (w : World) (hs : s.size ≤ 1000000) (hk : headIs s 67 = true) (hz : ¬ 1 < s.size) (hu : untilL 58 (bl s) = (bl t, n, f)) (ht : t ∉ wordsL) (hmx : Mx w) :
    Calls Tryz.prog 19 #[.string s] w fun e w' => e = .returned (if (Lib.cut (bl t) [61]).2.2 = true then (Rd.ok { kind := ⟨#[61]⟩, a := ba (Lib.cut (bl t) [61]).1, b := ba (Lib.cut (bl t) [61]).2.1 } n) else .bad 12).val ∧ Below w.heap.size w w' := by
  have HM := pre_is (head_not (d := 77) hk (by decide))
  have HN := pre_is (head_not (d := 78) hk (by decide))
  have HS := pre_is (head_not (d := 83) hk (by decide))
  have HC := pre_is hk
  have hzi : ¬ (1 : Int) < (s.size : Int) := by omega
  have HU : Hid (∀ W, Calls Tryz.prog 28 #[.string s, .int .u8 58] W fun x w' => x = .returned (.tuple #[.string t, .int .i64 n, .bool f]) ∧ Below W.heap.size W w') := fun W => by
    have := until_any s 58 W hs
    unfold untilV at this
    rw [hu, ba_bl] at this
    exact this
  have hnb := (until_len 58 (bl s))
  rw [hu, bl_length, bl_length] at hnb
  simp only at hnb
  have hnb1 : n ≤ 1000000 := by omega
  rcases hcu : Lib.cut (bl t) [61] with ⟨c1, c2, c3⟩
  have HCu : Hid (∀ W, Mx W → Calls Tryz.prog 32 #[.string t, .string ⟨#[61]⟩] W fun e w' => e = .returned (.tuple #[.string (ba c1), .string (ba c2), .bool c3]) ∧ Below W.heap.size W w') := fun W hW => by
    obtain ⟨m, hm⟩ := hW
    refine (Tryz.strings_Cut t ⟨#[61]⟩ m W (by omega) hm).mono ?_
    rintro e w' ⟨rfl, k, rfl⟩
    refine ⟨?_, below_drewN (Below.refl _ _) k⟩
    show Ending.returned (.tuple #[.string ⟨(Lib.cut (bl t) [61]).1.toArray⟩, .string ⟨(Lib.cut (bl t) [61]).2.1.toArray⟩, .bool (Lib.cut (bl t) [61]).2.2]) = _
    rw [hcu]; rfl
  have HB0 := one_new w
  have HMx : Hid (∀ W, Below w.heap.size w W → Mx W) := fun W hB => hmx.below hB hmx.pos
  clear hk hu hmx hcu hnb
  unfold wordsL at ht
  simp only [List.mem_cons, List.not_mem_nil, or_false, not_or] at ht
  obtain ⟨t1, t2, t3, t4, t5, t6, t7, t8, t9, t10, t11⟩ := ht
  replace t1 := ne_list (l := [84]) t1
  replace t2 := ne_list (l := [72]) t2
  replace t3 := ne_list (l := [69]) t3
  replace t4 := ne_list (l := [82]) t4
  replace t5 := ne_list (l := [79]) t5
  replace t6 := ne_list (l := [79, 114]) t6
  replace t7 := ne_list (l := [117]) t7
  replace t8 := ne_list (l := [114]) t8
  replace t9 := ne_list (l := [116, 108]) t9
  replace t10 := ne_list (l := [116, 117]) t10
  replace t11 := ne_list (l := [81]) t11
  have u1 : (t.toList == [84]) = false := beq_eq_false_iff_ne.2 t1
  have u2 : (t.toList == [72]) = false := beq_eq_false_iff_ne.2 t2
  have u3 : (t.toList == [69]) = false := beq_eq_false_iff_ne.2 t3
  have u4 : (t.toList == [82]) = false := beq_eq_false_iff_ne.2 t4
  have u5 : (t.toList == [79]) = false := beq_eq_false_iff_ne.2 t5
  have u6 : (t.toList == [79, 114]) = false := beq_eq_false_iff_ne.2 t6
  have u7 : (t.toList == [117]) = false := beq_eq_false_iff_ne.2 t7
  have u8 : (t.toList == [114]) = false := beq_eq_false_iff_ne.2 t8
  have u9 : (t.toList == [116, 108]) = false := beq_eq_false_iff_ne.2 t9
  have u10 : (t.toList == [116, 117]) = false := beq_eq_false_iff_ne.2 t10
  have u11 : (t.toList == [81]) = false := beq_eq_false_iff_ne.2 t11
  cases c3 with
  | false =>
    rw [if_neg (by simp)]
    dsimp only [Rd.val]
    go_enter Tryz.func19, Tryz.ntmps19
    go_wp2_with fail
    refine (HM.out _).mono ?_
    rintro e w' ⟨rfl, rfl⟩
    go_wp2_with fail
    refine (HN.out _).mono ?_
    rintro e w' ⟨rfl, rfl⟩
    go_wp2_with fail
    refine (HS.out _).mono ?_
    rintro e w' ⟨rfl, rfl⟩
    go_wp2_with fail
    refine (HC.out _).mono ?_
    rintro e w' ⟨rfl, rfl⟩
    go_wp2_with fail
    refine (HU.out _).mono ?_
    rintro e w1 ⟨rfl, hb1⟩
    rw [World.size_alloc] at hb1
    have HZ : Hid (Below (w.heap.size + 1) (w.alloc (.cells zeroMd 50)) w1 ∧ Below w.heap.size w w1) := ⟨hb1, (HB0.out w1 hb1).2⟩
    clear hb1
    go_wp2_with fail
    refine (HCu.out _ (HMx.out _ HZ.out.2)).mono ?_
    rintro e w2 ⟨rfl, hb2⟩
    obtain ⟨hblk, hlow⟩ := HB0.out w2 (HZ.out.1.trans (hb2.mono (by have := HZ.out.1.size; simpa using this)))
    clear hb2 HZ
    obtain ⟨⟨r0, r1, r2, r3, r4, r5, r6, r7, r8, r9, r10, r11⟩, hfz⟩ := mod_cells hblk
    have HBk : Hid (w2.heap[w.heap.size]? = some (.cells zeroMd 50 (0, 0))) := hblk
    clear hblk
    go_wp2
    obtain ⟨W, hW⟩ : ∃ W, W = setMd w2 w.heap.size E E E false false none false false 0 0 0 0 := ⟨_, rfl⟩
    have hWb : Below w.heap.size w W := by rw [hW]; exact setMd_below hlow (Nat.le_refl _)
    have hWh := setMd_heap (kind := E) (a := E) (c := E) (bg := false) (en := false) (ex := none) (al := false) (on := false) (mks := 0) (ots := 0) (frm := 0) (upto := 0) HBk.out
    rw [← hW] at hWh
    obtain ⟨⟨q0, q1, q2, q3, q4, q5, q6, q7, q8, q9, q10, q11⟩, _⟩ := mod_cells hWh
    show bodyPost Tryz.prog Tryz.f19 _ Exit.ret _ (setMd w2 w.heap.size E E E false false none false false 0 0 0 0)
    rw [← hW]
    refine bodyPost_ret (v := .tuple #[.agg zeroMd, .int .i64 0, .int .i64 12]) (by simp [results, Tryz.results19, go_sem, q0, q1, q2, q3, q4, q5, q6, q7, q8, q9, q10, q11]; try rfl) rfl ⟨rfl, hWb⟩
  | true =>
    rw [if_pos rfl]
    dsimp only [Rd.val, Md.cells]
    go_enter Tryz.func19, Tryz.ntmps19
    go_wp2_with fail
    refine (HM.out _).mono ?_
    rintro e w' ⟨rfl, rfl⟩
    go_wp2_with fail
    refine (HN.out _).mono ?_
    rintro e w' ⟨rfl, rfl⟩
    go_wp2_with fail
    refine (HS.out _).mono ?_
    rintro e w' ⟨rfl, rfl⟩
    go_wp2_with fail
    refine (HC.out _).mono ?_
    rintro e w' ⟨rfl, rfl⟩
    go_wp2_with fail
    refine (HU.out _).mono ?_
    rintro e w1 ⟨rfl, hb1⟩
    rw [World.size_alloc] at hb1
    have HZ : Hid (Below (w.heap.size + 1) (w.alloc (.cells zeroMd 50)) w1 ∧ Below w.heap.size w w1) := ⟨hb1, (HB0.out w1 hb1).2⟩
    clear hb1
    go_wp2_with fail
    refine (HCu.out _ (HMx.out _ HZ.out.2)).mono ?_
    rintro e w2 ⟨rfl, hb2⟩
    obtain ⟨hblk, hlow⟩ := HB0.out w2 (HZ.out.1.trans (hb2.mono (by have := HZ.out.1.size; simpa using this)))
    clear hb2 HZ
    obtain ⟨⟨r0, r1, r2, r3, r4, r5, r6, r7, r8, r9, r10, r11⟩, hfz⟩ := mod_cells hblk
    have HBk : Hid (w2.heap[w.heap.size]? = some (.cells zeroMd 50 (0, 0))) := hblk
    clear hblk
    go_wp2
    obtain ⟨W, hW⟩ : ∃ W, W = setMd w2 w.heap.size ⟨#[61]⟩ (ba c1) (ba c2) false false none false false 0 0 0 0 := ⟨_, rfl⟩
    have hWb : Below w.heap.size w W := by rw [hW]; exact setMd_below hlow (Nat.le_refl _)
    have hWh := setMd_heap (kind := ⟨#[61]⟩) (a := ba c1) (c := ba c2) (bg := false) (en := false) (ex := none) (al := false) (on := false) (mks := 0) (ots := 0) (frm := 0) (upto := 0) HBk.out
    rw [← hW] at hWh
    obtain ⟨⟨q0, q1, q2, q3, q4, q5, q6, q7, q8, q9, q10, q11⟩, _⟩ := mod_cells hWh
    show bodyPost Tryz.prog Tryz.f19 _ Exit.ret _ (setMd w2 w.heap.size ⟨#[61]⟩ (ba c1) (ba c2) false false none false false 0 0 0 0)
    rw [← hW]
    refine bodyPost_ret (v := .tuple #[.agg (mdV ⟨#[61]⟩ (ba c1) (ba c2) false false none false false 0 0 0 0), .int .i64 n, .int .i64 0]) (by simp [results, Tryz.results19, go_sem, q0, q1, q2, q3, q4, q5, q6, q7, q8, q9, q10, q11]; try rfl) rfl ⟨rfl, hWb⟩
set_option maxHeartbeats 3200000 in
theorem read_eq_C2 (s t : ByteArray) (n : Nat) (f : Bool) (w : World) (hs : s.size ≤ 1000000) (hk : headIs s 67 = true) (hz : 1 < s.size) (hp : partsB s[1] = false) (hu : untilL 58 (bl s) = (bl t, n, f)) (ht : t ∉ wordsL) (hmx : Mx w) :
    Calls Tryz.prog 19 #[.string s] w fun e w' => e = .returned (if (Lib.cut (bl t) [61]).2.2 = true then (Rd.ok { kind := ⟨#[61]⟩, a := ba (Lib.cut (bl t) [61]).1, b := ba (Lib.cut (bl t) [61]).2.1 } n) else .bad 12).val ∧ Below w.heap.size w w' := by
  have HM := pre_is (head_not (d := 77) hk (by decide))
  have HN := pre_is (head_not (d := 78) hk (by decide))
  have HS := pre_is (head_not (d := 83) hk (by decide))
  have HC := pre_is hk
  have hzi : (1 : Int) < (s.size : Int) := by omega
  obtain ⟨dn, hdn⟩ : ∃ dn : Int, dn = (s[1].toNat : Int) := ⟨_, rfl⟩
  have HPa : Hid (∀ W, Calls Tryz.prog 29 #[.int .u8 dn] W fun e w' => e = .returned (.bool false) ∧ W = w') := fun W => by
    have := parts_any s[1] dn W hdn; rw [hp] at this; exact this
  have hgk : (s[1].toNat : Int) = dn := hdn.symm
  clear hdn hp
  have HU : Hid (∀ W, Calls Tryz.prog 28 #[.string s, .int .u8 58] W fun x w' => x = .returned (.tuple #[.string t, .int .i64 n, .bool f]) ∧ Below W.heap.size W w') := fun W => by
    have := until_any s 58 W hs
    unfold untilV at this
    rw [hu, ba_bl] at this
    exact this
  have hnb := (until_len 58 (bl s))
  rw [hu, bl_length, bl_length] at hnb
  simp only at hnb
  have hnb1 : n ≤ 1000000 := by omega
  rcases hcu : Lib.cut (bl t) [61] with ⟨c1, c2, c3⟩
  have HCu : Hid (∀ W, Mx W → Calls Tryz.prog 32 #[.string t, .string ⟨#[61]⟩] W fun e w' => e = .returned (.tuple #[.string (ba c1), .string (ba c2), .bool c3]) ∧ Below W.heap.size W w') := fun W hW => by
    obtain ⟨m, hm⟩ := hW
    refine (Tryz.strings_Cut t ⟨#[61]⟩ m W (by omega) hm).mono ?_
    rintro e w' ⟨rfl, k, rfl⟩
    refine ⟨?_, below_drewN (Below.refl _ _) k⟩
    show Ending.returned (.tuple #[.string ⟨(Lib.cut (bl t) [61]).1.toArray⟩, .string ⟨(Lib.cut (bl t) [61]).2.1.toArray⟩, .bool (Lib.cut (bl t) [61]).2.2]) = _
    rw [hcu]; rfl
  have HB0 := one_new w
  have HMx : Hid (∀ W, Below w.heap.size w W → Mx W) := fun W hB => hmx.below hB hmx.pos
  clear hk hu hmx hcu hnb
  unfold wordsL at ht
  simp only [List.mem_cons, List.not_mem_nil, or_false, not_or] at ht
  obtain ⟨t1, t2, t3, t4, t5, t6, t7, t8, t9, t10, t11⟩ := ht
  replace t1 := ne_list (l := [84]) t1
  replace t2 := ne_list (l := [72]) t2
  replace t3 := ne_list (l := [69]) t3
  replace t4 := ne_list (l := [82]) t4
  replace t5 := ne_list (l := [79]) t5
  replace t6 := ne_list (l := [79, 114]) t6
  replace t7 := ne_list (l := [117]) t7
  replace t8 := ne_list (l := [114]) t8
  replace t9 := ne_list (l := [116, 108]) t9
  replace t10 := ne_list (l := [116, 117]) t10
  replace t11 := ne_list (l := [81]) t11
  have u1 : (t.toList == [84]) = false := beq_eq_false_iff_ne.2 t1
  have u2 : (t.toList == [72]) = false := beq_eq_false_iff_ne.2 t2
  have u3 : (t.toList == [69]) = false := beq_eq_false_iff_ne.2 t3
  have u4 : (t.toList == [82]) = false := beq_eq_false_iff_ne.2 t4
  have u5 : (t.toList == [79]) = false := beq_eq_false_iff_ne.2 t5
  have u6 : (t.toList == [79, 114]) = false := beq_eq_false_iff_ne.2 t6
  have u7 : (t.toList == [117]) = false := beq_eq_false_iff_ne.2 t7
  have u8 : (t.toList == [114]) = false := beq_eq_false_iff_ne.2 t8
  have u9 : (t.toList == [116, 108]) = false := beq_eq_false_iff_ne.2 t9
  have u10 : (t.toList == [116, 117]) = false := beq_eq_false_iff_ne.2 t10
  have u11 : (t.toList == [81]) = false := beq_eq_false_iff_ne.2 t11
  cases c3 with
  | false =>
    rw [if_neg (by simp)]
    dsimp only [Rd.val]
    go_enter Tryz.func19, Tryz.ntmps19
    go_wp2_with fail
    refine (HM.out _).mono ?_
    rintro e w' ⟨rfl, rfl⟩
    go_wp2_with fail
    refine (HN.out _).mono ?_
    rintro e w' ⟨rfl, rfl⟩
    go_wp2_with fail
    refine (HS.out _).mono ?_
    rintro e w' ⟨rfl, rfl⟩
    go_wp2_with fail
    refine (HC.out _).mono ?_
    rintro e w' ⟨rfl, rfl⟩
    go_wp2_with fail
    refine (HPa.out _).mono ?_
    rintro e w' ⟨rfl, rfl⟩
    go_wp2_with fail
    refine (HU.out _).mono ?_
    rintro e w1 ⟨rfl, hb1⟩
    rw [World.size_alloc] at hb1
    have HZ : Hid (Below (w.heap.size + 1) (w.alloc (.cells zeroMd 50)) w1 ∧ Below w.heap.size w w1) := ⟨hb1, (HB0.out w1 hb1).2⟩
    clear hb1
    go_wp2_with fail
    refine (HCu.out _ (HMx.out _ HZ.out.2)).mono ?_
    rintro e w2 ⟨rfl, hb2⟩
    obtain ⟨hblk, hlow⟩ := HB0.out w2 (HZ.out.1.trans (hb2.mono (by have := HZ.out.1.size; simpa using this)))
    clear hb2 HZ
    obtain ⟨⟨r0, r1, r2, r3, r4, r5, r6, r7, r8, r9, r10, r11⟩, hfz⟩ := mod_cells hblk
    have HBk : Hid (w2.heap[w.heap.size]? = some (.cells zeroMd 50 (0, 0))) := hblk
    clear hblk
    go_wp2
    obtain ⟨W, hW⟩ : ∃ W, W = setMd w2 w.heap.size E E E false false none false false 0 0 0 0 := ⟨_, rfl⟩
    have hWb : Below w.heap.size w W := by rw [hW]; exact setMd_below hlow (Nat.le_refl _)
    have hWh := setMd_heap (kind := E) (a := E) (c := E) (bg := false) (en := false) (ex := none) (al := false) (on := false) (mks := 0) (ots := 0) (frm := 0) (upto := 0) HBk.out
    rw [← hW] at hWh
    obtain ⟨⟨q0, q1, q2, q3, q4, q5, q6, q7, q8, q9, q10, q11⟩, _⟩ := mod_cells hWh
    show bodyPost Tryz.prog Tryz.f19 _ Exit.ret _ (setMd w2 w.heap.size E E E false false none false false 0 0 0 0)
    rw [← hW]
    refine bodyPost_ret (v := .tuple #[.agg zeroMd, .int .i64 0, .int .i64 12]) (by simp [results, Tryz.results19, go_sem, q0, q1, q2, q3, q4, q5, q6, q7, q8, q9, q10, q11]; try rfl) rfl ⟨rfl, hWb⟩
  | true =>
    rw [if_pos rfl]
    dsimp only [Rd.val, Md.cells]
    go_enter Tryz.func19, Tryz.ntmps19
    go_wp2_with fail
    refine (HM.out _).mono ?_
    rintro e w' ⟨rfl, rfl⟩
    go_wp2_with fail
    refine (HN.out _).mono ?_
    rintro e w' ⟨rfl, rfl⟩
    go_wp2_with fail
    refine (HS.out _).mono ?_
    rintro e w' ⟨rfl, rfl⟩
    go_wp2_with fail
    refine (HC.out _).mono ?_
    rintro e w' ⟨rfl, rfl⟩
    go_wp2_with fail
    refine (HPa.out _).mono ?_
    rintro e w' ⟨rfl, rfl⟩
    go_wp2_with fail
    refine (HU.out _).mono ?_
    rintro e w1 ⟨rfl, hb1⟩
    rw [World.size_alloc] at hb1
    have HZ : Hid (Below (w.heap.size + 1) (w.alloc (.cells zeroMd 50)) w1 ∧ Below w.heap.size w w1) := ⟨hb1, (HB0.out w1 hb1).2⟩
    clear hb1
    go_wp2_with fail
    refine (HCu.out _ (HMx.out _ HZ.out.2)).mono ?_
    rintro e w2 ⟨rfl, hb2⟩
    obtain ⟨hblk, hlow⟩ := HB0.out w2 (HZ.out.1.trans (hb2.mono (by have := HZ.out.1.size; simpa using this)))
    clear hb2 HZ
    obtain ⟨⟨r0, r1, r2, r3, r4, r5, r6, r7, r8, r9, r10, r11⟩, hfz⟩ := mod_cells hblk
    have HBk : Hid (w2.heap[w.heap.size]? = some (.cells zeroMd 50 (0, 0))) := hblk
    clear hblk
    go_wp2
    obtain ⟨W, hW⟩ : ∃ W, W = setMd w2 w.heap.size ⟨#[61]⟩ (ba c1) (ba c2) false false none false false 0 0 0 0 := ⟨_, rfl⟩
    have hWb : Below w.heap.size w W := by rw [hW]; exact setMd_below hlow (Nat.le_refl _)
    have hWh := setMd_heap (kind := ⟨#[61]⟩) (a := ba c1) (c := ba c2) (bg := false) (en := false) (ex := none) (al := false) (on := false) (mks := 0) (ots := 0) (frm := 0) (upto := 0) HBk.out
    rw [← hW] at hWh
    obtain ⟨⟨q0, q1, q2, q3, q4, q5, q6, q7, q8, q9, q10, q11⟩, _⟩ := mod_cells hWh
    show bodyPost Tryz.prog Tryz.f19 _ Exit.ret _ (setMd w2 w.heap.size ⟨#[61]⟩ (ba c1) (ba c2) false false none false false 0 0 0 0)
    rw [← hW]
    refine bodyPost_ret (v := .tuple #[.agg (mdV ⟨#[61]⟩ (ba c1) (ba c2) false false none false false 0 0 0 0), .int .i64 n, .int .i64 0]) (by simp [results, Tryz.results19, go_sem, q0, q1, q2, q3, q4, q5, q6, q7, q8, q9, q10, q11]; try rfl) rfl ⟨rfl, hWb⟩
end Go.Proofs.YtedepknbaakkhaaGreatDoor
namespace Go.Proofs.YtedepknbaakkhaaGreatDoor
open Go.RowKit Go.Shelf
open Classical in
noncomputable def plainU (l : List UInt8) : Ru :=
  if ba (untilL 58 l).1 ∈ wordsL then .ok { md := { kind := ba (untilL 58 l).1 } } (untilL 58 l).2.1
  else if (Lib.cut (untilL 58 l).1 [61]).2.2 = true then .ok { md := { kind := ⟨#[61]⟩, a := ba (Lib.cut (untilL 58 l).1 [61]).1, b := ba (Lib.cut (untilL 58 l).1 [61]).2.1 } } (untilL 58 l).2.1 else .bad 12
def Ru.of : Rd → Ru
  | .bad why => .bad why
  | .ok m n => .ok { md := m } n
open Classical in
noncomputable def readU (s : List UInt8) : Ru :=
  if s.head? = some 77 ∨ s.head? = some 78 then .ok { md := { kind := ba (s.take 1), a := ba (untilL 58 (s.drop 1)).1 } } ((untilL 58 (s.drop 1)).2.1 + 1)
  else if (s.head? = some 83 ∨ s.head? = some 67) ∧ (∃ d, s[1]? = some d ∧ partsB d = true) then (if s.head? = some 83 then Ru.of (changeS (s.getD 1 0) s) else changeC (s.getD 1 0) s)
  else if s.head? = some 91 then Ru.of (choR s)
  else plainU s
theorem ru_of {r : Rd} {w : World} {e : Ending} {w' : World} (h : e = .returned r.val ∧ Below w.heap.size w w') : RuPost (.of r) w e w' := by
  cases r with
  | bad why => exact ⟨h.2, h.1⟩
  | ok m n => exact ⟨h.2, m, h.1, rfl⟩
theorem head_t {s : ByteArray} {c : UInt8} (h : (bl s).head? = some c) : headIs s c = true := by unfold headIs; simpa using h
theorem head_f {s : ByteArray} {c : UInt8} (h : ¬ (bl s).head? = some c) : headIs s c = false := by unfold headIs; simpa using h
theorem until_head {c : UInt8} {l : List UInt8} (h : l.head? = some c) (h1 : c ≠ 58) (h2 : c ≠ 92) : (untilL 58 l).1.head? = some c := by
  cases l with
  | nil => cases h
  | cons b t =>
    obtain rfl : b = c := Option.some.inj h
    rw [until_go (fun x => h2 x.1) h1]; rfl
theorem words_not {l : List UInt8} {c : UInt8} (h : l.head? = some c) (hc : c = 83 ∨ c = 67) : ba l ∉ wordsL := by
  intro hm
  have h2 : ∀ x ∈ wordsL, (bl x).head? ≠ some 83 ∧ (bl x).head? ≠ some 67 := by
    intro x hx
    unfold wordsL at hx
    simp only [List.mem_cons, List.not_mem_nil, or_false] at hx
    rcases hx with rfl | rfl | rfl | rfl | rfl | rfl | rfl | rfl | rfl | rfl | rfl <;> exact ⟨by simp [bl], by simp [bl]⟩
  have h3 := h2 _ hm
  rw [bl_ba, h] at h3
  rcases hc with rfl | rfl
  · exact h3.1 rfl
  · exact h3.2 rfl
theorem plain_ru {s : ByteArray} {w : World} (hnw : ba (untilL 58 (bl s)).1 ∉ wordsL)
    (h : ∀ (t : ByteArray) (n : Nat) (f : Bool), untilL 58 (bl s) = (bl t, n, f) → t ∉ wordsL → Calls Tryz.prog 19 #[.string s] w fun e w' => e = .returned (if (Lib.cut (bl t) [61]).2.2 = true then (Rd.ok { kind := ⟨#[61]⟩, a := ba (Lib.cut (bl t) [61]).1, b := ba (Lib.cut (bl t) [61]).2.1 } n) else .bad 12).val ∧ Below w.heap.size w w') :
    Calls Tryz.prog 19 #[.string s] w (RuPost (plainU (bl s)) w) := by
  rcases hu : untilL 58 (bl s) with ⟨t, n, f⟩
  rw [hu] at hnw
  refine (h (ba t) n f (by rw [hu, bl_ba]) hnw).mono ?_
  rintro e w' ⟨he, hb⟩
  unfold plainU
  rw [hu, if_neg hnw]
  rw [bl_ba] at he
  dsimp only
  by_cases hc : (Lib.cut t [61]).2.2 = true
  · rw [if_pos hc] at he ⊢
    exact ⟨hb, _, he, rfl⟩
  · rw [if_neg hc] at he ⊢
    exact ⟨hb, he⟩
theorem getD_one {s : ByteArray} (h : 1 < s.size) : (bl s).getD 1 0 = s[1] ∧ (bl s)[1]? = some s[1] := by
  have := bl_get s 1 h
  exact ⟨by rw [List.getD_eq_getElem?_getD, this]; rfl, this⟩
theorem read_any_ (s : ByteArray) (w : World) (hs : s.size ≤ 1000000) (hmx : Mx w) (hE : Ey w) : Calls Tryz.prog 19 #[.string s] w (RuPost (readU (bl s)) w) := by
  by_cases h1 : (bl s).head? = some 77 ∨ (bl s).head? = some 78
  · have hr : readU (bl s) = .ok { md := { kind := ba ((bl s).take 1), a := ba (untilL 58 ((bl s).drop 1)).1 } } ((untilL 58 ((bl s).drop 1)).2.1 + 1) := if_pos h1
    have hx : s.extract 0 1 = ba ((bl s).take 1) := bl_inj (by rw [bl_ba, bl_extract]; rfl)
    rw [hr]
    have fin : ∀ (e : Ending) (w' : World), (e = .returned (.tuple #[.agg (mdV (s.extract 0 1) (ba (untilL 58 (bl (s.extract 1 s.size))).1) E false false none false false 0 0 0 0), .int .i64 ((untilL 58 (bl (s.extract 1 s.size))).2.1 + 1), .int .i64 0]) ∧ Below w.heap.size w w') → RuPost (.ok { md := { kind := ba ((bl s).take 1), a := ba (untilL 58 ((bl s).drop 1)).1 } } ((untilL 58 ((bl s).drop 1)).2.1 + 1)) w e w' := fun e w' h => by
      refine ⟨h.2, _, ?_, rfl⟩
      rw [h.1, hx, bl_rest]; rfl
    rcases h1 with h1 | h1
    · have hk := head_t h1
      exact (read_m s w hs (head_pos hk) hk).mono fin
    · have hk := head_t h1
      exact (read_n s w hs (head_pos hk) hk).mono fin
  · have n77 := head_f fun h => h1 (.inl h)
    have n78 := head_f fun h => h1 (.inr h)
    by_cases h2 : ((bl s).head? = some 83 ∨ (bl s).head? = some 67) ∧ (∃ d, (bl s)[1]? = some d ∧ partsB d = true)
    · have hr : readU (bl s) = if (bl s).head? = some 83 then Ru.of (changeS ((bl s).getD 1 0) (bl s)) else changeC ((bl s).getD 1 0) (bl s) := by unfold readU; rw [if_neg h1, if_pos h2]
      obtain ⟨hh, d, hd, hpd⟩ := h2
      have hsz : 1 < s.size := by have := (List.getElem?_eq_some_iff.1 hd).1; rw [bl_length] at this; exact this
      obtain ⟨g1, g2⟩ := getD_one hsz
      rw [g2] at hd
      obtain rfl : s[1] = d := Option.some.inj hd
      rw [hr, g1]
      by_cases h83 : (bl s).head? = some 83
      · rw [if_pos h83]
        exact (read_s s w hs (by omega) (head_t h83) hpd hmx).mono fun e w' h => ru_of h
      · rw [if_neg h83]
        exact read_c s w hs (by omega) (head_t (hh.resolve_left h83)) hpd hmx
    · by_cases h3 : (bl s).head? = some 91
      · have hr : readU (bl s) = Ru.of (choR (bl s)) := by unfold readU; rw [if_neg h1, if_neg h2, if_pos h3]
        rw [hr]
        have hk := head_t h3
        exact (read_b s w hs (head_pos hk) hk hmx hE).mono fun e w' h => ru_of h
      · have hr : readU (bl s) = plainU (bl s) := by unfold readU; rw [if_neg h1, if_neg h2, if_neg h3]
        rw [hr]
        by_cases h4 : (bl s).head? = some 83 ∨ (bl s).head? = some 67
        · have hnp : ∀ h : 1 < s.size, partsB s[1] = false := fun h => by
            cases hp : partsB s[1] with
            | false => rfl
            | true => exact absurd ⟨h4, s[1], (getD_one h).2, hp⟩ h2
          have hnw : ba (untilL 58 (bl s)).1 ∉ wordsL := by
            rcases h4 with h | h
            · exact words_not (until_head h (by decide) (by decide)) (.inl rfl)
            · exact words_not (until_head h (by decide) (by decide)) (.inr rfl)
          refine plain_ru hnw fun t n f hu ht => ?_
          by_cases hz : 1 < s.size
          · rcases h4 with h | h
            · exact read_eq_S2 s t n f w hs (head_t h) hz (hnp hz) hu ht hmx
            · exact read_eq_C2 s t n f w hs (head_t h) hz (hnp hz) hu ht hmx
          · rcases h4 with h | h
            · exact read_eq_S1 s t n f w hs (head_t h) hz hu ht hmx
            · exact read_eq_C1 s t n f w hs (head_t h) hz hu ht hmx
        · have hp : Plain s := ⟨n77, n78, head_f fun h => h4 (.inl h), head_f fun h => h4 (.inr h), head_f h3⟩
          by_cases hw : ba (untilL 58 (bl s)).1 ∈ wordsL
          · rcases hu : untilL 58 (bl s) with ⟨t, n, f⟩
            rw [hu] at hw
            refine (read_word s (ba t) n f w hs hp (by rw [hu, bl_ba]) hw).mono ?_
            rintro e w' ⟨he, hb⟩
            unfold plainU
            rw [hu, if_pos hw]
            exact ⟨hb, _, he, rfl⟩
          · exact plain_ru hw fun t n f hu ht => read_eq s t n f w hs hp hu ht hmx
end Go.Proofs.YtedepknbaakkhaaGreatDoor
