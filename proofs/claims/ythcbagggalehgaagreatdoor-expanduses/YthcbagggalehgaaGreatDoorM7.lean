/-
  read, of a=b.
-/
import Derived.Test.YthcbagggalehgaaGreatDoorM6
namespace Go.Proofs.YthcbagggalehgaaGreatDoor
open Go.RowKit Go.Shelf

theorem ne_list {t : ByteArray} {l : List UInt8} (h : ¬ t = ⟨l.toArray⟩) : ¬ t.toList = l := by
  rw [Lib.toList_data]; intro e; exact h (bl_inj (by rw [show bl t = l from e]; exact (bl_ba l).symm))
set_option maxRecDepth 20000 in
set_option maxHeartbeats 3200000 in
theorem read_eq (s t : ByteArray) (n : Nat) (f : Bool) (w : World) (hs : s.size ≤ 1000000) (hk : Plain s) (hu : untilL 58 (bl s) = (bl t, n, f)) (ht : t ∉ wordsL) (hmx : Mx w) :
    Calls Tryz.prog 101 #[.string s] w fun e w' => e = .returned (if (Lib.cut (bl t) [61]).2.2 = true then (Rd.ok { kind := ⟨#[61]⟩, a := ba (Lib.cut (bl t) [61]).1, b := ba (Lib.cut (bl t) [61]).2.1 } n) else .bad 12).val ∧ Below w.heap.size w w' := by
  have HM := pre_is hk.1
  have HN := pre_is hk.2.1
  have HS := pre_is hk.2.2.1
  have HC := pre_is hk.2.2.2.1
  have HL := pre_is hk.2.2.2.2
  have HU : Hid (∀ W, Calls Tryz.prog 107 #[.string s, .int .u8 58] W fun x w' => x = .returned (.tuple #[.string t, .int .i64 n, .bool f]) ∧ Below W.heap.size W w') := fun W => by
    have := until_any s 58 W hs
    unfold untilV at this
    rw [hu, ba_bl] at this
    exact this
  have hnb := (until_len 58 (bl s))
  rw [hu, bl_length, bl_length] at hnb
  simp only at hnb
  have hnb1 : n ≤ 1000000 := by omega
  rcases hcu : Lib.cut (bl t) [61] with ⟨c1, c2, c3⟩
  have HCu : Hid (∀ W, Mx W → Calls Tryz.prog 111 #[.string t, .string ⟨#[61]⟩] W fun e w' => e = .returned (.tuple #[.string (ba c1), .string (ba c2), .bool c3]) ∧ Below W.heap.size W w') := fun W hW => by
    obtain ⟨m, hm⟩ := hW
    refine (Tryz.strings_Cut t ⟨#[61]⟩ m W (by omega) hm).mono ?_
    rintro e w' ⟨rfl, k, rfl⟩
    refine ⟨?_, below_drewN (Below.refl _ _) k⟩
    show Ending.returned (.tuple #[.string ⟨(Lib.cut (bl t) [61]).1.toArray⟩, .string ⟨(Lib.cut (bl t) [61]).2.1.toArray⟩, .bool (Lib.cut (bl t) [61]).2.2]) = _
    rw [hcu]; rfl
  have HB0 := one_new w
  have HMx : Hid (∀ W, Below w.heap.size w W → Mx W) := fun W hB => hmx.below hB hmx.pos
  clear hk hu hmx hcu hnb
  unfold wordsL at ht
  simp only [List.mem_cons, List.not_mem_nil, or_false, not_or] at ht
  obtain ⟨t1, t2, t3, t4, t5, t6, t7, t8, t9, t10, t11⟩ := ht
  replace t1 := ne_list (l := [84]) t1
  replace t2 := ne_list (l := [72]) t2
  replace t3 := ne_list (l := [69]) t3
  replace t4 := ne_list (l := [82]) t4
  replace t5 := ne_list (l := [79]) t5
  replace t6 := ne_list (l := [79, 114]) t6
  replace t7 := ne_list (l := [117]) t7
  replace t8 := ne_list (l := [114]) t8
  replace t9 := ne_list (l := [116, 108]) t9
  replace t10 := ne_list (l := [116, 117]) t10
  replace t11 := ne_list (l := [81]) t11
  have u1 : (t.toList == [84]) = false := beq_eq_false_iff_ne.2 t1
  have u2 : (t.toList == [72]) = false := beq_eq_false_iff_ne.2 t2
  have u3 : (t.toList == [69]) = false := beq_eq_false_iff_ne.2 t3
  have u4 : (t.toList == [82]) = false := beq_eq_false_iff_ne.2 t4
  have u5 : (t.toList == [79]) = false := beq_eq_false_iff_ne.2 t5
  have u6 : (t.toList == [79, 114]) = false := beq_eq_false_iff_ne.2 t6
  have u7 : (t.toList == [117]) = false := beq_eq_false_iff_ne.2 t7
  have u8 : (t.toList == [114]) = false := beq_eq_false_iff_ne.2 t8
  have u9 : (t.toList == [116, 108]) = false := beq_eq_false_iff_ne.2 t9
  have u10 : (t.toList == [116, 117]) = false := beq_eq_false_iff_ne.2 t10
  have u11 : (t.toList == [81]) = false := beq_eq_false_iff_ne.2 t11
  cases c3 with
  | false =>
    rw [if_neg (by simp)]
    dsimp only [Rd.val]
    go_enter Tryz.func101, Tryz.ntmps101
    go_wp2_with fail
    refine (HM.out _).mono ?_
    rintro e w' ⟨rfl, rfl⟩
    go_wp2_with fail
    refine (HN.out _).mono ?_
    rintro e w' ⟨rfl, rfl⟩
    go_wp2_with fail
    refine (HS.out _).mono ?_
    rintro e w' ⟨rfl, rfl⟩
    go_wp2_with fail
    refine (HC.out _).mono ?_
    rintro e w' ⟨rfl, rfl⟩
    go_wp2_with fail
    refine (HL.out _).mono ?_
    rintro e w' ⟨rfl, rfl⟩
    go_wp2_with fail
    refine (HU.out _).mono ?_
    rintro e w1 ⟨rfl, hb1⟩
    rw [World.size_alloc] at hb1
    have HZ : Hid (Below (w.heap.size + 1) (w.alloc (.cells zeroMd 157)) w1 ∧ Below w.heap.size w w1) := ⟨hb1, (HB0.out w1 hb1).2⟩
    clear hb1
    go_wp2_with fail
    refine (HCu.out _ (HMx.out _ HZ.out.2)).mono ?_
    rintro e w2 ⟨rfl, hb2⟩
    obtain ⟨hblk, hlow⟩ := HB0.out w2 (HZ.out.1.trans (hb2.mono (by have := HZ.out.1.size; simpa using this)))
    clear hb2 HZ
    obtain ⟨⟨r0, r1, r2, r3, r4, r5, r6, r7, r8, r9, r10, r11⟩, hfz⟩ := mod_cells hblk
    have HBk : Hid (w2.heap[w.heap.size]? = some (.cells zeroMd 157 (0, 0))) := hblk
    clear hblk
    go_wp2
    obtain ⟨W, hW⟩ : ∃ W, W = setMd w2 w.heap.size E E E false false none false false 0 0 0 0 := ⟨_, rfl⟩
    have hWb : Below w.heap.size w W := by rw [hW]; exact setMd_below hlow (Nat.le_refl _)
    have hWh := setMd_heap (kind := E) (a := E) (c := E) (bg := false) (en := false) (ex := none) (al := false) (on := false) (mks := 0) (ots := 0) (frm := 0) (upto := 0) HBk.out
    rw [← hW] at hWh
    obtain ⟨⟨q0, q1, q2, q3, q4, q5, q6, q7, q8, q9, q10, q11⟩, _⟩ := mod_cells hWh
    show bodyPost Tryz.prog Tryz.f101 _ Exit.ret _ (setMd w2 w.heap.size E E E false false none false false 0 0 0 0)
    rw [← hW]
    refine bodyPost_ret (v := .tuple #[.agg zeroMd, .int .i64 0, .int .i64 12]) (by simp [results, Tryz.results101, go_sem, q0, q1, q2, q3, q4, q5, q6, q7, q8, q9, q10, q11]; try rfl) rfl ⟨rfl, hWb⟩
  | true =>
    rw [if_pos rfl]
    dsimp only [Rd.val, Md.cells]
    go_enter Tryz.func101, Tryz.ntmps101
    go_wp2_with fail
    refine (HM.out _).mono ?_
    rintro e w' ⟨rfl, rfl⟩
    go_wp2_with fail
    refine (HN.out _).mono ?_
    rintro e w' ⟨rfl, rfl⟩
    go_wp2_with fail
    refine (HS.out _).mono ?_
    rintro e w' ⟨rfl, rfl⟩
    go_wp2_with fail
    refine (HC.out _).mono ?_
    rintro e w' ⟨rfl, rfl⟩
    go_wp2_with fail
    refine (HL.out _).mono ?_
    rintro e w' ⟨rfl, rfl⟩
    go_wp2_with fail
    refine (HU.out _).mono ?_
    rintro e w1 ⟨rfl, hb1⟩
    rw [World.size_alloc] at hb1
    have HZ : Hid (Below (w.heap.size + 1) (w.alloc (.cells zeroMd 157)) w1 ∧ Below w.heap.size w w1) := ⟨hb1, (HB0.out w1 hb1).2⟩
    clear hb1
    go_wp2_with fail
    refine (HCu.out _ (HMx.out _ HZ.out.2)).mono ?_
    rintro e w2 ⟨rfl, hb2⟩
    obtain ⟨hblk, hlow⟩ := HB0.out w2 (HZ.out.1.trans (hb2.mono (by have := HZ.out.1.size; simpa using this)))
    clear hb2 HZ
    obtain ⟨⟨r0, r1, r2, r3, r4, r5, r6, r7, r8, r9, r10, r11⟩, hfz⟩ := mod_cells hblk
    have HBk : Hid (w2.heap[w.heap.size]? = some (.cells zeroMd 157 (0, 0))) := hblk
    clear hblk
    go_wp2
    obtain ⟨W, hW⟩ : ∃ W, W = setMd w2 w.heap.size ⟨#[61]⟩ (ba c1) (ba c2) false false none false false 0 0 0 0 := ⟨_, rfl⟩
    have hWb : Below w.heap.size w W := by rw [hW]; exact setMd_below hlow (Nat.le_refl _)
    have hWh := setMd_heap (kind := ⟨#[61]⟩) (a := ba c1) (c := ba c2) (bg := false) (en := false) (ex := none) (al := false) (on := false) (mks := 0) (ots := 0) (frm := 0) (upto := 0) HBk.out
    rw [← hW] at hWh
    obtain ⟨⟨q0, q1, q2, q3, q4, q5, q6, q7, q8, q9, q10, q11⟩, _⟩ := mod_cells hWh
    show bodyPost Tryz.prog Tryz.f101 _ Exit.ret _ (setMd w2 w.heap.size ⟨#[61]⟩ (ba c1) (ba c2) false false none false false 0 0 0 0)
    rw [← hW]
    refine bodyPost_ret (v := .tuple #[.agg (mdV ⟨#[61]⟩ (ba c1) (ba c2) false false none false false 0 0 0 0), .int .i64 n, .int .i64 0]) (by simp [results, Tryz.results101, go_sem, q0, q1, q2, q3, q4, q5, q6, q7, q8, q9, q10, q11]; try rfl) rfl ⟨rfl, hWb⟩
end Go.Proofs.YthcbagggalehgaaGreatDoor
