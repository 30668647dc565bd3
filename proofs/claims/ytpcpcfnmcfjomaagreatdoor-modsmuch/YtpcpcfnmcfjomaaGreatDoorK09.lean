/-
  M6 M7 M34 M35
-/
import Derived.Test.YtpcpcfnmcfjomaaGreatDoorK07
import Derived.Test.YtpcpcfnmcfjomaaGreatDoorK08
import Derived.Shelf.Strings.SlTrimAscii
import Derived.Lib.SmallJoins
namespace Go.Proofs.YtpcpcfnmcfjomaaGreatDoor
open Go.RowKit Go.Shelf
theorem one_new (w : World) : Hid (∀ W, Below (w.heap.size + 1) (w.alloc (.cells zeroMd 45)) W → W.heap[w.heap.size]? = some (.cells zeroMd 45 (0, 0)) ∧ Below w.heap.size w W) := fun W hB => by
  refine ⟨?_, ((Below.refl _ w).alloc (Nat.le_refl _) _).trans (hB.mono (by omega))⟩
  rw [hB.block w.heap.size (by omega)]; exact heap_alloc_new w _
set_option maxRecDepth 20000 in
set_option maxHeartbeats 1600000 in
theorem read_s (s : ByteArray) (w : World) (hs : s.size ≤ 1000000) (h2 : 2 ≤ s.size) (hk : headIs s 83 = true) (hp : partsB s[1] = true) (hmx : Mx w) :
    Calls Tryz.prog 12 #[.string s] w fun e w' => e = .returned (changeS s[1] (bl s)).val ∧ Below w.heap.size w w' := by
  have HP := pre_is hk
  have HM := pre_is (head_not (d := 77) hk (by decide))
  have HN := pre_is (head_not (d := 78) hk (by decide))
  obtain ⟨R, hR⟩ : ∃ R, R = changeS s[1] (bl s) := ⟨_, rfl⟩
  have HC : Hid (∀ W, Mx W → Calls Tryz.prog 22 #[.string s] W fun e w' => e = .returned R.val ∧ Below W.heap.size W w') := fun W hW => by
    rw [hR]; exact change_s s W hs h2 (ext_head hk) s[1] rfl hW
  rw [← hR]
  obtain ⟨dn, hdn⟩ : ∃ dn : Int, dn = (s[1].toNat : Int) := ⟨_, rfl⟩
  have HPa : Hid (∀ W, Calls Tryz.prog 21 #[.int .u8 dn] W fun e w' => e = .returned (.bool true) ∧ W = w') := fun W => by
    have := parts_any s[1] dn W hdn; rw [hp] at this; exact this
  have hgk : (s[1].toNat : Int) = dn := hdn.symm
  have h1i : (1 : Int) < (s.size : Int) := by omega
  have HMx : Hid (∀ W, Below w.heap.size w W → Mx W) := fun W hB => hmx.below hB hmx.pos
  have HB0 := one_new w
  clear hdn hp hk hmx hR
  go_enter Tryz.func12, Tryz.ntmps12
  go_wp2_with fail
  refine (HM.out _).mono ?_
  rintro e w' ⟨rfl, rfl⟩
  go_wp2_with fail
  refine (HN.out _).mono ?_
  rintro e w' ⟨rfl, rfl⟩
  go_wp2_with fail
  refine (HP.out _).mono ?_
  rintro e w' ⟨rfl, rfl⟩
  go_wp2_with fail
  refine (HPa.out _).mono ?_
  rintro e w' ⟨rfl, rfl⟩
  go_wp2_with fail
  refine (HC.out _ (HMx.out _ ((Below.refl _ w).alloc (Nat.le_refl _) _))).mono ?_
  rintro e w2 ⟨rfl, hb2⟩
  rw [World.size_alloc] at hb2
  obtain ⟨hblk, hlow⟩ := HB0.out w2 hb2
  obtain ⟨⟨r0, r1, r2, r3, r4, r5, r6, r7, r8, r9, r10, r11⟩, hfz⟩ := mod_cells hblk
  have HBk : Hid (w2.heap[w.heap.size]? = some (.cells zeroMd 45 (0, 0))) := hblk
  clear hblk
  cases R with
  | bad why =>
    dsimp only [Rd.val]
    go_wp2
    obtain ⟨W, hW⟩ : ∃ W, W = setMd w2 w.heap.size E E E false false none false false 0 0 0 0 := ⟨_, rfl⟩
    have hWb : Below w.heap.size w W := by rw [hW]; exact setMd_below hlow (Nat.le_refl _)
    have hWh := setMd_heap (kind := E) (a := E) (c := E) (bg := false) (en := false) (ex := none) (al := false) (on := false) (mks := 0) (ots := 0) (frm := 0) (upto := 0) HBk.out
    rw [← hW] at hWh
    obtain ⟨⟨q0, q1, q2, q3, q4, q5, q6, q7, q8, q9, q10, q11⟩, _⟩ := mod_cells hWh
    show bodyPost Tryz.prog Tryz.f12 _ Exit.ret _ (setMd w2 w.heap.size E E E false false none false false 0 0 0 0)
    rw [← hW]
    refine bodyPost_ret (v := .tuple #[.agg zeroMd, .int .i64 0, .int .i64 why]) (by simp [results, Tryz.results12, go_sem, q0, q1, q2, q3, q4, q5, q6, q7, q8, q9, q10, q11]; try rfl) rfl ⟨rfl, hWb⟩
  | ok m n =>
    obtain ⟨kind, a, c, bg, en, ex, al, on, mks, ots, frm, upto⟩ := m
    dsimp only [Rd.val, Md.cells]
    go_wp2
    obtain ⟨W, hW⟩ : ∃ W, W = setMd w2 w.heap.size kind a c bg en ex al on mks ots frm upto := ⟨_, rfl⟩
    have hWb : Below w.heap.size w W := by rw [hW]; exact setMd_below hlow (Nat.le_refl _)
    have hWh := setMd_heap (kind := kind) (a := a) (c := c) (bg := bg) (en := en) (ex := ex) (al := al) (on := on) (mks := mks) (ots := ots) (frm := frm) (upto := upto) HBk.out
    rw [← hW] at hWh
    obtain ⟨⟨q0, q1, q2, q3, q4, q5, q6, q7, q8, q9, q10, q11⟩, _⟩ := mod_cells hWh
    show bodyPost Tryz.prog Tryz.f12 _ Exit.ret _ (setMd w2 w.heap.size kind a c bg en ex al on mks ots frm upto)
    rw [← hW]
    refine bodyPost_ret (v := .tuple #[.agg (mdV kind a c bg en ex al on mks ots frm upto), .int .i64 n, .int .i64 0]) (by simp [results, Tryz.results12, go_sem, q0, q1, q2, q3, q4, q5, q6, q7, q8, q9, q10, q11]; try rfl) rfl ⟨rfl, hWb⟩
def Plain (s : ByteArray) : Prop := headIs s 77 = false ∧ headIs s 78 = false ∧ headIs s 83 = false ∧ headIs s 67 = false ∧ headIs s 91 = false
def wordsL : List ByteArray := [⟨#[84]⟩, ⟨#[72]⟩, ⟨#[69]⟩, ⟨#[82]⟩, ⟨#[79]⟩, ⟨#[79, 114]⟩, ⟨#[117]⟩, ⟨#[114]⟩, ⟨#[116, 108]⟩, ⟨#[116, 117]⟩, ⟨#[81]⟩]
set_option maxRecDepth 20000 in
set_option maxHeartbeats 3200000 in
theorem read_word (s t : ByteArray) (n : Nat) (f : Bool) (w : World) (hs : s.size ≤ 1000000) (hk : Plain s) (hu : untilL 58 (bl s) = (bl t, n, f)) (ht : t ∈ wordsL) :
    Calls Tryz.prog 12 #[.string s] w fun e w' => e = .returned (Rd.ok { kind := t } n).val ∧ Below w.heap.size w w' := by
  have HM := pre_is hk.1
  have HN := pre_is hk.2.1
  have HS := pre_is hk.2.2.1
  have HC := pre_is hk.2.2.2.1
  have HL := pre_is hk.2.2.2.2
  have HU : Hid (∀ W, Calls Tryz.prog 20 #[.string s, .int .u8 58] W fun x w' => x = .returned (.tuple #[.string t, .int .i64 n, .bool f]) ∧ Below W.heap.size W w') := fun W => by
    have := until_any s 58 W hs
    unfold untilV at this
    rw [hu, ba_bl] at this
    exact this
  have hnb : n ≤ 1000000 := by have := (until_len 58 (bl s)).2; rw [hu, bl_length] at this; simp only at this; omega
  have HB0 := one_new w
  clear hk hu
  dsimp only [Rd.val, Md.cells]
  obtain ⟨kd, hkd⟩ : ∃ kd, kd = t := ⟨_, rfl⟩
  have HK : Hid (kd = t) := hkd
  clear hkd
  unfold wordsL at ht
  simp only [List.mem_cons, List.not_mem_nil, or_false] at ht
  rcases ht with rfl | rfl | rfl | rfl | rfl | rfl | rfl | rfl | rfl | rfl | rfl
  all_goals
    go_enter Tryz.func12, Tryz.ntmps12
    go_wp2_with fail
    refine (HM.out _).mono ?_
    rintro e w' ⟨rfl, rfl⟩
    go_wp2_with fail
    refine (HN.out _).mono ?_
    rintro e w' ⟨rfl, rfl⟩
    go_wp2_with fail
    refine (HS.out _).mono ?_
    rintro e w' ⟨rfl, rfl⟩
    go_wp2_with fail
    refine (HC.out _).mono ?_
    rintro e w' ⟨rfl, rfl⟩
    go_wp2_with fail
    refine (HL.out _).mono ?_
    rintro e w' ⟨rfl, rfl⟩
    go_wp2_with fail
    refine (HU.out _).mono ?_
    rintro e w2 ⟨rfl, hb2⟩
    rw [World.size_alloc] at hb2
    obtain ⟨hblk, hlow⟩ := HB0.out w2 hb2
    obtain ⟨⟨r0, r1, r2, r3, r4, r5, r6, r7, r8, r9, r10, r11⟩, hfz⟩ := mod_cells hblk
    have HBk : Hid (w2.heap[w.heap.size]? = some (.cells zeroMd 45 (0, 0))) := hblk
    clear hblk
    go_wp2
    obtain ⟨W, hW⟩ : ∃ W, W = setMd w2 w.heap.size kd E E false false none false false 0 0 0 0 := ⟨_, rfl⟩
    have hWb : Below w.heap.size w W := by rw [hW]; exact setMd_below hlow (Nat.le_refl _)
    have hWh := setMd_heap (kind := kd) (a := E) (c := E) (bg := false) (en := false) (ex := none) (al := false) (on := false) (mks := 0) (ots := 0) (frm := 0) (upto := 0) HBk.out
    rw [← hW] at hWh
    obtain ⟨⟨q0, q1, q2, q3, q4, q5, q6, q7, q8, q9, q10, q11⟩, _⟩ := mod_cells hWh
    show bodyPost Tryz.prog Tryz.f12 _ Exit.ret _ (setMd w2 w.heap.size _ E E false false none false false 0 0 0 0)
    rw [← HK.out, ← hW]
    refine bodyPost_ret (v := .tuple #[.agg (mdV kd E E false false none false false 0 0 0 0), .int .i64 n, .int .i64 0]) (by simp [results, Tryz.results12, go_sem, q0, q1, q2, q3, q4, q5, q6, q7, q8, q9, q10, q11]; try rfl) rfl ⟨rfl, hWb⟩
end Go.Proofs.YtpcpcfnmcfjomaaGreatDoor
namespace Go.Proofs.YtpcpcfnmcfjomaaGreatDoor
open Go.RowKit Go.Shelf
theorem ne_list {t : ByteArray} {l : List UInt8} (h : ¬ t = ⟨l.toArray⟩) : ¬ t.toList = l := by
  rw [Lib.toList_data]; intro e; exact h (bl_inj (by rw [show bl t = l from e]; exact (bl_ba l).symm))
set_option maxRecDepth 20000 in
set_option maxHeartbeats 3200000 in
theorem read_eq (s t : ByteArray) (n : Nat) (f : Bool) (w : World) (hs : s.size ≤ 1000000) (hk : Plain s) (hu : untilL 58 (bl s) = (bl t, n, f)) (ht : t ∉ wordsL) (hmx : Mx w) :
    Calls Tryz.prog 12 #[.string s] w fun e w' => e = .returned (if (Lib.cut (bl t) [61]).2.2 = true then (Rd.ok { kind := ⟨#[61]⟩, a := ba (Lib.cut (bl t) [61]).1, b := ba (Lib.cut (bl t) [61]).2.1 } n) else .bad 12).val ∧ Below w.heap.size w w' := by
  have HM := pre_is hk.1
  have HN := pre_is hk.2.1
  have HS := pre_is hk.2.2.1
  have HC := pre_is hk.2.2.2.1
  have HL := pre_is hk.2.2.2.2
  have HU : Hid (∀ W, Calls Tryz.prog 20 #[.string s, .int .u8 58] W fun x w' => x = .returned (.tuple #[.string t, .int .i64 n, .bool f]) ∧ Below W.heap.size W w') := fun W => by
    have := until_any s 58 W hs
    unfold untilV at this
    rw [hu, ba_bl] at this
    exact this
  have hnb := (until_len 58 (bl s))
  rw [hu, bl_length, bl_length] at hnb
  simp only at hnb
  have hnb1 : n ≤ 1000000 := by omega
  rcases hcu : Lib.cut (bl t) [61] with ⟨c1, c2, c3⟩
  have HCu : Hid (∀ W, Mx W → Calls Tryz.prog 24 #[.string t, .string ⟨#[61]⟩] W fun e w' => e = .returned (.tuple #[.string (ba c1), .string (ba c2), .bool c3]) ∧ Below W.heap.size W w') := fun W hW => by
    obtain ⟨m, hm⟩ := hW
    refine (Tryz.strings_Cut t ⟨#[61]⟩ m W (by omega) hm).mono ?_
    rintro e w' ⟨rfl, k, rfl⟩
    refine ⟨?_, below_drewN (Below.refl _ _) k⟩
    show Ending.returned (.tuple #[.string ⟨(Lib.cut (bl t) [61]).1.toArray⟩, .string ⟨(Lib.cut (bl t) [61]).2.1.toArray⟩, .bool (Lib.cut (bl t) [61]).2.2]) = _
    rw [hcu]; rfl
  have HB0 := one_new w
  have HMx : Hid (∀ W, Below w.heap.size w W → Mx W) := fun W hB => hmx.below hB hmx.pos
  clear hk hu hmx hcu hnb
  unfold wordsL at ht
  simp only [List.mem_cons, List.not_mem_nil, or_false, not_or] at ht
  obtain ⟨t1, t2, t3, t4, t5, t6, t7, t8, t9, t10, t11⟩ := ht
  replace t1 := ne_list (l := [84]) t1
  replace t2 := ne_list (l := [72]) t2
  replace t3 := ne_list (l := [69]) t3
  replace t4 := ne_list (l := [82]) t4
  replace t5 := ne_list (l := [79]) t5
  replace t6 := ne_list (l := [79, 114]) t6
  replace t7 := ne_list (l := [117]) t7
  replace t8 := ne_list (l := [114]) t8
  replace t9 := ne_list (l := [116, 108]) t9
  replace t10 := ne_list (l := [116, 117]) t10
  replace t11 := ne_list (l := [81]) t11
  have u1 : (t.toList == [84]) = false := beq_eq_false_iff_ne.2 t1
  have u2 : (t.toList == [72]) = false := beq_eq_false_iff_ne.2 t2
  have u3 : (t.toList == [69]) = false := beq_eq_false_iff_ne.2 t3
  have u4 : (t.toList == [82]) = false := beq_eq_false_iff_ne.2 t4
  have u5 : (t.toList == [79]) = false := beq_eq_false_iff_ne.2 t5
  have u6 : (t.toList == [79, 114]) = false := beq_eq_false_iff_ne.2 t6
  have u7 : (t.toList == [117]) = false := beq_eq_false_iff_ne.2 t7
  have u8 : (t.toList == [114]) = false := beq_eq_false_iff_ne.2 t8
  have u9 : (t.toList == [116, 108]) = false := beq_eq_false_iff_ne.2 t9
  have u10 : (t.toList == [116, 117]) = false := beq_eq_false_iff_ne.2 t10
  have u11 : (t.toList == [81]) = false := beq_eq_false_iff_ne.2 t11
  cases c3 with
  | false =>
    rw [if_neg (by simp)]
    dsimp only [Rd.val]
    go_enter Tryz.func12, Tryz.ntmps12
    go_wp2_with fail
    refine (HM.out _).mono ?_
    rintro e w' ⟨rfl, rfl⟩
    go_wp2_with fail
    refine (HN.out _).mono ?_
    rintro e w' ⟨rfl, rfl⟩
    go_wp2_with fail
    refine (HS.out _).mono ?_
    rintro e w' ⟨rfl, rfl⟩
    go_wp2_with fail
    refine (HC.out _).mono ?_
    rintro e w' ⟨rfl, rfl⟩
    go_wp2_with fail
    refine (HL.out _).mono ?_
    rintro e w' ⟨rfl, rfl⟩
    go_wp2_with fail
    refine (HU.out _).mono ?_
    rintro e w1 ⟨rfl, hb1⟩
    rw [World.size_alloc] at hb1
    have HZ : Hid (Below (w.heap.size + 1) (w.alloc (.cells zeroMd 45)) w1 ∧ Below w.heap.size w w1) := ⟨hb1, (HB0.out w1 hb1).2⟩
    clear hb1
    go_wp2_with fail
    refine (HCu.out _ (HMx.out _ HZ.out.2)).mono ?_
    rintro e w2 ⟨rfl, hb2⟩
    obtain ⟨hblk, hlow⟩ := HB0.out w2 (HZ.out.1.trans (hb2.mono (by have := HZ.out.1.size; simpa using this)))
    clear hb2 HZ
    obtain ⟨⟨r0, r1, r2, r3, r4, r5, r6, r7, r8, r9, r10, r11⟩, hfz⟩ := mod_cells hblk
    have HBk : Hid (w2.heap[w.heap.size]? = some (.cells zeroMd 45 (0, 0))) := hblk
    clear hblk
    go_wp2
    obtain ⟨W, hW⟩ : ∃ W, W = setMd w2 w.heap.size E E E false false none false false 0 0 0 0 := ⟨_, rfl⟩
    have hWb : Below w.heap.size w W := by rw [hW]; exact setMd_below hlow (Nat.le_refl _)
    have hWh := setMd_heap (kind := E) (a := E) (c := E) (bg := false) (en := false) (ex := none) (al := false) (on := false) (mks := 0) (ots := 0) (frm := 0) (upto := 0) HBk.out
    rw [← hW] at hWh
    obtain ⟨⟨q0, q1, q2, q3, q4, q5, q6, q7, q8, q9, q10, q11⟩, _⟩ := mod_cells hWh
    show bodyPost Tryz.prog Tryz.f12 _ Exit.ret _ (setMd w2 w.heap.size E E E false false none false false 0 0 0 0)
    rw [← hW]
    refine bodyPost_ret (v := .tuple #[.agg zeroMd, .int .i64 0, .int .i64 12]) (by simp [results, Tryz.results12, go_sem, q0, q1, q2, q3, q4, q5, q6, q7, q8, q9, q10, q11]; try rfl) rfl ⟨rfl, hWb⟩
  | true =>
    rw [if_pos rfl]
    dsimp only [Rd.val, Md.cells]
    go_enter Tryz.func12, Tryz.ntmps12
    go_wp2_with fail
    refine (HM.out _).mono ?_
    rintro e w' ⟨rfl, rfl⟩
    go_wp2_with fail
    refine (HN.out _).mono ?_
    rintro e w' ⟨rfl, rfl⟩
    go_wp2_with fail
    refine (HS.out _).mono ?_
    rintro e w' ⟨rfl, rfl⟩
    go_wp2_with fail
    refine (HC.out _).mono ?_
    rintro e w' ⟨rfl, rfl⟩
    go_wp2_with fail
    refine (HL.out _).mono ?_
    rintro e w' ⟨rfl, rfl⟩
    go_wp2_with fail
    refine (HU.out _).mono ?_
    rintro e w1 ⟨rfl, hb1⟩
    rw [World.size_alloc] at hb1
    have HZ : Hid (Below (w.heap.size + 1) (w.alloc (.cells zeroMd 45)) w1 ∧ Below w.heap.size w w1) := ⟨hb1, (HB0.out w1 hb1).2⟩
    clear hb1
    go_wp2_with fail
    refine (HCu.out _ (HMx.out _ HZ.out.2)).mono ?_
    rintro e w2 ⟨rfl, hb2⟩
    obtain ⟨hblk, hlow⟩ := HB0.out w2 (HZ.out.1.trans (hb2.mono (by have := HZ.out.1.size; simpa using this)))
    clear hb2 HZ
    obtain ⟨⟨r0, r1, r2, r3, r4, r5, r6, r7, r8, r9, r10, r11⟩, hfz⟩ := mod_cells hblk
    have HBk : Hid (w2.heap[w.heap.size]? = some (.cells zeroMd 45 (0, 0))) := hblk
    clear hblk
    go_wp2
    obtain ⟨W, hW⟩ : ∃ W, W = setMd w2 w.heap.size ⟨#[61]⟩ (ba c1) (ba c2) false false none false false 0 0 0 0 := ⟨_, rfl⟩
    have hWb : Below w.heap.size w W := by rw [hW]; exact setMd_below hlow (Nat.le_refl _)
    have hWh := setMd_heap (kind := ⟨#[61]⟩) (a := ba c1) (c := ba c2) (bg := false) (en := false) (ex := none) (al := false) (on := false) (mks := 0) (ots := 0) (frm := 0) (upto := 0) HBk.out
    rw [← hW] at hWh
    obtain ⟨⟨q0, q1, q2, q3, q4, q5, q6, q7, q8, q9, q10, q11⟩, _⟩ := mod_cells hWh
    show bodyPost Tryz.prog Tryz.f12 _ Exit.ret _ (setMd w2 w.heap.size ⟨#[61]⟩ (ba c1) (ba c2) false false none false false 0 0 0 0)
    rw [← hW]
    refine bodyPost_ret (v := .tuple #[.agg (mdV ⟨#[61]⟩ (ba c1) (ba c2) false false none false false 0 0 0 0), .int .i64 n, .int .i64 0]) (by simp [results, Tryz.results12, go_sem, q0, q1, q2, q3, q4, q5, q6, q7, q8, q9, q10, q11]; try rfl) rfl ⟨rfl, hWb⟩
end Go.Proofs.YtpcpcfnmcfjomaaGreatDoor
namespace Go.Proofs.YtpcpcfnmcfjomaaGreatDoor
open Go.RowKit Go.Shelf
def Ey (W : World) : Prop := ∃ ev, W.cell? ⟨4, 0, none⟩ = some ev ∧ (ev = .nilIface ∨ ∃ te pe, ev = .iface te pe)
theorem Ey.pos {w : World} (h : Ey w) : 4 < w.heap.size := by
  obtain ⟨m, hm, _⟩ := h
  unfold World.cell? at hm
  cases hb : w.heap[(4 : Nat)]? with
  | none => rw [hb] at hm; simp at hm
  | some o => exact (Array.getElem?_eq_some_iff.1 hb).1
theorem Ey.below {w w' : World} {B : Nat} (h : Ey w) (hb : Below B w w') (hB : 4 < B) : Ey w' := by
  obtain ⟨m, hm, h2⟩ := h
  exact ⟨m, (hb.cell (p := ⟨4, 0, none⟩) hB).trans hm, h2⟩
def digs : List UInt8 := [48, 49, 50, 51, 52, 53, 54, 55, 56, 57]
def numO (l : List UInt8) : Option Int := if 6 < (Lib.trimPrefix l [45]).length ∨ Lib.trimS (Lib.trimPrefix l [45]) digs ≠ [] then none else Lib.atoi l
theorem trimPrefix_len (l : List UInt8) : l.length ≤ (Lib.trimPrefix l [45]).length + 1 := by
  unfold Lib.trimPrefix
  split
  · simp; omega
  · omega
theorem trim_any (s : ByteArray) (w : World) (hs : s.size ≤ 1000000) : Calls Tryz.prog 124 #[.string s, .string ⟨#[48, 49, 50, 51, 52, 53, 54, 55, 56, 57]⟩] w fun e w' => e = .returned (.string (ba (Lib.trimS (bl s) digs))) ∧ Below w.heap.size w w' :=
  Any.strings_Trim_laid Tryz.lays160 (by kernel_rfl) s ⟨#[48, 49, 50, 51, 52, 53, 54, 55, 56, 57]⟩ w (by omega) (by decide) (ascii_of_all (by decide))
set_option maxRecDepth 20000 in
set_option maxHeartbeats 800000 in
theorem number_any (s : ByteArray) (w : World) (hs : s.size ≤ 1000000) (hE : Ey w) : Calls Tryz.prog 86 #[.string s] w fun e w' => (∃ n : Int, e = .returned (.tuple #[.int .i64 n, .bool (numO (bl s)).isSome]) ∧ ∀ k, numO (bl s) = some k → n = k) ∧ Below w.heap.size w w' := by
  obtain ⟨t, ht⟩ : ∃ t, t = ba (Lib.trimPrefix (bl s) [45]) := ⟨_, rfl⟩
  have htl : bl t = Lib.trimPrefix (bl s) [45] := by rw [ht, bl_ba]
  have htz : t.size = (Lib.trimPrefix (bl s) [45]).length := by rw [← htl, bl_length]
  have hsl := trimPrefix_len (bl s)
  rw [bl_length] at hsl
  have HP : Hid (∀ W, Calls Tryz.prog 123 #[.string s, .string ⟨#[45]⟩] W fun e w' => e = .returned (.string t) ∧ w' = W) := fun W => by
    rw [ht]; exact Tryz.strings_TrimPrefix s ⟨#[45]⟩ W
  by_cases h6 : 6 < t.size
  · have hn : numO (bl s) = none := by unfold numO; rw [if_pos (.inl (by omega))]
    rw [hn]
    have h6i : (6 : Int) < (t.size : Int) := by omega
    clear hE htl htz hsl ht hn
    go_enter Tryz.func86, Tryz.ntmps86
    go_wp2_with fail
    refine (HP.out _).mono ?_
    rintro e w' ⟨rfl, rfl⟩
    go_wp2
    go_ret2
    exact ⟨⟨0, rfl, fun k h => by cases h⟩, Below.refl _ _⟩
  · have h6i : ¬ (6 : Int) < (t.size : Int) := by omega
    obtain ⟨u, hu⟩ : ∃ u, u = ba (Lib.trimS (bl t) digs) := ⟨_, rfl⟩
    have HT : Hid (∀ W, Calls Tryz.prog 124 #[.string t, .string ⟨#[48, 49, 50, 51, 52, 53, 54, 55, 56, 57]⟩] W fun e w' => e = .returned (.string u) ∧ Below W.heap.size W w') := fun W => by
      rw [hu]; exact trim_any t W (by omega)
    by_cases hue : u = E
    · have hn : numO (bl s) = Lib.atoi (bl s) := by
        unfold numO
        rw [if_neg]
        rintro (h | h)
        · omega
        · rw [← htl] at h; apply h
          have := congrArg bl hu; rw [bl_ba, hue] at this; exact this.symm
      rw [hn]
      subst hue
      have hs18 : s.size ≤ 18 := by omega
      have HEy : Hid (∀ W, Below w.heap.size w W → Ey W) := fun W hB => hE.below hB hE.pos
      clear hE htl htz hsl ht hn hu
      cases ha : Lib.atoi (bl s) with
      | some n =>
        have HA : Hid (∀ W, Calls Tryz.prog 125 #[.string s] W fun e w' => e = .returned (.tuple #[.int .i64 n, .nilIface]) ∧ Below W.heap.size W w') := fun W => by
          refine (Tryz.strconv_Atoi s n hs18 ha W).mono ?_
          rintro e w' ⟨rfl, t, rfl⟩
          exact ⟨rfl, Go.Joins.below_bytesWorld _ _ _ _ (Nat.le_refl _)⟩
        clear ha
        go_enter Tryz.func86, Tryz.ntmps86
        go_wp2_with fail
        refine (HP.out _).mono ?_
        rintro e w' ⟨rfl, rfl⟩
        go_wp2_with fail
        refine (HT.out _).mono ?_
        rintro e w1 ⟨rfl, hb1⟩
        go_wp2_with fail
        refine (HA.out _).mono ?_
        rintro e w2 ⟨rfl, hb2⟩
        have HB : Hid (Below w'.heap.size w' w2) := hb1.trans (hb2.mono hb1.size)
        clear hb1 hb2
        go_wp2_with fail
        go_quiet (fail)
        go_wp2
        go_ret2
        exact ⟨⟨n, rfl, fun k h => by cases h; rfl⟩, by first | exact HB.out | exact below_drewN HB.out _⟩
      | none =>
        have HA : Hid (∀ W, Ey W → Calls Tryz.prog 125 #[.string s] W fun e w' => ∃ N : Nat, e = .returned (.tuple #[.int .i64 0, .iface 228 (.pointer (some ⟨N, 0, none⟩))]) ∧ Below W.heap.size W w') := fun W hW => by
          obtain ⟨ev, h1, h2⟩ := hW
          refine (Tryz.strconv_Atoi_err s hs18 ha ev W h1 h2).mono ?_
          rintro e w' ⟨N, rfl, _, _, hb⟩
          exact ⟨N, rfl, hb⟩
        have heq : ∀ (N : Nat) (W : World), Sem.run Tryz.prog (binOp .eql 78 (.iface 228 (.pointer (some ⟨N, 0, none⟩))) .nilIface) W = .ok (.bool false) W := fun N W => by kernel_rfl
        clear ha
        go_enter Tryz.func86, Tryz.ntmps86
        go_wp2_with fail
        refine (HP.out _).mono ?_
        rintro e w' ⟨rfl, rfl⟩
        go_wp2_with fail
        refine (HT.out _).mono ?_
        rintro e w1 ⟨rfl, hb1⟩
        have HB1 : Hid (Below w'.heap.size w' w1) := hb1
        clear hb1
        go_wp2_with fail
        refine (HA.out _ (HEy.out _ HB1.out)).mono ?_
        rintro e w2 ⟨N, rfl, hb2⟩
        have HB : Hid (Below w'.heap.size w' w2) := HB1.out.trans (hb2.mono HB1.out.size)
        clear hb2
        go_wp2_with fail
        go_quiet (fail)
        go_wp2
        go_ret2
        exact ⟨⟨0, rfl, fun k h => by cases h⟩, by first | exact HB.out | exact below_drewN HB.out _⟩
    · have hn : numO (bl s) = none := by
        unfold numO
        refine if_pos (.inr fun h => ?_)
        rw [← htl] at h
        apply hue
        rw [hu, h]; rfl
      rw [hn]
      have t1 : ¬ u.toList = [] := by rw [Lib.toList_data]; exact fun e => hue (bl_inj e)
      have t2 : u.toList.isEmpty = false := by cases hh : u.toList with | nil => exact absurd hh t1 | cons => rfl
      clear hE htl htz hsl ht hn hu hue
      go_enter Tryz.func86, Tryz.ntmps86
      go_wp2_with fail
      refine (HP.out _).mono ?_
      rintro e w' ⟨rfl, rfl⟩
      go_wp2_with fail
      refine (HT.out _).mono ?_
      rintro e w1 ⟨rfl, hb1⟩
      have HB1 : Hid (Below w'.heap.size w' w1) := hb1
      clear hb1
      go_wp2
      go_ret2
      exact ⟨⟨0, rfl, fun k h => by cases h⟩, HB1.out⟩
end Go.Proofs.YtpcpcfnmcfjomaaGreatDoor
namespace Go.Proofs.YtpcpcfnmcfjomaaGreatDoor
open Go.RowKit Go.Shelf
def choO (x : List UInt8) : Option Md := if x = [35] ∨ x = [42] then some { kind := ba x } else
  match numO (Lib.cut x [46, 46]).1, numO (if (Lib.cut x [46, 46]).2.2 = true then (Lib.cut x [46, 46]).2.1 else (Lib.cut x [46, 46]).1) with
  | some a, some b => some { kind := ⟨#[91]⟩, frm := a, upto := b }
  | _, _ => none
theorem choO_plain {x : ByteArray} (h : bl x = [35] ∨ bl x = [42]) : choO (bl x) = some { kind := x } := by unfold choO; rw [if_pos h, ba_bl]
theorem cut_lens (l sep : List UInt8) : (Lib.cut l sep).1.length ≤ l.length ∧ (Lib.cut l sep).2.1.length ≤ l.length := by
  unfold Lib.cut
  split
  · simp; omega
  · simp
theorem cut_any (x : ByteArray) (sep : ByteArray) (w : World) (hx : x.size ≤ 1000000) (hmx : Mx w) : Calls Tryz.prog 24 #[.string x, .string sep] w fun e w' => e = .returned (.tuple #[.string (ba (Lib.cut (bl x) (bl sep)).1), .string (ba (Lib.cut (bl x) (bl sep)).2.1), .bool (Lib.cut (bl x) (bl sep)).2.2]) ∧ Below w.heap.size w w' := by
  obtain ⟨m, hm⟩ := hmx
  refine (Tryz.strings_Cut x sep m w (by omega) hm).mono ?_
  rintro e w' ⟨rfl, k, rfl⟩
  exact ⟨rfl, below_drewN (Below.refl _ _) k⟩
def ChoPost (x : ByteArray) (w : World) (e : Ending) (w' : World) : Prop := (∃ m : Md, e = .returned (.tuple #[.agg m.cells, .bool (choO (bl x)).isSome]) ∧ ∀ k, choO (bl x) = some k → m = k) ∧ Below w.heap.size w w'
theorem set_build {w2 : World} {w : World} (h : Below (w.heap.size + 1) (w.alloc (.cells zeroMd 45)) w2) (kind a c : ByteArray) (bg en : Bool) (ex : Option Addr) (al on : Bool) (mks ots frm upto : Int) :
    Below w.heap.size w (setMd w2 w.heap.size kind a c bg en ex al on mks ots frm upto) ∧ (setMd w2 w.heap.size kind a c bg en ex al on mks ots frm upto).heap[w.heap.size]? = some (.cells (mdV kind a c bg en ex al on mks ots frm upto) 45 (0, 0)) := by
  obtain ⟨h1, h2⟩ := (one_new w).out w2 h
  exact ⟨setMd_below h2 (Nat.le_refl _), setMd_heap h1⟩
set_option maxRecDepth 20000 in
set_option maxHeartbeats 800000 in
theorem choice_plain (x : ByteArray) (w : World) (hp : bl x = [35] ∨ bl x = [42]) : Calls Tryz.prog 43 #[.string x] w (ChoPost x w) := by
  have HC : Hid (choO (bl x) = some { kind := x }) := choO_plain hp
  have hxx : x = ⟨#[35]⟩ ∨ x = ⟨#[42]⟩ := hp.imp (fun h => bl_inj h) (fun h => bl_inj h)
  clear hp
  obtain ⟨y, hy⟩ : ∃ y, y = x := ⟨_, rfl⟩
  have HY : Hid (y = x) := hy
  clear hy
  rcases hxx with rfl | rfl
  all_goals
    go_enter Tryz.func43, Tryz.ntmps43
    go_upto_region 2 with fail
    have HZ3 : Hid (∃ w3, w3 = w.alloc (.cells zeroMd 45)) := ⟨_, rfl⟩
    obtain ⟨w3, hw3⟩ := HZ3.out
    have hZ3 : Below (w.heap.size + 1) (w.alloc (.cells zeroMd 45)) w3 := by rw [hw3]; exact Below.refl _ _
    obtain ⟨⟨r0, r1, r2, r3, r4, r5, r6, r7, r8, r9, r10, r11⟩, hfz⟩ := mod_cells ((one_new w).out _ hZ3).1
    have hq := set_build hZ3 y E E false false none false false 0 0 0 0
    have HQ : Hid _ := hq
    rw [← hw3]
    clear hw3 HZ3 hq hZ3
    go_wp2
    obtain ⟨W, hW⟩ : ∃ W, W = setMd w3 w.heap.size y E E false false none false false 0 0 0 0 := ⟨_, rfl⟩
    have hq := HQ.out
    rw [← hW] at hq
    obtain ⟨⟨q0, q1, q2, q3, q4, q5, q6, q7, q8, q9, q10, q11⟩, _⟩ := mod_cells hq.2
    show bodyPost Tryz.prog Tryz.f43 _ Exit.ret _ (setMd w3 w.heap.size _ E E false false none false false 0 0 0 0)
    rw [← HY.out, ← hW]
    refine bodyPost_ret (v := .tuple #[.agg (mdV y E E false false none false false 0 0 0 0), .bool true]) (by simp [results, Tryz.results43, go_sem, q0, q1, q2, q3, q4, q5, q6, q7, q8, q9, q10, q11]; try rfl) rfl ⟨⟨{ kind := y }, ?_, fun k h => ?_⟩, hq.1⟩
    · rw [HY.out, HC.out]; rfl
    · rw [HY.out, HC.out] at h; cases h; rw [HY.out]
end Go.Proofs.YtpcpcfnmcfjomaaGreatDoor
