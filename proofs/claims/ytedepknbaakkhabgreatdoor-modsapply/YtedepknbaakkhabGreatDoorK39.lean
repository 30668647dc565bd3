/-
  MA5 MA6
-/
import Derived.Test.YtedepknbaakkhabGreatDoorK38
import Derived.Test.YtedepknbaakkhabGreatDoorK09
import Derived.Test.YtedepknbaakkhabGreatDoorK31
set_option maxRecDepth 20000
namespace Go.Proofs.YtedepknbaakkhabGreatDoor
open Go.RowKit Go.Shelf
def replY0 (m : Md) (x : ByteArray) : ByteArray :=
  ba ((bl x).take (firstI m.bg m.en [] (bl x)).toNat ++ (Lib.replaceAll (bl m.b) [38] [] ++ (bl x).drop (firstI m.bg m.en [] (bl x)).toNat))
set_option maxHeartbeats 4000000 in
theorem repl_go0 (base b : Nat) (m : Md) (mks ots : Nat) (v : Value) (made : List ByteArray) (done : Bool) (x : ByteArray) (w : World) (h : Wk base b m v made false done w) (ha0 : m.a = E) (hb : m.b.size ≤ 3000) (hmk : m.mks = mks) (hot : m.ots = ots) (hmks : mks ≤ 3000) (hots : ots ≤ 3000) (hx : x.size ≤ 1000000) (hs : sizeL made ≤ 65536) (hl : made.length ≤ 100000) (hmx : Mx w) (hb0 : 0 < b) (hbase : 0 < base)
    (hk : ¬ (firstI m.bg m.en [] (bl x) < 0 ∨ (done = true ∧ m.on = true))) (hr0 : (x.size : Int) + ots + sizeL made ≤ 65536) :
    Calls Tryz.prog 32 #[.pointer (some ⟨b, 0, none⟩), .string x] w fun e w' => e = .returned (.tuple #[]) ∧ Step base b m v made true (some (replY0 m x)) w w' := by
  have HK : Hid (∀ y W, Wk base b m v made false true W → Calls Tryz.prog 55 #[.pointer (some ⟨b, 0, none⟩), .string y] W fun e w' => e = .returned (.tuple #[]) ∧ Step base b m v made true (some y) W w') := fun y W hW => keep_any base b m v made false true y W hW hs hl
  have HB : m.b.size ≤ 3000 := hb
  have HV0 : Hid (v.ownBlock ≠ some 0) := fun e => by have := (h.row.lt 0 e).1; omega
  have HMx : Hid (∀ W, Went b v w W → Mx W) := fun W hW => hW.mx hmx hb0 HV0.out
  have HD : Hid (Wk base b m v made false true (w.setCell ⟨b, 15, none⟩ (.bool true)) ∧ Went b v w (w.setCell ⟨b, 15, none⟩ (.bool true))) := ⟨h.done' true, Went.set b 15 v w _⟩
  obtain ⟨⟨r0, r1, r2, r3, r4, r6, r7, r8, r9⟩, ⟨r12, r13, r14, r15⟩, hfz⟩ := h.cells
  clear h
  obtain ⟨F, hF⟩ : ∃ F, F = firstI m.bg m.en [] (bl x) := ⟨_, rfl⟩
  have HFi : Hid (Calls Tryz.prog 56 #[.pointer (some ⟨b, 0, none⟩), .string x] w fun e w' => e = .returned (.int .i64 F) ∧ w = w') := by
    have := first_any b m.a x m.bg m.en w r1 r3 r4 (by rw [ha0]; decide) hx hmx
    rw [ha0] at this
    rw [hF]; exact this
  have hFle := firstI_le m.bg m.en [] (bl x)
  rw [← hF, bl_length] at hFle
  rw [← hF] at hk
  rw [ha0] at r1
  obtain ⟨Y, hY⟩ : ∃ Y, Y = replY0 m x := ⟨_, rfl⟩
  rw [← hY]
  unfold replY0 at hY
  rw [← hF] at hY
  clear hF hmx
  obtain ⟨f, hf⟩ : ∃ f : Nat, F = f := ⟨F.toNat, by omega⟩
  subst hf
  have hf0 : ¬ (f : Int) < 0 := by omega
  have hfx : (f : Int) ≤ (x.size : Int) := hFle
  have hf00 : (0 : Int) ≤ (f : Int) := by omega
  have hdo : done = true → m.on = false := fun e => by
    have := fun e2 => hk (.inr ⟨e, e2⟩)
    simpa using this
  clear hk hFle
  obtain ⟨mb, hmb⟩ : ∃ mb, mb = m.b := ⟨_, rfl⟩
  rw [← hmb] at r2 HB
  rw [hmk] at r8
  rw [hot] at r9
  have HCl : Hid (∀ W v made o d, Wk base b m v made o d W → W.cell? ⟨b, 1, none⟩ = some (.string E) ∧ W.cell? ⟨b, 2, none⟩ = some (.string mb) ∧ W.cell? ⟨b, 8, none⟩ = some (.int .i64 mks) ∧ W.cell? ⟨b, 9, none⟩ = some (.int .i64 ots)) := fun W v made o d hW => by
    rw [← ha0, hmb, ← hmk, ← hot]; have := hW.cells.1; exact ⟨this.2.1, this.2.2.1, this.2.2.2.2.2.2.2.1, this.2.2.2.2.2.2.2.2⟩
  obtain ⟨LN, hLN⟩ : ∃ LN, LN = (x.size : Int) - ((0 : Nat) : Int) + ((1 : Nat) : Int) * ots + ((0 : Nat) : Int) * mks := ⟨_, rfl⟩
  have hLN2 : LN = (x.size : Int) + ots := by rw [hLN]; simp
  have HLe : Hid (∀ W, Wk base b m v made false true W → Calls Tryz.prog 59 #[.pointer (some ⟨b, 0, none⟩), .string x, .int .i64 1, .int .i64 0] W fun e w' => e = .returned (.int .i64 LN) ∧ Below W.heap.size W w') := fun W hW => by
    obtain ⟨_, _, c8, c9⟩ := HCl.out W _ _ _ _ hW
    rw [hLN]; exact length_any b x mks ots 1 0 W c8 c9 hx (by omega) (by omega) (by omega) (by omega)
  rw [Int.toNat_natCast, ← hmb] at hY
  clear hmb hmk hot
  have HRo : Hid (∀ W, Wk base b m v made false true W → Calls Tryz.prog 58 #[.pointer (some ⟨b, 0, none⟩), .int .i64 LN] W fun e w' => e = .returned (.bool true) ∧ Wk base b m v made false true w' ∧ Went b v W w') := fun W hW => by
    have := room_any base b m v made false true LN W hW hs
    rw [decide_eq_true (by rw [hLN2]; exact hr0)] at this; exact this
  clear hLN hLN2 hr0
  obtain ⟨by', hby⟩ : ∃ by', by' = ba (Lib.replaceAll (bl mb) [38] []) := ⟨_, rfl⟩
  have hbys : by'.size ≤ 10000000 := by
    rw [hby, ba_size]
    have h3 := replaceAll_len (bl mb) [38] []
    rw [bl_length] at h3
    simp at h3
    omega
  have HRA : Hid (∀ W, Mx W → Calls Tryz.prog 60 #[.string mb, .string ⟨#[38]⟩, .string E] W fun e w' => e = .returned (.string by') ∧ Below W.heap.size W w') := fun W hW => by
    obtain ⟨mm, hmm⟩ := hW
    refine (Tryz.strings_ReplaceAll mb ⟨#[38]⟩ E mm W (by omega) hmm (by decide) ?_).mono ?_
    · have : (E : ByteArray).size = 0 := rfl
      rw [this]; omega
    · rintro e w' ⟨rfl, hB⟩
      rw [hby]; exact ⟨rfl, hB⟩
  obtain ⟨rp, hrp⟩ : ∃ rp, rp = by' ++ x.extract f x.size := ⟨_, rfl⟩
  have HRe : Hid (∀ W, Calls Tryz.prog 61 #[.string (x.extract f x.size), .string E, .string by', .int .i64 1] W fun e w' => e = .returned (.string rp) ∧ Below W.heap.size W w') := fun W => by
    rw [hrp]; exact replace_empty (x.extract f x.size) by' W (by simp; omega) hbys
  have hrps : rp.size ≤ 100000000 := by rw [hrp]; simp; omega
  have HY : Hid (Y = x.extract 0 f ++ rp) := by
    unfold Hid; apply bl_inj; rw [hY, bl_ba, hrp, hby]
    show _ = (x.extract 0 f ++ _).data.toList
    simp only [ByteArray.data_append, Array.toList_append]
    rw [show (x.extract 0 f).data.toList = (bl x).take f by rw [show (x.extract 0 f).data.toList = bl (x.extract 0 f) from rfl, bl_extract]; simp]
    rw [show (x.extract f x.size).data.toList = (bl x).drop f from bl_rest x f]
    simp [ba]
  clear hY hrp hby
  obtain ⟨xf, hxf⟩ : ∃ xf, x.extract 0 f = xf := ⟨_, rfl⟩
  have hxfs : xf.size ≤ 1000000 := by rw [← hxf]; simp; omega
  rw [hxf] at HY
  have hadd : ¬ xf.size + rp.size > 9223372036854775807 := by omega
  have hadd1 : ¬ 9223372036854775807 < xf.size + rp.size := by omega
  have hadd2 : xf.size + rp.size ≤ 9223372036854775807 := by omega
  rcases hal : m.al with _ | _
  · rw [hal] at r6
    cases done with
    | false =>
      go_enter Tryz.func32, Tryz.ntmps32
      go_wp2_with fail
      refine HFi.out.mono ?_
      rintro e w' ⟨rfl, rfl⟩
      go_wp2_with fail
      refine (HLe.out _ HD.out.1).mono ?_
      rintro e w2 ⟨rfl, hb2⟩
      have HW2 : Hid (Wk base b m v made false true w2 ∧ Went b v w w2) := ⟨HD.out.1.below hb2, HD.out.2.same (Went.of_below hb2)⟩
      clear hb2
      go_wp2_with fail
      refine (HRo.out _ HW2.out.1).mono ?_
      rintro e w3 ⟨rfl, hW3, hg3⟩
      have HW3 : Hid (Wk base b m v made false true w3 ∧ Went b v w w3) := ⟨hW3, HW2.out.2.same hg3⟩
      clear hW3 hg3 HW2
      go_wp2_with fail
      go_region_held3 (fun W => W.cell? ⟨b, 1, none⟩ = some (.string E) ∧ W.cell? ⟨b, 2, none⟩ = some (.string mb)) (first | exact ⟨(HCl.out _ _ _ _ _ HW3.out.1).1, (HCl.out _ _ _ _ _ HW3.out.1).2.1⟩ | exact ⟨(HCl.out _ _ _ _ _ HW3.out.1.drew).1, (HCl.out _ _ _ _ _ HW3.out.1.drew).2.1⟩ | exact ⟨(HCl.out _ _ _ _ _ (HW3.out.1.drew.below ‹_›)).1, (HCl.out _ _ _ _ _ (HW3.out.1.drew.below ‹_›)).2.1⟩) (first | (go_at_call 60; refine (HRA.out _ (HMx.out _ (HW3.out.2.same (Went.of_below ((Below.refl _ _).drew))))).mono ?_; rintro e w4 ⟨rfl, hb4⟩))
      have HW4 : Hid (Wk base b m v made false true w4 ∧ Went b v w w4) := ⟨HW3.out.1.drew.below hb4, HW3.out.2.same (Went.of_below ((Below.refl _ _).drew.trans hb4))⟩
      clear hb4 HW3
      go_wp2_with fail
      go_region_held3 (fun W => W.cell? ⟨b, 1, none⟩ = some (.string E)) (first | exact (HCl.out _ _ _ _ _ HW4.out.1).1 | exact (HCl.out _ _ _ _ _ HW4.out.1.drew).1 | exact (HCl.out _ _ _ _ _ (HW4.out.1.drew.below hb5)).1 | exact (HCl.out _ _ _ _ _ hk6).1) (first | (go_at_call 61; refine (HRe.out _).mono ?_; rintro e w5 ⟨rfl, hb5⟩) | (go_at_call 55; refine (HK.out _ _ (HW4.out.1.drew.below hb5)).mono ?_; rintro e w6 ⟨rfl, hst⟩; obtain ⟨v6, l6, o6, hk6⟩ := hst.wk))
      have HS : Hid (Step base b m v made true (some Y) w w6) := by
        rw [HY.out]
        exact hst.of_went (HW4.out.2.same (Went.of_below ((Below.refl _ _).drew.trans hb5)))
      clear hst hb5 hk6
      go_wp2
      refine bodyPost_end (v := .tuple #[]) (by simp [results, Tryz.results32, go_sem]) rfl ⟨rfl, HS.out⟩
    | true =>
      rw [hdo rfl] at r7
      go_enter Tryz.func32, Tryz.ntmps32
      go_wp2_with fail
      refine HFi.out.mono ?_
      rintro e w' ⟨rfl, rfl⟩
      go_wp2_with fail
      refine (HLe.out _ HD.out.1).mono ?_
      rintro e w2 ⟨rfl, hb2⟩
      have HW2 : Hid (Wk base b m v made false true w2 ∧ Went b v w w2) := ⟨HD.out.1.below hb2, HD.out.2.same (Went.of_below hb2)⟩
      clear hb2
      go_wp2_with fail
      refine (HRo.out _ HW2.out.1).mono ?_
      rintro e w3 ⟨rfl, hW3, hg3⟩
      have HW3 : Hid (Wk base b m v made false true w3 ∧ Went b v w w3) := ⟨hW3, HW2.out.2.same hg3⟩
      clear hW3 hg3 HW2
      go_wp2_with fail
      go_region_held3 (fun W => W.cell? ⟨b, 1, none⟩ = some (.string E) ∧ W.cell? ⟨b, 2, none⟩ = some (.string mb)) (first | exact ⟨(HCl.out _ _ _ _ _ HW3.out.1).1, (HCl.out _ _ _ _ _ HW3.out.1).2.1⟩ | exact ⟨(HCl.out _ _ _ _ _ HW3.out.1.drew).1, (HCl.out _ _ _ _ _ HW3.out.1.drew).2.1⟩ | exact ⟨(HCl.out _ _ _ _ _ (HW3.out.1.drew.below ‹_›)).1, (HCl.out _ _ _ _ _ (HW3.out.1.drew.below ‹_›)).2.1⟩) (first | (go_at_call 60; refine (HRA.out _ (HMx.out _ (HW3.out.2.same (Went.of_below ((Below.refl _ _).drew))))).mono ?_; rintro e w4 ⟨rfl, hb4⟩))
      have HW4 : Hid (Wk base b m v made false true w4 ∧ Went b v w w4) := ⟨HW3.out.1.drew.below hb4, HW3.out.2.same (Went.of_below ((Below.refl _ _).drew.trans hb4))⟩
      clear hb4 HW3
      go_wp2_with fail
      go_region_held3 (fun W => W.cell? ⟨b, 1, none⟩ = some (.string E)) (first | exact (HCl.out _ _ _ _ _ HW4.out.1).1 | exact (HCl.out _ _ _ _ _ HW4.out.1.drew).1 | exact (HCl.out _ _ _ _ _ (HW4.out.1.drew.below hb5)).1 | exact (HCl.out _ _ _ _ _ hk6).1) (first | (go_at_call 61; refine (HRe.out _).mono ?_; rintro e w5 ⟨rfl, hb5⟩) | (go_at_call 55; refine (HK.out _ _ (HW4.out.1.drew.below hb5)).mono ?_; rintro e w6 ⟨rfl, hst⟩; obtain ⟨v6, l6, o6, hk6⟩ := hst.wk))
      have HS : Hid (Step base b m v made true (some Y) w w6) := by
        rw [HY.out]
        exact hst.of_went (HW4.out.2.same (Went.of_below ((Below.refl _ _).drew.trans hb5)))
      clear hst hb5 hk6
      go_wp2
      refine bodyPost_end (v := .tuple #[]) (by simp [results, Tryz.results32, go_sem]) rfl ⟨rfl, HS.out⟩
  · rw [hal] at r6
    cases done with
    | false =>
      go_enter Tryz.func32, Tryz.ntmps32
      go_wp2_with fail
      refine HFi.out.mono ?_
      rintro e w' ⟨rfl, rfl⟩
      go_wp2_with fail
      refine (HLe.out _ HD.out.1).mono ?_
      rintro e w2 ⟨rfl, hb2⟩
      have HW2 : Hid (Wk base b m v made false true w2 ∧ Went b v w w2) := ⟨HD.out.1.below hb2, HD.out.2.same (Went.of_below hb2)⟩
      clear hb2
      go_wp2_with fail
      refine (HRo.out _ HW2.out.1).mono ?_
      rintro e w3 ⟨rfl, hW3, hg3⟩
      have HW3 : Hid (Wk base b m v made false true w3 ∧ Went b v w w3) := ⟨hW3, HW2.out.2.same hg3⟩
      clear hW3 hg3 HW2
      go_wp2_with fail
      go_region_held3 (fun W => W.cell? ⟨b, 1, none⟩ = some (.string E) ∧ W.cell? ⟨b, 2, none⟩ = some (.string mb)) (first | exact ⟨(HCl.out _ _ _ _ _ HW3.out.1).1, (HCl.out _ _ _ _ _ HW3.out.1).2.1⟩ | exact ⟨(HCl.out _ _ _ _ _ HW3.out.1.drew).1, (HCl.out _ _ _ _ _ HW3.out.1.drew).2.1⟩ | exact ⟨(HCl.out _ _ _ _ _ (HW3.out.1.drew.below ‹_›)).1, (HCl.out _ _ _ _ _ (HW3.out.1.drew.below ‹_›)).2.1⟩) (first | (go_at_call 60; refine (HRA.out _ (HMx.out _ (HW3.out.2.same (Went.of_below ((Below.refl _ _).drew))))).mono ?_; rintro e w4 ⟨rfl, hb4⟩))
      have HW4 : Hid (Wk base b m v made false true w4 ∧ Went b v w w4) := ⟨HW3.out.1.drew.below hb4, HW3.out.2.same (Went.of_below ((Below.refl _ _).drew.trans hb4))⟩
      clear hb4 HW3
      go_wp2_with fail
      go_region_held3 (fun W => W.cell? ⟨b, 1, none⟩ = some (.string E)) (first | exact (HCl.out _ _ _ _ _ HW4.out.1).1 | exact (HCl.out _ _ _ _ _ HW4.out.1.drew).1 | exact (HCl.out _ _ _ _ _ (HW4.out.1.drew.below hb5)).1 | exact (HCl.out _ _ _ _ _ hk6).1) (first | (go_at_call 61; refine (HRe.out _).mono ?_; rintro e w5 ⟨rfl, hb5⟩) | (go_at_call 55; refine (HK.out _ _ (HW4.out.1.drew.below hb5)).mono ?_; rintro e w6 ⟨rfl, hst⟩; obtain ⟨v6, l6, o6, hk6⟩ := hst.wk))
      have HS : Hid (Step base b m v made true (some Y) w w6) := by
        rw [HY.out]
        exact hst.of_went (HW4.out.2.same (Went.of_below ((Below.refl _ _).drew.trans hb5)))
      clear hst hb5 hk6
      go_wp2
      refine bodyPost_end (v := .tuple #[]) (by simp [results, Tryz.results32, go_sem]) rfl ⟨rfl, HS.out⟩
    | true =>
      rw [hdo rfl] at r7
      go_enter Tryz.func32, Tryz.ntmps32
      go_wp2_with fail
      refine HFi.out.mono ?_
      rintro e w' ⟨rfl, rfl⟩
      go_wp2_with fail
      refine (HLe.out _ HD.out.1).mono ?_
      rintro e w2 ⟨rfl, hb2⟩
      have HW2 : Hid (Wk base b m v made false true w2 ∧ Went b v w w2) := ⟨HD.out.1.below hb2, HD.out.2.same (Went.of_below hb2)⟩
      clear hb2
      go_wp2_with fail
      refine (HRo.out _ HW2.out.1).mono ?_
      rintro e w3 ⟨rfl, hW3, hg3⟩
      have HW3 : Hid (Wk base b m v made false true w3 ∧ Went b v w w3) := ⟨hW3, HW2.out.2.same hg3⟩
      clear hW3 hg3 HW2
      go_wp2_with fail
      go_region_held3 (fun W => W.cell? ⟨b, 1, none⟩ = some (.string E) ∧ W.cell? ⟨b, 2, none⟩ = some (.string mb)) (first | exact ⟨(HCl.out _ _ _ _ _ HW3.out.1).1, (HCl.out _ _ _ _ _ HW3.out.1).2.1⟩ | exact ⟨(HCl.out _ _ _ _ _ HW3.out.1.drew).1, (HCl.out _ _ _ _ _ HW3.out.1.drew).2.1⟩ | exact ⟨(HCl.out _ _ _ _ _ (HW3.out.1.drew.below ‹_›)).1, (HCl.out _ _ _ _ _ (HW3.out.1.drew.below ‹_›)).2.1⟩) (first | (go_at_call 60; refine (HRA.out _ (HMx.out _ (HW3.out.2.same (Went.of_below ((Below.refl _ _).drew))))).mono ?_; rintro e w4 ⟨rfl, hb4⟩))
      have HW4 : Hid (Wk base b m v made false true w4 ∧ Went b v w w4) := ⟨HW3.out.1.drew.below hb4, HW3.out.2.same (Went.of_below ((Below.refl _ _).drew.trans hb4))⟩
      clear hb4 HW3
      go_wp2_with fail
      go_region_held3 (fun W => W.cell? ⟨b, 1, none⟩ = some (.string E)) (first | exact (HCl.out _ _ _ _ _ HW4.out.1).1 | exact (HCl.out _ _ _ _ _ HW4.out.1.drew).1 | exact (HCl.out _ _ _ _ _ (HW4.out.1.drew.below hb5)).1 | exact (HCl.out _ _ _ _ _ hk6).1) (first | (go_at_call 61; refine (HRe.out _).mono ?_; rintro e w5 ⟨rfl, hb5⟩) | (go_at_call 55; refine (HK.out _ _ (HW4.out.1.drew.below hb5)).mono ?_; rintro e w6 ⟨rfl, hst⟩; obtain ⟨v6, l6, o6, hk6⟩ := hst.wk))
      have HS : Hid (Step base b m v made true (some Y) w w6) := by
        rw [HY.out]
        exact hst.of_went (HW4.out.2.same (Went.of_below ((Below.refl _ _).drew.trans hb5)))
      clear hst hb5 hk6
      go_wp2
      refine bodyPost_end (v := .tuple #[]) (by simp [results, Tryz.results32, go_sem]) rfl ⟨rfl, HS.out⟩
set_option maxHeartbeats 4000000 in
theorem repl_over0 (base b : Nat) (m : Md) (mks ots : Nat) (v : Value) (made : List ByteArray) (done : Bool) (x : ByteArray) (w : World) (h : Wk base b m v made false done w) (ha0 : m.a = E) (hb : m.b.size ≤ 3000) (hmk : m.mks = mks) (hot : m.ots = ots) (hmks : mks ≤ 3000) (hots : ots ≤ 3000) (hx : x.size ≤ 1000000) (hs : sizeL made ≤ 65536) (hmx : Mx w) (hb0 : 0 < b) (hbase : 0 < base)
    (hk : ¬ (firstI m.bg m.en [] (bl x) < 0 ∨ (done = true ∧ m.on = true))) (hr0 : ¬ (x.size : Int) + ots + sizeL made ≤ 65536) :
    Calls Tryz.prog 32 #[.pointer (some ⟨b, 0, none⟩), .string x] w fun e w' => e = .returned (.tuple #[]) ∧ Wk base b m v made true true w' ∧ Went b v w w' := by
  have HB : m.b.size ≤ 3000 := hb
  have HV0 : Hid (v.ownBlock ≠ some 0) := fun e => by have := (h.row.lt 0 e).1; omega
  have HMx : Hid (∀ W, Went b v w W → Mx W) := fun W hW => hW.mx hmx hb0 HV0.out
  have HD : Hid (Wk base b m v made false true (w.setCell ⟨b, 15, none⟩ (.bool true)) ∧ Went b v w (w.setCell ⟨b, 15, none⟩ (.bool true))) := ⟨h.done' true, Went.set b 15 v w _⟩
  obtain ⟨⟨r0, r1, r2, r3, r4, r6, r7, r8, r9⟩, ⟨r12, r13, r14, r15⟩, hfz⟩ := h.cells
  clear h
  obtain ⟨F, hF⟩ : ∃ F, F = firstI m.bg m.en [] (bl x) := ⟨_, rfl⟩
  have HFi : Hid (Calls Tryz.prog 56 #[.pointer (some ⟨b, 0, none⟩), .string x] w fun e w' => e = .returned (.int .i64 F) ∧ w = w') := by
    have := first_any b m.a x m.bg m.en w r1 r3 r4 (by rw [ha0]; decide) hx hmx
    rw [ha0] at this
    rw [hF]; exact this
  have hFle := firstI_le m.bg m.en [] (bl x)
  rw [← hF, bl_length] at hFle
  rw [← hF] at hk
  rw [ha0] at r1
  clear hF hmx
  obtain ⟨f, hf⟩ : ∃ f : Nat, F = f := ⟨F.toNat, by omega⟩
  subst hf
  have hf0 : ¬ (f : Int) < 0 := by omega
  have hfx : (f : Int) ≤ (x.size : Int) := hFle
  have hf00 : (0 : Int) ≤ (f : Int) := by omega
  have hdo : done = true → m.on = false := fun e => by
    have := fun e2 => hk (.inr ⟨e, e2⟩)
    simpa using this
  clear hk hFle
  obtain ⟨mb, hmb⟩ : ∃ mb, mb = m.b := ⟨_, rfl⟩
  rw [← hmb] at r2 HB
  rw [hmk] at r8
  rw [hot] at r9
  have HCl : Hid (∀ W v made o d, Wk base b m v made o d W → W.cell? ⟨b, 1, none⟩ = some (.string E) ∧ W.cell? ⟨b, 2, none⟩ = some (.string mb) ∧ W.cell? ⟨b, 8, none⟩ = some (.int .i64 mks) ∧ W.cell? ⟨b, 9, none⟩ = some (.int .i64 ots)) := fun W v made o d hW => by
    rw [← ha0, hmb, ← hmk, ← hot]; have := hW.cells.1; exact ⟨this.2.1, this.2.2.1, this.2.2.2.2.2.2.2.1, this.2.2.2.2.2.2.2.2⟩
  obtain ⟨LN, hLN⟩ : ∃ LN, LN = (x.size : Int) - ((0 : Nat) : Int) + ((1 : Nat) : Int) * ots + ((0 : Nat) : Int) * mks := ⟨_, rfl⟩
  have hLN2 : LN = (x.size : Int) + ots := by rw [hLN]; simp
  have HLe : Hid (∀ W, Wk base b m v made false true W → Calls Tryz.prog 59 #[.pointer (some ⟨b, 0, none⟩), .string x, .int .i64 1, .int .i64 0] W fun e w' => e = .returned (.int .i64 LN) ∧ Below W.heap.size W w') := fun W hW => by
    obtain ⟨_, _, c8, c9⟩ := HCl.out W _ _ _ _ hW
    rw [hLN]; exact length_any b x mks ots 1 0 W c8 c9 hx (by omega) (by omega) (by omega) (by omega)
  clear hmb hmk hot
  have HRo : Hid (∀ W, Wk base b m v made false true W → Calls Tryz.prog 58 #[.pointer (some ⟨b, 0, none⟩), .int .i64 LN] W fun e w' => e = .returned (.bool false) ∧ Wk base b m v made true true w' ∧ Went b v W w') := fun W hW => by
    have := room_any base b m v made false true LN W hW hs
    rw [decide_eq_false (by rw [hLN2]; exact hr0)] at this; exact this
  clear hLN hLN2 hr0
  rcases hal : m.al with _ | _
  · rw [hal] at r6
    cases done with
    | false =>
      go_enter Tryz.func32, Tryz.ntmps32
      go_wp2_with fail
      refine HFi.out.mono ?_
      rintro e w' ⟨rfl, rfl⟩
      go_wp2_with fail
      refine (HLe.out _ HD.out.1).mono ?_
      rintro e w2 ⟨rfl, hb2⟩
      have HW2 : Hid (Wk base b m v made false true w2 ∧ Went b v w w2) := ⟨HD.out.1.below hb2, HD.out.2.same (Went.of_below hb2)⟩
      clear hb2
      go_wp2_with fail
      refine (HRo.out _ HW2.out.1).mono ?_
      rintro e w3 ⟨rfl, hW3, hg3⟩
      have HW3 : Hid (Wk base b m v made true true w3 ∧ Went b v w w3) := ⟨hW3, HW2.out.2.same hg3⟩
      clear hW3 hg3 HW2
      go_wp2
      refine bodyPost_end (v := .tuple #[]) (by simp [results, Tryz.results32, go_sem]) rfl ⟨rfl, HW3.out.1, HW3.out.2⟩
    | true =>
      rw [hdo rfl] at r7
      go_enter Tryz.func32, Tryz.ntmps32
      go_wp2_with fail
      refine HFi.out.mono ?_
      rintro e w' ⟨rfl, rfl⟩
      go_wp2_with fail
      refine (HLe.out _ HD.out.1).mono ?_
      rintro e w2 ⟨rfl, hb2⟩
      have HW2 : Hid (Wk base b m v made false true w2 ∧ Went b v w w2) := ⟨HD.out.1.below hb2, HD.out.2.same (Went.of_below hb2)⟩
      clear hb2
      go_wp2_with fail
      refine (HRo.out _ HW2.out.1).mono ?_
      rintro e w3 ⟨rfl, hW3, hg3⟩
      have HW3 : Hid (Wk base b m v made true true w3 ∧ Went b v w w3) := ⟨hW3, HW2.out.2.same hg3⟩
      clear hW3 hg3 HW2
      go_wp2
      refine bodyPost_end (v := .tuple #[]) (by simp [results, Tryz.results32, go_sem]) rfl ⟨rfl, HW3.out.1, HW3.out.2⟩
  · rw [hal] at r6
    cases done with
    | false =>
      go_enter Tryz.func32, Tryz.ntmps32
      go_wp2_with fail
      refine HFi.out.mono ?_
      rintro e w' ⟨rfl, rfl⟩
      go_wp2_with fail
      refine (HLe.out _ HD.out.1).mono ?_
      rintro e w2 ⟨rfl, hb2⟩
      have HW2 : Hid (Wk base b m v made false true w2 ∧ Went b v w w2) := ⟨HD.out.1.below hb2, HD.out.2.same (Went.of_below hb2)⟩
      clear hb2
      go_wp2_with fail
      refine (HRo.out _ HW2.out.1).mono ?_
      rintro e w3 ⟨rfl, hW3, hg3⟩
      have HW3 : Hid (Wk base b m v made true true w3 ∧ Went b v w w3) := ⟨hW3, HW2.out.2.same hg3⟩
      clear hW3 hg3 HW2
      go_wp2
      refine bodyPost_end (v := .tuple #[]) (by simp [results, Tryz.results32, go_sem]) rfl ⟨rfl, HW3.out.1, HW3.out.2⟩
    | true =>
      rw [hdo rfl] at r7
      go_enter Tryz.func32, Tryz.ntmps32
      go_wp2_with fail
      refine HFi.out.mono ?_
      rintro e w' ⟨rfl, rfl⟩
      go_wp2_with fail
      refine (HLe.out _ HD.out.1).mono ?_
      rintro e w2 ⟨rfl, hb2⟩
      have HW2 : Hid (Wk base b m v made false true w2 ∧ Went b v w w2) := ⟨HD.out.1.below hb2, HD.out.2.same (Went.of_below hb2)⟩
      clear hb2
      go_wp2_with fail
      refine (HRo.out _ HW2.out.1).mono ?_
      rintro e w3 ⟨rfl, hW3, hg3⟩
      have HW3 : Hid (Wk base b m v made true true w3 ∧ Went b v w w3) := ⟨hW3, HW2.out.2.same hg3⟩
      clear hW3 hg3 HW2
      go_wp2
      refine bodyPost_end (v := .tuple #[]) (by simp [results, Tryz.results32, go_sem]) rfl ⟨rfl, HW3.out.1, HW3.out.2⟩
open Classical in
noncomputable def actS0 (m : Md) (ots : Nat) : ActF := fun done x made =>
  if firstI m.bg m.en [] (bl x) < 0 ∨ (done = true ∧ m.on = true) then some (done, some x)
  else if (x.size : Int) + ots + sizeL made ≤ 65536 then some (true, some (replY0 m x)) else none
theorem does_s0 (m : Md) (mks ots : Nat) (ha0 : m.a = E) (hb : m.b.size ≤ 3000) (hmk : m.mks = mks) (hot : m.ots = ots) (hmks : mks ≤ 3000) (hots : ots ≤ 3000) : Does m 32 (actS0 m ots) := fun base b v made done x W h1 h2 h3 h4 h5 h6 h7 => by
  unfold actS0
  by_cases hk : firstI m.bg m.en [] (bl x) < 0 ∨ (done = true ∧ m.on = true)
  · rw [if_pos hk]
    exact repl_keep base b m v made done x W h1 (by rw [ha0]; decide) h2 h3 h4 h5 (by rw [ha0]; exact hk)
  · rw [if_neg hk]
    by_cases hr : (x.size : Int) + ots + sizeL made ≤ 65536
    · rw [if_pos hr]
      exact repl_go0 base b m mks ots v made done x W h1 ha0 hb hmk hot hmks hots h2 h3 h4 h5 h6 h7 hk hr
    · rw [if_neg hr]
      refine (repl_over0 base b m mks ots v made done x W h1 ha0 hb hmk hot hmks hots h2 h3 h5 h6 h7 hk hr).mono ?_
      rintro e w' ⟨rfl, hw, hg⟩
      exact ⟨rfl, ⟨v, made, true, hw⟩, hg⟩
end Go.Proofs.YtedepknbaakkhabGreatDoor
namespace Go.Proofs.YtedepknbaakkhabGreatDoor
open Go.RowKit Go.Shelf
open RxSem (LM Nd)
theorem max_of (P : Nat → Prop) : ∀ B, (∀ e, P e → e ≤ B) → (∃ e, P e) → ∃ e, P e ∧ ∀ e', P e' → e' ≤ e
  | 0, hB, ⟨e, he⟩ => ⟨e, he, fun e' h' => by have := hB e' h'; omega⟩
  | B + 1, hB, h => by
    by_cases hP : P (B + 1)
    · exact ⟨B + 1, hP, hB⟩
    · exact max_of P B (fun e he => by have := hB e he; have : e ≠ B + 1 := fun e1 => hP (e1 ▸ he); omega) h
theorem lm_total (s : List UInt8) (n : Nd) : ∀ j, j ≤ s.length + 1 → ∃ K, LM s n (s.length + 1 - j) K
  | 0, _ => ⟨[], .top⟩
  | j + 1, hj => by
    obtain ⟨K, hK⟩ := lm_total s n j (by omega)
    have hp : s.length + 1 - (j + 1) ≤ s.length := by omega
    rw [show s.length + 1 - j = (s.length + 1 - (j + 1)) + 1 by omega] at hK
    by_cases h : ∃ e, RxSem.M s n (s.length + 1 - (j + 1)) e
    · obtain ⟨e, he, hm⟩ := max_of _ s.length (fun e he => RxSem.M_top _ _ _ _ he hp) h
      exact ⟨_, .yes hK hp he hm⟩
    · exact ⟨K, .no hK hp (fun e he => h ⟨e, he⟩)⟩
theorem lm_all (s : List UInt8) (n : Nd) : ∃ K, LM s n 0 K := by
  have := lm_total s n (s.length + 1) (Nat.le_refl _)
  rwa [Nat.sub_self] at this
theorem lm_len {s : List UInt8} {n : Nd} {p : Nat} {K : List (Nat × Nat)} (h : LM s n p K) : K.length + p ≤ s.length + 1 := by
  induction h with
  | top => simp
  | no h hp hn ih => omega
  | yes h hp he hm ih => simp only [List.length_cons]; omega
noncomputable def lmOf (s : List UInt8) (k : List Nd) : List (Nat × Nat) := Classical.choose (lm_all s (.alt k))
theorem lmOf_is (s : List UInt8) (k : List Nd) : LM s (.alt k) 0 (lmOf s k) := Classical.choose_spec (lm_all s (.alt k))
noncomputable def chosC (al : Bool) (s : List UInt8) (k : List Nd) : List (Nat × Nat) := X.chosenOf al (lmOf s k)
noncomputable def putC (al : Bool) (s y : List UInt8) (k : List Nd) : List UInt8 := X.putL s y 0 (chosC al s k)
theorem chosC_chain (al : Bool) (s : List UInt8) (k : List Nd) : X.Chain s.length 0 (chosC al s k) := X.chosen_chain (lmOf_is s k)
theorem chosC_len (al : Bool) (s : List UInt8) (k : List Nd) : (chosC al s k).length ≤ s.length + 1 := by
  have h1 := lm_len (lmOf_is s k)
  unfold chosC X.chosenOf
  split
  · exact Nat.le_trans (X.chs_len _) (by omega)
  · rw [List.length_take]; omega
theorem putL_none (s : List UInt8) : ∀ (C : List (Nat × Nat)) (f : Nat), X.Chain s.length f C → (X.putL s [] f C).length ≤ s.length - f
  | [], f, _ => by simp [X.putL]
  | m :: r, f, h => by
    have h1 := putL_none s r m.2 h.2.2
    have h3 := h.2.2.le
    have h4 := h.1
    have h5 := h.2.1
    simp only [X.putL, X.fillL, List.length_append, List.length_take, List.length_drop, List.length_nil]
    omega
theorem putL_dot (s : List UInt8) : ∀ (C : List (Nat × Nat)) (f : Nat), (X.putL s [46] f C).length = (X.putL s [] f C).length + C.length
  | [], f => by simp [X.putL]
  | m :: r, f => by
    have h1 := putL_dot s r m.2
    have e1 : X.fillL ((s.drop m.1).take (m.2 - m.1)) [46] = [46] := by simp [X.fillL]
    have e2 : X.fillL ((s.drop m.1).take (m.2 - m.1)) [] = [] := rfl
    simp only [X.putL, e1, e2, List.length_append, List.length_cons, List.length_nil, h1]
    omega
theorem replace_c (r : Nat) (t x y : ByteArray) (k : List Nd) (al : Bool) (w : World) (h : X.Made r t k w) (hx : x.size ≤ 90000) (hy : y.size ≤ 1000) : Calls Tryz.prog 62 #[.pointer (some ⟨r, 0, none⟩), .string x, .string y, .bool al] w fun e w' => e = .returned (.string (ba (putC al (bl x) (bl y) k))) ∧ X.Made r t k w' ∧ X.Wrote r w w' := by
  refine (X.replace_any X.steps_any r t x y k al w h hx hy).mono ?_
  rintro e w' ⟨K, rfl, hK, h1, h2⟩
  have : K = lmOf (bl x) k := hK.same (lmOf_is (bl x) k)
  rw [this]
  exact ⟨rfl, h1, h2⟩
structure WentR (r b : Nat) (v : Value) (w w' : World) : Prop where
  os : w'.os = w.os
  tape : w'.tape = w.tape
  output : w'.output = w.output
  size : w.heap.size ≤ w'.heap.size
  block : ∀ j, j < w.heap.size → j ≠ b → v.ownBlock ≠ some j → j ≠ r → w'.heap[j]? = w.heap[j]?
theorem WentR.refl (r b : Nat) (v : Value) (w : World) : WentR r b v w w := ⟨rfl, rfl, rfl, Nat.le_refl _, fun _ _ _ _ _ => rfl⟩
theorem WentR.of_went {r b : Nat} {v : Value} {w w' : World} (h : Went b v w w') : WentR r b v w w' := ⟨h.os, h.tape, h.output, h.size, fun j h1 h2 h3 _ => h.block j h1 h2 h3⟩
theorem WentR.of_wrote {r b : Nat} {v : Value} {w w' : World} (h : X.Wrote r w w') : WentR r b v w w' := ⟨h.os, h.tape, h.output, h.size, fun j h1 _ _ h4 => h.block j h1 h4⟩
theorem WentR.same {r b : Nat} {v : Value} {w w1 w2 : World} (h : WentR r b v w w1) (h2 : WentR r b v w1 w2) : WentR r b v w w2 :=
  ⟨h2.os.trans h.os, h2.tape.trans h.tape, h2.output.trans h.output, Nat.le_trans h.size h2.size, fun j hj a b c => (h2.block j (Nat.lt_of_lt_of_le hj h.size) a b c).trans (h.block j hj a b c)⟩
structure WkC (base b r : Nat) (m : Md) (t : ByteArray) (k : List Nd) (v : Value) (made : List ByteArray) (over done : Bool) (w : World) : Prop where
  wk : Wk base b m v made over done w
  rx : X.Made r t k w
theorem WkC.ne {base b r : Nat} {m : Md} {t : ByteArray} {k : List Nd} {v : Value} {made : List ByteArray} {over done : Bool} {w : World} (h : WkC base b r m t k v made over done w) : b ≠ r ∧ v.ownBlock ≠ some r := by
  obtain ⟨c, hc⟩ := h.rx.cells
  refine ⟨fun e => ?_, fun e => ?_⟩
  · have := h.wk.blk
    rw [e, hc] at this
    simp at this
  · obtain ⟨cur, h2⟩ := row_type h.wk.row e
    rw [hc] at h2
    simp at h2
theorem WkC.wrote {base b r : Nat} {m : Md} {t : ByteArray} {k : List Nd} {v : Value} {made : List ByteArray} {over done : Bool} {w w' : World} (h : WkC base b r m t k v made over done w) (hm : X.Made r t k w') (hw : X.Wrote r w w') : WkC base b r m t k v made over done w' := by
  obtain ⟨h1, h2⟩ := h.ne
  exact ⟨⟨(hw.block b h.wk.lt h1).trans h.wk.blk, X.wrote_row hw h.wk.row h2, h.wk.far, Nat.le_trans h.wk.at_ hw.size⟩, hm⟩
theorem made_went {base b r : Nat} {m : Md} {t : ByteArray} {k : List Nd} {v : Value} {made : List ByteArray} {over done : Bool} {w w' : World} (h : WkC base b r m t k v made over done w) (hw : Went b v w w') : X.Made r t k w' := by
  have hb := h.wk.blk
  have hn : ∀ {j : Nat} {cs : Array Value} {T : TypeId}, w.heap[j]? = some (.cells cs T (0, 0)) → ¬ T = 51 → ¬ T = 9 → w'.heap[j]? = w.heap[j]? := fun {j cs T} hj h1 h2 => by
    refine hw.block j (Array.getElem?_eq_some_iff.1 hj).1 (fun e => ?_) (fun e => ?_)
    · rw [e, hb] at hj; simp at hj; exact h1 hj.2.symm
    · obtain ⟨cur, h3⟩ := row_type h.wk.row e
      rw [hj] at h3; simp at h3; exact h2 h3.2
  have hrow : ∀ {base' n z : Nat} {v' : Value} {T : TypeId} {xs : List Value}, w.ownsRow base' T z v' n xs → ¬ T = 51 → ¬ T = 9 → w'.ownsRow base' T z v' n xs := fun {base' n z v' T xs} hr h1 h2 => by
    refine ⟨hr.1, ?_⟩
    rcases hr.2 with h0 | ⟨g, cap, cur, hv, hg, hgg, rest⟩
    · exact .inl h0
    · exact .inr ⟨g, cap, cur, hv, hg, (hn hgg h1 h2).trans hgg, rest⟩
  cases h.rx with
  | fresh v0 base0 L hb0 hr hok hsp hL => exact .fresh v0 base0 L ((hn hb0 (by decide) (by decide)).trans hb0) (hrow hr (by decide) (by decide)) hok hsp hL
  | found gs cap SL h0 =>
    obtain ⟨cur, h2, h3⟩ := h0.stp
    exact .found gs cap SL ⟨(hn h0.blk (by decide) (by decide)).trans h0.blk, ⟨cur, (hn h2 (by decide) (by decide)).trans h2, h3⟩, h0.abs, h0.oks, h0.few⟩
def StpR (base b r : Nat) (m : Md) (t : ByteArray) (k : List Nd) (v : Value) (made : List ByteArray) (q : Option (Bool × Option ByteArray)) (w w' : World) : Prop :=
  WentR r b v w w' ∧ X.Made r t k w' ∧ match q with
  | none => ∃ v' l d, Wk base b m v' l true d w'
  | some q => ∃ v', (match q.2 with
    | none => Wk base b m v' made false q.1 w'
    | some y => if y.size + sizeL made ≤ 65536 then Wk base b m v' (made ++ [y]) false q.1 w' else Wk base b m v' made true q.1 w') ∧ (∀ j, v'.ownBlock = some j → v.ownBlock = some j ∨ w.heap.size ≤ j)
theorem step_r {base b r : Nat} {m : Md} {t : ByteArray} {k : List Nd} {v : Value} {made : List ByteArray} {over d done : Bool} {y : Option ByteArray} {w0 w w' : World} (h0 : WentR r b v w0 w) (hk : WkC base b r m t k v made over d w) (h : Step base b m v made done y w w') : StpR base b r m t k v made (some (done, y)) w0 w' := by
  obtain ⟨⟨v', h1, h2⟩, h3⟩ := h
  refine ⟨h0.same (.of_went h3), made_went hk h3, v', by cases y <;> exact h1, fun j hj => ?_⟩
  have := h0.size
  rcases h2 j hj with h4 | h4
  · exact .inl h4
  · exact .inr (by omega)
end Go.Proofs.YtedepknbaakkhabGreatDoor
