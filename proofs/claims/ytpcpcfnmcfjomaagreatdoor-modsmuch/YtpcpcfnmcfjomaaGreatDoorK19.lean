/-
  M14
-/
import Derived.Test.YtpcpcfnmcfjomaaGreatDoorK18
namespace Go.Proofs.YtpcpcfnmcfjomaaGreatDoor
open Go.RowKit Go.Shelf
theorem Step.wk {base b : Nat} {m : Md} {v : Value} {made : List ByteArray} {done : Bool} {x : Option ByteArray} {w w' : World} (h : Step base b m v made done x w w') : ∃ v' l o, Wk base b m v' l o done w' := by
  obtain ⟨⟨v', h1, _⟩, _⟩ := h
  cases x with
  | none => exact ⟨v', _, _, h1⟩
  | some y =>
    dsimp only at h1
    split at h1
    · exact ⟨v', _, _, h1⟩
    · exact ⟨v', _, _, h1⟩
set_option maxRecDepth 20000 in
set_option maxHeartbeats 4000000 in
theorem repl_go (base b : Nat) (m : Md) (mks ots : Nat) (v : Value) (made : List ByteArray) (done : Bool) (x : ByteArray) (w : World) (h : Wk base b m v made false done w) (ha1 : 1 ≤ m.a.size) (ha : m.a.size ≤ 3000) (hb : m.b.size ≤ 3000) (hmk : m.mks = mks) (hot : m.ots = ots) (hmks : mks ≤ 3000) (hots : ots ≤ 3000) (hx : x.size ≤ 1000000) (hs : sizeL made ≤ 65536) (hl : made.length ≤ 100000) (hmx : Mx w) (hb0 : 0 < b) (hbase : 0 < base)
    (hk : ¬ (firstI m.bg m.en (bl m.a) (bl x) < 0 ∨ (done = true ∧ m.on = true))) (hr0 : replN m mks ots x + sizeL made ≤ 65536) :
    Calls Tryz.prog 47 #[.pointer (some ⟨b, 0, none⟩), .string x] w fun e w' => e = .returned (.tuple #[]) ∧ Step base b m v made true (some (replY m x)) w w' := by
  have HK : Hid (∀ y W, Wk base b m v made false true W → Calls Tryz.prog 89 #[.pointer (some ⟨b, 0, none⟩), .string y] W fun e w' => e = .returned (.tuple #[]) ∧ Step base b m v made true (some y) W w') := fun y W hW => keep_any base b m v made false true y W hW hs hl
  have HV0 : Hid (v.ownBlock ≠ some 0) := fun e => by have := (h.row.lt 0 e).1; omega
  have HMx : Hid (∀ W, Went b v w W → Mx W) := fun W hW => hW.mx hmx hb0 HV0.out
  have HD : Hid (Wk base b m v made false true (w.setCell ⟨b, 15, none⟩ (.bool true)) ∧ Went b v w (w.setCell ⟨b, 15, none⟩ (.bool true))) := ⟨h.done' true, Went.set b 15 v w _⟩
  obtain ⟨⟨r0, r1, r2, r3, r4, r6, r7, r8, r9⟩, ⟨r12, r13, r14, r15⟩, hfz⟩ := h.cells
  clear h
  obtain ⟨F, hF⟩ : ∃ F, F = firstI m.bg m.en (bl m.a) (bl x) := ⟨_, rfl⟩
  have HFi : Hid (Calls Tryz.prog 90 #[.pointer (some ⟨b, 0, none⟩), .string x] w fun e w' => e = .returned (.int .i64 F) ∧ w = w') := by
    rw [hF]; exact first_any b m.a x m.bg m.en w r1 r3 r4 (by omega) hx hmx
  have hFle := firstI_le m.bg m.en (bl m.a) (bl x)
  obtain ⟨pl, hpl⟩ : ∃ pl, pl = placesN m.al m.bg m.en (bl m.a) (bl x) := ⟨_, rfl⟩
  obtain ⟨Y, hY⟩ : ∃ Y, Y = replY m x := ⟨_, rfl⟩
  rw [← hY]
  unfold replN at hr0
  unfold replY at hY
  rw [← hF, bl_length] at hFle
  rw [← hF] at hk hY
  rw [← hpl] at hr0 hY
  have hpl1 : pl ≤ 1000001 := by
    rw [hpl]; unfold placesN; split
    · have := Lib.count_le (bl x) (bl m.a); rw [bl_length] at this; omega
    · omega
  clear hF hmx
  obtain ⟨f, hf⟩ : ∃ f : Nat, F = f := ⟨F.toNat, by omega⟩
  subst hf
  have hf0 : ¬ (f : Int) < 0 := by omega
  have hfx : (f : Int) ≤ (x.size : Int) := hFle
  have hf00 : (0 : Int) ≤ (f : Int) := by omega
  have hdo : done = true → m.on = false := fun e => by
    have := fun e2 => hk (.inr ⟨e, e2⟩)
    simpa using this
  clear hk hFle
  rw [Int.toNat_natCast] at hY
  obtain ⟨ma, hma⟩ : ∃ ma, ma = m.a := ⟨_, rfl⟩
  obtain ⟨mb, hmb⟩ : ∃ mb, mb = m.b := ⟨_, rfl⟩
  rw [← hma] at r1 ha ha1 hY hr0 hpl
  rw [← hmb] at r2 hb hY
  rw [hmk] at r8
  rw [hot] at r9
  have HCl : Hid (∀ W v made o d, Wk base b m v made o d W → W.cell? ⟨b, 1, none⟩ = some (.string ma) ∧ W.cell? ⟨b, 2, none⟩ = some (.string mb) ∧ W.cell? ⟨b, 8, none⟩ = some (.int .i64 mks) ∧ W.cell? ⟨b, 9, none⟩ = some (.int .i64 ots)) := fun W v made o d hW => by
    rw [hma, hmb, ← hmk, ← hot]; have := hW.cells.1; exact ⟨this.2.1, this.2.2.1, this.2.2.2.2.2.2.2.1, this.2.2.2.2.2.2.2.2⟩
  clear hma hmb hmk hot
  obtain ⟨tk, htk⟩ : ∃ tk, tk = pl * ma.size := ⟨_, rfl⟩
  have htkb : tk ≤ 1000001 * 3000 := by rw [htk]; exact Nat.mul_le_mul hpl1 ha
  rw [← htk] at hr0
  have HTk : Hid (tk = pl * ma.size) := htk
  have hmul : (pl : Int) * (ma.size : Int) = (tk : Int) := by rw [htk]; simp
  have hwm : IntKind.i64.wrap ((pl : Int) * (ma.size : Int)) = (tk : Int) := by rw [hmul]; exact wrap_ok _ (by omega) (by omega)
  clear htk hmul
  obtain ⟨LN, hLN⟩ : ∃ LN, LN = (x.size : Int) - (tk : Nat) + (pl : Nat) * ots + (tk : Nat) * mks := ⟨_, rfl⟩
  rw [← hLN] at hr0
  have HLe : Hid (∀ W, Wk base b m v made false true W → Calls Tryz.prog 93 #[.pointer (some ⟨b, 0, none⟩), .string x, .int .i64 pl, .int .i64 tk] W fun e w' => e = .returned (.int .i64 LN) ∧ Below W.heap.size W w') := fun W hW => by
    obtain ⟨_, _, c8, c9⟩ := HCl.out W _ _ _ _ hW
    rw [hLN]; exact length_any b x mks ots pl tk W c8 c9 hx (by omega) (by omega) hpl1 (by omega)
  have HRo : Hid (∀ W, Wk base b m v made false true W → Calls Tryz.prog 92 #[.pointer (some ⟨b, 0, none⟩), .int .i64 LN] W fun e w' => e = .returned (.bool true) ∧ Wk base b m v made false true w' ∧ Went b v W w') := fun W hW => by
    have := room_any base b m v made false true LN W hW hs
    rw [decide_eq_true hr0] at this; exact this
  clear hLN hr0
  obtain ⟨by', hby⟩ : ∃ by', by' = ba (Lib.replaceAll (bl mb) [38] (bl ma)) := ⟨_, rfl⟩
  have hbys : by'.size ≤ 10000000 := by
    rw [hby, ba_size]
    have h3 := replaceAll_len (bl mb) [38] (bl ma)
    rw [bl_length, bl_length] at h3
    have h4 : (mb.size + 1) * ma.size ≤ 3001 * 3000 := Nat.mul_le_mul (by omega) ha
    omega
  have HRA : Hid (∀ W, Mx W → Calls Tryz.prog 94 #[.string mb, .string ⟨#[38]⟩, .string ma] W fun e w' => e = .returned (.string by') ∧ Below W.heap.size W w') := fun W hW => by
    obtain ⟨mm, hmm⟩ := hW
    have hcb := Lib.countB_le ⟨#[38]⟩ (by decide) mb.size mb (Nat.le_refl _)
    refine (Tryz.strings_ReplaceAll mb ⟨#[38]⟩ ma mm W (by omega) hmm (by decide) ?_).mono ?_
    · have h3 : Lib.countB mb ⟨#[38]⟩ * ma.size ≤ 3000 * 3000 := Nat.mul_le_mul (by omega) ha
      omega
    · rintro e w' ⟨rfl, hB⟩
      rw [hby]; exact ⟨rfl, hB⟩
  obtain ⟨rp, hrp⟩ : ∃ rp, rp = ba (Lib.replace ((bl x).drop f) (bl ma) (bl by') pl) := ⟨_, rfl⟩
  have HRe : Hid (∀ W, Mx W → Calls Tryz.prog 95 #[.string (x.extract f x.size), .string ma, .string by', .int .i64 pl] W fun e w' => e = .returned (.string rp) ∧ Below W.heap.size W w') := fun W hW => by
    obtain ⟨mm, hmm⟩ := hW
    have hxs : (x.extract f x.size).size ≤ 1000000 := by simp; omega
    have hcb := Lib.countB_le ma ha1 (x.extract f x.size).size (x.extract f x.size) (Nat.le_refl _)
    refine (Tryz.strings_Replace (x.extract f x.size) ma by' pl mm W (by omega) hmm ha1 ?_).mono ?_
    · have h3 : Lib.countB (x.extract f x.size) ma * by'.size ≤ 1000000 * 10000000 := Nat.mul_le_mul (by omega) hbys
      omega
    · rintro e w' ⟨rfl, hB⟩
      rw [hrp, ← bl_rest]; exact ⟨rfl, hB⟩
  have hrps : rp.size ≤ 100000000000000 := by
    rw [hrp, ba_size]
    unfold Lib.replace
    split
    · rw [List.length_drop, bl_length]; omega
    · have h3 := replaceK_len (bl ma) (bl by') (Lib.replaceNum ((bl x).drop f) (bl ma) pl) ((bl x).drop f)
      rw [List.length_drop, bl_length, bl_length] at h3
      have h5 : Lib.replaceNum ((bl x).drop f) (bl ma) pl ≤ 1000001 := by
        unfold Lib.replaceNum
        have := Lib.count_le ((bl x).drop f) (bl ma)
        rw [List.length_drop, bl_length] at this
        split
        · omega
        · omega
      have h4 : Lib.replaceNum ((bl x).drop f) (bl ma) pl * by'.size ≤ 1000001 * 10000000 := Nat.mul_le_mul h5 hbys
      omega
  have HY : Hid (Y = x.extract 0 f ++ rp) := by
    unfold Hid; apply bl_inj; rw [hY, bl_ba, hrp, hby, bl_ba]
    show _ = (x.extract 0 f ++ _).data.toList
    simp only [ByteArray.data_append, Array.toList_append]
    rw [show (x.extract 0 f).data.toList = (bl x).take f by rw [show (x.extract 0 f).data.toList = bl (x.extract 0 f) from rfl, bl_extract]; simp]
    simp [ba]
  clear hY hrp hby
  obtain ⟨xf, hxf⟩ : ∃ xf, x.extract 0 f = xf := ⟨_, rfl⟩
  have hxfs : xf.size ≤ 1000000 := by rw [← hxf]; simp; omega
  rw [hxf] at HY
  have hadd : ¬ xf.size + rp.size > 9223372036854775807 := by omega
  have hadd1 : ¬ 9223372036854775807 < xf.size + rp.size := by omega
  have hadd2 : xf.size + rp.size ≤ 9223372036854775807 := by omega
  have n1 : ¬ ma.toList = [] := by rw [Lib.toList_data]; intro e; have := bl_length ma; unfold bl at this; rw [e] at this; simp at this; omega
  have n2 : ma.toList.isEmpty = false := by cases hh : ma.toList with | nil => exact absurd hh n1 | cons => rfl
  have n3 : (ma.toList != []) = true := bne_iff_ne.2 n1
  have n4 : (ma.toList == []) = false := beq_eq_false_iff_ne.2 n1
  rcases hal : m.al with _ | _
  · rw [hal] at r6
    have hp1 : pl = 1 := by rw [hpl]; unfold placesN; rw [if_neg (by simp [*])]
    have ht1 : tk = ma.size := by rw [HTk.out, hp1, Nat.one_mul]
    clear hwm hpl
    subst hp1
    subst ht1
    have hm1 : IntKind.i64.wrap (ma.size : Int) = (ma.size : Int) := wrap_ok _ (by omega) (by omega)
    clear HTk
    cases done with
    | false =>
      go_enter Tryz.func47, Tryz.ntmps47
      go_wp2_with fail
      refine HFi.out.mono ?_
      rintro e w' ⟨rfl, rfl⟩
      go_wp2_with fail
      refine (HLe.out _ HD.out.1).mono ?_
      rintro e w2 ⟨rfl, hb2⟩
      have HW2 : Hid (Wk base b m v made false true w2 ∧ Went b v w w2) := ⟨HD.out.1.below hb2, HD.out.2.same (Went.of_below hb2)⟩
      clear hb2
      go_wp2_with fail
      refine (HRo.out _ HW2.out.1).mono ?_
      rintro e w3 ⟨rfl, hW3, hg3⟩
      have HW3 : Hid (Wk base b m v made false true w3 ∧ Went b v w w3) := ⟨hW3, HW2.out.2.same hg3⟩
      clear hW3 hg3 HW2
      go_wp2_with fail
      go_region_held3 (fun W => W.cell? ⟨b, 1, none⟩ = some (.string ma) ∧ W.cell? ⟨b, 2, none⟩ = some (.string mb)) (first | exact ⟨(HCl.out _ _ _ _ _ HW3.out.1).1, (HCl.out _ _ _ _ _ HW3.out.1).2.1⟩ | exact ⟨(HCl.out _ _ _ _ _ HW3.out.1.drew).1, (HCl.out _ _ _ _ _ HW3.out.1.drew).2.1⟩ | exact ⟨(HCl.out _ _ _ _ _ (HW3.out.1.drew.below ‹_›)).1, (HCl.out _ _ _ _ _ (HW3.out.1.drew.below ‹_›)).2.1⟩) (first | (go_at_call 94; refine (HRA.out _ (HMx.out _ (HW3.out.2.same (Went.of_below ((Below.refl _ _).drew))))).mono ?_; rintro e w4 ⟨rfl, hb4⟩))
      have HW4 : Hid (Wk base b m v made false true w4 ∧ Went b v w w4) := ⟨HW3.out.1.drew.below hb4, HW3.out.2.same (Went.of_below ((Below.refl _ _).drew.trans hb4))⟩
      clear hb4 HW3
      go_wp2_with fail
      go_region_held3 (fun W => W.cell? ⟨b, 1, none⟩ = some (.string ma)) (first | exact (HCl.out _ _ _ _ _ HW4.out.1).1 | exact (HCl.out _ _ _ _ _ HW4.out.1.drew).1 | exact (HCl.out _ _ _ _ _ (HW4.out.1.drew.below hb5)).1 | exact (HCl.out _ _ _ _ _ hk6).1) (first | (go_at_call 95; refine (HRe.out _ (HMx.out _ (HW4.out.2.same (Went.of_below ((Below.refl _ _).drew))))).mono ?_; rintro e w5 ⟨rfl, hb5⟩) | (go_at_call 89; refine (HK.out _ _ (HW4.out.1.drew.below hb5)).mono ?_; rintro e w6 ⟨rfl, hst⟩; obtain ⟨v6, l6, o6, hk6⟩ := hst.wk))
      have HS : Hid (Step base b m v made true (some Y) w w6) := by
        rw [HY.out]
        exact hst.of_went (HW4.out.2.same (Went.of_below ((Below.refl _ _).drew.trans hb5)))
      clear hst hb5 hk6
      go_wp2
      refine bodyPost_end (v := .tuple #[]) (by simp [results, Tryz.results47, go_sem]) rfl ⟨rfl, HS.out⟩
    | true =>
      rw [hdo rfl] at r7
      go_enter Tryz.func47, Tryz.ntmps47
      go_wp2_with fail
      refine HFi.out.mono ?_
      rintro e w' ⟨rfl, rfl⟩
      go_wp2_with fail
      refine (HLe.out _ HD.out.1).mono ?_
      rintro e w2 ⟨rfl, hb2⟩
      have HW2 : Hid (Wk base b m v made false true w2 ∧ Went b v w w2) := ⟨HD.out.1.below hb2, HD.out.2.same (Went.of_below hb2)⟩
      clear hb2
      go_wp2_with fail
      refine (HRo.out _ HW2.out.1).mono ?_
      rintro e w3 ⟨rfl, hW3, hg3⟩
      have HW3 : Hid (Wk base b m v made false true w3 ∧ Went b v w w3) := ⟨hW3, HW2.out.2.same hg3⟩
      clear hW3 hg3 HW2
      go_wp2_with fail
      go_region_held3 (fun W => W.cell? ⟨b, 1, none⟩ = some (.string ma) ∧ W.cell? ⟨b, 2, none⟩ = some (.string mb)) (first | exact ⟨(HCl.out _ _ _ _ _ HW3.out.1).1, (HCl.out _ _ _ _ _ HW3.out.1).2.1⟩ | exact ⟨(HCl.out _ _ _ _ _ HW3.out.1.drew).1, (HCl.out _ _ _ _ _ HW3.out.1.drew).2.1⟩ | exact ⟨(HCl.out _ _ _ _ _ (HW3.out.1.drew.below ‹_›)).1, (HCl.out _ _ _ _ _ (HW3.out.1.drew.below ‹_›)).2.1⟩) (first | (go_at_call 94; refine (HRA.out _ (HMx.out _ (HW3.out.2.same (Went.of_below ((Below.refl _ _).drew))))).mono ?_; rintro e w4 ⟨rfl, hb4⟩))
      have HW4 : Hid (Wk base b m v made false true w4 ∧ Went b v w w4) := ⟨HW3.out.1.drew.below hb4, HW3.out.2.same (Went.of_below ((Below.refl _ _).drew.trans hb4))⟩
      clear hb4 HW3
      go_wp2_with fail
      go_region_held3 (fun W => W.cell? ⟨b, 1, none⟩ = some (.string ma)) (first | exact (HCl.out _ _ _ _ _ HW4.out.1).1 | exact (HCl.out _ _ _ _ _ HW4.out.1.drew).1 | exact (HCl.out _ _ _ _ _ (HW4.out.1.drew.below hb5)).1 | exact (HCl.out _ _ _ _ _ hk6).1) (first | (go_at_call 95; refine (HRe.out _ (HMx.out _ (HW4.out.2.same (Went.of_below ((Below.refl _ _).drew))))).mono ?_; rintro e w5 ⟨rfl, hb5⟩) | (go_at_call 89; refine (HK.out _ _ (HW4.out.1.drew.below hb5)).mono ?_; rintro e w6 ⟨rfl, hst⟩; obtain ⟨v6, l6, o6, hk6⟩ := hst.wk))
      have HS : Hid (Step base b m v made true (some Y) w w6) := by
        rw [HY.out]
        exact hst.of_went (HW4.out.2.same (Went.of_below ((Below.refl _ _).drew.trans hb5)))
      clear hst hb5 hk6
      go_wp2
      refine bodyPost_end (v := .tuple #[]) (by simp [results, Tryz.results47, go_sem]) rfl ⟨rfl, HS.out⟩
  · rw [hal] at r6
    rcases hbg : m.bg with _ | _
    · rw [hbg] at r3
      rcases hen : m.en with _ | _
      · rw [hen] at r4
        have hp1 : pl = Lib.count (bl x) (bl ma) := by rw [hpl]; unfold placesN; rw [if_pos ⟨hal, hbg, hen⟩]
        have HCo : Hid (∀ W, Mx W → Calls Tryz.prog 91 #[.string x, .string ma] W fun e w' => e = .returned (.int .i64 pl) ∧ W = w') := fun W hW => by
          obtain ⟨mm, hmm⟩ := hW
          rw [hp1]
          exact (Tryz.strings_Count_any x ma mm W (by omega) hmm ha1).mono (by rintro e w' ⟨rfl, rfl⟩; exact ⟨rfl, rfl⟩)
        clear hp1 hpl
        cases done with
        | false =>
          go_enter Tryz.func47, Tryz.ntmps47
          go_wp2_with fail
          refine HFi.out.mono ?_
          rintro e w' ⟨rfl, rfl⟩
          go_wp2_with fail
          refine (HCo.out _ (HMx.out _ HD.out.2)).mono ?_
          rintro e w1 ⟨rfl, rfl⟩
          go_wp2_with fail
          refine (HLe.out _ HD.out.1).mono ?_
          rintro e w2 ⟨rfl, hb2⟩
          have HW2 : Hid (Wk base b m v made false true w2 ∧ Went b v w w2) := ⟨HD.out.1.below hb2, HD.out.2.same (Went.of_below hb2)⟩
          clear hb2
          go_wp2_with fail
          refine (HRo.out _ HW2.out.1).mono ?_
          rintro e w3 ⟨rfl, hW3, hg3⟩
          have HW3 : Hid (Wk base b m v made false true w3 ∧ Went b v w w3) := ⟨hW3, HW2.out.2.same hg3⟩
          clear hW3 hg3 HW2
          go_wp2_with fail
          go_region_held3 (fun W => W.cell? ⟨b, 1, none⟩ = some (.string ma) ∧ W.cell? ⟨b, 2, none⟩ = some (.string mb)) (first | exact ⟨(HCl.out _ _ _ _ _ HW3.out.1).1, (HCl.out _ _ _ _ _ HW3.out.1).2.1⟩ | exact ⟨(HCl.out _ _ _ _ _ HW3.out.1.drew).1, (HCl.out _ _ _ _ _ HW3.out.1.drew).2.1⟩ | exact ⟨(HCl.out _ _ _ _ _ (HW3.out.1.drew.below ‹_›)).1, (HCl.out _ _ _ _ _ (HW3.out.1.drew.below ‹_›)).2.1⟩) (first | (go_at_call 94; refine (HRA.out _ (HMx.out _ (HW3.out.2.same (Went.of_below ((Below.refl _ _).drew))))).mono ?_; rintro e w4 ⟨rfl, hb4⟩))
          have HW4 : Hid (Wk base b m v made false true w4 ∧ Went b v w w4) := ⟨HW3.out.1.drew.below hb4, HW3.out.2.same (Went.of_below ((Below.refl _ _).drew.trans hb4))⟩
          clear hb4 HW3
          go_wp2_with fail
          go_region_held3 (fun W => W.cell? ⟨b, 1, none⟩ = some (.string ma)) (first | exact (HCl.out _ _ _ _ _ HW4.out.1).1 | exact (HCl.out _ _ _ _ _ HW4.out.1.drew).1 | exact (HCl.out _ _ _ _ _ (HW4.out.1.drew.below hb5)).1 | exact (HCl.out _ _ _ _ _ hk6).1) (first | (go_at_call 95; refine (HRe.out _ (HMx.out _ (HW4.out.2.same (Went.of_below ((Below.refl _ _).drew))))).mono ?_; rintro e w5 ⟨rfl, hb5⟩) | (go_at_call 89; refine (HK.out _ _ (HW4.out.1.drew.below hb5)).mono ?_; rintro e w6 ⟨rfl, hst⟩; obtain ⟨v6, l6, o6, hk6⟩ := hst.wk))
          have HS : Hid (Step base b m v made true (some Y) w w6) := by
            rw [HY.out]
            exact hst.of_went (HW4.out.2.same (Went.of_below ((Below.refl _ _).drew.trans hb5)))
          clear hst hb5 hk6
          go_wp2
          refine bodyPost_end (v := .tuple #[]) (by simp [results, Tryz.results47, go_sem]) rfl ⟨rfl, HS.out⟩
        | true =>
          rw [hdo rfl] at r7
          go_enter Tryz.func47, Tryz.ntmps47
          go_wp2_with fail
          refine HFi.out.mono ?_
          rintro e w' ⟨rfl, rfl⟩
          go_wp2_with fail
          refine (HCo.out _ (HMx.out _ HD.out.2)).mono ?_
          rintro e w1 ⟨rfl, rfl⟩
          go_wp2_with fail
          refine (HLe.out _ HD.out.1).mono ?_
          rintro e w2 ⟨rfl, hb2⟩
          have HW2 : Hid (Wk base b m v made false true w2 ∧ Went b v w w2) := ⟨HD.out.1.below hb2, HD.out.2.same (Went.of_below hb2)⟩
          clear hb2
          go_wp2_with fail
          refine (HRo.out _ HW2.out.1).mono ?_
          rintro e w3 ⟨rfl, hW3, hg3⟩
          have HW3 : Hid (Wk base b m v made false true w3 ∧ Went b v w w3) := ⟨hW3, HW2.out.2.same hg3⟩
          clear hW3 hg3 HW2
          go_wp2_with fail
          go_region_held3 (fun W => W.cell? ⟨b, 1, none⟩ = some (.string ma) ∧ W.cell? ⟨b, 2, none⟩ = some (.string mb)) (first | exact ⟨(HCl.out _ _ _ _ _ HW3.out.1).1, (HCl.out _ _ _ _ _ HW3.out.1).2.1⟩ | exact ⟨(HCl.out _ _ _ _ _ HW3.out.1.drew).1, (HCl.out _ _ _ _ _ HW3.out.1.drew).2.1⟩ | exact ⟨(HCl.out _ _ _ _ _ (HW3.out.1.drew.below ‹_›)).1, (HCl.out _ _ _ _ _ (HW3.out.1.drew.below ‹_›)).2.1⟩) (first | (go_at_call 94; refine (HRA.out _ (HMx.out _ (HW3.out.2.same (Went.of_below ((Below.refl _ _).drew))))).mono ?_; rintro e w4 ⟨rfl, hb4⟩))
          have HW4 : Hid (Wk base b m v made false true w4 ∧ Went b v w w4) := ⟨HW3.out.1.drew.below hb4, HW3.out.2.same (Went.of_below ((Below.refl _ _).drew.trans hb4))⟩
          clear hb4 HW3
          go_wp2_with fail
          go_region_held3 (fun W => W.cell? ⟨b, 1, none⟩ = some (.string ma)) (first | exact (HCl.out _ _ _ _ _ HW4.out.1).1 | exact (HCl.out _ _ _ _ _ HW4.out.1.drew).1 | exact (HCl.out _ _ _ _ _ (HW4.out.1.drew.below hb5)).1 | exact (HCl.out _ _ _ _ _ hk6).1) (first | (go_at_call 95; refine (HRe.out _ (HMx.out _ (HW4.out.2.same (Went.of_below ((Below.refl _ _).drew))))).mono ?_; rintro e w5 ⟨rfl, hb5⟩) | (go_at_call 89; refine (HK.out _ _ (HW4.out.1.drew.below hb5)).mono ?_; rintro e w6 ⟨rfl, hst⟩; obtain ⟨v6, l6, o6, hk6⟩ := hst.wk))
          have HS : Hid (Step base b m v made true (some Y) w w6) := by
            rw [HY.out]
            exact hst.of_went (HW4.out.2.same (Went.of_below ((Below.refl _ _).drew.trans hb5)))
          clear hst hb5 hk6
          go_wp2
          refine bodyPost_end (v := .tuple #[]) (by simp [results, Tryz.results47, go_sem]) rfl ⟨rfl, HS.out⟩
      · rw [hen] at r4
        have hp1 : pl = 1 := by rw [hpl]; unfold placesN; rw [if_neg (by simp [*])]
        have ht1 : tk = ma.size := by rw [HTk.out, hp1, Nat.one_mul]
        clear hwm hpl
        subst hp1
        subst ht1
        have hm1 : IntKind.i64.wrap (ma.size : Int) = (ma.size : Int) := wrap_ok _ (by omega) (by omega)
        clear HTk
        cases done with
        | false =>
          go_enter Tryz.func47, Tryz.ntmps47
          go_wp2_with fail
          refine HFi.out.mono ?_
          rintro e w' ⟨rfl, rfl⟩
          go_wp2_with fail
          refine (HLe.out _ HD.out.1).mono ?_
          rintro e w2 ⟨rfl, hb2⟩
          have HW2 : Hid (Wk base b m v made false true w2 ∧ Went b v w w2) := ⟨HD.out.1.below hb2, HD.out.2.same (Went.of_below hb2)⟩
          clear hb2
          go_wp2_with fail
          refine (HRo.out _ HW2.out.1).mono ?_
          rintro e w3 ⟨rfl, hW3, hg3⟩
          have HW3 : Hid (Wk base b m v made false true w3 ∧ Went b v w w3) := ⟨hW3, HW2.out.2.same hg3⟩
          clear hW3 hg3 HW2
          go_wp2_with fail
          go_region_held3 (fun W => W.cell? ⟨b, 1, none⟩ = some (.string ma) ∧ W.cell? ⟨b, 2, none⟩ = some (.string mb)) (first | exact ⟨(HCl.out _ _ _ _ _ HW3.out.1).1, (HCl.out _ _ _ _ _ HW3.out.1).2.1⟩ | exact ⟨(HCl.out _ _ _ _ _ HW3.out.1.drew).1, (HCl.out _ _ _ _ _ HW3.out.1.drew).2.1⟩ | exact ⟨(HCl.out _ _ _ _ _ (HW3.out.1.drew.below ‹_›)).1, (HCl.out _ _ _ _ _ (HW3.out.1.drew.below ‹_›)).2.1⟩) (first | (go_at_call 94; refine (HRA.out _ (HMx.out _ (HW3.out.2.same (Went.of_below ((Below.refl _ _).drew))))).mono ?_; rintro e w4 ⟨rfl, hb4⟩))
          have HW4 : Hid (Wk base b m v made false true w4 ∧ Went b v w w4) := ⟨HW3.out.1.drew.below hb4, HW3.out.2.same (Went.of_below ((Below.refl _ _).drew.trans hb4))⟩
          clear hb4 HW3
          go_wp2_with fail
          go_region_held3 (fun W => W.cell? ⟨b, 1, none⟩ = some (.string ma)) (first | exact (HCl.out _ _ _ _ _ HW4.out.1).1 | exact (HCl.out _ _ _ _ _ HW4.out.1.drew).1 | exact (HCl.out _ _ _ _ _ (HW4.out.1.drew.below hb5)).1 | exact (HCl.out _ _ _ _ _ hk6).1) (first | (go_at_call 95; refine (HRe.out _ (HMx.out _ (HW4.out.2.same (Went.of_below ((Below.refl _ _).drew))))).mono ?_; rintro e w5 ⟨rfl, hb5⟩) | (go_at_call 89; refine (HK.out _ _ (HW4.out.1.drew.below hb5)).mono ?_; rintro e w6 ⟨rfl, hst⟩; obtain ⟨v6, l6, o6, hk6⟩ := hst.wk))
          have HS : Hid (Step base b m v made true (some Y) w w6) := by
            rw [HY.out]
            exact hst.of_went (HW4.out.2.same (Went.of_below ((Below.refl _ _).drew.trans hb5)))
          clear hst hb5 hk6
          go_wp2
          refine bodyPost_end (v := .tuple #[]) (by simp [results, Tryz.results47, go_sem]) rfl ⟨rfl, HS.out⟩
        | true =>
          rw [hdo rfl] at r7
          go_enter Tryz.func47, Tryz.ntmps47
          go_wp2_with fail
          refine HFi.out.mono ?_
          rintro e w' ⟨rfl, rfl⟩
          go_wp2_with fail
          refine (HLe.out _ HD.out.1).mono ?_
          rintro e w2 ⟨rfl, hb2⟩
          have HW2 : Hid (Wk base b m v made false true w2 ∧ Went b v w w2) := ⟨HD.out.1.below hb2, HD.out.2.same (Went.of_below hb2)⟩
          clear hb2
          go_wp2_with fail
          refine (HRo.out _ HW2.out.1).mono ?_
          rintro e w3 ⟨rfl, hW3, hg3⟩
          have HW3 : Hid (Wk base b m v made false true w3 ∧ Went b v w w3) := ⟨hW3, HW2.out.2.same hg3⟩
          clear hW3 hg3 HW2
          go_wp2_with fail
          go_region_held3 (fun W => W.cell? ⟨b, 1, none⟩ = some (.string ma) ∧ W.cell? ⟨b, 2, none⟩ = some (.string mb)) (first | exact ⟨(HCl.out _ _ _ _ _ HW3.out.1).1, (HCl.out _ _ _ _ _ HW3.out.1).2.1⟩ | exact ⟨(HCl.out _ _ _ _ _ HW3.out.1.drew).1, (HCl.out _ _ _ _ _ HW3.out.1.drew).2.1⟩ | exact ⟨(HCl.out _ _ _ _ _ (HW3.out.1.drew.below ‹_›)).1, (HCl.out _ _ _ _ _ (HW3.out.1.drew.below ‹_›)).2.1⟩) (first | (go_at_call 94; refine (HRA.out _ (HMx.out _ (HW3.out.2.same (Went.of_below ((Below.refl _ _).drew))))).mono ?_; rintro e w4 ⟨rfl, hb4⟩))
          have HW4 : Hid (Wk base b m v made false true w4 ∧ Went b v w w4) := ⟨HW3.out.1.drew.below hb4, HW3.out.2.same (Went.of_below ((Below.refl _ _).drew.trans hb4))⟩
          clear hb4 HW3
          go_wp2_with fail
          go_region_held3 (fun W => W.cell? ⟨b, 1, none⟩ = some (.string ma)) (first | exact (HCl.out _ _ _ _ _ HW4.out.1).1 | exact (HCl.out _ _ _ _ _ HW4.out.1.drew).1 | exact (HCl.out _ _ _ _ _ (HW4.out.1.drew.below hb5)).1 | exact (HCl.out _ _ _ _ _ hk6).1) (first | (go_at_call 95; refine (HRe.out _ (HMx.out _ (HW4.out.2.same (Went.of_below ((Below.refl _ _).drew))))).mono ?_; rintro e w5 ⟨rfl, hb5⟩) | (go_at_call 89; refine (HK.out _ _ (HW4.out.1.drew.below hb5)).mono ?_; rintro e w6 ⟨rfl, hst⟩; obtain ⟨v6, l6, o6, hk6⟩ := hst.wk))
          have HS : Hid (Step base b m v made true (some Y) w w6) := by
            rw [HY.out]
            exact hst.of_went (HW4.out.2.same (Went.of_below ((Below.refl _ _).drew.trans hb5)))
          clear hst hb5 hk6
          go_wp2
          refine bodyPost_end (v := .tuple #[]) (by simp [results, Tryz.results47, go_sem]) rfl ⟨rfl, HS.out⟩
    · rw [hbg] at r3
      have hp1 : pl = 1 := by rw [hpl]; unfold placesN; rw [if_neg (by simp [*])]
      have ht1 : tk = ma.size := by rw [HTk.out, hp1, Nat.one_mul]
      clear hwm hpl
      subst hp1
      subst ht1
      have hm1 : IntKind.i64.wrap (ma.size : Int) = (ma.size : Int) := wrap_ok _ (by omega) (by omega)
      clear HTk
      cases done with
      | false =>
        go_enter Tryz.func47, Tryz.ntmps47
        go_wp2_with fail
        refine HFi.out.mono ?_
        rintro e w' ⟨rfl, rfl⟩
        go_wp2_with fail
        refine (HLe.out _ HD.out.1).mono ?_
        rintro e w2 ⟨rfl, hb2⟩
        have HW2 : Hid (Wk base b m v made false true w2 ∧ Went b v w w2) := ⟨HD.out.1.below hb2, HD.out.2.same (Went.of_below hb2)⟩
        clear hb2
        go_wp2_with fail
        refine (HRo.out _ HW2.out.1).mono ?_
        rintro e w3 ⟨rfl, hW3, hg3⟩
        have HW3 : Hid (Wk base b m v made false true w3 ∧ Went b v w w3) := ⟨hW3, HW2.out.2.same hg3⟩
        clear hW3 hg3 HW2
        go_wp2_with fail
        go_region_held3 (fun W => W.cell? ⟨b, 1, none⟩ = some (.string ma) ∧ W.cell? ⟨b, 2, none⟩ = some (.string mb)) (first | exact ⟨(HCl.out _ _ _ _ _ HW3.out.1).1, (HCl.out _ _ _ _ _ HW3.out.1).2.1⟩ | exact ⟨(HCl.out _ _ _ _ _ HW3.out.1.drew).1, (HCl.out _ _ _ _ _ HW3.out.1.drew).2.1⟩ | exact ⟨(HCl.out _ _ _ _ _ (HW3.out.1.drew.below ‹_›)).1, (HCl.out _ _ _ _ _ (HW3.out.1.drew.below ‹_›)).2.1⟩) (first | (go_at_call 94; refine (HRA.out _ (HMx.out _ (HW3.out.2.same (Went.of_below ((Below.refl _ _).drew))))).mono ?_; rintro e w4 ⟨rfl, hb4⟩))
        have HW4 : Hid (Wk base b m v made false true w4 ∧ Went b v w w4) := ⟨HW3.out.1.drew.below hb4, HW3.out.2.same (Went.of_below ((Below.refl _ _).drew.trans hb4))⟩
        clear hb4 HW3
        go_wp2_with fail
        go_region_held3 (fun W => W.cell? ⟨b, 1, none⟩ = some (.string ma)) (first | exact (HCl.out _ _ _ _ _ HW4.out.1).1 | exact (HCl.out _ _ _ _ _ HW4.out.1.drew).1 | exact (HCl.out _ _ _ _ _ (HW4.out.1.drew.below hb5)).1 | exact (HCl.out _ _ _ _ _ hk6).1) (first | (go_at_call 95; refine (HRe.out _ (HMx.out _ (HW4.out.2.same (Went.of_below ((Below.refl _ _).drew))))).mono ?_; rintro e w5 ⟨rfl, hb5⟩) | (go_at_call 89; refine (HK.out _ _ (HW4.out.1.drew.below hb5)).mono ?_; rintro e w6 ⟨rfl, hst⟩; obtain ⟨v6, l6, o6, hk6⟩ := hst.wk))
        have HS : Hid (Step base b m v made true (some Y) w w6) := by
          rw [HY.out]
          exact hst.of_went (HW4.out.2.same (Went.of_below ((Below.refl _ _).drew.trans hb5)))
        clear hst hb5 hk6
        go_wp2
        refine bodyPost_end (v := .tuple #[]) (by simp [results, Tryz.results47, go_sem]) rfl ⟨rfl, HS.out⟩
      | true =>
        rw [hdo rfl] at r7
        go_enter Tryz.func47, Tryz.ntmps47
        go_wp2_with fail
        refine HFi.out.mono ?_
        rintro e w' ⟨rfl, rfl⟩
        go_wp2_with fail
        refine (HLe.out _ HD.out.1).mono ?_
        rintro e w2 ⟨rfl, hb2⟩
        have HW2 : Hid (Wk base b m v made false true w2 ∧ Went b v w w2) := ⟨HD.out.1.below hb2, HD.out.2.same (Went.of_below hb2)⟩
        clear hb2
        go_wp2_with fail
        refine (HRo.out _ HW2.out.1).mono ?_
        rintro e w3 ⟨rfl, hW3, hg3⟩
        have HW3 : Hid (Wk base b m v made false true w3 ∧ Went b v w w3) := ⟨hW3, HW2.out.2.same hg3⟩
        clear hW3 hg3 HW2
        go_wp2_with fail
        go_region_held3 (fun W => W.cell? ⟨b, 1, none⟩ = some (.string ma) ∧ W.cell? ⟨b, 2, none⟩ = some (.string mb)) (first | exact ⟨(HCl.out _ _ _ _ _ HW3.out.1).1, (HCl.out _ _ _ _ _ HW3.out.1).2.1⟩ | exact ⟨(HCl.out _ _ _ _ _ HW3.out.1.drew).1, (HCl.out _ _ _ _ _ HW3.out.1.drew).2.1⟩ | exact ⟨(HCl.out _ _ _ _ _ (HW3.out.1.drew.below ‹_›)).1, (HCl.out _ _ _ _ _ (HW3.out.1.drew.below ‹_›)).2.1⟩) (first | (go_at_call 94; refine (HRA.out _ (HMx.out _ (HW3.out.2.same (Went.of_below ((Below.refl _ _).drew))))).mono ?_; rintro e w4 ⟨rfl, hb4⟩))
        have HW4 : Hid (Wk base b m v made false true w4 ∧ Went b v w w4) := ⟨HW3.out.1.drew.below hb4, HW3.out.2.same (Went.of_below ((Below.refl _ _).drew.trans hb4))⟩
        clear hb4 HW3
        go_wp2_with fail
        go_region_held3 (fun W => W.cell? ⟨b, 1, none⟩ = some (.string ma)) (first | exact (HCl.out _ _ _ _ _ HW4.out.1).1 | exact (HCl.out _ _ _ _ _ HW4.out.1.drew).1 | exact (HCl.out _ _ _ _ _ (HW4.out.1.drew.below hb5)).1 | exact (HCl.out _ _ _ _ _ hk6).1) (first | (go_at_call 95; refine (HRe.out _ (HMx.out _ (HW4.out.2.same (Went.of_below ((Below.refl _ _).drew))))).mono ?_; rintro e w5 ⟨rfl, hb5⟩) | (go_at_call 89; refine (HK.out _ _ (HW4.out.1.drew.below hb5)).mono ?_; rintro e w6 ⟨rfl, hst⟩; obtain ⟨v6, l6, o6, hk6⟩ := hst.wk))
        have HS : Hid (Step base b m v made true (some Y) w w6) := by
          rw [HY.out]
          exact hst.of_went (HW4.out.2.same (Went.of_below ((Below.refl _ _).drew.trans hb5)))
        clear hst hb5 hk6
        go_wp2
        refine bodyPost_end (v := .tuple #[]) (by simp [results, Tryz.results47, go_sem]) rfl ⟨rfl, HS.out⟩
end Go.Proofs.YtpcpcfnmcfjomaaGreatDoor
