/-
  M14 M15 M16
-/
import Derived.Test.YtedepknbaakkhabGreatDoorK08
set_option maxRecDepth 20000
namespace Go.Proofs.YtedepknbaakkhabGreatDoor
open Go.RowKit Go.Shelf
theorem Step.wk {base b : Nat} {m : Md} {v : Value} {made : List ByteArray} {done : Bool} {x : Option ByteArray} {w w' : World} (h : Step base b m v made done x w w') : ∃ v' l o, Wk base b m v' l o done w' := by
  obtain ⟨⟨v', h1, _⟩, _⟩ := h
  cases x with
  | none => exact ⟨v', _, _, h1⟩
  | some y =>
    dsimp only at h1
    split at h1
    · exact ⟨v', _, _, h1⟩
    · exact ⟨v', _, _, h1⟩
set_option maxHeartbeats 4000000 in
theorem repl_go (base b : Nat) (m : Md) (mks ots : Nat) (v : Value) (made : List ByteArray) (done : Bool) (x : ByteArray) (w : World) (h : Wk base b m v made false done w) (ha1 : 1 ≤ m.a.size) (ha : m.a.size ≤ 3000) (hb : m.b.size ≤ 3000) (hmk : m.mks = mks) (hot : m.ots = ots) (hmks : mks ≤ 3000) (hots : ots ≤ 3000) (hx : x.size ≤ 1000000) (hs : sizeL made ≤ 65536) (hl : made.length ≤ 100000) (hmx : Mx w) (hb0 : 0 < b) (hbase : 0 < base)
    (hk : ¬ (firstI m.bg m.en (bl m.a) (bl x) < 0 ∨ (done = true ∧ m.on = true))) (hr0 : replN m mks ots x + sizeL made ≤ 65536) :
    Calls Tryz.prog 32 #[.pointer (some ⟨b, 0, none⟩), .string x] w fun e w' => e = .returned (.tuple #[]) ∧ Step base b m v made true (some (replY m x)) w w' := by
  have HK : Hid (∀ y W, Wk base b m v made false true W → Calls Tryz.prog 55 #[.pointer (some ⟨b, 0, none⟩), .string y] W fun e w' => e = .returned (.tuple #[]) ∧ Step base b m v made true (some y) W w') := fun y W hW => keep_any base b m v made false true y W hW hs hl
  have HV0 : Hid (v.ownBlock ≠ some 0) := fun e => by have := (h.row.lt 0 e).1; omega
  have HMx : Hid (∀ W, Went b v w W → Mx W) := fun W hW => hW.mx hmx hb0 HV0.out
  have HD : Hid (Wk base b m v made false true (w.setCell ⟨b, 15, none⟩ (.bool true)) ∧ Went b v w (w.setCell ⟨b, 15, none⟩ (.bool true))) := ⟨h.done' true, Went.set b 15 v w _⟩
  obtain ⟨⟨r0, r1, r2, r3, r4, r6, r7, r8, r9⟩, ⟨r12, r13, r14, r15⟩, hfz⟩ := h.cells
  clear h
  obtain ⟨F, hF⟩ : ∃ F, F = firstI m.bg m.en (bl m.a) (bl x) := ⟨_, rfl⟩
  have HFi : Hid (Calls Tryz.prog 56 #[.pointer (some ⟨b, 0, none⟩), .string x] w fun e w' => e = .returned (.int .i64 F) ∧ w = w') := by
    rw [hF]; exact first_any b m.a x m.bg m.en w r1 r3 r4 (by omega) hx hmx
  have hFle := firstI_le m.bg m.en (bl m.a) (bl x)
  obtain ⟨pl, hpl⟩ : ∃ pl, pl = placesN m.al m.bg m.en (bl m.a) (bl x) := ⟨_, rfl⟩
  obtain ⟨Y, hY⟩ : ∃ Y, Y = replY m x := ⟨_, rfl⟩
  rw [← hY]
  unfold replN at hr0
  unfold replY at hY
  rw [← hF, bl_length] at hFle
  rw [← hF] at hk hY
  rw [← hpl] at hr0 hY
  have hpl1 : pl ≤ 1000001 := by
    rw [hpl]; unfold placesN; split
    · have := Lib.count_le (bl x) (bl m.a); rw [bl_length] at this; omega
    · omega
  clear hF hmx
  obtain ⟨f, hf⟩ : ∃ f : Nat, F = f := ⟨F.toNat, by omega⟩
  subst hf
  have hf0 : ¬ (f : Int) < 0 := by omega
  have hfx : (f : Int) ≤ (x.size : Int) := hFle
  have hf00 : (0 : Int) ≤ (f : Int) := by omega
  have hdo : done = true → m.on = false := fun e => by
    have := fun e2 => hk (.inr ⟨e, e2⟩)
    simpa using this
  clear hk hFle
  rw [Int.toNat_natCast] at hY
  obtain ⟨ma, hma⟩ : ∃ ma, ma = m.a := ⟨_, rfl⟩
  obtain ⟨mb, hmb⟩ : ∃ mb, mb = m.b := ⟨_, rfl⟩
  rw [← hma] at r1 ha ha1 hY hr0 hpl
  rw [← hmb] at r2 hb hY
  rw [hmk] at r8
  rw [hot] at r9
  have HCl : Hid (∀ W v made o d, Wk base b m v made o d W → W.cell? ⟨b, 1, none⟩ = some (.string ma) ∧ W.cell? ⟨b, 2, none⟩ = some (.string mb) ∧ W.cell? ⟨b, 8, none⟩ = some (.int .i64 mks) ∧ W.cell? ⟨b, 9, none⟩ = some (.int .i64 ots)) := fun W v made o d hW => by
    rw [hma, hmb, ← hmk, ← hot]; have := hW.cells.1; exact ⟨this.2.1, this.2.2.1, this.2.2.2.2.2.2.2.1, this.2.2.2.2.2.2.2.2⟩
  clear hma hmb hmk hot
  obtain ⟨tk, htk⟩ : ∃ tk, tk = pl * ma.size := ⟨_, rfl⟩
  have htkb : tk ≤ 1000001 * 3000 := by rw [htk]; exact Nat.mul_le_mul hpl1 ha
  rw [← htk] at hr0
  have HTk : Hid (tk = pl * ma.size) := htk
  have hmul : (pl : Int) * (ma.size : Int) = (tk : Int) := by rw [htk]; simp
  have hwm : IntKind.i64.wrap ((pl : Int) * (ma.size : Int)) = (tk : Int) := by rw [hmul]; exact wrap_ok _ (by omega) (by omega)
  clear htk hmul
  obtain ⟨LN, hLN⟩ : ∃ LN, LN = (x.size : Int) - (tk : Nat) + (pl : Nat) * ots + (tk : Nat) * mks := ⟨_, rfl⟩
  rw [← hLN] at hr0
  have HLe : Hid (∀ W, Wk base b m v made false true W → Calls Tryz.prog 59 #[.pointer (some ⟨b, 0, none⟩), .string x, .int .i64 pl, .int .i64 tk] W fun e w' => e = .returned (.int .i64 LN) ∧ Below W.heap.size W w') := fun W hW => by
    obtain ⟨_, _, c8, c9⟩ := HCl.out W _ _ _ _ hW
    rw [hLN]; exact length_any b x mks ots pl tk W c8 c9 hx (by omega) (by omega) hpl1 (by omega)
  have HRo : Hid (∀ W, Wk base b m v made false true W → Calls Tryz.prog 58 #[.pointer (some ⟨b, 0, none⟩), .int .i64 LN] W fun e w' => e = .returned (.bool true) ∧ Wk base b m v made false true w' ∧ Went b v W w') := fun W hW => by
    have := room_any base b m v made false true LN W hW hs
    rw [decide_eq_true hr0] at this; exact this
  clear hLN hr0
  obtain ⟨by', hby⟩ : ∃ by', by' = ba (Lib.replaceAll (bl mb) [38] (bl ma)) := ⟨_, rfl⟩
  have hbys : by'.size ≤ 10000000 := by
    rw [hby, ba_size]
    have h3 := replaceAll_len (bl mb) [38] (bl ma)
    rw [bl_length, bl_length] at h3
    have h4 : (mb.size + 1) * ma.size ≤ 3001 * 3000 := Nat.mul_le_mul (by omega) ha
    omega
  have HRA : Hid (∀ W, Mx W → Calls Tryz.prog 60 #[.string mb, .string ⟨#[38]⟩, .string ma] W fun e w' => e = .returned (.string by') ∧ Below W.heap.size W w') := fun W hW => by
    obtain ⟨mm, hmm⟩ := hW
    have hcb := Lib.countB_le ⟨#[38]⟩ (by decide) mb.size mb (Nat.le_refl _)
    refine (Tryz.strings_ReplaceAll mb ⟨#[38]⟩ ma mm W (by omega) hmm (by decide) ?_).mono ?_
    · have h3 : Lib.countB mb ⟨#[38]⟩ * ma.size ≤ 3000 * 3000 := Nat.mul_le_mul (by omega) ha
      omega
    · rintro e w' ⟨rfl, hB⟩
      rw [hby]; exact ⟨rfl, hB⟩
  obtain ⟨rp, hrp⟩ : ∃ rp, rp = ba (Lib.replace ((bl x).drop f) (bl ma) (bl by') pl) := ⟨_, rfl⟩
  have HRe : Hid (∀ W, Mx W → Calls Tryz.prog 61 #[.string (x.extract f x.size), .string ma, .string by', .int .i64 pl] W fun e w' => e = .returned (.string rp) ∧ Below W.heap.size W w') := fun W hW => by
    obtain ⟨mm, hmm⟩ := hW
    have hxs : (x.extract f x.size).size ≤ 1000000 := by simp; omega
    have hcb := Lib.countB_le ma ha1 (x.extract f x.size).size (x.extract f x.size) (Nat.le_refl _)
    refine (Tryz.strings_Replace (x.extract f x.size) ma by' pl mm W (by omega) hmm ha1 ?_).mono ?_
    · have h3 : Lib.countB (x.extract f x.size) ma * by'.size ≤ 1000000 * 10000000 := Nat.mul_le_mul (by omega) hbys
      omega
    · rintro e w' ⟨rfl, hB⟩
      rw [hrp, ← bl_rest]; exact ⟨rfl, hB⟩
  have hrps : rp.size ≤ 100000000000000 := by
    rw [hrp, ba_size]
    unfold Lib.replace
    split
    · rw [List.length_drop, bl_length]; omega
    · have h3 := replaceK_len (bl ma) (bl by') (Lib.replaceNum ((bl x).drop f) (bl ma) pl) ((bl x).drop f)
      rw [List.length_drop, bl_length, bl_length] at h3
      have h5 : Lib.replaceNum ((bl x).drop f) (bl ma) pl ≤ 1000001 := by
        unfold Lib.replaceNum
        have := Lib.count_le ((bl x).drop f) (bl ma)
        rw [List.length_drop, bl_length] at this
        split
        · omega
        · omega
      have h4 : Lib.replaceNum ((bl x).drop f) (bl ma) pl * by'.size ≤ 1000001 * 10000000 := Nat.mul_le_mul h5 hbys
      omega
  have HY : Hid (Y = x.extract 0 f ++ rp) := by
    unfold Hid; apply bl_inj; rw [hY, bl_ba, hrp, hby, bl_ba]
    show _ = (x.extract 0 f ++ _).data.toList
    simp only [ByteArray.data_append, Array.toList_append]
    rw [show (x.extract 0 f).data.toList = (bl x).take f by rw [show (x.extract 0 f).data.toList = bl (x.extract 0 f) from rfl, bl_extract]; simp]
    simp [ba]
  clear hY hrp hby
  obtain ⟨xf, hxf⟩ : ∃ xf, x.extract 0 f = xf := ⟨_, rfl⟩
  have hxfs : xf.size ≤ 1000000 := by rw [← hxf]; simp; omega
  rw [hxf] at HY
  have hadd : ¬ xf.size + rp.size > 9223372036854775807 := by omega
  have hadd1 : ¬ 9223372036854775807 < xf.size + rp.size := by omega
  have hadd2 : xf.size + rp.size ≤ 9223372036854775807 := by omega
  have n1 : ¬ ma.toList = [] := by rw [Lib.toList_data]; intro e; have := bl_length ma; unfold bl at this; rw [e] at this; simp at this; omega
  have n2 : ma.toList.isEmpty = false := by cases hh : ma.toList with | nil => exact absurd hh n1 | cons => rfl
  have n3 : (ma.toList != []) = true := bne_iff_ne.2 n1
  have n4 : (ma.toList == []) = false := beq_eq_false_iff_ne.2 n1
  rcases hal : m.al with _ | _
  · rw [hal] at r6
    have hp1 : pl = 1 := by rw [hpl]; unfold placesN; rw [if_neg (by simp [*])]
    have ht1 : tk = ma.size := by rw [HTk.out, hp1, Nat.one_mul]
    clear hwm hpl
    subst hp1
    subst ht1
    have hm1 : IntKind.i64.wrap (ma.size : Int) = (ma.size : Int) := wrap_ok _ (by omega) (by omega)
    clear HTk
    cases done with
    | false =>
      go_enter Tryz.func32, Tryz.ntmps32
      go_wp2_with fail
      refine HFi.out.mono ?_
      rintro e w' ⟨rfl, rfl⟩
      go_wp2_with fail
      refine (HLe.out _ HD.out.1).mono ?_
      rintro e w2 ⟨rfl, hb2⟩
      have HW2 : Hid (Wk base b m v made false true w2 ∧ Went b v w w2) := ⟨HD.out.1.below hb2, HD.out.2.same (Went.of_below hb2)⟩
      clear hb2
      go_wp2_with fail
      refine (HRo.out _ HW2.out.1).mono ?_
      rintro e w3 ⟨rfl, hW3, hg3⟩
      have HW3 : Hid (Wk base b m v made false true w3 ∧ Went b v w w3) := ⟨hW3, HW2.out.2.same hg3⟩
      clear hW3 hg3 HW2
      go_wp2_with fail
      go_region_held3 (fun W => W.cell? ⟨b, 1, none⟩ = some (.string ma) ∧ W.cell? ⟨b, 2, none⟩ = some (.string mb)) (first | exact ⟨(HCl.out _ _ _ _ _ HW3.out.1).1, (HCl.out _ _ _ _ _ HW3.out.1).2.1⟩ | exact ⟨(HCl.out _ _ _ _ _ HW3.out.1.drew).1, (HCl.out _ _ _ _ _ HW3.out.1.drew).2.1⟩ | exact ⟨(HCl.out _ _ _ _ _ (HW3.out.1.drew.below ‹_›)).1, (HCl.out _ _ _ _ _ (HW3.out.1.drew.below ‹_›)).2.1⟩) (first | (go_at_call 60; refine (HRA.out _ (HMx.out _ (HW3.out.2.same (Went.of_below ((Below.refl _ _).drew))))).mono ?_; rintro e w4 ⟨rfl, hb4⟩))
      have HW4 : Hid (Wk base b m v made false true w4 ∧ Went b v w w4) := ⟨HW3.out.1.drew.below hb4, HW3.out.2.same (Went.of_below ((Below.refl _ _).drew.trans hb4))⟩
      clear hb4 HW3
      go_wp2_with fail
      go_region_held3 (fun W => W.cell? ⟨b, 1, none⟩ = some (.string ma)) (first | exact (HCl.out _ _ _ _ _ HW4.out.1).1 | exact (HCl.out _ _ _ _ _ HW4.out.1.drew).1 | exact (HCl.out _ _ _ _ _ (HW4.out.1.drew.below hb5)).1 | exact (HCl.out _ _ _ _ _ hk6).1) (first | (go_at_call 61; refine (HRe.out _ (HMx.out _ (HW4.out.2.same (Went.of_below ((Below.refl _ _).drew))))).mono ?_; rintro e w5 ⟨rfl, hb5⟩) | (go_at_call 55; refine (HK.out _ _ (HW4.out.1.drew.below hb5)).mono ?_; rintro e w6 ⟨rfl, hst⟩; obtain ⟨v6, l6, o6, hk6⟩ := hst.wk))
      have HS : Hid (Step base b m v made true (some Y) w w6) := by
        rw [HY.out]
        exact hst.of_went (HW4.out.2.same (Went.of_below ((Below.refl _ _).drew.trans hb5)))
      clear hst hb5 hk6
      go_wp2
      refine bodyPost_end (v := .tuple #[]) (by simp [results, Tryz.results32, go_sem]) rfl ⟨rfl, HS.out⟩
    | true =>
      rw [hdo rfl] at r7
      go_enter Tryz.func32, Tryz.ntmps32
      go_wp2_with fail
      refine HFi.out.mono ?_
      rintro e w' ⟨rfl, rfl⟩
      go_wp2_with fail
      refine (HLe.out _ HD.out.1).mono ?_
      rintro e w2 ⟨rfl, hb2⟩
      have HW2 : Hid (Wk base b m v made false true w2 ∧ Went b v w w2) := ⟨HD.out.1.below hb2, HD.out.2.same (Went.of_below hb2)⟩
      clear hb2
      go_wp2_with fail
      refine (HRo.out _ HW2.out.1).mono ?_
      rintro e w3 ⟨rfl, hW3, hg3⟩
      have HW3 : Hid (Wk base b m v made false true w3 ∧ Went b v w w3) := ⟨hW3, HW2.out.2.same hg3⟩
      clear hW3 hg3 HW2
      go_wp2_with fail
      go_region_held3 (fun W => W.cell? ⟨b, 1, none⟩ = some (.string ma) ∧ W.cell? ⟨b, 2, none⟩ = some (.string mb)) (first | exact ⟨(HCl.out _ _ _ _ _ HW3.out.1).1, (HCl.out _ _ _ _ _ HW3.out.1).2.1⟩ | exact ⟨(HCl.out _ _ _ _ _ HW3.out.1.drew).1, (HCl.out _ _ _ _ _ HW3.out.1.drew).2.1⟩ | exact ⟨(HCl.out _ _ _ _ _ (HW3.out.1.drew.below ‹_›)).1, (HCl.out _ _ _ _ _ (HW3.out.1.drew.below ‹_›)).2.1⟩) (first | (go_at_call 60; refine (HRA.out _ (HMx.out _ (HW3.out.2.same (Went.of_below ((Below.refl _ _).drew))))).mono ?_; rintro e w4 ⟨rfl, hb4⟩))
      have HW4 : Hid (Wk base b m v made false true w4 ∧ Went b v w w4) := ⟨HW3.out.1.drew.below hb4, HW3.out.2.same (Went.of_below ((Below.refl _ _).drew.trans hb4))⟩
      clear hb4 HW3
      go_wp2_with fail
      go_region_held3 (fun W => W.cell? ⟨b, 1, none⟩ = some (.string ma)) (first | exact (HCl.out _ _ _ _ _ HW4.out.1).1 | exact (HCl.out _ _ _ _ _ HW4.out.1.drew).1 | exact (HCl.out _ _ _ _ _ (HW4.out.1.drew.below hb5)).1 | exact (HCl.out _ _ _ _ _ hk6).1) (first | (go_at_call 61; refine (HRe.out _ (HMx.out _ (HW4.out.2.same (Went.of_below ((Below.refl _ _).drew))))).mono ?_; rintro e w5 ⟨rfl, hb5⟩) | (go_at_call 55; refine (HK.out _ _ (HW4.out.1.drew.below hb5)).mono ?_; rintro e w6 ⟨rfl, hst⟩; obtain ⟨v6, l6, o6, hk6⟩ := hst.wk))
      have HS : Hid (Step base b m v made true (some Y) w w6) := by
        rw [HY.out]
        exact hst.of_went (HW4.out.2.same (Went.of_below ((Below.refl _ _).drew.trans hb5)))
      clear hst hb5 hk6
      go_wp2
      refine bodyPost_end (v := .tuple #[]) (by simp [results, Tryz.results32, go_sem]) rfl ⟨rfl, HS.out⟩
  · rw [hal] at r6
    rcases hbg : m.bg with _ | _
    · rw [hbg] at r3
      rcases hen : m.en with _ | _
      · rw [hen] at r4
        have hp1 : pl = Lib.count (bl x) (bl ma) := by rw [hpl]; unfold placesN; rw [if_pos ⟨hal, hbg, hen⟩]
        have HCo : Hid (∀ W, Mx W → Calls Tryz.prog 57 #[.string x, .string ma] W fun e w' => e = .returned (.int .i64 pl) ∧ W = w') := fun W hW => by
          obtain ⟨mm, hmm⟩ := hW
          rw [hp1]
          exact (Tryz.strings_Count_any x ma mm W (by omega) hmm ha1).mono (by rintro e w' ⟨rfl, rfl⟩; exact ⟨rfl, rfl⟩)
        clear hp1 hpl
        cases done with
        | false =>
          go_enter Tryz.func32, Tryz.ntmps32
          go_wp2_with fail
          refine HFi.out.mono ?_
          rintro e w' ⟨rfl, rfl⟩
          go_wp2_with fail
          refine (HCo.out _ (HMx.out _ HD.out.2)).mono ?_
          rintro e w1 ⟨rfl, rfl⟩
          go_wp2_with fail
          refine (HLe.out _ HD.out.1).mono ?_
          rintro e w2 ⟨rfl, hb2⟩
          have HW2 : Hid (Wk base b m v made false true w2 ∧ Went b v w w2) := ⟨HD.out.1.below hb2, HD.out.2.same (Went.of_below hb2)⟩
          clear hb2
          go_wp2_with fail
          refine (HRo.out _ HW2.out.1).mono ?_
          rintro e w3 ⟨rfl, hW3, hg3⟩
          have HW3 : Hid (Wk base b m v made false true w3 ∧ Went b v w w3) := ⟨hW3, HW2.out.2.same hg3⟩
          clear hW3 hg3 HW2
          go_wp2_with fail
          go_region_held3 (fun W => W.cell? ⟨b, 1, none⟩ = some (.string ma) ∧ W.cell? ⟨b, 2, none⟩ = some (.string mb)) (first | exact ⟨(HCl.out _ _ _ _ _ HW3.out.1).1, (HCl.out _ _ _ _ _ HW3.out.1).2.1⟩ | exact ⟨(HCl.out _ _ _ _ _ HW3.out.1.drew).1, (HCl.out _ _ _ _ _ HW3.out.1.drew).2.1⟩ | exact ⟨(HCl.out _ _ _ _ _ (HW3.out.1.drew.below ‹_›)).1, (HCl.out _ _ _ _ _ (HW3.out.1.drew.below ‹_›)).2.1⟩) (first | (go_at_call 60; refine (HRA.out _ (HMx.out _ (HW3.out.2.same (Went.of_below ((Below.refl _ _).drew))))).mono ?_; rintro e w4 ⟨rfl, hb4⟩))
          have HW4 : Hid (Wk base b m v made false true w4 ∧ Went b v w w4) := ⟨HW3.out.1.drew.below hb4, HW3.out.2.same (Went.of_below ((Below.refl _ _).drew.trans hb4))⟩
          clear hb4 HW3
          go_wp2_with fail
          go_region_held3 (fun W => W.cell? ⟨b, 1, none⟩ = some (.string ma)) (first | exact (HCl.out _ _ _ _ _ HW4.out.1).1 | exact (HCl.out _ _ _ _ _ HW4.out.1.drew).1 | exact (HCl.out _ _ _ _ _ (HW4.out.1.drew.below hb5)).1 | exact (HCl.out _ _ _ _ _ hk6).1) (first | (go_at_call 61; refine (HRe.out _ (HMx.out _ (HW4.out.2.same (Went.of_below ((Below.refl _ _).drew))))).mono ?_; rintro e w5 ⟨rfl, hb5⟩) | (go_at_call 55; refine (HK.out _ _ (HW4.out.1.drew.below hb5)).mono ?_; rintro e w6 ⟨rfl, hst⟩; obtain ⟨v6, l6, o6, hk6⟩ := hst.wk))
          have HS : Hid (Step base b m v made true (some Y) w w6) := by
            rw [HY.out]
            exact hst.of_went (HW4.out.2.same (Went.of_below ((Below.refl _ _).drew.trans hb5)))
          clear hst hb5 hk6
          go_wp2
          refine bodyPost_end (v := .tuple #[]) (by simp [results, Tryz.results32, go_sem]) rfl ⟨rfl, HS.out⟩
        | true =>
          rw [hdo rfl] at r7
          go_enter Tryz.func32, Tryz.ntmps32
          go_wp2_with fail
          refine HFi.out.mono ?_
          rintro e w' ⟨rfl, rfl⟩
          go_wp2_with fail
          refine (HCo.out _ (HMx.out _ HD.out.2)).mono ?_
          rintro e w1 ⟨rfl, rfl⟩
          go_wp2_with fail
          refine (HLe.out _ HD.out.1).mono ?_
          rintro e w2 ⟨rfl, hb2⟩
          have HW2 : Hid (Wk base b m v made false true w2 ∧ Went b v w w2) := ⟨HD.out.1.below hb2, HD.out.2.same (Went.of_below hb2)⟩
          clear hb2
          go_wp2_with fail
          refine (HRo.out _ HW2.out.1).mono ?_
          rintro e w3 ⟨rfl, hW3, hg3⟩
          have HW3 : Hid (Wk base b m v made false true w3 ∧ Went b v w w3) := ⟨hW3, HW2.out.2.same hg3⟩
          clear hW3 hg3 HW2
          go_wp2_with fail
          go_region_held3 (fun W => W.cell? ⟨b, 1, none⟩ = some (.string ma) ∧ W.cell? ⟨b, 2, none⟩ = some (.string mb)) (first | exact ⟨(HCl.out _ _ _ _ _ HW3.out.1).1, (HCl.out _ _ _ _ _ HW3.out.1).2.1⟩ | exact ⟨(HCl.out _ _ _ _ _ HW3.out.1.drew).1, (HCl.out _ _ _ _ _ HW3.out.1.drew).2.1⟩ | exact ⟨(HCl.out _ _ _ _ _ (HW3.out.1.drew.below ‹_›)).1, (HCl.out _ _ _ _ _ (HW3.out.1.drew.below ‹_›)).2.1⟩) (first | (go_at_call 60; refine (HRA.out _ (HMx.out _ (HW3.out.2.same (Went.of_below ((Below.refl _ _).drew))))).mono ?_; rintro e w4 ⟨rfl, hb4⟩))
          have HW4 : Hid (Wk base b m v made false true w4 ∧ Went b v w w4) := ⟨HW3.out.1.drew.below hb4, HW3.out.2.same (Went.of_below ((Below.refl _ _).drew.trans hb4))⟩
          clear hb4 HW3
          go_wp2_with fail
          go_region_held3 (fun W => W.cell? ⟨b, 1, none⟩ = some (.string ma)) (first | exact (HCl.out _ _ _ _ _ HW4.out.1).1 | exact (HCl.out _ _ _ _ _ HW4.out.1.drew).1 | exact (HCl.out _ _ _ _ _ (HW4.out.1.drew.below hb5)).1 | exact (HCl.out _ _ _ _ _ hk6).1) (first | (go_at_call 61; refine (HRe.out _ (HMx.out _ (HW4.out.2.same (Went.of_below ((Below.refl _ _).drew))))).mono ?_; rintro e w5 ⟨rfl, hb5⟩) | (go_at_call 55; refine (HK.out _ _ (HW4.out.1.drew.below hb5)).mono ?_; rintro e w6 ⟨rfl, hst⟩; obtain ⟨v6, l6, o6, hk6⟩ := hst.wk))
          have HS : Hid (Step base b m v made true (some Y) w w6) := by
            rw [HY.out]
            exact hst.of_went (HW4.out.2.same (Went.of_below ((Below.refl _ _).drew.trans hb5)))
          clear hst hb5 hk6
          go_wp2
          refine bodyPost_end (v := .tuple #[]) (by simp [results, Tryz.results32, go_sem]) rfl ⟨rfl, HS.out⟩
      · rw [hen] at r4
        have hp1 : pl = 1 := by rw [hpl]; unfold placesN; rw [if_neg (by simp [*])]
        have ht1 : tk = ma.size := by rw [HTk.out, hp1, Nat.one_mul]
        clear hwm hpl
        subst hp1
        subst ht1
        have hm1 : IntKind.i64.wrap (ma.size : Int) = (ma.size : Int) := wrap_ok _ (by omega) (by omega)
        clear HTk
        cases done with
        | false =>
          go_enter Tryz.func32, Tryz.ntmps32
          go_wp2_with fail
          refine HFi.out.mono ?_
          rintro e w' ⟨rfl, rfl⟩
          go_wp2_with fail
          refine (HLe.out _ HD.out.1).mono ?_
          rintro e w2 ⟨rfl, hb2⟩
          have HW2 : Hid (Wk base b m v made false true w2 ∧ Went b v w w2) := ⟨HD.out.1.below hb2, HD.out.2.same (Went.of_below hb2)⟩
          clear hb2
          go_wp2_with fail
          refine (HRo.out _ HW2.out.1).mono ?_
          rintro e w3 ⟨rfl, hW3, hg3⟩
          have HW3 : Hid (Wk base b m v made false true w3 ∧ Went b v w w3) := ⟨hW3, HW2.out.2.same hg3⟩
          clear hW3 hg3 HW2
          go_wp2_with fail
          go_region_held3 (fun W => W.cell? ⟨b, 1, none⟩ = some (.string ma) ∧ W.cell? ⟨b, 2, none⟩ = some (.string mb)) (first | exact ⟨(HCl.out _ _ _ _ _ HW3.out.1).1, (HCl.out _ _ _ _ _ HW3.out.1).2.1⟩ | exact ⟨(HCl.out _ _ _ _ _ HW3.out.1.drew).1, (HCl.out _ _ _ _ _ HW3.out.1.drew).2.1⟩ | exact ⟨(HCl.out _ _ _ _ _ (HW3.out.1.drew.below ‹_›)).1, (HCl.out _ _ _ _ _ (HW3.out.1.drew.below ‹_›)).2.1⟩) (first | (go_at_call 60; refine (HRA.out _ (HMx.out _ (HW3.out.2.same (Went.of_below ((Below.refl _ _).drew))))).mono ?_; rintro e w4 ⟨rfl, hb4⟩))
          have HW4 : Hid (Wk base b m v made false true w4 ∧ Went b v w w4) := ⟨HW3.out.1.drew.below hb4, HW3.out.2.same (Went.of_below ((Below.refl _ _).drew.trans hb4))⟩
          clear hb4 HW3
          go_wp2_with fail
          go_region_held3 (fun W => W.cell? ⟨b, 1, none⟩ = some (.string ma)) (first | exact (HCl.out _ _ _ _ _ HW4.out.1).1 | exact (HCl.out _ _ _ _ _ HW4.out.1.drew).1 | exact (HCl.out _ _ _ _ _ (HW4.out.1.drew.below hb5)).1 | exact (HCl.out _ _ _ _ _ hk6).1) (first | (go_at_call 61; refine (HRe.out _ (HMx.out _ (HW4.out.2.same (Went.of_below ((Below.refl _ _).drew))))).mono ?_; rintro e w5 ⟨rfl, hb5⟩) | (go_at_call 55; refine (HK.out _ _ (HW4.out.1.drew.below hb5)).mono ?_; rintro e w6 ⟨rfl, hst⟩; obtain ⟨v6, l6, o6, hk6⟩ := hst.wk))
          have HS : Hid (Step base b m v made true (some Y) w w6) := by
            rw [HY.out]
            exact hst.of_went (HW4.out.2.same (Went.of_below ((Below.refl _ _).drew.trans hb5)))
          clear hst hb5 hk6
          go_wp2
          refine bodyPost_end (v := .tuple #[]) (by simp [results, Tryz.results32, go_sem]) rfl ⟨rfl, HS.out⟩
        | true =>
          rw [hdo rfl] at r7
          go_enter Tryz.func32, Tryz.ntmps32
          go_wp2_with fail
          refine HFi.out.mono ?_
          rintro e w' ⟨rfl, rfl⟩
          go_wp2_with fail
          refine (HLe.out _ HD.out.1).mono ?_
          rintro e w2 ⟨rfl, hb2⟩
          have HW2 : Hid (Wk base b m v made false true w2 ∧ Went b v w w2) := ⟨HD.out.1.below hb2, HD.out.2.same (Went.of_below hb2)⟩
          clear hb2
          go_wp2_with fail
          refine (HRo.out _ HW2.out.1).mono ?_
          rintro e w3 ⟨rfl, hW3, hg3⟩
          have HW3 : Hid (Wk base b m v made false true w3 ∧ Went b v w w3) := ⟨hW3, HW2.out.2.same hg3⟩
          clear hW3 hg3 HW2
          go_wp2_with fail
          go_region_held3 (fun W => W.cell? ⟨b, 1, none⟩ = some (.string ma) ∧ W.cell? ⟨b, 2, none⟩ = some (.string mb)) (first | exact ⟨(HCl.out _ _ _ _ _ HW3.out.1).1, (HCl.out _ _ _ _ _ HW3.out.1).2.1⟩ | exact ⟨(HCl.out _ _ _ _ _ HW3.out.1.drew).1, (HCl.out _ _ _ _ _ HW3.out.1.drew).2.1⟩ | exact ⟨(HCl.out _ _ _ _ _ (HW3.out.1.drew.below ‹_›)).1, (HCl.out _ _ _ _ _ (HW3.out.1.drew.below ‹_›)).2.1⟩) (first | (go_at_call 60; refine (HRA.out _ (HMx.out _ (HW3.out.2.same (Went.of_below ((Below.refl _ _).drew))))).mono ?_; rintro e w4 ⟨rfl, hb4⟩))
          have HW4 : Hid (Wk base b m v made false true w4 ∧ Went b v w w4) := ⟨HW3.out.1.drew.below hb4, HW3.out.2.same (Went.of_below ((Below.refl _ _).drew.trans hb4))⟩
          clear hb4 HW3
          go_wp2_with fail
          go_region_held3 (fun W => W.cell? ⟨b, 1, none⟩ = some (.string ma)) (first | exact (HCl.out _ _ _ _ _ HW4.out.1).1 | exact (HCl.out _ _ _ _ _ HW4.out.1.drew).1 | exact (HCl.out _ _ _ _ _ (HW4.out.1.drew.below hb5)).1 | exact (HCl.out _ _ _ _ _ hk6).1) (first | (go_at_call 61; refine (HRe.out _ (HMx.out _ (HW4.out.2.same (Went.of_below ((Below.refl _ _).drew))))).mono ?_; rintro e w5 ⟨rfl, hb5⟩) | (go_at_call 55; refine (HK.out _ _ (HW4.out.1.drew.below hb5)).mono ?_; rintro e w6 ⟨rfl, hst⟩; obtain ⟨v6, l6, o6, hk6⟩ := hst.wk))
          have HS : Hid (Step base b m v made true (some Y) w w6) := by
            rw [HY.out]
            exact hst.of_went (HW4.out.2.same (Went.of_below ((Below.refl _ _).drew.trans hb5)))
          clear hst hb5 hk6
          go_wp2
          refine bodyPost_end (v := .tuple #[]) (by simp [results, Tryz.results32, go_sem]) rfl ⟨rfl, HS.out⟩
    · rw [hbg] at r3
      have hp1 : pl = 1 := by rw [hpl]; unfold placesN; rw [if_neg (by simp [*])]
      have ht1 : tk = ma.size := by rw [HTk.out, hp1, Nat.one_mul]
      clear hwm hpl
      subst hp1
      subst ht1
      have hm1 : IntKind.i64.wrap (ma.size : Int) = (ma.size : Int) := wrap_ok _ (by omega) (by omega)
      clear HTk
      cases done with
      | false =>
        go_enter Tryz.func32, Tryz.ntmps32
        go_wp2_with fail
        refine HFi.out.mono ?_
        rintro e w' ⟨rfl, rfl⟩
        go_wp2_with fail
        refine (HLe.out _ HD.out.1).mono ?_
        rintro e w2 ⟨rfl, hb2⟩
        have HW2 : Hid (Wk base b m v made false true w2 ∧ Went b v w w2) := ⟨HD.out.1.below hb2, HD.out.2.same (Went.of_below hb2)⟩
        clear hb2
        go_wp2_with fail
        refine (HRo.out _ HW2.out.1).mono ?_
        rintro e w3 ⟨rfl, hW3, hg3⟩
        have HW3 : Hid (Wk base b m v made false true w3 ∧ Went b v w w3) := ⟨hW3, HW2.out.2.same hg3⟩
        clear hW3 hg3 HW2
        go_wp2_with fail
        go_region_held3 (fun W => W.cell? ⟨b, 1, none⟩ = some (.string ma) ∧ W.cell? ⟨b, 2, none⟩ = some (.string mb)) (first | exact ⟨(HCl.out _ _ _ _ _ HW3.out.1).1, (HCl.out _ _ _ _ _ HW3.out.1).2.1⟩ | exact ⟨(HCl.out _ _ _ _ _ HW3.out.1.drew).1, (HCl.out _ _ _ _ _ HW3.out.1.drew).2.1⟩ | exact ⟨(HCl.out _ _ _ _ _ (HW3.out.1.drew.below ‹_›)).1, (HCl.out _ _ _ _ _ (HW3.out.1.drew.below ‹_›)).2.1⟩) (first | (go_at_call 60; refine (HRA.out _ (HMx.out _ (HW3.out.2.same (Went.of_below ((Below.refl _ _).drew))))).mono ?_; rintro e w4 ⟨rfl, hb4⟩))
        have HW4 : Hid (Wk base b m v made false true w4 ∧ Went b v w w4) := ⟨HW3.out.1.drew.below hb4, HW3.out.2.same (Went.of_below ((Below.refl _ _).drew.trans hb4))⟩
        clear hb4 HW3
        go_wp2_with fail
        go_region_held3 (fun W => W.cell? ⟨b, 1, none⟩ = some (.string ma)) (first | exact (HCl.out _ _ _ _ _ HW4.out.1).1 | exact (HCl.out _ _ _ _ _ HW4.out.1.drew).1 | exact (HCl.out _ _ _ _ _ (HW4.out.1.drew.below hb5)).1 | exact (HCl.out _ _ _ _ _ hk6).1) (first | (go_at_call 61; refine (HRe.out _ (HMx.out _ (HW4.out.2.same (Went.of_below ((Below.refl _ _).drew))))).mono ?_; rintro e w5 ⟨rfl, hb5⟩) | (go_at_call 55; refine (HK.out _ _ (HW4.out.1.drew.below hb5)).mono ?_; rintro e w6 ⟨rfl, hst⟩; obtain ⟨v6, l6, o6, hk6⟩ := hst.wk))
        have HS : Hid (Step base b m v made true (some Y) w w6) := by
          rw [HY.out]
          exact hst.of_went (HW4.out.2.same (Went.of_below ((Below.refl _ _).drew.trans hb5)))
        clear hst hb5 hk6
        go_wp2
        refine bodyPost_end (v := .tuple #[]) (by simp [results, Tryz.results32, go_sem]) rfl ⟨rfl, HS.out⟩
      | true =>
        rw [hdo rfl] at r7
        go_enter Tryz.func32, Tryz.ntmps32
        go_wp2_with fail
        refine HFi.out.mono ?_
        rintro e w' ⟨rfl, rfl⟩
        go_wp2_with fail
        refine (HLe.out _ HD.out.1).mono ?_
        rintro e w2 ⟨rfl, hb2⟩
        have HW2 : Hid (Wk base b m v made false true w2 ∧ Went b v w w2) := ⟨HD.out.1.below hb2, HD.out.2.same (Went.of_below hb2)⟩
        clear hb2
        go_wp2_with fail
        refine (HRo.out _ HW2.out.1).mono ?_
        rintro e w3 ⟨rfl, hW3, hg3⟩
        have HW3 : Hid (Wk base b m v made false true w3 ∧ Went b v w w3) := ⟨hW3, HW2.out.2.same hg3⟩
        clear hW3 hg3 HW2
        go_wp2_with fail
        go_region_held3 (fun W => W.cell? ⟨b, 1, none⟩ = some (.string ma) ∧ W.cell? ⟨b, 2, none⟩ = some (.string mb)) (first | exact ⟨(HCl.out _ _ _ _ _ HW3.out.1).1, (HCl.out _ _ _ _ _ HW3.out.1).2.1⟩ | exact ⟨(HCl.out _ _ _ _ _ HW3.out.1.drew).1, (HCl.out _ _ _ _ _ HW3.out.1.drew).2.1⟩ | exact ⟨(HCl.out _ _ _ _ _ (HW3.out.1.drew.below ‹_›)).1, (HCl.out _ _ _ _ _ (HW3.out.1.drew.below ‹_›)).2.1⟩) (first | (go_at_call 60; refine (HRA.out _ (HMx.out _ (HW3.out.2.same (Went.of_below ((Below.refl _ _).drew))))).mono ?_; rintro e w4 ⟨rfl, hb4⟩))
        have HW4 : Hid (Wk base b m v made false true w4 ∧ Went b v w w4) := ⟨HW3.out.1.drew.below hb4, HW3.out.2.same (Went.of_below ((Below.refl _ _).drew.trans hb4))⟩
        clear hb4 HW3
        go_wp2_with fail
        go_region_held3 (fun W => W.cell? ⟨b, 1, none⟩ = some (.string ma)) (first | exact (HCl.out _ _ _ _ _ HW4.out.1).1 | exact (HCl.out _ _ _ _ _ HW4.out.1.drew).1 | exact (HCl.out _ _ _ _ _ (HW4.out.1.drew.below hb5)).1 | exact (HCl.out _ _ _ _ _ hk6).1) (first | (go_at_call 61; refine (HRe.out _ (HMx.out _ (HW4.out.2.same (Went.of_below ((Below.refl _ _).drew))))).mono ?_; rintro e w5 ⟨rfl, hb5⟩) | (go_at_call 55; refine (HK.out _ _ (HW4.out.1.drew.below hb5)).mono ?_; rintro e w6 ⟨rfl, hst⟩; obtain ⟨v6, l6, o6, hk6⟩ := hst.wk))
        have HS : Hid (Step base b m v made true (some Y) w w6) := by
          rw [HY.out]
          exact hst.of_went (HW4.out.2.same (Went.of_below ((Below.refl _ _).drew.trans hb5)))
        clear hst hb5 hk6
        go_wp2
        refine bodyPost_end (v := .tuple #[]) (by simp [results, Tryz.results32, go_sem]) rfl ⟨rfl, HS.out⟩
end Go.Proofs.YtedepknbaakkhabGreatDoor
namespace Go.Proofs.YtedepknbaakkhabGreatDoor
open Go.RowKit Go.Shelf
def fnL : List (ByteArray × Nat) := [(⟨#[77]⟩, 30), (⟨#[78]⟩, 31), (⟨#[83]⟩, 32), (⟨#[67]⟩, 33), (⟨#[84]⟩, 34), (⟨#[72]⟩, 35), (⟨#[69]⟩, 36), (⟨#[82]⟩, 37), (⟨#[116, 108]⟩, 38), (⟨#[116, 117]⟩, 39), (⟨#[61]⟩, 40)]
def allL : List ByteArray := [⟨#[79]⟩, ⟨#[79, 114]⟩, ⟨#[117]⟩, ⟨#[114]⟩, ⟨#[81]⟩, ⟨#[35]⟩, ⟨#[42]⟩, ⟨#[91]⟩]
set_option maxHeartbeats 1600000 in
theorem toWord_fn (b : Nat) (kd : ByteArray) (f : Nat) (hm : (kd, f) ∈ fnL) (w : World) (h : w.cell? ⟨b, 0, none⟩ = some (.string kd)) :
    Calls Tryz.prog 20 #[.pointer (some ⟨b, 0, none⟩)] w fun e w' => e = .returned (.func (Fn.func f) #[.pointer (some ⟨b, 0, none⟩)] #[]) ∧ w = w' := by
  unfold fnL at hm
  simp only [List.mem_cons, List.not_mem_nil, or_false, Prod.mk.injEq] at hm
  rcases hm with ⟨rfl, rfl⟩ | ⟨rfl, rfl⟩ | ⟨rfl, rfl⟩ | ⟨rfl, rfl⟩ | ⟨rfl, rfl⟩ | ⟨rfl, rfl⟩ | ⟨rfl, rfl⟩ | ⟨rfl, rfl⟩ | ⟨rfl, rfl⟩ | ⟨rfl, rfl⟩ | ⟨rfl, rfl⟩
  all_goals
    go_enter Tryz.func20, Tryz.ntmps20
    go_wp2
    go_ret
    exact ⟨rfl, rfl⟩
set_option maxHeartbeats 1600000 in
theorem toWord_nil (b : Nat) (kd : ByteArray) (hm : kd ∈ allL) (w : World) (h : w.cell? ⟨b, 0, none⟩ = some (.string kd)) :
    Calls Tryz.prog 20 #[.pointer (some ⟨b, 0, none⟩)] w fun e w' => e = .returned .nilFunc ∧ w = w' := by
  unfold allL at hm
  simp only [List.mem_cons, List.not_mem_nil, or_false] at hm
  rcases hm with rfl | rfl | rfl | rfl | rfl | rfl | rfl | rfl
  all_goals
    go_enter Tryz.func20, Tryz.ntmps20
    go_wp2
    go_ret
    exact ⟨rfl, rfl⟩
theorem sizeL_take (l : List ByteArray) (k : Nat) (hk : k < l.length) : sizeL (l.take (k + 1)) = sizeL (l.take k) + l[k].size := by
  rw [List.take_succ_eq_append_getElem hk, sizeL_snoc]
theorem sizeL_le (l : List ByteArray) (B : Nat) (h : ∀ y ∈ l, y.size ≤ B) : sizeL l ≤ l.length * B := by
  induction l with
  | nil => simp [sizeL]
  | cons x t ih =>
    have h1 := ih fun y hy => h y (List.mem_cons_of_mem _ hy)
    have h2 := h x (List.mem_cons_self)
    simp only [sizeL, List.map_cons, List.sum_cons, List.length_cons, Nat.succ_mul] at h1 ⊢
    omega
set_option maxHeartbeats 1600000 in
theorem few_any (a : Option Addr) (n c : Nat) (l : List ByteArray) (B : Nat) (w : World) (h : Words B w (.slice a n c) l) (hn : n ≤ 1000000) (hs : ∀ y ∈ l, y.size ≤ 1000000) :
    Calls Tryz.prog 11 #[.slice a n c] w fun e w' => e = .returned (.bool (decide (n ≤ 4096 ∧ sizeL l ≤ 65536))) ∧ w = w' := by
  have hnl := h.len
  have HW : Hid (Words B w (.slice a n c) l ∧ n = l.length) := ⟨h, hnl⟩
  have HS : Hid (∀ k, sizeL (l.take k) ≤ 1000000000000) := fun k => by
    have := sizeL_le (l.take k) 1000000 (fun y hy => hs y (List.mem_of_mem_take hy))
    have h2 : (l.take k).length ≤ 1000000 := by rw [List.length_take]; omega
    have := Nat.mul_le_mul_right 1000000 h2
    omega
  obtain ⟨R, hR⟩ : ∃ R, R = decide (n ≤ 4096 ∧ sizeL l ≤ 65536) := ⟨_, rfl⟩
  rw [← hR]
  have HR : Hid (R = decide (n ≤ 4096 ∧ sizeL l ≤ 65536)) := hR
  clear h hnl hs hR
  go_enter Tryz.func11, Tryz.ntmps11
  go_wp2
  go_loopw [3, 8] (fun v3 vi wr => ∃ k z : Nat, k ≤ n ∧ vi = .int .i64 k ∧ v3 = .int .i64 z ∧ z ≤ 1000000000000 ∧ Hid (z = sizeL (l.take k)) ∧ w = wr) (fun _ vi _ => n - (intOf vi).toNat)
  case atStart => exact ⟨0, 0, Nat.zero_le _, rfl, rfl, Nat.zero_le _, rfl, rfl⟩
  case round =>
    obtain ⟨k, z, hk, rfl, rfl, hz, HZ, rfl⟩ := hrel
    by_cases hlt : k < n
    · have hil : (k : Int) < (n : Int) := by omega
      have hkl : k < l.length := by rw [← HW.out.2]; exact hlt
      obtain ⟨b0, o0, ha, _, e1⟩ := HW.out.1.pick k hkl
      subst ha
      obtain ⟨x, hx⟩ : ∃ x, x = l[k] := ⟨_, rfl⟩
      rw [← hx] at e1
      have HZ2 : Hid (z + x.size = sizeL (l.take (k + 1))) := by unfold Hid; rw [sizeL_take l k hkl, HZ.out, hx]
      have hz2 : z + x.size ≤ 1000000000000 := by rw [HZ2.out]; exact HS.out _
      clear hx hkl
      go_wp2
      go_roundw
      case rel => exact ⟨k + 1, z + x.size, by omega, by go_num, by go_num, hz2, HZ2, trivial⟩
      case measure => simp [intOf]; omega
    · obtain rfl : k = n := by omega
      have HE : Hid (z = sizeL l) := by unfold Hid; rw [HZ.out, HW.out.2, List.take_length]
      by_cases h1 : k ≤ 4096
      · by_cases h2 : z ≤ 65536
        · have t1 : (k : Int) ≤ 4096 := by omega
          have t2 : (z : Int) ≤ 65536 := by omega
          have HR2 : Hid (R = true) := HR.out.trans (decide_eq_true ⟨h1, by rw [← HE.out]; exact h2⟩)
          clear HR
          go_wp2
          go_ret
          exact ⟨by rw [HR2.out]; rfl, rfl⟩
        · have t1 : (k : Int) ≤ 4096 := by omega
          have t2 : decide ((z : Int) ≤ 65536) = false := by simp; omega
          have HR2 : Hid (R = false) := HR.out.trans (decide_eq_false (fun e => h2 (by rw [HE.out]; exact e.2)))
          clear HR
          go_wp2
          go_ret
          exact ⟨by rw [HR2.out]; rfl, rfl⟩
      · have t1 : decide ((k : Int) ≤ 4096) = false := by simp; omega
        have HR2 : Hid (R = false) := HR.out.trans (decide_eq_false (fun e => h1 e.1))
        clear HR
        go_wp2
        go_ret
        exact ⟨by rw [HR2.out]; rfl, rfl⟩
end Go.Proofs.YtedepknbaakkhabGreatDoor
namespace Go.Proofs.YtedepknbaakkhabGreatDoor
open Go.RowKit Go.Shelf
abbrev ActF := Bool → ByteArray → List ByteArray → Option (Bool × Option ByteArray)
def Stp (base b : Nat) (m : Md) (v : Value) (made : List ByteArray) (r : Option (Bool × Option ByteArray)) (w w' : World) : Prop :=
  match r with
  | none => (∃ v' l d, Wk base b m v' l true d w') ∧ Went b v w w'
  | some r => Step base b m v made r.1 r.2 w w'
def foldA (act : ActF) : List ByteArray → Bool → List ByteArray → Option (List ByteArray)
  | made, _, [] => some made
  | made, done, x :: t => match act done x made with
    | none => none
    | some (d, none) => foldA act made d t
    | some (d, some y) => if y.size + sizeL made ≤ 65536 then foldA act (made ++ [y]) d t else none
def Does (m : Md) (f : Nat) (act : ActF) : Prop := ∀ base b v made done x W, Wk base b m v made false done W → x.size ≤ 1000000 → sizeL made ≤ 65536 → made.length ≤ 100000 → Mx W → 0 < b → 0 < base →
  Calls Tryz.prog f #[.pointer (some ⟨b, 0, none⟩), .string x] W fun e w' => e = .returned (.tuple #[]) ∧ Stp base b m v made (act done x made) W w'
theorem went_below {B b : Nat} {v : Value} {w w1 w2 : World} (h : Below B w w1) (hB : B ≤ w.heap.size) (hg : Went b v w1 w2) (hb : B ≤ b) (hv : ∀ j, v.ownBlock = some j → B ≤ j) : Below B w w2 :=
  ⟨hg.os.trans h.os, hg.tape.trans h.tape, hg.output.trans h.output, Nat.le_trans h.size hg.size, fun j hj => (hg.block j (by have := h.size; omega) (by omega) (fun e => by have := hv j e; omega)).trans (h.block j hj)⟩
theorem Stp.next {base b : Nat} {m : Md} {v : Value} {made : List ByteArray} {act : ActF} {done : Bool} {x : ByteArray} {t : List ByteArray} {w w' : World} (h : Stp base b m v made (act done x made) w w') (hs : sizeL made ≤ 65536) :
    Went b v w w' ∧ (((∃ v' l d, Wk base b m v' l true d w') ∧ foldA act made done (x :: t) = none) ∨ ∃ v' l d, Wk base b m v' l false d w' ∧ sizeL l ≤ 65536 ∧ l.length ≤ made.length + 1 ∧ foldA act made done (x :: t) = foldA act l d t) := by
  have hf : foldA act made done (x :: t) = match act done x made with
    | none => none
    | some (d, none) => foldA act made d t
    | some (d, some y) => if y.size + sizeL made ≤ 65536 then foldA act (made ++ [y]) d t else none := by rw [foldA]
  rw [hf]
  cases hr : act done x made with
  | none => rw [hr] at h; exact ⟨h.2, .inl ⟨h.1, rfl⟩⟩
  | some r =>
    obtain ⟨d, y⟩ := r
    rw [hr] at h
    obtain ⟨⟨v', h1, h2⟩, h3⟩ := h
    refine ⟨h3, ?_⟩
    cases y with
    | none => exact .inr ⟨v', made, d, h1, hs, Nat.le_succ _, rfl⟩
    | some y =>
      dsimp only at h1 ⊢
      split at h1
      · rename_i hle
        exact .inr ⟨v', made ++ [y], d, h1, by rw [sizeL_snoc]; omega, by simp, if_pos hle⟩
      · rename_i hle
        exact .inl ⟨⟨v', made, d, h1⟩, if_neg hle⟩
theorem heap_alloc_new' {w : World} {A B : Obj} : ((w.alloc A).alloc B).heap[w.heap.size + 1]? = some B := by
  have := heap_alloc_new (w.alloc A) B
  simpa using this
theorem fn_neq (fn : Fn) (xs : Array Value) (W : World) : Sem.run Tryz.prog (binOp .neq 52 (.func fn xs #[]) .nilFunc) W = .ok (.bool true) W := by kernel_rfl
theorem nil_neq (W : World) : Sem.run Tryz.prog (binOp .neq 52 .nilFunc .nilFunc) W = .ok (.bool false) W := by kernel_rfl
def ApplyPost (w : World) (r : Option (List ByteArray)) (e : Ending) (w' : World) : Prop :=
  Below w.heap.size w w' ∧ match r with
  | none => e = .returned (.tuple #[.slice none 0 0, .bool false])
  | some l => ∃ v', e = .returned (.tuple #[v', .bool true]) ∧ w'.ownsRow w.heap.size 9 1 v' l.length (l.map Value.string)
end Go.Proofs.YtedepknbaakkhabGreatDoor
