/-
  The step of S, where what a place becomes is too much.
-/
import Derived.Test.YthcbagggalehgaaGreatDoorM14
namespace Go.Proofs.YthcbagggalehgaaGreatDoor
open Go.RowKit Go.Shelf

set_option maxRecDepth 20000 in
set_option maxHeartbeats 4000000 in
theorem repl_over (base b : Nat) (m : Md) (mks ots : Nat) (v : Value) (made : List ByteArray) (done : Bool) (x : ByteArray) (w : World) (h : Wk base b m v made false done w) (ha1 : 1 ≤ m.a.size) (ha : m.a.size ≤ 3000) (hmk : m.mks = mks) (hot : m.ots = ots) (hmks : mks ≤ 3000) (hots : ots ≤ 3000) (hx : x.size ≤ 1000000) (hs : sizeL made ≤ 65536) (hmx : Mx w) (hb0 : 0 < b) (hbase : 0 < base)
    (hk : ¬ (firstI m.bg m.en (bl m.a) (bl x) < 0 ∨ (done = true ∧ m.on = true))) (hr0 : ¬ replN m mks ots x + sizeL made ≤ 65536) :
    Calls Tryz.prog 122 #[.pointer (some ⟨b, 0, none⟩), .string x] w fun e w' => e = .returned (.tuple #[]) ∧ Wk base b m v made true true w' ∧ Went b v w w' := by
  have HV0 : Hid (v.ownBlock ≠ some 0) := fun e => by have := (h.row.lt 0 e).1; omega
  have HMx : Hid (∀ W, Went b v w W → Mx W) := fun W hW => hW.mx hmx hb0 HV0.out
  have HD : Hid (Wk base b m v made false true (w.setCell ⟨b, 15, none⟩ (.bool true)) ∧ Went b v w (w.setCell ⟨b, 15, none⟩ (.bool true))) := ⟨h.done' true, Went.set b 15 v w _⟩
  obtain ⟨⟨r0, r1, r2, r3, r4, r6, r7, r8, r9⟩, ⟨r12, r13, r14, r15⟩, hfz⟩ := h.cells
  clear h
  obtain ⟨F, hF⟩ : ∃ F, F = firstI m.bg m.en (bl m.a) (bl x) := ⟨_, rfl⟩
  have HFi : Hid (Calls Tryz.prog 142 #[.pointer (some ⟨b, 0, none⟩), .string x] w fun e w' => e = .returned (.int .i64 F) ∧ w = w') := by
    rw [hF]; exact first_any b m.a x m.bg m.en w r1 r3 r4 (by omega) hx hmx
  have hFle := firstI_le m.bg m.en (bl m.a) (bl x)
  obtain ⟨pl, hpl⟩ : ∃ pl, pl = placesN m.al m.bg m.en (bl m.a) (bl x) := ⟨_, rfl⟩
  unfold replN at hr0
  rw [← hF, bl_length] at hFle
  rw [← hF] at hk
  rw [← hpl] at hr0
  have hpl1 : pl ≤ 1000001 := by
    rw [hpl]; unfold placesN; split
    · have := Lib.count_le (bl x) (bl m.a); rw [bl_length] at this; omega
    · omega
  clear hF hmx
  obtain ⟨f, hf⟩ : ∃ f : Nat, F = f := ⟨F.toNat, by omega⟩
  subst hf
  have hf0 : ¬ (f : Int) < 0 := by omega
  have hfx : (f : Int) ≤ (x.size : Int) := hFle
  have hf00 : (0 : Int) ≤ (f : Int) := by omega
  have hdo : done = true → m.on = false := fun e => by
    have := fun e2 => hk (.inr ⟨e, e2⟩)
    simpa using this
  clear hk hFle
  obtain ⟨ma, hma⟩ : ∃ ma, ma = m.a := ⟨_, rfl⟩
  obtain ⟨mb, hmb⟩ : ∃ mb, mb = m.b := ⟨_, rfl⟩
  rw [← hma] at r1 ha ha1 hr0 hpl
  rw [← hmb] at r2
  rw [hmk] at r8
  rw [hot] at r9
  have HCl : Hid (∀ W v made o d, Wk base b m v made o d W → W.cell? ⟨b, 1, none⟩ = some (.string ma) ∧ W.cell? ⟨b, 2, none⟩ = some (.string mb) ∧ W.cell? ⟨b, 8, none⟩ = some (.int .i64 mks) ∧ W.cell? ⟨b, 9, none⟩ = some (.int .i64 ots)) := fun W v made o d hW => by
    rw [hma, hmb, ← hmk, ← hot]; have := hW.cells.1; exact ⟨this.2.1, this.2.2.1, this.2.2.2.2.2.2.2.1, this.2.2.2.2.2.2.2.2⟩
  clear hma hmb hmk hot
  obtain ⟨tk, htk⟩ : ∃ tk, tk = pl * ma.size := ⟨_, rfl⟩
  have htkb : tk ≤ 1000001 * 3000 := by rw [htk]; exact Nat.mul_le_mul hpl1 ha
  rw [← htk] at hr0
  have HTk : Hid (tk = pl * ma.size) := htk
  have hmul : (pl : Int) * (ma.size : Int) = (tk : Int) := by rw [htk]; simp
  have hwm : IntKind.i64.wrap ((pl : Int) * (ma.size : Int)) = (tk : Int) := by rw [hmul]; exact wrap_ok _ (by omega) (by omega)
  clear htk hmul
  obtain ⟨LN, hLN⟩ : ∃ LN, LN = (x.size : Int) - (tk : Nat) + (pl : Nat) * ots + (tk : Nat) * mks := ⟨_, rfl⟩
  rw [← hLN] at hr0
  have HLe : Hid (∀ W, Wk base b m v made false true W → Calls Tryz.prog 144 #[.pointer (some ⟨b, 0, none⟩), .string x, .int .i64 pl, .int .i64 tk] W fun e w' => e = .returned (.int .i64 LN) ∧ Below W.heap.size W w') := fun W hW => by
    obtain ⟨_, _, c8, c9⟩ := HCl.out W _ _ _ _ hW
    rw [hLN]; exact length_any b x mks ots pl tk W c8 c9 hx (by omega) (by omega) hpl1 (by omega)
  have HRo : Hid (∀ W, Wk base b m v made false true W → Calls Tryz.prog 143 #[.pointer (some ⟨b, 0, none⟩), .int .i64 LN] W fun e w' => e = .returned (.bool false) ∧ Wk base b m v made true true w' ∧ Went b v W w') := fun W hW => by
    have := room_any base b m v made false true LN W hW hs
    rw [decide_eq_false hr0] at this; exact this
  clear hLN hr0
  have n1 : ¬ ma.toList = [] := by rw [Lib.toList_data]; intro e; have := bl_length ma; unfold bl at this; rw [e] at this; simp at this; omega
  have n2 : ma.toList.isEmpty = false := by cases hh : ma.toList with | nil => exact absurd hh n1 | cons => rfl
  have n3 : (ma.toList != []) = true := bne_iff_ne.2 n1
  have n4 : (ma.toList == []) = false := beq_eq_false_iff_ne.2 n1
  rcases hal : m.al with _ | _
  · rw [hal] at r6
    have hp1 : pl = 1 := by rw [hpl]; unfold placesN; rw [if_neg (by simp [*])]
    have ht1 : tk = ma.size := by rw [HTk.out, hp1, Nat.one_mul]
    clear hwm hpl
    subst hp1
    subst ht1
    have hm1 : IntKind.i64.wrap (ma.size : Int) = (ma.size : Int) := wrap_ok _ (by omega) (by omega)
    clear HTk
    cases done with
    | false =>
      go_enter Tryz.func122, Tryz.ntmps122
      go_wp2_with fail
      refine HFi.out.mono ?_
      rintro e w' ⟨rfl, rfl⟩
      go_wp2_with fail
      refine (HLe.out _ HD.out.1).mono ?_
      rintro e w2 ⟨rfl, hb2⟩
      have HW2 : Hid (Wk base b m v made false true w2 ∧ Went b v w w2) := ⟨HD.out.1.below hb2, HD.out.2.same (Went.of_below hb2)⟩
      clear hb2
      go_wp2_with fail
      refine (HRo.out _ HW2.out.1).mono ?_
      rintro e w3 ⟨rfl, hW3, hg3⟩
      have HW3 : Hid (Wk base b m v made true true w3 ∧ Went b v w w3) := ⟨hW3, HW2.out.2.same hg3⟩
      clear hW3 hg3 HW2
      go_wp2
      refine bodyPost_end (v := .tuple #[]) (by simp [results, Tryz.results122, go_sem]) rfl ⟨rfl, HW3.out⟩
    | true =>
      rw [hdo rfl] at r7
      go_enter Tryz.func122, Tryz.ntmps122
      go_wp2_with fail
      refine HFi.out.mono ?_
      rintro e w' ⟨rfl, rfl⟩
      go_wp2_with fail
      refine (HLe.out _ HD.out.1).mono ?_
      rintro e w2 ⟨rfl, hb2⟩
      have HW2 : Hid (Wk base b m v made false true w2 ∧ Went b v w w2) := ⟨HD.out.1.below hb2, HD.out.2.same (Went.of_below hb2)⟩
      clear hb2
      go_wp2_with fail
      refine (HRo.out _ HW2.out.1).mono ?_
      rintro e w3 ⟨rfl, hW3, hg3⟩
      have HW3 : Hid (Wk base b m v made true true w3 ∧ Went b v w w3) := ⟨hW3, HW2.out.2.same hg3⟩
      clear hW3 hg3 HW2
      go_wp2
      refine bodyPost_end (v := .tuple #[]) (by simp [results, Tryz.results122, go_sem]) rfl ⟨rfl, HW3.out⟩
  · rw [hal] at r6
    rcases hbg : m.bg with _ | _
    · rw [hbg] at r3
      rcases hen : m.en with _ | _
      · rw [hen] at r4
        have hp1 : pl = Lib.count (bl x) (bl ma) := by rw [hpl]; unfold placesN; rw [if_pos ⟨hal, hbg, hen⟩]
        have HCo : Hid (∀ W, Mx W → Calls Tryz.prog 45 #[.string x, .string ma] W fun e w' => e = .returned (.int .i64 pl) ∧ W = w') := fun W hW => by
          obtain ⟨mm, hmm⟩ := hW
          rw [hp1]
          exact (Tryz.strings_Count_any x ma mm W (by omega) hmm ha1).mono (by rintro e w' ⟨rfl, rfl⟩; exact ⟨rfl, rfl⟩)
        clear hp1 hpl
        cases done with
        | false =>
          go_enter Tryz.func122, Tryz.ntmps122
          go_wp2_with fail
          refine HFi.out.mono ?_
          rintro e w' ⟨rfl, rfl⟩
          go_wp2_with fail
          refine (HCo.out _ (HMx.out _ HD.out.2)).mono ?_
          rintro e w1 ⟨rfl, rfl⟩
          go_wp2_with fail
          refine (HLe.out _ HD.out.1).mono ?_
          rintro e w2 ⟨rfl, hb2⟩
          have HW2 : Hid (Wk base b m v made false true w2 ∧ Went b v w w2) := ⟨HD.out.1.below hb2, HD.out.2.same (Went.of_below hb2)⟩
          clear hb2
          go_wp2_with fail
          refine (HRo.out _ HW2.out.1).mono ?_
          rintro e w3 ⟨rfl, hW3, hg3⟩
          have HW3 : Hid (Wk base b m v made true true w3 ∧ Went b v w w3) := ⟨hW3, HW2.out.2.same hg3⟩
          clear hW3 hg3 HW2
          go_wp2
          refine bodyPost_end (v := .tuple #[]) (by simp [results, Tryz.results122, go_sem]) rfl ⟨rfl, HW3.out⟩
        | true =>
          rw [hdo rfl] at r7
          go_enter Tryz.func122, Tryz.ntmps122
          go_wp2_with fail
          refine HFi.out.mono ?_
          rintro e w' ⟨rfl, rfl⟩
          go_wp2_with fail
          refine (HCo.out _ (HMx.out _ HD.out.2)).mono ?_
          rintro e w1 ⟨rfl, rfl⟩
          go_wp2_with fail
          refine (HLe.out _ HD.out.1).mono ?_
          rintro e w2 ⟨rfl, hb2⟩
          have HW2 : Hid (Wk base b m v made false true w2 ∧ Went b v w w2) := ⟨HD.out.1.below hb2, HD.out.2.same (Went.of_below hb2)⟩
          clear hb2
          go_wp2_with fail
          refine (HRo.out _ HW2.out.1).mono ?_
          rintro e w3 ⟨rfl, hW3, hg3⟩
          have HW3 : Hid (Wk base b m v made true true w3 ∧ Went b v w w3) := ⟨hW3, HW2.out.2.same hg3⟩
          clear hW3 hg3 HW2
          go_wp2
          refine bodyPost_end (v := .tuple #[]) (by simp [results, Tryz.results122, go_sem]) rfl ⟨rfl, HW3.out⟩
      · rw [hen] at r4
        have hp1 : pl = 1 := by rw [hpl]; unfold placesN; rw [if_neg (by simp [*])]
        have ht1 : tk = ma.size := by rw [HTk.out, hp1, Nat.one_mul]
        clear hwm hpl
        subst hp1
        subst ht1
        have hm1 : IntKind.i64.wrap (ma.size : Int) = (ma.size : Int) := wrap_ok _ (by omega) (by omega)
        clear HTk
        cases done with
        | false =>
          go_enter Tryz.func122, Tryz.ntmps122
          go_wp2_with fail
          refine HFi.out.mono ?_
          rintro e w' ⟨rfl, rfl⟩
          go_wp2_with fail
          refine (HLe.out _ HD.out.1).mono ?_
          rintro e w2 ⟨rfl, hb2⟩
          have HW2 : Hid (Wk base b m v made false true w2 ∧ Went b v w w2) := ⟨HD.out.1.below hb2, HD.out.2.same (Went.of_below hb2)⟩
          clear hb2
          go_wp2_with fail
          refine (HRo.out _ HW2.out.1).mono ?_
          rintro e w3 ⟨rfl, hW3, hg3⟩
          have HW3 : Hid (Wk base b m v made true true w3 ∧ Went b v w w3) := ⟨hW3, HW2.out.2.same hg3⟩
          clear hW3 hg3 HW2
          go_wp2
          refine bodyPost_end (v := .tuple #[]) (by simp [results, Tryz.results122, go_sem]) rfl ⟨rfl, HW3.out⟩
        | true =>
          rw [hdo rfl] at r7
          go_enter Tryz.func122, Tryz.ntmps122
          go_wp2_with fail
          refine HFi.out.mono ?_
          rintro e w' ⟨rfl, rfl⟩
          go_wp2_with fail
          refine (HLe.out _ HD.out.1).mono ?_
          rintro e w2 ⟨rfl, hb2⟩
          have HW2 : Hid (Wk base b m v made false true w2 ∧ Went b v w w2) := ⟨HD.out.1.below hb2, HD.out.2.same (Went.of_below hb2)⟩
          clear hb2
          go_wp2_with fail
          refine (HRo.out _ HW2.out.1).mono ?_
          rintro e w3 ⟨rfl, hW3, hg3⟩
          have HW3 : Hid (Wk base b m v made true true w3 ∧ Went b v w w3) := ⟨hW3, HW2.out.2.same hg3⟩
          clear hW3 hg3 HW2
          go_wp2
          refine bodyPost_end (v := .tuple #[]) (by simp [results, Tryz.results122, go_sem]) rfl ⟨rfl, HW3.out⟩
    · rw [hbg] at r3
      have hp1 : pl = 1 := by rw [hpl]; unfold placesN; rw [if_neg (by simp [*])]
      have ht1 : tk = ma.size := by rw [HTk.out, hp1, Nat.one_mul]
      clear hwm hpl
      subst hp1
      subst ht1
      have hm1 : IntKind.i64.wrap (ma.size : Int) = (ma.size : Int) := wrap_ok _ (by omega) (by omega)
      clear HTk
      cases done with
      | false =>
        go_enter Tryz.func122, Tryz.ntmps122
        go_wp2_with fail
        refine HFi.out.mono ?_
        rintro e w' ⟨rfl, rfl⟩
        go_wp2_with fail
        refine (HLe.out _ HD.out.1).mono ?_
        rintro e w2 ⟨rfl, hb2⟩
        have HW2 : Hid (Wk base b m v made false true w2 ∧ Went b v w w2) := ⟨HD.out.1.below hb2, HD.out.2.same (Went.of_below hb2)⟩
        clear hb2
        go_wp2_with fail
        refine (HRo.out _ HW2.out.1).mono ?_
        rintro e w3 ⟨rfl, hW3, hg3⟩
        have HW3 : Hid (Wk base b m v made true true w3 ∧ Went b v w w3) := ⟨hW3, HW2.out.2.same hg3⟩
        clear hW3 hg3 HW2
        go_wp2
        refine bodyPost_end (v := .tuple #[]) (by simp [results, Tryz.results122, go_sem]) rfl ⟨rfl, HW3.out⟩
      | true =>
        rw [hdo rfl] at r7
        go_enter Tryz.func122, Tryz.ntmps122
        go_wp2_with fail
        refine HFi.out.mono ?_
        rintro e w' ⟨rfl, rfl⟩
        go_wp2_with fail
        refine (HLe.out _ HD.out.1).mono ?_
        rintro e w2 ⟨rfl, hb2⟩
        have HW2 : Hid (Wk base b m v made false true w2 ∧ Went b v w w2) := ⟨HD.out.1.below hb2, HD.out.2.same (Went.of_below hb2)⟩
        clear hb2
        go_wp2_with fail
        refine (HRo.out _ HW2.out.1).mono ?_
        rintro e w3 ⟨rfl, hW3, hg3⟩
        have HW3 : Hid (Wk base b m v made true true w3 ∧ Went b v w w3) := ⟨hW3, HW2.out.2.same hg3⟩
        clear hW3 hg3 HW2
        go_wp2
        refine bodyPost_end (v := .tuple #[]) (by simp [results, Tryz.results122, go_sem]) rfl ⟨rfl, HW3.out⟩
end Go.Proofs.YthcbagggalehgaaGreatDoor
