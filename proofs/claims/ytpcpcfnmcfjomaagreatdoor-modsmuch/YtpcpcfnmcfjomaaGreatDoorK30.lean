/-
  M14b M18 M19 M20
-/
import Derived.Test.YtpcpcfnmcfjomaaGreatDoorK19
import Derived.Test.YtpcpcfnmcfjomaaGreatDoorK29
namespace Go.Proofs.YtpcpcfnmcfjomaaGreatDoor
open Go.RowKit Go.Shelf
set_option maxRecDepth 20000 in
set_option maxHeartbeats 4000000 in
theorem repl_over (base b : Nat) (m : Md) (mks ots : Nat) (v : Value) (made : List ByteArray) (done : Bool) (x : ByteArray) (w : World) (h : Wk base b m v made false done w) (ha1 : 1 ≤ m.a.size) (ha : m.a.size ≤ 3000) (hmk : m.mks = mks) (hot : m.ots = ots) (hmks : mks ≤ 3000) (hots : ots ≤ 3000) (hx : x.size ≤ 1000000) (hs : sizeL made ≤ 65536) (hmx : Mx w) (hb0 : 0 < b) (hbase : 0 < base)
    (hk : ¬ (firstI m.bg m.en (bl m.a) (bl x) < 0 ∨ (done = true ∧ m.on = true))) (hr0 : ¬ replN m mks ots x + sizeL made ≤ 65536) :
    Calls Tryz.prog 47 #[.pointer (some ⟨b, 0, none⟩), .string x] w fun e w' => e = .returned (.tuple #[]) ∧ Wk base b m v made true true w' ∧ Went b v w w' := by
  have HV0 : Hid (v.ownBlock ≠ some 0) := fun e => by have := (h.row.lt 0 e).1; omega
  have HMx : Hid (∀ W, Went b v w W → Mx W) := fun W hW => hW.mx hmx hb0 HV0.out
  have HD : Hid (Wk base b m v made false true (w.setCell ⟨b, 15, none⟩ (.bool true)) ∧ Went b v w (w.setCell ⟨b, 15, none⟩ (.bool true))) := ⟨h.done' true, Went.set b 15 v w _⟩
  obtain ⟨⟨r0, r1, r2, r3, r4, r6, r7, r8, r9⟩, ⟨r12, r13, r14, r15⟩, hfz⟩ := h.cells
  clear h
  obtain ⟨F, hF⟩ : ∃ F, F = firstI m.bg m.en (bl m.a) (bl x) := ⟨_, rfl⟩
  have HFi : Hid (Calls Tryz.prog 90 #[.pointer (some ⟨b, 0, none⟩), .string x] w fun e w' => e = .returned (.int .i64 F) ∧ w = w') := by
    rw [hF]; exact first_any b m.a x m.bg m.en w r1 r3 r4 (by omega) hx hmx
  have hFle := firstI_le m.bg m.en (bl m.a) (bl x)
  obtain ⟨pl, hpl⟩ : ∃ pl, pl = placesN m.al m.bg m.en (bl m.a) (bl x) := ⟨_, rfl⟩
  unfold replN at hr0
  rw [← hF, bl_length] at hFle
  rw [← hF] at hk
  rw [← hpl] at hr0
  have hpl1 : pl ≤ 1000001 := by
    rw [hpl]; unfold placesN; split
    · have := Lib.count_le (bl x) (bl m.a); rw [bl_length] at this; omega
    · omega
  clear hF hmx
  obtain ⟨f, hf⟩ : ∃ f : Nat, F = f := ⟨F.toNat, by omega⟩
  subst hf
  have hf0 : ¬ (f : Int) < 0 := by omega
  have hfx : (f : Int) ≤ (x.size : Int) := hFle
  have hf00 : (0 : Int) ≤ (f : Int) := by omega
  have hdo : done = true → m.on = false := fun e => by
    have := fun e2 => hk (.inr ⟨e, e2⟩)
    simpa using this
  clear hk hFle
  obtain ⟨ma, hma⟩ : ∃ ma, ma = m.a := ⟨_, rfl⟩
  obtain ⟨mb, hmb⟩ : ∃ mb, mb = m.b := ⟨_, rfl⟩
  rw [← hma] at r1 ha ha1 hr0 hpl
  rw [← hmb] at r2
  rw [hmk] at r8
  rw [hot] at r9
  have HCl : Hid (∀ W v made o d, Wk base b m v made o d W → W.cell? ⟨b, 1, none⟩ = some (.string ma) ∧ W.cell? ⟨b, 2, none⟩ = some (.string mb) ∧ W.cell? ⟨b, 8, none⟩ = some (.int .i64 mks) ∧ W.cell? ⟨b, 9, none⟩ = some (.int .i64 ots)) := fun W v made o d hW => by
    rw [hma, hmb, ← hmk, ← hot]; have := hW.cells.1; exact ⟨this.2.1, this.2.2.1, this.2.2.2.2.2.2.2.1, this.2.2.2.2.2.2.2.2⟩
  clear hma hmb hmk hot
  obtain ⟨tk, htk⟩ : ∃ tk, tk = pl * ma.size := ⟨_, rfl⟩
  have htkb : tk ≤ 1000001 * 3000 := by rw [htk]; exact Nat.mul_le_mul hpl1 ha
  rw [← htk] at hr0
  have HTk : Hid (tk = pl * ma.size) := htk
  have hmul : (pl : Int) * (ma.size : Int) = (tk : Int) := by rw [htk]; simp
  have hwm : IntKind.i64.wrap ((pl : Int) * (ma.size : Int)) = (tk : Int) := by rw [hmul]; exact wrap_ok _ (by omega) (by omega)
  clear htk hmul
  obtain ⟨LN, hLN⟩ : ∃ LN, LN = (x.size : Int) - (tk : Nat) + (pl : Nat) * ots + (tk : Nat) * mks := ⟨_, rfl⟩
  rw [← hLN] at hr0
  have HLe : Hid (∀ W, Wk base b m v made false true W → Calls Tryz.prog 93 #[.pointer (some ⟨b, 0, none⟩), .string x, .int .i64 pl, .int .i64 tk] W fun e w' => e = .returned (.int .i64 LN) ∧ Below W.heap.size W w') := fun W hW => by
    obtain ⟨_, _, c8, c9⟩ := HCl.out W _ _ _ _ hW
    rw [hLN]; exact length_any b x mks ots pl tk W c8 c9 hx (by omega) (by omega) hpl1 (by omega)
  have HRo : Hid (∀ W, Wk base b m v made false true W → Calls Tryz.prog 92 #[.pointer (some ⟨b, 0, none⟩), .int .i64 LN] W fun e w' => e = .returned (.bool false) ∧ Wk base b m v made true true w' ∧ Went b v W w') := fun W hW => by
    have := room_any base b m v made false true LN W hW hs
    rw [decide_eq_false hr0] at this; exact this
  clear hLN hr0
  have n1 : ¬ ma.toList = [] := by rw [Lib.toList_data]; intro e; have := bl_length ma; unfold bl at this; rw [e] at this; simp at this; omega
  have n2 : ma.toList.isEmpty = false := by cases hh : ma.toList with | nil => exact absurd hh n1 | cons => rfl
  have n3 : (ma.toList != []) = true := bne_iff_ne.2 n1
  have n4 : (ma.toList == []) = false := beq_eq_false_iff_ne.2 n1
  rcases hal : m.al with _ | _
  · rw [hal] at r6
    have hp1 : pl = 1 := by rw [hpl]; unfold placesN; rw [if_neg (by simp [*])]
    have ht1 : tk = ma.size := by rw [HTk.out, hp1, Nat.one_mul]
    clear hwm hpl
    subst hp1
    subst ht1
    have hm1 : IntKind.i64.wrap (ma.size : Int) = (ma.size : Int) := wrap_ok _ (by omega) (by omega)
    clear HTk
    cases done with
    | false =>
      go_enter Tryz.func47, Tryz.ntmps47
      go_wp2_with fail
      refine HFi.out.mono ?_
      rintro e w' ⟨rfl, rfl⟩
      go_wp2_with fail
      refine (HLe.out _ HD.out.1).mono ?_
      rintro e w2 ⟨rfl, hb2⟩
      have HW2 : Hid (Wk base b m v made false true w2 ∧ Went b v w w2) := ⟨HD.out.1.below hb2, HD.out.2.same (Went.of_below hb2)⟩
      clear hb2
      go_wp2_with fail
      refine (HRo.out _ HW2.out.1).mono ?_
      rintro e w3 ⟨rfl, hW3, hg3⟩
      have HW3 : Hid (Wk base b m v made true true w3 ∧ Went b v w w3) := ⟨hW3, HW2.out.2.same hg3⟩
      clear hW3 hg3 HW2
      go_wp2
      refine bodyPost_end (v := .tuple #[]) (by simp [results, Tryz.results47, go_sem]) rfl ⟨rfl, HW3.out⟩
    | true =>
      rw [hdo rfl] at r7
      go_enter Tryz.func47, Tryz.ntmps47
      go_wp2_with fail
      refine HFi.out.mono ?_
      rintro e w' ⟨rfl, rfl⟩
      go_wp2_with fail
      refine (HLe.out _ HD.out.1).mono ?_
      rintro e w2 ⟨rfl, hb2⟩
      have HW2 : Hid (Wk base b m v made false true w2 ∧ Went b v w w2) := ⟨HD.out.1.below hb2, HD.out.2.same (Went.of_below hb2)⟩
      clear hb2
      go_wp2_with fail
      refine (HRo.out _ HW2.out.1).mono ?_
      rintro e w3 ⟨rfl, hW3, hg3⟩
      have HW3 : Hid (Wk base b m v made true true w3 ∧ Went b v w w3) := ⟨hW3, HW2.out.2.same hg3⟩
      clear hW3 hg3 HW2
      go_wp2
      refine bodyPost_end (v := .tuple #[]) (by simp [results, Tryz.results47, go_sem]) rfl ⟨rfl, HW3.out⟩
  · rw [hal] at r6
    rcases hbg : m.bg with _ | _
    · rw [hbg] at r3
      rcases hen : m.en with _ | _
      · rw [hen] at r4
        have hp1 : pl = Lib.count (bl x) (bl ma) := by rw [hpl]; unfold placesN; rw [if_pos ⟨hal, hbg, hen⟩]
        have HCo : Hid (∀ W, Mx W → Calls Tryz.prog 91 #[.string x, .string ma] W fun e w' => e = .returned (.int .i64 pl) ∧ W = w') := fun W hW => by
          obtain ⟨mm, hmm⟩ := hW
          rw [hp1]
          exact (Tryz.strings_Count_any x ma mm W (by omega) hmm ha1).mono (by rintro e w' ⟨rfl, rfl⟩; exact ⟨rfl, rfl⟩)
        clear hp1 hpl
        cases done with
        | false =>
          go_enter Tryz.func47, Tryz.ntmps47
          go_wp2_with fail
          refine HFi.out.mono ?_
          rintro e w' ⟨rfl, rfl⟩
          go_wp2_with fail
          refine (HCo.out _ (HMx.out _ HD.out.2)).mono ?_
          rintro e w1 ⟨rfl, rfl⟩
          go_wp2_with fail
          refine (HLe.out _ HD.out.1).mono ?_
          rintro e w2 ⟨rfl, hb2⟩
          have HW2 : Hid (Wk base b m v made false true w2 ∧ Went b v w w2) := ⟨HD.out.1.below hb2, HD.out.2.same (Went.of_below hb2)⟩
          clear hb2
          go_wp2_with fail
          refine (HRo.out _ HW2.out.1).mono ?_
          rintro e w3 ⟨rfl, hW3, hg3⟩
          have HW3 : Hid (Wk base b m v made true true w3 ∧ Went b v w w3) := ⟨hW3, HW2.out.2.same hg3⟩
          clear hW3 hg3 HW2
          go_wp2
          refine bodyPost_end (v := .tuple #[]) (by simp [results, Tryz.results47, go_sem]) rfl ⟨rfl, HW3.out⟩
        | true =>
          rw [hdo rfl] at r7
          go_enter Tryz.func47, Tryz.ntmps47
          go_wp2_with fail
          refine HFi.out.mono ?_
          rintro e w' ⟨rfl, rfl⟩
          go_wp2_with fail
          refine (HCo.out _ (HMx.out _ HD.out.2)).mono ?_
          rintro e w1 ⟨rfl, rfl⟩
          go_wp2_with fail
          refine (HLe.out _ HD.out.1).mono ?_
          rintro e w2 ⟨rfl, hb2⟩
          have HW2 : Hid (Wk base b m v made false true w2 ∧ Went b v w w2) := ⟨HD.out.1.below hb2, HD.out.2.same (Went.of_below hb2)⟩
          clear hb2
          go_wp2_with fail
          refine (HRo.out _ HW2.out.1).mono ?_
          rintro e w3 ⟨rfl, hW3, hg3⟩
          have HW3 : Hid (Wk base b m v made true true w3 ∧ Went b v w w3) := ⟨hW3, HW2.out.2.same hg3⟩
          clear hW3 hg3 HW2
          go_wp2
          refine bodyPost_end (v := .tuple #[]) (by simp [results, Tryz.results47, go_sem]) rfl ⟨rfl, HW3.out⟩
      · rw [hen] at r4
        have hp1 : pl = 1 := by rw [hpl]; unfold placesN; rw [if_neg (by simp [*])]
        have ht1 : tk = ma.size := by rw [HTk.out, hp1, Nat.one_mul]
        clear hwm hpl
        subst hp1
        subst ht1
        have hm1 : IntKind.i64.wrap (ma.size : Int) = (ma.size : Int) := wrap_ok _ (by omega) (by omega)
        clear HTk
        cases done with
        | false =>
          go_enter Tryz.func47, Tryz.ntmps47
          go_wp2_with fail
          refine HFi.out.mono ?_
          rintro e w' ⟨rfl, rfl⟩
          go_wp2_with fail
          refine (HLe.out _ HD.out.1).mono ?_
          rintro e w2 ⟨rfl, hb2⟩
          have HW2 : Hid (Wk base b m v made false true w2 ∧ Went b v w w2) := ⟨HD.out.1.below hb2, HD.out.2.same (Went.of_below hb2)⟩
          clear hb2
          go_wp2_with fail
          refine (HRo.out _ HW2.out.1).mono ?_
          rintro e w3 ⟨rfl, hW3, hg3⟩
          have HW3 : Hid (Wk base b m v made true true w3 ∧ Went b v w w3) := ⟨hW3, HW2.out.2.same hg3⟩
          clear hW3 hg3 HW2
          go_wp2
          refine bodyPost_end (v := .tuple #[]) (by simp [results, Tryz.results47, go_sem]) rfl ⟨rfl, HW3.out⟩
        | true =>
          rw [hdo rfl] at r7
          go_enter Tryz.func47, Tryz.ntmps47
          go_wp2_with fail
          refine HFi.out.mono ?_
          rintro e w' ⟨rfl, rfl⟩
          go_wp2_with fail
          refine (HLe.out _ HD.out.1).mono ?_
          rintro e w2 ⟨rfl, hb2⟩
          have HW2 : Hid (Wk base b m v made false true w2 ∧ Went b v w w2) := ⟨HD.out.1.below hb2, HD.out.2.same (Went.of_below hb2)⟩
          clear hb2
          go_wp2_with fail
          refine (HRo.out _ HW2.out.1).mono ?_
          rintro e w3 ⟨rfl, hW3, hg3⟩
          have HW3 : Hid (Wk base b m v made true true w3 ∧ Went b v w w3) := ⟨hW3, HW2.out.2.same hg3⟩
          clear hW3 hg3 HW2
          go_wp2
          refine bodyPost_end (v := .tuple #[]) (by simp [results, Tryz.results47, go_sem]) rfl ⟨rfl, HW3.out⟩
    · rw [hbg] at r3
      have hp1 : pl = 1 := by rw [hpl]; unfold placesN; rw [if_neg (by simp [*])]
      have ht1 : tk = ma.size := by rw [HTk.out, hp1, Nat.one_mul]
      clear hwm hpl
      subst hp1
      subst ht1
      have hm1 : IntKind.i64.wrap (ma.size : Int) = (ma.size : Int) := wrap_ok _ (by omega) (by omega)
      clear HTk
      cases done with
      | false =>
        go_enter Tryz.func47, Tryz.ntmps47
        go_wp2_with fail
        refine HFi.out.mono ?_
        rintro e w' ⟨rfl, rfl⟩
        go_wp2_with fail
        refine (HLe.out _ HD.out.1).mono ?_
        rintro e w2 ⟨rfl, hb2⟩
        have HW2 : Hid (Wk base b m v made false true w2 ∧ Went b v w w2) := ⟨HD.out.1.below hb2, HD.out.2.same (Went.of_below hb2)⟩
        clear hb2
        go_wp2_with fail
        refine (HRo.out _ HW2.out.1).mono ?_
        rintro e w3 ⟨rfl, hW3, hg3⟩
        have HW3 : Hid (Wk base b m v made true true w3 ∧ Went b v w w3) := ⟨hW3, HW2.out.2.same hg3⟩
        clear hW3 hg3 HW2
        go_wp2
        refine bodyPost_end (v := .tuple #[]) (by simp [results, Tryz.results47, go_sem]) rfl ⟨rfl, HW3.out⟩
      | true =>
        rw [hdo rfl] at r7
        go_enter Tryz.func47, Tryz.ntmps47
        go_wp2_with fail
        refine HFi.out.mono ?_
        rintro e w' ⟨rfl, rfl⟩
        go_wp2_with fail
        refine (HLe.out _ HD.out.1).mono ?_
        rintro e w2 ⟨rfl, hb2⟩
        have HW2 : Hid (Wk base b m v made false true w2 ∧ Went b v w w2) := ⟨HD.out.1.below hb2, HD.out.2.same (Went.of_below hb2)⟩
        clear hb2
        go_wp2_with fail
        refine (HRo.out _ HW2.out.1).mono ?_
        rintro e w3 ⟨rfl, hW3, hg3⟩
        have HW3 : Hid (Wk base b m v made true true w3 ∧ Went b v w w3) := ⟨hW3, HW2.out.2.same hg3⟩
        clear hW3 hg3 HW2
        go_wp2
        refine bodyPost_end (v := .tuple #[]) (by simp [results, Tryz.results47, go_sem]) rfl ⟨rfl, HW3.out⟩
end Go.Proofs.YtpcpcfnmcfjomaaGreatDoor
namespace Go.Proofs.YtpcpcfnmcfjomaaGreatDoor
open Go.RowKit Go.Shelf
def actM (m : Md) : ActF := fun done x _ => some (done, if G.matchB (bl m.a) (bl x) = true then some x else none)
def actN (m : Md) : ActF := fun done x _ => some (done, if G.matchB (bl m.a) (bl x) = true then none else some x)
def actE (m : Md) : ActF := fun done x _ => some (done, some (ba (endedL (bl m.a) (bl m.b) (bl x))))
open Classical in
noncomputable def actS (m : Md) (mks ots : Nat) : ActF := fun done x made =>
  if firstI m.bg m.en (bl m.a) (bl x) < 0 ∨ (done = true ∧ m.on = true) then some (done, some x)
  else if replN m mks ots x + sizeL made ≤ 65536 then some (true, some (replY m x)) else none
theorem does_m (m : Md) (ha : m.a.size ≤ 1000000) : Does m 45 (actM m) := fun base b v made done x W h1 h2 h3 h4 _ _ _ => matching_any base b m v made done x W h1 ha h2 h3 h4
theorem does_n (m : Md) (ha : m.a.size ≤ 1000000) : Does m 46 (actN m) := fun base b v made done x W h1 h2 h3 h4 _ _ _ => other_any base b m v made done x W h1 ha h2 h3 h4
theorem does_e (m : Md) (ha : m.a.size ≤ 1000000) (hb : m.b.size ≤ 1000000) : Does m 55 (actE m) := fun base b v made done x W h1 h2 h3 h4 h5 _ _ => endedSo_any base b m v made done x W h1 ha hb h2 h3 h4 h5
theorem does_s (m : Md) (mks ots : Nat) (ha1 : 1 ≤ m.a.size) (ha : m.a.size ≤ 3000) (hb : m.b.size ≤ 3000) (hmk : m.mks = mks) (hot : m.ots = ots) (hmks : mks ≤ 3000) (hots : ots ≤ 3000) : Does m 47 (actS m mks ots) := fun base b v made done x W h1 h2 h3 h4 h5 h6 h7 => by
  unfold actS
  by_cases hk : firstI m.bg m.en (bl m.a) (bl x) < 0 ∨ (done = true ∧ m.on = true)
  · rw [if_pos hk]
    exact repl_keep base b m v made done x W h1 (by omega) h2 h3 h4 h5 hk
  · rw [if_neg hk]
    by_cases hr : replN m mks ots x + sizeL made ≤ 65536
    · rw [if_pos hr]
      exact repl_go base b m mks ots v made done x W h1 ha1 ha hb hmk hot hmks hots h2 h3 h4 h5 h6 h7 hk hr
    · rw [if_neg hr]
      refine (repl_over base b m mks ots v made done x W h1 ha1 ha hmk hot hmks hots h2 h3 h5 h6 h7 hk hr).mono ?_
      rintro e w' ⟨rfl, hw, hg⟩
      exact ⟨rfl, ⟨v, made, true, hw⟩, hg⟩
def Few (l : List ByteArray) : Prop := l.length ≤ 4096 ∧ sizeL l ≤ 65536
theorem size_mem {l : List ByteArray} {y : ByteArray} (h : y ∈ l) : y.size ≤ sizeL l := by
  induction l with
  | nil => cases h
  | cons x t ih =>
    simp only [sizeL, List.map_cons, List.sum_cons] at ih ⊢
    rcases List.mem_cons.1 h with rfl | h
    · omega
    · have := ih h; omega
theorem foldA_few (act : ActF) : ∀ (l made : List ByteArray) (done : Bool) (r : List ByteArray), foldA act made done l = some r → sizeL made ≤ 65536 → sizeL r ≤ 65536 ∧ r.length ≤ made.length + l.length
  | [], made, done, r, h, hs => by rw [foldA] at h; cases h; exact ⟨hs, Nat.le_refl _⟩
  | x :: t, made, done, r, h, hs => by
    rw [foldA] at h
    cases hr : act done x made with
    | none => rw [hr] at h; cases h
    | some p =>
      obtain ⟨d, y⟩ := p
      rw [hr] at h
      cases y with
      | none => have := foldA_few act t made d r h hs; simp only [List.length_cons]; omega
      | some y =>
        dsimp only at h
        split at h
        · have := foldA_few act t (made ++ [y]) d r h (by rw [sizeL_snoc]; omega)
          simp only [List.length_append, List.length_cons, List.length_nil] at this ⊢; omega
        · cases h
def Applies (m : Md) (g : List ByteArray → Option (List ByteArray)) : Prop :=
  (∀ l r, Few l → g l = some r → Few r) ∧ ∀ base v l w, w.ownsRow base 9 1 v l.length (l.map Value.string) → Few l → Mx w → 0 < base → base ≤ w.heap.size →
  Calls Tryz.prog 15 #[.agg m.cells, v] w fun e w' => Below base w w' ∧ match g l with
    | none => e = .returned (.tuple #[.slice none 0 0, .bool false])
    | some r => ∃ v', e = .returned (.tuple #[v', .bool true]) ∧ w'.ownsRow base 9 1 v' r.length (r.map Value.string)
theorem applies_of {m : Md} {act : ActF}
    (h : ∀ (a : Option Addr) (n c : Nat) (l : List ByteArray) (w : World), Words w.heap.size w (.slice a n c) l → n ≤ 10000 → (∀ y ∈ l, y.size ≤ 1000000) → Mx w → Calls Tryz.prog 15 #[.agg m.cells, .slice a n c] w fun e w' => ApplyPost w (foldA act [] false l) e w') :
    Applies m (foldA act [] false) := by
  refine ⟨fun l r hf hr => ?_, fun base v l w ho hf hm hb hbs => ?_⟩
  · have := foldA_few act l [] false r hr (Nat.zero_le _)
    simp only [List.length_nil, Nat.zero_add] at this
    exact ⟨by have := hf.1; omega, this.1⟩
  · obtain ⟨a, c, rfl⟩ := owns_slice ho
    refine (h a l.length c l w (words_of_owns ho (Nat.le_refl _)) (by have := hf.1; omega) (fun y hy => by have := size_mem hy; have := hf.2; omega) hm).mono ?_
    rintro e w' ⟨h1, h2⟩
    refine ⟨h1.mono hbs, ?_⟩
    cases hr : foldA act [] false l with
    | none => rw [hr] at h2; exact h2
    | some r =>
      rw [hr] at h2
      obtain ⟨v', e1, e2⟩ := h2
      exact ⟨v', e1, owns_base e2 hbs⟩
theorem applies_m (m : Md) (hk : m.kind = ⟨#[77]⟩) (ha : m.a.size ≤ 1000000) : Applies m (foldA (actM m) [] false) :=
  applies_of fun a n c l w h1 h2 h3 h4 => apply_matching m (actM m) (by rw [hk]; simp [fnL]) (does_m m ha) a n c l w h1 h2 h3 h4
theorem applies_e (m : Md) (hk : m.kind = ⟨#[61]⟩) (ha : m.a.size ≤ 1000000) (hb : m.b.size ≤ 1000000) : Applies m (foldA (actE m) [] false) :=
  applies_of fun a n c l w h1 h2 h3 h4 => apply_endedSo m (actE m) (by rw [hk]; simp [fnL]) (does_e m ha hb) a n c l w h1 h2 h3 h4
theorem applies_s (m : Md) (mks ots : Nat) (hk : m.kind = ⟨#[83]⟩) (ha1 : 1 ≤ m.a.size) (ha : m.a.size ≤ 3000) (hb : m.b.size ≤ 3000) (hmk : m.mks = mks) (hot : m.ots = ots) (hmks : mks ≤ 3000) (hots : ots ≤ 3000) : Applies m (foldA (actS m mks ots) [] false) :=
  applies_of fun a n c l w h1 h2 h3 h4 => apply_replaced m (actS m mks ots) (by rw [hk]; simp [fnL]) (does_s m mks ots ha1 ha hb hmk hot hmks hots) a n c l w h1 h2 h3 h4
end Go.Proofs.YtpcpcfnmcfjomaaGreatDoor
namespace Go.Proofs.YtpcpcfnmcfjomaaGreatDoor
open Go.RowKit Go.Shelf
theorem modsV_get : ∀ (ms : List Md) (k i : Nat) (hk : k < ms.length), i < 12 → ∀ u, (ms[k].cells)[i]? = some u → (modsV ms)[k * 12 + i]? = some u
  | [], k, i, hk, _, _, _ => by simp at hk
  | m :: t, 0, i, _, hi, u, hu => by
    unfold modsV
    rw [List.flatMap_cons, Nat.zero_mul, Nat.zero_add, List.getElem?_append_left (by exact hi)]
    simpa using hu
  | m :: t, k + 1, i, hk, hi, u, hu => by
    unfold modsV
    rw [List.flatMap_cons, List.getElem?_append_right (by show 12 ≤ _; omega)]
    have := modsV_get t k i (by simpa using hk) hi u (by simpa using hu)
    unfold modsV at this
    rw [show (k + 1) * 12 + i - m.cells.toList.length = k * 12 + i by show (k + 1) * 12 + i - 12 = _; omega]
    exact this
def ModsRow (B : Nat) (W : World) (v : Value) (ms : List Md) : Prop :=
  ∃ a c, v = .slice a ms.length c ∧ ∀ k (h : k < ms.length), ∃ g o, a = some ⟨g, o, none⟩ ∧ g < B ∧ ∀ i u, (ms[k].cells)[i]? = some u → W.cell? ⟨g, o + k * 12 + i, none⟩ = some u
theorem ModsRow.below {B : Nat} {W W1 : World} {v : Value} {ms : List Md} (h : ModsRow B W v ms) (hb : Below B W W1) : ModsRow B W1 v ms := by
  obtain ⟨a, c, h1, h2⟩ := h
  refine ⟨a, c, h1, fun k hk => ?_⟩
  obtain ⟨g, o, e1, e2, e3⟩ := h2 k hk
  exact ⟨g, o, e1, e2, fun i u hu => (hb.cell (p := ⟨g, o + k * 12 + i, none⟩) e2).trans (e3 i u hu)⟩
def foldG : List (List ByteArray → Option (List ByteArray)) → List ByteArray → Option (List ByteArray)
  | [], l => some l
  | g :: t, l => (g l).bind (foldG t)
def DonePost (w : World) (R : Option (List ByteArray)) (e : Ending) (w' : World) : Prop :=
  Below w.heap.size w w' ∧ match R with
      | none => e = .returned (.tuple #[.slice none 0 0, .int .i64 5])
      | some r => ∃ v', e = .returned (.tuple #[v', .int .i64 0]) ∧ w'.ownsRow w.heap.size 9 1 v' r.length (r.map Value.string)
def AllApply (ms : List Md) (gs : List (List ByteArray → Option (List ByteArray))) : Prop := ms.length = gs.length ∧ ∀ k (h : k < ms.length) (h2 : k < gs.length), Applies ms[k] gs[k]
set_option maxRecDepth 20000 in
set_option maxHeartbeats 3200000 in
theorem Apply_any (ms : List Md) (gs : List (List ByteArray → Option (List ByteArray))) (hg : AllApply ms gs) (am : Option Addr) (nm cm : Nat) (a : Option Addr) (n c : Nat) (l : List ByteArray) (w : World) (hmr : ModsRow w.heap.size w (.slice am nm cm) ms) (hw : Words w.heap.size w (.slice a n c) l) (hfew : Few l) (hnm : nm ≤ 100000) (hmx : Mx w) :
    Calls Tryz.prog 9 #[.slice am nm cm, .slice a n c] w fun e w' => DonePost w (foldG gs l) e w' := by
  have hnl := hw.len
  have hnml : nm = ms.length := by obtain ⟨_, _, e1, _⟩ := hmr; simp only [Value.slice.injEq] at e1; exact e1.2.1
  have HFw : Hid (Calls Tryz.prog 13 #[.slice a n c] w fun e w' => e = .returned (.bool true) ∧ w = w') := by
    have := few_any a n c l w.heap.size w hw (by have := hfew.1; omega) (fun y hy => by have := size_mem hy; have := hfew.2; omega)
    rw [decide_eq_true ⟨by rw [hnl]; exact hfew.1, hfew.2⟩] at this; exact this
  have HCl : Hid (Calls Tryz.prog 14 #[.slice a n c] w fun e w' => ∃ v', e = .returned v' ∧ w'.ownsRow w.heap.size 9 1 v' l.length (l.map Value.string) ∧ Below w.heap.size w w') := by
    cases a with
    | none =>
      refine (Tryz.slices_Clone_string_nil n c w).mono ?_
      rintro e w' ⟨rfl, rfl⟩
      have hl0 : l = [] := by
        by_cases hne : l = []
        · exact hne
        · obtain ⟨b, o, _, e, _⟩ := hw.at hne; cases e
      refine ⟨_, rfl, ?_, Below.refl _ _⟩
      rw [hl0]; exact World.ownsRow_nil _ _ _ _
    | some ad =>
      by_cases hne : l = []
      · subst hne
        obtain rfl : n = 0 := by simpa using hnl
        refine (Tryz.slices_Clone_string_zero ad c w).mono ?_
        rintro e w' ⟨v', rfl, h1, _, h3⟩
        exact ⟨v', rfl, h1, h3⟩
      · obtain ⟨b, o, c', e, hb, hc⟩ := hw.at hne
        simp only [Value.slice.injEq, Option.some.injEq] at e
        obtain ⟨rfl, rfl, rfl⟩ := e
        refine (Tryz.slices_Clone_string b o l.length c l w (Nat.le_refl _) (by have := hfew.1; omega) (fun j hj => ?_)).mono ?_
        · rw [hc j hj, List.getD_eq_getElem?_getD, List.getElem?_eq_getElem hj]; rfl
        · rintro e w' ⟨v', rfl, h1, _, h3⟩
          rw [List.take_length] at h1
          exact ⟨v', rfl, h1, h3⟩
  have HM : Hid (∀ W, Below w.heap.size w W → Mx W) := fun W hB => hmx.below hB hmx.pos
  have HP0 : Hid (0 < w.heap.size) := hmx.pos
  have HMR : Hid (∀ W, Below w.heap.size w W → ModsRow w.heap.size W (.slice am nm cm) ms) := fun W hB => hmr.below hB
  have HG : Hid (AllApply ms gs) := hg
  have HF0 : Hid (Few l) := hfew
  obtain ⟨R, hR⟩ : ∃ R, R = foldG gs l := ⟨_, rfl⟩
  rw [← hR]
  have HR : Hid (R = foldG gs l) := hR
  have HN : Hid (nm = ms.length) := hnml
  clear hnl hnml hw hfew hmx hR hmr hg
  go_enter Tryz.func9, Tryz.ntmps9
  go_wp2_with fail
  refine HFw.out.mono ?_
  rintro e w' ⟨rfl, rfl⟩
  go_wp2_with fail
  refine HCl.out.mono ?_
  rintro e w1 ⟨v1, rfl, ho1, hb1⟩
  have H1 : Hid (w1.ownsRow w.heap.size 9 1 v1 l.length (l.map Value.string) ∧ Below w.heap.size w w1) := ⟨ho1, hb1⟩
  clear ho1 hb1
  go_wp2
  go_loopw [6, 17] (fun v6 vi wr => ∃ (k : Nat) (r : List ByteArray), k ≤ nm ∧ vi = .int .i64 k ∧ Hid (R = foldG (gs.drop k) r ∧ Few r) ∧ wr.ownsRow w.heap.size 9 1 v6 r.length (r.map Value.string) ∧ Hid (Below w.heap.size w wr)) (fun _ vi _ => nm - (intOf vi).toNat)
  case atStart => exact ⟨0, l, Nat.zero_le _, rfl, ⟨HR.out, HF0.out⟩, H1.out.1, H1.out.2⟩
  case round =>
    obtain ⟨k, r, hk, rfl, HRk, hrow, HB⟩ := hrel
    obtain ⟨a6, c6, hv6⟩ := owns_slice hrow
    subst hv6
    by_cases hlt : k < nm
    · have hil : (k : Int) < (nm : Int) := by omega
      have hkl : k < ms.length := by rw [← HN.out]; exact hlt
      have hkg : k < gs.length := by rw [← HG.out.1]; exact hkl
      obtain ⟨am', cm', e0, e1⟩ := HMR.out _ HB.out
      simp only [Value.slice.injEq] at e0
      obtain ⟨g, o, e2, e3, e4⟩ := e1 k hkl
      obtain rfl : am = some ⟨g, o, none⟩ := by rw [e0.1, e2]
      have HAp := HG.out.2 k hkl hkg
      have HRn : Hid (R = (gs[k] r).bind (foldG (gs.drop (k + 1)))) := by
        unfold Hid; rw [HRk.out.1, List.drop_eq_getElem_cons hkg]; rfl
      obtain ⟨m, hm⟩ : ∃ m, m = ms[k] := ⟨_, rfl⟩
      obtain ⟨gk, hgk⟩ : ∃ gk, gk = gs[k] := ⟨_, rfl⟩
      rw [← hm] at e4 HAp
      rw [← hgk] at HAp HRn
      have HA : Hid (Applies m gk) := HAp
      clear e0 e1 e2 HAp hm hgk hkl hkg
      obtain ⟨kind, ma, mb, bg, en, ex, al, on, mks, ots, frm, upto⟩ := m
      dsimp only [Md.cells] at e4
      have q0 := e4 0 _ rfl
      have q1 := e4 1 _ rfl
      have q2 := e4 2 _ rfl
      have q3 := e4 3 _ rfl
      have q4 := e4 4 _ rfl
      have q5 := e4 5 _ rfl
      have q6 := e4 6 _ rfl
      have q7 := e4 7 _ rfl
      have q8 := e4 8 _ rfl
      have q9 := e4 9 _ rfl
      have q10 := e4 10 _ rfl
      have q11 := e4 11 _ rfl
      clear e4
      rw [Nat.add_zero] at q0
      have HC : Hid (∀ W, W.ownsRow w.heap.size 9 1 (.slice a6 r.length c6) r.length (r.map Value.string) → Below w.heap.size w W → _) := fun W h1 h2 => HA.out.2 w.heap.size (.slice a6 r.length c6) r W h1 HRk.out.2 (HM.out _ h2) HP0.out h2.size
      go_wp2_with fail
      refine (HC.out _ (hrow.alloc _) (HB.out.alloc HB.out.size _)).mono ?_
      rintro e w2 ⟨hb2, hm2⟩
      have HB2 : Hid (Below w.heap.size w w2) := (HB.out.alloc HB.out.size _).trans hb2
      clear hb2
      cases hgr : gk r with
      | none =>
        rw [hgr] at hm2
        subst hm2
        have HRN : Hid (R = none) := by unfold Hid; rw [HRn.out, hgr]; rfl
        go_wp2
        go_ret2
        refine ⟨HB2.out, ?_⟩
        rw [HRN.out]; rfl
      | some r2 =>
        rw [hgr] at hm2
        obtain ⟨v2, rfl, ho2⟩ := hm2
        have HR2 : Hid (R = foldG (gs.drop (k + 1)) r2 ∧ Few r2) := ⟨by rw [HRn.out, hgr]; rfl, HA.out.1 r r2 HRk.out.2 hgr⟩
        have HO2 : Hid (w2.ownsRow w.heap.size 9 1 v2 r2.length (r2.map Value.string)) := ho2
        clear ho2
        go_wp2
        go_roundw
        case rel => exact ⟨k + 1, r2, by omega, by go_num, HR2, HO2.out, HB2⟩
        case measure => simp [intOf]; omega
    · obtain rfl : k = nm := by omega
      have hil : ¬ (k : Int) < (k : Int) := by omega
      have HRS : Hid (R = some r) := by unfold Hid; rw [HRk.out.1, List.drop_of_length_le (by rw [← HG.out.1, ← HN.out]; exact Nat.le_refl _)]; rfl
      have HO : Hid (wr.ownsRow w.heap.size 9 1 (.slice a6 r.length c6) r.length (r.map Value.string)) := hrow
      clear hrow
      go_wp2
      go_ret2
      refine ⟨HB.out, ?_⟩
      rw [HRS.out]
      exact ⟨_, rfl, HO.out⟩
theorem modsRow_of {base : Nat} {W : World} {v : Value} {ms : List Md} (h : W.ownsRow base 45 12 v ms.length (modsV ms)) : ModsRow W.heap.size W v ms := by
  obtain ⟨a, c, rfl⟩ := owns_slice h
  refine ⟨a, c, rfl, fun k hk => ?_⟩
  obtain ⟨hxl, ⟨hv, hn⟩ | ⟨g, cap, cur, hv, hg, hcur, hcap, hcm, hcs, hct⟩⟩ := h
  · omega
  · simp only [Value.slice.injEq] at hv
    have hgl : g < W.heap.size := (Array.getElem?_eq_some_iff.1 hcur).1
    refine ⟨g, 0, hv.1, hgl, fun i u hu => ?_⟩
    have hi12 : i < 12 := by
      have := (Array.getElem?_eq_some_iff.1 hu).1
      exact this
    have hmv : (modsV ms)[k * 12 + i]? = some u := modsV_get ms k i hk hi12 u hu
    have hlt : k * 12 + i < ms.length * 12 := by
      have : (k + 1) * 12 ≤ ms.length * 12 := Nat.mul_le_mul_right _ hk
      omega
    rw [← hct, List.getElem?_take_of_lt hlt] at hmv
    simp only [World.cell?, hcur, Nat.zero_add]
    simpa using hmv
end Go.Proofs.YtpcpcfnmcfjomaaGreatDoor
namespace Go.Proofs.YtpcpcfnmcfjomaaGreatDoor
open Go.RowKit Go.Shelf
set_option maxRecDepth 20000 in
set_option maxHeartbeats 3200000 in
theorem All_ok (s : ByteArray) (ms : List Md) (gs : List (List ByteArray → Option (List ByteArray))) (hg : AllApply ms gs) (hs : s.size ≤ 1000000) (h1 : 1 ≤ s.size) (hc : Chain s 0 ms) (hl : ms.length ≤ 32) (a : Option Addr) (n c : Nat) (l : List ByteArray) (w : World) (hw : Words w.heap.size w (.slice a n c) l) (hfew : Few l) (hmx : Mx w) :
    Calls Tryz.prog 5 #[.string s, .slice a n c] w fun e w' => DonePost w (foldG gs l) e w' := by
  have HP : Hid (Calls Tryz.prog 8 #[.string s] w fun e w' => ∃ v, e = .returned (.tuple #[v, .agg #[.int .i64 0, .int .i64 0]]) ∧ w'.ownsRow w.heap.size 45 12 v ms.length (modsV ms) ∧ Below w.heap.size w w') := parse_ok s ms w hs h1 hc hl hmx
  have HA : Hid (∀ am cm W, ModsRow W.heap.size W (.slice am ms.length cm) ms → Below w.heap.size w W → Calls Tryz.prog 9 #[.slice am ms.length cm, .slice a n c] W fun e w' => DonePost W (foldG gs l) e w') := fun am cm W hm hB =>
    Apply_any ms gs hg am ms.length cm a n c l W hm ((hw.below hB).mono hB.size) hfew (by omega) (hmx.below hB hmx.pos)
  obtain ⟨R, hR⟩ : ∃ R, R = foldG gs l := ⟨_, rfl⟩
  rw [← hR] at HA ⊢
  obtain ⟨nm, hnm⟩ : ∃ nm, nm = ms.length := ⟨_, rfl⟩
  rw [← hnm] at HA HP
  have HN : Hid (nm = ms.length) := hnm
  clear hg hc hw hfew hmx hR hs h1 hl hnm
  go_enter Tryz.func5, Tryz.ntmps5
  go_wp2_with fail
  refine HP.out.mono ?_
  rintro e w1 ⟨v, rfl, ho, hb⟩
  obtain ⟨am, cm, rfl⟩ := owns_slice ho
  have HM : Hid (∀ W, Below w1.heap.size w1 W → ModsRow W.heap.size W (.slice am nm cm) ms) := fun W hB => by
    have h2 := modsRow_of (ms := ms) (by rw [← HN.out]; exact ho)
    obtain ⟨a', c', e1, e2⟩ := h2.below hB
    refine ⟨a', c', e1, fun k hk => ?_⟩
    obtain ⟨g, o, f1, f2, f3⟩ := e2 k hk
    exact ⟨g, o, f1, Nat.lt_of_lt_of_le f2 hB.size, f3⟩
  have HB : Hid (Below w.heap.size w w1) := hb
  clear ho hb
  go_wp2_with fail
  refine (HA.out am cm _ (HM.out _ ((Below.refl _ _).alloc (Nat.le_refl _) _)) (HB.out.alloc HB.out.size _)).mono ?_
  rintro e w2 ⟨hb2, hm2⟩
  have HB2 : Hid (Below w.heap.size w w2 ∧ w.heap.size ≤ (w1.alloc (.cells #[.int .i64 0, .int .i64 0] 35)).heap.size) := ⟨(HB.out.alloc HB.out.size _).trans (hb2.mono ((HB.out.alloc HB.out.size _).size)), (HB.out.alloc HB.out.size _).size⟩
  clear hb2
  cases R with
  | none =>
    dsimp only at hm2
    subst hm2
    go_wp2
    go_ret2
    exact ⟨HB2.out.1, rfl⟩
  | some r =>
    obtain ⟨v2, rfl, ho2⟩ := hm2
    have HO : Hid (w2.ownsRow w.heap.size 9 1 v2 r.length (r.map Value.string)) := owns_base ho2 HB2.out.2
    clear ho2
    go_wp2
    go_ret2
    exact ⟨HB2.out.1, v2, rfl, HO.out⟩
end Go.Proofs.YtpcpcfnmcfjomaaGreatDoor
