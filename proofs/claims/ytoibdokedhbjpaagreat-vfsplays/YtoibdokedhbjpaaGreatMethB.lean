/-
  What New, Touch, Mkdir, Clock, Later and Notes answer and leave.
-/
import Derived.Test.YtoibdokedhbjpaaGreatMethA
namespace Go.Proofs.YtoibdokedhbjpaaGreat
open Go.RowKit Go.Shelf Go.Maps

section
variable {base b m : Nat} {v : Value} {s : St}

theorem dir_ok {s : St} (o : s.Ok) {q : ByteArray} (hw : wh q = some q) (hs : q.size ≤ 1100000) (hl : (s.L.look q).isSome = true ∨ s.L.length < 512) : St.Ok { s with now := s.now + 1, L := s.L.set q ⟨E, s.now + 1, true⟩ } := by
  have hu := Fs.used_set s.L q ⟨E, s.now + 1, true⟩
  have h1 := o.used
  refine ok_set (ok_now o (x := s.now + 1) (by omega)) hw hs (Int.le_refl _) hl ?_
  show ((s.L.set q ⟨E, s.now + 1, true⟩).used : Int) ≤ s.room
  have e0 : (E : ByteArray).size = 0 := rfl
  simp only [e0] at hu
  omega

set_option maxRecDepth 20000 in
set_option maxHeartbeats 400000 in
theorem touch_any (p : ByteArray) (w : World) (h : Store base b m v s w) (hp : p.size ≤ 1048577) (hn : s.now ≤ 2000000000000000000) :
    Calls Tryz.prog 26 #[ptr b, .string p] w fun e w' => e = .returned (.int .i64 (s.touch p).2) ∧ ∃ v', Store base b m v' (s.touch p).1 w' ∧ Turn b m v v' w w' := by
  have HP : Hid (Calls Tryz.prog 40 #[ptr b, .string p] w fun e w' => e = .returned (placeV (wh p)) ∧ Below w.heap.size w w') := place_any p w h (by omega)
  have HS : Hid (∀ W, Below w.heap.size w W → Store base b m v s W) := fun W hB => h.below hB
  unfold St.touch
  cases hw : wh p with
  | none =>
    rw [hw] at HP
    unfold placeV at HP
    clear hw h
    go_enter Tryz.func26, Tryz.ntmps26
    go_wp2_with fail
    refine HP.out.mono ?_
    rintro e w1 ⟨rfl, hb1⟩
    go_wp2
    go_ret
    exact ⟨rfl, v, HS.out _ hb1, Turn.of_below hb1⟩
  | some q =>
    rw [hw] at HP
    unfold placeV at HP
    have hqs := wh_size hw
    have hts : (gotE s.L q).text.size ≤ 1048576 := by have h1 := got_size s.L q; have h2 := h.ok.used; have h3 := h.ok.room1; omega
    have HU : Hid (∀ W, Store base b m v s W → Calls Tryz.prog 51 #[ptr b, .string q, .string (gotE s.L q).text, .string ⟨#[]⟩] W fun e w' => e = .returned (.int .i64 (s.put q (s.text q)).2) ∧ ∃ v', Store base b m v' (s.put q (s.text q)).1 w' ∧ Turn b m v v' W w') := fun W hW => by
      have := put_any q (gotE s.L q).text E W hW (wh_wh hw) (by omega) (by omega) (by decide) hn
      rw [app_E, got_text] at this
      rw [got_text]
      exact this
    have HQ : Hid (∀ W, Below w.heap.size w W → (Instr.lookup 61 (.map (some m)) (.string q) false).run Tryz.prog W = .ok (.agg #[.string (gotE s.L q).text, .int .i64 (gotE s.L q).time, .bool (gotE s.L q).dir]) W) := fun W hB => h.map.see1 (by omega) W (hB.block m h.ltm)
    have HD : Hid (s.L.isDir q = (gotE s.L q).dir) := by
      unfold Hid gotE Fs.isDir; cases s.L.look q <;> rfl
    dsimp only
    rw [HD.out]
    clear HD
    have hok : (gotE s.L q).dir = true → St.Ok { s with now := s.now + 1, L := s.L.set q ⟨E, s.now + 1, true⟩ } := fun hd => dir_ok h.ok (wh_wh hw) (by omega) (.inl (by
      unfold gotE at hd
      cases hl : s.L.look q with
      | none => rw [hl] at hd; cases hd
      | some o => rfl))
    obtain ⟨e0, he0⟩ : ∃ e0, e0 = gotE s.L q := ⟨_, rfl⟩
    rw [← he0] at HU HQ hok ⊢
    obtain ⟨tx, tm, td⟩ := e0
    simp only at HU HQ hok ⊢
    clear hw he0 h hts
    cases td with
    | true =>
      try simp only [if_true]
      have HT : Hid (∀ W, Store base b m v s W → Calls Tryz.prog 52 #[ptr b] W fun e w' => e = .returned (.int .i64 (s.now + 1)) ∧ Store base b m v { s with now := s.now + 1 } w' ∧ Turn b m v v W w') := fun W h => tick_st W h hn
      have HUp : Hid (∀ W, Store base b m v { s with now := s.now + 1 } W → ∃ W', (Instr.mapUpdate 61 (.map (some m)) (.string q) (.agg #[.string ⟨#[]⟩, .int .i64 (s.now + 1), .bool true])).run Tryz.prog W = .ok () W' ∧ Store base b m v { s with now := s.now + 1, L := s.L.set q ⟨E, s.now + 1, true⟩ } W' ∧ Turn b m v v W W') :=
        fun W hW => hW.put (by omega) ⟨E, s.now + 1, true⟩ (hok rfl)
      obtain ⟨t1, ht1⟩ : ∃ t1, t1 = s.now + 1 := ⟨_, rfl⟩
      obtain ⟨s1, hs1⟩ : ∃ s1 : St, s1 = { s with now := s.now + 1 } := ⟨_, rfl⟩
      obtain ⟨s2, hs2⟩ : ∃ s2 : St, s2 = { s with now := s.now + 1, L := s.L.set q ⟨E, s.now + 1, true⟩ } := ⟨_, rfl⟩
      rw [← hs1, ← hs2, ← ht1] at HUp
      rw [← hs1, ← ht1] at HT
      rw [← hs2]
      clear hok hs1 hs2 ht1 HU
      go_enter Tryz.func26, Tryz.ntmps26
      go_wp2_with fail
      refine HP.out.mono ?_
      rintro e w1 ⟨rfl, hb1⟩
      have hst1 := HS.out w1 hb1
      have c3 := hst1.c3
      have hlk := HQ.out w1 hb1
      have HS1 : Hid (Store base b m v s (w1.alloc (.cells #[.string tx, .int .i64 tm, .bool true] 60)).drew ∧ Turn b m v v w (w1.alloc (.cells #[.string tx, .int .i64 tm, .bool true] 60))) := ⟨(hst1.below ((Below.refl _ _).alloc (Nat.le_refl _) _)).drew, Turn.of_below (hb1.alloc hb1.size _)⟩
      clear hst1 hb1
      go_wp2
      go_region_held3 (fun W => W.cell? ⟨b, 3, none⟩ = some (.map (some m)))
        (first | exact HS1.out.1.c3 | exact Store.c3 (by assumption))
        (first | (go_at_call 52; refine (HT.out _ HS1.out.1).mono ?_; rintro e w3 ⟨rfl, hst3, htn3⟩; obtain ⟨w4, hup, hst4, htn4⟩ := HUp.out w3 hst3))
      have HE : Hid (Store base b m v s2 w4 ∧ Turn b m v v w w4) := ⟨hst4, HS1.out.2.trans ((Turn.of_below (Below.refl _ _).drew).trans (htn3.trans htn4))⟩
      clear hup hst3 htn3 hst4 htn4 HS1 c3 hlk
      go_wp2
      go_ret
      exact ⟨rfl, v, HE.out.1, HE.out.2⟩
    | false =>
      try simp only [Bool.false_eq_true, if_false]
      clear hok
      go_enter Tryz.func26, Tryz.ntmps26
      go_wp2_with fail
      refine HP.out.mono ?_
      rintro e w1 ⟨rfl, hb1⟩
      have hst1 := HS.out w1 hb1
      have c3 := hst1.c3
      have hlk := HQ.out w1 hb1
      have HS1 : Hid (Store base b m v s w1 ∧ Below w.heap.size w w1) := ⟨hst1, hb1⟩
      clear hst1 hb1
      go_wp2_with fail
      refine (HU.out _ (HS1.out.1.below ((Below.refl _ _).alloc (Nat.le_refl _) _))).mono ?_
      rintro e w2 ⟨rfl, v', hst2, ht2⟩
      have HE : Hid (Store base b m v' (s.put q (s.text q)).1 w2 ∧ Turn b m v v' w w2) := ⟨hst2, (Turn.of_below (HS1.out.2.alloc HS1.out.2.size _)).trans ht2⟩
      clear hst2 ht2 c3 hlk
      go_wp2
      go_ret
      exact ⟨rfl, v', HE.out.1, HE.out.2⟩

set_option maxRecDepth 20000 in
set_option maxHeartbeats 400000 in
theorem mkdir_any (p : ByteArray) (w : World) (h : Store base b m v s w) (hp : p.size ≤ 1048577) (hn : s.now ≤ 2000000000000000000) :
    Calls Tryz.prog 31 #[ptr b, .string p] w fun e w' => e = .returned (.int .i64 (s.mkdir p).2) ∧ ∃ v', Store base b m v' (s.mkdir p).1 w' ∧ Turn b m v v' w w' := by
  have HP : Hid (Calls Tryz.prog 40 #[ptr b, .string p] w fun e w' => e = .returned (placeV (wh p)) ∧ Below w.heap.size w w') := place_any p w h (by omega)
  have HS : Hid (∀ W, Below w.heap.size w W → Store base b m v s W) := fun W hB => h.below hB
  unfold St.mkdir
  cases hw : wh p with
  | none =>
    rw [hw] at HP
    unfold placeV at HP
    clear hw h
    go_enter Tryz.func31, Tryz.ntmps31
    go_wp2_with fail
    refine HP.out.mono ?_
    rintro e w1 ⟨rfl, hb1⟩
    go_wp2
    go_ret
    exact ⟨rfl, v, HS.out _ hb1, Turn.of_below hb1⟩
  | some q =>
    rw [hw] at HP
    unfold placeV at HP
    have hqs := wh_size hw
    have HQ : Hid (∀ W, Below w.heap.size w W → (Instr.lookup 61 (.map (some m)) (.string q) true).run Tryz.prog W = .ok (.tuple #[.agg #[.string (gotE s.L q).text, .int .i64 (gotE s.L q).time, .bool (gotE s.L q).dir], .bool (s.L.look q).isSome]) W) := fun W hB => h.map.see (by omega) W (hB.block m h.ltm)
    have HL : Hid (∀ W, Below w.heap.size w W → Calls Tryz.prog 54 #[ptr b, .string q] W fun e w' => e = .returned (.int .i64 (s.home q)) ∧ Below W.heap.size W w') := fun W hB => mayLie_any q W (h.below hB) (by omega)
    have HCt : Hid (∀ W, Below w.heap.size w W → ∀ ty, (Builtin.len_ #[61] ty #[.map (some m)]).run Tryz.prog W = .ok (.int .i64 s.L.length) W) := fun W hB ty => h.map.count W (hB.block m h.ltm) ty
    have hok : s.L.length < 512 → St.Ok { s with now := s.now + 1, L := s.L.set q ⟨E, s.now + 1, true⟩ } := fun hl => dir_ok h.ok (wh_wh hw) (by omega) (.inr hl)
    have hl5 := h.ok.len
    obtain ⟨e0, he0⟩ : ∃ e0, e0 = gotE s.L q := ⟨_, rfl⟩
    obtain ⟨t0, ht0⟩ : ∃ t0, t0 = (s.L.look q).isSome := ⟨_, rfl⟩
    obtain ⟨ho, hho⟩ : ∃ ho, ho = s.home q := ⟨_, rfl⟩
    obtain ⟨len, hlen⟩ : ∃ len, len = s.L.length := ⟨_, rfl⟩
    dsimp only
    rw [← hho] at HL ⊢
    rw [← hlen] at HCt hok hl5 ⊢
    rw [← he0, ← ht0] at HQ
    rw [← ht0]
    obtain ⟨tx, tm, td⟩ := e0
    simp only at HQ
    clear hw he0 ht0 hho hlen h
    cases t0 with
    | true =>
      try simp only [if_true]
      go_enter Tryz.func31, Tryz.ntmps31
      go_wp2_with fail
      refine HP.out.mono ?_
      rintro e w1 ⟨rfl, hb1⟩
      have c3 := (HS.out w1 hb1).c3
      have hlk := HQ.out w1 hb1
      go_wp2
      go_ret
      exact ⟨rfl, v, HS.out _ (hb1.alloc hb1.size _), Turn.of_below (hb1.alloc hb1.size _)⟩
    | false =>
      try simp only [Bool.false_eq_true, if_false]
      by_cases h0 : ho = 0
      · subst h0
        rw [if_neg (by simp)]
        by_cases hfull : 512 ≤ len
        · rw [if_pos hfull]
          have hfi : (512 : Int) ≤ (len : Int) := by omega
          go_enter Tryz.func31, Tryz.ntmps31
          go_wp2_with fail
          refine HP.out.mono ?_
          rintro e w1 ⟨rfl, hb1⟩
          have c3 := (HS.out w1 hb1).c3
          have hlk := HQ.out w1 hb1
          have HB1 : Hid (Below w.heap.size w w1) := hb1
          clear hb1
          go_wp2_with fail
          refine (HL.out _ (HB1.out.alloc HB1.out.size _)).mono ?_
          rintro e w2 ⟨rfl, hb2⟩
          have hbb : Below w.heap.size w w2 := (HB1.out.alloc HB1.out.size _).trans (hb2.mono (by have := HB1.out.size; simp; omega))
          have d3 := (HS.out w2 hbb).c3
          have hct := HCt.out w2 hbb
          clear hb2 c3 hlk
          go_wp2
          go_ret
          exact ⟨rfl, v, HS.out _ hbb, Turn.of_below hbb⟩
        · rw [if_neg hfull]
          have hfi : ¬ (512 : Int) ≤ (len : Int) := by omega
          have HT : Hid (∀ W, Store base b m v s W → Calls Tryz.prog 52 #[ptr b] W fun e w' => e = .returned (.int .i64 (s.now + 1)) ∧ Store base b m v { s with now := s.now + 1 } w' ∧ Turn b m v v W w') := fun W h => tick_st W h hn
          have HUp : Hid (∀ W, Store base b m v { s with now := s.now + 1 } W → ∃ W', (Instr.mapUpdate 61 (.map (some m)) (.string q) (.agg #[.string ⟨#[]⟩, .int .i64 (s.now + 1), .bool true])).run Tryz.prog W = .ok () W' ∧ Store base b m v { s with now := s.now + 1, L := s.L.set q ⟨E, s.now + 1, true⟩ } W' ∧ Turn b m v v W W') :=
            fun W hW => hW.put (by omega) ⟨E, s.now + 1, true⟩ (hok (by omega))
          obtain ⟨t1, ht1⟩ : ∃ t1, t1 = s.now + 1 := ⟨_, rfl⟩
          obtain ⟨s1, hs1⟩ : ∃ s1 : St, s1 = { s with now := s.now + 1 } := ⟨_, rfl⟩
          obtain ⟨s2, hs2⟩ : ∃ s2 : St, s2 = { s with now := s.now + 1, L := s.L.set q ⟨E, s.now + 1, true⟩ } := ⟨_, rfl⟩
          rw [← hs1, ← hs2, ← ht1] at HUp
          rw [← hs1, ← ht1] at HT
          rw [← hs2]
          clear hok hs1 hs2 ht1
          go_enter Tryz.func31, Tryz.ntmps31
          go_wp2_with fail
          refine HP.out.mono ?_
          rintro e w1 ⟨rfl, hb1⟩
          have c3 := (HS.out w1 hb1).c3
          have hlk := HQ.out w1 hb1
          have HB1 : Hid (Below w.heap.size w w1) := hb1
          clear hb1
          go_wp2_with fail
          refine (HL.out _ (HB1.out.alloc HB1.out.size _)).mono ?_
          rintro e w2 ⟨rfl, hb2⟩
          have hbb : Below w.heap.size w w2 := (HB1.out.alloc HB1.out.size _).trans (hb2.mono (by have := HB1.out.size; simp; omega))
          have d3 := (HS.out w2 hbb).c3
          have hct := HCt.out w2 hbb
          have HS1 : Hid (Store base b m v s w2.drew ∧ Turn b m v v w w2) := ⟨(HS.out w2 hbb).drew, Turn.of_below hbb⟩
          clear hb2 c3 hlk hbb
          go_wp2
          go_region_held3 (fun W => W.cell? ⟨b, 3, none⟩ = some (.map (some m)))
            (first | exact HS1.out.1.c3 | exact Store.c3 (by assumption))
            (first | (go_at_call 52; refine (HT.out _ HS1.out.1).mono ?_; rintro e w3 ⟨rfl, hst3, htn3⟩; obtain ⟨w4, hup, hst4, htn4⟩ := HUp.out w3 hst3))
          have HE : Hid (Store base b m v s2 w4 ∧ Turn b m v v w w4) := ⟨hst4, HS1.out.2.trans ((Turn.of_below (Below.refl _ _).drew).trans (htn3.trans htn4))⟩
          clear hup hst3 htn3 hst4 htn4 HS1 d3 hct
          go_wp2
          go_ret
          exact ⟨rfl, v, HE.out.1, HE.out.2⟩
      · rw [if_pos h0]
        have h0' : (ho == 0) = false := by simpa using h0
        go_enter Tryz.func31, Tryz.ntmps31
        go_wp2_with fail
        refine HP.out.mono ?_
        rintro e w1 ⟨rfl, hb1⟩
        have c3 := (HS.out w1 hb1).c3
        have hlk := HQ.out w1 hb1
        have HB1 : Hid (Below w.heap.size w w1) := hb1
        clear hb1
        go_wp2_with fail
        refine (HL.out _ (HB1.out.alloc HB1.out.size _)).mono ?_
        rintro e w2 ⟨rfl, hb2⟩
        have hbb : Below w.heap.size w w2 := (HB1.out.alloc HB1.out.size _).trans (hb2.mono (by have := HB1.out.size; simp; omega))
        clear hb2 c3 hlk
        go_wp2
        go_ret
        exact ⟨rfl, v, HS.out _ hbb, Turn.of_below hbb⟩

set_option maxRecDepth 20000 in
set_option maxHeartbeats 400000 in
theorem clock_any (w : World) (h : Store base b m v s w) :
    Calls Tryz.prog 17 #[ptr b] w fun e w' => e = .returned (.int .i64 s.now) ∧ w' = w := by
  have HR : Hid (Calls Tryz.prog 27 #[ptr b] w fun e w' => e = .returned (.bool true) ∧ w = w') := (ready_any w h).mono fun e w' h => ⟨h.1, h.2.symm⟩
  have HA : Hid (Calls Tryz.prog 43 #[.pointer (some ⟨b, 2, none⟩)] w fun e w' => e = .returned (.int .i64 s.now) ∧ w = w') := (aload_any w h.c2).mono fun e w' h => ⟨h.1, h.2.symm⟩
  clear h
  go_enter Tryz.func17, Tryz.ntmps17
  go_wp2_with fail
  refine HR.out.mono ?_
  rintro e w' ⟨rfl, rfl⟩
  go_wp2_with fail
  refine HA.out.mono ?_
  rintro e w' ⟨rfl, rfl⟩
  go_wp2
  go_ret
  exact ⟨rfl, rfl⟩
end
end Go.Proofs.YtoibdokedhbjpaaGreat
