/-
  QB2 QE4
-/
import Derived.Test.YtpcpcfnmcfjomaaGreatDoorK36
namespace Go.Proofs.YtpcpcfnmcfjomaaGreatDoor
open Go.RowKit Go.Shelf Go.Sort
def ApplyU (R : Option (List ByteArray)) (ms : List Md) (us : List Um) (lo : Nat) (w : World) (e : Ending) (w' : World) : Prop := X.Fr (DD ms) w w' ∧ Held lo w' ms us ∧ match R with
  | none => e = .returned (.tuple #[.slice none 0 0, .int .i64 5])
  | some r => ∃ v', e = .returned (.tuple #[v', .int .i64 0]) ∧ OwnW w.heap.size w' v' r
open Classical in
noncomputable def appL (us : List Um) (l : List ByteArray) : Option (List ByteArray) := if Few l then foldG (us.map semU) l else none
theorem clone_any (a : Option Addr) (n c : Nat) (l : List ByteArray) (w : World) (hw : Words w.heap.size w (.slice a n c) l) (hfew : Few l) : Calls Tryz.prog 14 #[.slice a n c] w fun e w' => ∃ v', e = .returned v' ∧ OwnW w.heap.size w' v' l ∧ Below w.heap.size w w' := by
  have hnl := hw.len
  cases a with
  | none =>
    refine (Tryz.slices_Clone_string_nil n c w).mono ?_
    rintro e w' ⟨rfl, rfl⟩
    have hl0 : l = [] := by
      by_cases hne : l = []
      · exact hne
      · obtain ⟨b, o, _, e, _⟩ := hw.at hne; cases e
    exact ⟨_, rfl, .inl ⟨rfl, hl0⟩, Below.refl _ _⟩
  | some ad =>
    by_cases hne : l = []
    · subst hne
      obtain rfl : n = 0 := by simpa using hnl
      refine (Tryz.slices_Clone_string_zero ad c w).mono ?_
      rintro e w' ⟨v', rfl, h1, _, h3⟩
      exact ⟨v', rfl, OwnW.of_owns (l := []) h1, h3⟩
    · obtain ⟨b, o, c', e, hb, hc⟩ := hw.at hne
      simp only [Value.slice.injEq, Option.some.injEq] at e
      obtain ⟨rfl, rfl, rfl⟩ := e
      refine (Tryz.slices_Clone_string b o l.length c l w (Nat.le_refl _) (by have := hfew.1; omega) (fun j hj => ?_)).mono ?_
      · rw [hc j hj, List.getD_eq_getElem?_getD, List.getElem?_eq_getElem hj]; rfl
      · rintro e w' ⟨v', rfl, h1, _, h3⟩
        rw [List.take_length] at h1
        exact ⟨v', rfl, OwnW.of_owns h1, h3⟩
theorem few_is (a : Option Addr) (n c : Nat) (l : List ByteArray) (B : Nat) (w : World) (h : Words B w (.slice a n c) l) (hn : n ≤ 1000000) (hs : ∀ y ∈ l, y.size ≤ 1000000) (b : Bool) (hb : b = true ↔ Few l) : Calls Tryz.prog 13 #[.slice a n c] w fun e w' => e = .returned (.bool b) ∧ w = w' := by
  have := few_any a n c l B w h hn hs
  have hnl := h.len
  have e : decide (n ≤ 4096 ∧ sizeL l ≤ 65536) = b := by
    rw [Bool.eq_iff_iff, hb, decide_eq_true_eq, hnl]; rfl
  rw [e] at this
  exact this
set_option maxRecDepth 20000 in
set_option maxHeartbeats 800000 in
theorem apply_over (v0 : Value) (a : Option Addr) (n c : Nat) (l : List ByteArray) (w : World) (hw : Words w.heap.size w (.slice a n c) l) (hn : n ≤ 1000000) (hs : ∀ y ∈ l, y.size ≤ 1000000) (hfew : ¬ Few l) :
    Calls Tryz.prog 9 #[v0, .slice a n c] w fun e w' => e = .returned (.tuple #[.slice none 0 0, .int .i64 5]) ∧ w = w' := by
  have HFw : Hid (Calls Tryz.prog 13 #[.slice a n c] w fun e w' => e = .returned (.bool false) ∧ w = w') := few_is a n c l _ w hw hn hs false ⟨(fun h => nomatch h), fun h => absurd h hfew⟩
  clear hw hn hs hfew
  go_enter Tryz.func9, Tryz.ntmps9
  go_wp2_with fail
  refine HFw.out.mono ?_
  rintro e w' ⟨rfl, rfl⟩
  go_wp2
  go_ret2
  exact ⟨rfl, rfl⟩
set_option maxRecDepth 20000 in
set_option maxHeartbeats 3200000 in
theorem apply_few (ms : List Md) (us : List Um) (hgood : ∀ u ∈ us, AppliesU u (semU u)) (am : Option Addr) (nm cm : Nat) (a : Option Addr) (n c : Nat) (l : List ByteArray) (lo : Nat) (w : World) (hnm : nm = ms.length) (hmr : ModsT w am ms) (hh : Held lo w ms us) (hw : Words w.heap.size w (.slice a n c) l) (hfew : Few l) (hnb : nm ≤ 100000) (hG : Gz w) :
    Calls Tryz.prog 9 #[.slice am nm cm, .slice a n c] w (ApplyU (foldG (us.map semU) l) ms us lo w) := by
  have HFw : Hid (Calls Tryz.prog 13 #[.slice a n c] w fun e w' => e = .returned (.bool true) ∧ w = w') := few_is a n c l _ w hw (by have := hfew.1; have := hw.len; omega) (few_all hfew).2 true ⟨fun _ => hfew, fun _ => rfl⟩
  have HCl : Hid (Calls Tryz.prog 14 #[.slice a n c] w fun e w' => ∃ v', e = .returned v' ∧ OwnW w.heap.size w' v' l ∧ Below w.heap.size w w') := clone_any a n c l w hw hfew
  have HP0 : Hid (0 < w.heap.size) := hG.1.pos
  have HGz : Hid (∀ W, X.Fr (DD ms) w W → Gz W) := fun W hf => hh.gz hf hG
  have HMT : Hid (∀ W, X.Fr (DD ms) w W → ModsT W am ms) := fun W hf => hmr.fr hh hf
  have HGd : Hid (∀ u ∈ us, AppliesU u (semU u)) := hgood
  have HF0 : Hid (Few l) := hfew
  have HH0 : Hid (Held lo w ms us) := hh
  obtain ⟨R, hR⟩ : ∃ R, R = foldG (us.map semU) l := ⟨_, rfl⟩
  rw [← hR]
  have HR : Hid (R = foldG (us.map semU) l) := hR
  have HN : Hid (nm = ms.length ∧ ms.length = us.length) := ⟨hnm, hh.len⟩
  clear hnm hw hfew hR hmr hh hG hgood
  go_enter Tryz.func9, Tryz.ntmps9
  go_wp2_with fail
  refine HFw.out.mono ?_
  rintro e w' ⟨rfl, rfl⟩
  go_wp2_with fail
  refine HCl.out.mono ?_
  rintro e w1 ⟨v1, rfl, ho1, hb1⟩
  have H1 : Hid (OwnW w.heap.size w1 v1 l ∧ X.Fr (DD ms) w w1 ∧ Held lo w1 ms us) := ⟨ho1, .of_below hb1, HH0.out.below hb1⟩
  clear ho1 hb1
  go_wp2
  go_loopw [6, 17] (fun v6 vi wr => ∃ (k : Nat) (r : List ByteArray), k ≤ nm ∧ vi = .int .i64 k ∧ Hid (R = foldG ((us.map semU).drop k) r ∧ Few r) ∧ Hid (OwnW w.heap.size wr v6 r) ∧ Hid (X.Fr (DD ms) w wr ∧ Held lo wr ms us)) (fun _ vi _ => nm - (intOf vi).toNat)
  case atStart => exact ⟨0, l, Nat.zero_le _, rfl, ⟨HR.out, HF0.out⟩, H1.out.1, H1.out.2⟩
  case round =>
    obtain ⟨k, r, hk, rfl, HRk, HO, HB⟩ := hrel
    obtain ⟨a6, c6, hv6⟩ := HO.out.slice
    subst hv6
    by_cases hlt : k < nm
    · have hil : (k : Int) < (nm : Int) := by omega
      have hkl : k < ms.length := by rw [← HN.out.1]; exact hlt
      have hku : k < us.length := by rw [← HN.out.2]; exact hkl
      obtain ⟨g, o, cur, e1, e2, e3⟩ := HMT.out _ HB.out.1 k hkl
      subst e1
      have HAp := HGd.out us[k] (List.getElem_mem _)
      have HRn : Hid (R = (semU us[k] r).bind (foldG ((us.map semU).drop (k + 1)))) := by
        unfold Hid
        rw [HRk.out.1, List.drop_eq_getElem_cons (by rw [List.length_map]; exact hku), List.getElem_map]; rfl
      have HC : Hid (∀ W, Below wr.heap.size wr W → Calls Tryz.prog 15 #[.agg ms[k].cells, .slice a6 r.length c6] W fun e w' => ApPost (semU us[k] r) w.heap.size (.slice a6 r.length c6) ms[k] us[k] lo W e w') := fun W hB =>
        HAp.2 w.heap.size (.slice a6 r.length c6) r W ms[k] lo (HO.out.below hB) HRk.out.2 ((HGz.out _ HB.out.1).below hB) HP0.out (Nat.le_trans HB.out.1.size hB.size) (fits_below (HB.out.2.fit k hkl hku) hB)
      have HNx : Hid (∀ W w2, Below wr.heap.size wr W → X.Fr (ApD (.slice a6 r.length c6) ms[k]) W w2 → Fits ms[k] us[k] lo w2 → X.Fr (DD ms) w w2 ∧ Held lo w2 ms us) := fun W w2 hB hf hfit => by
        have hH := (HB.out.2.below hB).ap k hkl hku (HO.out.below hB) hf hfit
        refine ⟨⟨hf.os.trans (hB.os.trans HB.out.1.os), hf.tape.trans (hB.tape.trans HB.out.1.tape), hf.output.trans (hB.output.trans HB.out.1.output), Nat.le_trans HB.out.1.size (Nat.le_trans hB.size hf.size), fun j hj hd => ?_⟩, hH⟩
        have hj1 : j < wr.heap.size := Nat.lt_of_lt_of_le hj HB.out.1.size
        refine (hf.block j (Nat.lt_of_lt_of_le hj1 hB.size) (fun ha => ?_)).trans ((hB.block j hj1).trans (HB.out.1.block j hj hd))
        rcases ha with ha | ha
        · have := (HO.out.own ha).1; omega
        · exact hd ⟨ms[k], List.getElem_mem _, ha⟩
      have HFs : Hid (∀ r2, semU us[k] r = some r2 → Few r2) := fun r2 h2 => HAp.1 r r2 HRk.out.2 h2
      obtain ⟨m, hm⟩ : ∃ m, m = ms[k] := ⟨_, rfl⟩
      obtain ⟨u, hu⟩ : ∃ u, u = us[k] := ⟨_, rfl⟩
      rw [← hm] at e3 HC HNx
      rw [← hu] at HC HNx HRn HFs
      obtain ⟨Q, hQ⟩ : ∃ Q, Q = semU u r := ⟨_, rfl⟩
      rw [← hQ] at HC HRn HFs
      clear HAp hm hu hkl hku hQ
      obtain ⟨kind, ma, mb, bg, en, ex, al, on, mks, ots, frm, upto⟩ := m
      dsimp only [Md.cells] at e3 HC
      have hcl : ∀ i u, (mdV kind ma mb bg en ex al on mks ots frm upto)[i]? = some u → wr.cell? ⟨g, o + k * 12 + i, none⟩ = some u := fun i u hu => by
        have := e3 i u hu
        simp only [World.cell?, e2]
        simpa using this
      have q0 := hcl 0 _ rfl
      have q1 := hcl 1 _ rfl
      have q2 := hcl 2 _ rfl
      have q3 := hcl 3 _ rfl
      have q4 := hcl 4 _ rfl
      have q5 := hcl 5 _ rfl
      have q6 := hcl 6 _ rfl
      have q7 := hcl 7 _ rfl
      have q8 := hcl 8 _ rfl
      have q9 := hcl 9 _ rfl
      have q10 := hcl 10 _ rfl
      have q11 := hcl 11 _ rfl
      clear e2 e3 hcl
      rw [Nat.add_zero] at q0
      go_wp2_with fail
      refine (HC.out _ ((Below.refl _ wr).alloc (Nat.le_refl _) _)).mono ?_
      rintro e w2 ⟨hf2, hfit2, hm2⟩
      have HB2 : Hid (X.Fr (DD ms) w w2 ∧ Held lo w2 ms us) := HNx.out _ w2 ((Below.refl _ wr).alloc (Nat.le_refl _) _) hf2 hfit2
      clear hf2 hfit2
      cases Q with
      | none =>
        obtain ⟨v2, rfl⟩ := hm2
        have HRN : Hid (R = none) := by unfold Hid; rw [HRn.out]; rfl
        clear HRn
        go_wp2
        go_ret2
        refine ⟨HB2.out.1, HB2.out.2, ?_⟩
        rw [HRN.out]; rfl
      | some r2 =>
        obtain ⟨v2, rfl, ho2⟩ := hm2
        have HR2 : Hid (R = foldG ((us.map semU).drop (k + 1)) r2 ∧ Few r2) := ⟨by rw [HRn.out]; rfl, HFs.out r2 rfl⟩
        have HO2 : Hid (OwnW w.heap.size w2 v2 r2) := ho2
        clear ho2 HRn
        go_wp2
        go_roundw
        case rel => exact ⟨k + 1, r2, by omega, by go_num, HR2, HO2, HB2⟩
        case measure => simp [intOf]; omega
    · obtain rfl : k = nm := by omega
      have hil : ¬ (k : Int) < (k : Int) := by omega
      have HRS : Hid (R = some r) := by unfold Hid; rw [HRk.out.1, List.drop_of_length_le (by rw [List.length_map, ← HN.out.2, ← HN.out.1]; exact Nat.le_refl _)]; rfl
      go_wp2
      go_ret2
      refine ⟨HB.out.1, HB.out.2, ?_⟩
      rw [HRS.out]
      exact ⟨_, rfl, HO.out⟩
theorem apply_u (ms : List Md) (us : List Um) (hgood : ∀ u ∈ us, AppliesU u (semU u)) (am : Option Addr) (nm cm : Nat) (a : Option Addr) (n c : Nat) (l : List ByteArray) (lo : Nat) (w : World) (hnm : nm = ms.length) (hmr : ModsT w am ms) (hh : Held lo w ms us) (hw : Words w.heap.size w (.slice a n c) l) (hn : n ≤ 1000000) (hs : ∀ y ∈ l, y.size ≤ 1000000) (hnb : nm ≤ 100000) (hG : Gz w) :
    Calls Tryz.prog 9 #[.slice am nm cm, .slice a n c] w (ApplyU (appL us l) ms us lo w) := by
  unfold appL
  by_cases hf : Few l
  · rw [if_pos hf]
    exact apply_few ms us hgood am nm cm a n c l lo w hnm hmr hh hw hf hnb hG
  · rw [if_neg hf]
    refine (apply_over _ a n c l w hw hn hs hf).mono ?_
    rintro e w' ⟨rfl, rfl⟩
    exact ⟨.refl _ _, hh, rfl⟩
def AllPost (p : List Um ⊕ (Nat × Nat)) (l : List ByteArray) (w : World) (e : Ending) (w' : World) : Prop := Below w.heap.size w w' ∧ match p with
  | .inr f => e = .returned (.tuple #[.slice none 0 0, .int .i64 (f.1 : Int)])
  | .inl us => match appL us l with
    | none => e = .returned (.tuple #[.slice none 0 0, .int .i64 5])
    | some r => ∃ v', e = .returned (.tuple #[v', .int .i64 0]) ∧ OwnW w.heap.size w' v' r
theorem all_good {s : List UInt8} {us : List Um} {N : Nat} (h : allU s = .inl us) (hN : s.length ≤ N) : (∀ u ∈ us, GoodU N u) ∧ us.length ≤ 32 := by
  unfold allU at h
  split at h
  · cases h; exact ⟨fun u hu => by simp at hu, by simp⟩
  · have := parse_good s N hN (s.length + 1) 0 0 us (by omega) h
    exact ⟨this.1, by have := this.2 (by omega); omega⟩
theorem parse_why (s : List UInt8) : ∀ (i k c : Nat) (f : Nat × Nat), s.length + 1 - k ≤ i → parseU s k c = .inr f → f.1 ≠ 0
  | 0, k, c, f, hi, h => by rw [parse_end (by omega)] at h; cases h
  | i + 1, k, c, f, hi, h => by
    by_cases hk : s.length < k
    · rw [parse_end hk] at h; cases h
    · cases hr : readU (s.drop k) with
      | bad why =>
        rw [parse_bad (by omega) hr] at h
        cases h
        rcases readU_bad hr with e | e <;> (rw [e]; simp)
      | ok u n =>
        by_cases hc : c = 32
        · rw [hc, parse_many (by omega) hr] at h
          cases h; simp
        · rw [parse_next (by omega) hr hc] at h
          cases hp : parseU s (k + n + 1) (c + 1) with
          | inl us => rw [hp] at h; cases h
          | inr f' =>
            rw [hp] at h
            cases h
            exact parse_why s i (k + n + 1) (c + 1) f (by omega) hp
theorem all_why {s : List UInt8} {f : Nat × Nat} (h : allU s = .inr f) : f.1 ≠ 0 := by
  unfold allU at h
  split at h
  · cases h
  · exact parse_why s (s.length + 1) 0 0 f (by omega) h
set_option maxRecDepth 20000 in
set_option maxHeartbeats 3200000 in
theorem all_bad (s : ByteArray) (v : Value) (f : Nat × Nat) (w : World) (hf : f.1 ≠ 0) (hP : Calls Tryz.prog 8 #[.string s] w (ParsePost (.inr f) w)) :
    Calls Tryz.prog 5 #[.string s, v] w fun e w' => e = .returned (.tuple #[.slice none 0 0, .int .i64 (f.1 : Int)]) ∧ Below w.heap.size w w' := by
  have HP : Hid (Calls Tryz.prog 8 #[.string s] w (ParsePost (.inr f) w)) := hP
  obtain ⟨f1, f2⟩ := f
  dsimp only at hf ⊢
  have h0 : ((f1 : Int) == 0) = false := by rw [beq_eq_false_iff_ne]; omega
  have h0' : ¬ (f1 : Int) = 0 := by omega
  clear hP hf
  go_enter Tryz.func5, Tryz.ntmps5
  go_wp2_with fail
  refine HP.out.mono ?_
  rintro e w1 ⟨hb, he⟩
  dsimp only at he
  subst he
  have HB : Hid (Below w.heap.size w (w1.alloc (.cells #[.int .i64 (f1 : Int), .int .i64 (f2 : Int)] 35))) := hb.alloc hb.size _
  clear hb
  go_wp2_with fail
  go_quiet (fail)
  go_wp2
  go_ret2
  exact ⟨rfl, by first | exact HB.out | exact below_drewN HB.out _ | exact HB.out.drew⟩
set_option maxRecDepth 20000 in
set_option maxHeartbeats 3200000 in
theorem all_un (s : ByteArray) (a : Option Addr) (n c : Nat) (l : List ByteArray) (w : World) (hsz : s.size ≤ 1000) (hns : NoSC (bl s)) (hw : Words w.heap.size w (.slice a n c) l) (hn : n ≤ 1000000) (hs : ∀ y ∈ l, y.size ≤ 1000000) (hG : Gz w) (hE : Ey w) :
    Calls Tryz.prog 5 #[.string s, .slice a n c] w (AllPost (allU (bl s)) l w) := by
  have hP := parse_all s w (by omega) hns hG.1 hE
  cases hp : allU (bl s) with
  | inr f =>
    rw [hp] at hP
    refine (all_bad s _ f w (all_why hp) hP).mono ?_
    rintro e w' ⟨rfl, hb⟩
    exact ⟨hb, rfl⟩
  | inl us =>
    rw [hp] at hP
    have HP : Hid (Calls Tryz.prog 8 #[.string s] w (ParsePost (.inl us) w)) := hP
    have hgd := all_good (N := 1000) hp (by rw [bl_length]; exact hsz)
    have HA : Hid (∀ am nm cm ms W, nm = ms.length → ModsT W am ms → Held w.heap.size W ms us → Below w.heap.size w W → Calls Tryz.prog 9 #[.slice am nm cm, .slice a n c] W fun e w' => ApplyU (appL us l) ms us w.heap.size W e w') := fun am nm cm ms W h1 h2 h3 h4 =>
      apply_u ms us (fun u hu => semU_is (Nat.le_refl _) (hgd.1 u hu)) am nm cm a n c l w.heap.size W h1 h2 h3 ((hw.below h4).mono h4.size) hn hs (by rw [h1, h3.len]; omega) (hG.below h4)
    obtain ⟨R, hR⟩ : ∃ R, R = appL us l := ⟨_, rfl⟩
    have HPost : Hid (∀ e w', (Below w.heap.size w w' ∧ match R with
      | none => e = .returned (.tuple #[.slice none 0 0, .int .i64 5])
      | some r => ∃ v', e = .returned (.tuple #[v', .int .i64 0]) ∧ OwnW w.heap.size w' v' r) → AllPost (.inl us) l w e w') := fun e w' h => by
      unfold AllPost; dsimp only; rw [← hR]; exact h
    rw [← hR] at HA
    obtain ⟨nm, hnm⟩ : ∃ nm, nm = us.length := ⟨_, rfl⟩
    have HN : Hid (nm = us.length) := hnm
    clear hP hgd hR hw hn hs hG hE hp hnm
    go_enter Tryz.func5, Tryz.ntmps5
    go_wp2_with fail
    refine HP.out.mono ?_
    rintro e w1 ⟨hb, v, ms, rfl, ho, hh⟩
    rw [← HN.out] at ho
    obtain ⟨am, cm, rfl⟩ := owns_slice ho
    have HM : Hid (∀ W, Below w1.heap.size w1 W → ModsT W am ms ∧ Held w.heap.size W ms us ∧ Below w.heap.size w W ∧ nm = ms.length) := fun W hB => by
      have hl : nm = ms.length := by rw [HN.out, hh.len]
      exact ⟨(modsTof (by rw [hl] at ho; exact ho)).below hB, hh.below hB, hb.trans (hB.mono hb.size), hl⟩
    have HA2 : Hid (∀ W, Below w1.heap.size w1 W → Calls Tryz.prog 9 #[.slice am nm cm, .slice a n c] W (ApplyU R ms us w.heap.size W)) := fun W hB => HA.out am nm cm ms W (HM.out W hB).2.2.2 (HM.out W hB).1 (HM.out W hB).2.1 (HM.out W hB).2.2.1
    clear ho hb hh
    go_wp2_with fail
    refine (HA2.out _ ((Below.refl _ w1).alloc (Nat.le_refl _) _)).mono ?_
    rintro e w2 ⟨hf2, hh2, hm2⟩
    have HB2 : Hid (Below w.heap.size w w2 ∧ w.heap.size ≤ (w1.alloc (.cells #[.int .i64 0, .int .i64 0] 35)).heap.size) := by
      obtain ⟨_, g2, g3, _⟩ := HM.out _ ((Below.refl _ w1).alloc (Nat.le_refl _) (.cells #[.int .i64 0, .int .i64 0] 35))
      refine ⟨⟨hf2.os.trans g3.os, hf2.tape.trans g3.tape, hf2.output.trans g3.output, Nat.le_trans g3.size hf2.size, fun j hj => ?_⟩, g3.size⟩
      refine (hf2.block j (Nat.lt_of_lt_of_le hj g3.size) (fun hd => (g2.rx hd).elim)).trans (g3.block j hj)
    clear hf2 hh2
    cases R with
    | none =>
      dsimp only at hm2
      subst hm2
      go_wp2
      go_ret2
      exact HPost.out _ _ ⟨HB2.out.1, rfl⟩
    | some r =>
      obtain ⟨v2, rfl, ho2⟩ := hm2
      have HO : Hid (OwnW w.heap.size w2 v2 r) := ho2.base HB2.out.2
      clear ho2
      go_wp2
      go_ret2
      exact HPost.out _ _ ⟨HB2.out.1, v2, rfl, HO.out⟩
end Go.Proofs.YtpcpcfnmcfjomaaGreatDoor
namespace Go.Proofs.YtpcpcfnmcfjomaaGreatDoor.DQ
open Go.RowKit Go.Shelf
theorem k_ne {a b : Array UInt8} (h : a ≠ b) : (⟨a⟩ : ByteArray) ≠ ⟨b⟩ := fun e => h (congrArg ByteArray.data e)
theorem no91 {k : ByteArray} (h : k ∈ wordsD) : k ≠ ⟨#[91]⟩ ∧ k ≠ ⟨#[35]⟩ ∧ k ≠ ⟨#[42]⟩ := by
  unfold wordsD at h
  simp only [List.mem_cons, List.not_mem_nil, or_false] at h
  rcases h with rfl | rfl | rfl | rfl | rfl | rfl | rfl | rfl | rfl | rfl | rfl <;> exact ⟨k_ne (by decide), k_ne (by decide), k_ne (by decide)⟩
theorem noE : ba [] ∉ wordsL := by
  unfold wordsL
  simp only [List.mem_cons, List.not_mem_nil, or_false, not_or]
  refine ⟨?_, ?_, ?_, ?_, ?_, ?_, ?_, ?_, ?_, ?_, ?_⟩ <;> exact k_ne (by decide)
theorem one_eq (l : List UInt8) : RelR (readU l) (oneA l) := by
  unfold readU oneA
  by_cases h1 : l.head? = some 77 ∨ l.head? = some 78
  · rw [if_pos h1, if_pos h1]
    refine .ok _ _ _ (.same _ _ _ ?_)
    cases l with
    | nil => simp at h1
    | cons c t =>
      rcases h1 with h1 | h1
      · obtain rfl : c = 77 := Option.some.inj h1
        rw [show ba (List.take 1 (77 :: t)) = ⟨#[77]⟩ from rfl]
        exact ⟨k_ne (by decide), k_ne (by decide), k_ne (by decide)⟩
      · obtain rfl : c = 78 := Option.some.inj h1
        rw [show ba (List.take 1 (78 :: t)) = ⟨#[78]⟩ from rfl]
        exact ⟨k_ne (by decide), k_ne (by decide), k_ne (by decide)⟩
  · rw [if_neg h1, if_neg h1]
    by_cases h3 : l.head? = some 91
    · rw [if_pos h3, if_pos h3]
      obtain ⟨t, rfl⟩ : ∃ t, l = 91 :: t := by
        cases l with
        | nil => simp at h3
        | cons c t => exact ⟨t, by rw [Option.some.inj h3]⟩
      exact pick_eq t
    · rw [if_neg h3, if_neg h3]
      unfold plainU oneP
      have hw : wordsL = wordsD := rfl
      rw [hw]
      by_cases hk : ba (untilL 58 l).1 ∈ wordsD
      · rw [if_pos hk, if_pos hk]
        exact .ok _ _ _ (.same _ _ _ (no91 hk))
      · rw [if_neg hk, if_neg hk]
        have hc := eq_cut (untilL 58 l).1
        cases hx : eqI (untilL 58 l).1 with
        | none =>
          rw [hx] at hc
          dsimp only at hc ⊢
          rw [if_neg (by rw [hc]; simp)]
          exact .bad 12
        | some i =>
          rw [hx] at hc
          dsimp only at hc ⊢
          rw [hc, if_pos rfl]
          exact .ok _ _ _ (.same _ _ _ ⟨k_ne (by decide), k_ne (by decide), k_ne (by decide)⟩)
theorem readU_pos {l : List UInt8} {u : Um} {n : Nat} (h : readU l = .ok u n) : 1 ≤ n := by
  unfold readU at h
  split at h
  · cases h; exact Nat.le_add_left 1 _
  · split at h
    · obtain ⟨m, e1, rfl⟩ := ru_of_ok h
      unfold choR at e1
      split at e1
      · cases e1
      · cases hc : choO (Lib.cut (l.drop 1) [93]).1 with
        | none => rw [hc] at e1; cases e1
        | some k =>
          rw [hc] at e1
          dsimp only at e1
          split at e1
          · cases e1; omega
          · cases e1
    · have l1 := (until_len 58 l).1
      unfold plainU at h
      split at h
      · rename_i hk
        cases h
        rcases Nat.eq_zero_or_pos (untilL 58 l).1.length with h0 | h0
        · rw [List.length_eq_zero_iff.1 h0] at hk
          exact absurd hk noE
        · omega
      · split at h
        · rename_i hc
          cases h
          have := cut_lt hc
          omega
        · cases h
inductive Rels : List Um → List Dm → Prop where
  | nil : Rels [] []
  | cons {u : Um} {m : Dm} {us : List Um} {ms : List Dm} (h : RelU u m) (t : Rels us ms) : Rels (u :: us) (m :: ms)
theorem Rels.len {us : List Um} {ms : List Dm} (h : Rels us ms) : us.length = ms.length := by
  induction h with
  | nil => rfl
  | cons _ _ ih => simp [ih]
theorem parse_eq (s : List UInt8) (hs : s.length ≤ 60) : ∀ (j k c fuel : Nat) (acc : List Dm), s.length + 1 - k ≤ j → k ≤ s.length → acc.length = c → 2 * c ≤ k → s.length + 1 - k ≤ fuel →
    match parseU s k c with
    | .inr f => parseA fuel (s.drop k) acc = .inl (f.1 : Int)
    | .inl us => ∃ ms, parseA fuel (s.drop k) acc = .inr (acc ++ ms) ∧ Rels us ms
  | 0, k, c, fuel, acc, hj, hk, hc, h2, hf => by omega
  | j + 1, k, c, fuel, acc, hj, hk, hc, h2, hf => by
    obtain ⟨f', rfl⟩ : ∃ f', fuel = f' + 1 := ⟨fuel - 1, by omega⟩
    have hr := one_eq (s.drop k)
    have e32 : ¬ 32 ≤ acc.length := by omega
    have hdl : (s.drop k).length = s.length - k := List.length_drop
    cases hu : readU (s.drop k) with
    | bad why =>
      rw [parse_bad hk hu]
      rw [hu] at hr
      cases ho : oneA (s.drop k) with
      | bad e =>
        rw [ho] at hr
        cases hr
        dsimp only
        rw [parseA, if_neg e32, ho]
      | ok m n => rw [ho] at hr; cases hr
    | ok u n =>
      rw [parse_next hk hu (by omega)]
      rw [hu] at hr
      have hp := readU_pos hu
      cases ho : oneA (s.drop k) with
      | bad e => rw [ho] at hr; cases hr
      | ok m n' =>
        rw [ho] at hr
        cases hr with
        | ok _ _ _ hm =>
          by_cases hend : (s.drop k).length ≤ n
          · rw [parse_end (by omega)]
            dsimp only
            refine ⟨[m], ?_, .cons hm .nil⟩
            rw [parseA, if_neg e32, ho]
            dsimp only
            rw [if_pos hend]
          · have ih := parse_eq s hs j (k + n + 1) (c + 1) f' (acc ++ [m]) (by omega) (by omega) (by simp; omega) (by omega) (by omega)
            have hd : (s.drop k).drop (n + 1) = s.drop (k + n + 1) := by rw [List.drop_drop]; congr 1
            have hA : parseA (f' + 1) (s.drop k) acc = parseA f' (s.drop (k + n + 1)) (acc ++ [m]) := by
              rw [parseA, if_neg e32, ho]
              dsimp only
              rw [if_neg hend, hd]
            cases hq : parseU s (k + n + 1) (c + 1) with
            | inr f => rw [hq] at ih; dsimp only at ih ⊢; rw [hA, ih]
            | inl us =>
              rw [hq] at ih
              obtain ⟨ms, g1, g2⟩ := ih
              dsimp only
              exact ⟨m :: ms, by rw [hA, g1]; simp, .cons hm g2⟩
theorem all_eq (s : List UInt8) (hs : s.length ≤ 60) : match allU s with
    | .inr f => allA s = .inl (f.1 : Int)
    | .inl us => ∃ ms, allA s = .inr ms ∧ Rels us ms := by
  unfold allU allA
  by_cases h : s = []
  · rw [if_pos h, if_pos h]; exact ⟨[], rfl, .nil⟩
  · rw [if_neg h, if_neg h]
    have := parse_eq s hs (s.length + 1) 0 0 (s.length + 1) [] (by omega) (Nat.zero_le _) rfl (by omega) (by omega)
    rw [List.drop_zero] at this
    cases hp : parseU s 0 0 with
    | inr f => rw [hp] at this; exact this
    | inl us => rw [hp] at this; exact this
theorem parseA_bad : ∀ (k : Nat) (l : List UInt8) (acc : List Dm) (e : Int), parseA k l acc = .inl e → e = 4 ∨ e = 5 ∨ e = 12
  | 0, l, acc, e, h => by rw [parseA] at h; cases h; exact .inr (.inl rfl)
  | k + 1, l, acc, e, h => by
    rw [parseA] at h
    split at h
    · cases h; exact .inr (.inl rfl)
    · cases ho : oneA l with
      | bad e' =>
        rw [ho] at h
        cases h
        rcases one_bad ho with h | h
        · exact .inl h
        · exact .inr (.inr h)
      | ok m n =>
        rw [ho] at h
        dsimp only at h
        split at h
        · cases h
        · exact parseA_bad k _ _ e h
theorem allA_bad {s : List UInt8} {e : Int} (h : allA s = .inl e) : e = 4 ∨ e = 5 ∨ e = 12 := by
  unfold allA at h
  split at h
  · cases h
  · exact parseA_bad _ _ _ e h
end Go.Proofs.YtpcpcfnmcfjomaaGreatDoor.DQ
