/-
  ModsApply, at any text and any words: the law.
-/
import Derived.Test.YtedepknbaakkhabGreatDoorMB5
namespace Go.Proofs.YtedepknbaakkhabGreatDoor
open Go.RowKit Go.Shelf Go.Sort

theorem wpList_app0 {w : World} {ops : Array Oper} {rest : List Oper} {o : Oper} {act : Act} {Q : Exit → Act → World → Prop} {a : Option Addr} {n c : Nat} {l : List ByteArray} (hgd : o.guard = none) (s x : Operand)
    (ho : o.op = .call { callee := .builtin .append, args := #[s, x], argTypes := #[22, 22] }) (hs : act.eval s = .slice none 0 0) (hx : act.eval x = .slice a n c) (hw : Words w.heap.size w (.slice a n c) l) (hc0 : a = none → c = 0) (hlen : l.length ≤ 4096)
    (h : ∀ v' w', OwnW w.heap.size w' v' l → Below w.heap.size w w' → wpList Tryz.prog ops Q rest (act.put o.dst v') w') : wpList Tryz.prog ops Q (o :: rest) act w := by
  obtain ⟨i0, hi, hz0, hz1, hz2⟩ := info_of infoS9
  have hn := hw.len
  have hnil : w.ownsRow w.heap.size 9 1 (.slice none 0 0) 0 [] := ⟨rfl, .inl ⟨rfl, rfl⟩⟩
  cases a with
  | none =>
    obtain rfl : l = [] := by
      by_cases hne : l = []
      · exact hne
      · obtain ⟨b, o, _, e, _⟩ := hw.at hne; cases e
    obtain rfl : n = 0 := by simpa using hn
    obtain rfl := hc0 rfl
    exact wpList_append_own_none hgd s x 22 ho w.heap.size 9 i0 1 Tryz.underlying22 hi _ _ _ hs hnil hx (h _ _ .nil (Below.refl _ _))
  | some ad =>
    subst hn
    refine wpList_append_own_at _ hgd s x 22 ho w.heap.size 9 i0 (.string ⟨#[]⟩) 1 16 Tryz.underlying22 hi hz0 hz1 hz2 rfl (by decide) _ _ _ hs hnil ad l.length c (l.map Value.string) hx (by simp) (fun j u hu => ?_) (fun u hu => ?_) (by unfold maxLen; omega) (by omega) (Nat.le_refl _) ?_
    · rw [List.getElem?_map] at hu
      obtain ⟨y, hy, rfl⟩ := Option.map_eq_some_iff.1 hu
      obtain ⟨hj, rfl⟩ := List.getElem?_eq_some_iff.1 hy
      obtain ⟨b, o', e, _, hc⟩ := hw.pick j hj
      simp only [Option.some.injEq] at e
      subst e
      have e : (⟨b, o', none⟩ : Addr).add j = ⟨b, o' + j, none⟩ := by unfold Addr.add; split <;> simp_all
      rw [e]; exact hc
    · obtain ⟨y, _, rfl⟩ := List.mem_map.1 hu
      rfl
    · intro v' w' hown hgrow _ _
      refine h v' w' (OwnW.of_owns ?_) ((Below.refl _ w).grown hgrow (Nat.le_refl _) (fun k hk => by simp [Value.ownBlock] at hk))
      rw [Nat.zero_add, List.nil_append] at hown
      exact hown
set_option maxRecDepth 20000 in
set_option maxHeartbeats 4000000 in
theorem ap_far (s : ByteArray) (a : Option Addr) (n c : Nat) (l : List ByteArray) (w : World) (hw : Words w.heap.size w (.slice a n c) l) (hmx : Mx w) (hfar : farB s l = true) :
    Calls Tryz.prog 3 #[.string s, .slice a n c] w fun e w' => e = .returned (.bool true) ∧ Below w.heap.size w w' := by
  have HAl : Hid (Calls Tryz.prog 5 #[] w fun e w' => e = .returned (.bool true) ∧ Below w.heap.size w w') := alive_any w hmx
  have hF0 := far_any s a n c l w hw
  rw [hfar] at hF0
  have HF : Hid (Calls Tryz.prog 4 #[.string s, .slice a n c] w fun e w' => e = .returned (.bool true) ∧ w = w') := hF0
  clear hF0 hw hmx hfar
  go_enter Tryz.func3, Tryz.ntmps3
  go_wp2_with fail
  refine HF.out.mono ?_
  rintro e w' ⟨rfl, rfl⟩
  go_wp2_with fail
  refine HAl.out.mono ?_
  rintro e w1 ⟨rfl, hb⟩
  go_wp2
  go_ret
  exact ⟨rfl, hb⟩
set_option maxRecDepth 20000 in
set_option maxHeartbeats 8000000 in
theorem ap_bad (s : ByteArray) (a : Option Addr) (n c : Nat) (l : List ByteArray) (w : World) (hsz : s.size ≤ 300) (hw : Words w.heap.size w (.slice a n c) l) (hfew : Few l) (hG : Gz w) (hE : Ey w) (hfar : farB s l = false) (f1 f2 : Nat) (hp : allU (bl s) = .inr (f1, f2)) :
    Calls Tryz.prog 3 #[.string s, .slice a n c] w fun e w' => e = .returned (.bool true) ∧ Below w.heap.size w w' := by
  have HAl : Hid (∀ W, Below w.heap.size w W → Calls Tryz.prog 5 #[] W fun e w' => e = .returned (.bool true) ∧ Below W.heap.size W w') := fun W hB => alive_any W (hG.1.below hB hG.1.pos)
  have hF0 := far_any s a n c l w hw
  rw [hfar] at hF0
  have HF : Hid (Calls Tryz.prog 4 #[.string s, .slice a n c] w fun e w' => e = .returned (.bool false) ∧ w = w') := hF0
  have HP : Hid (Calls Tryz.prog 6 #[.string s] w fun e w' => e = .returned (.tuple #[.slice none 0 0, .agg #[.int .i64 (f1 : Int), .int .i64 (f2 : Int)]]) ∧ Below w.heap.size w w') := (parse_all s w (by omega) hG.1 hE).mono fun e w' h => by
    rw [hp] at h
    exact ⟨h.2, h.1⟩
  have HA : Hid (∀ W, Below w.heap.size w W → Calls Tryz.prog 7 #[.string s, .slice a n c] W fun e w' => e = .returned (.tuple #[.slice none 0 0, .int .i64 (f1 : Int)]) ∧ Below W.heap.size W w') := fun W hB => (all_un s a n c l W (by omega) ((hw.below hB).mono hB.size) (by have := hw.len; have := hfew.1; omega) (few_all hfew).2 (hG.below hB) (hE.below hB hE.pos)).mono fun e w' h => by
    rw [hp] at h
    exact ⟨h.2, h.1⟩
  have hf0 : f1 ≠ 0 := all_why hp
  have e1 : ((f1 : Int) == 0) = false := by rw [beq_eq_false_iff_ne]; omega
  have e2 : ¬ (f1 : Int) = 0 := by omega
  clear hF0 hw hfew hG hE hfar hp hf0
  go_enter Tryz.func3, Tryz.ntmps3
  go_wp2_with fail
  refine HF.out.mono ?_
  rintro e w' ⟨rfl, rfl⟩
  go_wp2_with fail
  refine HP.out.mono ?_
  rintro e w1 ⟨rfl, hb1⟩
  have hx1 := heap_alloc_new w1 (.cells #[.int .i64 (f1 : Int), .int .i64 (f2 : Int)] 28)
  have hb2 := hb1.alloc hb1.size (.cells #[.int .i64 (f1 : Int), .int .i64 (f2 : Int)] 28)
  obtain ⟨w2, hw2⟩ : ∃ w2, w2 = w1.alloc (.cells #[.int .i64 (f1 : Int), .int .i64 (f2 : Int)] 28) := ⟨_, rfl⟩
  rw [← hw2] at hx1 hb2
  go_upto_region 4 with fail
  rw [← hw2]
  generalize w1.heap.size = b1 at hx1 ⊢
  clear hw2 hb1
  go_wp2_with fail
  refine (HA.out _ hb2).mono ?_
  rintro e w3 ⟨rfl, hb3⟩
  have hx3 := (hb3.block b1 (Array.getElem?_eq_some_iff.1 hx1).1).trans hx1
  have HB3 : Hid (Below w.heap.size w w3) := hb2.trans (hb3.mono hb2.size)
  have x0 : w3.cell? ⟨b1, 0, none⟩ = some (.int .i64 (f1 : Int)) := by simp [World.cell?, hx3]
  have x1 : w3.cell? ⟨b1, 1, none⟩ = some (.int .i64 (f2 : Int)) := by simp [World.cell?, hx3]
  clear hx1 hb2 hb3 hx3
  go_wp2_with fail
  refine (HAl.out _ HB3.out).mono ?_
  rintro e w7 ⟨rfl, hb7⟩
  have HB7 : Hid (Below w.heap.size w w7) := HB3.out.trans (hb7.mono HB3.out.size)
  clear hb7
  go_wp2
  go_ret
  exact ⟨rfl, HB7.out⟩
set_option maxRecDepth 20000 in
set_option maxHeartbeats 8000000 in
theorem ap_good (s : ByteArray) (a : Option Addr) (n c : Nat) (l : List ByteArray) (w : World) (hsz : s.size ≤ 300) (hw : Words w.heap.size w (.slice a n c) l) (hfew : Few l) (hc0 : a = none → c = 0) (hG : Gz w) (hE : Ey w) (hfar : farB s l = false) (us : List Um) (hp : allU (bl s) = .inl us) :
    Calls Tryz.prog 3 #[.string s, .slice a n c] w fun e w' => e = .returned (.bool true) ∧ Below w.heap.size w w' := by
  have HAl : Hid (∀ W, Below w.heap.size w W → Calls Tryz.prog 5 #[] W fun e w' => e = .returned (.bool true) ∧ Below W.heap.size W w') := fun W hB => alive_any W (hG.1.below hB hG.1.pos)
  have hF0 := far_any s a n c l w hw
  rw [hfar] at hF0
  have HF : Hid (Calls Tryz.prog 4 #[.string s, .slice a n c] w fun e w' => e = .returned (.bool false) ∧ w = w') := hF0
  obtain ⟨hg1, hg2⟩ := all_good (N := 1000) hp (by rw [bl_length]; omega)
  have hgd : ∀ u ∈ us, AppliesU u (semU u) := fun u hu => semU_is (Nat.le_refl _) (hg1 u hu)
  have hnl : n ≤ 4096 := by have := hw.len; have := hfew.1; omega
  obtain ⟨R, hR⟩ : ∃ R, appL us l = R := ⟨_, rfl⟩
  have hR2 : foldG (us.map semU) l = R := by rw [← hR]; unfold appL; rw [if_pos hfew]
  obtain ⟨nm, hnm⟩ : ∃ nm, nm = us.length := ⟨_, rfl⟩
  have HP : Hid (Calls Tryz.prog 6 #[.string s] w fun e w' => ∃ am cm ms, e = .returned (.tuple #[.slice am nm cm, .agg #[.int .i64 0, .int .i64 0]]) ∧ Inv w am ms us [] w' ∧ nm = ms.length ∧ nm ≤ cm) := (parse_all s w (by omega) hG.1 hE).mono fun e w' h => by
    rw [hp] at h
    obtain ⟨hb, v, ms, rfl, ho, hh⟩ := h
    rw [← hnm] at ho
    obtain ⟨am, cm, rfl⟩ := owns_slice ho
    have hl : nm = ms.length := by rw [hnm, hh.len]
    refine ⟨am, cm, ms, rfl, ⟨hb, hh, modsTof (by rw [hl] at ho; exact ho), fun p hp => by simp at hp⟩, hl, ?_⟩
    obtain ⟨_, ⟨hv, hn⟩ | ⟨g, cap, cur, hv, hg, hcur, hcap, _⟩⟩ := ho
    · omega
    · simp only [Value.slice.injEq] at hv; omega
  have HA : Hid (∀ am ms vs W, Inv w am ms us vs W → Calls Tryz.prog 7 #[.string s, .slice a n c] W fun e W' => ∃ a' n' c', e = .returned (.tuple #[.slice a' n' c', .int .i64 (codeN R)]) ∧ Inv w am ms us ((.slice a' n' c', R.getD []) :: vs) W' ∧ Below W.heap.size W W') := fun am ms vs W hI => all_i w am ms us vs s (by omega) hp a n c l hw hfew hG hE R hR W hI
  have HB : Hid (∀ am ms vs cm W, nm = ms.length → Inv w am ms us vs W → Calls Tryz.prog 8 #[.slice am nm cm, .slice a n c] W fun e W' => ∃ a' n' c', e = .returned (.tuple #[.slice a' n' c', .int .i64 (codeN R)]) ∧ Inv w am ms us ((.slice a' n' c', R.getD []) :: vs) W') := fun am ms vs cm W h1 hI => apply_i w am ms us vs hgd (by omega) nm cm h1 a n c l hw hfew hG R hR W hI
  have HK : Hid (∀ am ms vs k (hku : k < us.length) g o cm a' n' c' r W, k < ms.length → am = some ⟨g, o, none⟩ → Few r → Inv w am ms us vs W → (Value.slice a' n' c', r) ∈ vs → Calls Tryz.prog 8 #[.slice (some ⟨g, o + k * 12, none⟩) 1 cm, .slice a' n' c'] W fun e W' => ∃ a2 n2 c2, e = .returned (.tuple #[.slice a2 n2 c2, .int .i64 (codeN (semU us[k] r))]) ∧ Inv w am ms us ((.slice a2 n2 c2, (semU us[k] r).getD []) :: vs) W') := fun am ms vs k hku g o cm a' n' c' r W hk ham hf hI hin => apply_k w am ms us vs hgd k hk hku g o ham cm a' n' c' r hf hG _ rfl W hI hin
  have HC0 : Hid (a = none → c = 0) := hc0
  have HW : Hid (Words w.heap.size w (.slice a n c) l) := hw
  have HF0 : Hid (Few l) := hfew
  have HFs : Hid (∀ k (h : k < us.length) r r2, Few r → semU us[k] r = some r2 → Few r2) := fun k h r r2 hf h2 => (hgd _ (List.getElem_mem _)).1 r r2 hf h2
  have HR : Hid (foldG (us.map semU) l = R) := hR2
  have HN : Hid (nm = us.length ∧ nm ≤ 32) := ⟨hnm, by omega⟩
  have hnm32 : nm ≤ 32 := by omega
  clear hc0 hF0 hw hfew hG hE hfar hp hg1 hg2 hgd hR hR2 hnm
  go_enter Tryz.func3, Tryz.ntmps3
  go_wp2_with fail
  refine HF.out.mono ?_
  rintro e w' ⟨rfl, rfl⟩
  go_wp2_with fail
  refine HP.out.mono ?_
  rintro e w1 ⟨am, cm, ms, rfl, hI1, hml, hcm⟩
  have hx1 := heap_alloc_new w1 (.cells #[.int .i64 0, .int .i64 0] 28)
  have hI2 := hI1.below ((Below.refl _ w1).alloc (Nat.le_refl _) (.cells #[.int .i64 0, .int .i64 0] 28))
  obtain ⟨w2, hw2⟩ : ∃ w2, w2 = w1.alloc (.cells #[.int .i64 0, .int .i64 0] 28) := ⟨_, rfl⟩
  rw [← hw2] at hx1 hI2
  have HM : Hid (nm = ms.length) := hml
  clear hml
  go_upto_region 4 with fail
  rw [← hw2]
  generalize w1.heap.size = b1 at hx1 ⊢
  clear hw2 hI1
  go_wp2_with fail
  refine (HA.out _ _ _ _ hI2).mono ?_
  rintro e w3 ⟨a3, n3, c3, rfl, hI3, hb3⟩
  have hx3 := (hb3.block b1 (Array.getElem?_eq_some_iff.1 hx1).1).trans hx1
  have x0 : w3.cell? ⟨b1, 0, none⟩ = some (.int .i64 0) := by simp [World.cell?, hx3]
  have x1 : w3.cell? ⟨b1, 1, none⟩ = some (.int .i64 0) := by simp [World.cell?, hx3]
  have HI3 : Hid (Inv w am ms us [(.slice a3 n3 c3, R.getD [])] w3) := hI3
  clear hx1 hb3 hx3 hI2 hI3
  obtain ⟨cd, hcd⟩ : ∃ cd, cd = codeN R := ⟨_, rfl⟩
  rw [← hcd] at HB ⊢
  have HCd : Hid (cd = codeN R) := hcd
  clear hcd
  go_wp2_with fail
  refine (HB.out _ _ _ _ _ HM.out HI3.out).mono ?_
  rintro e w4 ⟨a4, n4, c4, rfl, hI4⟩
  have HI4 : Hid (Inv w am ms us [(.slice a4 n4 c4, R.getD []), (.slice a3 n3 c3, R.getD [])] w4) := hI4
  clear hI4 x0 x1 HI3
  go_wp2_with (at_builtin; refine wpList_app0 (a := a) (n := n) (c := c) (l := l) rfl _ _ rfl rfl rfl ((HW.out.below HI4.out.low).mono HI4.out.low.size) HC0.out HF0.out.1 ?_)
  intro v5 w5 ho5 hb5
  have HI5 : Hid (Inv w am ms us [(v5, l), (.slice a4 n4 c4, R.getD []), (.slice a3 n3 c3, R.getD [])] w5) := (HI4.out.below hb5).add (ho5.base HI4.out.low.size)
  obtain ⟨a5, c5, hv5⟩ := ho5.slice
  subst hv5
  clear ho5 hb5 HI4
  generalize l.length = n5 at HI5 ⊢
  go_wp2
  go_loopw [11, 60] (fun v11 vi wr => ∃ (k : Nat) (r : List ByteArray) (a' : Option Addr) (n' c' : Nat), k ≤ nm ∧ vi = .int .i64 k ∧ v11 = .slice a' n' c' ∧ Hid (foldG ((us.map semU).drop k) r = R ∧ Few r) ∧ Hid (Inv w am ms us [(.slice a' n' c', r), (.slice a4 n4 c4, R.getD []), (.slice a3 n3 c3, R.getD [])] wr)) (fun _ vi _ => nm - (intOf vi).toNat)
  case atStart => exact ⟨0, l, a5, n5, c5, Nat.zero_le _, rfl, rfl, ⟨HR.out, HF0.out⟩, HI5⟩
  case round =>
    obtain ⟨k, r, a', n', c', hk, rfl, rfl, HRk, HI⟩ := hrel
    by_cases hlt : k < nm
    · have hil : (k : Int) < (nm : Int) := by omega
      have hkm : k < ms.length := by rw [← HM.out]; exact hlt
      have hku : k < us.length := by rw [← HN.out.1]; exact hlt
      obtain ⟨g, o, ham⟩ : ∃ g o, am = some ⟨g, o, none⟩ := by
        obtain ⟨g, o, _, h, _⟩ := HI.out.row k hkm
        exact ⟨g, o, h⟩
      subst ham
      obtain ⟨Q, hQ⟩ : ∃ Q, Q = semU us[k] r := ⟨_, rfl⟩
      have HRn : Hid (Q.bind (foldG ((us.map semU).drop (k + 1))) = R) := by
        unfold Hid
        have hd := List.drop_eq_getElem_cons (show k < (us.map semU).length by rw [List.length_map]; exact hku)
        rw [← HRk.out.1, hQ, hd, List.getElem_map]; rfl
      have HC : Hid (∀ cm', Calls Tryz.prog 8 #[.slice (some ⟨g, o + k * 12, none⟩) 1 cm', .slice a' n' c'] wr fun e W' => ∃ a2 n2 c2, e = .returned (.tuple #[.slice a2 n2 c2, .int .i64 (codeN Q)]) ∧ Inv w (some ⟨g, o, none⟩) ms us [(.slice a2 n2 c2, Q.getD []), (.slice a4 n4 c4, R.getD []), (.slice a3 n3 c3, R.getD [])] W') := fun cm' => (HK.out _ _ _ k hku g o cm' a' n' c' r wr hkm rfl HRk.out.2 HI.out (by simp)).mono fun e W' h => by
        obtain ⟨a2, n2, c2, h1, h2⟩ := h
        rw [← hQ] at h1 h2
        exact ⟨a2, n2, c2, h1, h2.sub (fun p hp => by
          simp only [List.mem_cons, List.not_mem_nil, or_false] at hp ⊢
          rcases hp with h | h | h
          · exact .inl h
          · exact .inr (.inr (.inl h))
          · exact .inr (.inr (.inr h)))⟩
      have HFq : Hid (∀ r2, Q = some r2 → Few r2) := fun r2 h2 => HFs.out k hku r r2 HRk.out.2 (by rw [← hQ]; exact h2)
      have HCd2 : Hid (cd = codeN R) := HCd.out
      clear hQ hkm hku HK HA HB HP HCd
      have hkc : k + 1 ≤ cm := by omega
      have hk0 : (k : Int) + 1 ≤ (cm : Int) := by omega
      go_wp2_with fail
      refine (HC.out _).mono ?_
      rintro e w6 ⟨a6, n6, c6, rfl, hI6⟩
      cases Q with
      | none =>
        have hR0 : R = none := by rw [← HRn.out]; rfl
        subst hR0
        obtain rfl : cd = 5 := HCd2.out
        have HL6 : Hid (Below w.heap.size w w6) := hI6.low
        clear hI6 HRn HI HRk
        dsimp only [codeN, Option.isSome]
        go_wp2_with fail
        refine (HAl.out _ HL6.out).mono ?_
        rintro e w7 ⟨rfl, hb7⟩
        have HB7 : Hid (Below w.heap.size w w7) := HL6.out.trans (hb7.mono HL6.out.size)
        clear hb7
        go_wp2
        go_ret
        exact ⟨rfl, HB7.out⟩
      | some r2 =>
        have HR2 : Hid (foldG ((us.map semU).drop (k + 1)) r2 = R ∧ Few r2) := ⟨HRn.out, HFq.out r2 rfl⟩
        have HI6 : Hid (Inv w (some ⟨g, o, none⟩) ms us [(.slice a6 n6 c6, r2), (.slice a4 n4 c4, R.getD []), (.slice a3 n3 c3, R.getD [])] w6) := hI6
        clear hI6 HRn HI HRk HFq HC
        dsimp only [codeN, Option.isSome]
        go_wp2
        go_roundw
        case rel => exact ⟨k + 1, r2, a6, n6, c6, by omega, by go_num, rfl, HR2, HI6⟩
        case measure => simp [intOf]; omega
    · obtain rfl : k = nm := by omega
      have hil : ¬ (k : Int) < (k : Int) := by omega
      have hRS : R = some r := by rw [← HRk.out.1, List.drop_of_length_le (by rw [List.length_map, ← HN.out.1]; exact Nat.le_refl _)]; rfl
      subst hRS
      obtain rfl : cd = 0 := HCd.out
      have hr : r.length ≤ 2000000 := by have := HRk.out.2.1; omega
      have HS1 : Hid (Calls Tryz.prog 9 #[.slice a3 n3 c3, .slice a4 n4 c4] wr fun e w' => e = .returned (.bool true) ∧ ∃ n, w' = wr.drewN n) := same_any r _ _ _ _ wr hr (HI.out.own (.slice a3 n3 c3, r) (by simp)).words (HI.out.own (.slice a4 n4 c4, r) (by simp)).words
      have HS2 : Hid (∀ m, Calls Tryz.prog 9 #[.slice a3 n3 c3, .slice a' n' c'] (wr.drewN m) fun e w' => e = .returned (.bool true) ∧ ∃ n, w' = (wr.drewN m).drewN n) := fun m => same_any r _ _ _ _ _ hr ((HI.out.own (.slice a3 n3 c3, r) (by simp)).words.drewN m) ((HI.out.own (.slice a' n' c', r) (by simp)).words.drewN m)
      have HL : Hid (∀ m, Below w.heap.size w (wr.drewN m)) := fun m => below_drewN HI.out.low m
      clear HI HRk HCd hr
      go_wp2_with fail
      refine HS1.out.mono ?_
      rintro e w6 ⟨rfl, m, rfl⟩
      go_wp2_with fail
      refine (HS2.out m).mono ?_
      rintro e w7 ⟨rfl, q, rfl⟩
      go_wp2_with fail
      refine (HAl.out _ (HL.out (m + q))).mono ?_
      rintro e w8 ⟨rfl, hb8⟩
      have HB8 : Hid (Below w.heap.size w w8) := (HL.out (m + q)).trans (hb8.mono (HL.out (m + q)).size)
      clear hb8
      go_wp2
      go_ret
      exact ⟨rfl, HB8.out⟩
/-- ModsApply. -/
theorem ap_law (s : ByteArray) (a : Option Addr) (n c : Nat) (l : List ByteArray) (w : World) (hw : Words w.heap.size w (.slice a n c) l) (hc0 : a = none → c = 0) (hG : Gz w) (hE : Ey w) :
    Calls Tryz.prog 3 #[.string s, .slice a n c] w fun e w' => e = .returned (.bool true) ∧ Below w.heap.size w w' := by
  cases h1 : farB s l with
  | true => exact ap_far s a n c l w hw hG.1 h1
  | false =>
    obtain ⟨h2, h3, h4⟩ := farB_not h1
    have hfew := few_of h3 h4
    cases hp : allU (bl s) with
    | inl us => exact ap_good s a n c l w h2 hw hfew hc0 hG hE h1 us hp
    | inr f => exact ap_bad s a n c l w h2 hw hfew hG hE h1 f.1 f.2 hp
end Go.Proofs.YtedepknbaakkhabGreatDoor
