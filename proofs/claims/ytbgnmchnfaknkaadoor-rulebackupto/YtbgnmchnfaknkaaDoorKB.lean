/-
  RuleBack.
-/
import Derived.Test.YtbgnmchnfaknkaaDoorK15
import Derived.Test.YtbgnmchnfaknkaaDoorKX
namespace Go.Proofs.YtbgnmchnfaknkaaDoor
open Go.RowKit Go.Shelf

theorem ruP_format (s : ByteArray) (at_ : Int) (h : s.size ≤ 1100000) (h4 : (Q.ruP (bl s) at_).targets.length + (Q.ruP (bl s) at_).sources.length ≤ 400) : (Q.format (Q.ruP (bl s) at_)).length ≤ 4000000 ∧ ∀ c ∈ (Q.ruP (bl s) at_).commands, c.length ≤ 140737488 := by
  have hf := Q.format_len (Q.ruP (bl s) at_)
  have hz := Q.sizes (bl s) 1100000 (by rw [bl_length]; exact h)
  by_cases h0 : Q.whyP (bl s) = 0
  · have e : Q.ruP (bl s) at_ = ⟨Q.tgts (bl s), Q.kindL (bl s), Q.srcs (bl s), Q.cmdsL (Q.cmdL (bl s)), at_⟩ := by unfold Q.ruP; rw [if_pos h0]
    rw [e] at hf h4 ⊢
    simp only at hf h4 ⊢
    have hc : (Q.cmdPart (Q.cmdsL (Q.cmdL (bl s)))).length ≤ 1100002 := by
      unfold Q.cmdsL; split
      · simp [Q.cmdPart]
      · simp [Q.cmdPart]; omega
    refine ⟨by omega, fun c hc => ?_⟩
    unfold Q.cmdsL at hc; split at hc
    · simp at hc
    · simp at hc; subst hc; omega
  · have e : Q.ruP (bl s) at_ = Q.Ru.zero := by unfold Q.ruP; rw [if_neg h0]
    rw [e] at hf ⊢
    simp [Q.Ru.zero, Q.cmdPart] at hf ⊢
    omega

set_option maxRecDepth 20000 in
set_option maxHeartbeats 2000000 in
theorem back_law (s : ByteArray) (at_ : Int) (w : World) (hs : s.size ≤ 1100000) (hm : Mx w) :
    Calls Tryd.prog 4 #[.string s, .int .i64 at_] w fun e w' => e = .returned (.bool true) ∧ Below w.heap.size w w' := by
  have hl := ruP_sizes s at_ 1100000 hs
  have hfm := ruP_format s at_ hs
  have hbk := Q.back (bl s) at_
  have HM : Hid (∀ W, Below w.heap.size w W → Mx W) := fun W hW => hm.below hW hm.pos
  have HA : Hid (∀ W, Below w.heap.size w W → Calls Tryd.prog 10 #[] W fun e w' => e = .returned (.bool true) ∧ Below W.heap.size W w') := fun W hW => alive_any W (hm.below hW hm.pos)
  have HP0 : Hid (Calls Tryd.prog 7 #[.string s, .int .i64 at_] w (ParsePost s at_ w)) := parse_any s at_ w (by omega) hm
  clear hm
  by_cases hy0 : Q.whyP (bl s) = 0
  · have hbk := hbk hy0
    obtain ⟨r, hr⟩ : ∃ r, r = Q.ruP (bl s) at_ := ⟨_, rfl⟩
    have HP : Hid (Calls Tryd.prog 7 #[.string s, .int .i64 at_] w fun e w' => ∃ v, e = .returned (.tuple #[v, .agg #[.int .i64 0, .int .i64 0]]) ∧ RuV w'.heap.size w' v r ∧ Below w.heap.size w w') := by
      have := HP0.out
      unfold ParsePost at this
      rw [hy0, ← hr, show Q.faultAt (bl s) at_ = 0 by unfold Q.faultAt; rw [if_pos hy0]] at this
      exact this
    rw [← hr] at hl hfm hbk
    obtain ⟨kd, hkd⟩ : ∃ k, k = r.kind := ⟨_, rfl⟩
    obtain ⟨ra, hra⟩ : ∃ k, k = r.at_ := ⟨_, rfl⟩
    have HK : Hid (∀ B W v, RuV B W v r → ∃ ta tc sa sc ca cn cc, v = .agg #[.slice ta r.targets.length tc, .int .i64 kd, .slice sa r.sources.length sc, .slice ca cn cc, .int .i64 ra]) := by
      rintro B W v ⟨vt, vs, vc, rfl, ⟨a1, n1, c1, rfl, hn1, _⟩, ⟨a2, n2, c2, rfl, hn2, _⟩, ⟨a3, n3, c3, rfl, _⟩⟩
      refine ⟨a1, c1, a2, c2, a3, n3, c3, ?_⟩
      rw [hkd, hra, hn1, hn2, List.length_map, List.length_map]
    have HS : Hid (∀ W v v', RuV W.heap.size W v r → RuV W.heap.size W v' r → Calls Tryd.prog 9 #[v, v'] W fun e w' => e = .returned (.bool true) ∧ Below W.heap.size W w') := fun W v v' h1 h2 => rsame_any r v v' W h1 h2 (by omega) (by omega) (by omega)
    have hneq : ∀ W, Sem.run Tryd.prog (binOp .neq 27 (.agg #[.int .i64 0, .int .i64 0]) (.agg #[.int .i64 0, .int .i64 0])) W = .ok (.bool false) W := fun W => by rw [neqFault]; rfl
    have heq : ∀ W, Sem.run Tryd.prog (binOp .eql 27 (.agg #[.int .i64 0, .int .i64 0]) (.agg #[.int .i64 0, .int .i64 0])) W = .ok (.bool true) W := fun W => by rw [eqlFault]; rfl
    obtain ⟨tn, htn⟩ : ∃ n, n = r.targets.length := ⟨_, rfl⟩
    obtain ⟨sn, hsn⟩ : ∃ n, n = r.sources.length := ⟨_, rfl⟩
    rw [← htn, ← hsn] at HK hl hfm
    have htl := hl.1
    have hsl := hl.2.1
    have HF : Hid (tn + sn ≤ 400 → ∀ W v, RuV W.heap.size W v r → Calls Tryd.prog 11 #[v] W fun e w' => e = .returned (.string (ba (Q.format r))) ∧ Below W.heap.size W w') := fun h W v hv =>
      format_any r v W hv (by omega) (by omega) (by omega) (hfm h).2 (hfm h).1
    have HP2 : Hid (tn + sn ≤ 400 → ∀ W, Mx W → Calls Tryd.prog 7 #[.string (ba (Q.format r)), .int .i64 at_] W fun e w' => ∃ v, e = .returned (.tuple #[v, .agg #[.int .i64 0, .int .i64 0]]) ∧ RuV w'.heap.size w' v r ∧ Below W.heap.size W w') := fun h W hW => by
      have hp := parse_any (ba (Q.format r)) at_ W (by rw [ba_size]; exact (hfm h).1) hW
      unfold ParsePost at hp
      rw [bl_ba, hbk.1, hbk.2, show Q.faultAt (Q.format r) at_ = 0 by unfold Q.faultAt; rw [if_pos hbk.1]] at hp
      exact hp
    obtain ⟨x, hx⟩ : ∃ x, x = ba (Q.format r) := ⟨_, rfl⟩
    rw [← hx] at HF HP2
    clear hx htn hsn hl hfm hbk hkd hra hr hy0 HP0 hs
    go_enter Tryd.func4, Tryd.ntmps4
    go_wp2_with fail
    refine HP.out.mono ?_
    rintro e w1 ⟨v, rfl, hv, h1⟩
    obtain ⟨ta, tc, sa, sc, ca, cn, cc, rfl⟩ := HK.out _ _ _ hv
    have HV : Hid (RuV w1.heap.size w1 (.agg #[.slice ta tn tc, .int .i64 kd, .slice sa sn sc, .slice ca cn cc, .int .i64 ra]) r) := hv
    have HB : Hid (Below w.heap.size w w1) := h1
    clear hv h1 HP
    obtain ⟨W1, hW1⟩ : ∃ W1, W1 = (w1.alloc (.cells #[.slice ta tn tc, .int .i64 kd, .slice sa sn sc, .slice ca cn cc, .int .i64 ra] 24)).alloc (.cells #[.int .i64 0, .int .i64 0] 27) := ⟨_, rfl⟩
    have hb1 : Below w1.heap.size w1 W1 := by rw [hW1]; exact (below_alloc1 _ _).alloc (by simp) _
    have e1 : W1.heap[w1.heap.size]? = some (.cells #[.slice ta tn tc, .int .i64 kd, .slice sa sn sc, .slice ca cn cc, .int .i64 ra] 24 (0, 0)) := by
      rw [hW1, Below.heap_alloc _ _ _ (by simp)]; exact alloc_b rfl
    have HB1 : Hid (Below w.heap.size w W1) := below_trans HB.out hb1 HB.out.size
    have HV1 : Hid (RuV W1.heap.size W1 (.agg #[.slice ta tn tc, .int .i64 kd, .slice sa sn sc, .slice ca cn cc, .int .i64 ra]) r) := (HV.out.below hb1).mono hb1.size
    have HE1 : Hid (W1.heap[w1.heap.size]? = some (.cells #[.slice ta tn tc, .int .i64 kd, .slice sa sn sc, .slice ca cn cc, .int .i64 ra] 24 (0, 0))) := e1
    have HW1 : Hid (W1 = (w1.alloc (.cells #[.slice ta tn tc, .int .i64 kd, .slice sa sn sc, .slice ca cn cc, .int .i64 ra] 24)).alloc (.cells #[.int .i64 0, .int .i64 0] 27)) := hW1
    clear hW1 hb1 e1 HV HB
    by_cases h400 : 400 < tn + sn
    · have h400i : (400 : Int) < (tn : Int) + (sn : Int) := by omega
      clear h400
      go_wp2_with fail
      rw [← HW1.out]
      refine (HA.out _ HB1.out).mono ?_
      rintro e w2 ⟨rfl, h2⟩
      have H2 : Hid (Below w.heap.size w w2) := below_trans HB1.out h2 HB1.out.size
      clear h2
      go_wp2_with fail
      go_ret
      exact ⟨rfl, H2.out⟩
    · have h400i : ¬ (400 : Int) < (tn : Int) + (sn : Int) := by omega
      have HF1 : Hid (∀ W v, RuV W.heap.size W v r → Calls Tryd.prog 11 #[v] W fun e w' => e = .returned (.string x) ∧ Below W.heap.size W w') := HF.out (by omega)
      have HP3 : Hid (∀ W, Mx W → Calls Tryd.prog 7 #[.string x, .int .i64 at_] W fun e w' => ∃ v, e = .returned (.tuple #[v, .agg #[.int .i64 0, .int .i64 0]]) ∧ RuV w'.heap.size w' v r ∧ Below W.heap.size W w') := HP2.out (by omega)
      clear h400 HF HP2
      go_wp2_with fail
      rw [← HW1.out]
      refine (HF1.out _ _ HV1.out).mono ?_
      rintro e w2 ⟨rfl, h2⟩
      have HB2 : Hid (Below w.heap.size w w2) := below_trans HB1.out h2 HB1.out.size
      have HV2 : Hid (RuV w2.heap.size w2 (.agg #[.slice ta tn tc, .int .i64 kd, .slice sa sn sc, .slice ca cn cc, .int .i64 ra]) r) := (HV1.out.below h2).mono h2.size
      have HE2 : Hid (w2.heap[w1.heap.size]? = some (.cells #[.slice ta tn tc, .int .i64 kd, .slice sa sn sc, .slice ca cn cc, .int .i64 ra] 24 (0, 0))) := (h2.block _ (Array.getElem?_eq_some_iff.1 HE1.out).1).trans HE1.out
      clear h2 HB1 HV1 HE1 HW1
      go_wp2_with fail
      refine (HP3.out w2 (HM.out _ HB2.out)).mono ?_
      rintro e w3 ⟨v, rfl, hv, h3⟩
      obtain ⟨ta', tc', sa', sc', ca', cn', cc', rfl⟩ := HK.out _ _ _ hv
      have g1 := (h3.block _ (Array.getElem?_eq_some_iff.1 HE2.out).1).trans HE2.out
      have b0 := box_in2 g1 (.cells #[.slice ta' tn tc', .int .i64 kd, .slice sa' sn sc', .slice ca' cn' cc', .int .i64 ra] 24) (.cells #[.int .i64 0, .int .i64 0] 27) 0 rfl
      have b1 := box_in2 g1 (.cells #[.slice ta' tn tc', .int .i64 kd, .slice sa' sn sc', .slice ca' cn' cc', .int .i64 ra] 24) (.cells #[.int .i64 0, .int .i64 0] 27) 1 rfl
      have b2 := box_in2 g1 (.cells #[.slice ta' tn tc', .int .i64 kd, .slice sa' sn sc', .slice ca' cn' cc', .int .i64 ra] 24) (.cells #[.int .i64 0, .int .i64 0] 27) 2 rfl
      have b3 := box_in2 g1 (.cells #[.slice ta' tn tc', .int .i64 kd, .slice sa' sn sc', .slice ca' cn' cc', .int .i64 ra] 24) (.cells #[.int .i64 0, .int .i64 0] 27) 3 rfl
      have b4 := box_in2 g1 (.cells #[.slice ta' tn tc', .int .i64 kd, .slice sa' sn sc', .slice ca' cn' cc', .int .i64 ra] 24) (.cells #[.int .i64 0, .int .i64 0] 27) 4 rfl
      have hb3 : Below w3.heap.size w3 ((w3.alloc (.cells #[.slice ta' tn tc', .int .i64 kd, .slice sa' sn sc', .slice ca' cn' cc', .int .i64 ra] 24)).alloc (.cells #[.int .i64 0, .int .i64 0] 27)) := (below_alloc1 _ _).alloc (by simp) _
      have HB3 : Hid (Below w.heap.size w ((w3.alloc (.cells #[.slice ta' tn tc', .int .i64 kd, .slice sa' sn sc', .slice ca' cn' cc', .int .i64 ra] 24)).alloc (.cells #[.int .i64 0, .int .i64 0] 27))) :=
        below_trans (below_trans HB2.out h3 HB2.out.size) hb3 (Nat.le_trans HB2.out.size h3.size)
      have HV3 : Hid (RuV _ _ _ r ∧ RuV _ _ _ r) := ⟨(((HV2.out.below h3).mono h3.size).below hb3).mono hb3.size, (hv.below hb3).mono hb3.size⟩
      clear hb3 hv h3 HB2 HV2 g1 HE2
      go_wp2_with fail
      refine (HS.out _ _ _ HV3.out.1 HV3.out.2).mono ?_
      rintro e w4 ⟨rfl, h4⟩
      have HB4 : Hid (Below w.heap.size w w4) := below_trans HB3.out h4 HB3.out.size
      clear h4 b0 b1 b2 b3 b4
      go_wp2_with fail
      refine (HA.out _ HB4.out).mono ?_
      rintro e w5 ⟨rfl, h5⟩
      have HB5 : Hid (Below w.heap.size w w5) := below_trans HB4.out h5 HB4.out.size
      clear h5
      go_wp2
      go_ret
      exact ⟨rfl, HB5.out⟩
  · obtain ⟨y, hy⟩ : ∃ y : Int, y = (Q.whyP (bl s) : Nat) := ⟨_, rfl⟩
    obtain ⟨z, hz⟩ : ∃ z : Int, z = Q.faultAt (bl s) at_ := ⟨_, rfl⟩
    obtain ⟨r, hr⟩ : ∃ r, r = Q.ruP (bl s) at_ := ⟨_, rfl⟩
    have HP : Hid (Calls Tryd.prog 7 #[.string s, .int .i64 at_] w fun e w' => ∃ v, e = .returned (.tuple #[v, .agg #[.int .i64 y, .int .i64 z]]) ∧ RuV w'.heap.size w' v r ∧ Below w.heap.size w w') := by
      rw [hy, hz, hr]; exact HP0.out
    have hneq : ∀ W, Sem.run Tryd.prog (binOp .neq 27 (.agg #[.int .i64 y, .int .i64 z]) (.agg #[.int .i64 0, .int .i64 0])) W = .ok (.bool true) W := fun W => by
      rw [neqFault, show (y == 0) = false by simp; omega]; rfl
    clear hy hz hr hl hfm hbk HP0 hy0 hs
    go_enter Tryd.func4, Tryd.ntmps4
    go_wp2_with fail
    refine HP.out.mono ?_
    rintro e w1 ⟨v, rfl, hv, h1⟩
    obtain ⟨vt, vs, vc, rfl, ⟨a1, n1, c1, rfl, _⟩, ⟨a2, n2, c2, rfl, _⟩, ⟨a3, n3, c3, rfl, _⟩⟩ := hv
    have HB : Hid (∀ o o', Below w.heap.size w ((w1.alloc o).alloc o')) := fun o o' => (h1.alloc h1.size _).alloc (Nat.le_trans h1.size (by simp)) _
    clear h1 HP
    go_wp2_with fail
    refine (HA.out _ (HB.out _ _)).mono ?_
    rintro e w2 ⟨rfl, h2⟩
    have H2 : Hid (Below w.heap.size w w2) := below_trans (HB.out _ _) h2 (HB.out _ _).size
    clear h2
    go_wp2_with fail
    go_ret
    exact ⟨rfl, H2.out⟩
end Go.Proofs.YtbgnmchnfaknkaaDoor
