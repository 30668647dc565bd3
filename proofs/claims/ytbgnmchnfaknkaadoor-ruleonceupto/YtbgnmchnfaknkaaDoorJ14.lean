/-
  RuleOnce.
-/
import Derived.Test.YtbgnmchnfaknkaaDoorJ13
namespace Go.Proofs.YtbgnmchnfaknkaaDoor
open Go.RowKit Go.Shelf Go.Maps

/-- What the parameter of a law gives. -/
structure Par (l : List Q.Ru) : Prop where
  len : l.length ≤ 1100000
  tgt : ∀ r ∈ l, r.targets.length ≤ 1100000
  sz : Q.Sz 1100000 l
  names : ∀ r ∈ l, ∀ t ∈ r.targets, t.length ≤ 140737488355328
theorem Par.lim {l : List Q.Ru} (h : Par l) (h1 : l.length ≤ 100) (h2 : Q.tot l ≤ 300) : Lim 1100000 l := ⟨by omega, by omega, h.sz, by omega, h.names⟩

set_option maxRecDepth 20000 in
set_option maxHeartbeats 2000000 in
theorem once_law (l : List Q.Ru) (v : Value) (w : World) (hv : RLst w.heap.size w v l) (hp : Par l) (hm : Mx w) :
    Calls Tryd.prog 5 #[v] w fun e w' => e = .returned (.bool true) ∧ Below w.heap.size w w' := by
  obtain ⟨pa, n, pc, rfl⟩ : ∃ a n c, v = .slice a n c := by obtain ⟨a, n, c, h, _⟩ := hv; exact ⟨a, n, c, h⟩
  have HF : Hid (Calls Tryd.prog 12 #[.slice pa n pc] w (FarPost l w)) := far_any l _ w.heap.size w hv (Nat.le_refl _) (by have := hp.len; omega) (fun r hr => by have := hp.tgt r hr; omega)
  have HA : Hid (∀ W, Below w.heap.size w W → Calls Tryd.prog 10 #[] W fun e w' => e = .returned (.bool true) ∧ Below W.heap.size W w') := fun W hW => alive_any W (hm.below hW hm.pos)
  have HV : Hid (RLst w.heap.size w (.slice pa n pc) l ∧ Par l) := ⟨hv, hp⟩
  have hneq := fun y z W => neqFault y z 0 0 W
  have heq := fun y z W => eqlFault y z 0 0 W
  clear hm hp hv
  go_enter Tryd.func5, Tryd.ntmps5
  go_wp2_with fail
  refine HF.out.mono ?_
  rintro e w1 ⟨b, rfl, hb1, hfar⟩
  have H1 : Hid (Below w.heap.size w w1) := hb1
  have HL : Hid (b = false → l.length ≤ 100 ∧ Q.tot l ≤ 300) := hfar
  clear hb1 hfar HF
  cases b with
  | true =>
    go_wp2_with fail
    refine (HA.out _ H1.out).mono ?_
    rintro e w2 ⟨rfl, hb2⟩
    have H2 : Hid (Below w.heap.size w w2) := below_trans H1.out hb2 H1.out.size
    clear hb2
    go_wp2_with fail
    go_ret
    exact ⟨rfl, H2.out⟩
  | false =>
    have HLim : Hid (Lim 1100000 l) := HV.out.2.lim (HL.out rfl).1 (HL.out rfl).2
    have HJ : Hid (Calls Tryd.prog 13 #[.slice pa n pc] w1 (JoinPost l w1)) := join_any 1100000 l _ w.heap.size w1 (HV.out.1.below H1.out) H1.out.size HLim.out
    go_wp2_with fail
    refine HJ.out.mono ?_
    rintro e w2 ⟨va, y, z, rfl, hb2, hsome, hnone⟩
    have H2 : Hid (Below w.heap.size w w2) := below_trans H1.out hb2 H1.out.size
    clear hb2 HJ HL
    cases hj : (Q.joinL classF [] l).1 with
    | none =>
      obtain ⟨rfl, rfl⟩ := hnone hj
      clear hsome hnone hj
      go_wp2_with fail
      refine (HA.out _ (H2.out.alloc H2.out.size _)).mono ?_
      rintro e w3 ⟨rfl, hb3⟩
      have H3 : Hid (Below w.heap.size w w3) := below_trans (H2.out.alloc H2.out.size _) hb3 (by have := H2.out.size; simp; omega)
      clear hb3
      go_wp2_with fail
      go_ret
      exact ⟨rfl, H3.out⟩
    | some a =>
      obtain ⟨rfl, rfl, hra⟩ := hsome a hj
      obtain ⟨hla, hoa⟩ := lim_again HLim.out (by omega) hj
      obtain ⟨aa, an, ac, rfl⟩ : ∃ a n c, va = .slice a n c := by obtain ⟨a, n, c, h, _⟩ := hra; exact ⟨a, n, c, h⟩
      have han := hra.len
      have hacap := han.2
      have hal : an ≤ 1000000 := by rw [han.1]; exact hla.len
      have HX : Hid (Lim (400 * 1100000) a ∧ Q.Once a ∧ an = a.length ∧ RLst w2.heap.size w2 (.slice aa an ac) a) := ⟨hla, hoa, han.1, hra⟩
      clear hsome hnone hj hla hoa han hra
      go_wp2_with fail
      obtain ⟨w3, hw3⟩ : ∃ w3, w3 = w2.alloc (.cells #[.int .i64 0, .int .i64 0] 27) := ⟨_, rfl⟩
      have H3 : Hid (Below w2.heap.size w2 w3 ∧ Below w.heap.size w w2) := ⟨by rw [hw3]; exact below_alloc1 _ _, H2.out⟩
      rw [← hw3]
      clear hw3 H1 H2
      go_loopw [30] (fun vi wr => ∃ k : Nat, k ≤ an ∧ vi = .int .i64 k ∧ Hid (Below w2.heap.size w2 wr)) (fun vi _ => an - (intOf vi).toNat)
      case atStart => exact ⟨0, Nat.zero_le _, rfl, H3.out.1⟩
      case round =>
        obtain ⟨k, hk, rfl, HI⟩ := hrel
        obtain ⟨wo, rfl⟩ : ∃ wo : World, wo = wr := ⟨_, rfl⟩
        by_cases hlt : k < an
        · have hkl : k < a.length := by rw [← HX.out.2.2.1]; exact hlt
          have hil : (k : Int) < (an : Int) := by omega
          have hil2 : (k : Int) ≤ (an : Int) := by omega
          have hil3 : (k : Int) ≤ (ac : Int) := by omega
          obtain ⟨x, hx⟩ : ∃ r, a[k]? = some r := ⟨a[k], List.getElem?_eq_some_iff.2 ⟨hkl, rfl⟩⟩
          have hr := HX.out.2.2.2.below HI.out
          obtain ⟨g, go, ta, tn, tc, sa, sn, sc, ca, cn, cc, rfl, hb, p0, p1, p2, p3, p4, w0, _, _⟩ := hr.pick hx
          obtain ⟨t, htt⟩ := HX.out.2.1.one x (List.mem_of_getElem? hx)
          rw [htt] at w0
          have htn : tn = 1 := w0.len.1
          subst htn
          obtain ⟨bt, ot, rfl, hbt, hct⟩ := w0.pick 0 (by simp)
          simp only [List.map_cons, List.map_nil, List.getElem_cons_zero, Nat.add_zero] at hct
          have htc := w0.len.2
          obtain ⟨kx, hkx⟩ : ∃ k, k = x.kind := ⟨_, rfl⟩
          obtain ⟨rx, hrx⟩ : ∃ k, k = x.at_ := ⟨_, rfl⟩
          rw [← hkx] at p1
          rw [← hrx] at p4
          obtain ⟨W1, hW1⟩ : ∃ W1, W1 = wo.alloc (.cells #[.slice (some ⟨bt, ot, none⟩) 1 tc, .int .i64 kx, .slice sa sn sc, .slice ca cn cc, .int .i64 rx] 24) := ⟨_, rfl⟩
          have hW1b : Below wo.heap.size wo W1 := by rw [hW1]; exact below_alloc1 _ _
          have hbx : W1.heap[wo.heap.size]? = some (.cells #[.slice (some ⟨bt, ot, none⟩) 1 tc, .int .i64 kx, .slice sa sn sc, .slice ca cn cc, .int .i64 rx] 24 (0, 0)) := by rw [hW1]; exact alloc_b rfl
          have x0 := cell_in hbx 0 rfl
          have HW : Hid (Below wo.heap.size wo W1 ∧ W1.heap[wo.heap.size]? = some (.cells #[.slice (some ⟨bt, ot, none⟩) 1 tc, .int .i64 kx, .slice sa sn sc, .slice ca cn cc, .int .i64 rx] 24 (0, 0)) ∧ wo.cell? ⟨bt, ot, none⟩ = some (.string (ba t)) ∧ bt < wo.heap.size ∧ a[k]? = some x ∧ x.targets = [t] ∧ kx = x.kind) := ⟨hW1b, hbx, hct, Nat.lt_of_lt_of_le hbt HI.out.size, hx, htt, hkx⟩
          clear hW1b hbx hct hx htt hkx hrx w0 hr
          go_upto_region 9 with fail
          rw [← hW1]
          clear hW1
          go_wp2_with fail
          go_loopw [43] (fun vi wr => ∃ j : Nat, j ≤ k ∧ vi = .int .i64 j ∧ Hid (Below W1.heap.size W1 wr)) (fun vi _ => k - (intOf vi).toNat)
          case atStart => exact ⟨0, Nat.zero_le _, rfl, Below.refl _ _⟩
          case round =>
            obtain ⟨j, hj, rfl, HJ⟩ := hrel
            by_cases hjk : j < k
            · have hjl : j < a.length := by omega
              have hji : (j : Int) < (k : Int) := by omega
              obtain ⟨y, hy⟩ : ∃ r, a[j]? = some r := ⟨a[j], List.getElem?_eq_some_iff.2 ⟨hjl, rfl⟩⟩
              have hbw : Below w2.heap.size w2 wr := below_trans (below_trans HI.out HW.out.1 HI.out.size) HJ.out (Nat.le_trans HI.out.size HW.out.1.size)
              have hr := HX.out.2.2.2.below hbw
              obtain ⟨g', go', ta', tn', tc', sa', sn', sc', ca', cn', cc', hgg, hb', q0, q1, q2, q3, q4, w0, _, _⟩ := hr.pick hy
              cases hgg
              obtain ⟨t', htt'⟩ := HX.out.2.1.one y (List.mem_of_getElem? hy)
              rw [htt'] at w0
              have htn' : tn' = 1 := w0.len.1
              subst htn'
              obtain ⟨bt', ot', rfl, hbt', hct'⟩ := w0.pick 0 (by simp)
              simp only [List.map_cons, List.map_nil, List.getElem_cons_zero, Nat.add_zero] at hct'
              have htc' := w0.len.2
              have hct := ((HJ.out.cell (p := ⟨bt, ot, none⟩) (Nat.lt_of_lt_of_le HW.out.2.2.2.1 HW.out.1.size)).trans (HW.out.1.cell (p := ⟨bt, ot, none⟩) HW.out.2.2.2.1)).trans HW.out.2.2.1
              have hbx := (HJ.out.block wo.heap.size (Array.getElem?_eq_some_iff.1 HW.out.2.1).1).trans HW.out.2.1
              have HDB : Hid (t = t' → kx = 3 ∧ y.kind = 3) := fun e => by
                have := HX.out.2.1.dbl k j x y hjk HW.out.2.2.2.2.1 hy (by rw [HW.out.2.2.2.2.2.1, htt', e])
                rw [HW.out.2.2.2.2.2.2]; exact this
              obtain ⟨ky, hky⟩ : ∃ k, k = y.kind := ⟨_, rfl⟩
              obtain ⟨ry, hry⟩ : ∃ k, k = y.at_ := ⟨_, rfl⟩
              rw [← hky] at q1 HDB
              rw [← hry] at q4
              obtain ⟨u, hu⟩ : ∃ u, u = ba t := ⟨_, rfl⟩
              obtain ⟨u', hu'⟩ : ∃ u, u = ba t' := ⟨_, rfl⟩
              have HU : Hid (u = u' → t = t') := fun e => by rw [hu, hu'] at e; have := congrArg bl e; simpa [bl_ba] using this
              rw [← hu] at hct
              rw [← hu'] at hct'
              obtain ⟨W2, hW2⟩ : ∃ W2, W2 = wr.alloc (.cells #[.slice (some ⟨bt', ot', none⟩) 1 tc', .int .i64 ky, .slice sa' sn' sc', .slice ca' cn' cc', .int .i64 ry] 24) := ⟨_, rfl⟩
              have hW2b : Below wr.heap.size wr W2 := by rw [hW2]; exact below_alloc1 _ _
              have hby : W2.heap[wr.heap.size]? = some (.cells #[.slice (some ⟨bt', ot', none⟩) 1 tc', .int .i64 ky, .slice sa' sn' sc', .slice ca' cn' cc', .int .i64 ry] 24 (0, 0)) := by rw [hW2]; exact alloc_b rfl
              have hbx2 := (hW2b.block wo.heap.size (Array.getElem?_eq_some_iff.1 hbx).1).trans hbx
              have z0 := cell_in hbx2 0 rfl
              have z1 := cell_in hbx2 1 rfl
              have y0 := cell_in hby 0 rfl
              have y1 := cell_in hby 1 rfl
              have hbl : bt < wr.heap.size := by
                have h1 := HW.out.2.2.2.1
                have h2 := HW.out.1.size
                have h3 := HJ.out.size
                omega
              have s1 : W2.cell? ⟨bt, ot, none⟩ = some (.string u) := (hW2b.cell (p := ⟨bt, ot, none⟩) hbl).trans hct
              have s2 : W2.cell? ⟨bt', ot', none⟩ = some (.string u') := (hW2b.cell (p := ⟨bt', ot', none⟩) (Nat.lt_of_lt_of_le hbt' hbw.size)).trans hct'
              have HN : Hid (Below W1.heap.size W1 W2) := below_trans HJ.out hW2b HJ.out.size
              clear hct hct' hbx hbx2 hby hW2b w0 hr hy htt' hbw hky hry hu hu'
              go_upto_region 14 with fail
              rw [← hW2]
              clear hW2
              by_cases he : u = u'
              · subst he
                obtain ⟨d1, d2⟩ := HDB.out (HU.out rfl)
                have e1 : (kx != 3) = false := by rw [d1]; rfl
                have e2 : (ky != 3) = false := by rw [d2]; rfl
                clear d1 d2 HDB HU
                go_quiet (fail)
                go_wp2_with fail
                go_roundw
                case rel => exact ⟨j + 1, by omega, by go_num, below_drewN HN.out _⟩
                case measure => simp [intOf]; omega
              · have he1 : (u.toList == u'.toList) = false := by
                  rw [beq_eq_false_iff_ne, Lib.toList_data, Lib.toList_data]; exact fun h => he (bl_inj h)
                have he2 : ¬ u.toList = u'.toList := by simpa using he1
                clear HDB HU
                go_quiet (fail)
                go_wp2_with fail
                go_roundw
                case rel => exact ⟨j + 1, by omega, by go_num, below_drewN HN.out _⟩
                case measure => simp [intOf]; omega
            · have hnj : ¬ (j : Int) < (k : Int) := by omega
              have HN : Hid (Below w2.heap.size w2 wr) := below_trans (below_trans HI.out HW.out.1 HI.out.size) HJ.out (Nat.le_trans HI.out.size HW.out.1.size)
              go_wp2_with fail
              go_roundw
              case rel => exact ⟨k + 1, by omega, by go_num, HN.out⟩
              case measure => simp [intOf]; omega
        · have hnl : ¬ (k : Int) < (an : Int) := by omega
          have HJ2 : Hid (Calls Tryd.prog 13 #[.slice aa an ac] wo (JoinPost a wo)) := join_any (400 * 1100000) a _ w2.heap.size wo (HX.out.2.2.2.below HI.out) HI.out.size HX.out.1
          have HAG : Hid ((Q.joinL classF [] a).1 = some a) := by unfold Hid; rw [Q.again classF HX.out.2.1]
          go_wp2_with fail
          refine HJ2.out.mono ?_
          rintro e w4 ⟨vb, y, z, rfl, hb4, hsome, _⟩
          obtain ⟨rfl, rfl, hrb⟩ := hsome a HAG.out
          clear hsome
          have hB4 : Below w2.heap.size w2 (w4.alloc (.cells #[.int .i64 0, .int .i64 0] 27)) := (below_trans HI.out hb4 HI.out.size).alloc (Nat.le_trans HI.out.size hb4.size) _
          have hB0 : Below w.heap.size w (w4.alloc (.cells #[.int .i64 0, .int .i64 0] 27)) := below_trans H3.out.2 hB4 H3.out.2.size
          have HC : Hid (Calls Tryd.prog 14 #[.slice aa an ac, vb] (w4.alloc (.cells #[.int .i64 0, .int .i64 0] 27)) fun x w' => x = .returned (.bool true) ∧ Below (w4.alloc (.cells #[.int .i64 0, .int .i64 0] 27)).heap.size (w4.alloc (.cells #[.int .i64 0, .int .i64 0] 27)) w') :=
            all_any a _ _ _ ((HX.out.2.2.2.below hB4).mono hB4.size) ((hrb.below (below_alloc1 _ _)).mono (by simp)) (by have := HX.out.1.len; omega) (fun r hr => by
              have h1 := HX.out.1.sz r hr
              obtain ⟨t, ht⟩ := HX.out.2.1.one r hr
              rw [ht]; simp; omega)
          have HB0 : Hid _ := hB0
          clear hrb hb4 hB4 hB0 HJ2
          go_wp2_with fail
          refine HC.out.mono ?_
          rintro e w5 ⟨rfl, hb5⟩
          have H5 : Hid (Below w.heap.size w w5) := below_trans HB0.out hb5 HB0.out.size
          clear hb5
          go_wp2_with fail
          refine (HA.out _ H5.out).mono ?_
          rintro e w6 ⟨rfl, hb6⟩
          have H6 : Hid (Below w.heap.size w w6) := below_trans H5.out hb6 H5.out.size
          clear hb6
          go_wp2_with fail
          go_ret
          exact ⟨rfl, H6.out⟩
end Go.Proofs.YtbgnmchnfaknkaaDoor
