/-
  RuleSources.
-/
import Derived.Test.YtbgnmchnfaknkaaDoorJ15
namespace Go.Proofs.YtbgnmchnfaknkaaDoor
open Go.RowKit Go.Shelf Go.Maps

abbrev saidS (f : Q.Ru → List (List UInt8)) (t : List UInt8) (l : List Q.Ru) (k : Nat) : List ByteArray := (Q.said f t (l.take k)).map ba
abbrev saidJ (f : Q.Ru → List (List UInt8)) (t : List UInt8) (l : List Q.Ru) (k : Nat) (r : Q.Ru) (j : Nat) : List ByteArray := (Q.said f t (l.take k) ++ Q.saidG f t r (r.targets.take j)).map ba
abbrev ofS (f : Q.Ru → List (List UInt8)) (t : List UInt8) (a : List Q.Ru) (k : Nat) : List ByteArray := (Q.ofG f t (a.take k)).map ba
theorem saidJ_zero (f : Q.Ru → List (List UInt8)) (t : List UInt8) (l : List Q.Ru) (k : Nat) (r : Q.Ru) : saidJ f t l k r 0 = saidS f t l k := by simp [saidJ, saidS, Q.saidG]
theorem saidJ_end (f : Q.Ru → List (List UInt8)) (t : List UInt8) (l : List Q.Ru) (k : Nat) (r : Q.Ru) (h : l[k]? = some r) (j : Nat) (hj : r.targets.length ≤ j) : saidJ f t l k r j = saidS f t l (k + 1) := by
  unfold saidJ saidS
  rw [Q.said_take f t l k r h, List.take_of_length_le hj]
theorem saidJ_yes (f : Q.Ru → List (List UInt8)) (t : List UInt8) (l : List Q.Ru) (k : Nat) (r : Q.Ru) (j : Nat) (h : r.targets[j]? = some t) : saidJ f t l k r (j + 1) = saidJ f t l k r j ++ (f r).map ba := by
  unfold saidJ
  rw [Q.saidG_take f t r r.targets j t h, if_pos rfl, ← List.append_assoc, List.map_append]
theorem saidJ_no (f : Q.Ru → List (List UInt8)) (t : List UInt8) (l : List Q.Ru) (k : Nat) (r : Q.Ru) (j : Nat) (u : List UInt8) (h : r.targets[j]? = some u) (hu : u ≠ t) : saidJ f t l k r (j + 1) = saidJ f t l k r j := by
  unfold saidJ
  rw [Q.saidG_take f t r r.targets j u h, if_neg hu, List.append_nil]
theorem ofS_yes (f : Q.Ru → List (List UInt8)) (t : List UInt8) (a : List Q.Ru) (k : Nat) (y : Q.Ru) (h : a[k]? = some y) (ht : y.targets = [t]) : ofS f t a (k + 1) = ofS f t a k ++ (f y).map ba := by
  unfold ofS
  rw [Q.ofG_take f t a k y h, if_pos (by simp [Q.hasG, ht]), List.map_append]
theorem ofS_no (f : Q.Ru → List (List UInt8)) (t : List UInt8) (a : List Q.Ru) (k : Nat) (y : Q.Ru) (u : List UInt8) (h : a[k]? = some y) (ht : y.targets = [u]) (hu : u ≠ t) : ofS f t a (k + 1) = ofS f t a k := by
  unfold ofS
  rw [Q.ofG_take f t a k y h, if_neg (by simp [Q.hasG, ht]; exact hu), List.append_nil]

set_option maxRecDepth 20000 in
set_option maxHeartbeats 4000000 in
theorem sources_law (l : List Q.Ru) (v : Value) (w : World) (hv : RLst w.heap.size w v l) (hp : Par l) (hm : Mx w) :
    Calls Tryd.prog 6 #[v] w fun e w' => e = .returned (.bool true) ∧ Below w.heap.size w w' := by
  obtain ⟨pa, n, pc, rfl⟩ : ∃ a n c, v = .slice a n c := by obtain ⟨a, n, c, h, _⟩ := hv; exact ⟨a, n, c, h⟩
  have HF : Hid (Calls Tryd.prog 12 #[.slice pa n pc] w (FarPost l w)) := far_any l _ w.heap.size w hv (Nat.le_refl _) (by have := hp.len; omega) (fun r hr => by have := hp.tgt r hr; omega)
  have HA : Hid (∀ W, Below w.heap.size w W → Calls Tryd.prog 10 #[] W fun e w' => e = .returned (.bool true) ∧ Below W.heap.size W w') := fun W hW => alive_any W (hm.below hW hm.pos)
  have hn := hv.len
  have hncap := hn.2
  have hnl : n ≤ 1100000 := by rw [hn.1]; exact hp.len
  have HV : Hid (RLst w.heap.size w (.slice pa n pc) l ∧ Par l ∧ n = l.length) := ⟨hv, hp, hn.1⟩
  have hneq := fun y z W => neqFault y z 0 0 W
  clear hm hp hv hn
  go_enter Tryd.func6, Tryd.ntmps6
  go_wp2_with fail
  refine HF.out.mono ?_
  rintro e w1 ⟨b, rfl, hb1, hfar⟩
  have H1 : Hid (Below w.heap.size w w1) := hb1
  have HL : Hid (b = false → l.length ≤ 100 ∧ Q.tot l ≤ 300) := hfar
  clear hb1 hfar HF
  cases b with
  | true =>
    go_wp2_with fail
    refine (HA.out _ H1.out).mono ?_
    rintro e w2 ⟨rfl, hb2⟩
    have H2 : Hid (Below w.heap.size w w2) := below_trans H1.out hb2 H1.out.size
    clear hb2
    go_wp2_with fail
    go_ret
    exact ⟨rfl, H2.out⟩
  | false =>
    have HLim : Hid (Lim 1100000 l) := HV.out.2.1.lim (HL.out rfl).1 (HL.out rfl).2
    have HJ : Hid (Calls Tryd.prog 13 #[.slice pa n pc] w1 (JoinPost l w1)) := join_any 1100000 l _ w.heap.size w1 (HV.out.1.below H1.out) H1.out.size HLim.out
    go_wp2_with fail
    refine HJ.out.mono ?_
    rintro e w2 ⟨va, y, z, rfl, hb2, hsome, hnone⟩
    have H2 : Hid (Below w.heap.size w w2) := below_trans H1.out hb2 H1.out.size
    clear hb2 HJ HL
    cases hj : (Q.joinL classF [] l).1 with
    | none =>
      obtain ⟨rfl, rfl⟩ := hnone hj
      clear hsome hnone hj
      go_wp2_with fail
      refine (HA.out _ (H2.out.alloc H2.out.size _)).mono ?_
      rintro e w3 ⟨rfl, hb3⟩
      have H3 : Hid (Below w.heap.size w w3) := below_trans (H2.out.alloc H2.out.size _) hb3 (by have := H2.out.size; simp; omega)
      clear hb3
      go_wp2_with fail
      go_ret
      exact ⟨rfl, H3.out⟩
    | some a =>
      obtain ⟨rfl, rfl, hra⟩ := hsome a hj
      obtain ⟨hla, hoa⟩ := lim_again HLim.out (by omega) hj
      obtain ⟨aa, an, ac, rfl⟩ : ∃ a n c, va = .slice a n c := by obtain ⟨a, n, c, h, _⟩ := hra; exact ⟨a, n, c, h⟩
      have han := hra.len
      have hacap := han.2
      have hal : an ≤ 1000000 := by rw [han.1]; exact hla.len
      have HX : Hid (Lim (400 * 1100000) a ∧ Q.Once a ∧ an = a.length ∧ RLst w2.heap.size w2 (.slice aa an ac) a) := ⟨hla, hoa, han.1, hra⟩
      -- all that is said of a target
      have HO : Hid ((∀ t, Q.ofG Q.Ru.sources t a = Q.said Q.Ru.sources t l ∧ Q.ofG Q.Ru.commands t a = Q.said Q.Ru.commands t l) ∧ ∀ t, (Q.said Q.Ru.sources t l).length ≤ 440000000 ∧ (Q.said Q.Ru.commands t l).length ≤ 440000000) := by
        refine ⟨fun t => ⟨?_, ?_⟩, fun t => ⟨?_, ?_⟩⟩
        · have := Q.ofG_join classF Q.Ru.sources Q.src_new (fun e r => rfl) t l [] a hj
          simpa [Q.ofG] using this
        · have := Q.ofG_join classF Q.Ru.commands Q.cmd_new (fun e r => rfl) t l [] a hj
          simpa [Q.ofG] using this
        · have h1 := Q.said_len Q.Ru.sources t 1100000 l fun r hr => (HLim.out.sz r hr).1
          have : Q.tot l * 1100000 ≤ 400 * 1100000 := Nat.mul_le_mul HLim.out.tot (Nat.le_refl _)
          omega
        · have h1 := Q.said_len Q.Ru.commands t 1100000 l fun r hr => (HLim.out.sz r hr).2
          have : Q.tot l * 1100000 ≤ 400 * 1100000 := Nat.mul_le_mul HLim.out.tot (Nat.le_refl _)
          omega
      clear hsome hnone hj hla hoa han hra
      go_wp2_with fail
      obtain ⟨w3, hw3⟩ : ∃ w3, w3 = w2.alloc (.cells #[.int .i64 0, .int .i64 0] 27) := ⟨_, rfl⟩
      obtain ⟨base, hbase⟩ : ∃ b, b = w3.heap.size := ⟨_, rfl⟩
      have H3 : Hid (Below w2.heap.size w2 w3 ∧ Below w.heap.size w w3 ∧ w2.heap.size ≤ base ∧ w.heap.size ≤ base ∧ base = w3.heap.size) := by
        have h1 : Below w2.heap.size w2 w3 := by rw [hw3]; exact below_alloc1 _ _
        have h2 : Below w.heap.size w w3 := below_trans H2.out h1 H2.out.size
        exact ⟨h1, h2, by rw [hbase]; exact h1.size, by rw [hbase]; exact h2.size, hbase⟩
      rw [← hw3]
      clear hw3 H1 H2 hbase
      go_loopw [31] (fun vi wr => ∃ k : Nat, k ≤ an ∧ vi = .int .i64 k ∧ Hid (Below base w3 wr)) (fun vi _ => an - (intOf vi).toNat)
      case atStart => exact ⟨0, Nat.zero_le _, rfl, Below.refl _ _⟩
      case round =>
        obtain ⟨k, hk, rfl, HI⟩ := hrel
        obtain ⟨wo, rfl⟩ : ∃ wo : World, wo = wr := ⟨_, rfl⟩
        by_cases hlt : k < an
        · have hkl : k < a.length := by rw [← HX.out.2.2.1]; exact hlt
          have hil : (k : Int) < (an : Int) := by omega
          obtain ⟨x, hx⟩ : ∃ r, a[k]? = some r := ⟨a[k], List.getElem?_eq_some_iff.2 ⟨hkl, rfl⟩⟩
          have HBase : Hid (base ≤ wo.heap.size) := by have := HI.out.size; unfold Hid; have h5 := H3.out.2.2.2.2; omega
          -- what lies in joined memory, in any later world
          have HR2 : Hid (∀ W, Below base w3 W → RLst w2.heap.size W (.slice aa an ac) a) := fun W hW => (HX.out.2.2.2.below H3.out.1).below (hW.mono H3.out.2.2.1)
          have HRL : Hid (∀ W, Below base w3 W → RLst w.heap.size W (.slice pa n pc) l) := fun W hW => (HV.out.1.below H3.out.2.1).below (hW.mono H3.out.2.2.2.1)
          obtain ⟨g, go, ta, tn, tc, sa, sn, sc, ca, cn, cc, haa, hb, p0, p1, p2, p3, p4, w0, _, _⟩ := (HR2.out wo HI.out).pick hx
          obtain ⟨t, htt⟩ := HX.out.2.1.one x (List.mem_of_getElem? hx)
          rw [htt] at w0
          have htn : tn = 1 := w0.len.1
          subst htn
          obtain ⟨bt, ot, rfl, hbt, hct⟩ := w0.pick 0 (by simp)
          simp only [List.map_cons, List.map_nil, List.getElem_cons_zero, Nat.add_zero] at hct
          have htc := w0.len.2
          subst haa
          obtain ⟨kx, hkx⟩ : ∃ k, k = x.kind := ⟨_, rfl⟩
          obtain ⟨rx, hrx⟩ : ∃ k, k = x.at_ := ⟨_, rfl⟩
          rw [← hkx] at p1
          rw [← hrx] at p4
          obtain ⟨W1, hW1⟩ : ∃ W1, W1 = wo.alloc (.cells #[.slice (some ⟨bt, ot, none⟩) 1 tc, .int .i64 kx, .slice sa sn sc, .slice ca cn cc, .int .i64 rx] 24) := ⟨_, rfl⟩
          have hW1b : Below wo.heap.size wo W1 := by rw [hW1]; exact below_alloc1 _ _
          have hbx : W1.heap[wo.heap.size]? = some (.cells #[.slice (some ⟨bt, ot, none⟩) 1 tc, .int .i64 kx, .slice sa sn sc, .slice ca cn cc, .int .i64 rx] 24 (0, 0)) := by rw [hW1]; exact alloc_b rfl
          obtain ⟨st, hst⟩ : ∃ st, st = ba t := ⟨_, rfl⟩
          rw [← hst] at hct
          -- the target's text, in any later world
          have HT : Hid (∀ W, Below base w3 W → W.cell? ⟨bt, ot, none⟩ = some (.string st)) := fun W hW => by
            have hb1 : bt < base := Nat.lt_of_lt_of_le hbt H3.out.2.2.1
            exact (hW.cell (p := ⟨bt, ot, none⟩) hb1).trans ((HI.out.cell (p := ⟨bt, ot, none⟩) hb1).symm.trans hct)
          have HS1 : Hid (SR base [(wo.heap.size, #[.slice (some ⟨bt, ot, none⟩) 1 tc, .int .i64 kx, .slice sa sn sc, .slice ca cn cc, .int .i64 rx])] (r4 (.slice none 0 0) (.slice none 0 0) (.slice none 0 0) (.slice none 0 0)) (r4 [] [] [] []) w3 W1) :=
            SR.start (below_trans HI.out (hW1b.mono HBase.out) (Nat.le_refl _)) (Nat.le_trans HBase.out hW1b.size) (fun p hp => by simp at hp; subst hp; exact hbx)
          obtain ⟨x6, hx6⟩ : ∃ x6, x6 = wo.heap.size := ⟨_, rfl⟩
          rw [← hx6] at HS1
          have HST : Hid (st = ba t) := hst
          clear hW1b hbx hct hx htt hkx hrx w0 hst
          go_upto_region 9 with fail
          rw [← hW1, ← hx6]
          clear hW1 hx6
          go_wp2_with fail
          go_loopw [7, 9, 37] (fun v7 v9 vi wr => ∃ k2 : Nat, k2 ≤ n ∧ vi = .int .i64 k2 ∧ Hid (SR base [(x6, #[.slice (some ⟨bt, ot, none⟩) 1 tc, .int .i64 kx, .slice sa sn sc, .slice ca cn cc, .int .i64 rx])] (r4 v7 (.slice none 0 0) v9 (.slice none 0 0)) (r4 (saidS Q.Ru.sources t l k2) [] (saidS Q.Ru.commands t l k2) []) w3 wr)) (fun _ _ vi _ => n - (intOf vi).toNat)
          case atStart => exact ⟨0, Nat.zero_le _, rfl, HS1.out⟩
          case round =>
            obtain ⟨k2, hk2, rfl, HS⟩ := hrel
            obtain ⟨wi, rfl⟩ : ∃ wi : World, wi = wr := ⟨_, rfl⟩
            by_cases hlt2 : k2 < n
            · have hkl2 : k2 < l.length := by rw [← HV.out.2.2]; exact hlt2
              have hil2 : (k2 : Int) < (n : Int) := by omega
              obtain ⟨r, hr⟩ : ∃ r, l[k2]? = some r := ⟨l[k2], List.getElem?_eq_some_iff.2 ⟨hkl2, rfl⟩⟩
              obtain ⟨b2, o2, ta2, tn2, tc2, sa2, sn2, sc2, ca2, cn2, cc2, rfl, hb2, q0, q1, q2, q3, q4, u0, u1, u2⟩ := (HRL.out wi HS.out.below).pick hr
              obtain ⟨kr2, hkr⟩ : ∃ k, k = r.kind := ⟨_, rfl⟩
              obtain ⟨ra2, hra⟩ : ∃ k, k = r.at_ := ⟨_, rfl⟩
              rw [← hkr] at q1
              rw [← hra] at q4
              have htn2 : tn2 = r.targets.length := by have := u0.len.1; rwa [List.length_map] at this
              have htc2 := u0.len.2
              have hsn2 : sn2 = r.sources.length := by have := u1.len.1; rwa [List.length_map] at this
              have hcn2 : cn2 = r.commands.length := by have := u2.len.1; rwa [List.length_map] at this
              have htl2 : tn2 ≤ 400 := by rw [htn2]; exact lim_row HLim.out (List.mem_of_getElem? hr)
              obtain ⟨W2, hW2⟩ : ∃ W2, W2 = wi.alloc (.cells #[.slice ta2 tn2 tc2, .int .i64 kr2, .slice sa2 sn2 sc2, .slice ca2 cn2 cc2, .int .i64 ra2] 24) := ⟨_, rfl⟩
              have hW2b : Below wi.heap.size wi W2 := by rw [hW2]; exact below_alloc1 _ _
              have hby : W2.heap[wi.heap.size]? = some (.cells #[.slice ta2 tn2 tc2, .int .i64 kr2, .slice sa2 sn2 sc2, .slice ca2 cn2 cc2, .int .i64 ra2] 24 (0, 0)) := by rw [hW2]; exact alloc_b rfl
              have HS2 : Hid (SR base [(wi.heap.size, #[.slice ta2 tn2 tc2, .int .i64 kr2, .slice sa2 sn2 sc2, .slice ca2 cn2 cc2, .int .i64 ra2]), (x6, #[.slice (some ⟨bt, ot, none⟩) 1 tc, .int .i64 kx, .slice sa sn sc, .slice ca cn cc, .int .i64 rx])] (r4 u7 (.slice none 0 0) u9 (.slice none 0 0)) (r4 (saidJ Q.Ru.sources t l k2 r 0) [] (saidJ Q.Ru.commands t l k2 r 0) []) w3 W2) := by
                unfold Hid; rw [saidJ_zero, saidJ_zero]; exact (HS.out.on hW2b).add _ _ hby
              have y0 := cell_in hby 0 rfl
              -- the lists of the rule, in any later world
              have HU : Hid (∀ W, Below base w3 W → Words w.heap.size W (.slice ta2 tn2 tc2) (r.targets.map ba) ∧ Words w.heap.size W (.slice sa2 sn2 sc2) (r.sources.map ba) ∧ Words w.heap.size W (.slice ca2 cn2 cc2) (r.commands.map ba)) := by
                have back : ∀ (v : Value) (L : List ByteArray), Words w.heap.size wi v L → ∀ W, Below base w3 W → Words w.heap.size W v L := by
                  intro v L hvL W hW
                  obtain ⟨a0, n0, c0, e1, e2, e4, e3⟩ := hvL
                  refine ⟨a0, n0, c0, e1, e2, e4, fun i hi => ?_⟩
                  obtain ⟨b0, o0, f1, f2, f3⟩ := e3 i hi
                  have hb0 : b0 < base := Nat.lt_of_lt_of_le f2 H3.out.2.2.2.1
                  exact ⟨b0, o0, f1, f2, (hW.cell (p := ⟨b0, o0 + i, none⟩) hb0).trans ((HS.out.below.cell (p := ⟨b0, o0 + i, none⟩) hb0).symm.trans f3)⟩
                exact fun W hW => ⟨back _ _ u0 W hW, back _ _ u1 W hW, back _ _ u2 W hW⟩
              obtain ⟨x12, hx12⟩ : ∃ x12, x12 = wi.heap.size := ⟨_, rfl⟩
              rw [← hx12] at HS2 y0
              have HR : Hid (l[k2]? = some r ∧ tn2 = r.targets.length ∧ sn2 = r.sources.length ∧ cn2 = r.commands.length) := ⟨hr, htn2, hsn2, hcn2⟩
              clear hr hW2b hby u0 u1 u2 hkr hra htn2 hsn2 hcn2 HS
              go_upto_region 13 with fail
              rw [← hW2, ← hx12]
              clear hW2 hx12
              go_wp2_with fail
              go_loopw [7, 9, 44] (fun v7 v9 vi wr => ∃ j : Nat, j ≤ tn2 ∧ vi = .int .i64 j ∧ Hid (SR base [(x12, #[.slice ta2 tn2 tc2, .int .i64 kr2, .slice sa2 sn2 sc2, .slice ca2 cn2 cc2, .int .i64 ra2]), (x6, #[.slice (some ⟨bt, ot, none⟩) 1 tc, .int .i64 kx, .slice sa sn sc, .slice ca cn cc, .int .i64 rx])] (r4 v7 (.slice none 0 0) v9 (.slice none 0 0)) (r4 (saidJ Q.Ru.sources t l k2 r j) [] (saidJ Q.Ru.commands t l k2 r j) []) w3 wr)) (fun _ _ vi _ => tn2 - (intOf vi).toNat)
              case atStart => exact ⟨0, Nat.zero_le _, rfl, HS2.out⟩
              case round =>
                obtain ⟨j, hj, rfl, HQ⟩ := hrel
                by_cases hjt : j < tn2
                · have hjl : j < r.targets.length := by rw [← HR.out.2.1]; exact hjt
                  have hji : (j : Int) < (tn2 : Int) := by omega
                  obtain ⟨hu1, hu2, hu3⟩ := HU.out wr HQ.out.below
                  obtain ⟨b3, o3, rfl, hb3, hct3⟩ := hu1.pick j (by rw [List.length_map]; exact hjl)
                  rw [List.getElem_map] at hct3
                  have z0 := cell_in (HQ.out.box _ (.tail _ (.head _))) 0 rfl
                  have s1 := HT.out wr HQ.out.below
                  have y2 := cell_in (HQ.out.box _ (.head _)) 2 rfl
                  have y3 := cell_in (HQ.out.box _ (.head _)) 3 rfl
                  have hget : r.targets[j]? = some r.targets[j] := List.getElem?_eq_getElem hjl
                  by_cases he : r.targets[j] = t
                  · rw [he] at hct3 hget
                    rw [← HST.out] at hct3
                    have hb1 : (saidJ Q.Ru.sources t l k2 r j).length + (r.sources.map ba).length ≤ 1000000000000 := by
                      rw [← List.length_append, ← saidJ_yes _ _ _ _ _ _ hget, List.length_map, List.length_append]
                      have := Q.said_pre Q.Ru.sources t l k2 r HR.out.1 (j + 1)
                      have := (HO.out.2 t).1
                      omega
                    have hb2 : (saidJ Q.Ru.commands t l k2 r j).length + (r.commands.map ba).length ≤ 1000000000000 := by
                      rw [← List.length_append, ← saidJ_yes _ _ _ _ _ _ hget, List.length_map, List.length_append]
                      have := Q.said_pre Q.Ru.commands t l k2 r HR.out.1 (j + 1)
                      have := (HO.out.2 t).2
                      omega
                    have HE : Hid (saidJ Q.Ru.sources t l k2 r (j + 1) = saidJ Q.Ru.sources t l k2 r j ++ r.sources.map ba ∧ saidJ Q.Ru.commands t l k2 r (j + 1) = saidJ Q.Ru.commands t l k2 r j ++ r.commands.map ba) := ⟨saidJ_yes _ _ _ _ _ _ hget, saidJ_yes _ _ _ _ _ _ hget⟩
                    have HQ' : Hid _ := HQ.out
                    obtain ⟨la, hla⟩ : ∃ la, la = saidJ Q.Ru.sources t l k2 r j := ⟨_, rfl⟩
                    obtain ⟨lc, hlc⟩ : ∃ lc, lc = saidJ Q.Ru.commands t l k2 r j := ⟨_, rfl⟩
                    rw [← hla, ← hlc] at HQ' HE
                    rw [← hla] at hb1
                    rw [← hlc] at hb2
                    clear hla hlc hget HQ
                    obtain ⟨RS, hRS⟩ : ∃ x, x = r.sources.map ba := ⟨_, rfl⟩
                    obtain ⟨RC, hRC⟩ : ∃ x, x = r.commands.map ba := ⟨_, rfl⟩
                    rw [← hRS, ← hRC] at HE HU
                    rw [← hRS] at hb1 hu2
                    rw [← hRC] at hb2
                    clear hRS hRC
                    have own7 : wr.ownsRow base 9 1 u7 la.length (la.map Value.string) := HQ'.out.own 0 (by omega)
                    have HB12 : Hid ((la.length + RS.length ≤ 1000000000000) ∧ (lc.length + RC.length ≤ 1000000000000) ∧ base ≤ wr.heap.size) := ⟨hb1, hb2, HQ'.out.lo⟩
                    clear hb1 hb2
                    go_wp2_with (at_builtin; refine list_app (by rfl) (.tmp 54) (.tmp 56) (by rfl) base w.heap.size u7 (.slice sa2 sn2 sc2) la RS (by rfl) own7 (by rfl) hu2 HB12.out.1 HB12.out.2.2 ?_)
                    intro a5 c5 w5 hown5 hgr5 hat5
                    rw [← List.map_append] at hown5
                    have HQ5 : Hid _ := HQ'.out.put0 hown5 hgr5 hat5
                    obtain ⟨v7, hv7⟩ : ∃ v, v = Value.slice a5 (la.length + RS.length) c5 := ⟨_, rfl⟩
                    rw [← hv7] at HQ5 ⊢
                    have own9 : w5.ownsRow base 9 1 u9 lc.length (lc.map Value.string) := HQ5.out.own 2 (by omega)
                    have y3' := cell_in (HQ5.out.box _ (.head _)) 3 rfl
                    have hu5 := (HU.out w5 HQ5.out.below).2.2
                    have HB5 : Hid (base ≤ w5.heap.size) := HQ5.out.lo
                    clear hown5 hgr5 hat5 hv7 y2 y3 z0 s1 hct3 own7 hu1 hu2 hu3
                    go_wp2_with (at_builtin; refine list_app (by rfl) (.tmp 58) (.tmp 60) (by rfl) base w.heap.size u9 (.slice ca2 cn2 cc2) lc RC (by rfl) own9 (by rfl) hu5 HB12.out.2.1 HB5.out ?_)
                    intro a6 c6 w6 hown6 hgr6 hat6
                    rw [← List.map_append] at hown6
                    have HQ6 : Hid _ := HQ5.out.put2 hown6 hgr6 hat6
                    obtain ⟨v9, hv9⟩ : ∃ v, v = Value.slice a6 (lc.length + RC.length) c6 := ⟨_, rfl⟩
                    rw [← hv9] at HQ6 ⊢
                    rw [← HE.out.1, ← HE.out.2] at HQ6
                    clear hown6 hgr6 hat6 hv9 own9 y3' hu5
                    go_wp2_with fail
                    go_roundw
                    case rel => exact ⟨j + 1, by omega, by go_num, HQ6.out⟩
                    case measure => simp [intOf]; omega
                  · have HE : Hid (saidJ Q.Ru.sources t l k2 r (j + 1) = saidJ Q.Ru.sources t l k2 r j ∧ saidJ Q.Ru.commands t l k2 r (j + 1) = saidJ Q.Ru.commands t l k2 r j) := ⟨saidJ_no _ _ _ _ _ _ _ hget he, saidJ_no _ _ _ _ _ _ _ hget he⟩
                    obtain ⟨uu, huu⟩ : ∃ u, u = ba r.targets[j] := ⟨_, rfl⟩
                    have hne : ¬ uu = st := fun e => he (by rw [huu, HST.out] at e; have := congrArg bl e; simpa [bl_ba] using this)
                    have he1 : (uu.toList == st.toList) = false := by
                      rw [beq_eq_false_iff_ne, Lib.toList_data, Lib.toList_data]; exact fun h => hne (bl_inj h)
                    have he2 : ¬ uu.toList = st.toList := by simpa using he1
                    rw [← huu] at hct3
                    have HQ7 : Hid _ := HQ.out
                    rw [← HE.out.1, ← HE.out.2] at HQ7
                    clear huu hget HQ hne he hu1 hu2 hu3
                    go_wp2_with fail
                    go_roundw
                    case rel => exact ⟨j + 1, by omega, by go_num, HQ7.out⟩
                    case measure => simp [intOf]; omega
                · have hnj : ¬ (j : Int) < (tn2 : Int) := by omega
                  have HQ7 : Hid _ := HQ.out.drop
                  rw [saidJ_end _ _ _ _ _ HR.out.1 j (by rw [← HR.out.2.1]; omega), saidJ_end _ _ _ _ _ HR.out.1 j (by rw [← HR.out.2.1]; omega)] at HQ7
                  clear HQ
                  go_wp2_with fail
                  go_roundw
                  case rel => exact ⟨k2 + 1, by omega, by go_num, HQ7.out⟩
                  case measure => simp [intOf]; omega
            · have hnk2 : ¬ (k2 : Int) < (n : Int) := by omega
              obtain ⟨WS, hWS⟩ : ∃ x, x = (Q.said Q.Ru.sources t l).map ba := ⟨_, rfl⟩
              obtain ⟨WC, hWC⟩ : ∃ x, x = (Q.said Q.Ru.commands t l).map ba := ⟨_, rfl⟩
              have HS4 : Hid (SR base [(x6, #[.slice (some ⟨bt, ot, none⟩) 1 tc, .int .i64 kx, .slice sa sn sc, .slice ca cn cc, .int .i64 rx])] (r4 u7 (.slice none 0 0) u9 (.slice none 0 0)) (r4 WS (ofS Q.Ru.sources t a 0) WC (ofS Q.Ru.commands t a 0)) w3 wi) := by
                have e1 : saidS Q.Ru.sources t l k2 = WS := by unfold saidS; rw [hWS, List.take_of_length_le (by rw [← HV.out.2.2]; omega)]
                have e2 : saidS Q.Ru.commands t l k2 = WC := by unfold saidS; rw [hWC, List.take_of_length_le (by rw [← HV.out.2.2]; omega)]
                have := HS.out
                rw [e1, e2] at this
                exact this
              have HWE : Hid (ofS Q.Ru.sources t a an = WS ∧ ofS Q.Ru.commands t a an = WC ∧ WS.length ≤ 1000000000 ∧ WC.length ≤ 1000000000) := by
                have e : a.take an = a := List.take_of_length_le (by rw [← HX.out.2.2.1]; omega)
                refine ⟨?_, ?_, ?_, ?_⟩
                · unfold ofS; rw [e, (HO.out.1 t).1, hWS]
                · unfold ofS; rw [e, (HO.out.1 t).2, hWC]
                · rw [hWS, List.length_map]; have := (HO.out.2 t).1; omega
                · rw [hWC, List.length_map]; have := (HO.out.2 t).2; omega
              clear hWS hWC HS
              go_wp2_with fail
              go_loopw [8, 10, 66] (fun v8 v10 vi wr => ∃ k3 : Nat, k3 ≤ an ∧ vi = .int .i64 k3 ∧ Hid (SR base [(x6, #[.slice (some ⟨bt, ot, none⟩) 1 tc, .int .i64 kx, .slice sa sn sc, .slice ca cn cc, .int .i64 rx])] (r4 u7 v8 u9 v10) (r4 WS (ofS Q.Ru.sources t a k3) WC (ofS Q.Ru.commands t a k3)) w3 wr)) (fun _ _ vi _ => an - (intOf vi).toNat)
              case atStart => exact ⟨0, Nat.zero_le _, rfl, HS4.out⟩
              case round =>
                obtain ⟨k3, hk3, rfl, HQ⟩ := hrel
                obtain ⟨wj, rfl⟩ : ∃ wj : World, wj = wr := ⟨_, rfl⟩
                by_cases hlt3 : k3 < an
                · have hkl3 : k3 < a.length := by rw [← HX.out.2.2.1]; exact hlt3
                  have hil3 : (k3 : Int) < (an : Int) := by omega
                  obtain ⟨y, hy⟩ : ∃ r, a[k3]? = some r := ⟨a[k3], List.getElem?_eq_some_iff.2 ⟨hkl3, rfl⟩⟩
                  obtain ⟨g', go', ta2, tn2, tc2, sa2, sn2, sc2, ca2, cn2, cc2, hgg, hb2, q0, q1, q2, q3, q4, u0, u1, u2⟩ := (HR2.out wj HQ.out.below).pick hy
                  cases hgg
                  obtain ⟨t', htt'⟩ := HX.out.2.1.one y (List.mem_of_getElem? hy)
                  rw [htt'] at u0
                  have htn2 : tn2 = 1 := u0.len.1
                  subst htn2
                  obtain ⟨b3, o3, rfl, hb3, hct3⟩ := u0.pick 0 (by simp)
                  simp only [List.map_cons, List.map_nil, List.getElem_cons_zero, Nat.add_zero] at hct3
                  have htc2 := u0.len.2
                  obtain ⟨kr2, hkr⟩ : ∃ k, k = y.kind := ⟨_, rfl⟩
                  obtain ⟨ra2, hra⟩ : ∃ k, k = y.at_ := ⟨_, rfl⟩
                  rw [← hkr] at q1
                  rw [← hra] at q4
                  have hsn2 : sn2 = y.sources.length := by have := u1.len.1; rwa [List.length_map] at this
                  have hcn2 : cn2 = y.commands.length := by have := u2.len.1; rwa [List.length_map] at this
                  obtain ⟨W2, hW2⟩ : ∃ W2, W2 = wj.alloc (.cells #[.slice (some ⟨b3, o3, none⟩) 1 tc2, .int .i64 kr2, .slice sa2 sn2 sc2, .slice ca2 cn2 cc2, .int .i64 ra2] 24) := ⟨_, rfl⟩
                  have hW2b : Below wj.heap.size wj W2 := by rw [hW2]; exact below_alloc1 _ _
                  have hby : W2.heap[wj.heap.size]? = some (.cells #[.slice (some ⟨b3, o3, none⟩) 1 tc2, .int .i64 kr2, .slice sa2 sn2 sc2, .slice ca2 cn2 cc2, .int .i64 ra2] 24 (0, 0)) := by rw [hW2]; exact alloc_b rfl
                  have HS2 : Hid (SR base [(wj.heap.size, #[.slice (some ⟨b3, o3, none⟩) 1 tc2, .int .i64 kr2, .slice sa2 sn2 sc2, .slice ca2 cn2 cc2, .int .i64 ra2]), (x6, #[.slice (some ⟨bt, ot, none⟩) 1 tc, .int .i64 kx, .slice sa sn sc, .slice ca cn cc, .int .i64 rx])] (r4 u7 u8 u9 u10) (r4 WS (ofS Q.Ru.sources t a k3) WC (ofS Q.Ru.commands t a k3)) w3 W2) := (HQ.out.on hW2b).add _ _ hby
                  have y0 := cell_in hby 0 rfl
                  have back : ∀ (v : Value) (L : List ByteArray), Words w2.heap.size wj v L → ∀ W, Below base w3 W → Words w2.heap.size W v L := by
                    intro v L hvL W hW
                    obtain ⟨a0, n0, c0, e1, e2, e4, e3⟩ := hvL
                    refine ⟨a0, n0, c0, e1, e2, e4, fun i hi => ?_⟩
                    obtain ⟨b0, o0, f1, f2, f3⟩ := e3 i hi
                    have hb0 : b0 < base := Nat.lt_of_lt_of_le f2 H3.out.2.2.1
                    exact ⟨b0, o0, f1, f2, (hW.cell (p := ⟨b0, o0 + i, none⟩) hb0).trans ((HQ.out.below.cell (p := ⟨b0, o0 + i, none⟩) hb0).symm.trans f3)⟩
                  have HU : Hid (∀ W, Below base w3 W → Words w2.heap.size W (.slice sa2 sn2 sc2) (y.sources.map ba) ∧ Words w2.heap.size W (.slice ca2 cn2 cc2) (y.commands.map ba)) := fun W hW => ⟨back _ _ u1 W hW, back _ _ u2 W hW⟩
                  obtain ⟨uu, huu⟩ : ∃ u, u = ba t' := ⟨_, rfl⟩
                  rw [← huu] at hct3
                  have s2 : W2.cell? ⟨b3, o3, none⟩ = some (.string uu) := by
                    have h1 : b3 < base := Nat.lt_of_lt_of_le hb3 H3.out.2.2.1
                    exact (hW2b.cell (p := ⟨b3, o3, none⟩) (Nat.lt_of_lt_of_le h1 HQ.out.lo)).trans hct3
                  have s1 := HT.out W2 HS2.out.below
                  have z0 := cell_in (HS2.out.box _ (.tail _ (.head _))) 0 rfl
                  obtain ⟨x12, hx12⟩ : ∃ x12, x12 = wj.heap.size := ⟨_, rfl⟩
                  rw [← hx12] at HS2 y0
                  have HR : Hid (a[k3]? = some y ∧ y.targets = [t'] ∧ sn2 = y.sources.length ∧ cn2 = y.commands.length ∧ uu = ba t') := ⟨hy, htt', hsn2, hcn2, huu⟩
                  clear hy htt' hW2b hby u0 u1 u2 hkr hra hsn2 hcn2 hct3 back huu
                  go_upto_region 24 with fail
                  rw [← hW2, ← hx12]
                  clear hW2 hx12
                  by_cases he : t' = t
                  · have hus : uu = st := by rw [HR.out.2.2.2.2, he, HST.out]
                    subst hus
                    have hty : y.targets = [t] := by rw [HR.out.2.1, he]
                    have HE : Hid (ofS Q.Ru.sources t a (k3 + 1) = ofS Q.Ru.sources t a k3 ++ y.sources.map ba ∧ ofS Q.Ru.commands t a (k3 + 1) = ofS Q.Ru.commands t a k3 ++ y.commands.map ba) := ⟨ofS_yes _ _ _ _ _ HR.out.1 hty, ofS_yes _ _ _ _ _ HR.out.1 hty⟩
                    have hb1 : (ofS Q.Ru.sources t a k3).length + (y.sources.map ba).length ≤ 1000000000000 := by
                      rw [← List.length_append, ← HE.out.1, List.length_map]
                      have := Q.ofG_pre Q.Ru.sources t a (k3 + 1)
                      rw [(HO.out.1 t).1] at this
                      have := (HO.out.2 t).1
                      omega
                    have hb2' : (ofS Q.Ru.commands t a k3).length + (y.commands.map ba).length ≤ 1000000000000 := by
                      rw [← List.length_append, ← HE.out.2, List.length_map]
                      have := Q.ofG_pre Q.Ru.commands t a (k3 + 1)
                      rw [(HO.out.1 t).2] at this
                      have := (HO.out.2 t).2
                      omega
                    go_quiet (fail)
                    obtain ⟨W3, hW3⟩ : ∃ W3, W3 = W2.drewN nq := ⟨_, rfl⟩
                    have HQ' : Hid _ := HS2.out.on (w' := W3) (by rw [hW3]; exact below_drewN (Below.refl _ _) nq)
                    rw [← hW3]
                    obtain ⟨la, hla⟩ : ∃ la, la = ofS Q.Ru.sources t a k3 := ⟨_, rfl⟩
                    obtain ⟨lc, hlc⟩ : ∃ lc, lc = ofS Q.Ru.commands t a k3 := ⟨_, rfl⟩
                    rw [← hla, ← hlc] at HQ' HE
                    rw [← hla] at hb1
                    rw [← hlc] at hb2'
                    obtain ⟨RS, hRS⟩ : ∃ x, x = y.sources.map ba := ⟨_, rfl⟩
                    obtain ⟨RC, hRC⟩ : ∃ x, x = y.commands.map ba := ⟨_, rfl⟩
                    rw [← hRS, ← hRC] at HE HU
                    rw [← hRS] at hb1
                    rw [← hRC] at hb2'
                    clear hRS hRC
                    have own8 : W3.ownsRow base 9 1 u8 la.length (la.map Value.string) := HQ'.out.own 1 (by omega)
                    have y2 := cell_in (HQ'.out.box _ (.head _)) 2 rfl
                    have hu2 := (HU.out W3 HQ'.out.below).1
                    have HB12 : Hid ((la.length + RS.length ≤ 1000000000000) ∧ (lc.length + RC.length ≤ 1000000000000) ∧ base ≤ W3.heap.size) := ⟨hb1, hb2', HQ'.out.lo⟩
                    clear hla hlc hb1 hb2' hW3 HS2 HQ y0 z0 s1 s2 he hty
                    go_wp2_with (at_builtin; refine list_app (by rfl) (.tmp 79) (.tmp 81) (by rfl) base w2.heap.size u8 (.slice sa2 sn2 sc2) la RS (by rfl) own8 (by rfl) hu2 HB12.out.1 HB12.out.2.2 ?_)
                    intro a5 c5 w5 hown5 hgr5 hat5
                    rw [← List.map_append] at hown5
                    have HQ5 : Hid _ := HQ'.out.put1 hown5 hgr5 hat5
                    obtain ⟨v8, hv8⟩ : ∃ v, v = Value.slice a5 (la.length + RS.length) c5 := ⟨_, rfl⟩
                    rw [← hv8] at HQ5 ⊢
                    have own10 : w5.ownsRow base 9 1 u10 lc.length (lc.map Value.string) := HQ5.out.own 3 (by omega)
                    have y3 := cell_in (HQ5.out.box _ (.head _)) 3 rfl
                    have hu5 := (HU.out w5 HQ5.out.below).2
                    have HB5 : Hid (base ≤ w5.heap.size) := HQ5.out.lo
                    clear hown5 hgr5 hat5 hv8 y2 own8 hu2
                    go_wp2_with (at_builtin; refine list_app (by rfl) (.tmp 83) (.tmp 85) (by rfl) base w2.heap.size u10 (.slice ca2 cn2 cc2) lc RC (by rfl) own10 (by rfl) hu5 HB12.out.2.1 HB5.out ?_)
                    intro a6 c6 w6 hown6 hgr6 hat6
                    rw [← List.map_append] at hown6
                    have HQ6 : Hid _ := (HQ5.out.put3 hown6 hgr6 hat6).drop
                    obtain ⟨v10, hv10⟩ : ∃ v, v = Value.slice a6 (lc.length + RC.length) c6 := ⟨_, rfl⟩
                    rw [← hv10] at HQ6 ⊢
                    rw [← HE.out.1, ← HE.out.2] at HQ6
                    clear hown6 hgr6 hat6 hv10 own10 y3 hu5
                    go_wp2_with fail
                    go_roundw
                    case rel => exact ⟨k3 + 1, by omega, by go_num, HQ6.out⟩
                    case measure => simp [intOf]; omega
                  · have hne : ¬ uu = st := fun e => he (by rw [HR.out.2.2.2.2, HST.out] at e; have := congrArg bl e; simpa [bl_ba] using this)
                    have he1 : (uu.toList == st.toList) = false := by
                      rw [beq_eq_false_iff_ne, Lib.toList_data, Lib.toList_data]; exact fun h => hne (bl_inj h)
                    have he2 : ¬ uu.toList = st.toList := by simpa using he1
                    have HQ7 : Hid _ := HS2.out.drop
                    rw [← ofS_no Q.Ru.sources t a k3 y t' HR.out.1 HR.out.2.1 he, ← ofS_no Q.Ru.commands t a k3 y t' HR.out.1 HR.out.2.1 he] at HQ7
                    clear HQ hne he HS2
                    go_quiet (fail)
                    go_wp2_with fail
                    go_roundw
                    case rel => exact ⟨k3 + 1, by omega, by go_num, HQ7.out.on (below_drewN (Below.refl _ _) _)⟩
                    case measure => simp [intOf]; omega
                · have hnk3 : ¬ (k3 : Int) < (an : Int) := by omega
                  obtain rfl : k3 = an := by omega
                  have HQ7 : Hid _ := HQ.out
                  rw [HWE.out.1, HWE.out.2.1] at HQ7
                  have HC1 : Hid (Calls Tryd.prog 15 #[u7, u8] wj fun e w' => e = .returned (.bool true) ∧ ∃ n, w' = wj.drewN n) :=
                    same_any WS u7 u8 wj.heap.size wj.heap.size wj HWE.out.2.2.1 (words_own (HQ7.out.own 0 (by omega)) rfl) (words_own (HQ7.out.own 1 (by omega)) rfl)
                  have HC2 : Hid (∀ n, Calls Tryd.prog 15 #[u9, u10] (wj.drewN n) fun e w' => e = .returned (.bool true) ∧ ∃ m, w' = (wj.drewN n).drewN m) := fun n =>
                    same_any WC u9 u10 wj.heap.size wj.heap.size _ HWE.out.2.2.2 ((words_own (HQ7.out.own 2 (by omega)) rfl).drewN n) ((words_own (HQ7.out.own 3 (by omega)) rfl).drewN n)
                  clear HQ
                  go_wp2_with fail
                  refine HC1.out.mono ?_
                  rintro e w5 ⟨rfl, n5, rfl⟩
                  go_wp2_with fail
                  refine (HC2.out n5).mono ?_
                  rintro e w6 ⟨rfl, n6, rfl⟩
                  go_wp2_with fail
                  go_roundw
                  case rel => exact ⟨k + 1, by omega, by go_num, below_drewN HQ7.out.below _⟩
                  case measure => simp [intOf]; omega
        · have hnl : ¬ (k : Int) < (an : Int) := by omega
          go_wp2_with fail
          refine (HA.out _ (below_trans H3.out.2.1 (HI.out.mono H3.out.2.2.2.1) (Nat.le_refl _))).mono ?_
          rintro e w6 ⟨rfl, hb6⟩
          have H6 : Hid (Below w.heap.size w w6) := by
            have h1 := HI.out.size
            have h2 := H3.out.2.1.size
            exact below_trans (below_trans H3.out.2.1 (HI.out.mono H3.out.2.2.2.1) (Nat.le_refl _)) hb6 (by omega)
          clear hb6
          go_wp2_with fail
          go_ret
          exact ⟨rfl, H6.out⟩
end Go.Proofs.YtbgnmchnfaknkaaDoor
