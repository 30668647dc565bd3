/-
  Whether a table may be: the document's answer.
-/
import Derived.Test.YtfcoihklihkngaaS5
namespace Go.Proofs.Ytfcoihklihkngaa
open Go.RowKit Go.Shelf

set_option maxRecDepth 20000 in
set_option maxHeartbeats 2000000 in
theorem rright_any (vs vw : Value) (Sf : List S.Tx) (L : List S.Way) (B : Nat) (w : World) (hT : Tb B w vs vw Sf L) :
    Calls Try.prog 17 #[.agg #[vs, vw]] w (RightPost Sf L w) := by
  obtain ⟨sa, cs, rfl⟩ := hT.suf.slice
  obtain ⟨aw, cw, rfl⟩ := hT.way.slice
  have HC : Hid (∀ (k : Nat), k ≤ Sf.length → ∀ (u : ByteArray) (W : World), Below w.heap.size w W → Calls Try.prog 22 #[.slice sa k cs, .string u] W fun e w' => e = .returned (.bool ((Sf.take k).contains (bl u))) ∧ w' = W) := fun k hk u W hW => has_any _ u (Sf.take k) B W ((hT.suf.below (hW.mono hT.lo)).take k hk) (by have := hT.ns; rw [List.length_take]; omega)
  have HD : Hid (∀ (k : Nat), k ≤ L.length → ∀ (x : S.Way) (W : World), Below w.heap.size w W → Calls Try.prog 23 #[.slice aw k cw, .agg #[.string (ba x.1), .string (ba x.2)]] W fun e w' => e = .returned (.bool ((L.take k).contains x)) ∧ Below W.heap.size W w') := fun k hk x W hW => way_any _ x (L.take k) B W ((hT.way.below (hW.mono hT.lo)).take k hk) (Nat.le_trans hT.lo hW.size) (by have := hT.nw; rw [List.length_take]; omega)
  have hcs := hT.suf.len.2
  have hcw := hT.way.len.2
  obtain ⟨n, hn⟩ : ∃ n, n = Sf.length := ⟨_, rfl⟩
  obtain ⟨m, hm⟩ : ∃ m, m = L.length := ⟨_, rfl⟩
  have hnb : n ≤ 100000000000000 := by rw [hn]; exact hT.ns
  have hmb : m ≤ 100000000000000 := by rw [hm]; exact hT.nw
  have HT : Hid (n = Sf.length ∧ m = L.length ∧ Tb B w (.slice sa n cs) (.slice aw m cw) Sf L) := ⟨hn, hm, by rw [hn, hm]; exact hT⟩
  rw [← hn] at HC hcs
  rw [← hm] at HD hcw
  rw [← hn, ← hm]
  clear hn hm hT
  have HB0 : Hid (Below w.heap.size w (w.alloc (.cells #[.slice sa n cs, .slice aw m cw] 25)) ∧ (w.alloc (.cells #[.slice sa n cs, .slice aw m cw] 25)).heap[w.heap.size]? = some (.cells #[.slice sa n cs, .slice aw m cw] 25 (0, 0))) := ⟨below_alloc1 _ _, alloc_b rfl⟩
  by_cases h64 : 64 < n
  · have h64i : (64 : Int) < (n : Int) := by omega
    have HN : Hid (¬ S.RightP Sf L) := fun h => by have := h.1; have := HT.out.1; omega
    clear HC HD
    go_enter Try.func17, Try.ntmps17
    go_wp2_with fail
    go_ret
    exact ⟨false, rfl, ⟨fun h => (by cases h), fun h => absurd h HN.out⟩, HB0.out.1⟩
  · have h64i : ¬ (64 : Int) < (n : Int) := by omega
    by_cases h256 : 256 < m
    · have h256i : (256 : Int) < (m : Int) := by omega
      have HN : Hid (¬ S.RightP Sf L) := fun h => by have := h.2.1; have := HT.out.2.1; omega
      clear HC HD
      go_enter Try.func17, Try.ntmps17
      go_wp2_with fail
      go_ret
      exact ⟨false, rfl, ⟨fun h => (by cases h), fun h => absurd h HN.out⟩, HB0.out.1⟩
    · have h256i : ¬ (256 : Int) < (m : Int) := by omega
      have HR : Hid (S.RightP Sf L ↔ SufOk Sf n ∧ WayOk Sf L m) := by
        unfold Hid; rw [HT.out.1, HT.out.2.1]; exact right_iff (by rw [← HT.out.1]; omega) (by rw [← HT.out.2.1]; omega)
      go_enter Try.func17, Try.ntmps17
      go_wp2_with fail
      go_loopw [3] (fun vi wr => ∃ k : Nat, k ≤ n ∧ vi = .int .i64 (k : Int) ∧ Hid (Below w.heap.size w wr ∧ wr.heap[w.heap.size]? = some (.cells #[.slice sa n cs, .slice aw m cw] 25 (0, 0))) ∧ Hid (SufOk Sf k)) (fun vi _ => n - (intOf vi).toNat)
      case atStart => exact ⟨0, Nat.zero_le _, rfl, HB0.out, fun i x hi => by omega⟩
      case round =>
        obtain ⟨k, hk, rfl, HX, HS⟩ := hrel
        have z0 := cell_in HX.out.2 0 rfl
        have z1 := cell_in HX.out.2 1 rfl
        by_cases hlt : k < n
        · have hil : (k : Int) < (n : Int) := by omega
          have hkl : k < Sf.length := by rw [← HT.out.1]; exact hlt
          obtain ⟨b, o, rfl, hb, hc⟩ := HT.out.2.2.suf.pick k (by rw [List.length_map]; exact hkl)
          have hc0 := (HX.out.1.cell (p := ⟨b, o + k, none⟩) (Nat.lt_of_lt_of_le hb HT.out.2.2.lo)).trans hc
          obtain ⟨y, hy⟩ : ∃ y, y = (Sf.map ba)[k]'(by rw [List.length_map]; exact hkl) := ⟨_, rfl⟩
          rw [← hy] at hc0
          have hyb : bl y = Sf[k] := by rw [hy, List.getElem_map, bl_ba']
          have HG : Hid (Sf[k]? = some (bl y)) := by unfold Hid; rw [List.getElem?_eq_getElem hkl, hyb]
          clear hc hy hyb
          have HCk := HC.out k hk y
          by_cases h0 : y = E
          · subst h0
            have HN : Hid (¬ S.RightP Sf L) := by
              unfold Hid; rw [HR.out, HT.out.1]; exact fun h => suf_bad HG.out (.inl rfl) h.1
            clear HC HD HCk
            go_wp2_with fail
            go_quiet (fail)
            go_wp2_with fail
            go_ret
            exact ⟨false, rfl, ⟨fun h => (by cases h), fun h => absurd h HN.out⟩, below_drewN HX.out.1 _⟩
          · have h0' : y.toList.isEmpty = false := nonempty (fun e => h0 (bl_inj e))
            cases hcon : (Sf.take k).contains (bl y) with
            | true =>
              rw [hcon] at HCk
              have HCk : Hid (∀ q, Calls Try.prog 22 #[.slice (some ⟨b, o, none⟩) k cs, .string y] (wr.drewN q) fun e w' => e = .returned (.bool true) ∧ w' = wr.drewN q) := fun q => HCk _ (below_drewN HX.out.1 q)
              have HN : Hid (¬ S.RightP Sf L) := by
                unfold Hid; rw [HR.out, HT.out.1]; exact fun h => suf_bad HG.out (.inr hcon) h.1
              clear HC HD hcon
              go_wp2_with fail
              go_quiet ((go_at_call 22; exact Calls.quiet_of_same (HCk.out _)))
              go_wp2_with fail
              go_ret
              exact ⟨false, rfl, ⟨fun h => (by cases h), fun h => absurd h HN.out⟩, below_drewN HX.out.1 _⟩
            | false =>
              rw [hcon] at HCk
              have HCk : Hid (∀ q, Calls Try.prog 22 #[.slice (some ⟨b, o, none⟩) k cs, .string y] (wr.drewN q) fun e w' => e = .returned (.bool false) ∧ w' = wr.drewN q) := fun q => HCk _ (below_drewN HX.out.1 q)
              have HS1 : Hid (SufOk Sf (k + 1)) := SufOk.succ HS.out HG.out (fun e => h0 (bl_inj e)) hcon
              clear HC HD hcon
              go_wp2_with fail
              go_quiet ((go_at_call 22; exact Calls.quiet_of_same (HCk.out _)))
              go_wp2_with fail
              go_roundw
              case rel => exact ⟨k + 1, by omega, by go_num, ⟨below_drewN HX.out.1 _, HX.out.2⟩, HS1⟩
              case measure => simp [intOf]; omega
        · have hkn : k = n := by omega
          subst hkn
          have HSall : Hid (SufOk Sf k) := HS
          have HF : Hid (∀ (u : ByteArray) (W : World), Below w.heap.size w W → Calls Try.prog 22 #[.slice sa k cs, .string u] W fun e w' => e = .returned (.bool (Sf.contains (bl u))) ∧ w' = W) := fun u W hW => by
            have h := HC.out k (Nat.le_refl _) u W hW
            rw [List.take_of_length_le (by rw [← HT.out.1]; omega)] at h
            exact h
          clear HS HC
          go_wp2_with fail
          go_loopw [4] (fun vi wr => ∃ j : Nat, j ≤ m ∧ vi = .int .i64 (j : Int) ∧ Hid (Below w.heap.size w wr ∧ wr.heap[w.heap.size]? = some (.cells #[.slice sa k cs, .slice aw m cw] 25 (0, 0))) ∧ Hid (WayOk Sf L j)) (fun vi _ => m - (intOf vi).toNat)
          case atStart => exact ⟨0, Nat.zero_le _, rfl, HX.out, fun i x hi => by omega⟩
          case round =>
            obtain ⟨j, hj, rfl, HY, HV⟩ := hrel
            have y0 := cell_in HY.out.2 0 rfl
            have y1 := cell_in HY.out.2 1 rfl
            by_cases hjt : j < m
            · have hji : (j : Int) < (m : Int) := by omega
              have hjl : j < L.length := by rw [← HT.out.2.1]; exact hjt
              obtain ⟨b, o, rfl, hb, hc0, hc1⟩ := HT.out.2.2.way.pick (List.getElem?_eq_getElem hjl)
              have hbw := Nat.lt_of_lt_of_le hb HT.out.2.2.lo
              have d0 := (HY.out.1.cell (p := ⟨b, o + j * 2, none⟩) hbw).trans hc0
              have d1 := (HY.out.1.cell (p := ⟨b, o + j * 2 + 1, none⟩) hbw).trans hc1
              have HG : Hid (L[j]? = some L[j]) := List.getElem?_eq_getElem hjl
              have HDk := HD.out j hj L[j]
              obtain ⟨x, hx⟩ : ∃ x, x = L[j] := ⟨_, rfl⟩
              rw [← hx] at d0 d1 HG HDk
              obtain ⟨u1, hu1⟩ : ∃ y, y = ba x.1 := ⟨_, rfl⟩
              obtain ⟨u2, hu2⟩ : ∃ y, y = ba x.2 := ⟨_, rfl⟩
              rw [← hu1] at d0 HDk
              rw [← hu2] at d1 HDk
              have HLE : Hid (leadsB x Sf = (bl u1 != bl u2 && (Sf.contains (bl u1) && Sf.contains (bl u2)))) := by
                unfold Hid leadsB; rw [hu1, hu2, bl_ba', bl_ba']
              clear hc0 hc1 hx hu1 hu2 hb hbw
              obtain ⟨W1, hW1⟩ : ∃ W1, W1 = wr.alloc (.cells #[.string u1, .string u2] 48) := ⟨_, rfl⟩
              have HW1 : Hid (Below w.heap.size w W1 ∧ W1.heap[w.heap.size]? = some (.cells #[.slice sa k cs, .slice (some ⟨b, o, none⟩) m cw] 25 (0, 0)) ∧ W1.heap[wr.heap.size]? = some (.cells #[.string u1, .string u2] 48 (0, 0)) ∧ Below W1.heap.size W1 W1 ∧ wr.heap.size < W1.heap.size ∧ w.heap.size < wr.heap.size) := by
                have h1 : Below wr.heap.size wr W1 := by rw [hW1]; exact below_alloc1 _ _
                have h2 : w.heap.size < wr.heap.size := (Array.getElem?_eq_some_iff.1 HY.out.2).1
                refine ⟨below_trans HY.out.1 h1 HY.out.1.size, by rw [h1.block _ h2]; exact HY.out.2, by rw [hW1]; exact alloc_b rfl, Below.refl _ _, by rw [hW1]; simp, h2⟩
              obtain ⟨x6, hx6⟩ : ∃ x6, x6 = wr.heap.size := ⟨_, rfl⟩
              rw [← hx6] at HW1
              have HK : Hid (∀ W, Below W1.heap.size W1 W → W.cell? ⟨w.heap.size, 0, none⟩ = some (.slice sa k cs) ∧ W.cell? ⟨w.heap.size, 1, none⟩ = some (.slice (some ⟨b, o, none⟩) m cw) ∧ W.cell? ⟨x6, 0, none⟩ = some (.string u1) ∧ W.cell? ⟨x6, 1, none⟩ = some (.string u2)) := by
                intro W hW
                have h1 : W.heap[w.heap.size]? = _ := (hW.block _ (by have := HW1.out.2.2.2.2; omega)).trans HW1.out.2.1
                have h2 : W.heap[x6]? = _ := (hW.block _ HW1.out.2.2.2.2.1).trans HW1.out.2.2.1
                exact ⟨cell_in h1 0 rfl, cell_in h1 1 rfl, cell_in h2 0 rfl, cell_in h2 1 rfl⟩
              obtain ⟨c0, c1, c2, c3⟩ := HK.out _ (Below.refl _ _)
              have HF1 := fun W (hW : Below W1.heap.size W1 W) => HF.out u1 W (below_trans HW1.out.1 hW HW1.out.1.size)
              have HF2 := fun W (hW : Below W1.heap.size W1 W) => HF.out u2 W (below_trans HW1.out.1 hW HW1.out.1.size)
              have HEND : Hid (leadsB x Sf = false → ¬ S.RightP Sf L) := by
                intro h; rw [HR.out, HT.out.2.1]; exact fun h2 => way_bad HG.out (.inl h) h2.2
              cases he : (bl u1 == bl u2) with
              | true =>
                have he2 : (u1.toList == u2.toList) = true := by rw [eq_text]; exact he
                have HN : Hid (¬ S.RightP Sf L) := HEND.out (by rw [HLE.out, bne, he]; rfl)
                clear HF HF1 HF2 HDk HD he
                go_upto_region 12 with fail
                rw [← hW1, ← hx6]
                clear hW1 hx6 d0 d1
                go_quiet (fail)
                go_wp2_with fail
                go_ret
                exact ⟨false, rfl, ⟨fun h => (by cases h), fun h => absurd h HN.out⟩, below_drewN HW1.out.1 _⟩
              | false =>
                have he2 : (u1.toList == u2.toList) = false := by rw [eq_text]; exact he
                cases hf1 : Sf.contains (bl u1) with
                | false =>
                  rw [hf1] at HF1
                  have HF1 : Hid (∀ q, Calls Try.prog 22 #[.slice sa k cs, .string u1] (W1.drewN q) fun e w' => e = .returned (.bool false) ∧ w' = W1.drewN q) := fun q => HF1 _ (below_drewN (Below.refl _ _) q)
                  have HN : Hid (¬ S.RightP Sf L) := HEND.out (by rw [HLE.out, hf1]; simp)
                  clear HF HF2 HDk HD he hf1
                  go_upto_region 12 with fail
                  rw [← hW1, ← hx6]
                  clear hW1 hx6 d0 d1
                  go_quiet ((go_at_call 22; exact Calls.quiet_of_same (HF1.out _)))
                  go_wp2_with fail
                  go_ret
                  exact ⟨false, rfl, ⟨fun h => (by cases h), fun h => absurd h HN.out⟩, below_drewN HW1.out.1 _⟩
                | true =>
                  rw [hf1] at HF1
                  cases hf2 : Sf.contains (bl u2) with
                  | false =>
                    rw [hf2] at HF2
                    have HF1 : Hid (∀ q, Calls Try.prog 22 #[.slice sa k cs, .string u1] (W1.drewN q) fun e w' => e = .returned (.bool true) ∧ w' = W1.drewN q) := fun q => HF1 _ (below_drewN (Below.refl _ _) q)
                    have HF2 : Hid (∀ q, Calls Try.prog 22 #[.slice sa k cs, .string u2] (W1.drewN q) fun e w' => e = .returned (.bool false) ∧ w' = W1.drewN q) := fun q => HF2 _ (below_drewN (Below.refl _ _) q)
                    have HN : Hid (¬ S.RightP Sf L) := HEND.out (by rw [HLE.out, hf1, hf2]; simp)
                    clear HF HDk HD he hf1 hf2
                    go_upto_region 12 with fail
                    rw [← hW1, ← hx6]
                    clear hW1 hx6 d0 d1
                    go_quiet (first | (go_at_call_of 22 (Value.string u1); exact Calls.quiet_of_same (HF1.out _)) | (go_at_call_of 22 (Value.string u2); exact Calls.quiet_of_same (HF2.out _)))
                    go_wp2_with fail
                    go_ret
                    exact ⟨false, rfl, ⟨fun h => (by cases h), fun h => absurd h HN.out⟩, below_drewN HW1.out.1 _⟩
                  | true =>
                    rw [hf2] at HF2
                    have HF1 : Hid (∀ W, Below W1.heap.size W1 W → Calls Try.prog 22 #[.slice sa k cs, .string u1] W fun e w' => e = .returned (.bool true) ∧ w' = W) := HF1
                    have HF2 : Hid (∀ W, Below W1.heap.size W1 W → Calls Try.prog 22 #[.slice sa k cs, .string u2] W fun e w' => e = .returned (.bool true) ∧ w' = W) := HF2
                    obtain ⟨z, hz⟩ : ∃ z, z = (L.take j).contains x := ⟨_, rfl⟩
                    rw [← hz] at HDk
                    have HDk : Hid (∀ W, Below W1.heap.size W1 W → Calls Try.prog 23 #[.slice (some ⟨b, o, none⟩) j cw, .agg #[.string u1, .string u2]] W fun e w' => e = .returned (.bool z) ∧ Below W1.heap.size W1 w') := fun W hW =>
                      (HDk W (below_trans HW1.out.1 hW HW1.out.1.size)).mono fun e w' h => ⟨h.1, below_trans hW h.2 hW.size⟩
                    have HE : Hid ((z = true → ¬ S.RightP Sf L) ∧ (z = false → WayOk Sf L (j + 1))) := by
                      refine ⟨fun h => ?_, fun h => HV.out.succ HG.out (by rw [HLE.out, hf1, hf2, bne, he]; rfl) (by rw [← hz, h])⟩
                      rw [HR.out, HT.out.2.1]
                      exact fun h2 => way_bad HG.out (.inr (by rw [← hz, h])) h2.2
                    have hjc : (j : Int) ≤ (cw : Int) := by omega
                    have hjc2 : j ≤ cw := by omega
                    have HRf : Hid (Below W1.heap.size W1 W1 ∧ Below W1.heap.size W1 W1.drew) := ⟨Below.refl _ _, below_drew (Below.refl _ _)⟩
                    clear HF HD hz he hf1 hf2
                    go_upto_region 12 with fail
                    rw [← hW1, ← hx6]
                    clear hW1 hx6 d0 d1
                    go_region_held3 (fun W => W.cell? ⟨w.heap.size, 0, none⟩ = some (.slice sa k cs) ∧ W.cell? ⟨w.heap.size, 1, none⟩ = some (.slice (some ⟨b, o, none⟩) m cw) ∧ W.cell? ⟨x6, 0, none⟩ = some (.string u1) ∧ W.cell? ⟨x6, 1, none⟩ = some (.string u2)) (first | exact HK.out _ HRf.out.1 | exact HK.out _ HRf.out.2 | exact HK.out _ hb2 | exact HK.out _ (below_drew hb2)) (first | (go_at_call_of 22 (Value.string u1); refine (HF1.out _ ?_).mono ?_; (first | exact HRf.out.1 | exact HRf.out.2); rintro e w1 ⟨rfl, rfl⟩) | (go_at_call_of 22 (Value.string u2); refine (HF2.out _ ?_).mono ?_; (first | exact HRf.out.1 | exact HRf.out.2); rintro e w1 ⟨rfl, rfl⟩) | (go_at_call 23; refine (HDk.out _ ?_).mono ?_; (first | exact HRf.out.1 | exact HRf.out.2); rintro e w2 ⟨rfl, hb2⟩))
                    all_goals
                      cases z with
                      | true =>
                        go_wp2_with fail
                        go_ret
                        exact ⟨false, rfl, ⟨fun h => (by cases h), fun h => absurd h (HE.out.1 (by first | rfl | trivial))⟩, below_trans HW1.out.1 (by first | exact hb2 | exact below_drew hb2) HW1.out.1.size⟩
                      | false =>
                        have HX2 : Hid (Below w.heap.size w w2 ∧ w2.heap[w.heap.size]? = some (.cells #[.slice sa k cs, .slice (some ⟨b, o, none⟩) m cw] 25 (0, 0))) := ⟨below_trans HW1.out.1 hb2 HW1.out.1.size, (hb2.block _ (by have := HW1.out.2.2.2.2; omega)).trans HW1.out.2.1⟩
                        go_wp2_with fail
                        go_roundw
                        case rel => exact ⟨j + 1, by omega, by go_num, HX2, HE.out.2 (by first | rfl | trivial)⟩
                        case measure => simp [intOf]; omega
            · have hjm : j = m := by omega
              subst hjm
              have HRT : Hid (S.RightP Sf L) := HR.out.2 ⟨HSall.out, HV.out⟩
              clear HF HD
              go_wp2_with fail
              go_ret
              exact ⟨true, rfl, ⟨fun _ => HRT.out, fun _ => rfl⟩, HY.out.1⟩
end Go.Proofs.Ytfcoihklihkngaa
