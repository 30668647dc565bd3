/-
  SuffHolds: a chain begins with what is there, nothing else of it but its end is, and each of its steps is a way.
-/
import Derived.Test.YtfcoihklihkngaaBRT
namespace Go.Proofs.Ytfcoihklihkngaa
open Go.RowKit Go.Shelf Go.Maps

theorem chain_right {Sf : List S.Tx} {L : List S.Way} {A : List S.Tx} {name : S.Tx} {C : List S.Tx} (h : chainT Sf L A name = some C) : S.RightP Sf L ∧ S.chainOf A L name = some C := by
  unfold chainT at h
  by_cases hr : S.RightP Sf L
  · rw [if_pos hr] at h; exact ⟨hr, h⟩
  · rw [if_neg hr] at h; cases h
/-- How long the names of a chain are. -/
theorem chain_size {L : List S.Way} {A : List S.Tx} {name : S.Tx} {C : List S.Tx} (h : S.chainOf A L name = some C) (hn : name.length ≤ 200) (hL : ∀ w ∈ L, w.1.length ≤ 50) {i : Nat} {x : S.Tx} (hx : C[i]? = some x) : x.length ≤ 26000 := by
  rcases S.chainOf_cases A L name with ⟨e, _⟩ | ⟨k, r, e, _, hr, _, _⟩
  · rw [e] at h; cases h
  · rw [e] at h
    cases h
    have hf := (S.srch_good S.noW L name).1
    obtain ⟨⟨c, hc⟩, _, hin⟩ := S.ch_in hf k (List.getElem?_eq_some_iff.1 hr).1
    have hlt := (List.getElem?_eq_some_iff.1 hx).1
    by_cases h1 : i + 1 < (S.ch (S.srch S.noW L name) k).length
    · obtain ⟨j, z, _, _, _, hz, rfl⟩ := hin i x h1 hx
      exact hf.size2 hn hL hz
    · have h2 : (S.ch (S.srch S.noW L name) k).length = c.length + 1 := by rw [hc]; simp
      have h3 : i = c.length := by omega
      rw [hc, h3, List.getElem?_append_right (Nat.le_refl _), Nat.sub_self] at hx
      cases hx
      omega

set_option maxRecDepth 20000 in
set_option maxHeartbeats 4000000 in
theorem holds_law (vs vw vt : Value) (Sf : List S.Tx) (L : List S.Way) (nm : ByteArray) (A : List S.Tx) (w : World) (hT : Tb w.heap.size w vs vw Sf L) (h0 : Words w.heap.size w vt (A.map ba))
    (hA : A.length ≤ 100000000000000) (hAz : ∀ t ∈ A, t.length ≤ 9223372036854775807) (hnz : nm.size ≤ 140737488355328) :
    Calls Try.prog 3 #[.agg #[vs, vw], .string nm, vt] w fun e w' => e = .returned (.bool true) ∧ Below w.heap.size w w' := by
  obtain ⟨sa, cs, rfl⟩ := hT.suf.slice
  obtain ⟨aw, cw, rfl⟩ := hT.way.slice
  obtain ⟨a0, c0, rfl⟩ := h0.slice
  have HF : Hid (∀ W, Below w.heap.size w W → Calls Try.prog 6 #[.agg #[.slice sa Sf.length cs, .slice aw L.length cw]] W (FarPost Sf L W)) := fun W hW => far_any _ _ Sf L w.heap.size W (hT.below hW)
  have HAl : Hid (∀ W, Calls Try.prog 7 #[] W fun e w' => e = .returned (.bool true) ∧ Below W.heap.size W w') := fun W => alive_any W
  have HTh : Hid (∀ W, Calls Try.prog 9 #[.agg #[.slice sa Sf.length cs, .slice aw L.length cw]] W fun e w' => e = .returned (.agg #[.slice sa Sf.length cs, .slice aw L.length cw]) ∧ Below W.heap.size W w') := fun W => theirs_any sa aw _ _ _ _ W
  have hc0 := h0.len.2
  obtain ⟨n0, hn0⟩ : ∃ n, n = A.length := ⟨_, rfl⟩
  obtain ⟨ns, hns⟩ : ∃ n, n = Sf.length := ⟨_, rfl⟩
  obtain ⟨nw, hnw⟩ : ∃ n, n = L.length := ⟨_, rfl⟩
  rw [← hn0] at hA hc0
  have HP : Hid (n0 = A.length ∧ Words w.heap.size w (.slice a0 n0 c0) (A.map ba) ∧ Tb w.heap.size w (.slice sa ns cs) (.slice aw nw cw) Sf L ∧ (∀ t ∈ A, t.length ≤ 9223372036854775807)) := ⟨hn0, by rw [hn0]; exact h0, by rw [hns, hnw]; exact hT, hAz⟩
  rw [← hns, ← hnw] at HF HTh
  rw [← hns, ← hnw, ← hn0]
  obtain ⟨W2, hW2⟩ : ∃ W2, W2 = w.alloc (.cells #[.slice sa ns cs, .slice aw nw cw] 25) := ⟨_, rfl⟩
  have HB0 : Hid (Below w.heap.size w W2 ∧ W2.heap[w.heap.size]? = some (.cells #[.slice sa ns cs, .slice aw nw cw] 25 (0, 0))) := ⟨by rw [hW2]; exact below_alloc1 _ _, by rw [hW2]; exact alloc_b rfl⟩
  clear hn0 hns hnw h0 hT hAz
  go_enter Try.func3, Try.ntmps3
  go_wp2_with fail
  rw [← hW2]
  clear hW2
  refine (HF.out _ HB0.out.1).mono ?_
  rintro e w1 ⟨b, rfl, hb1, hfar⟩
  have H1 : Hid (Below w.heap.size w w1 ∧ w1.heap[w.heap.size]? = some (.cells #[.slice sa ns cs, .slice aw nw cw] 25 (0, 0))) := ⟨below_trans HB0.out.1 hb1 HB0.out.1.size, (hb1.block _ (Array.getElem?_eq_some_iff.1 HB0.out.2).1).trans HB0.out.2⟩
  clear hb1 HB0
  have y0 := cell_in H1.out.2 0 rfl
  have y1 := cell_in H1.out.2 1 rfl
  cases b with
  | true =>
    clear hfar
    go_wp2_with fail
    refine (HAl.out _).mono ?_
    rintro e w2 ⟨rfl, hb2⟩
    have H2 : Hid (Below w.heap.size w w2) := below_trans H1.out.1 hb2 H1.out.1.size
    clear hb2
    go_wp2_with fail
    go_ret
    exact ⟨rfl, H2.out⟩
  | false =>
    have HFar : Hid (Sf.length ≤ 70 ∧ L.length ≤ 30 ∧ ∀ s ∈ Sf, s.length ≤ 50) := hfar rfl
    clear hfar
    by_cases h200 : (200 : Int) < (nm.size : Int)
    · go_wp2_with fail
      refine (HAl.out _).mono ?_
      rintro e w2 ⟨rfl, hb2⟩
      have H2 : Hid (Below w.heap.size w w2) := below_trans H1.out.1 hb2 H1.out.1.size
      clear hb2
      go_wp2_with fail
      go_ret
      exact ⟨rfl, H2.out⟩
    · by_cases h60 : (60 : Int) < (n0 : Int)
      · go_wp2_with fail
        refine (HAl.out _).mono ?_
        rintro e w2 ⟨rfl, hb2⟩
        have H2 : Hid (Below w.heap.size w w2) := below_trans H1.out.1 hb2 H1.out.1.size
        clear hb2
        go_wp2_with fail
        go_ret
        exact ⟨rfl, H2.out⟩
      · have hnm : nm.size ≤ 200 := by omega
        have hn60 : n0 ≤ 60 := by omega
        have HC0 : Hid (∀ W, Below w.heap.size w W → Calls Try.prog 8 #[.agg #[.slice sa ns cs, .slice aw nw cw], .string nm, .slice a0 n0 c0] W (ChainPost (chainT Sf L A (bl nm)) W)) := fun W hW =>
          chain_any _ _ _ Sf L A nm w.heap.size W (HP.out.2.2.1.below hW) HFar.out.2.2 hnm (HP.out.2.1.below hW) (by rw [← HP.out.1]; omega) HP.out.2.2.2
        have HIn : Hid (∀ (x : ByteArray) W, Below w.heap.size w W → Calls Try.prog 10 #[.slice a0 n0 c0, .string x] W fun e w' => e = .returned (.bool (A.contains (bl x))) ∧ w' = W) := fun x W hW => in_any _ x A w.heap.size W (HP.out.2.1.below hW) (by rw [← HP.out.1]; exact hA)
        have HNx : Hid (∀ (x : ByteArray) W, x.size ≤ 26000 → Below w.heap.size w W → Calls Try.prog 11 #[.agg #[.slice sa ns cs, .slice aw nw cw], .string x] W (NextPost (nextT Sf L (bl x)) W)) := fun x W hx hW => next_any _ _ Sf L x w.heap.size W (HP.out.2.2.1.below hW) HFar.out.2.2 hx
        have HSz : Hid (S.RightP Sf L → ∀ x ∈ L, x.1.length ≤ 50) := fun hr x hx => (right_ways hr HFar.out.2.2 x hx).1
        clear HP HFar HF
        go_wp2_with fail
        refine (HTh.out _).mono ?_
        rintro e w2 ⟨rfl, hb2⟩
        have H2 : Hid (Below w.heap.size w w2 ∧ w2.heap[w.heap.size]? = some (.cells #[.slice sa ns cs, .slice aw nw cw] 25 (0, 0))) := ⟨below_trans H1.out.1 hb2 H1.out.1.size, (hb2.block _ (Array.getElem?_eq_some_iff.1 H1.out.2).1).trans H1.out.2⟩
        clear hb2 H1 y0 y1
        go_wp2_with fail
        refine (HC0.out _ H2.out.1).mono ?_
        rintro e w3 ⟨v, b, rfl, hb3, hnone, hsome⟩
        have H3 : Hid (Below w.heap.size w w3 ∧ w3.heap[w.heap.size]? = some (.cells #[.slice sa ns cs, .slice aw nw cw] 25 (0, 0))) := ⟨below_trans H2.out.1 hb3 H2.out.1.size, (hb3.block _ (Array.getElem?_eq_some_iff.1 H2.out.2).1).trans H2.out.2⟩
        have HSm : Hid (∀ C, chainT Sf L A (bl nm) = some C → b = true ∧ w3.ownsRow w2.heap.size 9 1 v C.length (txt C)) := hsome
        have HNo : Hid (chainT Sf L A (bl nm) = none → b = false ∧ v = .slice none 0 0) := hnone
        clear hb3 H2 HC0 HTh hsome hnone
        cases hch : chainT Sf L A (bl nm) with
        | none =>
          obtain ⟨rfl, rfl⟩ := HNo.out hch
          clear hch HSm HNo
          go_wp2_with fail
          refine (HAl.out _).mono ?_
          rintro e w4 ⟨rfl, hb4⟩
          have H4 : Hid (Below w.heap.size w w4) := below_trans H3.out.1 hb4 H3.out.1.size
          clear hb4
          go_wp2_with fail
          go_ret
          exact ⟨rfl, H4.out⟩
        | some C =>
          obtain ⟨rfl, hrow⟩ := HSm.out C hch
          obtain ⟨hrp, hco⟩ := chain_right hch
          obtain ⟨m2, m7, ⟨x0, hx0, hx0A⟩, hlast, hsteps⟩ := S.holds_math hco
          have hsize := fun i x hx => chain_size (i := i) (x := x) hco (by rw [bl_length]; exact hnm) (HSz.out hrp) hx
          obtain ⟨K, hK⟩ : ∃ K, C.length = K + 1 := ⟨C.length - 1, by omega⟩
          obtain ⟨g, cap, hv, hgl, hcap, _, hcell⟩ : ∃ g cap, v = .slice (some ⟨g, 0, none⟩) C.length cap ∧ g < w3.heap.size ∧ C.length ≤ cap ∧ (txt C).length = C.length * 1 ∧ ∀ j u, (txt C)[j]? = some u → w3.cell? ((⟨g, 0, none⟩ : Addr).add j) = some u := by
            rcases row_src hrow with ⟨_, h2, _⟩ | h
            · omega
            · exact h
          subst hv
          rw [hK] at hcap ⊢
          have HCell : Hid (∀ (i : Nat) (x : S.Tx), C[i]? = some x → w3.cell? ⟨g, i, none⟩ = some (.string (ba x))) := fun i x hx => by
            have h := hcell i (.string (ba x)) (by unfold txt; rw [List.getElem?_map, hx]; rfl)
            rw [add_none, Nat.zero_add] at h
            exact h
          have HM : Hid (S.RightP Sf L ∧ C.length = K + 1 ∧ C[0]? = some x0 ∧ x0 ∈ A ∧ C[K]? = some (bl nm) ∧ (∀ (i : Nat) (x : S.Tx), C[i]? = some x → x.length ≤ 26000) ∧ ∀ (i : Nat) (x y : S.Tx), C[i]? = some x → C[i + 1]? = some y → (∃ w ∈ L, S.made y w = some x) ∧ (i + 2 < C.length → y ∉ A)) := by
            refine ⟨hrp, hK, hx0, hx0A, ?_, hsize, hsteps⟩
            rw [hK, Nat.add_sub_cancel] at hlast; exact hlast
          have hK1 : 1 ≤ K := by omega
          have hK6 : K ≤ 6 := by omega
          have HGL : Hid (g < w3.heap.size) := hgl
          clear hrow hrp hco hlast hsteps hsize hcell hK hch HSm HNo hgl m2 m7 hx0 hx0A HSz
          have hc00 : w3.cell? ⟨g, 0, none⟩ = some (.string (ba x0)) := HCell.out 0 x0 HM.out.2.2.1
          have hcK : w3.cell? ⟨g, K, none⟩ = some (.string nm) := by
            have h := HCell.out K _ HM.out.2.2.2.2.1
            rwa [ba_bl] at h
          have HI0 := HIn.out (ba x0)
          rw [bl_ba', List.contains_iff_mem.2 HM.out.2.2.2.1] at HI0
          have HI0 : Hid (∀ W, Below w.heap.size w W → Calls Try.prog 10 #[.slice a0 n0 c0, .string (ba x0)] W fun e w' => e = .returned (.bool true) ∧ w' = W) := HI0
          obtain ⟨z0, hz0⟩ : ∃ z, z = ba x0 := ⟨_, rfl⟩
          rw [← hz0] at hc00 HI0
          clear hz0
          have hself : (nm.toList == nm.toList) = true := by simp
          have hKi : (1 : Int) ≤ (K : Int) := by omega
          go_wp2_with fail
          refine (HI0.out _ H3.out.1).mono ?_
          rintro e w4 ⟨rfl, rfl⟩
          go_wp2_with fail
          go_loopw [9] (fun vi wr => ∃ j : Nat, j ≤ K ∧ vi = .int .i64 ((j : Int) + 1) ∧ Hid (Below w4.heap.size w4 wr)) (fun vi _ => K + 1 - (intOf vi).toNat)
          case atStart => exact ⟨0, Nat.zero_le _, rfl, Below.refl _ _⟩
          case round =>
            obtain ⟨j, hj, rfl, HI⟩ := hrel
            by_cases hjK : j < K
            · have hji : (j : Int) + 1 < (K : Int) + 1 := by omega
              have hj6 : j ≤ 6 := by omega
              obtain ⟨jj, hjj⟩ : ∃ q, q = j := ⟨_, rfl⟩
              obtain ⟨KK, hKK⟩ : ∃ q, q = K := ⟨_, rfl⟩
              have HWJ : Hid (IntKind.i64.wrap (j : Int) = (jj : Int)) := by unfold Hid; rw [hjj]; exact wrap_d j (by omega)
              have HWK : Hid (IntKind.i64.wrap (K : Int) = (KK : Int)) := by unfold Hid; rw [hKK]; exact wrap_d K (by omega)
              have hq0 : (0 : Int) ≤ (jj : Int) := by omega
              have hq1 : (jj : Int) < (K : Int) + 1 := by omega
              have hj0 : (0 : Int) ≤ (j : Int) + 1 := by omega
              have hjl : j + 1 < C.length := by rw [HM.out.2.1]; omega
              obtain ⟨x, hx⟩ : ∃ x, C[j]? = some x := ⟨C[j]'(by omega), List.getElem?_eq_getElem _⟩
              obtain ⟨y, hy⟩ : ∃ y, C[j + 1]? = some y := ⟨C[j + 1], List.getElem?_eq_getElem hjl⟩
              have hxc := HCell.out j x hx
              have hyc := HCell.out (j + 1) y hy
              have hyz := HM.out.2.2.2.2.2.1 (j + 1) y hy
              obtain ⟨⟨wy, hwy, hmd⟩, hno⟩ := HM.out.2.2.2.2.2.2 j x y hx hy
              obtain ⟨xb, hxb⟩ : ∃ t, t = ba x := ⟨_, rfl⟩
              obtain ⟨yb, hyb⟩ : ∃ t, t = ba y := ⟨_, rfl⟩
              rw [← hxb] at hxc
              rw [← hyb] at hyc
              obtain ⟨R, hR⟩ : ∃ R, R = nextT Sf L y := ⟨_, rfl⟩
              have hRx : R.contains x = true := by
                rw [hR, List.contains_iff_mem]; unfold nextT; rw [if_pos HM.out.1]; exact S.mem_next.2 ⟨wy, hwy, hmd⟩
              have hRl : R.length ≤ 256 := by
                rw [hR]; unfold nextT; rw [if_pos HM.out.1]; exact Nat.le_trans (S.next_len _ _) HM.out.1.2.1
              obtain ⟨q, hq⟩ : ∃ q, q = R.length := ⟨_, rfl⟩
              have HNy : Hid (∀ W, Below w4.heap.size w4 W → Calls Try.prog 11 #[.agg #[.slice sa ns cs, .slice aw nw cw], .string yb] W fun e w' => ∃ a c, e = .returned (.slice a q c) ∧ Words w'.heap.size w' (.slice a q c) (R.map ba) ∧ Below w4.heap.size w4 w') := fun W hW => by
                have h := HNx.out yb W (by rw [hyb, ba_size]; exact hyz) (below_trans H3.out.1 hW H3.out.1.size)
                rw [hyb, bl_ba', ← hyb, ← hR] at h
                refine h.mono fun e w' h => ?_
                obtain ⟨v, rfl, hb, hrow⟩ := h
                obtain ⟨a, c, rfl⟩ := V.owns_slice hrow
                refine ⟨a, c, by rw [hq], ?_, below_trans hW hb hW.size⟩
                rw [hq]
                refine words_of_owns (base := W.heap.size) ?_ (Nat.le_refl _)
                rw [List.length_map, ← txt_eq]; exact hrow
              have HInR : Hid (∀ (a : Option Addr) (c : Nat) W, Below w4.heap.size w4 W → Words W.heap.size W (.slice a q c) (R.map ba) → Calls Try.prog 10 #[.slice a q c, .string xb] W fun e w' => e = .returned (.bool true) ∧ w' = W) := fun a c W _ hwd => by
                have h := in_any _ xb R W.heap.size W hwd (by omega)
                rw [hxb, bl_ba', ← hxb, hRx] at h
                exact h
              have hgl := HGL.out
              have l0 := (Array.getElem?_eq_some_iff.1 H3.out.2).1
              have t0 := cell_in H3.out.2 0 rfl
              have t1 := cell_in H3.out.2 1 rfl
              have HKw : Hid (∀ W, Below w4.heap.size w4 W → W.cell? ⟨w.heap.size, 0, none⟩ = some (.slice sa ns cs) ∧ W.cell? ⟨w.heap.size, 1, none⟩ = some (.slice aw nw cw) ∧ W.cell? ⟨g, j + 1, none⟩ = some (.string yb) ∧ W.cell? ⟨g, jj, none⟩ = some (.string xb)) := fun W hW =>
                ⟨(hW.cell (p := ⟨w.heap.size, 0, none⟩) l0).trans t0, (hW.cell (p := ⟨w.heap.size, 1, none⟩) l0).trans t1, (hW.cell (p := ⟨g, j + 1, none⟩) hgl).trans hyc, (hW.cell (p := ⟨g, jj, none⟩) hgl).trans (by rw [hjj]; exact hxc)⟩
              have HInA : Hid (j + 1 < K → ∀ W, Below w4.heap.size w4 W → Calls Try.prog 10 #[.slice a0 n0 c0, .string yb] W fun e w' => e = .returned (.bool false) ∧ w' = W) := fun hlt W hW => by
                have h := HIn.out yb W (below_trans H3.out.1 hW H3.out.1.size)
                have hn : A.contains (bl yb) = false := by
                  rw [hyb, bl_ba']
                  cases hc : A.contains y with
                  | false => rfl
                  | true => exact absurd (List.contains_iff_mem.1 hc) (hno (by rw [HM.out.2.1]; omega))
                rw [hn] at h
                exact h
              have HR1 : Hid (Below w4.heap.size w4 wr ∧ Below w4.heap.size w4 wr.drew) := ⟨HI.out, below_drew HI.out⟩
              clear hxc hyc hyz hwy hmd hno hxb hyb hR hRx hRl hq HNx HI hx hy t0 t1 l0 hgl
              by_cases hjl1 : j + 1 < K
              · have hjl2 : (j : Int) + 1 < (KK : Int) := by omega
                clear hjj hKK
                have HInA : Hid (∀ W, Below w4.heap.size w4 W → Calls Try.prog 10 #[.slice a0 n0 c0, .string yb] W fun e w' => e = .returned (.bool false) ∧ w' = W) := HInA.out hjl1
                go_upto_region 11 with fail
                refine wp_region_t (SA := fun W : World => W.cell? ⟨w.heap.size, 0, none⟩ = some (.slice sa ns cs) ∧ W.cell? ⟨w.heap.size, 1, none⟩ = some (.slice aw nw cw) ∧ W.cell? ⟨g, j + 1, none⟩ = some (.string yb) ∧ W.cell? ⟨g, jj, none⟩ = some (.string xb)) (SB := fun _ : World => True) (m := 1000) (n := 28) (by kernel_rfl) rfl ?_
                have SA0 := HKw.out _ HR1.out.2
                refine t_takeD (i := 0) (v := ?v0a) (some 71) rfl rfl (by kernel_rfl) (by kernel_rfl) (by kernel_rfl) (by decide) (fun _ _ _ h => h) SA0 (fun h => absurd h (by decide)) (Or.inl ⟨by rfl, ?hy0a⟩) ?rest0a
                case hy0a => (intro w' hSw; (try dsimp only at hSw); go_simp; try with_reducible rfl)
                simp only [Act.put, List.setIfInBounds_toArray, List.set_cons_zero, List.set_cons_succ]
                refine t_takeD (i := 1) (v := ?v1a) (some 72) rfl rfl (by kernel_rfl) (by kernel_rfl) (by kernel_rfl) (by decide) (fun _ _ _ h => h) SA0 (fun h => absurd h (by decide)) (Or.inl ⟨by rfl, ?hy1a⟩) ?rest1a
                case hy1a => (intro w' hSw; (try dsimp only at hSw); go_simp; try with_reducible rfl)
                simp only [Act.put, List.setIfInBounds_toArray, List.set_cons_zero, List.set_cons_succ]
                refine t_takeD (i := 2) (v := ?v2a) (some 73) rfl rfl (by kernel_rfl) (by kernel_rfl) (by kernel_rfl) (by decide) (fun _ _ _ h => h) SA0 (fun h => absurd h (by decide)) (Or.inl ⟨by rfl, ?hy2a⟩) ?rest2a
                case hy2a => (intro w' hSw; (try dsimp only at hSw); go_simp; try with_reducible rfl)
                simp only [Act.put, List.setIfInBounds_toArray, List.set_cons_zero, List.set_cons_succ]
                refine t_takeD (i := 3) (v := ?v3a) (some 74) rfl rfl (by kernel_rfl) (by kernel_rfl) (by kernel_rfl) (by decide) (fun _ _ _ h => h) SA0 (fun h => absurd h (by decide)) (Or.inl ⟨by rfl, ?hy3a⟩) ?rest3a
                case hy3a => (intro w' hSw; (try dsimp only at hSw); go_simp; try with_reducible rfl)
                simp only [Act.put, List.setIfInBounds_toArray, List.set_cons_zero, List.set_cons_succ]
                refine t_takeD (i := 4) (v := ?v4a) (some 75) rfl rfl (by kernel_rfl) (by kernel_rfl) (by kernel_rfl) (by decide) (fun _ _ _ h => h) SA0 (fun h => absurd h (by decide)) (Or.inl ⟨by rfl, ?hy4a⟩) ?rest4a
                case hy4a => (intro w' hSw; (try dsimp only at hSw); go_simp; try with_reducible rfl)
                simp only [Act.put, List.setIfInBounds_toArray, List.set_cons_zero, List.set_cons_succ]
                refine t_takeD (i := 6) (v := ?v6a) (some 77) rfl rfl (by kernel_rfl) (by kernel_rfl) (by kernel_rfl) (by decide) (fun _ _ _ h => h) SA0 (fun h => absurd h (by decide)) (Or.inl ⟨by rfl, ?hy6a⟩) ?rest6a
                case hy6a => (intro w' hSw; (try dsimp only at hSw); go_simp; try with_reducible rfl)
                simp only [Act.put, List.setIfInBounds_toArray, List.set_cons_zero, List.set_cons_succ]
                refine t_takeD (i := 7) (v := ?v7a) (some 78) rfl rfl (by kernel_rfl) (by kernel_rfl) (by kernel_rfl) (by decide) (fun _ _ _ h => h) SA0 (fun h => absurd h (by decide)) (Or.inl ⟨by rfl, ?hy7a⟩) ?rest7a
                case hy7a => (intro w' hSw; (try dsimp only at hSw); go_simp; try with_reducible rfl)
                simp only [Act.put, List.setIfInBounds_toArray, List.set_cons_zero, List.set_cons_succ]
                refine t_takeD (i := 8) (v := ?v8a) (some 79) rfl rfl (by kernel_rfl) (by kernel_rfl) (by kernel_rfl) (by decide) (fun _ _ _ h => h) SA0 (fun h => absurd h (by decide)) (Or.inl ⟨by rfl, ?hy8a⟩) ?rest8a
                case hy8a => (intro w' hSw; (try dsimp only at hSw); go_simp; rw [HWJ.out]; try with_reducible rfl)
                simp only [Act.put, List.setIfInBounds_toArray, List.set_cons_zero, List.set_cons_succ]
                refine t_takeD (i := 9) (v := ?v9a) (some 80) rfl rfl (by kernel_rfl) (by kernel_rfl) (by kernel_rfl) (by decide) (fun _ _ _ h => h) SA0 (fun h => absurd h (by decide)) (Or.inl ⟨by rfl, ?hy9a⟩) ?rest9a
                case hy9a => (intro w' hSw; (try dsimp only at hSw); go_simp; try with_reducible rfl)
                simp only [Act.put, List.setIfInBounds_toArray, List.set_cons_zero, List.set_cons_succ]
                refine t_takeD (i := 10) (v := ?v10a) (some 81) rfl rfl (by kernel_rfl) (by kernel_rfl) (by kernel_rfl) (by decide) (fun _ _ _ h => h) SA0 (fun h => absurd h (by decide)) (Or.inl ⟨by rfl, ?hy10a⟩) ?rest10a
                case hy10a => (intro w' hSw; (try dsimp only at hSw); go_simp; try with_reducible rfl)
                simp only [Act.put, List.setIfInBounds_toArray, List.set_cons_zero, List.set_cons_succ]
                refine t_step (i := 5) rfl (by kernel_rfl) (fun Kk hK => ?_)
                go_simp
                go_at_call 11
                refine (HNy.out _ HR1.out.2).mono ?_
                rintro e w6 ⟨ra, rc, rfl, hrw, hb6⟩
                go_wp2_with fail
                have SA6 := HKw.out _ hb6
                refine hK _ _ SA6 (fun h => absurd h (by decide)) ?_
                clear hK
                refine t_step (i := 11) rfl (by kernel_rfl) (fun Kk hK => ?_)
                go_simp
                go_at_call 10
                refine (HInR.out _ _ _ hb6 hrw).mono ?_
                rintro e w7 ⟨rfl, rfl⟩
                go_wp2_with fail
                refine hK _ _ SA6 (fun h => absurd h (by decide)) ?_
                clear hK
                refine t_takeD (i := 12) (v := ?v12a) (some 83) rfl rfl (by kernel_rfl) (by kernel_rfl) (by kernel_rfl) (by decide) (fun _ _ _ h => h) SA6 (fun h => absurd h (by decide)) (Or.inl ⟨by rfl, ?hy12a⟩) ?rest12a
                case hy12a => (intro w' hSw; (try dsimp only at hSw); go_simp; try with_reducible rfl)
                simp only [Act.put, List.setIfInBounds_toArray, List.set_cons_zero, List.set_cons_succ]
                refine t_takeD (i := 13) (v := ?v13a) (some 84) rfl rfl (by kernel_rfl) (by kernel_rfl) (by kernel_rfl) (by decide) (fun _ _ _ h => h) SA6 (fun h => absurd h (by decide)) (Or.inl ⟨by rfl, ?hy13a⟩) ?rest13a
                case hy13a => (intro w' hSw; (try dsimp only at hSw); go_simp; try with_reducible rfl)
                simp only [Act.put, List.setIfInBounds_toArray, List.set_cons_zero, List.set_cons_succ]
                refine t_takeD (i := 14) (v := ?v14a) (some 85) rfl rfl (by kernel_rfl) (by kernel_rfl) (by kernel_rfl) (by decide) (fun _ _ _ h => h) SA6 (fun h => absurd h (by decide)) (Or.inl ⟨by rfl, ?hy14a⟩) ?rest14a
                case hy14a => (intro w' hSw; (try dsimp only at hSw); go_simp; try with_reducible rfl)
                simp only [Act.put, List.setIfInBounds_toArray, List.set_cons_zero, List.set_cons_succ]
                refine t_takeD (i := 15) (v := ?v15a) (some 86) rfl rfl (by kernel_rfl) (by kernel_rfl) (by kernel_rfl) (by decide) (fun _ _ _ h => h) SA6 (fun h => absurd h (by decide)) (Or.inl ⟨by rfl, ?hy15a⟩) ?rest15a
                case hy15a => (intro w' hSw; (try dsimp only at hSw); go_simp; try with_reducible rfl)
                simp only [Act.put, List.setIfInBounds_toArray, List.set_cons_zero, List.set_cons_succ]
                refine t_takeD (i := 16) (v := ?v16a) (some 87) rfl rfl (by kernel_rfl) (by kernel_rfl) (by kernel_rfl) (by decide) (fun _ _ _ h => h) SA6 (fun h => absurd h (by decide)) (Or.inl ⟨by rfl, ?hy16a⟩) ?rest16a
                case hy16a => (intro w' hSw; (try dsimp only at hSw); go_simp; try with_reducible rfl)
                simp only [Act.put, List.setIfInBounds_toArray, List.set_cons_zero, List.set_cons_succ]
                refine t_takeD (i := 17) (v := ?v17a) (some 88) rfl rfl (by kernel_rfl) (by kernel_rfl) (by kernel_rfl) (by decide) (fun _ _ _ h => h) SA6 (fun h => absurd h (by decide)) (Or.inl ⟨by rfl, ?hy17a⟩) ?rest17a
                case hy17a => (intro w' hSw; (try dsimp only at hSw); go_simp; rw [HWK.out]; try with_reducible rfl)
                simp only [Act.put, List.setIfInBounds_toArray, List.set_cons_zero, List.set_cons_succ]
                refine t_takeD (i := 18) (v := ?v18a) (some 89) rfl rfl (by kernel_rfl) (by kernel_rfl) (by kernel_rfl) (by decide) (fun _ _ _ h => h) SA6 (fun h => absurd h (by decide)) (Or.inl ⟨by rfl, ?hy18a⟩) ?rest18a
                case hy18a => (intro w' hSw; (try dsimp only at hSw); go_simp; try with_reducible rfl)
                simp only [Act.put, List.setIfInBounds_toArray, List.set_cons_zero, List.set_cons_succ]
                refine t_takeD (i := 19) (v := ?v19a) (some 90) rfl rfl (by kernel_rfl) (by kernel_rfl) (by kernel_rfl) (by decide) (fun _ _ _ h => h) SA6 (fun h => absurd h (by decide)) (Or.inl ⟨by rfl, ?hy19a⟩) ?rest19a
                case hy19a => (intro w' hSw; (try dsimp only at hSw); go_simp; try with_reducible rfl)
                simp only [Act.put, List.setIfInBounds_toArray, List.set_cons_zero, List.set_cons_succ]
                refine t_takeD (i := 20) (v := ?v20a) (some 91) rfl rfl (by kernel_rfl) (by kernel_rfl) (by kernel_rfl) (by decide) (fun _ _ _ h => h) SA6 (fun h => absurd h (by decide)) (Or.inl ⟨by rfl, ?hy20a⟩) ?rest20a
                case hy20a => (intro w' hSw; (try dsimp only at hSw); go_simp; try with_reducible rfl)
                simp only [Act.put, List.setIfInBounds_toArray, List.set_cons_zero, List.set_cons_succ]
                refine t_takeD (i := 21) (v := ?v21a) (some 92) rfl rfl (by kernel_rfl) (by kernel_rfl) (by kernel_rfl) (by decide) (fun _ _ _ h => h) SA6 (fun h => absurd h (by decide)) (Or.inl ⟨by rfl, ?hy21a⟩) ?rest21a
                case hy21a => (intro w' hSw; (try dsimp only at hSw); go_simp; try with_reducible rfl)
                simp only [Act.put, List.setIfInBounds_toArray, List.set_cons_zero, List.set_cons_succ]
                refine t_takeD (i := 22) (v := ?v22a) (some 93) rfl rfl (by kernel_rfl) (by kernel_rfl) (by kernel_rfl) (by decide) (fun _ _ _ h => h) SA6 (fun h => absurd h (by decide)) (Or.inl ⟨by rfl, ?hy22a⟩) ?rest22a
                case hy22a => (intro w' hSw; (try dsimp only at hSw); go_simp; try with_reducible rfl)
                simp only [Act.put, List.setIfInBounds_toArray, List.set_cons_zero, List.set_cons_succ]
                refine t_takeD (i := 23) (v := ?v23a) (some 94) rfl rfl (by kernel_rfl) (by kernel_rfl) (by kernel_rfl) (by decide) (fun _ _ _ h => h) SA6 (fun h => absurd h (by decide)) (Or.inl ⟨by rfl, ?hy23a⟩) ?rest23a
                case hy23a => (intro w' hSw; (try dsimp only at hSw); go_simp; try with_reducible rfl)
                simp only [Act.put, List.setIfInBounds_toArray, List.set_cons_zero, List.set_cons_succ]
                refine t_takeD (i := 24) (v := ?v24a) (some 95) rfl rfl (by kernel_rfl) (by kernel_rfl) (by kernel_rfl) (by decide) (fun _ _ _ h => h) SA6 (fun h => absurd h (by decide)) (Or.inl ⟨by rfl, ?hy24a⟩) ?rest24a
                case hy24a => (intro w' hSw; (try dsimp only at hSw); go_simp; try with_reducible rfl)
                simp only [Act.put, List.setIfInBounds_toArray, List.set_cons_zero, List.set_cons_succ]
                refine t_step (i := 25) rfl (by kernel_rfl) (fun Kk hK => ?_)
                go_simp
                go_at_call 10
                refine (HInA.out _ hb6).mono ?_
                rintro e w8 ⟨rfl, rfl⟩
                go_wp2_with fail
                refine hK _ _ SA6 (fun h => absurd h (by decide)) ?_
                clear hK
                refine t_takeD (i := 26) (v := ?v26a) (some 97) rfl rfl (by kernel_rfl) (by kernel_rfl) (by kernel_rfl) (by decide) (fun _ _ _ h => h) SA6 (fun h => absurd h (by decide)) (Or.inl ⟨by rfl, ?hy26a⟩) ?rest26a
                case hy26a => (intro w' hSw; (try dsimp only at hSw); go_simp; try with_reducible rfl)
                simp only [Act.put, List.setIfInBounds_toArray, List.set_cons_zero, List.set_cons_succ]
                refine t_takeD (i := 27) (v := ?v27a) (some 98) rfl rfl (by kernel_rfl) (by kernel_rfl) (by kernel_rfl) (by decide) (fun _ _ _ h => h) SA6 (fun h => absurd h (by decide)) (Or.inl ⟨by rfl, ?hy27a⟩) ?rest27a
                case hy27a => (intro w' hSw; (try dsimp only at hSw); go_simp; try with_reducible rfl)
                simp only [Act.put, List.setIfInBounds_toArray, List.set_cons_zero, List.set_cons_succ]
                refine t_done (by kernel_rfl) ?_ _
                have HB6 : Hid _ := hb6
                go_wp2_with fail
                go_roundw
                case rel => exact ⟨j + 1, by omega, by go_num, HB6.out⟩
                case measure => simp [intOf]; omega
              · have hjl2 : ¬ (j : Int) + 1 < (KK : Int) := by omega
                have HDEC : Hid (decide ((j : Int) + 1 < (KK : Int)) = false) := decide_eq_false hjl2
                clear hjl2
                clear hjj hKK
                clear HInA
                go_upto_region 11 with fail
                refine wp_region_t (SA := fun W : World => W.cell? ⟨w.heap.size, 0, none⟩ = some (.slice sa ns cs) ∧ W.cell? ⟨w.heap.size, 1, none⟩ = some (.slice aw nw cw) ∧ W.cell? ⟨g, j + 1, none⟩ = some (.string yb) ∧ W.cell? ⟨g, jj, none⟩ = some (.string xb)) (SB := fun _ : World => True) (m := 1000) (n := 28) (by kernel_rfl) rfl ?_
                have SA0 := HKw.out _ HR1.out.2
                refine t_takeD (i := 0) (v := ?v0b) (some 71) rfl rfl (by kernel_rfl) (by kernel_rfl) (by kernel_rfl) (by decide) (fun _ _ _ h => h) SA0 (fun h => absurd h (by decide)) (Or.inl ⟨by rfl, ?hy0b⟩) ?rest0b
                case hy0b => (intro w' hSw; (try dsimp only at hSw); go_simp; try with_reducible rfl)
                simp only [Act.put, List.setIfInBounds_toArray, List.set_cons_zero, List.set_cons_succ]
                refine t_takeD (i := 1) (v := ?v1b) (some 72) rfl rfl (by kernel_rfl) (by kernel_rfl) (by kernel_rfl) (by decide) (fun _ _ _ h => h) SA0 (fun h => absurd h (by decide)) (Or.inl ⟨by rfl, ?hy1b⟩) ?rest1b
                case hy1b => (intro w' hSw; (try dsimp only at hSw); go_simp; try with_reducible rfl)
                simp only [Act.put, List.setIfInBounds_toArray, List.set_cons_zero, List.set_cons_succ]
                refine t_takeD (i := 2) (v := ?v2b) (some 73) rfl rfl (by kernel_rfl) (by kernel_rfl) (by kernel_rfl) (by decide) (fun _ _ _ h => h) SA0 (fun h => absurd h (by decide)) (Or.inl ⟨by rfl, ?hy2b⟩) ?rest2b
                case hy2b => (intro w' hSw; (try dsimp only at hSw); go_simp; try with_reducible rfl)
                simp only [Act.put, List.setIfInBounds_toArray, List.set_cons_zero, List.set_cons_succ]
                refine t_takeD (i := 3) (v := ?v3b) (some 74) rfl rfl (by kernel_rfl) (by kernel_rfl) (by kernel_rfl) (by decide) (fun _ _ _ h => h) SA0 (fun h => absurd h (by decide)) (Or.inl ⟨by rfl, ?hy3b⟩) ?rest3b
                case hy3b => (intro w' hSw; (try dsimp only at hSw); go_simp; try with_reducible rfl)
                simp only [Act.put, List.setIfInBounds_toArray, List.set_cons_zero, List.set_cons_succ]
                refine t_takeD (i := 4) (v := ?v4b) (some 75) rfl rfl (by kernel_rfl) (by kernel_rfl) (by kernel_rfl) (by decide) (fun _ _ _ h => h) SA0 (fun h => absurd h (by decide)) (Or.inl ⟨by rfl, ?hy4b⟩) ?rest4b
                case hy4b => (intro w' hSw; (try dsimp only at hSw); go_simp; try with_reducible rfl)
                simp only [Act.put, List.setIfInBounds_toArray, List.set_cons_zero, List.set_cons_succ]
                refine t_takeD (i := 6) (v := ?v6b) (some 77) rfl rfl (by kernel_rfl) (by kernel_rfl) (by kernel_rfl) (by decide) (fun _ _ _ h => h) SA0 (fun h => absurd h (by decide)) (Or.inl ⟨by rfl, ?hy6b⟩) ?rest6b
                case hy6b => (intro w' hSw; (try dsimp only at hSw); go_simp; try with_reducible rfl)
                simp only [Act.put, List.setIfInBounds_toArray, List.set_cons_zero, List.set_cons_succ]
                refine t_takeD (i := 7) (v := ?v7b) (some 78) rfl rfl (by kernel_rfl) (by kernel_rfl) (by kernel_rfl) (by decide) (fun _ _ _ h => h) SA0 (fun h => absurd h (by decide)) (Or.inl ⟨by rfl, ?hy7b⟩) ?rest7b
                case hy7b => (intro w' hSw; (try dsimp only at hSw); go_simp; try with_reducible rfl)
                simp only [Act.put, List.setIfInBounds_toArray, List.set_cons_zero, List.set_cons_succ]
                refine t_takeD (i := 8) (v := ?v8b) (some 79) rfl rfl (by kernel_rfl) (by kernel_rfl) (by kernel_rfl) (by decide) (fun _ _ _ h => h) SA0 (fun h => absurd h (by decide)) (Or.inl ⟨by rfl, ?hy8b⟩) ?rest8b
                case hy8b => (intro w' hSw; (try dsimp only at hSw); go_simp; rw [HWJ.out]; try with_reducible rfl)
                simp only [Act.put, List.setIfInBounds_toArray, List.set_cons_zero, List.set_cons_succ]
                refine t_takeD (i := 9) (v := ?v9b) (some 80) rfl rfl (by kernel_rfl) (by kernel_rfl) (by kernel_rfl) (by decide) (fun _ _ _ h => h) SA0 (fun h => absurd h (by decide)) (Or.inl ⟨by rfl, ?hy9b⟩) ?rest9b
                case hy9b => (intro w' hSw; (try dsimp only at hSw); go_simp; try with_reducible rfl)
                simp only [Act.put, List.setIfInBounds_toArray, List.set_cons_zero, List.set_cons_succ]
                refine t_takeD (i := 10) (v := ?v10b) (some 81) rfl rfl (by kernel_rfl) (by kernel_rfl) (by kernel_rfl) (by decide) (fun _ _ _ h => h) SA0 (fun h => absurd h (by decide)) (Or.inl ⟨by rfl, ?hy10b⟩) ?rest10b
                case hy10b => (intro w' hSw; (try dsimp only at hSw); go_simp; try with_reducible rfl)
                simp only [Act.put, List.setIfInBounds_toArray, List.set_cons_zero, List.set_cons_succ]
                refine t_step (i := 5) rfl (by kernel_rfl) (fun Kk hK => ?_)
                go_simp
                go_at_call 11
                refine (HNy.out _ HR1.out.2).mono ?_
                rintro e w6 ⟨ra, rc, rfl, hrw, hb6⟩
                go_wp2_with fail
                have SA6 := HKw.out _ hb6
                refine hK _ _ SA6 (fun h => absurd h (by decide)) ?_
                clear hK
                refine t_step (i := 11) rfl (by kernel_rfl) (fun Kk hK => ?_)
                go_simp
                go_at_call 10
                refine (HInR.out _ _ _ hb6 hrw).mono ?_
                rintro e w7 ⟨rfl, rfl⟩
                go_wp2_with fail
                refine hK _ _ SA6 (fun h => absurd h (by decide)) ?_
                clear hK
                refine t_takeD (i := 12) (v := ?v12b) (some 83) rfl rfl (by kernel_rfl) (by kernel_rfl) (by kernel_rfl) (by decide) (fun _ _ _ h => h) SA6 (fun h => absurd h (by decide)) (Or.inl ⟨by rfl, ?hy12b⟩) ?rest12b
                case hy12b => (intro w' hSw; (try dsimp only at hSw); go_simp; try with_reducible rfl)
                simp only [Act.put, List.setIfInBounds_toArray, List.set_cons_zero, List.set_cons_succ]
                refine t_takeD (i := 13) (v := ?v13b) (some 84) rfl rfl (by kernel_rfl) (by kernel_rfl) (by kernel_rfl) (by decide) (fun _ _ _ h => h) SA6 (fun h => absurd h (by decide)) (Or.inl ⟨by rfl, ?hy13b⟩) ?rest13b
                case hy13b => (intro w' hSw; (try dsimp only at hSw); go_simp; try with_reducible rfl)
                simp only [Act.put, List.setIfInBounds_toArray, List.set_cons_zero, List.set_cons_succ]
                refine t_takeD (i := 14) (v := ?v14b) (some 85) rfl rfl (by kernel_rfl) (by kernel_rfl) (by kernel_rfl) (by decide) (fun _ _ _ h => h) SA6 (fun h => absurd h (by decide)) (Or.inl ⟨by rfl, ?hy14b⟩) ?rest14b
                case hy14b => (intro w' hSw; (try dsimp only at hSw); go_simp; try with_reducible rfl)
                simp only [Act.put, List.setIfInBounds_toArray, List.set_cons_zero, List.set_cons_succ]
                refine t_takeD (i := 15) (v := ?v15b) (some 86) rfl rfl (by kernel_rfl) (by kernel_rfl) (by kernel_rfl) (by decide) (fun _ _ _ h => h) SA6 (fun h => absurd h (by decide)) (Or.inl ⟨by rfl, ?hy15b⟩) ?rest15b
                case hy15b => (intro w' hSw; (try dsimp only at hSw); go_simp; try with_reducible rfl)
                simp only [Act.put, List.setIfInBounds_toArray, List.set_cons_zero, List.set_cons_succ]
                refine t_takeD (i := 16) (v := ?v16b) (some 87) rfl rfl (by kernel_rfl) (by kernel_rfl) (by kernel_rfl) (by decide) (fun _ _ _ h => h) SA6 (fun h => absurd h (by decide)) (Or.inl ⟨by rfl, ?hy16b⟩) ?rest16b
                case hy16b => (intro w' hSw; (try dsimp only at hSw); go_simp; try with_reducible rfl)
                simp only [Act.put, List.setIfInBounds_toArray, List.set_cons_zero, List.set_cons_succ]
                refine t_takeD (i := 17) (v := ?v17b) (some 88) rfl rfl (by kernel_rfl) (by kernel_rfl) (by kernel_rfl) (by decide) (fun _ _ _ h => h) SA6 (fun h => absurd h (by decide)) (Or.inl ⟨by rfl, ?hy17b⟩) ?rest17b
                case hy17b => (intro w' hSw; (try dsimp only at hSw); go_simp; rw [HWK.out]; try with_reducible rfl)
                simp only [Act.put, List.setIfInBounds_toArray, List.set_cons_zero, List.set_cons_succ]
                refine t_takeD (i := 18) (v := ?v18b) (some 89) rfl rfl (by kernel_rfl) (by kernel_rfl) (by kernel_rfl) (by decide) (fun _ _ _ h => h) SA6 (fun h => absurd h (by decide)) (Or.inl ⟨by rfl, ?hy18b⟩) ?rest18b
                case hy18b => (intro w' hSw; (try dsimp only at hSw); go_simp; try rw [HDEC.out]; try with_reducible rfl)
                simp only [Act.put, List.setIfInBounds_toArray, List.set_cons_zero, List.set_cons_succ]
                refine t_takeD (i := 19) (v := ?v19b) (some 90) rfl rfl (by kernel_rfl) (by kernel_rfl) (by kernel_rfl) (by decide) (fun _ _ _ h => h) SA6 (fun h => absurd h (by decide)) (Or.inl ⟨by rfl, ?hy19b⟩) ?rest19b
                case hy19b => (intro w' hSw; (try dsimp only at hSw); go_simp; try with_reducible rfl)
                simp only [Act.put, List.setIfInBounds_toArray, List.set_cons_zero, List.set_cons_succ]
                refine t_takeD (i := 20) (v := undef) (some 91) rfl rfl (by kernel_rfl) (by kernel_rfl) (by kernel_rfl) (by decide) (fun _ _ _ h => h) SA6 (fun h => absurd h (by decide)) (Or.inr ⟨by rfl, rfl⟩) ?rest20b
                simp only [Act.put, List.setIfInBounds_toArray, List.set_cons_zero, List.set_cons_succ]
                refine t_takeD (i := 21) (v := undef) (some 92) rfl rfl (by kernel_rfl) (by kernel_rfl) (by kernel_rfl) (by decide) (fun _ _ _ h => h) SA6 (fun h => absurd h (by decide)) (Or.inr ⟨by rfl, rfl⟩) ?rest21b
                simp only [Act.put, List.setIfInBounds_toArray, List.set_cons_zero, List.set_cons_succ]
                refine t_takeD (i := 22) (v := undef) (some 93) rfl rfl (by kernel_rfl) (by kernel_rfl) (by kernel_rfl) (by decide) (fun _ _ _ h => h) SA6 (fun h => absurd h (by decide)) (Or.inr ⟨by rfl, rfl⟩) ?rest22b
                simp only [Act.put, List.setIfInBounds_toArray, List.set_cons_zero, List.set_cons_succ]
                refine t_takeD (i := 23) (v := undef) (some 94) rfl rfl (by kernel_rfl) (by kernel_rfl) (by kernel_rfl) (by decide) (fun _ _ _ h => h) SA6 (fun h => absurd h (by decide)) (Or.inr ⟨by rfl, rfl⟩) ?rest23b
                simp only [Act.put, List.setIfInBounds_toArray, List.set_cons_zero, List.set_cons_succ]
                refine t_takeD (i := 24) (v := undef) (some 95) rfl rfl (by kernel_rfl) (by kernel_rfl) (by kernel_rfl) (by decide) (fun _ _ _ h => h) SA6 (fun h => absurd h (by decide)) (Or.inr ⟨by rfl, rfl⟩) ?rest24b
                simp only [Act.put, List.setIfInBounds_toArray, List.set_cons_zero, List.set_cons_succ]
                refine t_takeD (i := 25) (v := undef) (some 96) rfl rfl (by kernel_rfl) (by kernel_rfl) (by kernel_rfl) (by decide) (fun _ _ _ h => h) SA6 (fun h => absurd h (by decide)) (Or.inr ⟨by rfl, rfl⟩) ?rest25b
                simp only [Act.put, List.setIfInBounds_toArray, List.set_cons_zero, List.set_cons_succ]
                refine t_takeD (i := 26) (v := ?v26b) (some 97) rfl rfl (by kernel_rfl) (by kernel_rfl) (by kernel_rfl) (by decide) (fun _ _ _ h => h) SA6 (fun h => absurd h (by decide)) (Or.inl ⟨by rfl, ?hy26b⟩) ?rest26b
                case hy26b => (intro w' hSw; (try dsimp only at hSw); go_simp; try with_reducible rfl)
                simp only [Act.put, List.setIfInBounds_toArray, List.set_cons_zero, List.set_cons_succ]
                refine t_takeD (i := 27) (v := ?v27b) (some 98) rfl rfl (by kernel_rfl) (by kernel_rfl) (by kernel_rfl) (by decide) (fun _ _ _ h => h) SA6 (fun h => absurd h (by decide)) (Or.inl ⟨by rfl, ?hy27b⟩) ?rest27b
                case hy27b => (intro w' hSw; (try dsimp only at hSw); go_simp; try with_reducible rfl)
                simp only [Act.put, List.setIfInBounds_toArray, List.set_cons_zero, List.set_cons_succ]
                refine t_done (by kernel_rfl) ?_ _
                have HB6 : Hid _ := hb6
                go_wp2_with fail
                go_roundw
                case rel => exact ⟨j + 1, by omega, by go_num, HB6.out⟩
                case measure => simp [intOf]; omega
            · have hjK : j = K := by omega
              subst hjK
              have HB : Hid (Below w.heap.size w wr) := below_trans H3.out.1 HI.out H3.out.1.size
              go_wp2_with fail
              refine (HAl.out _).mono ?_
              rintro e w8 ⟨rfl, hb8⟩
              have H8 : Hid (Below w.heap.size w w8) := below_trans HB.out hb8 HB.out.size
              clear hb8
              go_wp2_with fail
              go_ret
              exact ⟨rfl, H8.out⟩
end Go.Proofs.Ytfcoihklihkngaa
