/-
  SuffSome: there is a chain just if something that can be reached is there; no name is reached twice, or is the name itself.
-/
import Derived.Test.YtfcoihklihkngaaS12b
namespace Go.Proofs.Ytfcoihklihkngaa
open Go.RowKit Go.Shelf Go.Maps

theorem reachTl (Sf : List S.Tx) (L : List S.Way) (name : S.Tx) : (reachT Sf L name).length < 512 := by
  unfold reachT
  by_cases h : S.RightP Sf L
  · rw [if_pos h]; exact S.reach_len L name
  · rw [if_neg h]; exact (by decide : ([] : List S.Tx).length < 512)
theorem reachTn {Sf : List S.Tx} {L : List S.Way} {name : S.Tx} {i : Nat} {x : S.Tx} (h : (reachT Sf L name)[i]? = some x) : x ≠ name ∧ x ∉ (reachT Sf L name).take i := by
  unfold reachT at h ⊢
  by_cases hr : S.RightP Sf L
  · rw [if_pos hr] at h ⊢
    exact ⟨S.reach_ne h, S.reach_once h⟩
  · rw [if_neg hr] at h; simp at h
theorem someT (there : List S.Tx) (Sf : List S.Tx) (L : List S.Way) (name : S.Tx) : (chainT Sf L there name).isSome = (reachT Sf L name).any fun x => there.contains x := by
  unfold chainT reachT
  by_cases hr : S.RightP Sf L
  · rw [if_pos hr, if_pos hr, Bool.eq_iff_iff, S.some_math, List.any_eq_true]
    exact exists_congr fun x => and_congr Iff.rfl List.contains_iff_mem.symm
  · rw [if_neg hr, if_neg hr]; rfl
theorem any_step (p : S.Tx → Bool) (R : List S.Tx) (k : Nat) (x : S.Tx) (h : R[k]? = some x) : (R.take (k + 1)).any p = ((R.take k).any p || p x) := by
  rw [List.take_add_one, h, Option.toList_some, List.any_append]; simp

set_option maxRecDepth 20000 in
set_option maxHeartbeats 2000000 in
theorem some_law (vs vw vt : Value) (Sf : List S.Tx) (L : List S.Way) (nm : ByteArray) (A : List S.Tx) (w : World) (hT : Tb w.heap.size w vs vw Sf L) (h0 : Words w.heap.size w vt (A.map ba))
    (hA : A.length ≤ 100000000000000) (hAz : ∀ t ∈ A, t.length ≤ 9223372036854775807) (hnz : nm.size ≤ 140737488355328) :
    Calls Try.prog 5 #[.agg #[vs, vw], .string nm, vt] w fun e w' => e = .returned (.bool true) ∧ Below w.heap.size w w' := by
  obtain ⟨sa, cs, rfl⟩ := hT.suf.slice
  obtain ⟨aw, cw, rfl⟩ := hT.way.slice
  obtain ⟨a0, c0, rfl⟩ := h0.slice
  have HF : Hid (∀ W, Below w.heap.size w W → Calls Try.prog 6 #[.agg #[.slice sa Sf.length cs, .slice aw L.length cw]] W (FarPost Sf L W)) := fun W hW => far_any _ _ Sf L w.heap.size W (hT.below hW)
  have HAl : Hid (∀ W, Calls Try.prog 7 #[] W fun e w' => e = .returned (.bool true) ∧ Below W.heap.size W w') := fun W => alive_any W
  have HTh : Hid (∀ W, Calls Try.prog 9 #[.agg #[.slice sa Sf.length cs, .slice aw L.length cw]] W fun e w' => e = .returned (.agg #[.slice sa Sf.length cs, .slice aw L.length cw]) ∧ Below W.heap.size W w') := fun W => theirs_any sa aw _ _ _ _ W
  have hc0 := h0.len.2
  obtain ⟨n0, hn0⟩ : ∃ n, n = A.length := ⟨_, rfl⟩
  obtain ⟨ns, hns⟩ : ∃ n, n = Sf.length := ⟨_, rfl⟩
  obtain ⟨nw, hnw⟩ : ∃ n, n = L.length := ⟨_, rfl⟩
  rw [← hn0] at hA hc0
  have HP : Hid (n0 = A.length ∧ Words w.heap.size w (.slice a0 n0 c0) (A.map ba) ∧ Tb w.heap.size w (.slice sa ns cs) (.slice aw nw cw) Sf L ∧ (∀ t ∈ A, t.length ≤ 9223372036854775807)) := ⟨hn0, by rw [hn0]; exact h0, by rw [hns, hnw]; exact hT, hAz⟩
  rw [← hns, ← hnw] at HF HTh
  rw [← hns, ← hnw, ← hn0]
  obtain ⟨W2, hW2⟩ : ∃ W2, W2 = w.alloc (.cells #[.slice sa ns cs, .slice aw nw cw] 25) := ⟨_, rfl⟩
  have HB0 : Hid (Below w.heap.size w W2 ∧ W2.heap[w.heap.size]? = some (.cells #[.slice sa ns cs, .slice aw nw cw] 25 (0, 0))) := ⟨by rw [hW2]; exact below_alloc1 _ _, by rw [hW2]; exact alloc_b rfl⟩
  clear hn0 hns hnw h0 hT hAz
  go_enter Try.func5, Try.ntmps5
  go_wp2_with fail
  rw [← hW2]
  clear hW2
  refine (HF.out _ HB0.out.1).mono ?_
  rintro e w1 ⟨b, rfl, hb1, hfar⟩
  have H1 : Hid (Below w.heap.size w w1 ∧ w1.heap[w.heap.size]? = some (.cells #[.slice sa ns cs, .slice aw nw cw] 25 (0, 0))) := ⟨below_trans HB0.out.1 hb1 HB0.out.1.size, (hb1.block _ (Array.getElem?_eq_some_iff.1 HB0.out.2).1).trans HB0.out.2⟩
  clear hb1 HB0
  have y0 := cell_in H1.out.2 0 rfl
  have y1 := cell_in H1.out.2 1 rfl
  cases b with
  | true =>
    clear hfar
    go_wp2_with fail
    refine (HAl.out _).mono ?_
    rintro e w2 ⟨rfl, hb2⟩
    have H2 : Hid (Below w.heap.size w w2) := below_trans H1.out.1 hb2 H1.out.1.size
    clear hb2
    go_wp2_with fail
    go_ret
    exact ⟨rfl, H2.out⟩
  | false =>
    have HFar : Hid (Sf.length ≤ 70 ∧ L.length ≤ 30 ∧ ∀ s ∈ Sf, s.length ≤ 50) := hfar rfl
    clear hfar
    by_cases h200 : (200 : Int) < (nm.size : Int)
    · go_wp2_with fail
      refine (HAl.out _).mono ?_
      rintro e w2 ⟨rfl, hb2⟩
      have H2 : Hid (Below w.heap.size w w2) := below_trans H1.out.1 hb2 H1.out.1.size
      clear hb2
      go_wp2_with fail
      go_ret
      exact ⟨rfl, H2.out⟩
    · by_cases h60 : (60 : Int) < (n0 : Int)
      · go_wp2_with fail
        refine (HAl.out _).mono ?_
        rintro e w2 ⟨rfl, hb2⟩
        have H2 : Hid (Below w.heap.size w w2) := below_trans H1.out.1 hb2 H1.out.1.size
        clear hb2
        go_wp2_with fail
        go_ret
        exact ⟨rfl, H2.out⟩
      · have hnm : nm.size ≤ 200 := by omega
        have hn60 : n0 ≤ 60 := by omega
        -- the calls that follow, in any later world
        obtain ⟨m0, hm0⟩ : ∃ m, m = lenO (chainT Sf L A (bl nm)) := ⟨_, rfl⟩
        obtain ⟨o0, ho0⟩ : ∃ o, o = (chainT Sf L A (bl nm)).isSome := ⟨_, rfl⟩
        obtain ⟨R, hR⟩ : ∃ R, R = reachT Sf L (bl nm) := ⟨_, rfl⟩
        have HR : Hid (o0 = R.any (fun x => A.contains x) ∧ R.length < 512 ∧ ∀ (i : Nat) (x : S.Tx), R[i]? = some x → x ≠ bl nm ∧ x ∉ R.take i) := ⟨by rw [ho0, hR]; exact someT A Sf L (bl nm), by rw [hR]; exact reachTl Sf L (bl nm), fun i x hx => by rw [hR] at hx ⊢; exact reachTn hx⟩
        have HC0 : Hid (∀ W, Below w.heap.size w W → Calls Try.prog 8 #[.agg #[.slice sa ns cs, .slice aw nw cw], .string nm, .slice a0 n0 c0] W fun e w' => ∃ a c, e = .returned (.tuple #[.slice a m0 c, .bool o0]) ∧ m0 ≤ c ∧ Below W.heap.size W w') := fun W hW => by
          refine (chain_any _ _ _ Sf L A nm w.heap.size W (HP.out.2.2.1.below hW) HFar.out.2.2 hnm (HP.out.2.1.below hW) (by rw [← HP.out.1]; omega) HP.out.2.2.2).mono fun e w' h => ?_
          obtain ⟨a, c, e1, e2, e3⟩ := chain_len h
          exact ⟨a, c, by rw [hm0, ho0]; exact e1, by rw [hm0]; exact e2, e3⟩
        have HRc : Hid (∀ W, Below w.heap.size w W → Calls Try.prog 12 #[.agg #[.slice sa ns cs, .slice aw nw cw], .string nm] W (ReachPost R W)) := fun W hW => by
          rw [hR]; exact reach_any _ _ Sf L nm w.heap.size W (HP.out.2.2.1.below hW) HFar.out.2.2 hnm
        have HIn : Hid (∀ (x : ByteArray) W, Below w.heap.size w W → Calls Try.prog 10 #[.slice a0 n0 c0, .string x] W fun e w' => e = .returned (.bool (A.contains (bl x))) ∧ w' = W) := fun x W hW => in_any _ x A w.heap.size W (HP.out.2.1.below hW) (by rw [← HP.out.1]; exact hA)
        clear hm0 ho0 hR HP HFar HF
        go_wp2_with fail
        refine (HTh.out _).mono ?_
        rintro e w2 ⟨rfl, hb2⟩
        have H2 : Hid (Below w.heap.size w w2 ∧ w2.heap[w.heap.size]? = some (.cells #[.slice sa ns cs, .slice aw nw cw] 25 (0, 0))) := ⟨below_trans H1.out.1 hb2 H1.out.1.size, (hb2.block _ (Array.getElem?_eq_some_iff.1 H1.out.2).1).trans H1.out.2⟩
        clear hb2 H1 y0 y1
        go_wp2_with fail
        refine (HC0.out _ H2.out.1).mono ?_
        rintro e w3 ⟨va, vca, rfl, hva, hb3⟩
        have H3 : Hid (Below w.heap.size w w3 ∧ w3.heap[w.heap.size]? = some (.cells #[.slice sa ns cs, .slice aw nw cw] 25 (0, 0))) := ⟨below_trans H2.out.1 hb3 H2.out.1.size, (hb3.block _ (Array.getElem?_eq_some_iff.1 H2.out.2).1).trans H2.out.2⟩
        have y0 := cell_in H3.out.2 0 rfl
        have y1 := cell_in H3.out.2 1 rfl
        clear hb3 H2 HC0
        go_wp2_with fail
        refine (HTh.out _).mono ?_
        rintro e w4 ⟨rfl, hb4⟩
        have H4 : Hid (Below w.heap.size w w4) := below_trans H3.out.1 hb4 H3.out.1.size
        clear hb4 H3 y0 y1
        go_wp2_with fail
        refine (HRc.out _ H4.out).mono ?_
        rintro e w5 ⟨vr, rfl, hb5, hrow⟩
        obtain ⟨ra, rc, rfl⟩ := V.owns_slice hrow
        have H5 : Hid (Below w.heap.size w w5 ∧ Words w5.heap.size w5 (.slice ra R.length rc) (R.map ba)) := by
          refine ⟨below_trans H4.out hb5 H4.out.size, words_of_owns (base := w4.heap.size) ?_ (Nat.le_refl _)⟩
          rw [List.length_map, ← txt_eq]; exact hrow
        clear hb5 hrow HRc H4
        have hrc := H5.out.2.len.2
        obtain ⟨n, hn⟩ : ∃ n, n = R.length := ⟨_, rfl⟩
        rw [← hn] at H5 hrc ⊢
        have HN : Hid (n = R.length) := hn
        have hn512 : n < 512 := by rw [hn]; exact HR.out.2.1
        clear hn
        go_wp2_with fail
        go_loopw [9, 40] (fun vb vi wr => ∃ (k : Nat) (b : Bool), k ≤ n ∧ vi = .int .i64 (k : Int) ∧ vb = .bool b ∧ Hid (Below w5.heap.size w5 wr ∧ b = (R.take k).any (fun x => A.contains x))) (fun _ vi _ => n - (intOf vi).toNat)
        case atStart => exact ⟨0, false, Nat.zero_le _, rfl, rfl, Below.refl _ _, rfl⟩
        case round =>
          obtain ⟨k, b, hk, rfl, rfl, HI⟩ := hrel
          by_cases hkn : k < n
          · have hki : (k : Int) < (n : Int) := by omega
            have hkl : k < R.length := by rw [← HN.out]; exact hkn
            obtain ⟨g, o, rfl, hg, hc⟩ := H5.out.2.pick k (by rw [List.length_map]; exact hkl)
            obtain ⟨y, hy⟩ : ∃ y, y = (R.map ba)[k]'(by rw [List.length_map]; exact hkl) := ⟨_, rfl⟩
            rw [← hy] at hc
            have hc0 := (HI.out.1.cell (p := ⟨g, o + k, none⟩) hg).trans hc
            have hyb : bl y = R[k] := by rw [hy, List.getElem_map, bl_ba']
            have HG : Hid (R[k]? = some (bl y)) := by unfold Hid; rw [List.getElem?_eq_getElem hkl, hyb]
            obtain ⟨hne, hno⟩ := HR.out.2.2 k (bl y) HG.out
            have he2 : (y.toList == nm.toList) = false := by rw [eq_text, ← Bool.not_eq_true, beq_iff_eq]; exact hne
            have hcon : (R.take k).contains (bl y) = false := by
              cases h : (R.take k).contains (bl y) with
              | false => rfl
              | true => exact absurd (List.contains_iff_mem.1 h) hno
            have HInR : Hid (∀ W, Below w5.heap.size w5 W → Calls Try.prog 10 #[.slice (some ⟨g, o, none⟩) k rc, .string y] W fun e w' => e = .returned (.bool false) ∧ w' = W) := fun W hW => by
              have h := in_any _ y (R.take k) w5.heap.size W ((H5.out.2.below hW).take k hk) (by rw [List.length_take]; omega)
              rw [hcon] at h; exact h
            have HInA : Hid (∀ W, Below w5.heap.size w5 W → Calls Try.prog 10 #[.slice a0 n0 c0, .string y] W fun e w' => e = .returned (.bool (A.contains (bl y))) ∧ w' = W) := fun W hW => HIn.out y W (below_trans H5.out.1 hW H5.out.1.size)
            have HST := any_step (fun x => A.contains x) R k (bl y) HG.out
            rw [← HI.out.2] at HST
            have HST : Hid ((R.take (k + 1)).any (fun x => A.contains x) = (b || A.contains (bl y))) := HST
            have HB : Hid (Below w5.heap.size w5 wr) := HI.out.1
            clear hc hy hyb hne hno hcon HI hg
            cases b with
            | true =>
              have HN1 : Hid (true = (R.take (k + 1)).any (fun x => A.contains x)) := by unfold Hid; rw [HST.out]; rfl
              clear HST HInA
              go_wp2_with fail
              refine (HInR.out _ HB.out).mono ?_
              rintro e w6 ⟨rfl, rfl⟩
              go_wp2_with fail
              go_roundw
              case rel => exact ⟨k + 1, true, by omega, by go_num, rfl, HB.out, HN1.out⟩
              case measure => simp [intOf]; omega
            | false =>
              obtain ⟨z, hz⟩ : ∃ z, z = A.contains (bl y) := ⟨_, rfl⟩
              rw [← hz] at HInA HST
              have HN1 : Hid (z = (R.take (k + 1)).any (fun x => A.contains x)) := by unfold Hid; rw [HST.out]; rfl
              have HInA : Hid (∀ W, Below w5.heap.size w5 W → Calls Try.prog 10 #[.slice a0 n0 c0, .string y] W fun e w' => e = .returned (.bool z) ∧ w' = W) := HInA
              clear HST hz
              go_wp2_with fail
              refine (HInA.out _ HB.out).mono ?_
              rintro e w6 ⟨rfl, rfl⟩
              go_wp2_with fail
              refine (HInR.out _ HB.out).mono ?_
              rintro e w6 ⟨rfl, rfl⟩
              go_wp2_with fail
              go_roundw
              case rel => exact ⟨k + 1, z, by omega, by go_num, rfl, HB.out, HN1.out⟩
              case measure => simp [intOf]; omega
          · have hkn : k = n := by omega
            have HE : Hid (b = o0) := by
              have h := HI.out.2
              rw [List.take_of_length_le (by rw [← HN.out]; omega), ← HR.out.1] at h
              exact h
            obtain rfl : b = o0 := HE.out
            subst hkn
            have hn512i : (k : Int) < 512 := by omega
            have hbb : (b == b) = true := by simp
            have HB : Hid (Below w.heap.size w wr) := below_trans H5.out.1 HI.out.1 H5.out.1.size
            clear HI HE HR
            go_wp2_with fail
            refine (HAl.out _).mono ?_
            rintro e w8 ⟨rfl, hb8⟩
            have H8 : Hid (Below w.heap.size w w8) := below_trans HB.out hb8 HB.out.size
            clear hb8
            go_wp2_with fail
            go_ret
            exact ⟨rfl, H8.out⟩
end Go.Proofs.Ytfcoihklihkngaa
