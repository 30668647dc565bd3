/-
  SuffMore: what is there more makes no chain longer.
-/
import Derived.Test.YtfcoihklihkngaaS12b
namespace Go.Proofs.Ytfcoihklihkngaa
open Go.RowKit Go.Shelf Go.Maps

/-- A law's parameters, as they lie: a table, a name; texts of any number. -/
structure Pr (w : World) (vs vw : Value) (Sf : List S.Tx) (L : List S.Way) : Prop where
  tb : Tb w.heap.size w vs vw Sf L
theorem chain_more {Sf : List S.Tx} {L : List S.Way} {a b : List S.Tx} {name : S.Tx} {c : List S.Tx} (h : chainT Sf L a name = some c) : ∃ c', chainT Sf L (a ++ b) name = some c' ∧ c'.length ≤ c.length := by
  unfold chainT at h ⊢
  by_cases hr : S.RightP Sf L
  · rw [if_pos hr] at h ⊢
    exact S.more_math h
  · rw [if_neg hr] at h; cases h

set_option maxRecDepth 20000 in
set_option maxHeartbeats 2000000 in
theorem more_law (vs vw v0 v1 : Value) (Sf : List S.Tx) (L : List S.Way) (A B : List S.Tx) (nm : ByteArray) (w : World) (hT : Tb w.heap.size w vs vw Sf L) (h0 : Words w.heap.size w v0 (A.map ba)) (h1 : Words w.heap.size w v1 (B.map ba))
    (hA : A.length ≤ 100000000000000) (hB : B.length ≤ 100000000000000) (hAz : ∀ t ∈ A, t.length ≤ 9223372036854775807) (hBz : ∀ t ∈ B, t.length ≤ 9223372036854775807) (hnz : nm.size ≤ 9223372036854775807) :
    Calls Try.prog 4 #[.agg #[vs, vw], .string nm, .agg #[v0, v1]] w fun e w' => e = .returned (.bool true) ∧ Below w.heap.size w w' := by
  obtain ⟨sa, cs, rfl⟩ := hT.suf.slice
  obtain ⟨aw, cw, rfl⟩ := hT.way.slice
  obtain ⟨a0, c0, rfl⟩ := h0.slice
  obtain ⟨a1, c1, rfl⟩ := h1.slice
  have HF : Hid (∀ W, Below w.heap.size w W → Calls Try.prog 6 #[.agg #[.slice sa Sf.length cs, .slice aw L.length cw]] W (FarPost Sf L W)) := fun W hW => far_any _ _ Sf L w.heap.size W (hT.below hW)
  have HAl : Hid (∀ W, Calls Try.prog 7 #[] W fun e w' => e = .returned (.bool true) ∧ Below W.heap.size W w') := fun W => alive_any W
  have HTh : Hid (∀ W, Calls Try.prog 9 #[.agg #[.slice sa Sf.length cs, .slice aw L.length cw]] W fun e w' => e = .returned (.agg #[.slice sa Sf.length cs, .slice aw L.length cw]) ∧ Below W.heap.size W w') := fun W => theirs_any sa aw _ _ _ _ W
  have hc0 := h0.len.2
  have hc1 := h1.len.2
  obtain ⟨n0, hn0⟩ : ∃ n, n = A.length := ⟨_, rfl⟩
  obtain ⟨n1, hn1⟩ : ∃ n, n = B.length := ⟨_, rfl⟩
  obtain ⟨ns, hns⟩ : ∃ n, n = Sf.length := ⟨_, rfl⟩
  obtain ⟨nw, hnw⟩ : ∃ n, n = L.length := ⟨_, rfl⟩
  rw [← hn0] at hA hc0
  rw [← hn1] at hB hc1
  have HP : Hid (n0 = A.length ∧ n1 = B.length ∧ Words w.heap.size w (.slice a0 n0 c0) (A.map ba) ∧ Words w.heap.size w (.slice a1 n1 c1) (B.map ba) ∧ Tb w.heap.size w (.slice sa ns cs) (.slice aw nw cw) Sf L ∧ (∀ t ∈ A, t.length ≤ 9223372036854775807) ∧ ∀ t ∈ B, t.length ≤ 9223372036854775807) := ⟨hn0, hn1, by rw [hn0]; exact h0, by rw [hn1]; exact h1, by rw [hns, hnw]; exact hT, hAz, hBz⟩
  rw [← hns, ← hnw] at HF HTh
  rw [← hns, ← hnw, ← hn0, ← hn1]
  obtain ⟨W2, hW2⟩ : ∃ W2, W2 = (w.alloc (.cells #[.slice sa ns cs, .slice aw nw cw] 25)).alloc (.cells #[.slice a0 n0 c0, .slice a1 n1 c1] 35) := ⟨_, rfl⟩
  have HB0 : Hid (Below w.heap.size w W2 ∧ W2.heap[w.heap.size]? = some (.cells #[.slice sa ns cs, .slice aw nw cw] 25 (0, 0)) ∧ W2.heap[w.heap.size + 1]? = some (.cells #[.slice a0 n0 c0, .slice a1 n1 c1] 35 (0, 0))) := by
    refine ⟨by rw [hW2]; exact (below_alloc1 _ _).alloc (by simp) _, ?_, by rw [hW2]; exact alloc_b (by simp)⟩
    rw [hW2, Below.heap_alloc _ _ _ (by simp)]; exact alloc_b rfl
  clear hn0 hn1 hns hnw h0 h1 hT hAz hBz
  go_enter Try.func4, Try.ntmps4
  go_wp2_with fail
  rw [← hW2]
  clear hW2
  refine (HF.out _ HB0.out.1).mono ?_
  rintro e w1 ⟨b, rfl, hb1, hfar⟩
  have H1 : Hid (Below w.heap.size w w1 ∧ w1.heap[w.heap.size]? = some (.cells #[.slice sa ns cs, .slice aw nw cw] 25 (0, 0)) ∧ w1.heap[w.heap.size + 1]? = some (.cells #[.slice a0 n0 c0, .slice a1 n1 c1] 35 (0, 0))) := ⟨below_trans HB0.out.1 hb1 HB0.out.1.size, (hb1.block _ (Array.getElem?_eq_some_iff.1 HB0.out.2.1).1).trans HB0.out.2.1, (hb1.block _ (Array.getElem?_eq_some_iff.1 HB0.out.2.2).1).trans HB0.out.2.2⟩
  clear hb1 HB0
  have z0 := cell_in H1.out.2.2 0 rfl
  have z1 := cell_in H1.out.2.2 1 rfl
  have y0 := cell_in H1.out.2.1 0 rfl
  have y1 := cell_in H1.out.2.1 1 rfl
  cases b with
  | true =>
    clear hfar
    go_wp2_with fail
    refine (HAl.out _).mono ?_
    rintro e w2 ⟨rfl, hb2⟩
    have H2 : Hid (Below w.heap.size w w2) := below_trans H1.out.1 hb2 H1.out.1.size
    clear hb2
    go_wp2_with fail
    go_ret
    exact ⟨rfl, H2.out⟩
  | false =>
    have HFar : Hid (Sf.length ≤ 70 ∧ L.length ≤ 30 ∧ ∀ s ∈ Sf, s.length ≤ 50) := hfar rfl
    clear hfar
    by_cases hbig : 200 < nm.size ∨ 60 < n0 + n1
    · have hbig' : ¬ (200 : Int) < (nm.size : Int) → (60 : Int) < (n0 : Int) + (n1 : Int) := by intro h; omega
      by_cases h200 : (200 : Int) < (nm.size : Int)
      · clear hbig hbig'
        go_wp2_with fail
        refine (HAl.out _).mono ?_
        rintro e w2 ⟨rfl, hb2⟩
        have H2 : Hid (Below w.heap.size w w2) := below_trans H1.out.1 hb2 H1.out.1.size
        clear hb2
        go_wp2_with fail
        go_ret
        exact ⟨rfl, H2.out⟩
      · have h60 := hbig' h200
        clear hbig hbig'
        go_wp2_with fail
        refine (HAl.out _).mono ?_
        rintro e w2 ⟨rfl, hb2⟩
        have H2 : Hid (Below w.heap.size w w2) := below_trans H1.out.1 hb2 H1.out.1.size
        clear hb2
        go_wp2_with fail
        go_ret
        exact ⟨rfl, H2.out⟩
    · have h200 : ¬ (200 : Int) < (nm.size : Int) := by omega
      have h60 : ¬ (60 : Int) < (n0 : Int) + (n1 : Int) := by omega
      have hnm : nm.size ≤ 200 := by omega
      have hsum : n0 + n1 ≤ 60 := by omega
      clear hbig
      obtain ⟨m0, hm0⟩ : ∃ m, m = lenO (chainT Sf L A (bl nm)) := ⟨_, rfl⟩
      obtain ⟨o0, ho0⟩ : ∃ o, o = (chainT Sf L A (bl nm)).isSome := ⟨_, rfl⟩
      obtain ⟨m1, hm1⟩ : ∃ m, m = lenO (chainT Sf L (A ++ B) (bl nm)) := ⟨_, rfl⟩
      obtain ⟨o1, ho1⟩ : ∃ o, o = (chainT Sf L (A ++ B) (bl nm)).isSome := ⟨_, rfl⟩
      have HM : Hid (o0 = false ∨ (o1 = true ∧ m1 ≤ m0)) := by
        unfold Hid
        cases hc : chainT Sf L A (bl nm) with
        | none => left; rw [ho0, hc]; rfl
        | some c =>
          obtain ⟨c', hc', hl⟩ := chain_more (b := B) hc
          right
          rw [ho1, hm1, hm0, hc, hc']
          exact ⟨rfl, hl⟩
      have HC0 : Hid (∀ W, Below w1.heap.size w1 W → Calls Try.prog 8 #[.agg #[.slice sa ns cs, .slice aw nw cw], .string nm, .slice a0 n0 c0] W fun e w' => ∃ a c, e = .returned (.tuple #[.slice a m0 c, .bool o0]) ∧ m0 ≤ c ∧ Below w1.heap.size w1 w') := fun W hW => by
        have hWW := below_trans H1.out.1 hW H1.out.1.size
        refine (chain_any _ _ _ Sf L A nm w.heap.size W (HP.out.2.2.2.2.1.below hWW) HFar.out.2.2 hnm (HP.out.2.2.1.below hWW) (by rw [← HP.out.1]; omega) HP.out.2.2.2.2.2.1).mono fun e w' h => ?_
        obtain ⟨a, c, e1, e2, e3⟩ := chain_len h
        exact ⟨a, c, by rw [hm0, ho0]; exact e1, by rw [hm0]; exact e2, below_trans hW e3 hW.size⟩
      have HC1 : Hid (∀ (a' : Option Addr) (c' : Nat) W, Below w1.heap.size w1 W → Words W.heap.size W (.slice a' (n0 + n1) c') ((A ++ B).map ba) → Calls Try.prog 8 #[.agg #[.slice sa ns cs, .slice aw nw cw], .string nm, .slice a' (n0 + n1) c'] W fun e w' => ∃ a c, e = .returned (.tuple #[.slice a m1 c, .bool o1]) ∧ m1 ≤ c ∧ Below w1.heap.size w1 w') := fun a' c' W hW hwd => by
        have hWW := below_trans H1.out.1 hW H1.out.1.size
        refine (chain_any _ _ _ Sf L (A ++ B) nm W.heap.size W ((HP.out.2.2.2.2.1.below hWW).mono hWW.size (Nat.le_refl _)) HFar.out.2.2 hnm hwd (by rw [List.length_append, ← HP.out.1, ← HP.out.2.1]; omega) (fun t ht => ?_)).mono fun e w' h => ?_
        · rcases List.mem_append.1 ht with h | h
          · exact HP.out.2.2.2.2.2.1 t h
          · exact HP.out.2.2.2.2.2.2 t h
        · obtain ⟨a, c, e1, e2, e3⟩ := chain_len h
          exact ⟨a, c, by rw [hm1, ho1]; exact e1, by rw [hm1]; exact e2, below_trans hW e3 hW.size⟩
      have HTw : Hid (∀ W, Below w1.heap.size w1 W → Calls Try.prog 9 #[.agg #[.slice sa ns cs, .slice aw nw cw]] W fun e w' => e = .returned (.agg #[.slice sa ns cs, .slice aw nw cw]) ∧ Below w1.heap.size w1 w') := fun W hW =>
        (HTh.out W).mono fun e w' h => ⟨h.1, below_trans hW h.2 hW.size⟩
      have HK : Hid (∀ W, Below w1.heap.size w1 W → W.cell? ⟨w.heap.size, 0, none⟩ = some (.slice sa ns cs) ∧ W.cell? ⟨w.heap.size, 1, none⟩ = some (.slice aw nw cw) ∧ W.cell? ⟨w.heap.size + 1, 0, none⟩ = some (.slice a0 n0 c0) ∧ W.cell? ⟨w.heap.size + 1, 1, none⟩ = some (.slice a1 n1 c1)) := fun W hW => by
        have l0 := (Array.getElem?_eq_some_iff.1 H1.out.2.1).1
        have l1 := (Array.getElem?_eq_some_iff.1 H1.out.2.2).1
        exact ⟨(hW.cell (p := ⟨w.heap.size, 0, none⟩) l0).trans y0, (hW.cell (p := ⟨w.heap.size, 1, none⟩) l0).trans y1, (hW.cell (p := ⟨w.heap.size + 1, 0, none⟩) l1).trans z0, (hW.cell (p := ⟨w.heap.size + 1, 1, none⟩) l1).trans z1⟩
      have HR1 : Hid (Below w1.heap.size w1 w1 ∧ Below w1.heap.size w1 w1.drew) := ⟨Below.refl _ _, below_drew (Below.refl _ _)⟩
      clear hm0 ho0 hm1 ho1
      have HPW : Hid (n0 = A.length ∧ n1 = B.length ∧ (∀ W, Below w1.heap.size w1 W → Words W.heap.size W (.slice a0 n0 c0) (A.map ba) ∧ Words W.heap.size W (.slice a1 n1 c1) (B.map ba)) ∧ Below w.heap.size w w1) := ⟨HP.out.1, HP.out.2.1, fun W hW => by
        have hWW := below_trans H1.out.1 hW H1.out.1.size
        exact ⟨(HP.out.2.2.1.below hWW).mono hWW.size, (HP.out.2.2.2.1.below hWW).mono hWW.size⟩, H1.out.1⟩
      clear HP H1 HF HTh HFar
      go_upto_region 3 with fail
      clear y0 y1 z0 z1
      go_region_held3 (fun W => W.cell? ⟨w.heap.size, 0, none⟩ = some (.slice sa ns cs) ∧ W.cell? ⟨w.heap.size, 1, none⟩ = some (.slice aw nw cw) ∧ W.cell? ⟨w.heap.size + 1, 0, none⟩ = some (.slice a0 n0 c0) ∧ W.cell? ⟨w.heap.size + 1, 1, none⟩ = some (.slice a1 n1 c1)) (first | exact HK.out _ HR1.out.1 | exact HK.out _ HR1.out.2 | exact HK.out _ hb2 | exact HK.out _ (below_drew hb2) | exact HK.out _ hb3 | exact HK.out _ (below_drew hb3)) (first | (go_at_call 9; refine (HTw.out _ ?_).mono ?_; (first | exact HR1.out.1 | exact HR1.out.2); rintro e w2 ⟨rfl, hb2⟩) | (go_at_call 8; refine (HC0.out _ hb2).mono ?_; rintro e w3 ⟨va, vca, rfl, hva, hb3⟩))
      have HB3 : Hid (Below w1.heap.size w1 w3 ∧ Below w1.heap.size w1 w3.drew) := ⟨hb3, below_drew hb3⟩
      clear hb2 hb3 HR1 HC0
      have hnl0 : n0 = ([] : List ByteArray).length + (A.map ba).length := by rw [List.length_map, ← HPW.out.1]; simp
      have hnl0' : n0 = ([] ++ A.map ba).length := by simp [← HPW.out.1]
      have hnl1 : n0 + n1 = ([] ++ A.map ba).length + (B.map ba).length := by simp [← HPW.out.1, ← HPW.out.2.1]
      have HNL : Hid (n0 = ([] : List ByteArray).length + (A.map ba).length ∧ n0 = ([] ++ A.map ba).length ∧ n0 + n1 = ([] ++ A.map ba).length + (B.map ba).length ∧ n0 ≤ 1000000000000 ∧ n0 + n1 ≤ 1000000000000) := ⟨hnl0, hnl0', hnl1, by omega, by omega⟩
      have HEQ : Hid (([] ++ A.map ba) ++ B.map ba = (A ++ B).map ba ∧ ((A ++ B).map ba).length = n0 + n1) := ⟨by simp, by simp [← HPW.out.1, ← HPW.out.2.1]⟩
      clear hnl0 hnl0' hnl1
      have HC2 : Hid (∀ (a' : Option Addr) (c' : Nat) W, Below w1.heap.size w1 W → W.ownsRow w1.heap.size 9 1 (.slice a' (n0 + n1) c') (n0 + n1) ((([] ++ A.map ba) ++ B.map ba).map Value.string) → Calls Try.prog 8 #[.agg #[.slice sa ns cs, .slice aw nw cw], .string nm, .slice a' (n0 + n1) c'] W fun e w' => ∃ a c, e = .returned (.tuple #[.slice a m1 c, .bool o1]) ∧ m1 ≤ c ∧ Below w1.heap.size w1 w') := fun a' c' W hW hown => by
        refine HC1.out a' c' W hW (words_of_owns (base := w1.heap.size) ?_ (Nat.le_refl _))
        rw [HEQ.out.2, ← HEQ.out.1]; exact hown
      go_upto_region 4 with fail
      go_region_held_law (fun W => W.cell? ⟨w.heap.size, 0, none⟩ = some (.slice sa ns cs) ∧ W.cell? ⟨w.heap.size, 1, none⟩ = some (.slice aw nw cw) ∧ W.cell? ⟨w.heap.size + 1, 0, none⟩ = some (.slice a0 n0 c0) ∧ W.cell? ⟨w.heap.size + 1, 1, none⟩ = some (.slice a1 n1 c1)) (first | exact HK.out _ HB3.out.1 | exact HK.out _ HB3.out.2 | exact HK.out _ hb4 | exact HK.out _ hb5 | exact HK.out _ hb6 | exact HK.out _ hb7) (first
        | (go_at_call 9; refine (HTw.out _ ?_).mono ?_; (first | exact HB3.out.1 | exact HB3.out.2); rintro e w4 ⟨rfl, hb4⟩)
        | (refine step_app (by rfl) (.const (.slice none 0 0)) (.tmp 43) (by rfl) w1.heap.size _ (.slice none 0 0) (.slice a0 n0 c0) [] (A.map ba) 0 n0 rfl HNL.out.1 (by rfl) (owns_nil _ _ _ _) (by rfl) (HPW.out.2.2.1 _ hb4).1 HNL.out.2.2.2.1 hb4.size ?_; intro a5 c5 w5 hown5 hbb5; have hb5 : Below w1.heap.size w1 w5 := below_trans hb4 hbb5 (Nat.le_refl _))
        | (refine step_app (by rfl) (.tmp 44) (.tmp 46) (by rfl) w1.heap.size _ (.slice a5 n0 c5) (.slice a1 n1 c1) ([] ++ A.map ba) (B.map ba) n0 (n0 + n1) HNL.out.2.1 HNL.out.2.2.1 (by rfl) hown5 (by rfl) (HPW.out.2.2.1 _ hb5).2 HNL.out.2.2.2.2 hb5.size ?_; intro a6 c6 w6 hown6 hbb6; have hb6 : Below w1.heap.size w1 w6 := below_trans hb5 hbb6 (Nat.le_refl _))
        | (go_at_call 8; refine (HC2.out _ _ _ hb6 hown6).mono ?_; rintro e w7 ⟨vb, vcb, rfl, hvb, hb7⟩))
      have HB7 : Hid (Below w1.heap.size w1 w7 ∧ Below w.heap.size w w7) := ⟨hb7, below_trans HPW.out.2.2.2 hb7 HPW.out.2.2.2.size⟩
      clear hb4 hb5 hb6 hb7 hown5 hown6 hbb5 hbb6
      cases o0 with
      | false =>
        go_wp2_with fail
        refine (HAl.out _).mono ?_
        rintro e w8 ⟨rfl, hb8⟩
        have H8 : Hid (Below w.heap.size w w8) := below_trans HB7.out.2 hb8 HB7.out.2.size
        clear hb8
        go_wp2_with fail
        go_ret
        exact ⟨rfl, H8.out⟩
      | true =>
        obtain ⟨rfl, hle⟩ : o1 = true ∧ m1 ≤ m0 := by
          rcases HM.out with h | h
          · cases h
          · exact h
        have hlei : (m1 : Int) ≤ (m0 : Int) := by omega
        go_wp2_with fail
        refine (HAl.out _).mono ?_
        rintro e w8 ⟨rfl, hb8⟩
        have H8 : Hid (Below w.heap.size w w8) := below_trans HB7.out.2 hb8 HB7.out.2.size
        clear hb8
        go_wp2_with fail
        go_ret
        exact ⟨rfl, H8.out⟩
end Go.Proofs.Ytfcoihklihkngaa
