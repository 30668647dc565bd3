/-
  Ways, one or more; steps of the signs.
-/
import Derived.Test.YtmmhajlfbjjocaaGreatPWay
namespace Go.Proofs.YtmmhajlfbjjocaaGreat
open Go.RowKit Go.Shelf RxSem

structure WJ (bm sb : Nat) (v : Value) (L : List SG) (m : Nat) (K : List Stp) (rest : List Sg) (w : World) (u : Value) (A : List SV) (j : Nat) (k' : List Nd) (wr : World) : Prop where
  row : Row w.heap.size u A wr
  mk' : Mk bm sb v L j wr
  le : j ≤ L.length
  lm : L.length - j ≤ m
  sw : SW ((L.drop j).map SG.abs) k' rest
  wr : Wrote bm w wr
  cd : K = codeA (A.map SV.abs) k'
  few : K.length ≤ 400
  ok : ∀ x ∈ A, x.Ok
theorem WJ.len {bm sb : Nat} {v : Value} {L : List SG} {m : Nat} {K : List Stp} {rest : List Sg} {w : World} {u : Value} {A : List SV} {j : Nat} {k' : List Nd} {wr : World} (h : WJ bm sb v L m K rest w u A j k' wr) : A.length ≤ 400 := by
  have h1 := codeA_len k' (A.map SV.abs)
  rw [← h.cd] at h1
  have := h.few
  simp at h1
  omega
theorem WJ.len2 {bm sb : Nat} {v : Value} {L : List SG} {m : Nat} {K : List Stp} {rest : List Sg} {w : World} {u : Value} {A B : List SV} {j : Nat} {k k2 : List Nd} {wr : World} (h : WJ bm sb v L m K rest w u A j (.seq k :: k2) wr) (hC : B.map SV.abs = codeS k) : B.length ≤ 400 := by
  have h0 := h.cd
  unfold codeA at h0
  have h1 := codeA_len k2 (either (A.map SV.abs) (code (.seq k)))
  rw [← h0] at h1
  have := h.few
  have h5 := congrArg List.length hC
  simp [either, code] at h1 h5
  omega
theorem wj_next {bm sb : Nat} {v : Value} {L : List SG} {m : Nat} {K : List Stp} {rest r2 : List Sg} {w : World} {u u9 : Value} {A B : List SV} {j j' : Nat} {k k2 : List Nd} {wr w1 w9 : World} (h : WJ bm sb v L m K rest w u A j (.seq k :: k2) wr) (hlt : j < L.length) (hsp : SP .way ((L.drop (j + 1)).map SG.abs) k r2) (hsw : SW r2 k2 rest) (hw : Wrote bm wr w1) (hM : Mk bm sb v L j' w1) (hj : j' ≤ L.length) (hr' : (L.drop j').map SG.abs = r2) (hC' : B.map SV.abs = codeS k) (hok' : ∀ x ∈ B, x.Ok) (hrow : Row w1.heap.size u9 (eitherV A B) w9) (hb : Below w1.heap.size w1 w9) : WJ bm sb v L m K rest w u9 (eitherV A B) j' k2 w9 ∧ L.length - j' < L.length - j := by
  have hs := hsp.size
  rw [← hr'] at hs
  simp at hs
  have hlm := h.lm
  have hlt' : L.length - j' < L.length - j := by omega
  refine ⟨⟨row_base hrow (Nat.le_trans h.wr.size hw.size), hM.below hb, hj, by omega, by rw [hr']; exact hsw, (h.wr.trans hw).trans (.of_below hb), ?_, h.few, eitherV_ok h.ok hok' (by have := h.len; omega) (by have := h.len2 hC'; omega)⟩, hlt'⟩
  rw [h.cd, eitherV_abs, hC']
  conv => lhs; unfold codeA
  simp [code]
theorem sw_head {r rest : List Sg} {k : List Nd} (h : SW r k rest) : (headIs 124 r = false ∧ k = [] ∧ rest = r) ∨ ∃ r' r1 k0 k2, r = .mark 124 :: r' ∧ k = .seq k0 :: k2 ∧ SP .way r' k0 r1 ∧ SW r1 k2 rest := by
  cases h with
  | stop r h =>
    refine .inl ⟨?_, rfl, rfl⟩
    cases r with
    | nil => rfl
    | cons x r =>
      cases x with
      | thing _ => rfl
      | mark c =>
        show (c == 124) = false
        simp at h
        simpa using h
  | more r r1 r2 k m h1 h2 => exact .inr ⟨r, r1, k, m, rfl, rfl, h1, h2⟩
set_option maxRecDepth 20000 in
set_option maxHeartbeats 1000000 in
theorem ways_any {bm sb : Nat} {v : Value} {L : List SG} (m : Nat) (hP : WayC bm sb v L m) : WaysC bm sb v L m := by
  intro i k rest w hm hi h hok hsp
  obtain ⟨k0, k', r1, hk, hway, hsw⟩ := hsp.ways_cases rfl
  have hsz := hsp.size
  have HW : Hid (Calls Tryz.prog 74 #[.pointer (some ⟨bm, 0, none⟩)] w (MkPost bm sb v L r1 (codeS k0) w)) := hP i k0 r1 w hm hi h hok hway
  have HP : Hid (WayC bm sb v L m ∧ (∀ x ∈ L, x.v.Ok) ∧ SW r1 k' rest ∧ (code (.alt k)).length ≤ 400 ∧ code (.alt k) = codeA (codeS k0) k' ∧ L.length - i ≤ m ∧ SP .way ((L.drop i).map SG.abs) k0 r1) := ⟨hP, hok, hsw, by
    have := h.few
    simp [lenOf] at hsz
    omega, by rw [hk]; unfold code; simp [code], hm, hway⟩
  obtain ⟨C, hC⟩ : ∃ C, C = code (.alt k) := ⟨_, rfl⟩
  rw [← hC] at HP ⊢
  clear hC hsz hP hok hsp hm hi h hk hway hsw
  go_enter Tryz.func65, Tryz.ntmps65
  go_wp2_with fail
  refine HW.out.mono ?_
  rintro e w0 ⟨v0, A0, j0, rfl, hR, hM1, hj, hrest, hw1, hC, hok⟩
  have HI0 : Hid (WJ bm sb v L m C rest w v0 A0 j0 k' w0) := by
    obtain ⟨h1, h2, h3, h4, h5, h6, h7⟩ := HP.out
    have hs := h7.size
    rw [← hrest] at hs
    simp at hs
    exact ⟨hR, hM1, hj, by omega, by rw [hrest]; exact h3, hw1, by rw [h5, hC], h4, hok⟩
  obtain ⟨a0, c0, hv0⟩ := row_slice hR
  subst hv0
  clear hR hM1 hj hrest hw1 hC hok HW
  go_wp2_with fail
  go_loopw [3] (fun u wr => ∃ (A : List SV) (j : Nat) (k' : List Nd), WJ bm sb v L m C rest w u A j k' wr) (fun _ wr => L.length - mkAt bm wr)
  case atStart => exact ⟨A0, j0, k', HI0.out⟩
  case round =>
    clear HI0
    obtain ⟨A, j, k', hI⟩ := hrel
    have hAl := hI.len
    obtain ⟨a3, c3, hv3⟩ := row_slice hI.row
    subst hv3
    have HI : Hid (WJ bm sb v L m C rest w (.slice a3 A.length c3) A j k' wr) := hI
    have hsw := hI.sw
    clear hI
    rcases sw_head hsw with ⟨hh, hk, hr⟩ | ⟨r', r2, k3, k2, hr, hk, hway, hsw2⟩
    · have HS : Hid (headIs 124 ((L.drop j).map SG.abs) = false ∧ k' = [] ∧ rest = (L.drop j).map SG.abs) := ⟨hh, hk, hr⟩
      clear hh hk hr hsw
      go_wp2_with fail
      refine (isC 124 (by decide) j _ HI.out.le rfl false HS.out.1 wr HI.out.mk').mono ?_
      rintro e w1 ⟨rfl, hM, hw⟩
      have H1 : Hid (Mk bm sb v L j w1 ∧ Wrote bm wr w1) := ⟨hM, hw⟩
      clear hM hw
      go_wp2_with fail
      go_ret
      refine ⟨_, A, j, rfl, wrote_row H1.out.2 HI.out.row (row_ne HI.out.row HI.out.mk'.blk (by decide)), H1.out.1, HI.out.le, HS.out.2.2.symm, HI.out.wr.trans H1.out.2, ?_, HI.out.ok⟩
      rw [HI.out.cd, HS.out.2.1]; unfold codeA; rfl
    · obtain ⟨hjl, -, -, hr3⟩ := drop_mark hr
      have hI2 := HI.out
      rw [hk] at hI2
      have HS : Hid ((L.drop j).map SG.abs = .mark 124 :: r' ∧ WJ bm sb v L m C rest w (.slice a3 A.length c3) A j (.seq k3 :: k2) wr ∧ SP .way ((L.drop (j + 1)).map SG.abs) k3 r2 ∧ SW r2 k2 rest ∧ j < L.length) := ⟨hr, hI2, by rw [hr3]; exact hway, hsw2, hjl⟩
      clear hr hk hway hsw2 hsw hr3 hjl hI2
      go_wp2_with fail
      refine (isC 124 (by decide) j _ HI.out.le HS.out.1 true rfl wr HI.out.mk').mono ?_
      rintro e w1 ⟨rfl, hM, hw⟩
      have hlm := HI.out.lm
      have HY : Hid (Calls Tryz.prog 74 #[.pointer (some ⟨bm, 0, none⟩)] w1 (MkPost bm sb v L r2 (codeS k3) w1)) := HP.out.1 (j + 1) k3 r2 w1 (by omega) HS.out.2.2.2.2 hM HP.out.2.1 HS.out.2.2.1
      have H1 : Hid (Wrote bm wr w1) := hw
      clear hM hw hlm
      go_wp2_with fail
      refine HY.out.mono ?_
      rintro e w2 ⟨v2, B, j2, rfl, hR, hM1, hj, hrest, hw1, hC, hok⟩
      obtain ⟨a2, c2, hv2⟩ := row_slice hR
      subst hv2
      have hBl := HS.out.2.1.len2 hC
      have HE : Hid (Calls Tryz.prog 76 #[.slice a3 A.length c3, .slice a2 B.length c2] w2 fun e w' => ∃ v, e = .returned v ∧ Row w2.heap.size v (eitherV A B) w' ∧ Below w2.heap.size w2 w') := either_any _ _ A B w2 (row_base (wrote_row (H1.out.trans hw1) HI.out.row (row_ne HI.out.row HI.out.mk'.blk (by decide))) (Nat.zero_le _)) (row_base hR (Nat.zero_le _)) (by omega) (by omega)
      have H2 : Hid (∀ u9 w9, Row w2.heap.size u9 (eitherV A B) w9 → Below w2.heap.size w2 w9 → WJ bm sb v L m C rest w u9 (eitherV A B) j2 k2 w9 ∧ L.length - j2 < L.length - j) := fun u9 w9 h1 h2 => wj_next HS.out.2.1 HS.out.2.2.2.2 HS.out.2.2.1 HS.out.2.2.2.1 (H1.out.trans hw1) hM1 hj hrest hC hok h1 h2
      clear hR hM1 hj hrest hw1 hC hok HY
      go_wp2_with fail
      refine HE.out.mono ?_
      rintro e w3 ⟨v3, rfl, hR, hB⟩
      have H3 : Hid (WJ bm sb v L m C rest w v3 (eitherV A B) j2 k2 w3 ∧ L.length - j2 < L.length - j) := H2.out _ _ hR hB
      obtain ⟨b3, d3, hv3⟩ := row_slice hR
      subst hv3
      clear hR hB HE H2
      go_wp2_with fail
      go_roundw
      case rel => exact ⟨_, j2, k2, H3.out.1⟩
      case measure =>
        have h1 := H3.out.1.mk'.at
        have h2 := HI.out.mk'.at
        have h3 := H3.out.2
        rw [h1, h2]; exact h3
/-- Things, parts, a way, ways: all of them. -/
theorem maker_any {bm sb : Nat} {v : Value} {L : List SG} : ∀ m, WaysC bm sb v L m
  | 0 => ways_any 0 (way_any 0 (part_any 0 (thing_any' 0 (fun m' h => by omega))))
  | m + 1 => ways_any _ (way_any _ (part_any _ (thing_any' (m + 1) (fun m' h => maker_any m'))))
end Go.Proofs.YtmmhajlfbjjocaaGreat
