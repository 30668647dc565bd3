/-
  Parts, ways.
-/
import Derived.Test.YtmmhajlfbjjocaaGreatPMk
namespace Go.Proofs.YtmmhajlfbjjocaaGreat
open Go.RowKit Go.Shelf RxSem

def headIs (c : UInt8) : List Sg → Bool
  | .mark d :: _ => d == c
  | _ => false
theorem isNext_head (c : UInt8) (hc : c ≠ 0) (L : List SG) : isNext c L = headIs c (L.map SG.abs) := by
  cases L with
  | nil => rfl
  | cons x L =>
    show (x.m == c) = headIs c (x.abs :: L.map SG.abs)
    unfold SG.abs
    by_cases h : x.m = 0
    · rw [if_pos h, h]
      show ((0 : UInt8) == c) = false
      simp; exact fun e => hc e.symm
    · rw [if_neg h]; rfl
def PartC (bm sb : Nat) (v : Value) (L : List SG) (m : Nat) : Prop := ∀ (i : Nat) (n : Nd) (rest : List Sg) (w : World), L.length - i ≤ m → i ≤ L.length → Mk bm sb v L i w → (∀ x ∈ L, x.v.Ok) → SP .thing ((L.drop i).map SG.abs) [n] rest → Calls Tryz.prog 82 #[.pointer (some ⟨bm, 0, none⟩)] w (MkPost bm sb v L (postS n rest).2 (code (postS n rest).1) w)
theorem maybeV_ok {A : List SV} (h : ∀ x ∈ A, x.Ok) (hl : A.length ≤ 5000) : ∀ x ∈ maybeV A, x.Ok := by
  intro x hx
  rcases List.mem_cons.1 hx with rfl | hx
  · exact fk_ok (by omega) (by omega)
  · exact h x hx
theorem againV_ok {A : List SV} (h : ∀ x ∈ A, x.Ok) (hl : A.length ≤ 5000) : ∀ x ∈ againV A, x.Ok := by
  intro x hx
  rcases List.mem_append.1 hx with hx | hx
  · exact h x hx
  · have : x = fk (-(A.length : Int)) 1 := by simpa using hx
    rw [this]; exact fk_ok (by omega) (by omega)
theorem eitherV_ok {A B : List SV} (h : ∀ x ∈ A, x.Ok) (h2 : ∀ x ∈ B, x.Ok) (hl : A.length ≤ 5000) (hl2 : B.length ≤ 5000) : ∀ x ∈ eitherV A B, x.Ok := by
  intro x hx
  rcases List.mem_cons.1 hx with rfl | hx
  · exact fk_ok (by omega) (by omega)
  · rcases List.mem_append.1 hx with hx | hx
    · exact h x hx
    · rcases List.mem_cons.1 hx with rfl | hx
      · exact fk_ok (by omega) (by omega)
      · exact h2 x hx
theorem isC {bm sb : Nat} {v : Value} {L : List SG} (c : UInt8) (hc : c ≠ 0) (j : Nat) (rest : List Sg) (hj : j ≤ L.length) (hr : (L.drop j).map SG.abs = rest) (b : Bool) (hb : headIs c rest = b) (W : World) (hW : Mk bm sb v L j W) : Calls Tryz.prog 75 #[.pointer (some ⟨bm, 0, none⟩), .int .u8 (c.toNat : Int)] W fun e w' => e = .returned (.bool b) ∧ Mk bm sb v L (if b then j + 1 else j) w' ∧ Wrote bm W w' := by
  have := is_any' c W hW hj
  rw [isNext_head c hc, hr, hb] at this
  exact this
theorem sp_len {bm : Nat} {L : List SG} {i : Nat} {n : Nd} {rest : List Sg} {A : List SV} (_ : bm = bm) (hf : L.length ≤ 200) (h : SP .thing ((L.drop i).map SG.abs) [n] rest) (ha : A.map SV.abs = code n) : A.length ≤ 400 := by
  have h1 := h.size
  have h2 := congrArg List.length ha
  simp only [lenOf, codeS, List.length_map, List.length_append, List.length_nil, List.length_drop] at h1 h2
  omega
set_option maxRecDepth 20000 in
set_option maxHeartbeats 400000 in
theorem part_star {bm sb : Nat} {v : Value} {L : List SG} (n : Nd) (rest : List Sg) (w : World) (hT : Calls Tryz.prog 93 #[.pointer (some ⟨bm, 0, none⟩)] w (MkPost bm sb v L (.mark 42 :: rest) (code n) w)) (hsz : ∀ A : List SV, A.map SV.abs = code n → A.length ≤ 400) : Calls Tryz.prog 82 #[.pointer (some ⟨bm, 0, none⟩)] w (MkPost bm sb v L rest (code (.star n)) w) := by
  have HT : Hid (Calls Tryz.prog 93 #[.pointer (some ⟨bm, 0, none⟩)] w (MkPost bm sb v L (.mark 42 :: rest) (code n) w)) := hT
  have HSz : Hid (∀ A : List SV, A.map SV.abs = code n → A.length ≤ 400) := hsz
  clear hT hsz
  go_enter Tryz.func82, Tryz.ntmps82
  go_wp2_with fail
  refine HT.out.mono ?_
  rintro e w1 ⟨v', A, j, rfl, hR, hM1, hj, hrest, hw1, hC, hok⟩
  obtain ⟨a', c', hv'⟩ := row_slice hR
  have hAl := HSz.out A hC
  have H1 : Hid (Row w.heap.size v' A w1 ∧ Mk bm sb v L j w1 ∧ j ≤ L.length ∧ (L.drop j).map SG.abs = (.mark 42 :: rest) ∧ Wrote bm w w1 ∧ A.map SV.abs = code n ∧ ∀ x ∈ A, x.Ok) := ⟨hR, hM1, hj, hrest, hw1, hC, hok⟩
  subst hv'
  clear hR hM1 hj hrest hw1 hC hok HT HSz
  go_wp2_with fail
  refine (isC 42 (by decide) j _ H1.out.2.2.1 H1.out.2.2.2.1 true (rfl) w1 H1.out.2.1).mono ?_
  rintro e w2 ⟨rfl, hM, hw⟩
  have H2 : Hid (Mk bm sb v L (j + 1) w2 ∧ Wrote bm w w2 ∧ Wrote bm w1 w2) := ⟨hM, H1.out.2.2.2.2.1.trans hw, hw⟩
  clear hM hw
  have hRw : Row 0 (.slice a' A.length c') A w2 := row_base (wrote_row H2.out.2.2 H1.out.1 (row_ne H1.out.1 H1.out.2.1.blk (by decide))) (Nat.zero_le _)
  have HRw : Hid (Row 0 (.slice a' A.length c') A w2) := hRw
  clear hRw
  go_wp2_with fail
  refine (again_any _ A w2 (HRw.out) (by omega)).mono ?_
  rintro e x0 ⟨u0, rfl, hR, hB⟩
  obtain ⟨b0, d0, hu⟩ := row_slice hR
  have K0 : Hid (Row w2.heap.size u0 (againV A) x0 ∧ Below w2.heap.size w2 x0 ∧ Wrote bm w x0 ∧ Mk bm sb v L (j + 1) x0) := ⟨hR, hB, H2.out.2.1.trans (.of_below hB), H2.out.1.below hB⟩
  subst hu
  clear hR hB
  go_wp2_with fail
  refine (maybe_any _ (againV A) x0 (row_base K0.out.1 (Nat.zero_le _)) (by simp [againV]; omega)).mono ?_
  rintro e x1 ⟨u1, rfl, hR, hB⟩
  obtain ⟨b1, d1, hu⟩ := row_slice hR
  have K1 : Hid (Row x0.heap.size u1 (maybeV (againV A)) x1 ∧ Below x0.heap.size x0 x1 ∧ Wrote bm w x1 ∧ Mk bm sb v L (j + 1) x1) := ⟨hR, hB, K0.out.2.2.1.trans (.of_below hB), K0.out.2.2.2.below hB⟩
  subst hu
  clear hR hB
  go_wp2_with fail
  go_ret
  obtain ⟨hR, hM1, hj, hrest, hw1, hC, hok⟩ := H1.out
  obtain ⟨hj3, _, _, hr2⟩ := drop_mark hrest
  exact ⟨_, _, j + 1, rfl, row_base K1.out.1 (by have := H2.out.2.1.size; have := K0.out.2.1.size; omega), K1.out.2.2.2, hj3, hr2, K1.out.2.2.1, by rw [maybeV_abs, againV_abs, hC]; simp [code], maybeV_ok (againV_ok hok (by omega)) (by simp [againV]; omega)⟩
set_option maxRecDepth 20000 in
set_option maxHeartbeats 400000 in
theorem part_plus {bm sb : Nat} {v : Value} {L : List SG} (n : Nd) (rest : List Sg) (w : World) (hT : Calls Tryz.prog 93 #[.pointer (some ⟨bm, 0, none⟩)] w (MkPost bm sb v L (.mark 43 :: rest) (code n) w)) (hsz : ∀ A : List SV, A.map SV.abs = code n → A.length ≤ 400) : Calls Tryz.prog 82 #[.pointer (some ⟨bm, 0, none⟩)] w (MkPost bm sb v L rest (code (.plus n)) w) := by
  have HT : Hid (Calls Tryz.prog 93 #[.pointer (some ⟨bm, 0, none⟩)] w (MkPost bm sb v L (.mark 43 :: rest) (code n) w)) := hT
  have HSz : Hid (∀ A : List SV, A.map SV.abs = code n → A.length ≤ 400) := hsz
  clear hT hsz
  go_enter Tryz.func82, Tryz.ntmps82
  go_wp2_with fail
  refine HT.out.mono ?_
  rintro e w1 ⟨v', A, j, rfl, hR, hM1, hj, hrest, hw1, hC, hok⟩
  obtain ⟨a', c', hv'⟩ := row_slice hR
  have hAl := HSz.out A hC
  have H1 : Hid (Row w.heap.size v' A w1 ∧ Mk bm sb v L j w1 ∧ j ≤ L.length ∧ (L.drop j).map SG.abs = (.mark 43 :: rest) ∧ Wrote bm w w1 ∧ A.map SV.abs = code n ∧ ∀ x ∈ A, x.Ok) := ⟨hR, hM1, hj, hrest, hw1, hC, hok⟩
  subst hv'
  clear hR hM1 hj hrest hw1 hC hok HT HSz
  go_wp2_with fail
  refine (isC 42 (by decide) j _ H1.out.2.2.1 H1.out.2.2.2.1 false (rfl) w1 H1.out.2.1).mono ?_
  rintro e w2 ⟨rfl, hM, hw⟩
  have H2 : Hid (Mk bm sb v L j w2 ∧ Wrote bm w w2 ∧ Wrote bm w1 w2) := ⟨hM, H1.out.2.2.2.2.1.trans hw, hw⟩
  clear hM hw
  go_wp2_with fail
  refine (isC 43 (by decide) j _ H1.out.2.2.1 H1.out.2.2.2.1 true (rfl) w2 H2.out.1).mono ?_
  rintro e w3 ⟨rfl, hM, hw⟩
  have H3 : Hid (Mk bm sb v L (j + 1) w3 ∧ Wrote bm w w3 ∧ Wrote bm w1 w3) := ⟨hM, H2.out.2.1.trans hw, H2.out.2.2.trans hw⟩
  clear hM hw
  have hRw : Row 0 (.slice a' A.length c') A w3 := row_base (wrote_row H3.out.2.2 H1.out.1 (row_ne H1.out.1 H1.out.2.1.blk (by decide))) (Nat.zero_le _)
  have HRw : Hid (Row 0 (.slice a' A.length c') A w3) := hRw
  clear hRw
  go_wp2_with fail
  refine (again_any _ A w3 (HRw.out) (by omega)).mono ?_
  rintro e x0 ⟨u0, rfl, hR, hB⟩
  obtain ⟨b0, d0, hu⟩ := row_slice hR
  have K0 : Hid (Row w3.heap.size u0 (againV A) x0 ∧ Below w3.heap.size w3 x0 ∧ Wrote bm w x0 ∧ Mk bm sb v L (j + 1) x0) := ⟨hR, hB, H3.out.2.1.trans (.of_below hB), H3.out.1.below hB⟩
  subst hu
  clear hR hB
  go_wp2_with fail
  go_ret
  obtain ⟨hR, hM1, hj, hrest, hw1, hC, hok⟩ := H1.out
  obtain ⟨hj3, _, _, hr2⟩ := drop_mark hrest
  exact ⟨_, _, j + 1, rfl, row_base K0.out.1 H3.out.2.1.size, K0.out.2.2.2, hj3, hr2, K0.out.2.2.1, by rw [againV_abs, hC]; simp [code], againV_ok hok (by omega)⟩
set_option maxRecDepth 20000 in
set_option maxHeartbeats 400000 in
theorem part_opt {bm sb : Nat} {v : Value} {L : List SG} (n : Nd) (rest : List Sg) (w : World) (hT : Calls Tryz.prog 93 #[.pointer (some ⟨bm, 0, none⟩)] w (MkPost bm sb v L (.mark 63 :: rest) (code n) w)) (hsz : ∀ A : List SV, A.map SV.abs = code n → A.length ≤ 400) : Calls Tryz.prog 82 #[.pointer (some ⟨bm, 0, none⟩)] w (MkPost bm sb v L rest (code (.opt n)) w) := by
  have HT : Hid (Calls Tryz.prog 93 #[.pointer (some ⟨bm, 0, none⟩)] w (MkPost bm sb v L (.mark 63 :: rest) (code n) w)) := hT
  have HSz : Hid (∀ A : List SV, A.map SV.abs = code n → A.length ≤ 400) := hsz
  clear hT hsz
  go_enter Tryz.func82, Tryz.ntmps82
  go_wp2_with fail
  refine HT.out.mono ?_
  rintro e w1 ⟨v', A, j, rfl, hR, hM1, hj, hrest, hw1, hC, hok⟩
  obtain ⟨a', c', hv'⟩ := row_slice hR
  have hAl := HSz.out A hC
  have H1 : Hid (Row w.heap.size v' A w1 ∧ Mk bm sb v L j w1 ∧ j ≤ L.length ∧ (L.drop j).map SG.abs = (.mark 63 :: rest) ∧ Wrote bm w w1 ∧ A.map SV.abs = code n ∧ ∀ x ∈ A, x.Ok) := ⟨hR, hM1, hj, hrest, hw1, hC, hok⟩
  subst hv'
  clear hR hM1 hj hrest hw1 hC hok HT HSz
  go_wp2_with fail
  refine (isC 42 (by decide) j _ H1.out.2.2.1 H1.out.2.2.2.1 false (rfl) w1 H1.out.2.1).mono ?_
  rintro e w2 ⟨rfl, hM, hw⟩
  have H2 : Hid (Mk bm sb v L j w2 ∧ Wrote bm w w2 ∧ Wrote bm w1 w2) := ⟨hM, H1.out.2.2.2.2.1.trans hw, hw⟩
  clear hM hw
  go_wp2_with fail
  refine (isC 43 (by decide) j _ H1.out.2.2.1 H1.out.2.2.2.1 false (rfl) w2 H2.out.1).mono ?_
  rintro e w3 ⟨rfl, hM, hw⟩
  have H3 : Hid (Mk bm sb v L j w3 ∧ Wrote bm w w3 ∧ Wrote bm w1 w3) := ⟨hM, H2.out.2.1.trans hw, H2.out.2.2.trans hw⟩
  clear hM hw
  go_wp2_with fail
  refine (isC 63 (by decide) j _ H1.out.2.2.1 H1.out.2.2.2.1 true (rfl) w3 H3.out.1).mono ?_
  rintro e w4 ⟨rfl, hM, hw⟩
  have H4 : Hid (Mk bm sb v L (j + 1) w4 ∧ Wrote bm w w4 ∧ Wrote bm w1 w4) := ⟨hM, H3.out.2.1.trans hw, H3.out.2.2.trans hw⟩
  clear hM hw
  have hRw : Row 0 (.slice a' A.length c') A w4 := row_base (wrote_row H4.out.2.2 H1.out.1 (row_ne H1.out.1 H1.out.2.1.blk (by decide))) (Nat.zero_le _)
  have HRw : Hid (Row 0 (.slice a' A.length c') A w4) := hRw
  clear hRw
  go_wp2_with fail
  refine (maybe_any _ A w4 (HRw.out) (by omega)).mono ?_
  rintro e x0 ⟨u0, rfl, hR, hB⟩
  obtain ⟨b0, d0, hu⟩ := row_slice hR
  have K0 : Hid (Row w4.heap.size u0 (maybeV A) x0 ∧ Below w4.heap.size w4 x0 ∧ Wrote bm w x0 ∧ Mk bm sb v L (j + 1) x0) := ⟨hR, hB, H4.out.2.1.trans (.of_below hB), H4.out.1.below hB⟩
  subst hu
  clear hR hB
  go_wp2_with fail
  go_ret
  obtain ⟨hR, hM1, hj, hrest, hw1, hC, hok⟩ := H1.out
  obtain ⟨hj3, _, _, hr2⟩ := drop_mark hrest
  exact ⟨_, _, j + 1, rfl, row_base K0.out.1 H4.out.2.1.size, K0.out.2.2.2, hj3, hr2, K0.out.2.2.1, by rw [maybeV_abs, hC]; simp [code], maybeV_ok hok (by omega)⟩
set_option maxRecDepth 20000 in
set_option maxHeartbeats 400000 in
theorem part_plain {bm sb : Nat} {v : Value} {L : List SG} (n : Nd) (rest : List Sg) (w : World) (hT : Calls Tryz.prog 93 #[.pointer (some ⟨bm, 0, none⟩)] w (MkPost bm sb v L rest (code n) w)) (hsz : ∀ A : List SV, A.map SV.abs = code n → A.length ≤ 400) (h1 : headIs 42 rest = false) (h2 : headIs 43 rest = false) (h3 : headIs 63 rest = false) : Calls Tryz.prog 82 #[.pointer (some ⟨bm, 0, none⟩)] w (MkPost bm sb v L rest (code n) w) := by
  have HT : Hid (Calls Tryz.prog 93 #[.pointer (some ⟨bm, 0, none⟩)] w (MkPost bm sb v L rest (code n) w)) := hT
  have HSz : Hid (∀ A : List SV, A.map SV.abs = code n → A.length ≤ 400) := hsz
  have HHd : Hid (headIs 42 rest = false ∧ headIs 43 rest = false ∧ headIs 63 rest = false) := ⟨h1, h2, h3⟩
  clear h1 h2 h3
  clear hT hsz
  go_enter Tryz.func82, Tryz.ntmps82
  go_wp2_with fail
  refine HT.out.mono ?_
  rintro e w1 ⟨v', A, j, rfl, hR, hM1, hj, hrest, hw1, hC, hok⟩
  obtain ⟨a', c', hv'⟩ := row_slice hR
  have hAl := HSz.out A hC
  have H1 : Hid (Row w.heap.size v' A w1 ∧ Mk bm sb v L j w1 ∧ j ≤ L.length ∧ (L.drop j).map SG.abs = rest ∧ Wrote bm w w1 ∧ A.map SV.abs = code n ∧ ∀ x ∈ A, x.Ok) := ⟨hR, hM1, hj, hrest, hw1, hC, hok⟩
  subst hv'
  clear hR hM1 hj hrest hw1 hC hok HT HSz
  go_wp2_with fail
  refine (isC 42 (by decide) j _ H1.out.2.2.1 H1.out.2.2.2.1 false (HHd.out.1) w1 H1.out.2.1).mono ?_
  rintro e w2 ⟨rfl, hM, hw⟩
  have H2 : Hid (Mk bm sb v L j w2 ∧ Wrote bm w w2 ∧ Wrote bm w1 w2) := ⟨hM, H1.out.2.2.2.2.1.trans hw, hw⟩
  clear hM hw
  go_wp2_with fail
  refine (isC 43 (by decide) j _ H1.out.2.2.1 H1.out.2.2.2.1 false (HHd.out.2.1) w2 H2.out.1).mono ?_
  rintro e w3 ⟨rfl, hM, hw⟩
  have H3 : Hid (Mk bm sb v L j w3 ∧ Wrote bm w w3 ∧ Wrote bm w1 w3) := ⟨hM, H2.out.2.1.trans hw, H2.out.2.2.trans hw⟩
  clear hM hw
  go_wp2_with fail
  refine (isC 63 (by decide) j _ H1.out.2.2.1 H1.out.2.2.2.1 false (HHd.out.2.2) w3 H3.out.1).mono ?_
  rintro e w4 ⟨rfl, hM, hw⟩
  have H4 : Hid (Mk bm sb v L j w4 ∧ Wrote bm w w4 ∧ Wrote bm w1 w4) := ⟨hM, H3.out.2.1.trans hw, H3.out.2.2.trans hw⟩
  clear hM hw
  have hRw : Row 0 (.slice a' A.length c') A w4 := row_base (wrote_row H4.out.2.2 H1.out.1 (row_ne H1.out.1 H1.out.2.1.blk (by decide))) (Nat.zero_le _)
  have HRw : Hid (Row 0 (.slice a' A.length c') A w4) := hRw
  clear hRw
  go_wp2_with fail
  go_ret
  obtain ⟨hR, hM1, hj, hrest, hw1, hC, hok⟩ := H1.out
  exact ⟨_, A, j, rfl, wrote_row H4.out.2.2 hR (row_ne hR hM1.blk (by decide)), H4.out.1, hj, hrest, H4.out.2.1, hC, hok⟩
theorem part_any {bm sb : Nat} {v : Value} {L : List SG} (m : Nat) (hT : ThingC bm sb v L m) : PartC bm sb v L m := by
  intro i n rest w hm hi h hok hsp
  have ht := hT i n rest w hm hi h hok hsp
  have hsz : ∀ A : List SV, A.map SV.abs = code n → A.length ≤ 400 := fun A hA => sp_len (bm := bm) rfl h.few hsp hA
  cases rest with
  | nil => exact part_plain n [] w ht hsz rfl rfl rfl
  | cons s r =>
    cases s with
    | thing x => exact part_plain n _ w ht hsz rfl rfl rfl
    | mark c =>
      by_cases h1 : c = 42
      · subst h1; exact part_star n r w ht hsz
      · by_cases h2 : c = 43
        · subst h2; exact part_plus n r w ht hsz
        · by_cases h3 : c = 63
          · subst h3; exact part_opt n r w ht hsz
          · have e : postS n (.mark c :: r) = (n, .mark c :: r) := by simp [postS, h1, h2, h3]
            rw [e]
            exact part_plain n _ w ht hsz (by simp [headIs, h1]) (by simp [headIs, h2]) (by simp [headIs, h3])
end Go.Proofs.YtmmhajlfbjjocaaGreat
