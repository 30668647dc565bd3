/-
  What a use does, as the plain function tells.
-/
import Derived.Test.YtkelmhpoplbacaaGreatDoorX9
namespace Go.Proofs.YtkelmhpoplbacaaGreatDoor.Ex
open Go.RowKit Go.Shelf

section
variable {B : Nat} {w0 : World} {bw : Nat} {pv : Value} {tx : List ByteArray → Nat → ByteArray → Res} {ev : Env}
/-- A work behind a turn, and then behind new memory. -/
theorem res_then {within : List ByteArray} {fuel : Nat} {vw vw2 : Value} {W w2 w3 : World} (hk : WkAt B bw pv fuel vw2 within w2) (hf : Fr (FD bw vw) W w2) (hm : Moved vw vw2 W) (hb : Below w2.heap.size w2 w3) {u : ByteArray} (hu : u.size ≤ 1000000) (hfu : fuel ≤ 10000000) : ResPost B bw pv within vw W (.ok u fuel) (.returned (.string u)) w3 :=
  ⟨rfl, hu, hfu, vw2, hk.below hb, hf.trans (.of_below hb), hm⟩

set_option maxRecDepth 20000 in
set_option maxHeartbeats 3200000 in
theorem use_V (hT : TextC B w0 bw pv tx) (hC : Cx B w0 pv ev) (within : List ByteArray) (fuel : Nat) (name mods : ByteArray) (vw : Value) (W : World) (h : WkAt B bw pv fuel vw within W) (hW : Below B w0 W) (hl : within.length ≤ 32) (hfu : fuel ≤ 10000000) (hn : name.size ≤ 1000000) (ho : opens mods 68 = false) (ho2 : opens mods 85 = false) (hbad : allF ev mods (varF tx within fuel name ((ev.get name).getD E0)) ≠ .bad) :
    Calls Tryz.prog 174 #[pV bw, .string name, .string mods] W (ResPost B bw pv within vw W (allF ev mods (varF tx within fuel name ((ev.get name).getD E0)))) := by
  have HG : Hid (Calls Tryz.prog 57 #[pv, .string name] W fun e w' => e = .returned (.tuple #[.string ((ev.get name).getD E0), .bool (ev.get name).isSome]) ∧ Below W.heap.size W w') := hC.get W name hW (by omega)
  have HD : Hid (∀ W1, Calls Tryz.prog 118 #[.string mods, .string ⟨#[68]⟩] W1 fun e w' => ∃ u, e = .returned (.tuple #[.string u, .bool false]) ∧ W1 = w') := fun W1 => (cutp_any mods 68 W1).mono fun e w' ⟨u, h1, h2, h3⟩ => ⟨u, by rw [h1, ho], h3⟩
  have HU : Hid (∀ W1, Calls Tryz.prog 118 #[.string mods, .string ⟨#[85]⟩] W1 fun e w' => ∃ u, e = .returned (.tuple #[.string u, .bool false]) ∧ W1 = w') := fun W1 => (cutp_any mods 85 W1).mono fun e w' ⟨u, h1, h2, h3⟩ => ⟨u, by rw [h1, ho2], h3⟩
  have c0 : W.cell? ⟨bw, 0, none⟩ = some pv := V.cell_in h.blk 0 rfl
  have hvs : ((ev.get name).getD E0).size ≤ 1000000 := by
    cases hg : ev.get name with
    | none => show (0 : Nat) ≤ 1000000; omega
    | some v => have := hC.val name v hg; show v.size ≤ 1000000; omega
  obtain ⟨r1, hr1⟩ : ∃ r1, r1 = varF tx within fuel name ((ev.get name).getD E0) := ⟨_, rfl⟩
  have hb1 : r1 ≠ .bad := fun e => hbad (by rw [← hr1, e]; rfl)
  have HV : Hid (∀ W1, Below W.heap.size W W1 → Calls Tryz.prog 182 #[pV bw, .string name, .string ((ev.get name).getD E0)] W1 (ResPost B bw pv within vw W1 r1)) := fun W1 hb => by
    rw [hr1]
    exact variable_any hT within fuel name _ vw W1 (h.below hb) (hW.trans (hb.mono h.low)) hl hfu hvs (by rw [← hr1]; exact hb1)
  rw [← hr1] at hbad ⊢
  have HH : Hid (WkAt B bw pv fuel vw within W ∧ Below B w0 W ∧ Cx B w0 pv ev) := ⟨h, hW, hC⟩
  obtain ⟨vv, hvv⟩ : ∃ vv, vv = (ev.get name).getD E0 := ⟨_, rfl⟩
  obtain ⟨t0, ht0⟩ : ∃ t, t = (ev.get name).isSome := ⟨_, rfl⟩
  rw [← hvv, ← ht0] at HG
  rw [← hvv] at HV
  obtain ⟨R, hR⟩ : ∃ R, R = allF ev mods r1 := ⟨_, rfl⟩
  rw [← hR] at hbad ⊢
  have HR : Hid (R = allF ev mods r1) := hR
  unfold pV at HV ⊢
  clear h hvv ht0 hn ho ho2 hvs hr1 hR hC hW hT
  go_enter Tryz.func174, Tryz.ntmps174
  go_wp2_with fail
  refine HG.out.mono ?_
  rintro e w1 ⟨rfl, hbb⟩
  have HB : Hid (Below W.heap.size W w1) := hbb
  clear hbb c0
  go_wp2_with fail
  refine (HD.out _).mono ?_
  rintro e w2 ⟨u2, rfl, rfl⟩
  go_wp2_with fail
  refine (HU.out _).mono ?_
  rintro e w2 ⟨u3, rfl, rfl⟩
  go_wp2_with fail
  refine (HV.out _ HB.out).mono ?_
  clear HG HD HU HV
  intro e w2 hpost
  cases r1 with
  | bad => exact absurd rfl hb1
  | err x =>
    obtain ⟨rfl, hb4⟩ := hpost
    have hRx : R = .err x := HR.out
    subst hRx
    have H5 : Hid (Below B w1 w2) := hb4
    clear hb4 hb1 hbad
    unfold pan
    go_wp2
    exact ⟨rfl, rfl, (HB.out.mono HH.out.1.low).trans H5.out⟩
  | ok t f =>
    obtain ⟨rfl, hu, hf5, vw5, hk5, hfr5, hmv5⟩ := hpost
    have H5 : Hid (WkAt B bw pv f vw5 within w2 ∧ Fr (FD bw vw) W w2 ∧ Moved vw vw5 W ∧ t.size ≤ 1000000 ∧ f ≤ 10000000 ∧ Below B w0 w2) := by
      have hfr : Fr (FD bw vw) W w2 := (Fr.of_below HB.out).trans hfr5
      exact ⟨hk5, hfr, fun g hg => (hmv5 g hg).imp id (fun e => Nat.le_trans HB.out.size e), hu, hf5, HH.out.2.1.trans (HH.out.1.fr_low hfr)⟩
    clear hk5 hfr5 hmv5 hu hf5 hb1
    by_cases hm0 : mods.size = 0
    · have hme : mods = E0 := by apply bl_inj; apply List.length_eq_zero_iff.1; rw [bl_length]; exact hm0
      have hRx : R = .ok t f := by rw [HR.out]; show (if mods.size = 0 then _ else _) = _; rw [if_pos hm0]
      subst hme hRx
      clear hbad hm0
      go_wp2
      go_ret
      obtain ⟨q1, q2, q3, q4, q5, q6⟩ := H5.out
      exact res_then q1 q2 q3 (Below.refl _ _) q4 q5
    · have hml : ¬ mods.toList = [] := fun e => hm0 (by rw [← bl_length]; unfold bl; rw [← Lib.toList_data, e]; rfl)
      have hmb : mods.toList.isEmpty = false := by cases hl0 : mods.toList with | nil => exact absurd hl0 hml | cons _ _ => rfl
      have hall : R = (match ev.all mods t with | none => .bad | some (.error e) => .err e | some (.ok u) => .ok u f) := by rw [HR.out]; show (if mods.size = 0 then _ else _) = _; rw [if_neg hm0]; cases ev.all mods t with | none => rfl | some ra => cases ra <;> rfl
      clear hm0
      cases ha : ev.all mods t with
      | none => rw [ha] at hall; exact absurd hall hbad
      | some ra =>
        rw [ha] at hall
        cases ra with
        | error x =>
          dsimp only at hall
          subst hall
          obtain ⟨hx0, l, hF, hA⟩ := HH.out.2.2.err mods t x ha
          have HF : Hid (Calls Tryz.prog 184 #[.string t] w2 fun e w' => ∃ a n c, e = .returned (.slice a n c) ∧ Words w'.heap.size w' (.slice a n c) l ∧ Below w2.heap.size w2 w') := hF w2 H5.out.2.2.2.2.2
          have HA : Hid (∀ W a n c, Below B w0 W → Words W.heap.size W (.slice a n c) l → Calls Tryz.prog 183 #[.string mods, .slice a n c] W fun e w' => ∃ a' n' c', e = .returned (.tuple #[.slice a' n' c', .int .i64 x]) ∧ Below W.heap.size W w') := hA
          have hx1 : (x == 0) = false := by rw [beq_eq_false_iff_ne]; exact hx0
          clear hF hA hbad ha HR
          go_wp2_with fail
          refine HF.out.mono ?_
          rintro e w3 ⟨a3, n3, c3, rfl, hw3, hb3⟩
          have hlow3 : Below B w0 w3 := H5.out.2.2.2.2.2.trans (hb3.mono H5.out.1.low)
          have H6 : Hid (Below w2.heap.size w2 w3) := hb3
          have HA2 : Hid (Calls Tryz.prog 183 #[.string mods, .slice a3 n3 c3] w3 fun e w' => ∃ a' n' c', e = .returned (.tuple #[.slice a' n' c', .int .i64 x]) ∧ Below w3.heap.size w3 w') := HA.out w3 a3 n3 c3 hlow3 hw3
          clear hw3 hb3 hlow3 HA HF
          go_wp2_with fail
          refine HA2.out.mono ?_
          rintro e w4 ⟨a4, n4, c4, rfl, hb4⟩
          have H7 : Hid (Below w2.heap.size w2 w4) := H6.out.trans (hb4.mono H6.out.size)
          clear hb4 HA2
          go_wp2
          exact ⟨rfl, rfl, (HH.out.1.fr_low H5.out.2.1).trans (H7.out.mono H5.out.1.low)⟩
        | ok u =>
          dsimp only at hall
          subst hall
          obtain ⟨hus, l, l', hF, hA, hJ⟩ := HH.out.2.2.yes mods t u ha
          have HF : Hid (Calls Tryz.prog 184 #[.string t] w2 fun e w' => ∃ a n c, e = .returned (.slice a n c) ∧ Words w'.heap.size w' (.slice a n c) l ∧ Below w2.heap.size w2 w') := hF w2 H5.out.2.2.2.2.2
          have HA : Hid (∀ W a n c, Below B w0 W → Words W.heap.size W (.slice a n c) l → Calls Tryz.prog 183 #[.string mods, .slice a n c] W fun e w' => ∃ a' n' c', e = .returned (.tuple #[.slice a' n' c', .int .i64 0]) ∧ Words w'.heap.size w' (.slice a' n' c') l' ∧ Below W.heap.size W w') := hA
          have HJ : Hid (∀ W a n c, Below B w0 W → Words W.heap.size W (.slice a n c) l' → Calls Tryz.prog 185 #[.slice a n c] W fun e w' => e = .returned (.string u) ∧ Below W.heap.size W w') := hJ
          have HUS : Hid (u.size ≤ 1000000) := hus
          clear hF hA hJ hbad ha HR hus
          go_wp2_with fail
          refine HF.out.mono ?_
          rintro e w3 ⟨a3, n3, c3, rfl, hw3, hb3⟩
          have hlow3 : Below B w0 w3 := H5.out.2.2.2.2.2.trans (hb3.mono H5.out.1.low)
          have H6 : Hid (Below w2.heap.size w2 w3) := hb3
          have HA2 : Hid (Calls Tryz.prog 183 #[.string mods, .slice a3 n3 c3] w3 fun e w' => ∃ a' n' c', e = .returned (.tuple #[.slice a' n' c', .int .i64 0]) ∧ Words w'.heap.size w' (.slice a' n' c') l' ∧ Below w3.heap.size w3 w') := HA.out w3 a3 n3 c3 hlow3 hw3
          clear hw3 hb3 hlow3 HA HF
          go_wp2_with fail
          refine HA2.out.mono ?_
          rintro e w4 ⟨a4, n4, c4, rfl, hw4, hb4⟩
          have hb24 : Below w2.heap.size w2 w4 := H6.out.trans (hb4.mono H6.out.size)
          have H7 : Hid (Below w2.heap.size w2 w4) := hb24
          have HJ2 : Hid (Calls Tryz.prog 185 #[.slice a4 n4 c4] w4 fun e w' => e = .returned (.string u) ∧ Below w4.heap.size w4 w') := HJ.out w4 a4 n4 c4 (H5.out.2.2.2.2.2.trans (hb24.mono H5.out.1.low)) hw4
          clear hb4 hw4 hb24 HA2 HJ
          go_wp2_with fail
          refine HJ2.out.mono ?_
          rintro e w5 ⟨rfl, hb5⟩
          have H8 : Hid (Below w2.heap.size w2 w5) := H7.out.trans (hb5.mono H7.out.size)
          clear hb5 HJ2
          go_wp2
          go_ret
          obtain ⟨q1, q2, q3, q4, q5, q6⟩ := H5.out
          exact res_then q1 q2 q3 H8.out HUS.out q5
theorem use_any (hT : TextC B w0 bw pv tx) (hC : Cx B w0 pv ev) (within : List ByteArray) (fuel : Nat) (name mods : ByteArray) (vw : Value) (W : World) (h : WkAt B bw pv fuel vw within W) (hW : Below B w0 W) (hl : within.length ≤ 32) (hfu : fuel ≤ 10000000) (hn : name.size ≤ 1000000) (hm : mods.size ≤ 1000000) (hbad : useF ev tx within fuel name mods ≠ .bad) :
    Calls Tryz.prog 174 #[pV bw, .string name, .string mods] W (ResPost B bw pv within vw W (useF ev tx within fuel name mods)) := by
  unfold useF at hbad ⊢
  cases ho : opens mods 68
  · rw [ho] at hbad
    simp only [Bool.false_eq_true, if_false] at hbad ⊢
    cases ho2 : opens mods 85
    · rw [ho2] at hbad
      simp only [Bool.false_eq_true, if_false] at hbad ⊢
      exact use_V hT hC within fuel name mods vw W h hW hl hfu hn ho ho2 hbad
    · simp only [if_true]
      exact use_U hC within fuel name mods vw W h hW hfu hn hm ho ho2
  · simp only [if_true]
    exact use_D hC within fuel name mods vw W h hW hfu hn hm ho
end
end Go.Proofs.YtkelmhpoplbacaaGreatDoor.Ex
