/-
  That the program is alive.
-/
import Derived.Test.YtfcoihklihkngaaS11
namespace Go.Proofs.Ytfcoihklihkngaa
open Go.RowKit Go.Shelf Go.Maps

def ySuf : List S.Tx := [[46, 121], [46, 99], [46, 111]]
def yWay : List S.Way := [([46, 121], [46, 99]), ([46, 99], [46, 111])]
def xo : ByteArray := ⟨#[120, 46, 111]⟩
def xy : ByteArray := ⟨#[120, 46, 121]⟩
def xc : ByteArray := ⟨#[120, 46, 99]⟩
theorem y_right : S.RightP ySuf yWay := by
  rw [right_iff (by decide) (by decide)]
  constructor
  · intro i x hi hx
    have h3 : i < 3 := hi
    match i, h3 with
    | 0, _ => cases hx; decide
    | 1, _ => cases hx; decide
    | 2, _ => cases hx; decide
  · intro i x hi hx
    have h3 : i < 2 := hi
    match i, h3 with
    | 0, _ => cases hx; decide
    | 1, _ => cases hx; decide
theorem y_chain : chainT ySuf yWay [bl xy] (bl xo) = some [bl xy, bl xc, bl xo] := by
  unfold chainT
  rw [if_pos y_right]
  decide +kernel
theorem Tb.mono {B B' : Nat} {W : World} {vs vw : Value} {Sf : List S.Tx} {L : List S.Way} (h : Tb B W vs vw Sf L) (h1 : B ≤ B') (h2 : B' ≤ W.heap.size) : Tb B' W vs vw Sf L := ⟨h.suf.mono h1, h.way.mono h1, h2, h.ns, h.nw⟩
theorem txt_eq (c : List S.Tx) : txt c = (c.map ba).map Value.string := by unfold txt; rw [List.map_map]; rfl

set_option maxRecDepth 20000 in
set_option maxHeartbeats 1600000 in
theorem alive_any (w : World) : Calls Try.prog 7 #[] w fun e w' => e = .returned (.bool true) ∧ Below w.heap.size w w' := by
  have HY : Hid (∀ W, Calls Try.prog 13 #[] W fun e w' => ∃ vs vw, e = .returned (.agg #[vs, vw]) ∧ Below W.heap.size W w' ∧ Words w'.heap.size w' vs (ySuf.map ba) ∧ Wy w'.heap.size w' vw yWay) := fun W => yacc_any W
  have HT : Hid (∀ (sa aw : Option Addr) (n cs m cw : Nat) (W : World), Calls Try.prog 9 #[.agg #[.slice sa n cs, .slice aw m cw]] W fun e w' => e = .returned (.agg #[.slice sa n cs, .slice aw m cw]) ∧ Below W.heap.size W w') := fun sa aw n cs m cw W => theirs_any sa aw n cs m cw W
  go_enter Try.func7, Try.ntmps7
  go_wp2_with fail
  refine (HY.out _).mono ?_
  rintro e w1 ⟨vs, vw, rfl, hb1, hsu, hwy⟩
  obtain ⟨sa, cs, rfl⟩ := hsu.slice
  obtain ⟨aw, cw, rfl⟩ := hwy.slice
  have H1 : Hid (Below w.heap.size w w1 ∧ Tb w1.heap.size w1 (.slice sa ySuf.length cs) (.slice aw yWay.length cw) ySuf yWay) := ⟨hb1, hsu, hwy, Nat.le_refl _, by decide, by decide⟩
  clear hb1 hsu hwy
  go_wp2_with fail
  refine (HT.out _ _ _ _ _ _ _).mono ?_
  rintro e w2 ⟨rfl, hb2⟩
  have H2 : Hid (Below w.heap.size w w2 ∧ Tb w1.heap.size w2 (.slice sa ySuf.length cs) (.slice aw yWay.length cw) ySuf yWay) := ⟨below_trans H1.out.1 hb2 H1.out.1.size, H1.out.2.below hb2⟩
  clear hb2
  obtain ⟨w3, hw3⟩ : ∃ w3, w3 = w2.alloc (.cells #[.string ⟨#[120, 46, 121]⟩] 9) := ⟨_, rfl⟩
  have H3 : Hid (Below w.heap.size w w3 ∧ Tb w1.heap.size w3 (.slice sa ySuf.length cs) (.slice aw yWay.length cw) ySuf yWay ∧ Words w3.heap.size w3 (.slice (some ⟨w2.heap.size, 0, none⟩) 1 1) ([bl xy].map ba)) := by
    have h1 : Below w2.heap.size w2 w3 := by rw [hw3]; exact below_alloc1 _ _
    refine ⟨below_trans H2.out.1 h1 H2.out.1.size, H2.out.2.below (h1.mono H2.out.2.lo), some ⟨w2.heap.size, 0, none⟩, 1, 1, rfl, rfl, Nat.le_refl _, fun i hi => ⟨w2.heap.size, 0, rfl, by rw [hw3]; simp, ?_⟩⟩
    have h0 : i < 1 := hi
    obtain rfl : i = 0 := by omega
    have hbk : w3.heap[w2.heap.size]? = some (.cells #[.string ⟨#[120, 46, 121]⟩] 9 (0, 0)) := by rw [hw3]; exact alloc_b rfl
    exact cell_in hbk 0 rfl
  have HC : Hid (Calls Try.prog 8 #[.agg #[.slice sa ySuf.length cs, .slice aw yWay.length cw], .string xo, .slice (some ⟨w2.heap.size, 0, none⟩) 1 1] w3 (ChainPost (some [bl xy, bl xc, bl xo]) w3)) := by
    have h := chain_any _ _ _ ySuf yWay [bl xy] xo w3.heap.size w3 (H3.out.2.1.mono H3.out.2.1.lo (Nat.le_refl _)) (by decide) (by decide) H3.out.2.2 (by decide) (by decide)
    rw [y_chain] at h
    exact h
  have H3b : Hid (Below w.heap.size w w3) := H3.out.1
  clear H2
  obtain ⟨x2, hx2⟩ : ∃ x, x = w2.heap.size := ⟨_, rfl⟩
  rw [← hx2] at HC
  have hxo : xo = ⟨#[120, 46, 111]⟩ := rfl
  rw [hxo] at HC
  go_upto_region 2 with (first | (go_at_call 8; rw [← hw3, ← hx2]; refine HC.out.mono ?_; rintro e w4 ⟨v, b, rfl, hb4, _, hsome⟩) | fail)
  obtain ⟨rfl, hrow⟩ := hsome _ rfl
  have H4 : Hid (Below w.heap.size w w4 ∧ Words w4.heap.size w4 v ([bl xy, bl xc, bl xo].map ba)) := by
    refine ⟨below_trans H3b.out hb4 H3b.out.size, words_of_owns (base := w3.heap.size) ?_ (Nat.le_refl _)⟩
    rw [List.length_map, ← txt_eq]; exact hrow
  clear hsome hrow hb4 HC H3 hw3 hx2
  obtain ⟨va, vc, rfl⟩ := H4.out.2.slice
  obtain ⟨w5, hw5⟩ : ∃ w5, w5 = w4.alloc (.cells #[.string ⟨#[120, 46, 121]⟩, .string ⟨#[120, 46, 99]⟩, .string ⟨#[120, 46, 111]⟩] 9) := ⟨_, rfl⟩
  have H5 : Hid (Below w.heap.size w w5 ∧ Words w5.heap.size w5 (.slice va 3 vc) ([bl xy, bl xc, bl xo].map ba) ∧ Words w5.heap.size w5 (.slice (some ⟨w4.heap.size, 0, none⟩) 3 3) ([bl xy, bl xc, bl xo].map ba)) := by
    have h1 : Below w4.heap.size w4 w5 := by rw [hw5]; exact below_alloc1 _ _
    have hbk : w5.heap[w4.heap.size]? = some (.cells #[.string ⟨#[120, 46, 121]⟩, .string ⟨#[120, 46, 99]⟩, .string ⟨#[120, 46, 111]⟩] 9 (0, 0)) := by rw [hw5]; exact alloc_b rfl
    refine ⟨below_trans H4.out.1 h1 H4.out.1.size, (H4.out.2.below h1).mono h1.size, some ⟨w4.heap.size, 0, none⟩, 3, 3, rfl, rfl, Nat.le_refl _, fun i hi => ⟨w4.heap.size, 0, rfl, by rw [hw5]; simp, ?_⟩⟩
    rw [Nat.zero_add]
    have h3 : i < 3 := hi
    match i, h3 with
    | 0, _ => exact cell_in hbk 0 rfl
    | 1, _ => exact cell_in hbk 1 rfl
    | 2, _ => exact cell_in hbk 2 rfl
  have HSm : Hid (Calls Try.prog 14 #[.slice va 3 vc, .slice (some ⟨w4.heap.size, 0, none⟩) 3 3] w5 fun e w' => e = .returned (.bool true) ∧ ∃ n, w' = w5.drewN n) := same_any _ _ _ _ _ _ (by decide) H5.out.2.1 H5.out.2.2
  obtain ⟨x4, hx4⟩ : ∃ x, x = w4.heap.size := ⟨_, rfl⟩
  rw [← hx4] at HSm
  have H5b : Hid (Below w.heap.size w w5) := H5.out.1
  have HRt : Hid (∀ (W : World) (vs vw : Value), Tb W.heap.size W vs vw ySuf yWay → Calls Try.prog 15 #[.agg #[vs, vw]] W (RightPost ySuf yWay W)) := fun W vs vw h => right_any vs vw ySuf yWay _ W h
  clear H4 H5 H1 H3b
  have hl3 : ([bl xy, bl xc, bl xo] : List S.Tx).length = 3 := rfl
  go_wp2_with (first | (go_at_call 14; rw [← hw5, ← hx4]; refine HSm.out.mono ?_; rintro e w6 ⟨rfl, q, rfl⟩) | fail)
  have H6 : Hid (Below w.heap.size w (w5.drewN q)) := below_drewN H5b.out q
  obtain ⟨w7, hw7⟩ : ∃ w7, w7 = w5.drewN q := ⟨_, rfl⟩
  rw [← hw7] at H6
  rw [← hw5, ← hw7]
  clear HSm hw5 hx4 hw7 H5b
  refine (HY.out _).mono ?_
  rintro e w8 ⟨vs, vw, rfl, hb8, hsu, hwy⟩
  obtain ⟨sb, cs2, rfl⟩ := hsu.slice
  obtain ⟨aw2, cw2, rfl⟩ := hwy.slice
  have H8 : Hid (Below w.heap.size w w8 ∧ Tb w8.heap.size w8 (.slice sb ySuf.length cs2) (.slice aw2 yWay.length cw2) ySuf yWay) := ⟨below_trans H6.out hb8 H6.out.size, hsu, hwy, Nat.le_refl _, by decide, by decide⟩
  clear hb8 hsu hwy
  go_wp2_with fail
  refine (HT.out _ _ _ _ _ _ _).mono ?_
  rintro e w9 ⟨rfl, hb9⟩
  have H9 : Hid (Below w.heap.size w w9 ∧ Tb w9.heap.size w9 (.slice sb ySuf.length cs2) (.slice aw2 yWay.length cw2) ySuf yWay) := ⟨below_trans H8.out.1 hb9 H8.out.1.size, (H8.out.2.below hb9).mono hb9.size (Nat.le_refl _)⟩
  clear hb9
  go_wp2_with fail
  refine (HRt.out _ _ _ H9.out.2).mono ?_
  rintro e w10 ⟨b, rfl, hbr, hb10⟩
  have HE : Hid (b = true ∧ Below w.heap.size w w10) := ⟨hbr.2 y_right, below_trans H9.out.1 hb10 H9.out.1.size⟩
  clear hbr hb10
  go_wp2_with fail
  go_ret
  exact ⟨ret_bool HE.out.1, HE.out.2⟩
end Go.Proofs.Ytfcoihklihkngaa
