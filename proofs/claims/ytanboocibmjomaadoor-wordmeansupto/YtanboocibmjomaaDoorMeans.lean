/-
  What the statement WordMeans answers, called at any two texts of at most 1100000 bytes: true; nothing that was there has turned.
-/
import Derived.Test.YtanboocibmjomaaDoorAlive
namespace Go.Proofs.YtanboocibmjomaaDoor
open Go.RowKit Go.Shelf

theorem split_two (x p q : ByteArray) (hx : x.size ≤ 140737488355328) (hE : splitE x = 0) (hW : splitW x = [q, p]) (W : World) :
    Calls Tryd.prog 9 #[.string x] W fun e w' => ∃ b o c, e = .returned (.tuple #[.slice (some ⟨b, o, none⟩) 2 c, .int .i64 0]) ∧ w'.cell? ⟨b, o, none⟩ = some (.string q) ∧ w'.cell? ⟨b, o + 1, none⟩ = some (.string p) ∧ Below W.heap.size W w' := by
  refine (split_any x W hx).mono ?_
  rintro e w' ⟨v, rfl, hw, hb⟩
  rw [hW] at hw
  rw [hE]
  obtain ⟨b, o, c, rfl, _, hc⟩ := hw.at (by simp)
  exact ⟨b, o, c, rfl, hc 0 (by simp), hc 1 (by simp), hb⟩

theorem adds (a b : ByteArray) (ha : a.size ≤ 100000000) (hb : b.size ≤ 100000000) : ∃ x : ByteArray, x.size = a.size + b.size ∧ bl x = bl a ++ bl b ∧ ∀ W, (Op.stringOp .add a b).run Tryd.prog W = .ok (.string x) W :=
  ⟨a ++ b, ByteArray.size_append, bl_app a b, fun W => run_string_add_sum W _ _ (by omega)⟩

set_option maxRecDepth 20000 in
set_option maxHeartbeats 400000 in
theorem means_law (s t : ByteArray) (w : World) (hs : s.size ≤ 1100000) (ht : t.size ≤ 1100000) (hM : Mx w) :
    Calls Tryd.prog 6 #[.string s, .string t] w fun e w' => e = .returned (.bool true) ∧ Below w.heap.size w w' := by
  obtain ⟨q, hq⟩ : ∃ q, q = ba (K.quote (bl s)) := ⟨_, rfl⟩
  obtain ⟨p, hp⟩ : ∃ p, p = ba (K.quote (bl t)) := ⟨_, rfl⟩
  have hqs : q.size ≤ 5000000 := by have := K.quote_length (bl s); rw [bl_length] at this; rw [hq, ba_size]; omega
  have hps : p.size ≤ 5000000 := by have := K.quote_length (bl t); rw [bl_length] at this; rw [hp, ba_size]; omega
  have HQ : Hid (∀ W, Mx W → Calls Tryd.prog 15 #[.string s] W fun e w' => e = .returned (.string q) ∧ Below W.heap.size W w') := fun W h => by rw [hq]; exact quote_ok s W (by omega) h
  have HP : Hid (∀ W, Mx W → Calls Tryd.prog 15 #[.string t] W fun e w' => e = .returned (.string p) ∧ Below W.heap.size W w') := fun W h => by rw [hp]; exact quote_ok t W (by omega) h
  have HMn : Hid (∀ W, Calls Tryd.prog 11 #[.string q] W fun e w' => e = .returned (.tuple #[.string s, .int .i64 0]) ∧ Below W.heap.size W w') := by
    intro W
    have e2 : meanE q = 0 := by unfold meanE; rw [hq, bl_ba, K.ends_quote]; rfl
    have e1 : meanT q = s := by unfold meanT; rw [e2, if_pos rfl, hq, bl_ba, (K.quote_is _).2, ba_bl]
    have h := mean_any q W (by omega)
    rw [e1, e2] at h
    exact h
  obtain ⟨x1, z1, b1, r1⟩ := adds ⟨#[32, 32]⟩ q (by decide) (by omega)
  have z0 : (⟨#[32, 32]⟩ : ByteArray).size = 2 := rfl
  rw [z0] at z1
  obtain ⟨x2, z2, b2, r2⟩ := adds x1 ⟨#[9]⟩ (by omega) (by decide)
  have z9 : (⟨#[9]⟩ : ByteArray).size = 1 := rfl
  rw [z9] at z2
  obtain ⟨x3, z3, b3, r3⟩ := adds x2 p (by omega) (by omega)
  obtain ⟨x4, z4, b4, r4⟩ := adds x3 ⟨#[32]⟩ (by omega) (by decide)
  have z32 : (⟨#[32]⟩ : ByteArray).size = 1 := rfl
  rw [z32] at z4
  have hb4 : bl x4 = [32, 32] ++ K.quote (bl s) ++ [9] ++ K.quote (bl t) ++ [32] := by
    rw [b4, b3, b2, b1, hq, hp, bl_ba, bl_ba]; rfl
  have hw := K.words_two (bl s) (bl t)
  rw [← hb4] at hw
  have e4 : wds x4 = [q, p] := by unfold wds; rw [hw.1, hq, hp]; rfl
  have e5 : splitE x4 = 0 := by unfold splitE; rw [hw.2, e4]; rfl
  have e6 : splitW x4 = [q, p] := by unfold splitW; rw [e5, if_pos rfl, e4]
  have HS : Hid (∀ W, Calls Tryd.prog 9 #[.string x4] W fun e w' => ∃ b o c, e = .returned (.tuple #[.slice (some ⟨b, o, none⟩) 2 c, .int .i64 0]) ∧ w'.cell? ⟨b, o, none⟩ = some (.string q) ∧ w'.cell? ⟨b, o + 1, none⟩ = some (.string p) ∧ Below W.heap.size W w') := fun W => split_two x4 p q (by omega) e5 e6 W
  have HA : Hid (∀ W, Mx W → Calls Tryd.prog 14 #[] W fun e w' => e = .returned (.bool true) ∧ Below W.heap.size W w') := fun W h => alive_any W h
  have HM : Hid (Mx w) := hM
  clear hM hq hp hqs hps z0 z1 z9 z2 z3 z32 z4 b1 b2 b3 b4 hb4 hw e4 e5 e6
  go_enter Tryd.func6, Tryd.ntmps6
  go_wp2_with fail
  refine (HQ.out _ HM.out).mono ?_
  rintro e w1 ⟨rfl, hb1⟩
  have HM1 : Hid (Mx w1) := HM.out.below hb1 HM.out.pos
  go_wp2_with fail
  refine (HP.out _ HM1.out).mono ?_
  rintro e w2 ⟨rfl, hb2⟩
  have hb12 := hb1.trans (hb2.mono hb1.size)
  clear hb1 hb2
  go_wp2_with fail
  refine (HMn.out _).mono ?_
  rintro e w3 ⟨rfl, hb3⟩
  have hb13 := hb12.trans (hb3.mono hb12.size)
  clear hb12 hb3
  go_wp2_with fail
  refine (HS.out _).mono ?_
  rintro e w4 ⟨b, o, c, rfl, hc0, hc1, hb4⟩
  have hb14 := hb13.trans (hb4.mono hb13.size)
  clear hb13 hb4
  have HM4 : Hid (Mx w4) := HM.out.below hb14 HM.out.pos
  go_wp2_with fail
  refine (HA.out _ HM4.out).mono ?_
  rintro e w5 ⟨rfl, hb5⟩
  have hb15 := hb14.trans (hb5.mono hb14.size)
  clear hb14 hb5
  go_wp2
  go_ret
  exact ⟨rfl, hb15⟩
end Go.Proofs.YtanboocibmjomaaDoor
