/-
  LineWrites.
-/
import Derived.Test.YtefhpoklehmlhaaDoorL10
import Derived.Test.YtefhpoklehmlhaaDoorL12
import Derived.Test.YtefhpoklehmlhaaDoorL20
import Derived.Test.YtefhpoklehmlhaaDoorL21
namespace Go.Proofs.YtefhpoklehmlhaaDoor
open Go.RowKit Go.Shelf

/-- What stands in memory through the law. -/
structure Wi (w : World) (v1 v2 : Value) (l k : List Lz) (W : World) : Prop where
  bel : Below w.heap.size w W
  z1 : LZ W.heap.size W v1 l
  z2 : LZ W.heap.size W v2 k
theorem Wi.below {w : World} {v1 v2 : Value} {l k : List Lz} {W W' : World} (h : Wi w v1 v2 l k W) (hb : Below W.heap.size W W') : Wi w v1 v2 l k W' :=
  ⟨below_trans h.bel hb h.bel.size, (h.z1.below hb).mono hb.size, (h.z2.below hb).mono hb.size⟩
theorem eq_bools (x : Bool) (w : World) : Sem.run Tryd.prog (binOp .eql 4 (.bool x) (.bool x)) w = .ok (.bool true) w := by
  cases x <;> rfl

set_option maxRecDepth 20000 in
set_option maxHeartbeats 1000000 in
theorem writes_law (v1 v2 : Value) (l k : List Lz) (s : ByteArray) (w : World) (hl : l.length ≤ 1048576) (hk : k.length ≤ 1048576) (hz : (writeZ l).length ≤ 500000000) (hs : s.size ≤ 1100000) (h1 : LZ w.heap.size w v1 l) (h2 : LZ w.heap.size w v2 k) (hm : Mx w) :
    Calls Tryd.prog 8 #[v1, v2, .string s] w (TruePost w) := by
  have HW0 : Hid (Wi w v1 v2 l k w) := ⟨Below.refl _ _, h1, h2⟩
  obtain ⟨A, hA⟩ : ∃ A, A = ba (wordA (bl s)) := ⟨_, rfl⟩
  obtain ⟨B, hB⟩ : ∃ B, B = ba (wordB (bl s)) := ⟨_, rfl⟩
  have HWD : Hid (∀ W, Calls Tryd.prog 17 #[.string s] W fun e w' => e = .returned (.tuple #[.string A, .string B]) ∧ Below W.heap.size W w') := fun W => by rw [hA, hB]; exact word_any s W hs
  have HRW : Hid (∀ W, Calls Tryd.prog 18 #[.string s] W fun e w' => e = .returned (.tuple #[.string A, .string B]) ∧ Below W.heap.size W w') := fun W => by rw [hA, hB]; exact rword_any s W hs
  obtain ⟨T, hT⟩ : ∃ T, T = ba (writeZ l) := ⟨_, rfl⟩
  have HTH1 : Hid (∀ W, Wi w v1 v2 l k W → Calls Tryd.prog 19 #[v1] W fun e w' => ∃ v', e = .returned v' ∧ LZ w'.heap.size w' v' l ∧ Below W.heap.size W w') := fun W hW =>
    (theirs_any v1 l W (by omega) hW.z1).mono fun e w' ⟨v', g1, g2, g3⟩ => ⟨v', g1, lz_of_owns g2 (Nat.le_refl _), g3⟩
  have HTH2 : Hid (∀ W, Wi w v1 v2 l k W → Calls Tryd.prog 19 #[v2] W fun e w' => ∃ v', e = .returned v' ∧ LZ w'.heap.size w' v' k ∧ Below W.heap.size W w') := fun W hW =>
    (theirs_any v2 k W (by omega) hW.z2).mono fun e w' ⟨v', g1, g2, g3⟩ => ⟨v', g1, lz_of_owns g2 (Nat.le_refl _), g3⟩
  have HWR : Hid (∀ W v, Wi w v1 v2 l k W → LZ W.heap.size W v l → Calls Tryd.prog 12 #[v] W fun e w' => e = .returned (.string T) ∧ Below W.heap.size W w') := fun W v hW hv => by
    rw [hT]; exact write_any v l W (by omega) hz (hm.below hW.bel hm.pos) hv
  have HRWR : Hid (∀ W, Wi w v1 v2 l k W → Calls Tryd.prog 20 #[v1] W fun e w' => e = .returned (.string T) ∧ Below W.heap.size W w') := fun W hW => by
    rw [hT]; exact rwrite_any v1 l W (by omega) hz hW.z1
  obtain ⟨q, hq⟩ : ∃ q : Bool, q = @decide (l = k) (Classical.propDecidable _) := ⟨_, rfl⟩
  have hqi : q = true ↔ l = k := by rw [hq]; simp
  have HSA : Hid (∀ W a b, LZ W.heap.size W a l → LZ W.heap.size W b k → Calls Tryd.prog 13 #[a, b] W fun e w' => e = .returned (.bool q) ∧ Below W.heap.size W w') := fun W a b ha hb =>
    (same_any a b l k _ W (by omega) (by omega) ha hb).mono fun e w' ⟨y, g1, g2, g3⟩ => ⟨by rw [g1]; exact ret_bool (by rw [Bool.eq_iff_iff, g2, hqi]), g3⟩
  have HRS : Hid (∀ W, Wi w v1 v2 l k W → Calls Tryd.prog 15 #[v1, v2] W fun e w' => e = .returned (.bool q) ∧ Below W.heap.size W w') := fun W hW =>
    (rsame_any v1 v2 l k _ W (by omega) (by omega) hW.z1 hW.z2).mono fun e w' ⟨y, g1, g2, g3⟩ => ⟨by rw [g1]; exact ret_bool (by rw [Bool.eq_iff_iff, g2, hqi]), g3⟩
  have HSL : Hid (∀ W a b, LZ W.heap.size W a l → LZ W.heap.size W b l → Calls Tryd.prog 13 #[a, b] W fun e w' => e = .returned (.bool true) ∧ Below W.heap.size W w') := fun W a b ha hb =>
    (same_any a b l l _ W (by omega) (by omega) ha hb).mono fun e w' ⟨y, g1, g2, g3⟩ => ⟨by rw [g1, g2.2 rfl], g3⟩
  have HA : Hid (∀ W, Below w.heap.size w W → Calls Tryd.prog 10 #[] W fun e w' => e = .returned (.bool true) ∧ Below W.heap.size W w') := fun W hW => alive_any W (hm.below hW hm.pos)
  have heb := eq_bools q
  clear hA hB hT hq hqi h1 h2 hm hz hl hk
  go_enter Tryd.func8, Tryd.ntmps8
  go_wp2_with fail
  refine (HWD.out _).mono ?_
  rintro e w1 ⟨rfl, g⟩
  have H1 : Hid (Wi w v1 v2 l k w1) := HW0.out.below g
  clear g
  go_wp2_with fail
  refine (HRW.out _).mono ?_
  rintro e w2 ⟨rfl, g⟩
  have H2 : Hid (Wi w v1 v2 l k w2) := H1.out.below g
  clear g
  go_wp2_with fail
  refine (HTH1.out _ H2.out).mono ?_
  rintro e w3 ⟨t1, rfl, gz, g⟩
  have H3 : Hid (Wi w v1 v2 l k w3 ∧ LZ w3.heap.size w3 t1 l) := ⟨H2.out.below g, gz⟩
  clear g gz
  go_wp2_with fail
  refine (HWR.out _ _ H3.out.1 H3.out.2).mono ?_
  rintro e w4 ⟨rfl, g⟩
  have H4 : Hid (Wi w v1 v2 l k w4) := H3.out.1.below g
  clear g
  go_wp2_with fail
  refine (HRWR.out _ H4.out).mono ?_
  rintro e w5 ⟨rfl, g⟩
  have H5 : Hid (Wi w v1 v2 l k w5) := H4.out.below g
  clear g
  go_wp2_with fail
  refine (HTH1.out _ H5.out).mono ?_
  rintro e w6 ⟨t2, rfl, gz, g⟩
  have H6 : Hid (Wi w v1 v2 l k w6 ∧ LZ w6.heap.size w6 t2 l) := ⟨H5.out.below g, gz⟩
  clear g gz
  go_wp2_with fail
  refine (HTH2.out _ H6.out.1).mono ?_
  rintro e w7 ⟨t3, rfl, gz, g⟩
  have H7 : Hid (Wi w v1 v2 l k w7 ∧ LZ w7.heap.size w7 t2 l ∧ LZ w7.heap.size w7 t3 k) := ⟨H6.out.1.below g, (H6.out.2.below g).mono g.size, gz⟩
  clear g gz
  go_wp2_with fail
  refine (HSA.out _ _ _ H7.out.2.1 H7.out.2.2).mono ?_
  rintro e w8 ⟨rfl, g⟩
  have H8 : Hid (Wi w v1 v2 l k w8) := H7.out.1.below g
  clear g
  go_wp2_with fail
  refine (HRS.out _ H8.out).mono ?_
  rintro e w9 ⟨rfl, g⟩
  have H9 : Hid (Wi w v1 v2 l k w9) := H8.out.below g
  clear g
  go_wp2_with fail
  refine (HTH1.out _ H9.out).mono ?_
  rintro e w10 ⟨t4, rfl, gz, g⟩
  have H10 : Hid (Wi w v1 v2 l k w10 ∧ LZ w10.heap.size w10 t4 l) := ⟨H9.out.below g, gz⟩
  clear g gz
  go_wp2_with fail
  refine (HTH1.out _ H10.out.1).mono ?_
  rintro e w11 ⟨t5, rfl, gz, g⟩
  have H11 : Hid (Wi w v1 v2 l k w11 ∧ LZ w11.heap.size w11 t4 l ∧ LZ w11.heap.size w11 t5 l) := ⟨H10.out.1.below g, (H10.out.2.below g).mono g.size, gz⟩
  clear g gz
  go_wp2_with fail
  refine (HSL.out _ _ _ H11.out.2.1 H11.out.2.2).mono ?_
  rintro e w12 ⟨rfl, g⟩
  have H12 : Hid (Wi w v1 v2 l k w12) := H11.out.1.below g
  clear g
  go_wp2_with fail
  refine (HA.out _ H12.out.bel).mono ?_
  rintro e w13 ⟨rfl, g⟩
  have H13 : Hid (Below w.heap.size w w13) := below_trans H12.out.bel g H12.out.bel.size
  clear g
  go_wp2_with fail
  go_ret
  exact ⟨rfl, H13⟩
end Go.Proofs.YtefhpoklehmlhaaDoor
