/-
  DQ10 DQ15 M16
-/
import Derived.Test.YtpcpcfnmcfjomaaGreatDoorK24
import Derived.Test.YtpcpcfnmcfjomaaGreatDoorK25
import Derived.Test.YtpcpcfnmcfjomaaGreatDoorK27
import Derived.Test.YtpcpcfnmcfjomaaGreatDoorK23
import Derived.Test.YtpcpcfnmcfjomaaGreatDoorK20
namespace Go.Proofs.YtpcpcfnmcfjomaaGreatDoor.DQ
open Go.RowKit Go.Shelf
def wordA (m : Dm) (x : ByteArray) : ByteArray × Bool :=
  if m.kind = ⟨#[77]⟩ then (x, G.matchB (bl m.a) (bl x))
  else if m.kind = ⟨#[78]⟩ then (x, !G.matchB (bl m.a) (bl x))
  else if m.kind = ⟨#[84]⟩ then (nameB x, true)
  else if m.kind = ⟨#[72]⟩ then (dirB x, true)
  else if m.kind = ⟨#[69]⟩ then (if sufB x = E then (E, false) else ((sufB x).extract 1 (sufB x).size, true))
  else if m.kind = ⟨#[82]⟩ then (rootB x, true)
  else if m.kind = ⟨#[116, 108]⟩ then (ba ((bl x).map (shiftC 65 97)), true)
  else if m.kind = ⟨#[116, 117]⟩ then (ba ((bl x).map (shiftC 97 65)), true)
  else (ba (sufA (bl m.a) (bl m.b) (bl x)), true)
def WordV (m : Dm) (x : ByteArray) : Value := .tuple #[.string (wordA m x).1, .bool (wordA m x).2]
set_option maxRecDepth 20000 in
set_option maxHeartbeats 1600000 in
theorem word_M (a b : ByteArray) (f t y : Int) (x : ByteArray) (w : World) (ha : a.size ≤ 1000000) (hx : x.size ≤ 1000000) :
    Calls Tryz.prog 36 #[.agg (dmA ⟨#[77]⟩ a b f t y), .string x] w fun e w' => e = .returned (WordV ⟨⟨#[77]⟩, a, b, f, t, y⟩ x) ∧ Below w.heap.size w w' := by
  obtain ⟨W1, hW1⟩ : ∃ W1, W1 = w.alloc (.cells (dmA ⟨#[77]⟩ a b f t y) 53) := ⟨_, rfl⟩
  have hbx : W1.heap[w.heap.size]? = some (.cells (dmA ⟨#[77]⟩ a b f t y) 53 (0, 0)) := by rw [hW1]; exact Cd.heap_new _ _
  have HB : Hid (Below w.heap.size w W1) := by rw [hW1]; exact (Below.refl _ _).alloc (Nat.le_refl _) _
  have c0 := cell_in hbx 0 rfl
  have c1 := cell_in hbx 1 rfl
  have HC : Hid (∀ W, Calls Tryz.prog 75 #[.string a, .string x] W fun e w' => e = .returned (.bool (G.matchB (bl a) (bl x))) ∧ Below W.heap.size W w') := fun W => GR.refmatch_any a x W ha hx
  have HR : Hid (WordV ⟨⟨#[77]⟩, a, b, f, t, y⟩ x = .tuple #[.string x, .bool (G.matchB (bl a) (bl x))]) := by unfold Hid WordV wordA; simp
  clear hbx
  go_enter Tryz.func36, Tryz.ntmps36
  go_upto_region 1 with fail
  rw [← hW1]
  clear hW1
  go_wp2_with fail
  refine (HC.out _).mono ?_
  rintro e w2 ⟨rfl, hb2⟩
  have HB2 : Hid (Below w.heap.size w w2) := HB.out.trans (hb2.mono HB.out.size)
  clear hb2
  generalize G.matchB (bl a) (bl x) = r at HR ⊢
  go_wp2
  go_ret2
  exact ⟨by rw [HR.out]; rfl, HB2.out⟩
set_option maxRecDepth 20000 in
set_option maxHeartbeats 1600000 in
theorem word_N (a b : ByteArray) (f t y : Int) (x : ByteArray) (w : World) (ha : a.size ≤ 1000000) (hx : x.size ≤ 1000000) :
    Calls Tryz.prog 36 #[.agg (dmA ⟨#[78]⟩ a b f t y), .string x] w fun e w' => e = .returned (WordV ⟨⟨#[78]⟩, a, b, f, t, y⟩ x) ∧ Below w.heap.size w w' := by
  obtain ⟨W1, hW1⟩ : ∃ W1, W1 = w.alloc (.cells (dmA ⟨#[78]⟩ a b f t y) 53) := ⟨_, rfl⟩
  have hbx : W1.heap[w.heap.size]? = some (.cells (dmA ⟨#[78]⟩ a b f t y) 53 (0, 0)) := by rw [hW1]; exact Cd.heap_new _ _
  have HB : Hid (Below w.heap.size w W1) := by rw [hW1]; exact (Below.refl _ _).alloc (Nat.le_refl _) _
  have c0 := cell_in hbx 0 rfl
  have c1 := cell_in hbx 1 rfl
  have HC : Hid (∀ W, Calls Tryz.prog 75 #[.string a, .string x] W fun e w' => e = .returned (.bool (G.matchB (bl a) (bl x))) ∧ Below W.heap.size W w') := fun W => GR.refmatch_any a x W ha hx
  have HR : Hid (WordV ⟨⟨#[78]⟩, a, b, f, t, y⟩ x = .tuple #[.string x, .bool (!G.matchB (bl a) (bl x))]) := by unfold Hid WordV wordA; simp
  clear hbx
  go_enter Tryz.func36, Tryz.ntmps36
  go_upto_region 1 with fail
  rw [← hW1]
  clear hW1
  go_wp2_with fail
  refine (HC.out _).mono ?_
  rintro e w2 ⟨rfl, hb2⟩
  have HB2 : Hid (Below w.heap.size w w2) := HB.out.trans (hb2.mono HB.out.size)
  clear hb2
  generalize G.matchB (bl a) (bl x) = r at HR ⊢
  go_wp2
  go_ret2
  exact ⟨by rw [HR.out]; rfl, HB2.out⟩
set_option maxRecDepth 20000 in
set_option maxHeartbeats 1600000 in
theorem word_T (a b : ByteArray) (f t y : Int) (x : ByteArray) (w : World) (hx : x.size ≤ 1000000) :
    Calls Tryz.prog 36 #[.agg (dmA ⟨#[84]⟩ a b f t y), .string x] w fun e w' => e = .returned (WordV ⟨⟨#[84]⟩, a, b, f, t, y⟩ x) ∧ Below w.heap.size w w' := by
  obtain ⟨W1, hW1⟩ : ∃ W1, W1 = w.alloc (.cells (dmA ⟨#[84]⟩ a b f t y) 53) := ⟨_, rfl⟩
  have hbx : W1.heap[w.heap.size]? = some (.cells (dmA ⟨#[84]⟩ a b f t y) 53 (0, 0)) := by rw [hW1]; exact Cd.heap_new _ _
  have HB : Hid (Below w.heap.size w W1) := by rw [hW1]; exact (Below.refl _ _).alloc (Nat.le_refl _) _
  have c0 := cell_in hbx 0 rfl
  have c1 := cell_in hbx 1 rfl
  have HC : Hid (∀ W, Calls Tryz.prog 76 #[.string x] W fun e w' => e = .returned (.string (nameB x)) ∧ w' = W) := fun W => rname_any x W hx
  have HR : Hid (WordV ⟨⟨#[84]⟩, a, b, f, t, y⟩ x = .tuple #[.string (nameB x), .bool true]) := by unfold Hid WordV wordA; simp
  clear hbx
  go_enter Tryz.func36, Tryz.ntmps36
  go_upto_region 1 with fail
  rw [← hW1]
  clear hW1
  go_wp2_with fail
  refine (HC.out _).mono ?_
  rintro e w2 ⟨rfl, rfl⟩
  generalize nameB x = r at HR ⊢
  go_wp2
  go_ret2
  exact ⟨by rw [HR.out]; rfl, HB.out⟩
set_option maxRecDepth 20000 in
set_option maxHeartbeats 1600000 in
theorem word_H (a b : ByteArray) (f t y : Int) (x : ByteArray) (w : World) (hx : x.size ≤ 1000000) :
    Calls Tryz.prog 36 #[.agg (dmA ⟨#[72]⟩ a b f t y), .string x] w fun e w' => e = .returned (WordV ⟨⟨#[72]⟩, a, b, f, t, y⟩ x) ∧ Below w.heap.size w w' := by
  obtain ⟨W1, hW1⟩ : ∃ W1, W1 = w.alloc (.cells (dmA ⟨#[72]⟩ a b f t y) 53) := ⟨_, rfl⟩
  have hbx : W1.heap[w.heap.size]? = some (.cells (dmA ⟨#[72]⟩ a b f t y) 53 (0, 0)) := by rw [hW1]; exact Cd.heap_new _ _
  have HB : Hid (Below w.heap.size w W1) := by rw [hW1]; exact (Below.refl _ _).alloc (Nat.le_refl _) _
  have c0 := cell_in hbx 0 rfl
  have c1 := cell_in hbx 1 rfl
  have HC : Hid (∀ W, Calls Tryz.prog 77 #[.string x] W fun e w' => e = .returned (.string (dirB x)) ∧ w' = W) := fun W => rdir_any x W hx
  have HR : Hid (WordV ⟨⟨#[72]⟩, a, b, f, t, y⟩ x = .tuple #[.string (dirB x), .bool true]) := by unfold Hid WordV wordA; simp
  clear hbx
  go_enter Tryz.func36, Tryz.ntmps36
  go_upto_region 1 with fail
  rw [← hW1]
  clear hW1
  go_wp2_with fail
  refine (HC.out _).mono ?_
  rintro e w2 ⟨rfl, rfl⟩
  generalize dirB x = r at HR ⊢
  go_wp2
  go_ret2
  exact ⟨by rw [HR.out]; rfl, HB.out⟩
set_option maxRecDepth 20000 in
set_option maxHeartbeats 1600000 in
theorem word_E (a b : ByteArray) (f t y : Int) (x : ByteArray) (w : World) (hx : x.size ≤ 1000000) :
    Calls Tryz.prog 36 #[.agg (dmA ⟨#[69]⟩ a b f t y), .string x] w fun e w' => e = .returned (WordV ⟨⟨#[69]⟩, a, b, f, t, y⟩ x) ∧ Below w.heap.size w w' := by
  obtain ⟨W1, hW1⟩ : ∃ W1, W1 = w.alloc (.cells (dmA ⟨#[69]⟩ a b f t y) 53) := ⟨_, rfl⟩
  have hbx : W1.heap[w.heap.size]? = some (.cells (dmA ⟨#[69]⟩ a b f t y) 53 (0, 0)) := by rw [hW1]; exact Cd.heap_new _ _
  have HB : Hid (Below w.heap.size w W1) := by rw [hW1]; exact (Below.refl _ _).alloc (Nat.le_refl _) _
  have c0 := cell_in hbx 0 rfl
  have c1 := cell_in hbx 1 rfl
  have HC : Hid (∀ W, Calls Tryz.prog 78 #[.string x] W fun e w' => e = .returned (.string (sufB x)) ∧ w' = W) := fun W => rsuffix_any x W hx
  have hsz := sufB_size x
  obtain ⟨q, hq⟩ : ∃ q, q = sufB x := ⟨_, rfl⟩
  have HR : Hid (WordV ⟨⟨#[69]⟩, a, b, f, t, y⟩ x = if q = E then .tuple #[.string E, .bool false] else .tuple #[.string (q.extract 1 q.size), .bool true]) := by
    unfold Hid WordV wordA
    rw [← hq]
    by_cases h : q = E
    · simp [h]
    · simp [h]
  rw [← hq] at HC hsz
  clear hq
  by_cases hE : q = E
  · have HR2 : Hid (WordV ⟨⟨#[69]⟩, a, b, f, t, y⟩ x = .tuple #[.string E, .bool false]) := by unfold Hid; rw [HR.out, if_pos hE]
    subst hE
    clear HR
    clear hbx
    go_enter Tryz.func36, Tryz.ntmps36
    go_upto_region 1 with fail
    rw [← hW1]
    clear hW1
    go_wp2_with fail
    refine (HC.out _).mono ?_
    rintro e w2 ⟨rfl, rfl⟩
    go_wp2
    go_ret2
    exact ⟨by rw [HR2.out]; rfl, HB.out⟩
  · have HR2 : Hid (WordV ⟨⟨#[69]⟩, a, b, f, t, y⟩ x = .tuple #[.string (q.extract 1 q.size), .bool true]) := by unfold Hid; rw [HR.out, if_neg hE]
    have hq0 : 0 < q.size := by
      rcases Nat.eq_zero_or_pos q.size with h | h
      · exact absurd (bl_inj (by rw [show bl E = [] from rfl]; exact List.length_eq_zero_iff.1 (by rw [bl_length, h]))) hE
      · exact h
    have hq1 : (1 : Int) ≤ (q.size : Int) := by omega
    have hne : q.toList.isEmpty = false := by
      rw [ByteArray.toList_eq]
      cases hb : q.data.toList with
      | nil => exact absurd (bl_inj (by rw [show bl E = [] from rfl]; exact hb)) hE
      | cons c l => rfl
    clear HR hE
    clear hbx
    go_enter Tryz.func36, Tryz.ntmps36
    go_upto_region 1 with fail
    rw [← hW1]
    clear hW1
    go_wp2_with fail
    refine (HC.out _).mono ?_
    rintro e w2 ⟨rfl, rfl⟩
    go_wp2
    go_ret2
    exact ⟨by rw [HR2.out]; rfl, HB.out⟩
set_option maxRecDepth 20000 in
set_option maxHeartbeats 1600000 in
theorem word_R (a b : ByteArray) (f t y : Int) (x : ByteArray) (w : World) (hx : x.size ≤ 1000000) :
    Calls Tryz.prog 36 #[.agg (dmA ⟨#[82]⟩ a b f t y), .string x] w fun e w' => e = .returned (WordV ⟨⟨#[82]⟩, a, b, f, t, y⟩ x) ∧ Below w.heap.size w w' := by
  obtain ⟨W1, hW1⟩ : ∃ W1, W1 = w.alloc (.cells (dmA ⟨#[82]⟩ a b f t y) 53) := ⟨_, rfl⟩
  have hbx : W1.heap[w.heap.size]? = some (.cells (dmA ⟨#[82]⟩ a b f t y) 53 (0, 0)) := by rw [hW1]; exact Cd.heap_new _ _
  have HB : Hid (Below w.heap.size w W1) := by rw [hW1]; exact (Below.refl _ _).alloc (Nat.le_refl _) _
  have c0 := cell_in hbx 0 rfl
  have c1 := cell_in hbx 1 rfl
  have HC : Hid (∀ W, Calls Tryz.prog 79 #[.string x] W fun e w' => e = .returned (.string (rootB x)) ∧ w' = W) := fun W => rroot_any x W hx
  have HR : Hid (WordV ⟨⟨#[82]⟩, a, b, f, t, y⟩ x = .tuple #[.string (rootB x), .bool true]) := by unfold Hid WordV wordA; simp
  clear hbx
  go_enter Tryz.func36, Tryz.ntmps36
  go_upto_region 1 with fail
  rw [← hW1]
  clear hW1
  go_wp2_with fail
  refine (HC.out _).mono ?_
  rintro e w2 ⟨rfl, rfl⟩
  generalize rootB x = r at HR ⊢
  go_wp2
  go_ret2
  exact ⟨by rw [HR.out]; rfl, HB.out⟩
set_option maxRecDepth 20000 in
set_option maxHeartbeats 1600000 in
theorem word_tl (a b : ByteArray) (f t y : Int) (x : ByteArray) (w : World) (hx : x.size ≤ 1000000) :
    Calls Tryz.prog 36 #[.agg (dmA ⟨#[116, 108]⟩ a b f t y), .string x] w fun e w' => e = .returned (WordV ⟨⟨#[116, 108]⟩, a, b, f, t, y⟩ x) ∧ Below w.heap.size w w' := by
  obtain ⟨W1, hW1⟩ : ∃ W1, W1 = w.alloc (.cells (dmA ⟨#[116, 108]⟩ a b f t y) 53) := ⟨_, rfl⟩
  have hbx : W1.heap[w.heap.size]? = some (.cells (dmA ⟨#[116, 108]⟩ a b f t y) 53 (0, 0)) := by rw [hW1]; exact Cd.heap_new _ _
  have HB : Hid (Below w.heap.size w W1) := by rw [hW1]; exact (Below.refl _ _).alloc (Nat.le_refl _) _
  have c0 := cell_in hbx 0 rfl
  have c1 := cell_in hbx 1 rfl
  have HC : Hid (∀ W, Calls Tryz.prog 80 #[.string x, .bool true] W fun e w' => e = .returned (.string (ba ((bl x).map (shiftC 65 97)))) ∧ Below W.heap.size W w') := fun W => cased_tl x W hx
  have HR : Hid (WordV ⟨⟨#[116, 108]⟩, a, b, f, t, y⟩ x = .tuple #[.string (ba ((bl x).map (shiftC 65 97))), .bool true]) := by unfold Hid WordV wordA; simp
  clear hbx
  go_enter Tryz.func36, Tryz.ntmps36
  go_upto_region 1 with fail
  rw [← hW1]
  clear hW1
  go_wp2_with fail
  refine (HC.out _).mono ?_
  rintro e w2 ⟨rfl, hb2⟩
  have HB2 : Hid (Below w.heap.size w w2) := HB.out.trans (hb2.mono HB.out.size)
  clear hb2
  generalize ba ((bl x).map (shiftC 65 97)) = r at HR ⊢
  go_wp2
  go_ret2
  exact ⟨by rw [HR.out]; rfl, HB2.out⟩
set_option maxRecDepth 20000 in
set_option maxHeartbeats 1600000 in
theorem word_tu (a b : ByteArray) (f t y : Int) (x : ByteArray) (w : World) (hx : x.size ≤ 1000000) :
    Calls Tryz.prog 36 #[.agg (dmA ⟨#[116, 117]⟩ a b f t y), .string x] w fun e w' => e = .returned (WordV ⟨⟨#[116, 117]⟩, a, b, f, t, y⟩ x) ∧ Below w.heap.size w w' := by
  obtain ⟨W1, hW1⟩ : ∃ W1, W1 = w.alloc (.cells (dmA ⟨#[116, 117]⟩ a b f t y) 53) := ⟨_, rfl⟩
  have hbx : W1.heap[w.heap.size]? = some (.cells (dmA ⟨#[116, 117]⟩ a b f t y) 53 (0, 0)) := by rw [hW1]; exact Cd.heap_new _ _
  have HB : Hid (Below w.heap.size w W1) := by rw [hW1]; exact (Below.refl _ _).alloc (Nat.le_refl _) _
  have c0 := cell_in hbx 0 rfl
  have c1 := cell_in hbx 1 rfl
  have HC : Hid (∀ W, Calls Tryz.prog 80 #[.string x, .bool false] W fun e w' => e = .returned (.string (ba ((bl x).map (shiftC 97 65)))) ∧ Below W.heap.size W w') := fun W => cased_tu x W hx
  have HR : Hid (WordV ⟨⟨#[116, 117]⟩, a, b, f, t, y⟩ x = .tuple #[.string (ba ((bl x).map (shiftC 97 65))), .bool true]) := by unfold Hid WordV wordA; simp
  clear hbx
  go_enter Tryz.func36, Tryz.ntmps36
  go_upto_region 1 with fail
  rw [← hW1]
  clear hW1
  go_wp2_with fail
  refine (HC.out _).mono ?_
  rintro e w2 ⟨rfl, hb2⟩
  have HB2 : Hid (Below w.heap.size w w2) := HB.out.trans (hb2.mono HB.out.size)
  clear hb2
  generalize ba ((bl x).map (shiftC 97 65)) = r at HR ⊢
  go_wp2
  go_ret2
  exact ⟨by rw [HR.out]; rfl, HB2.out⟩
set_option maxRecDepth 20000 in
set_option maxHeartbeats 1600000 in
theorem word_eq (a b : ByteArray) (f t y : Int) (x : ByteArray) (w : World) (ha : a.size ≤ 1000000) (hb : b.size ≤ 1000000) (hx : x.size ≤ 1000000) :
    Calls Tryz.prog 36 #[.agg (dmA ⟨#[61]⟩ a b f t y), .string x] w fun e w' => e = .returned (WordV ⟨⟨#[61]⟩, a, b, f, t, y⟩ x) ∧ Below w.heap.size w w' := by
  obtain ⟨W1, hW1⟩ : ∃ W1, W1 = w.alloc (.cells (dmA ⟨#[61]⟩ a b f t y) 53) := ⟨_, rfl⟩
  have hbx : W1.heap[w.heap.size]? = some (.cells (dmA ⟨#[61]⟩ a b f t y) 53 (0, 0)) := by rw [hW1]; exact Cd.heap_new _ _
  have HB : Hid (Below w.heap.size w W1) := by rw [hW1]; exact (Below.refl _ _).alloc (Nat.le_refl _) _
  have c0 := cell_in hbx 0 rfl
  have c1 := cell_in hbx 1 rfl
  have c2 := cell_in hbx 2 rfl
  have c3 := cell_in hbx 3 rfl
  have c4 := cell_in hbx 4 rfl
  have c5 := cell_in hbx 5 rfl
  have c6 := cell_in hbx 6 rfl
  have c7 := cell_in hbx 7 rfl
  have HC : Hid (∀ W, Calls Tryz.prog 81 #[.agg (dmA ⟨#[61]⟩ a b f t y), .string x] W fun e w' => e = .returned (.string (ba (sufA (bl a) (bl b) (bl x)))) ∧ Below W.heap.size W w') := fun W => suffixed_any _ a b f t y x W ha hb hx
  have HR : Hid (WordV ⟨⟨#[61]⟩, a, b, f, t, y⟩ x = .tuple #[.string (ba (sufA (bl a) (bl b) (bl x))), .bool true]) := by unfold Hid WordV wordA; simp
  clear hbx
  go_enter Tryz.func36, Tryz.ntmps36
  go_upto_region 1 with fail
  rw [← hW1]
  clear hW1
  go_wp2_with fail
  refine (HC.out _).mono ?_
  rintro e w2 ⟨rfl, hb2⟩
  have HB2 : Hid (Below w.heap.size w w2) := HB.out.trans (hb2.mono HB.out.size)
  clear hb2
  generalize ba (sufA (bl a) (bl b) (bl x)) = r at HR ⊢
  go_wp2
  go_ret2
  exact ⟨by rw [HR.out]; rfl, HB2.out⟩
def wordK (m : Dm) : Prop := m.kind = ⟨#[77]⟩ ∨ m.kind = ⟨#[78]⟩ ∨ m.kind = ⟨#[84]⟩ ∨ m.kind = ⟨#[72]⟩ ∨ m.kind = ⟨#[69]⟩ ∨ m.kind = ⟨#[82]⟩ ∨ m.kind = ⟨#[116, 108]⟩ ∨ m.kind = ⟨#[116, 117]⟩ ∨ m.kind = ⟨#[61]⟩
theorem word_any (m : Dm) (x : ByteArray) (w : World) (hk : wordK m) (ha : m.a.size ≤ 1000000) (hb : m.b.size ≤ 1000000) (hx : x.size ≤ 1000000) :
    Calls Tryz.prog 36 #[.agg m.cells, .string x] w fun e w' => e = .returned (WordV m x) ∧ Below w.heap.size w w' := by
  obtain ⟨kd, a, b, f, t, y⟩ := m
  unfold wordK at hk
  rcases hk with h | h | h | h | h | h | h | h | h
  · obtain rfl : kd = ⟨#[77]⟩ := h
    exact word_M a b f t y x w ha hx
  · obtain rfl : kd = ⟨#[78]⟩ := h
    exact word_N a b f t y x w ha hx
  · obtain rfl : kd = ⟨#[84]⟩ := h
    exact word_T a b f t y x w hx
  · obtain rfl : kd = ⟨#[72]⟩ := h
    exact word_H a b f t y x w hx
  · obtain rfl : kd = ⟨#[69]⟩ := h
    exact word_E a b f t y x w hx
  · obtain rfl : kd = ⟨#[82]⟩ := h
    exact word_R a b f t y x w hx
  · obtain rfl : kd = ⟨#[116, 108]⟩ := h
    exact word_tl a b f t y x w hx
  · obtain rfl : kd = ⟨#[116, 117]⟩ := h
    exact word_tu a b f t y x w hx
  · obtain rfl : kd = ⟨#[61]⟩ := h
    exact word_eq a b f t y x w ha hb hx
end Go.Proofs.YtpcpcfnmcfjomaaGreatDoor.DQ
namespace Go.Proofs.YtpcpcfnmcfjomaaGreatDoor.DQ
open Go.RowKit Go.Shelf
open WD (joined)
def dedupA : List ByteArray → List ByteArray
  | [] => []
  | [x] => [x]
  | x :: y :: l => if x = y then dedupA (y :: l) else x :: dedupA (y :: l)
def listA (m : Dm) (l : List ByteArray) : List ByteArray :=
  if m.kind = ⟨#[79]⟩ then sortA l
  else if m.kind = ⟨#[79, 114]⟩ then (sortA l).reverse
  else if m.kind = ⟨#[114]⟩ then l.reverse
  else if m.kind = ⟨#[81]⟩ then [ba (K.quote (bl (joined l)))]
  else if m.kind = ⟨#[91]⟩ then pickedA m l
  else if m.kind = ⟨#[117]⟩ then dedupA l
  else (l.filter fun x => (wordA m x).2).map fun x => (wordA m x).1
def pickOk (m : Dm) (l : List ByteArray) : Prop :=
  m.way = 35 ∨ (m.way = 42 ∧ (joined l).size ≤ 8000000) ∨ (m.way = 110 ∧ -10000000 ≤ m.frm ∧ m.frm ≤ 10000000) ∨ (m.way = 114 ∧ -10000000 ≤ m.frm ∧ m.frm ≤ 10000000 ∧ -10000000 ≤ m.upto ∧ m.upto ≤ 10000000)
theorem picked_any (m : Dm) (v : Value) (l : List ByteArray) (w : World) (hl : l.length ≤ 1000000) (hp : pickOk m l) (hv : Ws w.heap.size w v l) :
    Calls Tryz.prog 34 #[.agg (dmA m.kind m.a m.b m.frm m.upto m.way), v] w (ListPost w (pickedA m l)) := by
  obtain ⟨kd, a, b, f, t, y⟩ := m
  unfold pickOk at hp
  rcases hp with h | ⟨h, h1⟩ | ⟨h, h1, h2⟩ | ⟨h, h1, h2, h3, h4⟩
  · obtain rfl : y = 35 := h
    exact picked_count kd a b f t v l w hl hv
  · obtain rfl : y = 42 := h
    exact picked_join kd a b f t v l w hl h1 hv
  · obtain rfl : y = 110 := h
    exact picked_one kd a b f t v l w hl h1 h2 hv
  · obtain rfl : y = 114 := h
    exact picked_two kd a b f t v l w hl h1 h2 h3 h4 hv
set_option maxRecDepth 20000 in
set_option maxHeartbeats 1600000 in
theorem list_O (a b : ByteArray) (f t y : Int) (v : Value) (l : List ByteArray) (w : World) (hl : l.length ≤ 1000000) (hv : Ws w.heap.size w v l) :
    Calls Tryz.prog 18 #[.agg (dmA ⟨#[79]⟩ a b f t y), v] w (ListPost w (listA ⟨⟨#[79]⟩, a, b, f, t, y⟩ l)) := by
  obtain ⟨W1, hW1⟩ : ∃ W1, W1 = w.alloc (.cells (dmA ⟨#[79]⟩ a b f t y) 53) := ⟨_, rfl⟩
  have hbx : W1.heap[w.heap.size]? = some (.cells (dmA ⟨#[79]⟩ a b f t y) 53 (0, 0)) := by rw [hW1]; exact Cd.heap_new _ _
  have HB : Hid (Below w.heap.size w W1) := by rw [hW1]; exact (Below.refl _ _).alloc (Nat.le_refl _) _
  have c0 := cell_in hbx 0 rfl
  have HV : Hid (Ws W1.heap.size W1 v l) := hv.on HB.out
  have HC : Hid (∀ W v, Ws W.heap.size W v l → Calls Tryz.prog 30 #[v] W (ListPost W (sortA l))) := fun W v h => sorted_any l v W hl h
  have HR : Hid (listA ⟨⟨#[79]⟩, a, b, f, t, y⟩ l = sortA l) := by unfold Hid listA; simp
  clear hv hl hbx
  go_enter Tryz.func18, Tryz.ntmps18
  go_upto_region 1 with fail
  rw [← hW1]
  clear hW1
  go_wp2_with fail
  refine (HC.out _ _ HV.out).mono ?_
  rintro e w2 ⟨v2, rfl, hw2, hb2⟩
  have H2 : Hid (Ws w2.heap.size w2 v2 (sortA l) ∧ Below w.heap.size w w2) := ⟨hw2, bt3 HB.out hb2⟩
  clear hw2 hb2
  go_wp2
  go_ret
  exact ⟨_, rfl, by rw [HR.out]; exact H2.out.1, H2.out.2⟩
set_option maxRecDepth 20000 in
set_option maxHeartbeats 1600000 in
theorem list_r (a b : ByteArray) (f t y : Int) (v : Value) (l : List ByteArray) (w : World) (hl : l.length ≤ 1000000) (hv : Ws w.heap.size w v l) :
    Calls Tryz.prog 18 #[.agg (dmA ⟨#[114]⟩ a b f t y), v] w (ListPost w (listA ⟨⟨#[114]⟩, a, b, f, t, y⟩ l)) := by
  obtain ⟨W1, hW1⟩ : ∃ W1, W1 = w.alloc (.cells (dmA ⟨#[114]⟩ a b f t y) 53) := ⟨_, rfl⟩
  have hbx : W1.heap[w.heap.size]? = some (.cells (dmA ⟨#[114]⟩ a b f t y) 53 (0, 0)) := by rw [hW1]; exact Cd.heap_new _ _
  have HB : Hid (Below w.heap.size w W1) := by rw [hW1]; exact (Below.refl _ _).alloc (Nat.le_refl _) _
  have c0 := cell_in hbx 0 rfl
  have HV : Hid (Ws W1.heap.size W1 v l) := hv.on HB.out
  have HC : Hid (∀ W v, Ws W.heap.size W v l → Calls Tryz.prog 31 #[v] W (ListPost W (l.reverse))) := fun W v h => by obtain ⟨a, c, rfl, h1, h3⟩ := h; exact turned_any _ _ _ _ _ ⟨a, c, rfl, h1, h3⟩ hl
  have HR : Hid (listA ⟨⟨#[114]⟩, a, b, f, t, y⟩ l = l.reverse) := by unfold Hid listA; simp
  clear hv hl hbx
  go_enter Tryz.func18, Tryz.ntmps18
  go_upto_region 1 with fail
  rw [← hW1]
  clear hW1
  go_wp2_with fail
  refine (HC.out _ _ HV.out).mono ?_
  rintro e w2 ⟨v2, rfl, hw2, hb2⟩
  have H2 : Hid (Ws w2.heap.size w2 v2 (l.reverse) ∧ Below w.heap.size w w2) := ⟨hw2, bt3 HB.out hb2⟩
  clear hw2 hb2
  go_wp2
  go_ret
  exact ⟨_, rfl, by rw [HR.out]; exact H2.out.1, H2.out.2⟩
set_option maxRecDepth 20000 in
set_option maxHeartbeats 1600000 in
theorem list_Or (a b : ByteArray) (f t y : Int) (v : Value) (l : List ByteArray) (w : World) (hl : l.length ≤ 1000000) (hv : Ws w.heap.size w v l) :
    Calls Tryz.prog 18 #[.agg (dmA ⟨#[79, 114]⟩ a b f t y), v] w (ListPost w (listA ⟨⟨#[79, 114]⟩, a, b, f, t, y⟩ l)) := by
  obtain ⟨W1, hW1⟩ : ∃ W1, W1 = w.alloc (.cells (dmA ⟨#[79, 114]⟩ a b f t y) 53) := ⟨_, rfl⟩
  have hbx : W1.heap[w.heap.size]? = some (.cells (dmA ⟨#[79, 114]⟩ a b f t y) 53 (0, 0)) := by rw [hW1]; exact Cd.heap_new _ _
  have HB : Hid (Below w.heap.size w W1) := by rw [hW1]; exact (Below.refl _ _).alloc (Nat.le_refl _) _
  have c0 := cell_in hbx 0 rfl
  have HV : Hid (Ws W1.heap.size W1 v l) := hv.on HB.out
  have HC : Hid (∀ W v, Ws W.heap.size W v l → Calls Tryz.prog 30 #[v] W (ListPost W (sortA l))) := fun W v h => sorted_any l v W hl h
  have HT : Hid (∀ W v l, Ws W.heap.size W v l → l.length ≤ 1000000 → Calls Tryz.prog 31 #[v] W (ListPost W l.reverse)) := fun W v l h hl => by obtain ⟨a, c, rfl, h1, h3⟩ := h; exact turned_any _ _ _ _ _ ⟨a, c, rfl, h1, h3⟩ hl
  have HL : Hid ((sortA l).length ≤ 1000000) := by unfold Hid; rw [show (sortA l).length = l.length from sort_len _ _]; exact hl
  have HR : Hid (listA ⟨⟨#[79, 114]⟩, a, b, f, t, y⟩ l = (sortA l).reverse) := by unfold Hid listA; simp
  clear hv hl hbx
  go_enter Tryz.func18, Tryz.ntmps18
  go_upto_region 1 with fail
  rw [← hW1]
  clear hW1
  go_wp2_with fail
  refine (HC.out _ _ HV.out).mono ?_
  rintro e w2 ⟨v2, rfl, hw2, hb2⟩
  have H2 : Hid (Ws w2.heap.size w2 v2 (sortA l) ∧ Below w.heap.size w w2) := ⟨hw2, bt3 HB.out hb2⟩
  clear hw2 hb2
  go_wp2_with fail
  refine (HT.out _ _ _ H2.out.1 HL.out).mono ?_
  rintro e w3 ⟨v3, rfl, hw3, hb3⟩
  have H3 : Hid (Ws w3.heap.size w3 v3 (sortA l).reverse ∧ Below w.heap.size w w3) := ⟨hw3, bt3 H2.out.2 hb3⟩
  clear hw3 hb3
  go_wp2
  go_ret
  exact ⟨_, rfl, by rw [HR.out]; exact H3.out.1, H3.out.2⟩
set_option maxRecDepth 20000 in
set_option maxHeartbeats 1600000 in
theorem list_Q (a b : ByteArray) (f t y : Int) (v : Value) (l : List ByteArray) (w : World) (hl : l.length ≤ 1000000) (hj : (joined l).size ≤ 2000000) (hv : Ws w.heap.size w v l) :
    Calls Tryz.prog 18 #[.agg (dmA ⟨#[81]⟩ a b f t y), v] w (ListPost w (listA ⟨⟨#[81]⟩, a, b, f, t, y⟩ l)) := by
  obtain ⟨W1, hW1⟩ : ∃ W1, W1 = w.alloc (.cells (dmA ⟨#[81]⟩ a b f t y) 53) := ⟨_, rfl⟩
  have hbx : W1.heap[w.heap.size]? = some (.cells (dmA ⟨#[81]⟩ a b f t y) 53 (0, 0)) := by rw [hW1]; exact Cd.heap_new _ _
  have HB : Hid (Below w.heap.size w W1) := by rw [hW1]; exact (Below.refl _ _).alloc (Nat.le_refl _) _
  have c0 := cell_in hbx 0 rfl
  have HV : Hid (Ws W1.heap.size W1 v l) := hv.on HB.out
  have HJ : Hid (∀ W v, Ws W.heap.size W v l → Calls Tryz.prog 33 #[v] W fun e w' => e = .returned (.string (joined l)) ∧ Below W.heap.size W w') := fun W v h => by
    obtain ⟨a, c, rfl, h1, h3⟩ := h
    exact rjoin_any _ _ _ l W (by omega) (by omega) (Ws.words ⟨a, c, rfl, h1, h3⟩)
  have HQ : Hid (∀ W, Calls Tryz.prog 32 #[.string (joined l)] W fun e w' => e = .returned (.string (ba (K.quote (bl (joined l))))) ∧ Below W.heap.size W w') := fun W => rquote_any _ W hj
  have HR : Hid (listA ⟨⟨#[81]⟩, a, b, f, t, y⟩ l = [ba (K.quote (bl (joined l)))]) := by unfold Hid listA; simp
  clear hv hl hbx hj
  go_enter Tryz.func18, Tryz.ntmps18
  go_upto_region 1 with fail
  rw [← hW1]
  clear hW1
  go_wp2_with fail
  refine (HJ.out _ _ HV.out).mono ?_
  rintro e w2 ⟨rfl, hb2⟩
  have HB2 : Hid (Below w.heap.size w w2) := bt3 HB.out hb2
  clear hb2
  generalize joined l = r at HQ HR HJ ⊢
  go_wp2_with fail
  refine (HQ.out _).mono ?_
  rintro e w3 ⟨rfl, hb3⟩
  have HB3 : Hid (Below w.heap.size w w3) := bt3 HB2.out hb3
  clear hb3
  generalize ba (K.quote (bl r)) = q at HQ HR ⊢
  go_wp2
  go_ret
  exact ⟨_, rfl, by rw [HR.out]; exact ws_one w3 q, HB3.out.alloc HB3.out.size _⟩
set_option maxRecDepth 20000 in
set_option maxHeartbeats 1600000 in
theorem list_pick (a b : ByteArray) (f t y : Int) (v : Value) (l : List ByteArray) (w : World) (hl : l.length ≤ 1000000) (hp : pickOk ⟨⟨#[91]⟩, a, b, f, t, y⟩ l) (hv : Ws w.heap.size w v l) :
    Calls Tryz.prog 18 #[.agg (dmA ⟨#[91]⟩ a b f t y), v] w (ListPost w (listA ⟨⟨#[91]⟩, a, b, f, t, y⟩ l)) := by
  obtain ⟨W1, hW1⟩ : ∃ W1, W1 = w.alloc (.cells (dmA ⟨#[91]⟩ a b f t y) 53) := ⟨_, rfl⟩
  have hbx : W1.heap[w.heap.size]? = some (.cells (dmA ⟨#[91]⟩ a b f t y) 53 (0, 0)) := by rw [hW1]; exact Cd.heap_new _ _
  have HB : Hid (Below w.heap.size w W1) := by rw [hW1]; exact (Below.refl _ _).alloc (Nat.le_refl _) _
  have c0 := cell_in hbx 0 rfl
  have HV : Hid (Ws W1.heap.size W1 v l) := hv.on HB.out
  have c1 := cell_in hbx 1 rfl
  have c2 := cell_in hbx 2 rfl
  have c3 := cell_in hbx 3 rfl
  have c4 := cell_in hbx 4 rfl
  have c5 := cell_in hbx 5 rfl
  have c6 := cell_in hbx 6 rfl
  have c7 := cell_in hbx 7 rfl
  have HC : Hid (∀ W v, Ws W.heap.size W v l → Calls Tryz.prog 34 #[.agg (dmA ⟨#[91]⟩ a b f t y), v] W (ListPost W (pickedA ⟨⟨#[91]⟩, a, b, f, t, y⟩ l))) := fun W v h => picked_any _ v l W hl hp h
  have HR : Hid (listA ⟨⟨#[91]⟩, a, b, f, t, y⟩ l = pickedA ⟨⟨#[91]⟩, a, b, f, t, y⟩ l) := by unfold Hid listA; simp
  clear hv hl hp hbx
  go_enter Tryz.func18, Tryz.ntmps18
  go_upto_region 1 with fail
  rw [← hW1]
  clear hW1
  go_wp2_with fail
  refine (HC.out _ _ HV.out).mono ?_
  rintro e w2 ⟨v2, rfl, hw2, hb2⟩
  have H2 : Hid (Ws w2.heap.size w2 v2 (pickedA ⟨⟨#[91]⟩, a, b, f, t, y⟩ l) ∧ Below w.heap.size w w2) := ⟨hw2, bt3 HB.out hb2⟩
  clear hw2 hb2
  go_wp2
  go_ret
  exact ⟨_, rfl, by rw [HR.out]; exact H2.out.1, H2.out.2⟩
end Go.Proofs.YtpcpcfnmcfjomaaGreatDoor.DQ
namespace Go.Proofs.YtpcpcfnmcfjomaaGreatDoor
open Go.RowKit Go.Shelf
abbrev ActF := Bool → ByteArray → List ByteArray → Option (Bool × Option ByteArray)
def Stp (base b : Nat) (m : Md) (v : Value) (made : List ByteArray) (r : Option (Bool × Option ByteArray)) (w w' : World) : Prop :=
  match r with
  | none => (∃ v' l d, Wk base b m v' l true d w') ∧ Went b v w w'
  | some r => Step base b m v made r.1 r.2 w w'
def foldA (act : ActF) : List ByteArray → Bool → List ByteArray → Option (List ByteArray)
  | made, _, [] => some made
  | made, done, x :: t => match act done x made with
    | none => none
    | some (d, none) => foldA act made d t
    | some (d, some y) => if y.size + sizeL made ≤ 65536 then foldA act (made ++ [y]) d t else none
def Does (m : Md) (f : Nat) (act : ActF) : Prop := ∀ base b v made done x W, Wk base b m v made false done W → x.size ≤ 1000000 → sizeL made ≤ 65536 → made.length ≤ 100000 → Mx W → 0 < b → 0 < base →
  Calls Tryz.prog f #[.pointer (some ⟨b, 0, none⟩), .string x] W fun e w' => e = .returned (.tuple #[]) ∧ Stp base b m v made (act done x made) W w'
theorem went_below {B b : Nat} {v : Value} {w w1 w2 : World} (h : Below B w w1) (hB : B ≤ w.heap.size) (hg : Went b v w1 w2) (hb : B ≤ b) (hv : ∀ j, v.ownBlock = some j → B ≤ j) : Below B w w2 :=
  ⟨hg.os.trans h.os, hg.tape.trans h.tape, hg.output.trans h.output, Nat.le_trans h.size hg.size, fun j hj => (hg.block j (by have := h.size; omega) (by omega) (fun e => by have := hv j e; omega)).trans (h.block j hj)⟩
theorem Stp.next {base b : Nat} {m : Md} {v : Value} {made : List ByteArray} {act : ActF} {done : Bool} {x : ByteArray} {t : List ByteArray} {w w' : World} (h : Stp base b m v made (act done x made) w w') (hs : sizeL made ≤ 65536) :
    Went b v w w' ∧ (((∃ v' l d, Wk base b m v' l true d w') ∧ foldA act made done (x :: t) = none) ∨ ∃ v' l d, Wk base b m v' l false d w' ∧ sizeL l ≤ 65536 ∧ l.length ≤ made.length + 1 ∧ foldA act made done (x :: t) = foldA act l d t) := by
  have hf : foldA act made done (x :: t) = match act done x made with
    | none => none
    | some (d, none) => foldA act made d t
    | some (d, some y) => if y.size + sizeL made ≤ 65536 then foldA act (made ++ [y]) d t else none := by rw [foldA]
  rw [hf]
  cases hr : act done x made with
  | none => rw [hr] at h; exact ⟨h.2, .inl ⟨h.1, rfl⟩⟩
  | some r =>
    obtain ⟨d, y⟩ := r
    rw [hr] at h
    obtain ⟨⟨v', h1, h2⟩, h3⟩ := h
    refine ⟨h3, ?_⟩
    cases y with
    | none => exact .inr ⟨v', made, d, h1, hs, Nat.le_succ _, rfl⟩
    | some y =>
      dsimp only at h1 ⊢
      split at h1
      · rename_i hle
        exact .inr ⟨v', made ++ [y], d, h1, by rw [sizeL_snoc]; omega, by simp, if_pos hle⟩
      · rename_i hle
        exact .inl ⟨⟨v', made, d, h1⟩, if_neg hle⟩
theorem heap_alloc_new' {w : World} {A B : Obj} : ((w.alloc A).alloc B).heap[w.heap.size + 1]? = some B := by
  have := heap_alloc_new (w.alloc A) B
  simpa using this
theorem fn_neq (fn : Fn) (xs : Array Value) (W : World) : Sem.run Tryz.prog (binOp .neq 65 (.func fn xs #[]) .nilFunc) W = .ok (.bool true) W := by kernel_rfl
theorem nil_neq (W : World) : Sem.run Tryz.prog (binOp .neq 65 .nilFunc .nilFunc) W = .ok (.bool false) W := by kernel_rfl
def ApplyPost (w : World) (r : Option (List ByteArray)) (e : Ending) (w' : World) : Prop :=
  Below w.heap.size w w' ∧ match r with
  | none => e = .returned (.tuple #[.slice none 0 0, .bool false])
  | some l => ∃ v', e = .returned (.tuple #[v', .bool true]) ∧ w'.ownsRow w.heap.size 9 1 v' l.length (l.map Value.string)
end Go.Proofs.YtpcpcfnmcfjomaaGreatDoor
