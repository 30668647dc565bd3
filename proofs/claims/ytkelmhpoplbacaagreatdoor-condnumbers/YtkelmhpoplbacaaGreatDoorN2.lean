/-
  What the library's ParseInt does at a minus and digits that are all of the base (10 or 16), at 63 bits; and the public one.
-/
import Derived.Test.YtkelmhpoplbacaaGreatDoorN1
import Derived.Test.YtkelmhpoplbacaaGreatDoorShelf
import Derived.Lib.IfaceNeq
namespace Go.Proofs.YtkelmhpoplbacaaGreatDoor.N
open Go.RowKit Go.Shelf Go.Proofs.YtkelmhpoplbacaaGreatDoor

theorem bytesWorld_below (w : World) (e : TypeId) (t : ByteArray) : Below w.heap.size w (Lib.bytesWorld w e t) := by
  exact ⟨rfl, rfl, rfl, by rw [Lib.bytesWorld_size]; omega, fun j hj => Lib.bytesWorld_at_old w e t j hj⟩

/-- What the inner ParseInt hands back. -/
def piV (v : Nat) : Value := if v ≤ most then .tuple #[.int .i64 (-(v : Int)), .nilIface] else .tuple #[.int .i64 (-4611686018427387904), .iface 229 (.int .i64 1)]
theorem piV_in {v : Nat} (h : v ≤ most) : piV v = .tuple #[.int .i64 (-(v : Int)), .nilIface] := by unfold piV; rw [if_pos h]
theorem piV_over {v : Nat} (h : ¬ v ≤ most) : piV v = .tuple #[.int .i64 (-4611686018427387904), .iface 229 (.int .i64 1)] := by unfold piV; rw [if_neg h]

theorem minus_slice (s t : ByteArray) (hs : bl s = 45 :: bl t) : s.extract 1 s.size = t := by
  apply bl_inj
  rw [bl_extract, hs]
  have : s.size = (bl t).length + 1 := by rw [← bl_length, hs]; rfl
  rw [this]
  simp
theorem minus_head (s t : ByteArray) (hs : bl s = 45 :: bl t) (h : 0 < s.size) : s[0].toNat = 45 := by
  have := bl_get s 0 h
  rw [hs] at this
  simp only [List.getElem?_cons_zero, Option.some.injEq] at this
  rw [← this]; rfl

set_option maxHeartbeats 600000 in
set_option maxRecDepth 100000 in
theorem pint10 (s t : ByteArray) (hs : bl s = 45 :: bl t) (hok : okD 10 (bl t) = true) (hmax : t.size ≤ 9223372036854775800) (w : World) :
    Calls Tryz.prog 120 #[.string s, .int .i64 10, .int .i64 63] w fun e w' => e = .returned (piV (numV 10 0 (bl t))) ∧ Below w.heap.size w w' := by
  have hsl := minus_slice s t hs
  have hsz : s.size = t.size + 1 := by rw [← bl_length, ← bl_length, hs]; rfl
  have hpos : 0 < s.size := by omega
  have h0 : s[0].toNat = 45 := minus_head s t hs hpos
  have hemp : s.toList.isEmpty = false := nonempty (by rw [hs]; simp)
  have hq1 : ∀ W, (binOp .neq 179 (.iface 229 (.int .i64 1)) (.iface 229 (.int .i64 1))).run Tryz.prog W = .ok (.bool false) W := fun W => Lib.run_neq_iface_int W 1 1 Tryz.underlying179 (by kernel_rfl) Tryz.underlying229
  have hmin : wrap64 (-wrap64 4611686018427387904) = -4611686018427387904 := by
    unfold wrap64
    omega
  have HU : Hid (Calls Tryz.prog 144 #[.string t, .int .i64 10, .int .i64 63] w fun e w' => e = .returned (puV (numV 10 0 (bl t))) ∧ Below w.heap.size w w') :=
    (puint10 t hok (by omega) w).mono fun e w' h => ⟨h.1, by rw [h.2]; exact bytesWorld_below _ _ _⟩
  generalize numV 10 0 (bl t) = v at HU ⊢
  clear hs hok
  rw [← hsl] at HU
  have hsm : s.size ≤ 9223372036854775802 := by omega
  clear hsl hsz hmax
  by_cases h1 : v < 9223372036854775808
  · obtain ⟨a, ha⟩ : ∃ a : Int, a = (v : Int) := ⟨_, rfl⟩
    rw [puV_in h1, ← ha] at HU
    have a0 : 0 ≤ a := by omega
    have a1 : a < 9223372036854775808 := by omega
    by_cases h2 : v ≤ most
    · have HR : Hid (piV v = .tuple #[.int .i64 (-a), .nilIface]) := by unfold Hid; rw [ha]; exact piV_in h2
      have a2 : a ≤ 4611686018427387904 := by unfold most at h2; omega
      have hwn : wrap64 (-wrap64 a) = -a := by
        unfold wrap64
        omega
      clear h1 h2 ha
      go_enter Tryz.func120, Tryz.ntmps120
      go_wp2_with fail
      refine HU.out.mono ?_
      rintro e w1 ⟨rfl, hw1⟩
      go_wp2
      go_ret2
      refine ⟨?_, hw1⟩
      rw [HR.out]
      first | rfl | (simp only [hwn]; rfl)
    · have HR : Hid (piV v = _) := piV_over h2
      have a2 : 4611686018427387904 < a := by unfold most at h2; omega
      clear h1 h2 ha
      go_enter Tryz.func120, Tryz.ntmps120
      go_wp2_with fail
      refine HU.out.mono ?_
      rintro e w1 ⟨rfl, hw1⟩
      go_wp2
      go_ret2
      refine ⟨?_, hw1⟩
      rw [HR.out]
      first | rfl | (simp only [hmin]; rfl)
  · rw [puV_over (by omega)] at HU
    have HR : Hid (piV v = _) := piV_over (v := v) (by unfold most; omega)
    clear h1
    go_enter Tryz.func120, Tryz.ntmps120
    go_wp2_with fail
    refine HU.out.mono ?_
    rintro e w1 ⟨rfl, hw1⟩
    go_wp2
    go_ret2
    refine ⟨?_, hw1⟩
    rw [HR.out]
    first | rfl | (simp only [hmin]; rfl)

set_option maxHeartbeats 600000 in
set_option maxRecDepth 100000 in
theorem pint16 (s t : ByteArray) (hs : bl s = 45 :: bl t) (hok : okD 16 (bl t) = true) (hmax : t.size ≤ 9223372036854775800) (w : World) :
    Calls Tryz.prog 120 #[.string s, .int .i64 16, .int .i64 63] w fun e w' => e = .returned (piV (numV 16 0 (bl t))) ∧ Below w.heap.size w w' := by
  have hsl := minus_slice s t hs
  have hsz : s.size = t.size + 1 := by rw [← bl_length, ← bl_length, hs]; rfl
  have hpos : 0 < s.size := by omega
  have h0 : s[0].toNat = 45 := minus_head s t hs hpos
  have hemp : s.toList.isEmpty = false := nonempty (by rw [hs]; simp)
  have hq1 : ∀ W, (binOp .neq 179 (.iface 229 (.int .i64 1)) (.iface 229 (.int .i64 1))).run Tryz.prog W = .ok (.bool false) W := fun W => Lib.run_neq_iface_int W 1 1 Tryz.underlying179 (by kernel_rfl) Tryz.underlying229
  have hmin : wrap64 (-wrap64 4611686018427387904) = -4611686018427387904 := by
    unfold wrap64
    omega
  have HU : Hid (Calls Tryz.prog 144 #[.string t, .int .i64 16, .int .i64 63] w fun e w' => e = .returned (puV (numV 16 0 (bl t))) ∧ Below w.heap.size w w') :=
    (puint16 t hok (by omega) w).mono fun e w' h => ⟨h.1, by rw [h.2]; exact bytesWorld_below _ _ _⟩
  generalize numV 16 0 (bl t) = v at HU ⊢
  clear hs hok
  rw [← hsl] at HU
  have hsm : s.size ≤ 9223372036854775802 := by omega
  clear hsl hsz hmax
  by_cases h1 : v < 9223372036854775808
  · obtain ⟨a, ha⟩ : ∃ a : Int, a = (v : Int) := ⟨_, rfl⟩
    rw [puV_in h1, ← ha] at HU
    have a0 : 0 ≤ a := by omega
    have a1 : a < 9223372036854775808 := by omega
    by_cases h2 : v ≤ most
    · have HR : Hid (piV v = .tuple #[.int .i64 (-a), .nilIface]) := by unfold Hid; rw [ha]; exact piV_in h2
      have a2 : a ≤ 4611686018427387904 := by unfold most at h2; omega
      have hwn : wrap64 (-wrap64 a) = -a := by
        unfold wrap64
        omega
      clear h1 h2 ha
      go_enter Tryz.func120, Tryz.ntmps120
      go_wp2_with fail
      refine HU.out.mono ?_
      rintro e w1 ⟨rfl, hw1⟩
      go_wp2
      go_ret2
      refine ⟨?_, hw1⟩
      rw [HR.out]
      first | rfl | (simp only [hwn]; rfl)
    · have HR : Hid (piV v = _) := piV_over h2
      have a2 : 4611686018427387904 < a := by unfold most at h2; omega
      clear h1 h2 ha
      go_enter Tryz.func120, Tryz.ntmps120
      go_wp2_with fail
      refine HU.out.mono ?_
      rintro e w1 ⟨rfl, hw1⟩
      go_wp2
      go_ret2
      refine ⟨?_, hw1⟩
      rw [HR.out]
      first | rfl | (simp only [hmin]; rfl)
  · rw [puV_over (by omega)] at HU
    have HR : Hid (piV v = _) := piV_over (v := v) (by unfold most; omega)
    clear h1
    go_enter Tryz.func120, Tryz.ntmps120
    go_wp2_with fail
    refine HU.out.mono ?_
    rintro e w1 ⟨rfl, hw1⟩
    go_wp2
    go_ret2
    refine ⟨?_, hw1⟩
    rw [HR.out]
    first | rfl | (simp only [hmin]; rfl)

def bPI : ByteArray := ⟨#[80, 97, 114, 115, 101, 73, 110, 116]⟩
/-- What the public ParseInt answers at a minus and v: the number; or an error that wraps ev. -/
def PubPost (v : Nat) (ev : Value) (w : World) (e : Ending) (w' : World) : Prop :=
  Below w.heap.size w w' ∧ ((v ≤ most ∧ e = .returned (.tuple #[.int .i64 (-(v : Int)), .nilIface])) ∨
    (¬ v ≤ most ∧ ∃ (g : Nat) (x y : Value), e = .returned (.tuple #[.int .i64 (-4611686018427387904), .iface 234 (.pointer (some ⟨g, 0, none⟩))]) ∧ w.heap.size ≤ g ∧ w'.heap[g]? = some (.cells #[x, y, ev] 266 (0, 0))))

set_option maxHeartbeats 1000000 in
set_option maxRecDepth 100000 in
theorem pub_any (b : Int) (s : ByteArray) (v : Nat) (ev : Value) (w : World) (hsz : s.size ≤ 281474976710656) (hv : w.cell? ⟨0, 0, none⟩ = some ev) (hev : ev = .nilIface ∨ ∃ te pe, ev = .iface te pe)
    (HP : Hid (Calls Tryz.prog 120 #[.string s, .int .i64 b, .int .i64 63] w fun e w' => e = .returned (piV v) ∧ Below w.heap.size w w')) :
    Calls Tryz.prog 94 #[.string s, .int .i64 b, .int .i64 63] w fun e w' => PubPost v ev w e w' := by
  by_cases h : v ≤ most
  · rw [piV_in h] at HP
    go_enter Tryz.func94, Tryz.ntmps94
    go_wp2_with fail
    refine HP.out.mono ?_
    rintro e w1 ⟨rfl, hw1⟩
    go_wp2
    go_ret2
    exact ⟨hw1, .inl ⟨h, rfl⟩⟩
  · rw [piV_over h] at HP
    have HT : Hid (∀ w1 : World, w1.cell? ⟨0, 0, none⟩ = some ev → Calls Tryz.prog 121 #[.string bPI, .string s, .int .i64 b, .int .i64 63, .iface 229 (.int .i64 1)] w1 fun e w' => ∃ N, e = .returned (.iface 234 (.pointer (some ⟨N, 0, none⟩))) ∧ w1.heap.size ≤ N ∧ w'.heap[N]? = some (.cells #[.string bPI, .string s, ev] 266 (0, 0)) ∧ Below w1.heap.size w1 w') :=
      fun w1 h1 => Tryz.strconv_toError_range bPI s b 63 ev w1 hsz h1 hev
    have hs0 : 0 < w.heap.size := by
      rcases Nat.eq_zero_or_pos w.heap.size with h0 | h0
      · exfalso
        simp [World.cell?, Array.getElem?_eq_none (show w.heap.size ≤ 0 by omega)] at hv
      · exact h0
    unfold bPI at HT
    go_enter Tryz.func94, Tryz.ntmps94
    go_wp2_with fail
    refine HP.out.mono ?_
    rintro e w1 ⟨rfl, hw1⟩
    have hv1 : w1.cell? ⟨0, 0, none⟩ = some ev := by rw [← hv]; exact hw1.cell hs0
    have HB : Hid (Below w.heap.size w w1) := hw1
    clear hw1 HP hv
    go_wp2_with fail
    refine (HT.out _ hv1).mono ?_
    rintro e w2 ⟨g, rfl, hg, hgg, hw2⟩
    go_wp2
    go_ret2
    refine ⟨HB.out.trans (hw2.mono HB.out.size), .inr ⟨h, g, _, _, rfl, Nat.le_trans HB.out.size hg, hgg⟩⟩
end Go.Proofs.YtkelmhpoplbacaaGreatDoor.N
