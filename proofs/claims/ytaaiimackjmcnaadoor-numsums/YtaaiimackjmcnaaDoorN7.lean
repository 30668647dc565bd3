/-
  What alive does, and the three statements that ask nothing of the document's own package.
-/
import Derived.Test.YtaaiimackjmcnaaDoorN6
import Derived.Deep.RegionHeld3
import Derived.Deep.RegionWith
namespace Go.Proofs.YtaaiimackjmcnaaDoor.N
open Go.RowKit Go.Shelf Go.Sort

/-- What holds all along: what the calls lean on, and that of what was there nothing has turned. -/
def J (a : Addr) (w0 W : World) : Prop := Gw a W ∧ Below w0.heap.size w0 W
theorem J.start {a : Addr} {w : World} (h : Gw a w) : J a w w := ⟨h, Below.refl _ _⟩
theorem J.go {a : Addr} {w0 W W' : World} (h : J a w0 W) (hb : Below W.heap.size W W') : J a w0 W' := ⟨h.1.below hb, h.2.trans (hb.mono h.2.size)⟩
theorem J.drew {a : Addr} {w0 W : World} (h : J a w0 W) : J a w0 W.drew := h.go ((Below.refl _ _).drew)

theorem jparse (a : Addr) (w0 : World) (s : ByteArray) (hs : s.size ≤ 140737488355328) (W : World) (h : J a w0 W) :
    Calls Tryd.prog 9 #[.string s] W fun e w' => e = .returned (.tuple #[.int .i64 (parseG (bl s)).1, .int .i64 (parseG (bl s)).2]) ∧ J a w0 w' :=
  (parse_any s a W h.1.1 hs).mono fun _ _ r => ⟨r.1, h.go r.2⟩
theorem jorder (a : Addr) (w0 : World) (s t : ByteArray) (hs : s.size ≤ 140737488355328) (ht : t.size ≤ 140737488355328) (W : World) (h : J a w0 W) :
    Calls Tryd.prog 17 #[.string s, .string t] W fun e w' => e = .returned (.int .i64 (orderG (bl s) (bl t))) ∧ J a w0 w' :=
  (order_any s t a W h.1.1 hs ht).mono fun _ _ r => ⟨r.1, h.go r.2⟩
theorem jcompare (a : Addr) (w0 : World) (s t : ByteArray) (hs : s.size ≤ 140737488355328) (ht : t.size ≤ 140737488355328) (W : World) (h : J a w0 W) :
    Calls Tryd.prog 15 #[.string s, .string t] W fun e w' => e = .returned (.tuple #[.int .i64 (cmpG (bl s) (bl t)).1, .int .i64 (cmpG (bl s) (bl t)).2]) ∧ J a w0 w' :=
  (compare_any s t a W h.1.1 hs ht).mono fun _ _ r => ⟨r.1, h.go r.2⟩
theorem jformat (a : Addr) (w0 : World) (n : Int) (h0 : -9223372036854775808 ≤ n) (h1 : n ≤ 9223372036854775807) (W : World) (h : J a w0 W) :
    Calls Tryd.prog 12 #[.int .i64 n] W fun e w' => e = .returned (.string (ba (Lib.itoa n))) ∧ J a w0 w' :=
  (format_any n h0 h1 W h.1.2).mono fun _ _ r => ⟨r.1, h.go r.2⟩

theorem fix1 : parseG (bl (⟨#[45, 48, 120, 49, 70]⟩ : ByteArray)) = (-31, 0) := by decide +kernel
theorem fix2 : orderG (bl (⟨#[49, 48]⟩ : ByteArray)) (bl (⟨#[57]⟩ : ByteArray)) = 1 := by decide +kernel
theorem fix3 : orderG (bl (⟨#[120, 49, 48]⟩ : ByteArray)) (bl (⟨#[120, 57]⟩ : ByteArray)) = -1 := by decide +kernel
theorem fix4 : ba (Lib.itoa (-5)) = ⟨#[45, 53]⟩ := by
  unfold Lib.itoa
  rw [if_pos (by decide), show ((-5 : Int)).natAbs = 5 from rfl, Lib.decDigits_one (by decide)]
  rfl

set_option maxHeartbeats 1000000 in
set_option maxRecDepth 20000 in
theorem jalive (a : Addr) (w0 W : World) (h : J a w0 W) :
    Calls Tryd.prog 14 #[] W fun e w' => e = .returned (.bool true) ∧ J a w0 w' := by
  have H1 : Hid (∀ W, J a w0 W → Calls Tryd.prog 9 #[.string ⟨#[45, 48, 120, 49, 70]⟩] W fun e w' => e = .returned (.tuple #[.int .i64 (-31), .int .i64 0]) ∧ J a w0 w') := fun W h => by
    have := jparse a w0 ⟨#[45, 48, 120, 49, 70]⟩ (by decide) W h
    rw [fix1] at this
    exact this
  have H2 : Hid (∀ W, J a w0 W → Calls Tryd.prog 17 #[.string ⟨#[49, 48]⟩, .string ⟨#[57]⟩] W fun e w' => e = .returned (.int .i64 1) ∧ J a w0 w') := fun W h => by
    have := jorder a w0 ⟨#[49, 48]⟩ ⟨#[57]⟩ (by decide) (by decide) W h
    rw [fix2] at this
    exact this
  have H3 : Hid (∀ W, J a w0 W → Calls Tryd.prog 17 #[.string ⟨#[120, 49, 48]⟩, .string ⟨#[120, 57]⟩] W fun e w' => e = .returned (.int .i64 (-1)) ∧ J a w0 w') := fun W h => by
    have := jorder a w0 ⟨#[120, 49, 48]⟩ ⟨#[120, 57]⟩ (by decide) (by decide) W h
    rw [fix3] at this
    exact this
  have H4 : Hid (∀ W, J a w0 W → Calls Tryd.prog 12 #[.int .i64 (-5)] W fun e w' => e = .returned (.string ⟨#[45, 53]⟩) ∧ J a w0 w') := fun W h => by
    have := jformat a w0 (-5) (by decide) (by decide) W h
    rw [fix4] at this
    exact this
  have HJ : Hid (J a w0 W) := h
  clear h
  go_enter Tryd.func14, Tryd.ntmps14
  go_wp2_with fail
  refine (H1.out _ HJ.out).mono ?_
  rintro e w1 ⟨rfl, hj1⟩
  go_wp2_with fail
  refine (H2.out _ hj1).mono ?_
  rintro e w2 ⟨rfl, hj2⟩
  go_wp2_with fail
  refine (H3.out _ hj2).mono ?_
  rintro e w3 ⟨rfl, hj3⟩
  go_wp2_with fail
  refine (H4.out _ hj3).mono ?_
  rintro e w4 ⟨rfl, hj4⟩
  go_wp2
  go_ret
  exact ⟨rfl, hj4⟩
end Go.Proofs.YtaaiimackjmcnaaDoor.N
