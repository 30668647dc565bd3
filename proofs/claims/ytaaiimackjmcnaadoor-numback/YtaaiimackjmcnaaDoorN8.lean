/-
  What NumBack, NumOrder and NumNoughts answer.
-/
import Derived.Test.YtaaiimackjmcnaaDoorN7
namespace Go.Proofs.YtaaiimackjmcnaaDoor.N
open Go.RowKit Go.Shelf Go.Sort

set_option maxHeartbeats 1000000 in
set_option maxRecDepth 20000 in
theorem back_law (a : Addr) (n : Int) (h0 : -9223372036854775808 ≤ n) (h1 : n ≤ 9223372036854775807) (w : World) (h : Gw a w) :
    Calls Tryd.prog 6 #[.int .i64 n] w fun e w' => e = .returned (.bool true) ∧ J a w w' := by
  have HF : Hid (Calls Tryd.prog 12 #[.int .i64 n] w fun e w' => e = .returned (.string (ba (Lib.itoa n))) ∧ J a w w') := jformat a w n h0 h1 w (J.start h)
  have HP : Hid (∀ W, J a w W → Calls Tryd.prog 9 #[.string (ba (Lib.itoa n))] W fun e w' => e = .returned (.tuple #[.int .i64 (parseG (Lib.itoa n)).1, .int .i64 (parseG (Lib.itoa n)).2]) ∧ J a w w') := fun W hW => by
    have := jparse a w (ba (Lib.itoa n)) (by rw [ba_size]; exact Nat.le_trans (Lib.itoa_length_le n h0 h1) (by decide)) W hW
    rw [bl_ba] at this
    exact this
  have HA : Hid (∀ W, J a w W → Calls Tryd.prog 14 #[] W fun e w' => e = .returned (.bool true) ∧ J a w w') := fun W hW => jalive a w W hW
  generalize ba (Lib.itoa n) = s at HF HP
  rw [parse_itoa] at HP
  clear h
  by_cases hc : n < -4611686018427387904 ∨ 4611686018427387904 < n
  · rw [if_pos hc] at HP
    rcases hc with hc | hc
    · go_enter Tryd.func6, Tryd.ntmps6
      go_wp2_with fail
      refine HF.out.mono ?_
      rintro e w1 ⟨rfl, hj1⟩
      go_wp2_with fail
      refine (HP.out _ hj1).mono ?_
      rintro e w2 ⟨rfl, hj2⟩
      go_wp2_with fail
      refine (HA.out _ hj2).mono ?_
      rintro e w3 ⟨rfl, hj3⟩
      go_wp2
      go_ret
      exact ⟨rfl, hj3⟩
    · have hc2 : ¬ n < -4611686018427387904 := by omega
      go_enter Tryd.func6, Tryd.ntmps6
      go_wp2_with fail
      refine HF.out.mono ?_
      rintro e w1 ⟨rfl, hj1⟩
      go_wp2_with fail
      refine (HP.out _ hj1).mono ?_
      rintro e w2 ⟨rfl, hj2⟩
      go_wp2_with fail
      refine (HA.out _ hj2).mono ?_
      rintro e w3 ⟨rfl, hj3⟩
      go_wp2
      go_ret
      exact ⟨rfl, hj3⟩
  · rw [if_neg hc] at HP
    have hc1 : ¬ n < -4611686018427387904 := by omega
    have hc2 : ¬ 4611686018427387904 < n := by omega
    clear hc
    go_enter Tryd.func6, Tryd.ntmps6
    go_wp2_with fail
    refine HF.out.mono ?_
    rintro e w1 ⟨rfl, hj1⟩
    go_wp2_with fail
    refine (HP.out _ hj1).mono ?_
    rintro e w2 ⟨rfl, hj2⟩
    go_wp2_with fail
    refine (HA.out _ hj2).mono ?_
    rintro e w3 ⟨rfl, hj3⟩
    go_wp2
    go_ret
    exact ⟨rfl, hj3⟩

set_option maxHeartbeats 2000000 in
set_option maxRecDepth 20000 in
theorem order_law (a : Addr) (r s t : ByteArray) (hr : r.size ≤ 140737488355328) (hs : s.size ≤ 140737488355328) (ht : t.size ≤ 140737488355328) (w : World) (h : Gw a w) :
    Calls Tryd.prog 7 #[.string r, .string s, .string t] w fun e w' => e = .returned (.bool true) ∧ J a w w' := by
  have H1 : Hid (∀ W, J a w W → Calls Tryd.prog 17 #[.string r, .string s] W fun e w' => e = .returned (.int .i64 (orderG (bl r) (bl s))) ∧ J a w w') := fun W hW => jorder a w r s hr hs W hW
  have H2 : Hid (∀ W, J a w W → Calls Tryd.prog 17 #[.string s, .string t] W fun e w' => e = .returned (.int .i64 (orderG (bl s) (bl t))) ∧ J a w w') := fun W hW => jorder a w s t hs ht W hW
  have H3 : Hid (∀ W, J a w W → Calls Tryd.prog 17 #[.string r, .string t] W fun e w' => e = .returned (.int .i64 (orderG (bl r) (bl t))) ∧ J a w w') := fun W hW => jorder a w r t hr ht W hW
  have H4 : Hid (∀ W, J a w W → Calls Tryd.prog 17 #[.string s, .string r] W fun e w' => e = .returned (.int .i64 (-orderG (bl r) (bl s))) ∧ J a w w') := fun W hW => by
    have := jorder a w s r hs hr W hW
    rw [order_swap] at this
    exact this
  have H5 : Hid (∀ W, J a w W → Calls Tryd.prog 17 #[.string r, .string r] W fun e w' => e = .returned (.int .i64 0) ∧ J a w w') := fun W hW => by
    have := jorder a w r r hr hr W hW
    rw [order_same] at this
    exact this
  have HA : Hid (∀ W, J a w W → Calls Tryd.prog 14 #[] W fun e w' => e = .returned (.bool true) ∧ J a w w') := fun W hW => jalive a w W hW
  have T1 := order_trans (bl r) (bl s) (bl t)
  have T2 := order_trans' (bl r) (bl s) (bl t)
  have x3 := order_three (bl r) (bl s)
  have y3 := order_three (bl s) (bl t)
  have z3 := order_three (bl r) (bl t)
  generalize orderG (bl r) (bl s) = x at H1 H4 T1 T2 x3
  generalize orderG (bl s) (bl t) = y at H2 T1 T2 y3
  generalize orderG (bl r) (bl t) = z at H3 T1 T2 z3
  have HJ : Hid (J a w w) := J.start h
  clear h hr hs ht
  rcases x3 with rfl | rfl | rfl <;> rcases y3 with rfl | rfl | rfl <;> rcases z3 with rfl | rfl | rfl <;>
    first
      | (exfalso; have := T1 (by decide) (by decide); omega)
      | (exfalso; have := T2 (by decide) (by decide); omega)
      | (clear T1 T2
         go_enter Tryd.func7, Tryd.ntmps7
         go_wp2_with fail
         refine (H1.out _ HJ.out).mono ?_
         rintro e w1 ⟨rfl, hj1⟩
         go_wp2_with fail
         refine (H2.out _ hj1).mono ?_
         rintro e w2 ⟨rfl, hj2⟩
         go_wp2_with fail
         refine (H3.out _ hj2).mono ?_
         rintro e w3 ⟨rfl, hj3⟩
         go_wp2_with fail
         refine (H4.out _ hj3).mono ?_
         rintro e w4 ⟨rfl, hj4⟩
         go_wp2_with fail
         refine (H5.out _ hj4).mono ?_
         rintro e w5 ⟨rfl, hj5⟩
         go_wp2_with fail
         refine (HA.out _ hj5).mono ?_
         rintro e w6 ⟨rfl, hj6⟩
         go_wp2
         go_ret
         exact ⟨rfl, hj6⟩)
end Go.Proofs.YtaaiimackjmcnaaDoor.N
