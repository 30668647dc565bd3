/-
  What NumParses and NumCompares answer.
-/
import Derived.Test.YtaaiimackjmcnaaDoorNR3
import Derived.Test.YtaaiimackjmcnaaDoorNR4
namespace Go.Proofs.YtaaiimackjmcnaaDoor.N
open Go.RowKit Go.Shelf Go.Sort

set_option maxHeartbeats 1000000 in
set_option maxRecDepth 20000 in
theorem parses_law (a : Addr) (s : ByteArray) (n : Int) (hs : s.size ≤ 140737488355328) (h0 : -9223372036854775808 ≤ n) (h1 : n ≤ 9223372036854775807) (w : World) (h : Gw a w) :
    Calls Tryd.prog 3 #[.string s, .int .i64 n] w fun e w' => e = .returned (.bool true) ∧ J a w w' := by
  have HP : Hid (∀ W, J a w W → Calls Tryd.prog 9 #[.string s] W fun e w' => e = .returned (.tuple #[.int .i64 (parseG (bl s)).1, .int .i64 (parseG (bl s)).2]) ∧ J a w w') := fun W hW => jparse a w s hs W hW
  have HQ : Hid (∀ W, J a w W → Calls Tryd.prog 10 #[.string s] W fun e w' => e = .returned (.tuple #[.int .i64 (parseG (bl s)).1, .int .i64 (parseG (bl s)).2]) ∧ J a w w') := fun W hW => (rparse_any s hs W).mono fun _ _ r => ⟨r.1, r.2 ▸ hW⟩
  have HI : Hid (∀ W, J a w W → Calls Tryd.prog 11 #[.string s] W fun e w' => e = .returned (.bool ((parseG (bl s)).2 == 0)) ∧ J a w w') := fun W hW => (is_any s a W hW.1.1 hs).mono fun _ _ r => ⟨r.1, hW.go r.2⟩
  have HF : Hid (∀ W, J a w W → Calls Tryd.prog 12 #[.int .i64 n] W fun e w' => e = .returned (.string (ba (Lib.itoa n))) ∧ J a w w') := fun W hW => jformat a w n h0 h1 W hW
  have HG : Hid (∀ W, J a w W → Calls Tryd.prog 13 #[.int .i64 n] W fun e w' => e = .returned (.string (ba (Lib.itoa n))) ∧ J a w w') := fun W hW => (rformat_any n h0 h1 W).mono fun _ _ r => ⟨r.1, hW.go r.2⟩
  have HA : Hid (∀ W, J a w W → Calls Tryd.prog 14 #[] W fun e w' => e = .returned (.bool true) ∧ J a w w') := fun W hW => jalive a w W hW
  have HJ : Hid (J a w w) := J.start h
  generalize ba (Lib.itoa n) = z at HF HG
  generalize (parseG (bl s)).1 = x at HP HQ
  generalize (parseG (bl s)).2 = y at HP HQ HI
  have hbb : ∀ (p q : Bool) (W : World), Sem.run Tryd.prog (binOp .eql 4 (.bool p) (.bool q)) W = .ok (.bool (p == q)) W := fun _ _ _ => rfl
  clear h hs h0 h1
  by_cases hy : y = 0
  · subst hy
    go_enter Tryd.func3, Tryd.ntmps3
    go_wp2_with fail
    refine (HP.out _ HJ.out).mono ?_
    rintro e w1 ⟨rfl, hj1⟩
    go_wp2_with fail
    refine (HQ.out _ hj1).mono ?_
    rintro e w2 ⟨rfl, hj2⟩
    go_wp2_with fail
    refine (HI.out _ hj2).mono ?_
    rintro e w3 ⟨rfl, hj3⟩
    go_wp2_with fail
    refine (HF.out _ hj3).mono ?_
    rintro e w4 ⟨rfl, hj4⟩
    go_wp2_with fail
    refine (HG.out _ hj4).mono ?_
    rintro e w5 ⟨rfl, hj5⟩
    go_wp2_with fail
    refine (HA.out _ hj5).mono ?_
    rintro e w6 ⟨rfl, hj6⟩
    go_wp2
    go_ret
    exact ⟨rfl, hj6⟩
  · have hyb : (y == 0) = false := by simpa using hy
    rw [hyb] at HI
    go_enter Tryd.func3, Tryd.ntmps3
    go_wp2_with fail
    refine (HP.out _ HJ.out).mono ?_
    rintro e w1 ⟨rfl, hj1⟩
    go_wp2_with fail
    refine (HQ.out _ hj1).mono ?_
    rintro e w2 ⟨rfl, hj2⟩
    go_wp2_with fail
    refine (HI.out _ hj2).mono ?_
    rintro e w3 ⟨rfl, hj3⟩
    go_wp2_with fail
    refine (HF.out _ hj3).mono ?_
    rintro e w4 ⟨rfl, hj4⟩
    go_wp2_with fail
    refine (HG.out _ hj4).mono ?_
    rintro e w5 ⟨rfl, hj5⟩
    go_wp2_with fail
    refine (HA.out _ hj5).mono ?_
    rintro e w6 ⟨rfl, hj6⟩
    go_wp2
    go_ret
    exact ⟨rfl, hj6⟩

set_option maxHeartbeats 1000000 in
set_option maxRecDepth 20000 in
theorem compares_law (a : Addr) (s t : ByteArray) (hs : s.size ≤ 140737488355328) (ht : t.size ≤ 140737488355328) (w : World) (h : Gw a w) :
    Calls Tryd.prog 4 #[.string s, .string t] w fun e w' => e = .returned (.bool true) ∧ J a w w' := by
  have HP : Hid (∀ W, J a w W → Calls Tryd.prog 15 #[.string s, .string t] W fun e w' => e = .returned (.tuple #[.int .i64 (cmpG (bl s) (bl t)).1, .int .i64 (cmpG (bl s) (bl t)).2]) ∧ J a w w') := fun W hW => jcompare a w s t hs ht W hW
  have HQ : Hid (∀ W, J a w W → Calls Tryd.prog 16 #[.string s, .string t] W fun e w' => e = .returned (.tuple #[.int .i64 (cmpG (bl s) (bl t)).1, .int .i64 (cmpG (bl s) (bl t)).2]) ∧ J a w w') := fun W hW => (rcompare s t W hs ht).mono fun _ _ r => ⟨r.1, hW.go r.2⟩
  have HF : Hid (∀ W, J a w W → Calls Tryd.prog 17 #[.string s, .string t] W fun e w' => e = .returned (.int .i64 (orderG (bl s) (bl t))) ∧ J a w w') := fun W hW => jorder a w s t hs ht W hW
  have HG : Hid (∀ W, J a w W → Calls Tryd.prog 18 #[.string s, .string t] W fun e w' => e = .returned (.int .i64 (orderG (bl s) (bl t))) ∧ J a w w') := fun W hW => (rorder s t W hs ht).mono fun _ _ r => ⟨r.1, hW.go r.2⟩
  have HA : Hid (∀ W, J a w W → Calls Tryd.prog 14 #[] W fun e w' => e = .returned (.bool true) ∧ J a w w') := fun W hW => jalive a w W hW
  have HJ : Hid (J a w w) := J.start h
  generalize orderG (bl s) (bl t) = z at HF HG
  generalize (cmpG (bl s) (bl t)).1 = x at HP HQ
  generalize (cmpG (bl s) (bl t)).2 = y at HP HQ
  clear h hs ht
  go_enter Tryd.func4, Tryd.ntmps4
  go_wp2_with fail
  refine (HP.out _ HJ.out).mono ?_
  rintro e w1 ⟨rfl, hj1⟩
  go_wp2_with fail
  refine (HQ.out _ hj1).mono ?_
  rintro e w2 ⟨rfl, hj2⟩
  go_wp2_with fail
  refine (HF.out _ hj2).mono ?_
  rintro e w4 ⟨rfl, hj4⟩
  go_wp2_with fail
  refine (HG.out _ hj4).mono ?_
  rintro e w5 ⟨rfl, hj5⟩
  go_wp2_with fail
  refine (HA.out _ hj5).mono ?_
  rintro e w6 ⟨rfl, hj6⟩
  go_wp2
  go_ret
  exact ⟨rfl, hj6⟩
end Go.Proofs.YtaaiimackjmcnaaDoor.N
