/-
  What NumSums answers.
-/
import Derived.Test.YtaaiimackjmcnaaDoorNL2
namespace Go.Proofs.YtaaiimackjmcnaaDoor.N
open Go.RowKit Go.Shelf Go.Sort

set_option maxHeartbeats 1000000 in
set_option maxRecDepth 20000 in
theorem sums_law (a : Addr) (a0 : Option Addr) (len cap : Nat) (l : List Int) (w : World) (hN : Nums w a0 len l) (hl : len ≤ 140737488355328) (h : Gw a w) :
    Calls Tryd.prog 5 #[.slice a0 len cap] w fun e w' => e = .returned (.bool true) ∧ J a w w' := by
  have HP : Hid (Calls Tryd.prog 19 #[.slice a0 len cap] w fun e w' => e = .returned (.tuple #[.int .i64 (sumG 0 l).1, .int .i64 (sumG 0 l).2]) ∧ w = w') := sum_any a0 len cap l w hN hl
  have HQ : Hid (Calls Tryd.prog 20 #[.slice a0 len cap] w fun e w' => e = .returned (.tuple #[.int .i64 (sumG 0 l).1, .int .i64 (sumG 0 l).2]) ∧ w = w') := rsum_any a0 len cap l w hN hl
  have HA : Hid (∀ W, J a w W → Calls Tryd.prog 14 #[] W fun e w' => e = .returned (.bool true) ∧ J a w w') := fun W hW => jalive a w W hW
  have HJ : Hid (J a w w) := J.start h
  generalize (sumG 0 l).1 = x at HP HQ
  generalize (sumG 0 l).2 = y at HP HQ
  clear h hN hl
  go_enter Tryd.func5, Tryd.ntmps5
  go_wp2_with fail
  refine HP.out.mono ?_
  rintro e w1 ⟨rfl, rfl⟩
  go_wp2_with fail
  refine HQ.out.mono ?_
  rintro e w2 ⟨rfl, rfl⟩
  go_wp2_with fail
  refine (HA.out _ HJ.out).mono ?_
  rintro e w6 ⟨rfl, hj6⟩
  go_wp2
  go_ret
  exact ⟨rfl, hj6⟩
end Go.Proofs.YtaaiimackjmcnaaDoor.N
