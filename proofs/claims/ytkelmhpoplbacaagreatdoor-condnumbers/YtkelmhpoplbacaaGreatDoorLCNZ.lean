/-
  CondNumbers is true at every two numbers: whichever way they are told, they stand as they are. Its conditions: the library's tables and errors hold what the program's text lays (the card ties them); of the pruned copy of the project.
-/
import Derived.Test.YtkelmhpoplbacaaGreatDoorKCX
import Derived.Test.YtkelmhpoplbacaaGreatDoorKCNS
namespace Go.Proofs.YtkelmhpoplbacaaGreatDoor.CondNumbersC
open Go.ChangeShapes Go.WideShapes Go.ChangeAt Go.RowKit
theorem plain (f : FuncId) (fn : Func) (hf : Tryz.pinned.checked.prog.funcNamed "bobstay/bobstaylaw10.CondNumbers" = some f) (hfn : Tryz.pinned.checked.prog.funcs[f]? = some fn) :
    true = Tryz.pinned.checked.prog.looks [] ∧ ∀ (j : Nat) t, fn.params[j]? = some t → Tryz.pinned.checked.prog.wantsStandIn t = false := by
  obtain rfl : f = 3 := Option.some.inj ((show Tryz.prog.funcNamed "bobstay/bobstaylaw10.CondNumbers" = some 3 by kernel_rfl).symm.trans hf) |>.symm
  obtain rfl : fn = Tryz.f3 := (Option.some.inj (Tryz.func3.symm.trans hfn)).symm
  refine ⟨by kernel_rfl, fun j t ht => ?_⟩
  rw [Tryz.params3] at ht
  obtain rfl : t = 3 := by simpa using Array.mem_of_getElem? ht
  exact (show Tryz.prog.wantsStandIn 3 = false by kernel_rfl)

theorem said : Rows.CondNumbersSaid := said_of lifted

theorem card : Rows.CondNumbersCardSaid :=
  Claim7.holds_tied_plain_at .later [] _ _ _ _ said (fun _ h => by cases h) (by kernel_rfl) (fun _ h => by cases h) condNumbers_row_tie rfl ⟨rfl, rfl⟩ (by kernel_rfl) rfl plain (by kernel_rfl)
end Go.Proofs.YtkelmhpoplbacaaGreatDoor.CondNumbersC
namespace Go.Proofs.YtkelmhpoplbacaaGreatDoor
theorem condNumbers_card : Rows.CondNumbersCardSaid := CondNumbersC.card
end Go.Proofs.YtkelmhpoplbacaaGreatDoor
