/-
  Closed facts of the row, part FV.
-/
import Derived.Test.YtkelmhpoplbacaaGreatDoorCards
import Derived.Test.YtkelmhpoplbacaaGreatDoorTie
import Derived.ProofKit
import Derived.OpenShut
import Derived.Deep.DeepHandedRow
import Derived.SizedLaws
import Derived.JoinedCond
namespace Go.Proofs.YtkelmhpoplbacaaGreatDoor.CondNumbersC
open Go.ChangeShapes Go.WideShapes Go.ChangeAt Go.RowKit
theorem k10 : (Rows.condNumbersRow.inPlace == Tryz.prog.inPlace 3) = true := by kernel_rfl
theorem k11 : (Rows.condNumbersRow.unfollowed == Tryz.prog.unfollowed 3) = true := by kernel_rfl
theorem k12 : (Rows.condNumbersRow.recurses == Tryz.prog.recurses 3) = true := by kernel_rfl
theorem k13 : (Rows.condNumbersRow.named == Tryz.prog.varsNamed 3) = true := by kernel_rfl
end Go.Proofs.YtkelmhpoplbacaaGreatDoor.CondNumbersC
