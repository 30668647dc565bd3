/-
  Closed facts of the row, part FT.
-/
import Derived.Test.YtkelmhpoplbacaaGreatDoorCards
import Derived.Test.YtkelmhpoplbacaaGreatDoorTie
import Derived.ProofKit
import Derived.OpenShut
import Derived.Deep.DeepHandedRow
import Derived.SizedLaws
import Derived.JoinedCond
namespace Go.Proofs.YtkelmhpoplbacaaGreatDoor.CondNumbersC
open Go.ChangeShapes Go.WideShapes Go.ChangeAt Go.RowKit
theorem k1 : Rows.condNumbersRow.wf (OpenSpec.ofChange (OpenSpec.ofChange Rows.condNumbersSpec).bare) = true := by kernel_rfl
theorem k2 : laidOutB Tryz.prog = true := by kernel_rfl
theorem k3 : mapsRowed Tryz.prog = true := by kernel_rfl
theorem k4 : Tryz.f3.params.all (Tryz.prog.readableRec ·) = true := by kernel_rfl
theorem k5 : namedTie Tryz.prog Rows.condNumbersRow.named (OpenSpec.ofChange Rows.condNumbersSpec).bare.vars = true := by kernel_rfl
theorem k6 : (Rows.condNumbersRow.stops == []) = true := by kernel_rfl
theorem k7 : (Tryz.prog.stops == []) = true := by kernel_rfl
theorem k8 : (Rows.condNumbersRow.knobs == []) = true := by kernel_rfl
theorem k9 : (Tryz.prog.stopKnobs == []) = true := by kernel_rfl
theorem k29 : (Rows.condNumbersRow.kinds == (if Rows.condNumbersRow.domain.isEmpty then [] else Tryz.f3.params.toList.map fun t => match Tryz.prog.underlying t with | some (.int k) => some k | _ => none)) = true := by kernel_rfl
theorem k30 : (Rows.condNumbersRow.pinned == Rows.condNumbersRow.pinnedBy) = true := by kernel_rfl
theorem k31 : (Rows.condNumbersRow.veiled == (Tryz.f3.params.toList ++ (OpenSpec.ofChange Rows.condNumbersSpec).bare.plain.varTypes Tryz.prog ++ Tryz.f3.resultTypes.toList).any (Tryz.prog.veiledRec ·)) = true := by kernel_rfl
theorem k32 : Rows.condNumbersRow.veiledFits Tryz.prog Tryz.f3.params.toList (Tryz.f3.params.toList ++ (OpenSpec.ofChange Rows.condNumbersSpec).bare.plain.varTypes Tryz.prog ++ Tryz.f3.resultTypes.toList) = true := by kernel_rfl
theorem k14 : (Rows.condNumbersRow.maps == (Tryz.f3.params.toList ++ (OpenSpec.ofChange Rows.condNumbersSpec).bare.plain.varTypes Tryz.prog).any (Tryz.prog.mapsRec ·)) = true := by kernel_rfl
theorem k15 : (Rows.condNumbersRow.ifaces == (Tryz.f3.params.toList ++ (OpenSpec.ofChange Rows.condNumbersSpec).bare.plain.varTypes Tryz.prog).any (Tryz.prog.ifacesRec ·)) = true := by kernel_rfl
theorem k16 : (Rows.condNumbersRow.mapsOut == Tryz.prog.mapsAmong Tryz.f3.resultTypes.toList) = true := by kernel_rfl
theorem k17 : (Rows.condNumbersRow.loops == (Tryz.f3.params.toList ++ (OpenSpec.ofChange Rows.condNumbersSpec).bare.plain.varTypes Tryz.prog).any (Tryz.prog.loopsFrom ·)) = true := by kernel_rfl
theorem k18 : (Rows.condNumbersRow.wideKeys == (Tryz.f3.params.toList ++ (OpenSpec.ofChange Rows.condNumbersSpec).bare.plain.varTypes Tryz.prog ++ Tryz.f3.resultTypes.toList).any (Tryz.prog.wideKeysFrom ·)) = true := by kernel_rfl
theorem k19 : (OpenSpec.ofChange Rows.condNumbersSpec).bare.vars.all (Tryz.prog.varReadable ·) = true := by kernel_rfl
theorem k20 : Tryz.f3.resultTypes.all (fun t => Tryz.prog.readableRec t && decide (t < Tryz.prog.types.size)) = true := by kernel_rfl
theorem k21 : (Rows.condNumbersRow.ifacesOut == Tryz.f3.resultTypes.toList.any (Tryz.prog.ifacesRec ·)) = true := by kernel_rfl
theorem k22 : (Rows.condNumbersRow.loopsOut == Tryz.f3.resultTypes.toList.any (Tryz.prog.loopsFrom ·)) = true := by kernel_rfl
theorem k23 : (Rows.condNumbersRow.plainKeys == Tryz.prog.plainKeys) = true := by kernel_rfl
theorem k24 : Rows.condNumbersRow.shortTexts.isNone = true := by kernel_rfl
theorem k25 : Tryz.prog.stopsHeard = true := by kernel_rfl
theorem k26 : Tryz.prog.mayEnter = true := by kernel_rfl
theorem k27 : (Rows.condNumbersRow.lifted == Tryz.prog.liftsFinal) = true := by kernel_rfl
theorem k28 : (Tryz.prog.make == some Rows.condNumbersRow.make) = true := by kernel_rfl
end Go.Proofs.YtkelmhpoplbacaaGreatDoor.CondNumbersC
