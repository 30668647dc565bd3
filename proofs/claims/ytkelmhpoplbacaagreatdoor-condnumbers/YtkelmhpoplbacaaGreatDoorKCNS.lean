/-
  The closed facts of the row together, and what they say given its run.
-/
import Derived.Test.YtkelmhpoplbacaaGreatDoorCards
import Derived.Test.YtkelmhpoplbacaaGreatDoorTie
import Derived.ProofKit
import Derived.OpenShut
import Derived.Deep.DeepHandedRow
import Derived.SizedLaws
import Derived.JoinedCond
import Derived.Test.YtkelmhpoplbacaaGreatDoorFT
import Derived.Test.YtkelmhpoplbacaaGreatDoorFV
namespace Go.Proofs.YtkelmhpoplbacaaGreatDoor.CondNumbersC
open Go.ChangeShapes Go.WideShapes Go.ChangeAt Go.RowKit
theorem an {a b : Bool} (ha : a = true) (hb : b = true) : (a && b) = true := by rw [ha, hb]; rfl
set_option maxRecDepth 100000 in
theorem closed : joinedFacts Tryz.prog 3 Tryz.f3 (OpenSpec.ofChange Rows.condNumbersSpec).bare Rows.condNumbersRow = true := by
  unfold joinedFacts
  exact (an (an (an (an (an (an (an (an (an (an (an (an (an (an (an (an (an (an (an (an (an (an (an (an (an (an (an (an (an (an (an k1 k2) k3) k4) k5) k6) k7) k8) k9) k10) k11) k12) k13) k14) k15) k16) k17) k18) k19) k20) k21) k22) k23) k24) k25) k26) k27) k28) k29) k30) k31) k32)

theorem said_of (lifted : ∀ (os : Os), os.Started → ∀ (H : Type) (enc : TypeId × Value → H) (F : Stop.Interp),
    ReturnsInHanded {} Tryz.checked os 3 .any ((OpenSpec.ofChange Rows.condNumbersSpec).preRow enc Tryz.prog Tryz.f3 Rows.condNumbersRow.domain false Rows.condNumbersRow.laid) (((OpenSpec.ofChange Rows.condNumbersSpec).at F).post enc Tryz.prog Tryz.f3 false true false false)) : Rows.CondNumbersSaid :=
  OpenClaim.holds_of_cond 3 Tryz.f3 rfl rfl rfl rfl rfl rfl rfl ⟨rfl, rfl, rfl, rfl, rfl⟩ rfl rfl rfl rfl rfl (by kernel_rfl) Tryz.func3 closed
    (of_decide_eq_true (by kernel_rfl)) (by unfold Func.isWrapper; first | (rw [if_pos (by decide +kernel)]; kernel_rfl) | (rw [if_neg (by decide +kernel)]; exact ⟨rfl, rfl⟩))
    (fun os started H enc _ F => by rw [OpenClaim.pre_eq_preRow]; exact lifted os started H enc F)
end Go.Proofs.YtkelmhpoplbacaaGreatDoor.CondNumbersC
