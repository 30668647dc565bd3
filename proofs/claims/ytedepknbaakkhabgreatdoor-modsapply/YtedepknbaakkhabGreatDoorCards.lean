/-
  DERIVED. GIVEN WITH THE SEED: THE CARDS: each row of YtedepknbaakkhabGreatDoorRows.lean that lists a variable, with what it lists TIED to the program's text (the seventh form; the later family's looks); each row that meets fmt, with fmt's text TOLD by the authors' own Lean function (tested against real Go, not proved from fmt's source: count such statements apart). THE CARD IS WHAT COUNTS. Prove the row's statement (the work); the ties are given (YtedepknbaakkhabGreatDoorTie.lean); close each card by the builder's one call (the guide's Derived/Test/ToyasCard.lean, 'card_holds'). Laid BY PROGRAM, IN A SANDBOX (cutbox-door.mjs). By AI agents, Wed Nov 11 2026. No macro, syntax, notation, axiom, sorry.
-/
import Derived.Test.YtedepknbaakkhabGreatDoorRows
import GoSem.ClaimSeven
namespace Go.Proofs.YtedepknbaakkhabGreatDoor
namespace Rows

/-- THE TIED CARD OF 'bobstaylaw06.ModsApply'. -/
def modsApplyCard : Claim7 := { stood := { row := modsApplyRow, standIns := [], harness := (true, "2d70192e5e7d3fbede3a7159f401c4e649094a03d1cf96802ac655a1b3a209da"), looks := true }, kinds := [], alts := [], laidByText := true, laidKinds := [.data, .data, .data, .data, .sentinel, .sentinel, .pinned], laidTests := true, laidLooks := .later }
def ModsApplyCardSaid : Prop := Claim7.holds Tryz.pinned (.plain (OpenSpec.ofChange modsApplySpec)) modsApplyCard

/-- THE SECOND FORM's CARD OF 'bobstaylaw06.ModsApply'. -/
def modsApplyUptoCard : Claim7 := { stood := { row := modsApplyUptoRow, standIns := [], harness := (true, "2d70192e5e7d3fbede3a7159f401c4e649094a03d1cf96802ac655a1b3a209da"), looks := true }, kinds := [], alts := [], laidByText := true, laidKinds := [.data, .data, .data, .data, .sentinel, .sentinel, .pinned], laidTests := true, laidLooks := .later }
def ModsApplyUptoCardSaid : Prop := Claim7.holds Tryz.pinned (.plain (OpenSpec.upto modsApplySpec)) modsApplyUptoCard
end Rows
end Go.Proofs.YtedepknbaakkhabGreatDoor
