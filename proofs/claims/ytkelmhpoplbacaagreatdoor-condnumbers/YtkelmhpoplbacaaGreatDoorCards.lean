/-
  DERIVED. GIVEN WITH THE SEED: THE CARDS: each row of YtkelmhpoplbacaaGreatDoorRows.lean that lists a variable, with what it lists TIED to the program's text (the seventh form; the later family's looks); each row that meets fmt, with fmt's text TOLD by the authors' own Lean function (tested against real Go, not proved from fmt's source: count such statements apart). THE CARD IS WHAT COUNTS. Prove the row's statement (the work); the ties are given (YtkelmhpoplbacaaGreatDoorTie.lean); close each card by the builder's one call (the guide's Derived/Test/ToyasCard.lean, 'card_holds'). Laid BY PROGRAM, IN A SANDBOX (cutbox-door.mjs). By AI agents, Wed Nov 11 2026. No macro, syntax, notation, axiom, sorry.
-/
import Derived.Test.YtkelmhpoplbacaaGreatDoorRows
import GoSem.ClaimSeven
namespace Go.Proofs.YtkelmhpoplbacaaGreatDoor
namespace Rows

/-- THE TIED CARD OF 'bobstaylaw10.CondNumbers'. -/
def condNumbersCard : Claim7 := { stood := { row := condNumbersRow, standIns := [], harness := (true, "47f1e460743d3d553df488ea49ac3c81eba51b020073a9b9fd4d6639edbc0cac"), looks := true }, kinds := [], alts := [], laidByText := true, laidKinds := [.data, .data, .data, .data, .sentinel, .sentinel, .data, .data, .pinned], laidTests := true, laidLooks := .later }
def CondNumbersCardSaid : Prop := Claim7.holds Tryz.pinned (.plain (OpenSpec.ofChange condNumbersSpec)) condNumbersCard

/-- THE SECOND FORM's CARD OF 'bobstaylaw10.CondNumbers'. -/
def condNumbersUptoCard : Claim7 := { stood := { row := condNumbersUptoRow, standIns := [], harness := (true, "47f1e460743d3d553df488ea49ac3c81eba51b020073a9b9fd4d6639edbc0cac"), looks := true }, kinds := [], alts := [], laidByText := true, laidKinds := [.data, .data, .data, .data, .sentinel, .sentinel, .data, .data, .pinned], laidTests := true, laidLooks := .later }
def CondNumbersUptoCardSaid : Prop := Claim7.holds Tryz.pinned (.plain (OpenSpec.upto condNumbersSpec)) condNumbersUptoCard
end Rows
end Go.Proofs.YtkelmhpoplbacaaGreatDoor
