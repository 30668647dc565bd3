/-
  DERIVED. GIVEN WITH THE SEED: THE CARDS: each row of YtpcpcfnmcfjomaaGreatDoorRows.lean that lists a variable, with what it lists TIED to the program's text (the seventh form; the later family's looks); each row that meets fmt, with fmt's text TOLD by the authors' own Lean function (tested against real Go, not proved from fmt's source: count such statements apart). THE CARD IS WHAT COUNTS. Prove the row's statement (the work); the ties are given (YtpcpcfnmcfjomaaGreatDoorTie.lean); close each card by the builder's one call (the guide's Derived/Test/ToyasCard.lean, 'card_holds'). Laid BY PROGRAM, IN A SANDBOX (cutbox-door.mjs). By AI agents, Wed Nov 11 2026. No macro, syntax, notation, axiom, sorry.
-/
import Derived.Test.YtpcpcfnmcfjomaaGreatDoorRows
import GoSem.ClaimSeven
namespace Go.Proofs.YtpcpcfnmcfjomaaGreatDoor
namespace Rows

/-- THE TIED CARD OF 'bobstaylaw06.ModsMuch'. -/
def modsMuchCard : Claim7 := { stood := { row := modsMuchRow, standIns := [], harness := (true, "fc9a6a73dd37ae9c64cf7e15152298904ba17edf757fd1dbae8281003978ba82"), looks := true }, kinds := [], alts := [], laidByText := true, laidKinds := [.data, .data, .data, .data, .sentinel, .sentinel, .pinned], laidTests := true, laidLooks := .later }
def ModsMuchCardSaid : Prop := Claim7.holds Tryz.pinned (.plain (OpenSpec.ofChange modsMuchSpec)) modsMuchCard

/-- THE SECOND FORM's CARD OF 'bobstaylaw06.ModsMuch'. -/
def modsMuchUptoCard : Claim7 := { stood := { row := modsMuchUptoRow, standIns := [], harness := (true, "fc9a6a73dd37ae9c64cf7e15152298904ba17edf757fd1dbae8281003978ba82"), looks := true }, kinds := [], alts := [], laidByText := true, laidKinds := [.data, .data, .data, .data, .sentinel, .sentinel, .pinned], laidTests := true, laidLooks := .later }
def ModsMuchUptoCardSaid : Prop := Claim7.holds Tryz.pinned (.plain (OpenSpec.upto modsMuchSpec)) modsMuchUptoCard
end Rows
end Go.Proofs.YtpcpcfnmcfjomaaGreatDoor
