/-
  DERIVED. GIVEN WITH THE SEED: THE CARDS: each row of YthcbagggalehgaaGreatDoorRows.lean that lists a variable, with what it lists TIED to the program's text (the seventh form; the later family's looks); each row that meets fmt, with fmt's text TOLD by the authors' own Lean function (tested against real Go, not proved from fmt's source: count such statements apart). THE CARD IS WHAT COUNTS. Prove the row's statement (the work); the ties are given (YthcbagggalehgaaGreatDoorTie.lean); close each card by the builder's one call (the guide's Derived/Test/ToyasCard.lean, 'card_holds'). Laid BY PROGRAM, IN A SANDBOX (cutbox-door.mjs). By AI agents, Wed Nov 11 2026. No macro, syntax, notation, axiom, sorry.
-/
import Derived.Test.YthcbagggalehgaaGreatDoorRows
import GoSem.ClaimSeven
namespace Go.Proofs.YthcbagggalehgaaGreatDoor
namespace Rows

/-- THE TIED CARD OF 'bobstaylaw08.ExpandUses'. -/
def expandUsesCard : Claim7 := { stood := { row := expandUsesRow, standIns := [], harness := (true, "7a848be6ddb88695c4ca4ec4b72e027f58fe0705b5fda502e483a26d04d5e209"), looks := true }, kinds := [], alts := [], laidByText := true, laidKinds := [.data, .data, .data, .data, .sentinel, .sentinel, .pinned], laidTests := true, laidLooks := .later }
def ExpandUsesCardSaid : Prop := Claim7.holds Tryz.pinned (.plain (OpenSpec.ofChange expandUsesSpec)) expandUsesCard

/-- THE TIED CARD OF 'bobstaylaw08.ExpandQuoted'. -/
def expandQuotedCard : Claim7 := { stood := { row := expandQuotedRow, standIns := [], harness := (true, "7a848be6ddb88695c4ca4ec4b72e027f58fe0705b5fda502e483a26d04d5e209"), looks := true }, kinds := [], alts := [], laidByText := true, laidKinds := [.data, .data, .data, .data, .sentinel, .sentinel, .pinned], laidTests := true, laidLooks := .later }
def ExpandQuotedCardSaid : Prop := Claim7.holds Tryz.pinned (.plain (OpenSpec.ofChange expandQuotedSpec)) expandQuotedCard

/-- THE TIED CARD OF 'bobstaylaw08.ExpandBoth'. -/
def expandBothCard : Claim7 := { stood := { row := expandBothRow, standIns := [], harness := (true, "7a848be6ddb88695c4ca4ec4b72e027f58fe0705b5fda502e483a26d04d5e209"), looks := true }, kinds := [], alts := [], laidByText := true, laidKinds := [.data, .data, .data, .data, .sentinel, .sentinel, .pinned], laidTests := true, laidLooks := .later }
def ExpandBothCardSaid : Prop := Claim7.holds Tryz.pinned (.plain (OpenSpec.ofChange expandBothSpec)) expandBothCard

/-- THE TIED CARD OF 'bobstaylaw08.ExpandFuel'. -/
def expandFuelCard : Claim7 := { stood := { row := expandFuelRow, standIns := [], harness := (true, "7a848be6ddb88695c4ca4ec4b72e027f58fe0705b5fda502e483a26d04d5e209"), looks := true }, kinds := [], alts := [], laidByText := true, laidKinds := [.data, .data, .data, .data, .sentinel, .sentinel, .pinned], laidTests := true, laidLooks := .later }
def ExpandFuelCardSaid : Prop := Claim7.holds Tryz.pinned (.plain (OpenSpec.ofChange expandFuelSpec)) expandFuelCard

/-- THE TIED CARD OF 'bobstaylaw08.ExpandLoop'. -/
def expandLoopCard : Claim7 := { stood := { row := expandLoopRow, standIns := [], harness := (true, "7a848be6ddb88695c4ca4ec4b72e027f58fe0705b5fda502e483a26d04d5e209"), looks := true }, kinds := [], alts := [], laidByText := true, laidKinds := [.data, .data, .data, .data, .sentinel, .sentinel, .pinned], laidTests := true, laidLooks := .later }
def ExpandLoopCardSaid : Prop := Claim7.holds Tryz.pinned (.plain (OpenSpec.ofChange expandLoopSpec)) expandLoopCard

/-- THE SECOND FORM's CARD OF 'bobstaylaw08.ExpandUses'. -/
def expandUsesUptoCard : Claim7 := { stood := { row := expandUsesUptoRow, standIns := [], harness := (true, "7a848be6ddb88695c4ca4ec4b72e027f58fe0705b5fda502e483a26d04d5e209"), looks := true }, kinds := [], alts := [], laidByText := true, laidKinds := [.data, .data, .data, .data, .sentinel, .sentinel, .pinned], laidTests := true, laidLooks := .later }
def ExpandUsesUptoCardSaid : Prop := Claim7.holds Tryz.pinned (.plain (OpenSpec.upto expandUsesSpec)) expandUsesUptoCard

/-- THE SECOND FORM's CARD OF 'bobstaylaw08.ExpandQuoted'. -/
def expandQuotedUptoCard : Claim7 := { stood := { row := expandQuotedUptoRow, standIns := [], harness := (true, "7a848be6ddb88695c4ca4ec4b72e027f58fe0705b5fda502e483a26d04d5e209"), looks := true }, kinds := [], alts := [], laidByText := true, laidKinds := [.data, .data, .data, .data, .sentinel, .sentinel, .pinned], laidTests := true, laidLooks := .later }
def ExpandQuotedUptoCardSaid : Prop := Claim7.holds Tryz.pinned (.plain (OpenSpec.upto expandQuotedSpec)) expandQuotedUptoCard

/-- THE SECOND FORM's CARD OF 'bobstaylaw08.ExpandBoth'. -/
def expandBothUptoCard : Claim7 := { stood := { row := expandBothUptoRow, standIns := [], harness := (true, "7a848be6ddb88695c4ca4ec4b72e027f58fe0705b5fda502e483a26d04d5e209"), looks := true }, kinds := [], alts := [], laidByText := true, laidKinds := [.data, .data, .data, .data, .sentinel, .sentinel, .pinned], laidTests := true, laidLooks := .later }
def ExpandBothUptoCardSaid : Prop := Claim7.holds Tryz.pinned (.plain (OpenSpec.upto expandBothSpec)) expandBothUptoCard

/-- THE SECOND FORM's CARD OF 'bobstaylaw08.ExpandFuel'. -/
def expandFuelUptoCard : Claim7 := { stood := { row := expandFuelUptoRow, standIns := [], harness := (true, "7a848be6ddb88695c4ca4ec4b72e027f58fe0705b5fda502e483a26d04d5e209"), looks := true }, kinds := [], alts := [], laidByText := true, laidKinds := [.data, .data, .data, .data, .sentinel, .sentinel, .pinned], laidTests := true, laidLooks := .later }
def ExpandFuelUptoCardSaid : Prop := Claim7.holds Tryz.pinned (.plain (OpenSpec.upto expandFuelSpec)) expandFuelUptoCard

/-- THE SECOND FORM's CARD OF 'bobstaylaw08.ExpandLoop'. -/
def expandLoopUptoCard : Claim7 := { stood := { row := expandLoopUptoRow, standIns := [], harness := (true, "7a848be6ddb88695c4ca4ec4b72e027f58fe0705b5fda502e483a26d04d5e209"), looks := true }, kinds := [], alts := [], laidByText := true, laidKinds := [.data, .data, .data, .data, .sentinel, .sentinel, .pinned], laidTests := true, laidLooks := .later }
def ExpandLoopUptoCardSaid : Prop := Claim7.holds Tryz.pinned (.plain (OpenSpec.upto expandLoopSpec)) expandLoopUptoCard
end Rows
end Go.Proofs.YthcbagggalehgaaGreatDoor
