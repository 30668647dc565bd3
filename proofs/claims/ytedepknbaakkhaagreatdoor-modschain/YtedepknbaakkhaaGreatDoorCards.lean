/-
  DERIVED. GIVEN WITH THE SEED: THE CARDS: each row of YtedepknbaakkhaaGreatDoorRows.lean that lists a variable, with what it lists TIED to the program's text (the seventh form; the later family's looks); each row that meets fmt, with fmt's text TOLD by the authors' own Lean function (tested against real Go, not proved from fmt's source: count such statements apart). THE CARD IS WHAT COUNTS. Prove the row's statement (the work); the ties are given (YtedepknbaakkhaaGreatDoorTie.lean); close each card by the builder's one call (the guide's Derived/Test/ToyasCard.lean, 'card_holds'). Laid BY PROGRAM, IN A SANDBOX (cutbox-door.mjs). By AI agents, Wed Nov 11 2026. No macro, syntax, notation, axiom, sorry.
-/
import Derived.Test.YtedepknbaakkhaaGreatDoorRows
import GoSem.ClaimSeven
namespace Go.Proofs.YtedepknbaakkhaaGreatDoor
namespace Rows

/-- THE TIED CARD OF 'bobstaylaw06.ModsMake'. -/
def modsMakeCard : Claim7 := { stood := { row := modsMakeRow, standIns := [], harness := (true, "8f16d30a4cfdd4d5c20e1d2e654a6e1a823f14a5d877ea61d8243a2fe1544f0a"), looks := true }, kinds := [], alts := [], laidByText := true, laidKinds := [.data, .data, .data, .data, .sentinel, .sentinel, .pinned], laidTests := true, laidLooks := .later }
def ModsMakeCardSaid : Prop := Claim7.holds Tryz.pinned (.plain (OpenSpec.ofChange modsMakeSpec)) modsMakeCard

/-- THE TIED CARD OF 'bobstaylaw06.ModsParse'. -/
def modsParseCard : Claim7 := { stood := { row := modsParseRow, standIns := [], harness := (true, "8f16d30a4cfdd4d5c20e1d2e654a6e1a823f14a5d877ea61d8243a2fe1544f0a"), looks := true }, kinds := [], alts := [], laidByText := true, laidKinds := [.data, .data, .data, .data, .sentinel, .sentinel, .pinned], laidTests := true, laidLooks := .later }
def ModsParseCardSaid : Prop := Claim7.holds Tryz.pinned (.plain (OpenSpec.ofChange modsParseSpec)) modsParseCard

/-- THE TIED CARD OF 'bobstaylaw06.ModsMuch'. -/
def modsMuchCard : Claim7 := { stood := { row := modsMuchRow, standIns := [], harness := (true, "8f16d30a4cfdd4d5c20e1d2e654a6e1a823f14a5d877ea61d8243a2fe1544f0a"), looks := true }, kinds := [], alts := [], laidByText := true, laidKinds := [.data, .data, .data, .data, .sentinel, .sentinel, .pinned], laidTests := true, laidLooks := .later }
def ModsMuchCardSaid : Prop := Claim7.holds Tryz.pinned (.plain (OpenSpec.ofChange modsMuchSpec)) modsMuchCard

/-- THE TIED CARD OF 'bobstaylaw06.ModsPart'. -/
def modsPartCard : Claim7 := { stood := { row := modsPartRow, standIns := [], harness := (true, "8f16d30a4cfdd4d5c20e1d2e654a6e1a823f14a5d877ea61d8243a2fe1544f0a"), looks := true }, kinds := [], alts := [], laidByText := true, laidKinds := [.data, .data, .data, .data, .sentinel, .sentinel, .pinned], laidTests := true, laidLooks := .later }
def ModsPartCardSaid : Prop := Claim7.holds Tryz.pinned (.plain (OpenSpec.ofChange modsPartSpec)) modsPartCard

/-- THE TIED CARD OF 'bobstaylaw06.ModsSort'. -/
def modsSortCard : Claim7 := { stood := { row := modsSortRow, standIns := [], harness := (true, "8f16d30a4cfdd4d5c20e1d2e654a6e1a823f14a5d877ea61d8243a2fe1544f0a"), looks := true }, kinds := [], alts := [], laidByText := true, laidKinds := [.data, .data, .data, .data, .sentinel, .sentinel, .pinned], laidTests := true, laidLooks := .later }
def ModsSortCardSaid : Prop := Claim7.holds Tryz.pinned (.plain (OpenSpec.ofChange modsSortSpec)) modsSortCard

/-- THE TIED CARD OF 'bobstaylaw06.ModsChain'. -/
def modsChainCard : Claim7 := { stood := { row := modsChainRow, standIns := [], harness := (true, "8f16d30a4cfdd4d5c20e1d2e654a6e1a823f14a5d877ea61d8243a2fe1544f0a"), looks := true }, kinds := [], alts := [], laidByText := true, laidKinds := [.data, .data, .data, .data, .sentinel, .sentinel, .pinned], laidTests := true, laidLooks := .later }
def ModsChainCardSaid : Prop := Claim7.holds Tryz.pinned (.plain (OpenSpec.ofChange modsChainSpec)) modsChainCard

/-- THE SECOND FORM's CARD OF 'bobstaylaw06.ModsMake'. -/
def modsMakeUptoCard : Claim7 := { stood := { row := modsMakeUptoRow, standIns := [], harness := (true, "8f16d30a4cfdd4d5c20e1d2e654a6e1a823f14a5d877ea61d8243a2fe1544f0a"), looks := true }, kinds := [], alts := [], laidByText := true, laidKinds := [.data, .data, .data, .data, .sentinel, .sentinel, .pinned], laidTests := true, laidLooks := .later }
def ModsMakeUptoCardSaid : Prop := Claim7.holds Tryz.pinned (.plain (OpenSpec.upto modsMakeSpec)) modsMakeUptoCard

/-- THE SECOND FORM's CARD OF 'bobstaylaw06.ModsParse'. -/
def modsParseUptoCard : Claim7 := { stood := { row := modsParseUptoRow, standIns := [], harness := (true, "8f16d30a4cfdd4d5c20e1d2e654a6e1a823f14a5d877ea61d8243a2fe1544f0a"), looks := true }, kinds := [], alts := [], laidByText := true, laidKinds := [.data, .data, .data, .data, .sentinel, .sentinel, .pinned], laidTests := true, laidLooks := .later }
def ModsParseUptoCardSaid : Prop := Claim7.holds Tryz.pinned (.plain (OpenSpec.upto modsParseSpec)) modsParseUptoCard

/-- THE SECOND FORM's CARD OF 'bobstaylaw06.ModsMuch'. -/
def modsMuchUptoCard : Claim7 := { stood := { row := modsMuchUptoRow, standIns := [], harness := (true, "8f16d30a4cfdd4d5c20e1d2e654a6e1a823f14a5d877ea61d8243a2fe1544f0a"), looks := true }, kinds := [], alts := [], laidByText := true, laidKinds := [.data, .data, .data, .data, .sentinel, .sentinel, .pinned], laidTests := true, laidLooks := .later }
def ModsMuchUptoCardSaid : Prop := Claim7.holds Tryz.pinned (.plain (OpenSpec.upto modsMuchSpec)) modsMuchUptoCard

/-- THE SECOND FORM's CARD OF 'bobstaylaw06.ModsPart'. -/
def modsPartUptoCard : Claim7 := { stood := { row := modsPartUptoRow, standIns := [], harness := (true, "8f16d30a4cfdd4d5c20e1d2e654a6e1a823f14a5d877ea61d8243a2fe1544f0a"), looks := true }, kinds := [], alts := [], laidByText := true, laidKinds := [.data, .data, .data, .data, .sentinel, .sentinel, .pinned], laidTests := true, laidLooks := .later }
def ModsPartUptoCardSaid : Prop := Claim7.holds Tryz.pinned (.plain (OpenSpec.upto modsPartSpec)) modsPartUptoCard

/-- THE SECOND FORM's CARD OF 'bobstaylaw06.ModsSort'. -/
def modsSortUptoCard : Claim7 := { stood := { row := modsSortUptoRow, standIns := [], harness := (true, "8f16d30a4cfdd4d5c20e1d2e654a6e1a823f14a5d877ea61d8243a2fe1544f0a"), looks := true }, kinds := [], alts := [], laidByText := true, laidKinds := [.data, .data, .data, .data, .sentinel, .sentinel, .pinned], laidTests := true, laidLooks := .later }
def ModsSortUptoCardSaid : Prop := Claim7.holds Tryz.pinned (.plain (OpenSpec.upto modsSortSpec)) modsSortUptoCard

/-- THE SECOND FORM's CARD OF 'bobstaylaw06.ModsChain'. -/
def modsChainUptoCard : Claim7 := { stood := { row := modsChainUptoRow, standIns := [], harness := (true, "8f16d30a4cfdd4d5c20e1d2e654a6e1a823f14a5d877ea61d8243a2fe1544f0a"), looks := true }, kinds := [], alts := [], laidByText := true, laidKinds := [.data, .data, .data, .data, .sentinel, .sentinel, .pinned], laidTests := true, laidLooks := .later }
def ModsChainUptoCardSaid : Prop := Claim7.holds Tryz.pinned (.plain (OpenSpec.upto modsChainSpec)) modsChainUptoCard
end Rows
end Go.Proofs.YtedepknbaakkhaaGreatDoor
