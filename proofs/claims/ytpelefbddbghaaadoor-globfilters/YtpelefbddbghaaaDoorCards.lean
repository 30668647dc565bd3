/-
  DERIVED. GIVEN WITH THE SEED: THE CARDS: each row of YtpelefbddbghaaaDoorRows.lean that lists a variable, with what it lists TIED to the program's text (the seventh form; the later family's looks); each row that meets fmt, with fmt's text TOLD by the authors' own Lean function (tested against real Go, not proved from fmt's source: count such statements apart). THE CARD IS WHAT COUNTS. Prove the row's statement (the work); the ties are given (YtpelefbddbghaaaDoorTie.lean); close each card by the builder's one call (the guide's Derived/Test/ToyasCard.lean, 'card_holds'). Laid BY PROGRAM, IN A SANDBOX (cutbox-door.mjs). By AI agents, Wed Nov 11 2026. No macro, syntax, notation, axiom, sorry.
-/
import Derived.Test.YtpelefbddbghaaaDoorRows
import GoSem.ClaimSeven
namespace Go.Proofs.YtpelefbddbghaaaDoor
namespace Rows

/-- THE TIED CARD OF 'bobstaylaw01.GlobMatches'. -/
def globMatchesCard : Claim7 := { stood := { row := globMatchesRow, standIns := [], harness := (true, "dc9423e59f3e980d495c9b9acc790de61264b3bd93b77a4b6e9e0bd67cc12cf6"), looks := false }, kinds := [], alts := [], laidByText := true, laidKinds := [.data, .pinned], laidTests := true, laidLooks := .later }
def GlobMatchesCardSaid : Prop := Claim7.holds Tryd.pinned (.plain (OpenSpec.ofChange globMatchesSpec)) globMatchesCard

/-- THE TIED CARD OF 'bobstaylaw01.GlobFilters'. -/
def globFiltersCard : Claim7 := { stood := { row := globFiltersRow, standIns := [], harness := (true, "dc9423e59f3e980d495c9b9acc790de61264b3bd93b77a4b6e9e0bd67cc12cf6"), looks := false }, kinds := [], alts := [], laidByText := true, laidKinds := [.data, .pinned], laidTests := true, laidLooks := .later }
def GlobFiltersCardSaid : Prop := Claim7.holds Tryd.pinned (.plain (OpenSpec.ofChange globFiltersSpec)) globFiltersCard

/-- THE TIED CARD OF 'bobstaylaw01.GlobQuoted'. -/
def globQuotedCard : Claim7 := { stood := { row := globQuotedRow, standIns := [], harness := (true, "dc9423e59f3e980d495c9b9acc790de61264b3bd93b77a4b6e9e0bd67cc12cf6"), looks := false }, kinds := [], alts := [], laidByText := true, laidKinds := [.data, .pinned], laidTests := true, laidLooks := .later }
def GlobQuotedCardSaid : Prop := Claim7.holds Tryd.pinned (.plain (OpenSpec.ofChange globQuotedSpec)) globQuotedCard

/-- THE TIED CARD OF 'bobstaylaw01.GlobAll'. -/
def globAllCard : Claim7 := { stood := { row := globAllRow, standIns := [], harness := (true, "dc9423e59f3e980d495c9b9acc790de61264b3bd93b77a4b6e9e0bd67cc12cf6"), looks := false }, kinds := [], alts := [], laidByText := true, laidKinds := [.data, .pinned], laidTests := true, laidLooks := .later }
def GlobAllCardSaid : Prop := Claim7.holds Tryd.pinned (.plain (OpenSpec.ofChange globAllSpec)) globAllCard

/-- THE TIED CARD OF 'bobstaylaw01.GlobBoth'. -/
def globBothCard : Claim7 := { stood := { row := globBothRow, standIns := [], harness := (true, "dc9423e59f3e980d495c9b9acc790de61264b3bd93b77a4b6e9e0bd67cc12cf6"), looks := false }, kinds := [], alts := [], laidByText := true, laidKinds := [.data, .pinned], laidTests := true, laidLooks := .later }
def GlobBothCardSaid : Prop := Claim7.holds Tryd.pinned (.plain (OpenSpec.ofChange globBothSpec)) globBothCard

/-- THE TIED CARD OF 'bobstaylaw01.GlobParts'. -/
def globPartsCard : Claim7 := { stood := { row := globPartsRow, standIns := [], harness := (true, "dc9423e59f3e980d495c9b9acc790de61264b3bd93b77a4b6e9e0bd67cc12cf6"), looks := false }, kinds := [], alts := [], laidByText := true, laidKinds := [.data, .pinned], laidTests := true, laidLooks := .later }
def GlobPartsCardSaid : Prop := Claim7.holds Tryd.pinned (.plain (OpenSpec.ofChange globPartsSpec)) globPartsCard

/-- THE SECOND FORM's CARD OF 'bobstaylaw01.GlobMatches'. -/
def globMatchesUptoCard : Claim7 := { stood := { row := globMatchesUptoRow, standIns := [], harness := (true, "dc9423e59f3e980d495c9b9acc790de61264b3bd93b77a4b6e9e0bd67cc12cf6"), looks := false }, kinds := [], alts := [], laidByText := true, laidKinds := [.data, .pinned], laidTests := true, laidLooks := .later }
def GlobMatchesUptoCardSaid : Prop := Claim7.holds Tryd.pinned (.plain (OpenSpec.upto globMatchesSpec)) globMatchesUptoCard

/-- THE SECOND FORM's CARD OF 'bobstaylaw01.GlobFilters'. -/
def globFiltersUptoCard : Claim7 := { stood := { row := globFiltersUptoRow, standIns := [], harness := (true, "dc9423e59f3e980d495c9b9acc790de61264b3bd93b77a4b6e9e0bd67cc12cf6"), looks := false }, kinds := [], alts := [], laidByText := true, laidKinds := [.data, .pinned], laidTests := true, laidLooks := .later }
def GlobFiltersUptoCardSaid : Prop := Claim7.holds Tryd.pinned (.plain (OpenSpec.upto globFiltersSpec)) globFiltersUptoCard

/-- THE SECOND FORM's CARD OF 'bobstaylaw01.GlobQuoted'. -/
def globQuotedUptoCard : Claim7 := { stood := { row := globQuotedUptoRow, standIns := [], harness := (true, "dc9423e59f3e980d495c9b9acc790de61264b3bd93b77a4b6e9e0bd67cc12cf6"), looks := false }, kinds := [], alts := [], laidByText := true, laidKinds := [.data, .pinned], laidTests := true, laidLooks := .later }
def GlobQuotedUptoCardSaid : Prop := Claim7.holds Tryd.pinned (.plain (OpenSpec.upto globQuotedSpec)) globQuotedUptoCard

/-- THE SECOND FORM's CARD OF 'bobstaylaw01.GlobAll'. -/
def globAllUptoCard : Claim7 := { stood := { row := globAllUptoRow, standIns := [], harness := (true, "dc9423e59f3e980d495c9b9acc790de61264b3bd93b77a4b6e9e0bd67cc12cf6"), looks := false }, kinds := [], alts := [], laidByText := true, laidKinds := [.data, .pinned], laidTests := true, laidLooks := .later }
def GlobAllUptoCardSaid : Prop := Claim7.holds Tryd.pinned (.plain (OpenSpec.upto globAllSpec)) globAllUptoCard

/-- THE SECOND FORM's CARD OF 'bobstaylaw01.GlobBoth'. -/
def globBothUptoCard : Claim7 := { stood := { row := globBothUptoRow, standIns := [], harness := (true, "dc9423e59f3e980d495c9b9acc790de61264b3bd93b77a4b6e9e0bd67cc12cf6"), looks := false }, kinds := [], alts := [], laidByText := true, laidKinds := [.data, .pinned], laidTests := true, laidLooks := .later }
def GlobBothUptoCardSaid : Prop := Claim7.holds Tryd.pinned (.plain (OpenSpec.upto globBothSpec)) globBothUptoCard

/-- THE SECOND FORM's CARD OF 'bobstaylaw01.GlobParts'. -/
def globPartsUptoCard : Claim7 := { stood := { row := globPartsUptoRow, standIns := [], harness := (true, "dc9423e59f3e980d495c9b9acc790de61264b3bd93b77a4b6e9e0bd67cc12cf6"), looks := false }, kinds := [], alts := [], laidByText := true, laidKinds := [.data, .pinned], laidTests := true, laidLooks := .later }
def GlobPartsUptoCardSaid : Prop := Claim7.holds Tryd.pinned (.plain (OpenSpec.upto globPartsSpec)) globPartsUptoCard
end Rows
end Go.Proofs.YtpelefbddbghaaaDoor
