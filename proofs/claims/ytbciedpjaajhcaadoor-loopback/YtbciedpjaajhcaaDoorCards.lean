/-
  DERIVED. GIVEN WITH THE SEED: THE CARDS: each row of YtbciedpjaajhcaaDoorRows.lean that lists a variable, with what it lists TIED to the program's text (the seventh form; the later family's looks); each row that meets fmt, with fmt's text TOLD by the authors' own Lean function (tested against real Go, not proved from fmt's source: count such statements apart). THE CARD IS WHAT COUNTS. Prove the row's statement (the work); the ties are given (YtbciedpjaajhcaaDoorTie.lean); close each card by the builder's one call (the guide's Derived/Test/ToyasCard.lean, 'card_holds'). Laid BY PROGRAM, IN A SANDBOX (cutbox-door.mjs). By AI agents, Wed Nov 11 2026. No macro, syntax, notation, axiom, sorry.
-/
import Derived.Test.YtbciedpjaajhcaaDoorRows
import GoSem.ClaimSeven
namespace Go.Proofs.YtbciedpjaajhcaaDoor
namespace Rows

/-- THE TIED CARD OF 'bobstaylaw12.LoopBack'. -/
def loopBackCard : Claim7 := { stood := { row := loopBackRow, standIns := [], harness := (true, "6c650602232020603b7b9f5bcab341fd7a7f5821946ede06c1aa1ab0f041c4fa"), looks := false }, kinds := [], alts := [], laidByText := true, laidKinds := [.data, .pinned], laidTests := true, laidLooks := .later }
def LoopBackCardSaid : Prop := Claim7.holds Tryd.pinned (.plain (OpenSpec.ofChange loopBackSpec)) loopBackCard

/-- THE TIED CARD OF 'bobstaylaw12.LoopAll'. -/
def loopAllCard : Claim7 := { stood := { row := loopAllRow, standIns := [], harness := (true, "6c650602232020603b7b9f5bcab341fd7a7f5821946ede06c1aa1ab0f041c4fa"), looks := false }, kinds := [], alts := [], laidByText := true, laidKinds := [.data, .pinned], laidTests := true, laidLooks := .later }
def LoopAllCardSaid : Prop := Claim7.holds Tryd.pinned (.plain (OpenSpec.ofChange loopAllSpec)) loopAllCard

/-- THE SECOND FORM's CARD OF 'bobstaylaw12.LoopBack'. -/
def loopBackUptoCard : Claim7 := { stood := { row := loopBackUptoRow, standIns := [], harness := (true, "6c650602232020603b7b9f5bcab341fd7a7f5821946ede06c1aa1ab0f041c4fa"), looks := false }, kinds := [], alts := [], laidByText := true, laidKinds := [.data, .pinned], laidTests := true, laidLooks := .later }
def LoopBackUptoCardSaid : Prop := Claim7.holds Tryd.pinned (.plain (OpenSpec.upto loopBackSpec)) loopBackUptoCard

/-- THE SECOND FORM's CARD OF 'bobstaylaw12.LoopAll'. -/
def loopAllUptoCard : Claim7 := { stood := { row := loopAllUptoRow, standIns := [], harness := (true, "6c650602232020603b7b9f5bcab341fd7a7f5821946ede06c1aa1ab0f041c4fa"), looks := false }, kinds := [], alts := [], laidByText := true, laidKinds := [.data, .pinned], laidTests := true, laidLooks := .later }
def LoopAllUptoCardSaid : Prop := Claim7.holds Tryd.pinned (.plain (OpenSpec.upto loopAllSpec)) loopAllUptoCard
end Rows
end Go.Proofs.YtbciedpjaajhcaaDoor
