/-
  DERIVED. GIVEN WITH THE SEED: THE CARDS: each row of YtllpbehhbpefjaaDoorRows.lean that lists a variable, with what it lists TIED to the program's text (the seventh form; the later family's looks); each row that meets fmt, with fmt's text TOLD by the authors' own Lean function (tested against real Go, not proved from fmt's source: count such statements apart). THE CARD IS WHAT COUNTS. Prove the row's statement (the work); the ties are given (YtllpbehhbpefjaaDoorTie.lean); close each card by the builder's one call (the guide's Derived/Test/ToyasCard.lean, 'card_holds'). Laid BY PROGRAM, IN A SANDBOX (cutbox-door.mjs). By AI agents, Wed Nov 11 2026. No macro, syntax, notation, axiom, sorry.
-/
import Derived.Test.YtllpbehhbpefjaaDoorRows
import GoSem.ClaimSeven
namespace Go.Proofs.YtllpbehhbpefjaaDoor
namespace Rows

/-- THE TIED CARD OF 'bobstaylaw12.LoopBuilds'. -/
def loopBuildsCard : Claim7 := { stood := { row := loopBuildsRow, standIns := [], harness := (true, "08cd9f8112adbb221072526befa948e63c5afd7a82819d54f8a57e2317c18495"), looks := false }, kinds := [], alts := [], laidByText := true, laidKinds := [.data, .pinned], laidTests := true, laidLooks := .later }
def LoopBuildsCardSaid : Prop := Claim7.holds Tryd.pinned (.plain (OpenSpec.ofChange loopBuildsSpec)) loopBuildsCard

/-- THE TIED CARD OF 'bobstaylaw12.LoopBinds'. -/
def loopBindsCard : Claim7 := { stood := { row := loopBindsRow, standIns := [], harness := (true, "08cd9f8112adbb221072526befa948e63c5afd7a82819d54f8a57e2317c18495"), looks := false }, kinds := [], alts := [], laidByText := true, laidKinds := [.data, .pinned], laidTests := true, laidLooks := .later }
def LoopBindsCardSaid : Prop := Claim7.holds Tryd.pinned (.plain (OpenSpec.ofChange loopBindsSpec)) loopBindsCard

/-- THE TIED CARD OF 'bobstaylaw12.LoopRounds'. -/
def loopRoundsCard : Claim7 := { stood := { row := loopRoundsRow, standIns := [], harness := (true, "08cd9f8112adbb221072526befa948e63c5afd7a82819d54f8a57e2317c18495"), looks := false }, kinds := [], alts := [], laidByText := true, laidKinds := [.data, .pinned], laidTests := true, laidLooks := .later }
def LoopRoundsCardSaid : Prop := Claim7.holds Tryd.pinned (.plain (OpenSpec.ofChange loopRoundsSpec)) loopRoundsCard

/-- THE TIED CARD OF 'bobstaylaw12.LoopBack'. -/
def loopBackCard : Claim7 := { stood := { row := loopBackRow, standIns := [], harness := (true, "08cd9f8112adbb221072526befa948e63c5afd7a82819d54f8a57e2317c18495"), looks := false }, kinds := [], alts := [], laidByText := true, laidKinds := [.data, .pinned], laidTests := true, laidLooks := .later }
def LoopBackCardSaid : Prop := Claim7.holds Tryd.pinned (.plain (OpenSpec.ofChange loopBackSpec)) loopBackCard

/-- THE TIED CARD OF 'bobstaylaw12.LoopUnused'. -/
def loopUnusedCard : Claim7 := { stood := { row := loopUnusedRow, standIns := [], harness := (true, "08cd9f8112adbb221072526befa948e63c5afd7a82819d54f8a57e2317c18495"), looks := false }, kinds := [], alts := [], laidByText := true, laidKinds := [.data, .pinned], laidTests := true, laidLooks := .later }
def LoopUnusedCardSaid : Prop := Claim7.holds Tryd.pinned (.plain (OpenSpec.ofChange loopUnusedSpec)) loopUnusedCard

/-- THE SECOND FORM's CARD OF 'bobstaylaw12.LoopBuilds'. -/
def loopBuildsUptoCard : Claim7 := { stood := { row := loopBuildsUptoRow, standIns := [], harness := (true, "08cd9f8112adbb221072526befa948e63c5afd7a82819d54f8a57e2317c18495"), looks := false }, kinds := [], alts := [], laidByText := true, laidKinds := [.data, .pinned], laidTests := true, laidLooks := .later }
def LoopBuildsUptoCardSaid : Prop := Claim7.holds Tryd.pinned (.plain (OpenSpec.upto loopBuildsSpec)) loopBuildsUptoCard

/-- THE SECOND FORM's CARD OF 'bobstaylaw12.LoopBinds'. -/
def loopBindsUptoCard : Claim7 := { stood := { row := loopBindsUptoRow, standIns := [], harness := (true, "08cd9f8112adbb221072526befa948e63c5afd7a82819d54f8a57e2317c18495"), looks := false }, kinds := [], alts := [], laidByText := true, laidKinds := [.data, .pinned], laidTests := true, laidLooks := .later }
def LoopBindsUptoCardSaid : Prop := Claim7.holds Tryd.pinned (.plain (OpenSpec.upto loopBindsSpec)) loopBindsUptoCard

/-- THE SECOND FORM's CARD OF 'bobstaylaw12.LoopRounds'. -/
def loopRoundsUptoCard : Claim7 := { stood := { row := loopRoundsUptoRow, standIns := [], harness := (true, "08cd9f8112adbb221072526befa948e63c5afd7a82819d54f8a57e2317c18495"), looks := false }, kinds := [], alts := [], laidByText := true, laidKinds := [.data, .pinned], laidTests := true, laidLooks := .later }
def LoopRoundsUptoCardSaid : Prop := Claim7.holds Tryd.pinned (.plain (OpenSpec.upto loopRoundsSpec)) loopRoundsUptoCard

/-- THE SECOND FORM's CARD OF 'bobstaylaw12.LoopBack'. -/
def loopBackUptoCard : Claim7 := { stood := { row := loopBackUptoRow, standIns := [], harness := (true, "08cd9f8112adbb221072526befa948e63c5afd7a82819d54f8a57e2317c18495"), looks := false }, kinds := [], alts := [], laidByText := true, laidKinds := [.data, .pinned], laidTests := true, laidLooks := .later }
def LoopBackUptoCardSaid : Prop := Claim7.holds Tryd.pinned (.plain (OpenSpec.upto loopBackSpec)) loopBackUptoCard

/-- THE SECOND FORM's CARD OF 'bobstaylaw12.LoopUnused'. -/
def loopUnusedUptoCard : Claim7 := { stood := { row := loopUnusedUptoRow, standIns := [], harness := (true, "08cd9f8112adbb221072526befa948e63c5afd7a82819d54f8a57e2317c18495"), looks := false }, kinds := [], alts := [], laidByText := true, laidKinds := [.data, .pinned], laidTests := true, laidLooks := .later }
def LoopUnusedUptoCardSaid : Prop := Claim7.holds Tryd.pinned (.plain (OpenSpec.upto loopUnusedSpec)) loopUnusedUptoCard
end Rows
end Go.Proofs.YtllpbehhbpefjaaDoor
