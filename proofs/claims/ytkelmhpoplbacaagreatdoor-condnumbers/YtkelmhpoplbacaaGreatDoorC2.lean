/-
  What the document's skip does.
-/
import Derived.Test.YtkelmhpoplbacaaGreatDoorC1
namespace Go.Proofs.YtkelmhpoplbacaaGreatDoor.Cd
open Go.RowKit Go.Shelf Ex

end Go.Proofs.YtkelmhpoplbacaaGreatDoor.Cd
