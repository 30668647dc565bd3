/-
  MgRefOne MgRefIn MgRefFirst MgPlain2 MgRefMatch
-/
import Derived.Test.YtedepknbaakkhaaGreatDoorJ03
import Derived.Test.YtedepknbaakkhaaGreatDoorJ01
import Derived.Deep.OwnRows
namespace Go.Proofs.YtedepknbaakkhaaGreatDoor.GR
open Go.RowKit
end Go.Proofs.YtedepknbaakkhaaGreatDoor.GR
namespace Go.Proofs.YtedepknbaakkhaaGreatDoor.GR
open Go.RowKit
end Go.Proofs.YtedepknbaakkhaaGreatDoor.GR
namespace Go.Proofs.YtedepknbaakkhaaGreatDoor.GR
open Go.RowKit
end Go.Proofs.YtedepknbaakkhaaGreatDoor.GR
namespace Go.Proofs.YtedepknbaakkhaaGreatDoor.G
end Go.Proofs.YtedepknbaakkhaaGreatDoor.G
namespace Go.Proofs.YtedepknbaakkhaaGreatDoor.GR
open Go.RowKit
end Go.Proofs.YtedepknbaakkhaaGreatDoor.GR
