/-
  A world that bears the library's tables and errors as the program's text lays them; and what every start of this seat's statements gives.
-/
import Derived.Test.YtedepknbaakkhabGreatDoorCards
import Derived.Test.YtedepknbaakkhabGreatDoorTie
import Derived.WalkKit
import Derived.ProofKit
import Derived.OpenShut
import Derived.Deep.DeepHandedRow
import Derived.Deep.DeepLaidRun
import Derived.Lib.LaidTab
import Derived.SizedLaws
import Derived.Shelf.Vars
import Derived.Test.YtedepknbaakkhabGreatDoorMB5
namespace Go.Proofs.YtedepknbaakkhabGreatDoor
open Go.ChangeShapes Go.WideShapes Go.ChangeAt Go.RowKit

theorem own : ownKnob Tryz.prog.godebug = none := by kernel_rfl
theorem laidOut : laidOutB Tryz.prog = true := by kernel_rfl

def lv : DataW Unit → Value
  | .lit (.int k n) => .int k n
  | _ => .int .u8 0
def flat1 : DataW Unit → List Value
  | .agg ps => ps.map lv
  | _ => []
def flat2 : DataW Unit → List Value
  | .agg ps => ps.flatMap flat1
  | _ => []
def laysCells (l : List Value) : Obj → Obj
  | .cells _ t frozen => .cells l.toArray t frozen
  | o => o
/-- The tables and the errors laid into a world. -/
def withTables (w : World) : World :=
  { w with heap := ((((((((w.heap.modify 1 (laysCells (flat1 Go.Pinned.utf8First))).modify 2 (laysCells (flat2 Rows.laid_unicode_utf8_acceptRanges))).modify 3 (laysCells (flat1 Rows.laid_internal_strconv_uint64pow10))).modify 4 (laysCells [.iface 229 (.pointer (some ⟨w.heap.size, 0, none⟩))])).modify 5 (laysCells [.iface 229 (.pointer (some ⟨w.heap.size + 1, 0, none⟩))])).modify 6 (laysCells (flat1 Rows.laid_math_bits_deBruijn32tab))).modify 7 (laysCells (flat1 Rows.laid_math_bits_deBruijn64tab))).push (.cells #[.string ⟨#[105, 110, 118, 97, 108, 105, 100, 32, 115, 121, 110, 116, 97, 120]⟩] 231 (0, 0))).push (.cells #[.string ⟨#[118, 97, 108, 117, 101, 32, 111, 117, 116, 32, 111, 102, 32, 114, 97, 110, 103, 101]⟩] 231 (0, 0)) }

/-- The list that every row of this seat bears. -/
theorem laid_met (os : Os) (args : Array Value) : laidMet Tryz.prog Rows.modsApplyRow.laid ((withTables (World.holding Tryz.prog os ⟨#[], #[], []⟩)).forCall (fun _ _ => 0) ⟨#[], args, []⟩).memory :=
  laidMet_of_run3 8 (by kernel_rfl) (by kernel_rfl) (by kernel_rfl)

/-- MaxLen's cell holds a number, whatever the start. -/
theorem mx_of {W : World} (h : W.ShapedOpen Tryz.prog) : Mx W :=
  cell_of_shapedOpen_int (t := 3) (zero := #[.int .i64 0]) (k := .i64) h (by decide +kernel) (by kernel_rfl) rfl (by kernel_rfl) (by kernel_rfl) Tryz.underlying3
end Go.Proofs.YtedepknbaakkhabGreatDoor
