/-
  A world that bears the library's tables and errors as the program's text lays them; and what every start of this seat's statements gives.
-/
import Derived.Test.YtaaiimackjmcnaaDoorCards
import Derived.Test.YtaaiimackjmcnaaDoorTie
import Derived.WalkKit
import Derived.ProofKit
import Derived.OpenShut
import Derived.Deep.DeepHandedRow
import Derived.Deep.DeepLaidRun
import Derived.Lib.LaidTab
import Derived.SizedLaws
import Derived.Shelf.Vars
import Derived.Stop.LaidErr
import Derived.Test.YtaaiimackjmcnaaDoorN6
namespace Go.Proofs.YtaaiimackjmcnaaDoor
open Go.ChangeShapes Go.WideShapes Go.ChangeAt Go.RowKit

theorem own : ownKnob Tryd.prog.godebug = none := by kernel_rfl
theorem laidOut : laidOutB Tryd.prog = true := by kernel_rfl

def lv : DataW Unit → Value
  | .lit (.int k n) => .int k n
  | _ => .int .u8 0
def flat1 : DataW Unit → List Value
  | .agg ps => ps.map lv
  | _ => []
def flat2 : DataW Unit → List Value
  | .agg ps => ps.flatMap flat1
  | _ => []
def laysCells (l : List Value) : Obj → Obj
  | .cells _ t frozen => .cells l.toArray t frozen
  | o => o
/-- The tables and the errors laid into a world. -/
def withTables (w : World) : World :=
  { w with heap := ((((((((w.heap.modify 0 (laysCells [.iface 104 (.pointer (some ⟨w.heap.size, 0, none⟩))])).modify 2 (laysCells [.iface 104 (.pointer (some ⟨w.heap.size + 1, 0, none⟩))])).modify 3 (laysCells (flat1 Rows.laid_internal_strconv_uint64pow10))).modify 4 (laysCells (flat1 Go.Pinned.utf8First))).modify 5 (laysCells (flat2 Rows.laid_unicode_utf8_acceptRanges))).modify 6 (laysCells (flat1 Rows.laid_math_bits_deBruijn32tab))).modify 7 (laysCells (flat1 Rows.laid_math_bits_deBruijn64tab))).push (.cells #[.string ⟨#[118, 97, 108, 117, 101, 32, 111, 117, 116, 32, 111, 102, 32, 114, 97, 110, 103, 101]⟩] 106 (0, 0))).push (.cells #[.string ⟨#[105, 110, 118, 97, 108, 105, 100, 32, 115, 121, 110, 116, 97, 120]⟩] 106 (0, 0)) }

/-- The list that every row of this seat bears. -/
theorem laid_met (os : Os) (args : Array Value) : laidMet Tryd.prog Rows.numBackRow.laid ((withTables (World.holding Tryd.prog os ⟨#[], #[], []⟩)).forCall (fun _ _ => 0) ⟨#[], args, []⟩).memory :=
  laidMet_of_run3 8 (by kernel_rfl) (by kernel_rfl) (by kernel_rfl)

theorem laid_plain {W : World} (h : laidMetH Tryd.prog Rows.numBackRow.laid W) : laidMet Tryd.prog Rows.numBackRow.laid W := by
  have e : (Rows.numBackRow.laid.filter fun x => x.2.handleName?.isSome) = [] := by kernel_rfl
  unfold laidMetH at h
  rw [e] at h
  exact h
theorem laid_list : Rows.numBackRow.laid = ("math/bits.deBruijn32tab", Rows.laid_math_bits_deBruijn32tab) :: ("math/bits.deBruijn64tab", Rows.laid_math_bits_deBruijn64tab) :: ("internal/strconv.uint64pow10", Lib.tabData .u64 Lib.pow10Tab) :: ("unicode/utf8.acceptRanges", Rows.laid_unicode_utf8_acceptRanges) :: ("strconv.ErrRange", .iface "*errors.errorString" (.ptr (.agg [.lit (.string [118, 97, 108, 117, 101, 32, 111, 117, 116, 32, 111, 102, 32, 114, 97, 110, 103, 101])]))) :: ("strconv.ErrSyntax", Rows.laid_strconv_ErrSyntax) :: [("unicode/utf8.first", Rows.laid_unicode_utf8_first)] := by kernel_rfl
theorem tz_of {W : World} (h : laidMetH Tryd.prog Rows.numBackRow.laid W) : N.Tz W := by
  have h1 := laid_plain h
  rw [laid_list] at h1
  exact Lib.tabIs_of_head (g := 3) (t := (Tryd.prog.globals[3]!).type) (n := 20) (e := 52) N.glob3 (by kernel_rfl) (by kernel_rfl) (by kernel_rfl) (by kernel_rfl) (by kernel_rfl) h1.tail.tail
theorem starE : "*" ++ "errors.errorString" = "*errors.errorString" := by decide
theorem er_of {W : World} (h : laidMetH Tryd.prog Rows.numBackRow.laid W) : ∃ a, N.Er a W := by
  have h1 := laid_plain h
  rw [laid_list] at h1
  have glob0 : Tryd.prog.globalNamed "strconv.ErrRange" = some 0 := by kernel_rfl
  obtain ⟨a, s, h2, _⟩ := laid_sentinel (g := 0) (ti := (Tryd.prog.globals[0]!).type) (tp := 104) (te := 106) (ts := 9) (ms := (match Tryd.prog.underlying (Tryd.prog.globals[0]!).type with | some (.interface ms) => ms | _ => #[])) (f := (match Tryd.prog.underlying 106 with | some (.struct fs) => fs[0]! | _ => default)) h1.tail.tail.tail.tail glob0 (by kernel_rfl) (by kernel_rfl) (fun u hu => typeName_ptr_named (nm := "errors.errorString") (by rw [starE]; kernel_rfl) (by kernel_rfl) (by decide) u (by rw [starE]; exact hu)) (by kernel_rfl) (by kernel_rfl) (by kernel_rfl) (by kernel_rfl) (by kernel_rfl) (by kernel_rfl) (by kernel_rfl)
  exact ⟨a, by unfold N.Er; simpa using World.var?_cell glob0 h2 0⟩
theorem gw_of {W : World} (h : laidMetH Tryd.prog Rows.numBackRow.laid W) : ∃ a, N.Gw a W := by
  obtain ⟨a, ha⟩ := er_of h
  exact ⟨a, ha, tz_of h⟩
end Go.Proofs.YtaaiimackjmcnaaDoor
