/-
  What every start of this seat's statements gives of the table of tens and of the error of syntax.
-/
import Derived.Test.YtedepknbaakkhabGreatDoorMWorldB
import Derived.Stop.LaidErr
namespace Go.Proofs.YtedepknbaakkhabGreatDoor
open Go.RowKit Go.ChangeShapes

theorem laid_plain {W : World} (h : laidMetH Tryz.prog Rows.modsApplyRow.laid W) : laidMet Tryz.prog Rows.modsApplyRow.laid W := by
  have e : (Rows.modsApplyRow.laid.filter fun x => x.2.handleName?.isSome) = [] := by kernel_rfl
  unfold laidMetH at h
  rw [e] at h
  exact h
theorem laid_list : Rows.modsApplyRow.laid = ("math/bits.deBruijn32tab", Rows.laid_math_bits_deBruijn32tab) :: ("math/bits.deBruijn64tab", Rows.laid_math_bits_deBruijn64tab) :: ("internal/strconv.uint64pow10", Lib.tabData .u64 Lib.pow10Tab) :: ("unicode/utf8.acceptRanges", Rows.laid_unicode_utf8_acceptRanges) :: ("strconv.ErrRange", Rows.laid_strconv_ErrRange) :: ("strconv.ErrSyntax", .iface "*errors.errorString" (.ptr (.agg [.lit (.string [105, 110, 118, 97, 108, 105, 100, 32, 115, 121, 110, 116, 97, 120])]))) :: [("unicode/utf8.first", Rows.laid_unicode_utf8_first)] := by kernel_rfl
theorem tz_of {W : World} (h : laidMetH Tryz.prog Rows.modsApplyRow.laid W) : Tz W := by
  have h1 := laid_plain h
  rw [laid_list] at h1
  exact Lib.tabIs_of_head (g := 3) (t := (Tryz.prog.globals[3]!).type) (n := 20) (e := 138) glob3 (by kernel_rfl) (by kernel_rfl) (by kernel_rfl) (by kernel_rfl) (by kernel_rfl) h1.tail.tail
theorem starE : "*" ++ "errors.errorString" = "*errors.errorString" := by decide
theorem ey_of {W : World} (h : laidMetH Tryz.prog Rows.modsApplyRow.laid W) : Ey W := by
  have h1 := laid_plain h
  rw [laid_list] at h1
  have glob4 : Tryz.prog.globalNamed "strconv.ErrSyntax" = some 4 := by kernel_rfl
  obtain ⟨a, s, h2, _⟩ := laid_sentinel (g := 4) (ti := (Tryz.prog.globals[4]!).type) (tp := 229) (te := 231) (ts := 9) (ms := (match Tryz.prog.underlying (Tryz.prog.globals[4]!).type with | some (.interface ms) => ms | _ => #[])) (f := (match Tryz.prog.underlying 231 with | some (.struct fs) => fs[0]! | _ => default)) h1.tail.tail.tail.tail.tail glob4 (by kernel_rfl) (by kernel_rfl) (fun u hu => typeName_ptr_named (nm := "errors.errorString") (by rw [starE]; kernel_rfl) (by kernel_rfl) (by decide) u (by rw [starE]; exact hu)) (by kernel_rfl) (by kernel_rfl) (by kernel_rfl) (by kernel_rfl) (by kernel_rfl) (by kernel_rfl) (by kernel_rfl)
  refine ⟨_, by simpa using World.var?_cell glob4 h2 0, .inr ⟨_, _, rfl⟩⟩
end Go.Proofs.YtedepknbaakkhabGreatDoor
