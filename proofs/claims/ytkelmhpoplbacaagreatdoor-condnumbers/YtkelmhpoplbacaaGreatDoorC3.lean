/-
  What the document's next does.
-/
import Derived.Test.YtkelmhpoplbacaaGreatDoorC2
import Derived.Lib.Strings
namespace Go.Proofs.YtkelmhpoplbacaaGreatDoor.Cd
open Go.RowKit Go.Shelf Ex

/-- Does a text come next, behind blanks? And the place then. -/
def nextP (T : List UInt8) (a : Nat) (p : List UInt8) : Bool × Nat := if p.isPrefixOf (T.drop (skipP T a)) then (true, skipP T a + p.length) else (false, skipP T a)
theorem pre_take {T p : List UInt8} (h : p.length ≤ T.length) : p.isPrefixOf T = (T.take p.length == p) := by
  rw [Bool.eq_iff_iff, List.isPrefixOf_iff_prefix, beq_iff_eq]
  constructor
  · rintro ⟨t, rfl⟩; simp
  · intro e; exact ⟨T.drop p.length, by conv => lhs; lhs; rw [← e]
                                        exact List.take_append_drop _ _⟩
theorem pre_short {T p : List UInt8} (h : T.length < p.length) : p.isPrefixOf T = false := by
  rw [Bool.eq_false_iff]
  intro e
  rw [List.isPrefixOf_iff_prefix] at e
  have := e.length_le
  omega
theorem slc (s : ByteArray) (a b : Nat) (h1 : a ≤ b) (h2 : b ≤ s.size) (i j : Int) (hi : i = (a : Int)) (hj : j = (b : Int)) (W : World) : (Instr.slice 9 (.string s) (some (.int .i64 i)) (some (.int .i64 j)) none).run Tryz.prog W = .ok (.string (s.extract a b)) W := by
  subst hi hj
  rw [run_slice_string_if W 9 s .i64 .i64 _ _ Tryz.underlying9, if_pos ⟨by omega, by omega⟩, if_pos ⟨by omega, by omega⟩]
  simp
end Go.Proofs.YtkelmhpoplbacaaGreatDoor.Cd
