/-
  No cell of these rows narrows 'for every input' (looked for: loops, veiled, ifaces, maps, wideKeys, modest, calm, conditions, laid).
  DERIVED. THE GIVEN ROWS OF THIS SEAT. 3 by the template 'for every input the law returns true; each argument reads behind the call as it read before'; 0 by the template 'total and deterministic' (their statements: YtfcoihklihkngaaTotals.lean).
  GIVEN WITH THE SEED: the statements are not yours to turn. If you find one false, say at which input.
  Laid BY PROGRAM, IN A SANDBOX (cutbox-rows.mjs): the forced cells as the released guide's own fill.sh prints them over the translation 886e86671a08d7f5… (all of the seat's roots in one cut). By AI agents, Wed Nov 11 2026. No macro, syntax, notation, axiom, sorry.
-/
import Derived.Test.YtfcoihklihkngaaChecked
import GoSem.Claim
import GoSem.ClaimJoined
import GoSem.ClaimMapViews
import Derived.JoinedTies
import Derived.KernelRfl
namespace Go.Proofs.Ytfcoihklihkngaa
/- THE CELL 'sum', in the pinned program and in every row, IS THE sha256 OF THE DUMP (.gsa) THAT YtfcoihklihkngaaProg.lean LOADS. Nothing in Lean hashes anything: it is a label: what it is worth is what the hold of that sum in a sandbox is worth. -/
noncomputable def Try.pinned : Pinned := { name := "ytfcoihklihkngaa", sum := "886e86671a08d7f57366f32415fe61b4ea976c294c48c96cab668d01ddd7ddb2", checked := Try.checked }
namespace Rows
def none {H : Type} : Left H := { results := [], args := [] }

/-- 'bobstaylaw15.SuffHolds': WHATEVER THE INPUT: true; the input reads as it did. -/
def suffHoldsSpec : ChangeSpec := { name := "suffHolds", fn := fun _ => fun
  | [d1, d2, d3] => { results := [.lit (.bool true)], args := [d1, d2, d3] }
  | _ => none }
def suffHoldsRow : OpenClaim := { program := "ytfcoihklihkngaa", sum := "886e86671a08d7f57366f32415fe61b4ea976c294c48c96cab668d01ddd7ddb2", func := "bobstay/bobstaylaw15.SuffHolds", spec := "suffHolds", apart := false }
def SuffHoldsSaid : Prop := suffHoldsRow.holds Try.pinned (OpenSpec.ofChange suffHoldsSpec)

/-- ITS FALSE NEIGHBOUR: 'it returns false'. Refute it at one input. -/
def suffHoldsWrong : ChangeSpec := { name := "suffHolds", fn := fun _ => fun
  | [d1, d2, d3] => { results := [.lit (.bool false)], args := [d1, d2, d3] }
  | _ => none }
def SuffHoldsWrongFalsely : Prop := suffHoldsRow.holds Try.pinned (OpenSpec.ofChange suffHoldsWrong)

/-- 'bobstaylaw15.SuffMore': WHATEVER THE INPUT: true; the input reads as it did. -/
def suffMoreSpec : ChangeSpec := { name := "suffMore", fn := fun _ => fun
  | [d1, d2, d3] => { results := [.lit (.bool true)], args := [d1, d2, d3] }
  | _ => none }
def suffMoreRow : OpenClaim := { program := "ytfcoihklihkngaa", sum := "886e86671a08d7f57366f32415fe61b4ea976c294c48c96cab668d01ddd7ddb2", func := "bobstay/bobstaylaw15.SuffMore", spec := "suffMore", apart := false }
def SuffMoreSaid : Prop := suffMoreRow.holds Try.pinned (OpenSpec.ofChange suffMoreSpec)

/-- ITS FALSE NEIGHBOUR: 'it returns false'. Refute it at one input. -/
def suffMoreWrong : ChangeSpec := { name := "suffMore", fn := fun _ => fun
  | [d1, d2, d3] => { results := [.lit (.bool false)], args := [d1, d2, d3] }
  | _ => none }
def SuffMoreWrongFalsely : Prop := suffMoreRow.holds Try.pinned (OpenSpec.ofChange suffMoreWrong)

/-- 'bobstaylaw15.SuffSome': WHATEVER THE INPUT: true; the input reads as it did. -/
def suffSomeSpec : ChangeSpec := { name := "suffSome", fn := fun _ => fun
  | [d1, d2, d3] => { results := [.lit (.bool true)], args := [d1, d2, d3] }
  | _ => none }
def suffSomeRow : OpenClaim := { program := "ytfcoihklihkngaa", sum := "886e86671a08d7f57366f32415fe61b4ea976c294c48c96cab668d01ddd7ddb2", func := "bobstay/bobstaylaw15.SuffSome", spec := "suffSome", apart := false }
def SuffSomeSaid : Prop := suffSomeRow.holds Try.pinned (OpenSpec.ofChange suffSomeSpec)

/-- ITS FALSE NEIGHBOUR: 'it returns false'. Refute it at one input. -/
def suffSomeWrong : ChangeSpec := { name := "suffSome", fn := fun _ => fun
  | [d1, d2, d3] => { results := [.lit (.bool false)], args := [d1, d2, d3] }
  | _ => none }
def SuffSomeWrongFalsely : Prop := suffSomeRow.holds Try.pinned (OpenSpec.ofChange suffSomeWrong)

/- THE SECOND FORM. 'bulk': how many values and letters a reading holds, each counted each time it is reached (what is shared counts as often as it is met; a slice's spare places count too). A statement '..UptoSaid' is the law's where the arguments, and the package variables that the reading takes, are together of bulk at most 1048576: NARROWER than '..Said'. Prove '..Said' where nothing that the law and all that it calls make is longer than what came in: it says more and counts as full. Else prove '..UptoSaid'. A law counts once. -/
mutual
def uptoBulk {H : Type} : DataW H → Nat
  | .lit (.string bytes) => bytes.length + 1
  | .lit _ => 1
  | .nil => 1
  | .ptr d => uptoBulk d + 1
  | .slice elems spare => uptoBulkAll elems + uptoBulkAll spare + 1
  | .agg parts => uptoBulkAll parts + 1
  | .iface _ d => uptoBulk d + 1
  | .map entries => uptoBulkEntries entries + 1
  | .held _ => 1
def uptoBulkAll {H : Type} : List (DataW H) → Nat
  | [] => 0
  | d :: r => uptoBulk d + uptoBulkAll r
def uptoBulkEntries {H : Type} : List (Lit × DataW H) → Nat
  | [] => 0
  | x :: r => uptoBulkEntry x + uptoBulkEntries r
def uptoBulkEntry {H : Type} : Lit × DataW H → Nat
  | (.string bytes, d) => bytes.length + uptoBulk d + 1
  | (_, d) => uptoBulk d + 1
 end
def uptoSmall : (H : Type) → List (DataW H) → Bool := fun _ ds => decide (uptoBulkAll ds ≤ 1048576)
def OpenSpec.upto (s : _root_.Go.ChangeSpec) : _root_.Go.OpenSpec := { _root_.Go.OpenSpec.ofChange s with cond := some uptoSmall }

/-- 'bobstaylaw15.SuffHolds', WHERE WHAT IT READS IS OF BULK AT MOST 1048576: true; the input reads as it did. -/
def suffHoldsUptoRow : OpenClaim := { program := "ytfcoihklihkngaa", sum := "886e86671a08d7f57366f32415fe61b4ea976c294c48c96cab668d01ddd7ddb2", func := "bobstay/bobstaylaw15.SuffHolds", spec := "suffHolds", apart := false, narrowed := true }
def SuffHoldsUptoSaid : Prop := suffHoldsUptoRow.holds Try.pinned (OpenSpec.upto suffHoldsSpec)

/-- 'bobstaylaw15.SuffMore', WHERE WHAT IT READS IS OF BULK AT MOST 1048576: true; the input reads as it did. -/
def suffMoreUptoRow : OpenClaim := { program := "ytfcoihklihkngaa", sum := "886e86671a08d7f57366f32415fe61b4ea976c294c48c96cab668d01ddd7ddb2", func := "bobstay/bobstaylaw15.SuffMore", spec := "suffMore", apart := false, narrowed := true }
def SuffMoreUptoSaid : Prop := suffMoreUptoRow.holds Try.pinned (OpenSpec.upto suffMoreSpec)

/-- 'bobstaylaw15.SuffSome', WHERE WHAT IT READS IS OF BULK AT MOST 1048576: true; the input reads as it did. -/
def suffSomeUptoRow : OpenClaim := { program := "ytfcoihklihkngaa", sum := "886e86671a08d7f57366f32415fe61b4ea976c294c48c96cab668d01ddd7ddb2", func := "bobstay/bobstaylaw15.SuffSome", spec := "suffSome", apart := false, narrowed := true }
def SuffSomeUptoSaid : Prop := suffSomeUptoRow.holds Try.pinned (OpenSpec.upto suffSomeSpec)

end Rows
end Go.Proofs.Ytfcoihklihkngaa
