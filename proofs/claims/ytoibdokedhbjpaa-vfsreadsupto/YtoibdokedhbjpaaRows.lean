/-
  No cell of these rows narrows 'for every input' (looked for: loops, veiled, ifaces, maps, wideKeys, modest, calm, conditions, laid).
  DERIVED. THE GIVEN ROWS OF THIS SEAT. 5 by the template 'for every input the law returns true; each argument reads behind the call as it read before'; 0 by the template 'total and deterministic' (their statements: YtoibdokedhbjpaaTotals.lean).
  GIVEN WITH THE SEED: the statements are not yours to turn. If you find one false, say at which input.
  Laid BY PROGRAM, IN A SANDBOX (cutbox-rows.mjs): the forced cells as the released guide's own fill.sh prints them over the translation 0b4631c59c8d16b6… (all of the seat's roots in one cut). By AI agents, Wed Nov 11 2026. No macro, syntax, notation, axiom, sorry.
-/
import Derived.Test.YtoibdokedhbjpaaChecked
import GoSem.Claim
import GoSem.ClaimJoined
import GoSem.ClaimMapViews
import Derived.JoinedTies
import Derived.KernelRfl
namespace Go.Proofs.Ytoibdokedhbjpaa
/- THE CELL 'sum', in the pinned program and in every row, IS THE sha256 OF THE DUMP (.gsa) THAT YtoibdokedhbjpaaProg.lean LOADS. Nothing in Lean hashes anything: it is a label: what it is worth is what the hold of that sum in a sandbox is worth. -/
noncomputable def Try.pinned : Pinned := { name := "ytoibdokedhbjpaa", sum := "0b4631c59c8d16b6fa854a0b20d7efc2416d7f7be49abaa30ce94fa0601edb71", checked := Try.checked }
namespace Rows
def none {H : Type} : Left H := { results := [], args := [] }

/-- 'bobstaylaw03.VfsReads': WHATEVER THE INPUT: true; the input reads as it did. -/
def vfsReadsSpec : ChangeSpec := { name := "vfsReads", fn := fun _ => fun
  | [d1, d2, d3] => { results := [.lit (.bool true)], args := [d1, d2, d3] }
  | _ => none }
def vfsReadsRow : OpenClaim := { program := "ytoibdokedhbjpaa", sum := "0b4631c59c8d16b6fa854a0b20d7efc2416d7f7be49abaa30ce94fa0601edb71", func := "bobstay/bobstaylaw03.VfsReads", spec := "vfsReads", inPlace := ["internal/abi.NoEscape", "internal/bytealg.MakeNoZero", "internal/bytealg.IndexByteString", "internal/bytealg.IndexString", "sync/atomic.AddInt64", "sync/atomic.LoadInt64", "maps.clone", "sync/atomic.StoreInt64"], unfollowed := true, recurses := true, named := ["internal/bytealg.MaxLen"], apart := false }
def VfsReadsSaid : Prop := vfsReadsRow.holds Try.pinned (OpenSpec.ofChange vfsReadsSpec)

/-- ITS FALSE NEIGHBOUR: 'it returns false'. Refute it at one input. -/
def vfsReadsWrong : ChangeSpec := { name := "vfsReads", fn := fun _ => fun
  | [d1, d2, d3] => { results := [.lit (.bool false)], args := [d1, d2, d3] }
  | _ => none }
def VfsReadsWrongFalsely : Prop := vfsReadsRow.holds Try.pinned (OpenSpec.ofChange vfsReadsWrong)

/-- 'bobstaylaw03.VfsYoung': WHATEVER THE INPUT: true; the input reads as it did. -/
def vfsYoungSpec : ChangeSpec := { name := "vfsYoung", fn := fun _ => fun
  | [d1, d2] => { results := [.lit (.bool true)], args := [d1, d2] }
  | _ => none }
def vfsYoungRow : OpenClaim := { program := "ytoibdokedhbjpaa", sum := "0b4631c59c8d16b6fa854a0b20d7efc2416d7f7be49abaa30ce94fa0601edb71", func := "bobstay/bobstaylaw03.VfsYoung", spec := "vfsYoung", inPlace := ["internal/abi.NoEscape", "internal/bytealg.MakeNoZero", "internal/bytealg.IndexByteString", "internal/bytealg.IndexString", "sync/atomic.AddInt64", "sync/atomic.LoadInt64"], unfollowed := true, recurses := true, named := ["internal/bytealg.MaxLen"], apart := false }
def VfsYoungSaid : Prop := vfsYoungRow.holds Try.pinned (OpenSpec.ofChange vfsYoungSpec)

/-- ITS FALSE NEIGHBOUR: 'it returns false'. Refute it at one input. -/
def vfsYoungWrong : ChangeSpec := { name := "vfsYoung", fn := fun _ => fun
  | [d1, d2] => { results := [.lit (.bool false)], args := [d1, d2] }
  | _ => none }
def VfsYoungWrongFalsely : Prop := vfsYoungRow.holds Try.pinned (OpenSpec.ofChange vfsYoungWrong)

/-- 'bobstaylaw03.VfsRefused': WHATEVER THE INPUT: true; the input reads as it did. -/
def vfsRefusedSpec : ChangeSpec := { name := "vfsRefused", fn := fun _ => fun
  | [d1, d2, d3] => { results := [.lit (.bool true)], args := [d1, d2, d3] }
  | _ => none }
def vfsRefusedRow : OpenClaim := { program := "ytoibdokedhbjpaa", sum := "0b4631c59c8d16b6fa854a0b20d7efc2416d7f7be49abaa30ce94fa0601edb71", func := "bobstay/bobstaylaw03.VfsRefused", spec := "vfsRefused", inPlace := ["internal/abi.NoEscape", "internal/bytealg.MakeNoZero", "internal/bytealg.IndexByteString", "internal/bytealg.IndexString", "sync/atomic.AddInt64", "sync/atomic.LoadInt64", "maps.clone", "sync/atomic.StoreInt64"], unfollowed := true, recurses := true, named := ["internal/bytealg.MaxLen"], apart := false }
def VfsRefusedSaid : Prop := vfsRefusedRow.holds Try.pinned (OpenSpec.ofChange vfsRefusedSpec)

/-- ITS FALSE NEIGHBOUR: 'it returns false'. Refute it at one input. -/
def vfsRefusedWrong : ChangeSpec := { name := "vfsRefused", fn := fun _ => fun
  | [d1, d2, d3] => { results := [.lit (.bool false)], args := [d1, d2, d3] }
  | _ => none }
def VfsRefusedWrongFalsely : Prop := vfsRefusedRow.holds Try.pinned (OpenSpec.ofChange vfsRefusedWrong)

/-- 'bobstaylaw03.VfsCopies': WHATEVER THE INPUT: true; the input reads as it did. -/
def vfsCopiesSpec : ChangeSpec := { name := "vfsCopies", fn := fun _ => fun
  | [d1, d2, d3] => { results := [.lit (.bool true)], args := [d1, d2, d3] }
  | _ => none }
def vfsCopiesRow : OpenClaim := { program := "ytoibdokedhbjpaa", sum := "0b4631c59c8d16b6fa854a0b20d7efc2416d7f7be49abaa30ce94fa0601edb71", func := "bobstay/bobstaylaw03.VfsCopies", spec := "vfsCopies", inPlace := ["internal/abi.NoEscape", "internal/bytealg.MakeNoZero", "internal/bytealg.IndexByteString", "internal/bytealg.IndexString", "sync/atomic.AddInt64", "sync/atomic.LoadInt64", "maps.clone", "sync/atomic.StoreInt64"], unfollowed := true, recurses := true, named := ["internal/bytealg.MaxLen"], apart := false }
def VfsCopiesSaid : Prop := vfsCopiesRow.holds Try.pinned (OpenSpec.ofChange vfsCopiesSpec)

/-- ITS FALSE NEIGHBOUR: 'it returns false'. Refute it at one input. -/
def vfsCopiesWrong : ChangeSpec := { name := "vfsCopies", fn := fun _ => fun
  | [d1, d2, d3] => { results := [.lit (.bool false)], args := [d1, d2, d3] }
  | _ => none }
def VfsCopiesWrongFalsely : Prop := vfsCopiesRow.holds Try.pinned (OpenSpec.ofChange vfsCopiesWrong)

/-- 'bobstaylaw03.VfsNobody': WHATEVER THE INPUT: true; the input reads as it did. -/
def vfsNobodySpec : ChangeSpec := { name := "vfsNobody", fn := fun _ => fun
  | [d] => { results := [.lit (.bool true)], args := [d] }
  | _ => none }
def vfsNobodyRow : OpenClaim := { program := "ytoibdokedhbjpaa", sum := "0b4631c59c8d16b6fa854a0b20d7efc2416d7f7be49abaa30ce94fa0601edb71", func := "bobstay/bobstaylaw03.VfsNobody", spec := "vfsNobody", inPlace := ["internal/abi.NoEscape", "internal/bytealg.MakeNoZero", "internal/bytealg.IndexByteString", "internal/bytealg.IndexString", "sync/atomic.LoadInt64", "sync/atomic.AddInt64", "maps.clone", "sync/atomic.StoreInt64"], unfollowed := true, recurses := true, named := ["internal/bytealg.MaxLen"], apart := false }
def VfsNobodySaid : Prop := vfsNobodyRow.holds Try.pinned (OpenSpec.ofChange vfsNobodySpec)

/-- ITS FALSE NEIGHBOUR: 'it returns false'. Refute it at one input. -/
def vfsNobodyWrong : ChangeSpec := { name := "vfsNobody", fn := fun _ => fun
  | [d] => { results := [.lit (.bool false)], args := [d] }
  | _ => none }
def VfsNobodyWrongFalsely : Prop := vfsNobodyRow.holds Try.pinned (OpenSpec.ofChange vfsNobodyWrong)

/- THE SECOND FORM. 'bulk': how many values and letters a reading holds, each counted each time it is reached (what is shared counts as often as it is met; a slice's spare places count too). A statement '..UptoSaid' is the law's where the arguments, and the package variables that the reading takes, are together of bulk at most 1048576: NARROWER than '..Said'. Prove '..Said' where nothing that the law and all that it calls make is longer than what came in: it says more and counts as full. Else prove '..UptoSaid'. A law counts once. -/
mutual
def uptoBulk {H : Type} : DataW H → Nat
  | .lit (.string bytes) => bytes.length + 1
  | .lit _ => 1
  | .nil => 1
  | .ptr d => uptoBulk d + 1
  | .slice elems spare => uptoBulkAll elems + uptoBulkAll spare + 1
  | .agg parts => uptoBulkAll parts + 1
  | .iface _ d => uptoBulk d + 1
  | .map entries => uptoBulkEntries entries + 1
  | .held _ => 1
def uptoBulkAll {H : Type} : List (DataW H) → Nat
  | [] => 0
  | d :: r => uptoBulk d + uptoBulkAll r
def uptoBulkEntries {H : Type} : List (Lit × DataW H) → Nat
  | [] => 0
  | x :: r => uptoBulkEntry x + uptoBulkEntries r
def uptoBulkEntry {H : Type} : Lit × DataW H → Nat
  | (.string bytes, d) => bytes.length + uptoBulk d + 1
  | (_, d) => uptoBulk d + 1
 end
def uptoSmall : (H : Type) → List (DataW H) → Bool := fun _ ds => decide (uptoBulkAll ds ≤ 1048576)
def OpenSpec.upto (s : _root_.Go.ChangeSpec) : _root_.Go.OpenSpec := { _root_.Go.OpenSpec.ofChange s with cond := some uptoSmall }

/-- 'bobstaylaw03.VfsReads', WHERE WHAT IT READS IS OF BULK AT MOST 1048576: true; the input reads as it did. -/
def vfsReadsUptoRow : OpenClaim := { program := "ytoibdokedhbjpaa", sum := "0b4631c59c8d16b6fa854a0b20d7efc2416d7f7be49abaa30ce94fa0601edb71", func := "bobstay/bobstaylaw03.VfsReads", spec := "vfsReads", inPlace := ["internal/abi.NoEscape", "internal/bytealg.MakeNoZero", "internal/bytealg.IndexByteString", "internal/bytealg.IndexString", "sync/atomic.AddInt64", "sync/atomic.LoadInt64", "maps.clone", "sync/atomic.StoreInt64"], unfollowed := true, recurses := true, named := ["internal/bytealg.MaxLen"], apart := false, narrowed := true }
def VfsReadsUptoSaid : Prop := vfsReadsUptoRow.holds Try.pinned (OpenSpec.upto vfsReadsSpec)

/-- 'bobstaylaw03.VfsYoung', WHERE WHAT IT READS IS OF BULK AT MOST 1048576: true; the input reads as it did. -/
def vfsYoungUptoRow : OpenClaim := { program := "ytoibdokedhbjpaa", sum := "0b4631c59c8d16b6fa854a0b20d7efc2416d7f7be49abaa30ce94fa0601edb71", func := "bobstay/bobstaylaw03.VfsYoung", spec := "vfsYoung", inPlace := ["internal/abi.NoEscape", "internal/bytealg.MakeNoZero", "internal/bytealg.IndexByteString", "internal/bytealg.IndexString", "sync/atomic.AddInt64", "sync/atomic.LoadInt64"], unfollowed := true, recurses := true, named := ["internal/bytealg.MaxLen"], apart := false, narrowed := true }
def VfsYoungUptoSaid : Prop := vfsYoungUptoRow.holds Try.pinned (OpenSpec.upto vfsYoungSpec)

/-- 'bobstaylaw03.VfsRefused', WHERE WHAT IT READS IS OF BULK AT MOST 1048576: true; the input reads as it did. -/
def vfsRefusedUptoRow : OpenClaim := { program := "ytoibdokedhbjpaa", sum := "0b4631c59c8d16b6fa854a0b20d7efc2416d7f7be49abaa30ce94fa0601edb71", func := "bobstay/bobstaylaw03.VfsRefused", spec := "vfsRefused", inPlace := ["internal/abi.NoEscape", "internal/bytealg.MakeNoZero", "internal/bytealg.IndexByteString", "internal/bytealg.IndexString", "sync/atomic.AddInt64", "sync/atomic.LoadInt64", "maps.clone", "sync/atomic.StoreInt64"], unfollowed := true, recurses := true, named := ["internal/bytealg.MaxLen"], apart := false, narrowed := true }
def VfsRefusedUptoSaid : Prop := vfsRefusedUptoRow.holds Try.pinned (OpenSpec.upto vfsRefusedSpec)

/-- 'bobstaylaw03.VfsCopies', WHERE WHAT IT READS IS OF BULK AT MOST 1048576: true; the input reads as it did. -/
def vfsCopiesUptoRow : OpenClaim := { program := "ytoibdokedhbjpaa", sum := "0b4631c59c8d16b6fa854a0b20d7efc2416d7f7be49abaa30ce94fa0601edb71", func := "bobstay/bobstaylaw03.VfsCopies", spec := "vfsCopies", inPlace := ["internal/abi.NoEscape", "internal/bytealg.MakeNoZero", "internal/bytealg.IndexByteString", "internal/bytealg.IndexString", "sync/atomic.AddInt64", "sync/atomic.LoadInt64", "maps.clone", "sync/atomic.StoreInt64"], unfollowed := true, recurses := true, named := ["internal/bytealg.MaxLen"], apart := false, narrowed := true }
def VfsCopiesUptoSaid : Prop := vfsCopiesUptoRow.holds Try.pinned (OpenSpec.upto vfsCopiesSpec)

/-- 'bobstaylaw03.VfsNobody', WHERE WHAT IT READS IS OF BULK AT MOST 1048576: true; the input reads as it did. -/
def vfsNobodyUptoRow : OpenClaim := { program := "ytoibdokedhbjpaa", sum := "0b4631c59c8d16b6fa854a0b20d7efc2416d7f7be49abaa30ce94fa0601edb71", func := "bobstay/bobstaylaw03.VfsNobody", spec := "vfsNobody", inPlace := ["internal/abi.NoEscape", "internal/bytealg.MakeNoZero", "internal/bytealg.IndexByteString", "internal/bytealg.IndexString", "sync/atomic.LoadInt64", "sync/atomic.AddInt64", "maps.clone", "sync/atomic.StoreInt64"], unfollowed := true, recurses := true, named := ["internal/bytealg.MaxLen"], apart := false, narrowed := true }
def VfsNobodyUptoSaid : Prop := vfsNobodyUptoRow.holds Try.pinned (OpenSpec.upto vfsNobodySpec)

end Rows
end Go.Proofs.Ytoibdokedhbjpaa
