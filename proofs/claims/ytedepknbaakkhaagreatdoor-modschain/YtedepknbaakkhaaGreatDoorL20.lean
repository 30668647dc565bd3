/-
  PPuts
-/
import Derived.Test.YtedepknbaakkhaaGreatDoorL18
namespace Go.Proofs.YtedepknbaakkhaaGreatDoor.X
open Go.RowKit Go.Shelf RxSem
def puts (B : Nat) : Nat → List Value → World → World
  | _, [], w => w
  | i, v :: vs, w => puts B (i + 1) vs (w.setCell ⟨B, i, none⟩ v)
theorem puts_only (B : Nat) : ∀ (vs : List Value) (i : Nat) (w : World), Only B w (puts B i vs w)
  | [], _, _ => Only.refl _ _
  | _ :: vs, i, _ => (Only.set _ _ _ _).trans (puts_only B vs (i + 1) _)
theorem puts_heap (B : Nat) {T : TypeId} : ∀ (vs : List Value) (pre : List Value) (w : World) (cs : List Value), w.heap[B]? = some (.cells (pre ++ cs).toArray T (0, 0)) → cs.length = vs.length → (puts B pre.length vs w).heap[B]? = some (.cells (pre ++ vs).toArray T (0, 0))
  | [], pre, w, cs, h, hl => by
    have : cs = [] := List.length_eq_zero_iff.1 hl
    subst this; exact h
  | v :: vs, pre, w, cs, h, hl => by
    cases cs with
    | nil => cases hl
    | cons c cs =>
      have h1 := heap_set (i := pre.length) h v
      have e : (pre ++ c :: cs).toArray.setIfInBounds pre.length v = ((pre ++ [v]) ++ cs).toArray := by
        rw [List.setIfInBounds_toArray]
        congr 1
        rw [List.set_append_right _ _ (Nat.le_refl _)]
        simp
      rw [e] at h1
      have := puts_heap B vs (pre ++ [v]) _ cs h1 (by simpa using hl)
      rw [List.length_append, List.length_singleton] at this
      simpa [puts] using this
theorem puts_all {B : Nat} {T : TypeId} {w : World} {cs : Array Value} (h : w.heap[B]? = some (.cells cs T (0, 0))) (vs : List Value) (hl : cs.size = vs.length) : (puts B 0 vs w).heap[B]? = some (.cells vs.toArray T (0, 0)) := by
  have := puts_heap B vs [] w cs.toList (by simpa using h) (by simpa using hl)
  simpa using this
theorem Wrote.only {b B : Nat} {w w1 w9 : World} (h : Wrote b w w1) (hB : w.heap.size ≤ B) (hO : Only B w1 w9) : Wrote b w w9 :=
  ⟨hO.os.trans h.os, hO.tape.trans h.tape, hO.output.trans h.output, by rw [hO.size]; exact h.size, fun j hj hb => (hO.block j (by omega)).trans (h.block j hj hb)⟩
structure SG where
  m : UInt8
  v : SV
def signC (x : SG) : List Value := .int .u8 (x.m.toNat : Int) :: stepC x.v
def signV (x : SG) : Value := .agg (signC x).toArray
def SG.abs (x : SG) : Sg := if x.m = 0 then .thing x.v.abs else .mark x.m
theorem two (w : World) (o1 o2 : Obj) : ∃ W, W = (w.alloc o1).alloc o2 ∧ Below w.heap.size w W ∧ W.heap.size = w.heap.size + 2 ∧ W.heap[w.heap.size]? = some o1 ∧ W.heap[w.heap.size + 1]? = some o2 := by
  refine ⟨_, rfl, ((Below.refl _ _).alloc (Nat.le_refl _) _).alloc (by simp) _, by simp, ?_, ?_⟩
  · rw [Below.heap_alloc _ _ _ (by simp)]; exact heap_alloc_new _ _
  · have := heap_alloc_new (w.alloc o1) o2
    simpa using this
end Go.Proofs.YtedepknbaakkhaaGreatDoor.X
