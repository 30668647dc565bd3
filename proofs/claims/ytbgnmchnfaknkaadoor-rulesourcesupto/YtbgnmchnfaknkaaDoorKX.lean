/-
  Boxes behind two new ones; the sizes of a rule that was parsed.
-/
import Derived.Test.YtbgnmchnfaknkaaDoorK13
namespace Go.Proofs.YtbgnmchnfaknkaaDoor
open Go.RowKit Go.Shelf

theorem box_in2 {w3 : World} {cs : Array Value} {T : TypeId} {b : Nat} (h : w3.heap[b]? = some (.cells cs T (0, 0))) (o o' : Obj) (i : Nat) {u : Value} (hu : cs[i]? = some u) : ((w3.alloc o).alloc o').cell? ⟨b, i, none⟩ = some u := by
  have hb : b < w3.heap.size := (Array.getElem?_eq_some_iff.1 h).1
  have h1 : (w3.alloc o).heap[b]? = some (.cells cs T (0, 0)) := by rw [Below.heap_alloc _ _ _ hb]; exact h
  have h2 : ((w3.alloc o).alloc o').heap[b]? = some (.cells cs T (0, 0)) := by rw [Below.heap_alloc _ _ _ (by simp; omega)]; exact h1
  exact cell_in h2 i hu
theorem ruP_sizes (s : ByteArray) (at_ : Int) (n : Nat) (h : s.size ≤ n) : (Q.ruP (bl s) at_).targets.length ≤ n ∧ (Q.ruP (bl s) at_).sources.length ≤ n ∧ (Q.ruP (bl s) at_).commands.length ≤ 1 := by
  have hz := Q.sizes (bl s) n (by rw [bl_length]; exact h)
  unfold Q.ruP
  split
  · refine ⟨hz.2.1, hz.2.2.2.1, ?_⟩
    show (Q.cmdsL _).length ≤ 1
    unfold Q.cmdsL; split <;> simp
  · simp [Q.Ru.zero]

end Go.Proofs.YtbgnmchnfaknkaaDoor
