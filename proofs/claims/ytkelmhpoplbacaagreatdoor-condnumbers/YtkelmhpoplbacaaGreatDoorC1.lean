/-
  The document's own reader of conditions: how it stands in memory; what wrong, opens, skip and next do.
-/
import Derived.Test.YtkelmhpoplbacaaGreatDoorY2
import Derived.Deep.RegionHeld3
import Derived.Deep.RegionWith
namespace Go.Proofs.YtkelmhpoplbacaaGreatDoor.Cd
open Go.RowKit Go.Shelf Ex

/-- Of the elder blocks b alone may be written. -/
structure Wt (b : Nat) (w w' : World) : Prop where
  os : w'.os = w.os
  tape : w'.tape = w.tape
  output : w'.output = w.output
  size : w.heap.size ≤ w'.heap.size
  block : ∀ j, j < w.heap.size → j ≠ b → w'.heap[j]? = w.heap[j]?
theorem Wt.refl (b : Nat) (w : World) : Wt b w w := ⟨rfl, rfl, rfl, Nat.le_refl _, fun _ _ _ => rfl⟩
theorem Wt.trans {b : Nat} {w w1 w2 : World} (h : Wt b w w1) (k : Wt b w1 w2) : Wt b w w2 :=
  ⟨k.os.trans h.os, k.tape.trans h.tape, k.output.trans h.output, Nat.le_trans h.size k.size, fun j hj hn => (k.block j (Nat.lt_of_lt_of_le hj h.size) hn).trans (h.block j hj hn)⟩
theorem Wt.drewN {b : Nat} {w w1 : World} (h : Wt b w w1) (n : Nat) : Wt b w (w1.drewN n) := ⟨h.os, h.tape, h.output, h.size, h.block⟩
theorem Wt.drew {b : Nat} {w w1 : World} (h : Wt b w w1) : Wt b w w1.drew := ⟨h.os, h.tape, h.output, h.size, h.block⟩
theorem Wt.set {b i : Nat} {w w1 : World} (h : Wt b w w1) (x : Value) : Wt b w (w1.setCell ⟨b, i, none⟩ x) :=
  ⟨h.os, h.tape, h.output, by simpa [World.setCell] using h.size, fun j hj hn => (Below.heap_setCell _ _ _ _ hn).trans (h.block j hj hn)⟩
theorem cellb {w : World} {b : Nat} {cs : Array Value} {T : TypeId} (h : w.heap[b]? = some (.cells cs T (0, 0))) (i : Nat) {v : Value} (hv : cs[i]? = some v) : w.cell? ⟨b, i, none⟩ = some v := by
  simp [World.cell?, h, hv]
theorem heap_setb {w : World} {b i : Nat} {cs : Array Value} {T : TypeId} (h : w.heap[b]? = some (.cells cs T (0, 0))) (x : Value) : (w.setCell ⟨b, i, none⟩ x).heap[b]? = some (.cells (cs.setIfInBounds i x) T (0, 0)) := by
  simp [World.setCell, Array.getElem?_modify, h]
def posOf (b : Nat) (w : World) : Nat := match w.cell? ⟨b, 1, none⟩ with | some (.int _ n) => n.toNat | _ => 0
def isBl (c : UInt8) : Bool := c == 32 || c == 9
def skipP (T : List UInt8) (a : Nat) : Nat := a + ((T.drop a).takeWhile isBl).length
theorem skip_end {s : ByteArray} {a : Nat} (h : ¬ a < s.size) : skipP (bl s) a = a := by
  unfold skipP
  rw [List.drop_of_length_le (by rw [bl_length]; omega)]; rfl
theorem skip_stop {s : ByteArray} {a : Nat} (h : a < s.size) (hb : isBl s[a] = false) : skipP (bl s) a = a := by
  unfold skipP
  rw [drop_at s a h, List.takeWhile_cons, hb]; rfl
theorem skip_go {s : ByteArray} {a : Nat} (h : a < s.size) (hb : isBl s[a] = true) : skipP (bl s) a = skipP (bl s) (a + 1) := by
  unfold skipP
  rw [drop_at s a h, List.takeWhile_cons, hb]
  simp only [if_true, List.length_cons]
  omega
theorem skip_le {s : ByteArray} {a : Nat} (h : a ≤ s.size) : a ≤ skipP (bl s) a ∧ skipP (bl s) a ≤ s.size := by
  unfold skipP
  have h1 : ((bl s).drop a).length = s.size - a := drop_len s a
  have h2 : (((bl s).drop a).takeWhile isBl).length ≤ ((bl s).drop a).length := (List.takeWhile_prefix _).length_le
  omega

end Go.Proofs.YtkelmhpoplbacaaGreatDoor.Cd
