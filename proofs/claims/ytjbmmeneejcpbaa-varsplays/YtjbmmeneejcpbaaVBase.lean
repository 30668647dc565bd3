/-
  Texts as lists of bytes, and what stays while others are written.
-/
import Derived.Test.YtjbmmeneejcpbaaProg
import Derived.WalkKit
import Derived.WalkSpells
import Derived.WalkLawsBesides
import Derived.Deep.QuietTactic
import Derived.BigQuiet
import Derived.Deep.OwnRows
import Derived.Lib.OthersKept
import Derived.Below
import Derived.Shelf.Abstract
namespace Go.Proofs.Ytjbmmeneejcpbaa
open Go.RowKit Go.Shelf

def Hid (p : Prop) : Prop := p
theorem Hid.out {p : Prop} (h : Hid p) : p := h
def bl (x : ByteArray) : List UInt8 := x.data.toList
def ba (l : List UInt8) : ByteArray := ⟨l.toArray⟩
theorem bl_ba (l : List UInt8) : bl (ba l) = l := by simp [bl, ba]
theorem ba_bl (x : ByteArray) : ba (bl x) = x := by simp [bl, ba]
theorem bl_inj {x y : ByteArray} (h : bl x = bl y) : x = y := by rw [← ba_bl x, ← ba_bl y, h]
theorem bl_length (x : ByteArray) : (bl x).length = x.size := by simp [bl]
theorem ba_size (l : List UInt8) : (ba l).size = l.length := by simp [ba, ByteArray.size]
theorem ret_bool {a b : Bool} (h : a = b) : Ending.returned (.bool a) = .returned (.bool b) := by rw [h]
theorem ret_str {a b : ByteArray} (h : a = b) : Ending.returned (.string a) = .returned (.string b) := by rw [h]
theorem u8_eq_iff (a b : UInt8) : a = b ↔ a.toNat = b.toNat := ⟨fun h => by rw [h], UInt8.toNat_inj.mp⟩
theorem u8_beq (a b : UInt8) (n : Nat) (hn : b.toNat = n) : ((a.toNat : Int) == (n : Int)) = (a == b) := by
  rw [Bool.eq_iff_iff]; simp only [beq_iff_eq]; rw [u8_eq_iff]; omega
theorem u8_back (c : UInt8) : (Int.toNat (c.toNat : Int)).toUInt8 = c := by simp
theorem take_snoc (s : ByteArray) (k : Nat) (h : k < s.size) : (bl s).take (k + 1) = (bl s).take k ++ [s[k]] := by
  unfold bl; rw [List.take_succ_eq_append_getElem (by simpa using h)]; rfl
theorem drop_ba (m : ByteArray) (k : Nat) (h : k < m.size) : (bl m).drop k = m[k] :: (bl m).drop (k + 1) :=
  List.drop_eq_getElem_cons (by simpa [bl] using h)
theorem take_all (s : ByteArray) : (bl s).take s.size = bl s := List.take_of_length_le (by simp [bl])
theorem drop_all (s : ByteArray) : (bl s).drop s.size = [] := List.drop_of_length_le (by simp [bl])
theorem bl_extract (s : ByteArray) (a b : Nat) : bl (s.extract a b) = ((bl s).take b).drop a := by
  simp [bl, List.extract_eq_take_drop, List.drop_take]
theorem bl_get (s : ByteArray) (k : Nat) (h : k < s.size) : (bl s)[k]? = some s[k] := by
  unfold bl; rw [List.getElem?_eq_getElem (by simpa using h)]; rfl

theorem heap_set {w : World} {b i : Nat} {cs : Array Value} {T : TypeId} (h : w.heap[b]? = some (.cells cs T (0, 0))) (x : Value) : (w.setCell ⟨b, i, none⟩ x).heap[b]? = some (.cells (cs.setIfInBounds i x) T (0, 0)) := by
  simp [World.setCell, Array.getElem?_modify, h]
theorem size_set (w : World) (a : Addr) (x : Value) : (w.setCell a x).heap.size = w.heap.size := by simp [World.setCell]
theorem row_set {w : World} {base b : Nat} {v : Value} {e : TypeId} {k n : Nat} {xs : List Value} {i : Nat} (h : w.ownsRow base e k v n xs) (hb : v.ownBlock ≠ some b) (x : Value) : (w.setCell ⟨b, i, none⟩ x).ownsRow base e k v n xs := by
  refine ⟨h.1, ?_⟩
  rcases h.2 with h0 | ⟨g, cap, cur, hv, hg, hgg, rest⟩
  · exact .inl h0
  · refine .inr ⟨g, cap, cur, hv, hg, ?_, rest⟩
    rw [Below.heap_setCell _ _ _ _ (fun e => hb (by rw [hv, e]; rfl))]
    exact hgg
theorem owns_below {base n : Nat} {e : TypeId} {size : Nat} {W W1 : World} {v : Value} {xs : List Value} (h : W.ownsRow base e size v n xs) (hb : Below W.heap.size W W1) : W1.ownsRow base e size v n xs :=
  h.kept (row := none) ⟨hb.os, hb.tape, hb.output, hb.size, fun k hk _ => hb.block k hk⟩ (by by_cases h : v.ownBlock = none; exact Or.inl h; exact Or.inr h)

/-- One block alone is written. -/
structure Only (b : Nat) (w w' : World) : Prop where
  os : w'.os = w.os
  tape : w'.tape = w.tape
  output : w'.output = w.output
  size : w'.heap.size = w.heap.size
  block : ∀ j, j ≠ b → w'.heap[j]? = w.heap[j]?
theorem Only.refl (b : Nat) (w : World) : Only b w w := ⟨rfl, rfl, rfl, rfl, fun _ _ => rfl⟩
theorem Only.set (b i : Nat) (w : World) (x : Value) : Only b w (w.setCell ⟨b, i, none⟩ x) :=
  ⟨rfl, rfl, rfl, size_set _ _ _, fun _ hj => Below.heap_setCell _ _ _ _ hj⟩
theorem Only.drew {b : Nat} {w w' : World} (h : Only b w w') : Only b w w'.drew := ⟨h.os, h.tape, h.output, h.size, h.block⟩
theorem Only.trans {b : Nat} {w w1 w2 : World} (h : Only b w w1) (h2 : Only b w1 w2) : Only b w w2 :=
  ⟨h2.os.trans h.os, h2.tape.trans h.tape, h2.output.trans h.output, h2.size.trans h.size, fun j hj => (h2.block j hj).trans (h.block j hj)⟩
theorem Only.below {b B : Nat} {w0 w w' : World} (h : Only b w w') (hb : B ≤ b) (h0 : Below B w0 w) : Below B w0 w' :=
  ⟨h.os.trans h0.os, h.tape.trans h0.tape, h.output.trans h0.output, by rw [h.size]; exact h0.size, fun j hj => (h.block j (by omega)).trans (h0.block j hj)⟩
theorem Only.row {w w' : World} {base b : Nat} {v : Value} {e : TypeId} {k n : Nat} {xs : List Value} (ho : Only b w w') (h : w.ownsRow base e k v n xs) (hb : v.ownBlock ≠ some b) : w'.ownsRow base e k v n xs := by
  refine ⟨h.1, ?_⟩
  rcases h.2 with h0 | ⟨g, cap, cur, hv, hg, hgg, rest⟩
  · exact .inl h0
  · refine .inr ⟨g, cap, cur, hv, hg, ?_, rest⟩
    rw [ho.block g (fun e => hb (by rw [hv, e]; rfl))]
    exact hgg
theorem row_type {w : World} {base g : Nat} {v : Value} {e : TypeId} {k n : Nat} {xs : List Value} (h : w.ownsRow base e k v n xs) (hv : v.ownBlock = some g) : ∃ cur, w.heap[g]? = some (.cells cur e (0, 0)) := by
  rcases h.2 with ⟨rfl, _⟩ | ⟨g', cap, cur, rfl, _, hg, _⟩
  · simp [Value.ownBlock] at hv
  · simp [Value.ownBlock] at hv
    subst hv
    exact ⟨cur, hg⟩
end Go.Proofs.Ytjbmmeneejcpbaa
