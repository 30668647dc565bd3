/-
  Texts as lists of bytes; lists of texts; what stays while others are written.
-/
import Derived.Test.YtkelmhpoplbacaaGreatDoorMShelfB
import Derived.WalkKit
import Derived.WalkSpells
import Derived.WalkLawsBesides
import Derived.Deep.QuietTactic
import Derived.BigQuiet
import Derived.Shelf.Abstract
import Derived.Deep.OwnRows
import Derived.Lib.OthersKept
import Derived.Below
namespace Go.Proofs.YtkelmhpoplbacaaGreatDoor
open Go.RowKit Go.Shelf

def bl (x : ByteArray) : List UInt8 := x.data.toList
def ba (l : List UInt8) : ByteArray := ⟨l.toArray⟩
theorem bl_ba (l : List UInt8) : bl (ba l) = l := by simp [bl, ba]
theorem ba_bl (x : ByteArray) : ba (bl x) = x := by simp [bl, ba]
theorem bl_inj {x y : ByteArray} (h : bl x = bl y) : x = y := by rw [← ba_bl x, ← ba_bl y, h]
theorem bl_length (x : ByteArray) : (bl x).length = x.size := by simp [bl]
theorem ba_size (l : List UInt8) : (ba l).size = l.length := by simp [ba, ByteArray.size]
theorem ret_str {a b : ByteArray} (h : a = b) : Ending.returned (.string a) = .returned (.string b) := by rw [h]
theorem u8_back (c : UInt8) : (Int.toNat (c.toNat : Int)).toUInt8 = c := by simp
theorem take_snoc (s : ByteArray) (k : Nat) (h : k < s.size) : (bl s).take (k + 1) = (bl s).take k ++ [s[k]] := by
  unfold bl; rw [List.take_succ_eq_append_getElem (by simpa using h)]; rfl
theorem drop_bl (m : ByteArray) (k : Nat) (h : k < m.size) : (bl m).drop k = m[k] :: (bl m).drop (k + 1) :=
  List.drop_eq_getElem_cons (by simpa [bl] using h)
theorem take_all (s : ByteArray) : (bl s).take s.size = bl s := List.take_of_length_le (by simp [bl])
theorem drop_all (s : ByteArray) : (bl s).drop s.size = [] := List.drop_of_length_le (by simp [bl])
theorem bl_extract (s : ByteArray) (a b : Nat) : bl (s.extract a b) = ((bl s).take b).drop a := by
  simp [bl, List.extract_eq_take_drop, List.drop_take]
theorem bl_get (s : ByteArray) (k : Nat) (h : k < s.size) : (bl s)[k]? = some s[k] := by
  unfold bl; rw [List.getElem?_eq_getElem (by simpa using h)]; rfl

theorem heap_set {w : World} {b i : Nat} {cs : Array Value} {T : TypeId} (h : w.heap[b]? = some (.cells cs T (0, 0))) (x : Value) : (w.setCell ⟨b, i, none⟩ x).heap[b]? = some (.cells (cs.setIfInBounds i x) T (0, 0)) := by
  simp [World.setCell, Array.getElem?_modify, h]
theorem size_set (w : World) (a : Addr) (x : Value) : (w.setCell a x).heap.size = w.heap.size := by simp [World.setCell]
theorem row_set {w : World} {base b : Nat} {v : Value} {e : TypeId} {k n : Nat} {xs : List Value} {i : Nat} (h : w.ownsRow base e k v n xs) (hb : v.ownBlock ≠ some b) (x : Value) : (w.setCell ⟨b, i, none⟩ x).ownsRow base e k v n xs := by
  refine ⟨h.1, ?_⟩
  rcases h.2 with h0 | ⟨g, cap, cur, hv, hg, hgg, rest⟩
  · exact .inl h0
  · refine .inr ⟨g, cap, cur, hv, hg, ?_, rest⟩
    rw [Below.heap_setCell _ _ _ _ (fun e => hb (by rw [hv, e]; rfl))]
    exact hgg
theorem owns_below {base n : Nat} {e : TypeId} {size : Nat} {W W1 : World} {v : Value} {xs : List Value} (h : W.ownsRow base e size v n xs) (hb : Below W.heap.size W W1) : W1.ownsRow base e size v n xs :=
  h.kept (row := none) ⟨hb.os, hb.tape, hb.output, hb.size, fun k hk _ => hb.block k hk⟩ (by by_cases h : v.ownBlock = none; exact Or.inl h; exact Or.inr h)

/-- One block alone is written. -/
structure Only (b : Nat) (w w' : World) : Prop where
  os : w'.os = w.os
  tape : w'.tape = w.tape
  output : w'.output = w.output
  size : w'.heap.size = w.heap.size
  block : ∀ j, j ≠ b → w'.heap[j]? = w.heap[j]?
theorem Only.refl (b : Nat) (w : World) : Only b w w := ⟨rfl, rfl, rfl, rfl, fun _ _ => rfl⟩
theorem Only.set (b i : Nat) (w : World) (x : Value) : Only b w (w.setCell ⟨b, i, none⟩ x) :=
  ⟨rfl, rfl, rfl, size_set _ _ _, fun _ hj => Below.heap_setCell _ _ _ _ hj⟩
theorem Only.drew {b : Nat} {w w' : World} (h : Only b w w') : Only b w w'.drew := ⟨h.os, h.tape, h.output, h.size, h.block⟩
theorem Only.trans {b : Nat} {w w1 w2 : World} (h : Only b w w1) (h2 : Only b w1 w2) : Only b w w2 :=
  ⟨h2.os.trans h.os, h2.tape.trans h.tape, h2.output.trans h.output, h2.size.trans h.size, fun j hj => (h2.block j hj).trans (h.block j hj)⟩
theorem Only.below {b B : Nat} {w0 w w' : World} (h : Only b w w') (hb : B ≤ b) (h0 : Below B w0 w) : Below B w0 w' :=
  ⟨h.os.trans h0.os, h.tape.trans h0.tape, h.output.trans h0.output, by rw [h.size]; exact h0.size, fun j hj => (h.block j (by omega)).trans (h0.block j hj)⟩
theorem Only.row {w w' : World} {base b : Nat} {v : Value} {e : TypeId} {k n : Nat} {xs : List Value} (ho : Only b w w') (h : w.ownsRow base e k v n xs) (hb : v.ownBlock ≠ some b) : w'.ownsRow base e k v n xs := by
  refine ⟨h.1, ?_⟩
  rcases h.2 with h0 | ⟨g, cap, cur, hv, hg, hgg, rest⟩
  · exact .inl h0
  · refine .inr ⟨g, cap, cur, hv, hg, ?_, rest⟩
    rw [ho.block g (fun e => hb (by rw [hv, e]; rfl))]
    exact hgg
theorem row_type {w : World} {base g : Nat} {v : Value} {e : TypeId} {k n : Nat} {xs : List Value} (h : w.ownsRow base e k v n xs) (hv : v.ownBlock = some g) : ∃ cur, w.heap[g]? = some (.cells cur e (0, 0)) := by
  rcases h.2 with ⟨rfl, _⟩ | ⟨g', cap, cur, rfl, _, hg, _⟩
  · simp [Value.ownBlock] at hv
  · simp [Value.ownBlock] at hv
    subst hv
    exact ⟨cur, hg⟩
/-- A slice value that reads as a list of texts, its row below block B. -/
def Words (B : Nat) (W : World) (v : Value) (l : List ByteArray) : Prop :=
  ∃ a n c, v = .slice a n c ∧ n = l.length ∧ ∀ i (h : i < l.length), ∃ b o, a = some ⟨b, o, none⟩ ∧ b < B ∧ W.cell? ⟨b, o + i, none⟩ = some (.string l[i])
theorem Words.below {B : Nat} {W W1 : World} {v : Value} {l : List ByteArray} (h : Words B W v l) (hb : Below B W W1) : Words B W1 v l := by
  obtain ⟨a, n, c, h1, h2, h3⟩ := h
  refine ⟨a, n, c, h1, h2, fun i hi => ?_⟩
  obtain ⟨b, o, e1, e2, e3⟩ := h3 i hi
  exact ⟨b, o, e1, e2, by rw [hb.cell (p := ⟨b, o + i, none⟩) e2]; exact e3⟩
theorem Words.mono {B B' : Nat} {W : World} {v : Value} {l : List ByteArray} (h : Words B W v l) (hB : B ≤ B') : Words B' W v l := by
  obtain ⟨a, n, c, h1, h2, h3⟩ := h
  refine ⟨a, n, c, h1, h2, fun i hi => ?_⟩
  obtain ⟨b, o, e1, e2, e3⟩ := h3 i hi
  exact ⟨b, o, e1, by omega, e3⟩
theorem Words.drewN {B : Nat} {W : World} {v : Value} {l : List ByteArray} (h : Words B W v l) (n : Nat) : Words B (W.drewN n) v l := h.below (below_drewN (Below.refl _ _) n)
theorem Words.at {B : Nat} {W : World} {v : Value} {l : List ByteArray} (h : Words B W v l) (hne : l ≠ []) :
    ∃ b o c, v = .slice (some ⟨b, o, none⟩) l.length c ∧ b < B ∧ ∀ i (hi : i < l.length), W.cell? ⟨b, o + i, none⟩ = some (.string l[i]) := by
  obtain ⟨a, n, c, h1, h2, h3⟩ := h
  obtain ⟨b, o, e1, e2, _⟩ := h3 0 (List.length_pos_iff.mpr hne)
  refine ⟨b, o, c, by rw [h1, e1, h2], e2, fun i hi => ?_⟩
  obtain ⟨b', o', e1', _, e3⟩ := h3 i hi
  rw [e1] at e1'
  simp only [Option.some.injEq, Addr.mk.injEq, and_true] at e1'
  rw [e1'.1, e1'.2]; exact e3
theorem words_of_owns {B base : Nat} {W : World} {v : Value} {l : List ByteArray} (h : W.ownsRow base 9 1 v l.length (l.map Value.string)) (hB : W.heap.size ≤ B) : Words B W v l := by
  obtain ⟨hxl, ⟨hv, hn⟩ | ⟨g, cap, cur, hv, hg, hcur, hcap, hcm, hcs, hct⟩⟩ := h
  · exact ⟨none, 0, 0, hv, hn.symm, fun i hi => by omega⟩
  · have hgl : g < W.heap.size := (Array.getElem?_eq_some_iff.1 hcur).1
    refine ⟨some ⟨g, 0, none⟩, l.length, cap, hv, rfl, fun i hi => ⟨g, 0, rfl, by omega, ?_⟩⟩
    have hjc : cur.toList[i]? = some (.string l[i]) := by
      have h2 : (cur.toList.take (l.length * 1))[i]? = (l.map Value.string)[i]? := by rw [hct]
      rw [List.getElem?_take_of_lt (by omega)] at h2
      rw [h2]; simp [List.getElem?_eq_getElem hi]
    simp only [World.cell?, hcur]
    simpa using hjc


theorem ret_bool {a b : Bool} (h : a = b) : Ending.returned (.bool a) = .returned (.bool b) := by rw [h]
theorem Words.pick {B : Nat} {W : World} {a : Option Addr} {n c : Nat} {l : List ByteArray} (h : Words B W (.slice a n c) l) (k : Nat) (hk : k < l.length) :
    ∃ b o, a = some ⟨b, o, none⟩ ∧ b < B ∧ W.cell? ⟨b, o + k, none⟩ = some (.string l[k]) := by
  obtain ⟨a', n', c', e1, e2, e3⟩ := h
  obtain ⟨b, o, f1, f2, f3⟩ := e3 k hk
  simp only [Value.slice.injEq] at e1
  exact ⟨b, o, by rw [e1.1]; exact f1, f2, f3⟩
theorem Words.len {B : Nat} {W : World} {a : Option Addr} {n c : Nat} {l : List ByteArray} (h : Words B W (.slice a n c) l) : n = l.length := by
  obtain ⟨a', n', c', e1, e2, e3⟩ := h
  simp only [Value.slice.injEq] at e1
  exact e1.2.1.trans e2


theorem ret_int {a b : Int} (h : a = b) : Ending.returned (.int .i64 a) = .returned (.int .i64 b) := by rw [h]
abbrev E : ByteArray := ⟨#[]⟩

theorem info_of {T : TypeId} {z : Option Value} {n b : Nat} (h : (Tryz.prog.info? T).map (fun i => (i.zero, i.size, i.bytes)) = some (z, n, b)) : ∃ i, Tryz.prog.info? T = some i ∧ i.zero = z ∧ i.size = n ∧ i.bytes = b := by
  obtain ⟨i, hi, e⟩ := Option.map_eq_some_iff.1 h
  simp only [Prod.mk.injEq] at e
  exact ⟨i, hi, e.1, e.2.1, e.2.2⟩
theorem heap_alloc_new' {w : World} {A B : Obj} : ((w.alloc A).alloc B).heap[w.heap.size + 1]? = some B := by
  have := heap_alloc_new (w.alloc A) B
  simpa using this
end Go.Proofs.YtkelmhpoplbacaaGreatDoor
