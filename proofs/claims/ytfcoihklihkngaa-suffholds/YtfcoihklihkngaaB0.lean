/-
  Texts as lists of bytes; lists of texts in memory; what stays while others are written.
-/
import Derived.Test.YtfcoihklihkngaaProg
import Derived.WalkKit
import Derived.WalkSpells
import Derived.WalkLawsBesides
import Derived.Deep.QuietTactic
import Derived.Deep.OwnRows
import Derived.BigQuiet
import Derived.BigCall
import Derived.Lib.OthersKept
import Derived.Below
import Derived.Shelf.Abstract
namespace Go.Proofs.Ytfcoihklihkngaa
open Go.RowKit Go.Shelf

def Hid (p : Prop) : Prop := p
theorem Hid.out {p : Prop} (h : Hid p) : p := h
def bl (x : ByteArray) : List UInt8 := x.data.toList
def ba (l : List UInt8) : ByteArray := ⟨l.toArray⟩
theorem bl_ba (l : List UInt8) : bl (ba l) = l := by simp [bl, ba]
theorem ba_bl (x : ByteArray) : ba (bl x) = x := by simp [bl, ba]
theorem bl_inj {x y : ByteArray} (h : bl x = bl y) : x = y := by rw [← ba_bl x, ← ba_bl y, h]
theorem bl_length (x : ByteArray) : (bl x).length = x.size := by simp [bl]
theorem ba_size (l : List UInt8) : (ba l).size = l.length := by simp [ba, ByteArray.size]
theorem ret_bool {a b : Bool} (h : a = b) : Ending.returned (.bool a) = .returned (.bool b) := by rw [h]
theorem ret_str {a b : ByteArray} (h : a = b) : Ending.returned (.string a) = .returned (.string b) := by rw [h]
theorem ret_int {a b : Int} (h : a = b) : Ending.returned (.int .i64 a) = .returned (.int .i64 b) := by rw [h]
theorem u8_eq_iff (a b : UInt8) : a = b ↔ a.toNat = b.toNat := ⟨fun h => by rw [h], UInt8.toNat_inj.mp⟩
theorem u8_beq (a b : UInt8) (n : Nat) (hn : b.toNat = n) : ((a.toNat : Int) == (n : Int)) = (a == b) := by
  rw [Bool.eq_iff_iff]; simp only [beq_iff_eq]; rw [u8_eq_iff]; omega
theorem u8_back (c : UInt8) : (Int.toNat (c.toNat : Int)).toUInt8 = c := by simp
theorem take_snoc (s : ByteArray) (k : Nat) (h : k < s.size) : (bl s).take (k + 1) = (bl s).take k ++ [s[k]] := by
  unfold bl; rw [List.take_succ_eq_append_getElem (by simpa using h)]; rfl
theorem drop_bl (m : ByteArray) (k : Nat) (h : k < m.size) : (bl m).drop k = m[k] :: (bl m).drop (k + 1) :=
  List.drop_eq_getElem_cons (by simpa [bl] using h)
theorem take_all (s : ByteArray) : (bl s).take s.size = bl s := List.take_of_length_le (by simp [bl])
theorem drop_all (s : ByteArray) : (bl s).drop s.size = [] := List.drop_of_length_le (by simp [bl])
theorem bl_extract (s : ByteArray) (a b : Nat) : bl (s.extract a b) = ((bl s).take b).drop a := by
  simp [bl, List.extract_eq_take_drop, List.drop_take]
theorem bl_get (s : ByteArray) (k : Nat) (h : k < s.size) : (bl s)[k]? = some s[k] := by
  unfold bl; rw [List.getElem?_eq_getElem (by simpa using h)]; rfl
theorem bl_app (a b : ByteArray) : bl (a ++ b) = bl a ++ bl b := by simp [bl]
theorem nonempty {t : ByteArray} (h : bl t ≠ []) : t.toList.isEmpty = false := by
  rw [← decide_eq_emptyBytes]
  exact decide_eq_false (fun e => h (by rw [e]; rfl))

theorem cell_in {w : World} {b : Nat} {cs : Array Value} {T : TypeId} (h : w.heap[b]? = some (.cells cs T (0, 0))) (i : Nat) {u : Value} (hu : cs[i]? = some u) : w.cell? ⟨b, i, none⟩ = some u := by
  simp only [World.cell?, h]; exact hu
theorem add_none (b o k : Nat) : (⟨b, o, none⟩ : Addr).add k = ⟨b, o + k, none⟩ := by
  unfold Addr.add; split
  · rename_i h; subst h; rfl
  · rfl
theorem owns_below {base n : Nat} {e : TypeId} {size : Nat} {W W1 : World} {v : Value} {xs : List Value} (h : W.ownsRow base e size v n xs) (hb : Below W.heap.size W W1) : W1.ownsRow base e size v n xs :=
  h.kept (row := none) ⟨hb.os, hb.tape, hb.output, hb.size, fun k hk _ => hb.block k hk⟩ (by by_cases h : v.ownBlock = none; exact Or.inl h; exact Or.inr h)
theorem row_src {w : World} {base : Nat} {e : TypeId} {size n : Nat} {v : Value} {xs : List Value} (h : w.ownsRow base e size v n xs) :
    (v = .slice none 0 0 ∧ n = 0 ∧ xs = []) ∨ ∃ g cap, v = .slice (some ⟨g, 0, none⟩) n cap ∧ g < w.heap.size ∧ n ≤ cap ∧ xs.length = n * size ∧ ∀ j u, xs[j]? = some u → w.cell? ((⟨g, 0, none⟩ : Addr).add j) = some u := by
  have h0 := h
  obtain ⟨hxl, ⟨hv, hn⟩ | ⟨g, cap, cur, hv, hg, hcur, hcap, hcm, hcs, hct⟩⟩ := h
  · left; refine ⟨hv, hn, ?_⟩
    rw [hn, Nat.zero_mul] at hxl; exact List.length_eq_zero_iff.1 hxl
  · right
    refine ⟨g, cap, hv, (Array.getElem?_eq_some_iff.1 hcur).1, hcap, hxl, ?_⟩
    subst hv
    exact h0.cells (g := g) rfl
theorem below_trans {A B : Nat} {w w1 w2 : World} (h1 : Below A w w1) (h2 : Below B w1 w2) (h : A ≤ B) : Below A w w2 :=
  ⟨h2.os.trans h1.os, h2.tape.trans h1.tape, h2.output.trans h1.output, Nat.le_trans h1.size h2.size, fun j hj => (h2.block j (by omega)).trans (h1.block j hj)⟩

/-- A slice value that reads as a list of texts, its row below block B. -/
def Words (B : Nat) (W : World) (v : Value) (l : List ByteArray) : Prop :=
  ∃ a n c, v = .slice a n c ∧ n = l.length ∧ n ≤ c ∧ ∀ i (h : i < l.length), ∃ b o, a = some ⟨b, o, none⟩ ∧ b < B ∧ W.cell? ⟨b, o + i, none⟩ = some (.string l[i])
theorem Words.below {B : Nat} {W W1 : World} {v : Value} {l : List ByteArray} (h : Words B W v l) (hb : Below B W W1) : Words B W1 v l := by
  obtain ⟨a, n, c, h1, h2, h4, h3⟩ := h
  refine ⟨a, n, c, h1, h2, h4, fun i hi => ?_⟩
  obtain ⟨b, o, e1, e2, e3⟩ := h3 i hi
  exact ⟨b, o, e1, e2, by rw [hb.cell (p := ⟨b, o + i, none⟩) e2]; exact e3⟩
theorem Words.mono {B B' : Nat} {W : World} {v : Value} {l : List ByteArray} (h : Words B W v l) (hB : B ≤ B') : Words B' W v l := by
  obtain ⟨a, n, c, h1, h2, h4, h3⟩ := h
  refine ⟨a, n, c, h1, h2, h4, fun i hi => ?_⟩
  obtain ⟨b, o, e1, e2, e3⟩ := h3 i hi
  exact ⟨b, o, e1, by omega, e3⟩
theorem Words.at {B : Nat} {W : World} {v : Value} {l : List ByteArray} (h : Words B W v l) (hne : l ≠ []) :
    ∃ b o c, v = .slice (some ⟨b, o, none⟩) l.length c ∧ b < B ∧ l.length ≤ c ∧ ∀ i (hi : i < l.length), W.cell? ⟨b, o + i, none⟩ = some (.string l[i]) := by
  obtain ⟨a, n, c, h1, h2, h4, h3⟩ := h
  obtain ⟨b, o, e1, e2, _⟩ := h3 0 (List.length_pos_iff.mpr hne)
  refine ⟨b, o, c, by rw [h1, e1, h2], e2, by omega, fun i hi => ?_⟩
  obtain ⟨b', o', e1', _, e3⟩ := h3 i hi
  rw [e1] at e1'
  simp only [Option.some.injEq, Addr.mk.injEq, and_true] at e1'
  rw [e1'.1, e1'.2]; exact e3

theorem fl_len {α : Type} (f : α → List Value) (k : Nat) (hk : ∀ x, (f x).length = k) (l : List α) : (l.flatMap f).length = l.length * k := by
  induction l with
  | nil => simp
  | cons a r ih => rw [List.flatMap_cons, List.length_append, hk, ih, List.length_cons, Nat.succ_mul]; omega
theorem fl_get {α : Type} (f : α → List Value) (k : Nat) (hk : ∀ x, (f x).length = k) : ∀ (l : List α) (i j : Nat) (x : α), l[i]? = some x → j < k → (l.flatMap f)[i * k + j]? = (f x)[j]?
  | [], i, j, x, h, _ => by simp at h
  | a :: r, 0, j, x, h, hj => by
    simp at h; subst h
    rw [List.flatMap_cons, Nat.zero_mul, Nat.zero_add, List.getElem?_append_left (by rw [hk]; exact hj)]
  | a :: r, i + 1, j, x, h, hj => by
    rw [List.flatMap_cons, List.getElem?_append_right (by rw [hk, Nat.succ_mul]; omega), hk, show (i + 1) * k + j - k = i * k + j by rw [Nat.succ_mul]; omega]
    exact fl_get f k hk r i j x (by simpa using h) hj
theorem heap_set {w : World} {b i : Nat} {cs : Array Value} {T : TypeId} (h : w.heap[b]? = some (.cells cs T (0, 0))) (x : Value) : (w.setCell ⟨b, i, none⟩ x).heap[b]? = some (.cells (cs.setIfInBounds i x) T (0, 0)) := by
  simp [World.setCell, Array.getElem?_modify, h]
theorem size_set (w : World) (a : Addr) (x : Value) : (w.setCell a x).heap.size = w.heap.size := by simp [World.setCell]
theorem row_set {w : World} {base b : Nat} {v : Value} {e : TypeId} {k n : Nat} {xs : List Value} {i : Nat} (h : w.ownsRow base e k v n xs) (hb : v.ownBlock ≠ some b) (x : Value) : (w.setCell ⟨b, i, none⟩ x).ownsRow base e k v n xs := by
  refine ⟨h.1, ?_⟩
  rcases h.2 with h0 | ⟨g, cap, cur, hv, hg, hgg, rest⟩
  · exact .inl h0
  · refine .inr ⟨g, cap, cur, hv, hg, ?_, rest⟩
    rw [Below.heap_setCell _ _ _ _ (fun e => hb (by rw [hv, e]; rfl))]
    exact hgg
/-- One block alone is written. -/
structure Only (b : Nat) (w w' : World) : Prop where
  os : w'.os = w.os
  tape : w'.tape = w.tape
  output : w'.output = w.output
  size : w'.heap.size = w.heap.size
  block : ∀ j, j ≠ b → w'.heap[j]? = w.heap[j]?
theorem Only.refl (b : Nat) (w : World) : Only b w w := ⟨rfl, rfl, rfl, rfl, fun _ _ => rfl⟩
theorem Only.set (b i : Nat) (w : World) (x : Value) : Only b w (w.setCell ⟨b, i, none⟩ x) :=
  ⟨rfl, rfl, rfl, size_set _ _ _, fun _ hj => Below.heap_setCell _ _ _ _ hj⟩
theorem Only.drew {b : Nat} {w w' : World} (h : Only b w w') : Only b w w'.drew := ⟨h.os, h.tape, h.output, h.size, h.block⟩
theorem Only.trans {b : Nat} {w w1 w2 : World} (h : Only b w w1) (h2 : Only b w1 w2) : Only b w w2 :=
  ⟨h2.os.trans h.os, h2.tape.trans h.tape, h2.output.trans h.output, h2.size.trans h.size, fun j hj => (h2.block j hj).trans (h.block j hj)⟩
theorem Only.below {b B : Nat} {w0 w w' : World} (h : Only b w w') (hb : B ≤ b) (h0 : Below B w0 w) : Below B w0 w' :=
  ⟨h.os.trans h0.os, h.tape.trans h0.tape, h.output.trans h0.output, by rw [h.size]; exact h0.size, fun j hj => (h.block j (by omega)).trans (h0.block j hj)⟩
theorem Only.row {w w' : World} {base b : Nat} {v : Value} {e : TypeId} {k n : Nat} {xs : List Value} (ho : Only b w w') (h : w.ownsRow base e k v n xs) (hb : v.ownBlock ≠ some b) : w'.ownsRow base e k v n xs := by
  refine ⟨h.1, ?_⟩
  rcases h.2 with h0 | ⟨g, cap, cur, hv, hg, hgg, rest⟩
  · exact .inl h0
  · refine .inr ⟨g, cap, cur, hv, hg, ?_, rest⟩
    rw [ho.block g (fun e => hb (by rw [hv, e]; rfl))]
    exact hgg
theorem row_type {w : World} {base g : Nat} {v : Value} {e : TypeId} {k n : Nat} {xs : List Value} (h : w.ownsRow base e k v n xs) (hv : v.ownBlock = some g) : ∃ cur, w.heap[g]? = some (.cells cur e (0, 0)) := by
  rcases h.2 with ⟨rfl, _⟩ | ⟨g', cap, cur, rfl, _, hg, _⟩
  · simp [Value.ownBlock] at hv
  · simp [Value.ownBlock] at hv
    subst hv
    exact ⟨cur, hg⟩
theorem Words.drewN {B : Nat} {W : World} {v : Value} {l : List ByteArray} (h : Words B W v l) (n : Nat) : Words B (W.drewN n) v l := h.below (below_drewN (Below.refl _ _) n)
theorem words_of_owns {B base : Nat} {W : World} {v : Value} {l : List ByteArray} (h : W.ownsRow base 9 1 v l.length (l.map Value.string)) (hB : W.heap.size ≤ B) : Words B W v l := by
  rcases row_src h with ⟨h1, h2, _⟩ | ⟨g, cap, hv, hg, hcap, _, hc⟩
  · exact ⟨none, 0, 0, h1, h2.symm, Nat.le_refl _, fun i hi => by omega⟩
  · refine ⟨some ⟨g, 0, none⟩, l.length, cap, hv, rfl, hcap, fun i hi => ⟨g, 0, rfl, by omega, ?_⟩⟩
    have := hc i (.string l[i]) (by simp [hi])
    rw [add_none] at this; exact this
theorem Words.pick {B : Nat} {W : World} {a : Option Addr} {n c : Nat} {l : List ByteArray} (h : Words B W (.slice a n c) l) (k : Nat) (hk : k < l.length) :
    ∃ b o, a = some ⟨b, o, none⟩ ∧ b < B ∧ W.cell? ⟨b, o + k, none⟩ = some (.string l[k]) := by
  obtain ⟨a', n', c', e1, e2, e4, e3⟩ := h
  obtain ⟨b, o, f1, f2, f3⟩ := e3 k hk
  simp only [Value.slice.injEq] at e1
  exact ⟨b, o, by rw [e1.1]; exact f1, f2, f3⟩
theorem Words.len {B : Nat} {W : World} {a : Option Addr} {n c : Nat} {l : List ByteArray} (h : Words B W (.slice a n c) l) : n = l.length ∧ n ≤ c := by
  obtain ⟨a', n', c', e1, e2, e4, e3⟩ := h
  simp only [Value.slice.injEq] at e1
  obtain ⟨rfl, rfl, rfl⟩ := e1
  exact ⟨e2, e4⟩
abbrev E : ByteArray := ⟨#[]⟩

theorem info_of {T : TypeId} {z : Option Value} {n b : Nat} (h : (Try.prog.info? T).map (fun i => (i.zero, i.size, i.bytes)) = some (z, n, b)) : ∃ i, Try.prog.info? T = some i ∧ i.zero = z ∧ i.size = n ∧ i.bytes = b := by
  obtain ⟨i, hi, e⟩ := Option.map_eq_some_iff.1 h
  simp only [Prod.mk.injEq] at e
  exact ⟨i, hi, e.1, e.2.1, e.2.2⟩
theorem heap_alloc_new' {w : World} {A B : Obj} : ((w.alloc A).alloc B).heap[w.heap.size + 1]? = some B := by
  have := heap_alloc_new (w.alloc A) B
  simpa using this
namespace V
theorem add_none (b o k : Nat) : (⟨b, o, none⟩ : Addr).add k = ⟨b, o + k, none⟩ := Ytfcoihklihkngaa.add_none b o k
theorem cell_in {w : World} {b : Nat} {cs : Array Value} {T : TypeId} (h : w.heap[b]? = some (.cells cs T (0, 0))) (i : Nat) {u : Value} (hu : cs[i]? = some u) : w.cell? ⟨b, i, none⟩ = some u := Ytfcoihklihkngaa.cell_in h i hu
theorem row_src {w : World} {base : Nat} {e : TypeId} {size n : Nat} {v : Value} {xs : List Value} (h : w.ownsRow base e size v n xs) :
    (v = .slice none 0 0 ∧ n = 0 ∧ xs = []) ∨ ∃ g cap, v = .slice (some ⟨g, 0, none⟩) n cap ∧ g < w.heap.size ∧ n ≤ cap ∧ xs.length = n * size ∧ ∀ j u, xs[j]? = some u → w.cell? ((⟨g, 0, none⟩ : Addr).add j) = some u := Ytfcoihklihkngaa.row_src h
theorem owns_slice {base n : Nat} {e : TypeId} {size : Nat} {W : World} {v : Value} {xs : List Value} (h : W.ownsRow base e size v n xs) : ∃ a cap, v = .slice a n cap := by
  rcases h.2 with ⟨rfl, rfl⟩ | ⟨g, cap, cur, rfl, _⟩
  · exact ⟨none, 0, rfl⟩
  · exact ⟨_, _, rfl⟩

/-- A cell of a row is written. -/
theorem owns_put {base n : Nat} {e : TypeId} {size : Nat} {w : World} {g cap : Nat} {xs : List Value} (h : w.ownsRow base e size (.slice (some ⟨g, 0, none⟩) n cap) n xs) {k : Nat} (u : Value) :
    (w.setCell ⟨g, k, none⟩ u).ownsRow base e size (.slice (some ⟨g, 0, none⟩) n cap) n (xs.set k u) := by
  obtain ⟨hxl, ⟨hv, _⟩ | ⟨g', cap', cur, hv, hg, hcur, hcap, hcm, hcs, hct⟩⟩ := h
  · cases hv
  · simp only [Value.slice.injEq, Option.some.injEq, Addr.mk.injEq, and_true, true_and] at hv
    obtain ⟨rfl, rfl⟩ := hv
    refine ⟨by rw [List.length_set]; exact hxl, .inr ⟨g, cap, cur.setIfInBounds k u, rfl, hg, heap_set hcur _, hcap, hcm, by rw [Array.size_setIfInBounds]; exact hcs, ?_⟩⟩
    rw [Array.toList_setIfInBounds, ← hct, List.take_set]
theorem frozen_row {base n : Nat} {e : TypeId} {size : Nat} {w : World} {g cap : Nat} {xs : List Value} (h : w.ownsRow base e size (.slice (some ⟨g, 0, none⟩) n cap) n xs) (k : Nat) : w.frozen? ⟨g, k, none⟩ = false := by
  obtain ⟨hxl, ⟨hv, _⟩ | ⟨g', cap', cur, hv, hg, hcur, hcap, hcm, hcs, hct⟩⟩ := h
  · cases hv
  · simp only [Value.slice.injEq, Option.some.injEq, Addr.mk.injEq, and_true, true_and] at hv
    obtain ⟨rfl, rfl⟩ := hv
    simp [World.frozen?, hcur]

end V
end Go.Proofs.Ytfcoihklihkngaa
