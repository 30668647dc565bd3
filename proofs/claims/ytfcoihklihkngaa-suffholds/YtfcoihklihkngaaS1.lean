/-
  Ways in memory; what HasSuffix and CutSuffix answer; whether a text is among some.
-/
import Derived.Test.YtfcoihklihkngaaSM2
import Derived.Test.YtfcoihklihkngaaB0
import Derived.WalkMore
import Derived.Deep.LoopGhost
import Derived.Deep.RegionHeld3
import Derived.BigRegion
import Derived.Test.YtfcoihklihkngaaShelf
namespace Go.Proofs.Ytfcoihklihkngaa
open Go.RowKit Go.Shelf

theorem below_alloc1 (w : World) (o : Obj) : Below w.heap.size w (w.alloc o) := (Below.refl _ _).alloc (Nat.le_refl _) _
theorem alloc_b {w : World} {o : Obj} {b : Nat} (h : b = w.heap.size) : (w.alloc o).heap[b]? = some o := by
  subst h; exact heap_alloc_new w o
theorem box_in {w3 : World} {cs : Array Value} {T : TypeId} {b : Nat} (h : w3.heap[b]? = some (.cells cs T (0, 0))) (o : Obj) (i : Nat) {u : Value} (hu : cs[i]? = some u) : (w3.alloc o).cell? ⟨b, i, none⟩ = some u :=
  cell_in (by rw [Below.heap_alloc _ _ _ (Array.getElem?_eq_some_iff.1 h).1]; exact h) i hu
theorem bl_ba' (x : List UInt8) : bl (ba x) = x := by simp [bl, ba]
theorem ba_inj {x y : List UInt8} (h : ba x = ba y) : x = y := by rw [← bl_ba' x, ← bl_ba' y, h]

/-- A slice value that reads as a list of ways, its row below block B. -/
def Wy (B : Nat) (W : World) (v : Value) (L : List S.Way) : Prop :=
  ∃ a n c, v = .slice a n c ∧ n = L.length ∧ n ≤ c ∧ ∀ (i : Nat) (x : S.Way), L[i]? = some x → ∃ b o, a = some ⟨b, o, none⟩ ∧ b < B ∧ W.cell? ⟨b, o + i * 2, none⟩ = some (.string (ba x.1)) ∧ W.cell? ⟨b, o + i * 2 + 1, none⟩ = some (.string (ba x.2))
theorem Wy.below {B : Nat} {W W1 : World} {v : Value} {L : List S.Way} (h : Wy B W v L) (hb : Below B W W1) : Wy B W1 v L := by
  obtain ⟨a, n, c, e1, e2, e3, h⟩ := h
  refine ⟨a, n, c, e1, e2, e3, fun i r hi => ?_⟩
  obtain ⟨b, o, q1, q2, q3, q4⟩ := h i r hi
  exact ⟨b, o, q1, q2, by rw [hb.cell q2]; exact q3, by rw [hb.cell q2]; exact q4⟩
theorem Wy.mono {B B' : Nat} {W : World} {v : Value} {L : List S.Way} (h : Wy B W v L) (hB : B ≤ B') : Wy B' W v L := by
  obtain ⟨a, n, c, e1, e2, e3, h⟩ := h
  refine ⟨a, n, c, e1, e2, e3, fun i r hi => ?_⟩
  obtain ⟨b, o, q1, q2, q3⟩ := h i r hi
  exact ⟨b, o, q1, by omega, q3⟩
theorem Wy.pick {B : Nat} {W : World} {a : Option Addr} {n c : Nat} {L : List S.Way} (h : Wy B W (.slice a n c) L) {i : Nat} {x : S.Way} (hi : L[i]? = some x) :
    ∃ b o, a = some ⟨b, o, none⟩ ∧ b < B ∧ W.cell? ⟨b, o + i * 2, none⟩ = some (.string (ba x.1)) ∧ W.cell? ⟨b, o + i * 2 + 1, none⟩ = some (.string (ba x.2)) := by
  obtain ⟨a', n', c', e1, e2, e3, h⟩ := h
  cases e1
  exact h i x hi
theorem Wy.len {B : Nat} {W : World} {a : Option Addr} {n c : Nat} {L : List S.Way} (h : Wy B W (.slice a n c) L) : n = L.length ∧ n ≤ c := by
  obtain ⟨a', n', c', e1, e2, e3, h⟩ := h
  cases e1
  exact ⟨e2, e3⟩
theorem Wy.slice {B : Nat} {W : World} {v : Value} {L : List S.Way} (h : Wy B W v L) : ∃ a c, v = .slice a L.length c := by
  obtain ⟨a, n, c, e1, e2, _⟩ := h
  exact ⟨a, c, by rw [e1, e2]⟩
theorem Words.slice {B : Nat} {W : World} {v : Value} {l : List S.Tx} (h : Words B W v (l.map ba)) : ∃ a c, v = .slice a l.length c := by
  obtain ⟨a, n, c, e1, e2, _⟩ := h
  exact ⟨a, c, by rw [e1, e2, List.length_map]⟩
/-- The first ones of a list of texts. -/
theorem Words.take {B : Nat} {W : World} {a : Option Addr} {n c : Nat} {l : List S.Tx} (h : Words B W (.slice a n c) (l.map ba)) (k : Nat) (hk : k ≤ n) : Words B W (.slice a k c) ((l.take k).map ba) := by
  obtain ⟨a', n', c', e1, e2, e4, e3⟩ := h
  simp only [Value.slice.injEq] at e1
  obtain ⟨rfl, rfl, rfl⟩ := e1
  rw [List.length_map] at e2
  refine ⟨a, k, c, rfl, by rw [List.length_map, List.length_take]; omega, by omega, fun i hi => ?_⟩
  have hik : i < k := by rw [List.length_map, List.length_take] at hi; omega
  obtain ⟨b, o, f1, f2, f3⟩ := e3 i (by rw [List.length_map]; omega)
  refine ⟨b, o, f1, f2, ?_⟩
  rw [f3]
  simp
theorem Wy.take {B : Nat} {W : World} {a : Option Addr} {n c : Nat} {L : List S.Way} (h : Wy B W (.slice a n c) L) (k : Nat) (hk : k ≤ n) : Wy B W (.slice a k c) (L.take k) := by
  obtain ⟨a', n', c', e1, e2, e4, e3⟩ := h
  simp only [Value.slice.injEq] at e1
  obtain ⟨rfl, rfl, rfl⟩ := e1
  refine ⟨a, k, c, rfl, by rw [List.length_take]; omega, by omega, fun i x hi => ?_⟩
  have h1 := (List.getElem?_eq_some_iff.1 hi).1
  rw [List.length_take] at h1
  rw [List.getElem?_take_of_lt (by omega)] at hi
  exact e3 i x hi

theorem ends_lib (x s : List UInt8) : S.ends x s = Lib.hasSuffix x s := by
  unfold S.ends
  exact Lib.hasSuffix_of_drop _ _
theorem ends_raw (x s : ByteArray) : S.ends (bl x) (bl s) = (decide (s.size ≤ x.size) && ((x.extract (x.size - s.size) x.size).toList == s.toList)) := by
  rw [ends_lib]
  exact (Lib.hasSuffix_raw x s).symm
set_option maxRecDepth 20000 in
set_option maxHeartbeats 800000 in
theorem hasSuffix_any (x s : ByteArray) (w : World) (hx : x.size ≤ 1000000) : Calls Try.prog 27 #[.string x, .string s] w fun e w' => e = .returned (.bool (S.ends (bl x) (bl s))) ∧ w' = w := by
  rw [ends_lib]
  exact Try.stringslite_HasSuffix x s w (by omega)
theorem stem_bl (x s : ByteArray) (h : S.ends (bl x) (bl s) = true) : s.size ≤ x.size ∧ ba (S.stem (bl x) (bl s)) = x.extract 0 (x.size - s.size) := by
  have h1 : s.size ≤ x.size := by
    unfold S.ends at h
    rw [Bool.and_eq_true, decide_eq_true_eq, bl_length, bl_length] at h
    exact h.1
  refine ⟨h1, ?_⟩
  apply bl_inj
  rw [bl_ba', bl_extract, List.drop_zero]
  unfold S.stem
  rw [bl_length, bl_length]
/-- What CutSuffix answers. -/
def cutV (x s : ByteArray) : ByteArray := if S.ends (bl x) (bl s) then ba (S.stem (bl x) (bl s)) else x
set_option maxRecDepth 20000 in
set_option maxHeartbeats 800000 in
theorem cutSuffix_sl (x s : ByteArray) (w : World) (hx : x.size ≤ 1000000) : Calls Try.prog 26 #[.string x, .string s] w fun e w' => e = .returned (.tuple #[.string (cutV x s), .bool (S.ends (bl x) (bl s))]) ∧ w' = w := by
  have HS : Hid (∀ W, Calls Try.prog 27 #[.string x, .string s] W fun e w' => e = .returned (.bool (S.ends (bl x) (bl s))) ∧ w' = W) := fun W => hasSuffix_any x s W hx
  unfold cutV
  cases he : S.ends (bl x) (bl s) with
  | true =>
    obtain ⟨h1, h2⟩ := stem_bl x s he
    rw [he] at HS
    rw [if_pos rfl, h2]
    have h3 : (s.size : Int) ≤ (x.size : Int) := by omega
    clear he h2
    go_enter Try.func26, Try.ntmps26
    go_wp2_with fail
    refine (HS.out _).mono ?_
    rintro e w' ⟨rfl, rfl⟩
    go_wp2_with fail
    go_ret2
    exact ⟨rfl, rfl⟩
  | false =>
    rw [he] at HS
    rw [if_neg (by simp)]
    clear he
    go_enter Try.func26, Try.ntmps26
    go_wp2_with fail
    refine (HS.out _).mono ?_
    rintro e w' ⟨rfl, rfl⟩
    go_wp2_with fail
    go_ret2
    exact ⟨rfl, rfl⟩
set_option maxRecDepth 20000 in
set_option maxHeartbeats 800000 in
theorem cutSuffix_any (x s : ByteArray) (w : World) (hx : x.size ≤ 1000000) : Calls Try.prog 21 #[.string x, .string s] w fun e w' => e = .returned (.tuple #[.string (cutV x s), .bool (S.ends (bl x) (bl s))]) ∧ w' = w := by
  have HS : Hid (∀ W, Calls Try.prog 26 #[.string x, .string s] W fun e w' => e = .returned (.tuple #[.string (cutV x s), .bool (S.ends (bl x) (bl s))]) ∧ w' = W) := fun W => cutSuffix_sl x s W hx
  go_enter Try.func21, Try.ntmps21
  go_wp2_with fail
  refine (HS.out _).mono ?_
  rintro e w' ⟨rfl, rfl⟩
  go_wp2_with fail
  go_ret2
  exact ⟨rfl, rfl⟩
end Go.Proofs.Ytfcoihklihkngaa
