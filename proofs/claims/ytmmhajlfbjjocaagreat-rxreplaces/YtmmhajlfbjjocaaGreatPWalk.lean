/-
  A walk's boxes.
-/
import Derived.Test.YtmmhajlfbjjocaaGreatPComp
namespace Go.Proofs.YtmmhajlfbjjocaaGreat
open Go.RowKit Go.Shelf RxSem

structure Turn (b m : Nat) (v v' : Value) (w w' : World) : Prop where
  os : w'.os = w.os
  tape : w'.tape = w.tape
  output : w'.output = w.output
  size : w.heap.size ≤ w'.heap.size
  block : ∀ j, j < w.heap.size → j ≠ b → j ≠ m → v.ownBlock ≠ some j → w'.heap[j]? = w.heap[j]?
  own : ∀ g, v'.ownBlock = some g → v.ownBlock = some g ∨ w.heap.size ≤ g
theorem Turn.trans {b m : Nat} {v v' v'' : Value} {w w' w'' : World} (h : Turn b m v v' w w') (k : Turn b m v' v'' w' w'') : Turn b m v v'' w w'' := by
  refine ⟨k.os.trans h.os, k.tape.trans h.tape, k.output.trans h.output, Nat.le_trans h.size k.size, fun j hj hb hm hv => ?_, fun g hg => ?_⟩
  · rw [k.block j (Nat.lt_of_lt_of_le hj h.size) hb hm (fun e => ?_)]
    · exact h.block j hj hb hm hv
    · rcases h.own j e with e' | e'
      · exact hv e'
      · omega
  · rcases k.own g hg with e | e
    · exact h.own g e
    · exact .inr (Nat.le_trans h.size e)
theorem Turn.of_below {b m : Nat} {v : Value} {w w' : World} (h : Below w.heap.size w w') : Turn b m v v w w' :=
  ⟨h.os, h.tape, h.output, h.size, fun j hj _ _ _ => h.block j hj, fun _ hg => .inl hg⟩
theorem Turn.refl (b m : Nat) (v : Value) (w : World) : Turn b m v v w w := Turn.of_below (Below.refl _ _)
theorem Turn.only_b {b m : Nat} {v : Value} {w w' : World} (h : Only b w w') : Turn b m v v w w' :=
  ⟨h.os, h.tape, h.output, by rw [h.size]; exact Nat.le_refl _, fun j _ hb _ _ => h.block j hb, fun _ hg => .inl hg⟩
theorem Turn.only_m {b m : Nat} {v : Value} {w w' : World} (h : Only m w w') : Turn b m v v w w' :=
  ⟨h.os, h.tape, h.output, by rw [h.size]; exact Nat.le_refl _, fun j _ _ hm _ => h.block j hm, fun _ hg => .inl hg⟩
theorem Turn.drew {b m : Nat} {v v' : Value} {w w' : World} (h : Turn b m v v' w w') : Turn b m v v' w w'.drew := ⟨h.os, h.tape, h.output, h.size, h.block, h.own⟩
theorem Turn.drewN {b m : Nat} {v v' : Value} {w w' : World} (h : Turn b m v v' w w') (n : Nat) : Turn b m v v' w (w'.drewN n) := ⟨h.os, h.tape, h.output, h.size, h.block, h.own⟩

def walkC (gs n capS : Nat) (t : ByteArray) (p : Int) (gn capN : Nat) (tv sp : Value) (lo : Int) : Array Value := #[.slice (some ⟨gs, 0, none⟩) n capS, .string t, .int .i64 p, .slice (some ⟨gn, 0, none⟩) n capN, tv, sp, .int .i64 lo]
def snC (sn : List Int) : Array Value := (sn.map fun x => Value.int .i64 x).toArray
def thrC (T : List (Nat × Nat)) : List Value := T.flatMap fun x => [.int .i64 (x.1 : Int), .int .i64 (x.2 : Int)]
structure Wk (base b gs gn capS capN : Nat) (L : List SV) (t : ByteArray) (p : Nat) (tv sp : Value) (st : St) (w : World) : Prop where
  blk : w.heap[b]? = some (.cells (walkC gs L.length capS t p gn capN tv sp st.lo) 125 (0, 0))
  stp : ∃ cur, w.heap[gs]? = some (.cells cur 96 (0, 0)) ∧ cur.toList.take (7 * L.length) = L.flatMap stepC
  sn : w.heap[gn]? = some (.cells (snC st.sn) 3 (0, 0))
  len : st.sn.length = L.length
  row : w.ownsRow base 129 2 tv st.T.length (thrC st.T)
  oks : ∀ x ∈ L, x.Ok
  few : L.length ≤ 100000
  base : base ≤ b
  small : st.T.length + unseen p st.sn ≤ 100000

theorem flat_get {α : Type} (f : α → List Value) (k : Nat) (hk : ∀ x, (f x).length = k) : ∀ (L : List α) (i j : Nat) (hi : i < L.length), j < k → (L.flatMap f)[k * i + j]? = (f L[i])[j]?
  | [], _, _, hi, _ => by simp at hi
  | x :: L, 0, j, _, hj => by
    rw [List.flatMap_cons, Nat.mul_zero, Nat.zero_add, List.getElem?_append_left (by rw [hk]; exact hj)]
    rfl
  | x :: L, i + 1, j, hi, hj => by
    rw [List.flatMap_cons, List.getElem?_append_right (by rw [hk, Nat.mul_add]; omega), hk]
    have := flat_get f k hk L i j (by simpa using hi) hj
    rw [show k * (i + 1) + j - k = k * i + j by rw [Nat.mul_add]; omega, this]
    rfl
theorem flat_len2 {α : Type} (f : α → List Value) (k : Nat) (hk : ∀ x, (f x).length = k) (L : List α) : (L.flatMap f).length = k * L.length := by
  induction L with
  | nil => simp
  | cons x L ih => rw [List.flatMap_cons, List.length_append, ih, hk, List.length_cons, Nat.mul_add]; omega

section
variable {base b gs gn capS capN : Nat} {L : List SV} {t : ByteArray} {p : Nat} {tv sp : Value} {st : St} {w : World}
theorem Wk.lt (h : Wk base b gs gn capS capN L t p tv sp st w) : b < w.heap.size := (Array.getElem?_eq_some_iff.1 h.blk).1
theorem Wk.ltn (h : Wk base b gs gn capS capN L t p tv sp st w) : gn < w.heap.size := (Array.getElem?_eq_some_iff.1 h.sn).1
theorem Wk.cb (h : Wk base b gs gn capS capN L t p tv sp st w) (j : Nat) : w.cell? ⟨b, j, none⟩ = (walkC gs L.length capS t p gn capN tv sp st.lo)[j]? := by simp only [World.cell?, h.blk]; rfl
theorem Wk.fb (h : Wk base b gs gn capS capN L t p tv sp st w) (j : Nat) : w.frozen? ⟨b, j, none⟩ = false := by simp [World.frozen?, h.blk]
theorem Wk.fn (h : Wk base b gs gn capS capN L t p tv sp st w) (j : Nat) : w.frozen? ⟨gn, j, none⟩ = false := by simp [World.frozen?, h.sn]
theorem Wk.cs (h : Wk base b gs gn capS capN L t p tv sp st w) (i : Nat) (hi : i < L.length) (j : Nat) (hj : j < 7) : w.cell? ⟨gs, 7 * i + j, none⟩ = (stepC L[i])[j]? := by
  obtain ⟨cur, h1, h2⟩ := h.stp
  have e := flat_get stepC 7 (fun _ => rfl) L i j hi hj
  rw [← h2, List.getElem?_take_of_lt (by omega)] at e
  simp only [World.cell?, h1]
  rw [← e]; simp
theorem Wk.cn (h : Wk base b gs gn capS capN L t p tv sp st w) (i : Nat) (hi : i < st.sn.length) : w.cell? ⟨gn, i, none⟩ = some (.int .i64 st.sn[i]) := by
  simp only [World.cell?, h.sn, snC]
  simp [hi]
theorem Wk.bn (h : Wk base b gs gn capS capN L t p tv sp st w) : b ≠ gn := fun e => by
  have h1 := h.blk; have h2 := h.sn
  rw [e, h2] at h1; simp at h1
theorem Wk.bs (h : Wk base b gs gn capS capN L t p tv sp st w) : b ≠ gs := fun e => by
  obtain ⟨cur, h2, _⟩ := h.stp
  have h1 := h.blk
  rw [e, h2] at h1; simp at h1
theorem Wk.ns (h : Wk base b gs gn capS capN L t p tv sp st w) : gn ≠ gs := fun e => by
  obtain ⟨cur, h2, _⟩ := h.stp
  have h1 := h.sn
  rw [e, h2] at h1; simp at h1
theorem Wk.vb (h : Wk base b gs gn capS capN L t p tv sp st w) : tv.ownBlock ≠ some b := row_ne h.row h.blk (by decide)
theorem Wk.vn (h : Wk base b gs gn capS capN L t p tv sp st w) : tv.ownBlock ≠ some gn := row_ne h.row h.sn (by decide)
theorem Wk.vs (h : Wk base b gs gn capS capN L t p tv sp st w) : tv.ownBlock ≠ some gs := by
  obtain ⟨cur, h2, _⟩ := h.stp
  exact row_ne h.row h2 (by decide)
/-- A step is marked. -/
theorem Wk.mark (h : Wk base b gs gn capS capN L t p tv sp st w) (i : Nat) (hi : i < st.sn.length) (hns : ¬ sees p st i) : Wk base b gs gn capS capN L t p tv sp (RxSem.mark p i st) (w.setCell ⟨gn, i, none⟩ (.int .i64 (p : Int))) := by
  obtain ⟨cur, h2, h3⟩ := h.stp
  refine ⟨(Below.heap_setCell _ _ _ _ h.bn).trans h.blk, ⟨cur, (Below.heap_setCell _ _ _ _ (Ne.symm h.ns)).trans h2, h3⟩, ?_, by unfold RxSem.mark; simpa using h.len, row_set h.row h.vn _, h.oks, h.few, h.base, ?_⟩
  · refine (heap_set h.sn _).trans ?_
    unfold snC RxSem.mark
    congr 2
    rw [List.setIfInBounds_toArray]
    congr 1
    rw [List.map_set]
  · have := unseen_set (p := p) hi hns
    have h4 := h.small
    unfold RxSem.mark; dsimp only; omega
/-- The longest match is told. -/
theorem Wk.told (h : Wk base b gs gn capS capN L t p tv sp st w) (e : Int) : Wk base b gs gn capS capN L t p tv sp ⟨st.sn, st.T, e⟩ (w.setCell ⟨b, 6, none⟩ (.int .i64 e)) := by
  obtain ⟨cur, h2, h3⟩ := h.stp
  exact ⟨heap_set h.blk _, ⟨cur, (Below.heap_setCell _ _ _ _ (Ne.symm h.bs)).trans h2, h3⟩, (Below.heap_setCell _ _ _ _ (Ne.symm h.bn)).trans h.sn, h.len, row_set h.row h.vb _, h.oks, h.few, h.base, h.small⟩
end
end Go.Proofs.YtmmhajlfbjjocaaGreat
