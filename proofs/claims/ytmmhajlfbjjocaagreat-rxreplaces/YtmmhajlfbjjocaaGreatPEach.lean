/-
  The longest match at each place is handed on.
-/
import Derived.Test.YtmmhajlfbjjocaaGreatPFound
import Derived.Test.YtmmhajlfbjjocaaGreatRxFind
namespace Go.Proofs.YtmmhajlfbjjocaaGreat
open Go.RowKit Go.Shelf RxSem

/-- Of the elder blocks those of D alone are written. -/
structure Fr (D : Nat → Prop) (w w' : World) : Prop where
  os : w'.os = w.os
  tape : w'.tape = w.tape
  output : w'.output = w.output
  size : w.heap.size ≤ w'.heap.size
  block : ∀ j, j < w.heap.size → ¬ D j → w'.heap[j]? = w.heap[j]?
theorem Fr.refl (D : Nat → Prop) (w : World) : Fr D w w := ⟨rfl, rfl, rfl, Nat.le_refl _, fun _ _ _ => rfl⟩
theorem Fr.trans {D : Nat → Prop} {w w1 w2 : World} (h : Fr D w w1) (h2 : Fr D w1 w2) : Fr D w w2 :=
  ⟨h2.os.trans h.os, h2.tape.trans h.tape, h2.output.trans h.output, Nat.le_trans h.size h2.size, fun j hj hd => (h2.block j (Nat.lt_of_lt_of_le hj h.size) hd).trans (h.block j hj hd)⟩
theorem Fr.of_below {D : Nat → Prop} {w w' : World} (h : Below w.heap.size w w') : Fr D w w' := ⟨h.os, h.tape, h.output, h.size, fun j hj _ => h.block j hj⟩
theorem Fr.of_wrote {D : Nat → Prop} {b : Nat} {w w' : World} (h : Wrote b w w') (hb : D b) : Fr D w w' := ⟨h.os, h.tape, h.output, h.size, fun j hj hd => h.block j hj (fun e => hd (by rw [e]; exact hb))⟩
theorem Fr.of_only {D : Nat → Prop} {b : Nat} {w w' : World} (h : Only b w w') (hb : D b) : Fr D w w' := Fr.of_wrote (.of_only h) hb
theorem Fr.low {D : Nat → Prop} {w w' : World} {B : Nat} (h : Below B w w') (hB : ∀ j, B ≤ j → j < w.heap.size → D j) : Fr D w w' := ⟨h.os, h.tape, h.output, h.size, fun j hj hd => by
  rcases Nat.lt_or_ge j B with hl | hl
  · exact h.block j hl
  · exact absurd (hB j hl hj) hd⟩

def headOf : List (Nat × Nat) → Nat × Nat × Bool
  | [] => (0, 0, false)
  | (p, e) :: _ => (p, e, true)
structure Boxes (bm bo : Nat) (x : Nat × Nat × Bool) (w : World) : Prop where
  m : w.heap[bm]? = some (.cells #[.int .i64 (x.1 : Int), .int .i64 (x.2.1 : Int)] 77 (0, 0))
  o : w.heap[bo]? = some (.cells #[.bool x.2.2] 4 (0, 0))
theorem Boxes.below {bm bo B : Nat} {x : Nat × Nat × Bool} {w w' : World} (h : Boxes bm bo x w) (hb : Below B w w') (h1 : bm < B) (h2 : bo < B) : Boxes bm bo x w' := ⟨(hb.block bm h1).trans h.m, (hb.block bo h2).trans h.o⟩

set_option maxRecDepth 20000 in
set_option maxHeartbeats 400000 in
theorem find1_any (bm bo p e : Nat) (x : Nat × Nat × Bool) (w : World) (h : Boxes bm bo x w) : Calls Tryz.prog 28 #[.agg #[.int .i64 (p : Int), .int .i64 (e : Int)], .pointer (some ⟨bm, 0, none⟩), .pointer (some ⟨bo, 0, none⟩)] w fun z w' => z = .returned (.tuple #[]) ∧ Boxes bm bo (p, e, true) w' ∧ Fr (fun j => j = bm ∨ j = bo) w w' := by
  have c0 : w.cell? ⟨bm, 0, none⟩ = some (.int .i64 (x.1 : Int)) := by simp only [World.cell?, h.m]; rfl
  have c1 : w.cell? ⟨bm, 1, none⟩ = some (.int .i64 (x.2.1 : Int)) := by simp only [World.cell?, h.m]; rfl
  have d0 : w.cell? ⟨bo, 0, none⟩ = some (.bool x.2.2) := by simp only [World.cell?, h.o]; rfl
  have f0 : ∀ j, w.frozen? ⟨bm, j, none⟩ = false := fun j => by simp [World.frozen?, h.m]
  have f1 : ∀ j, w.frozen? ⟨bo, j, none⟩ = false := fun j => by simp [World.frozen?, h.o]
  have hne : ¬ bm = bo := fun e => by have h1 := h.m; rw [e, h.o] at h1; simp at h1
  have HB : Hid (Boxes bm bo x w) := h
  have hbm : bm < w.heap.size := (Array.getElem?_eq_some_iff.1 h.m).1
  have hbo : bo < w.heap.size := (Array.getElem?_eq_some_iff.1 h.o).1
  clear h
  go_enter Tryz.func28, Tryz.ntmps28
  go_wp2_with fail
  go_end0
  have o1 : Only bm w ((w.setCell ⟨bm, 0, none⟩ (.int .i64 (p : Int))).setCell ⟨bm, 1, none⟩ (.int .i64 (e : Int))) := (Only.set _ _ _ _).trans (Only.set _ _ _ _)
  have m1 : ((w.setCell ⟨bm, 0, none⟩ (.int .i64 (p : Int))).setCell ⟨bm, 1, none⟩ (.int .i64 (e : Int))).heap[bm]? = some (.cells #[.int .i64 (p : Int), .int .i64 (e : Int)] 77 (0, 0)) := heap_set (heap_set HB.out.m _) _
  generalize ((w.setCell ⟨bm, 0, none⟩ (.int .i64 (p : Int))).setCell ⟨bm, 1, none⟩ (.int .i64 (e : Int))) = X at o1 m1 ⊢
  have o2 : Only bo X (X.setCell ⟨bo, 0, none⟩ (.bool true)) := Only.set _ _ _ _
  have m2 : (X.setCell ⟨bo, 0, none⟩ (.bool true)).heap[bo]? = some (.cells #[.bool true] 4 (0, 0)) := heap_set ((o1.block bo (Ne.symm hne)).trans HB.out.o) _
  have m3 := (o2.block bm hne).trans m1
  have hs : (X.setCell ⟨bo, 0, none⟩ (.bool true)).heap.size = w.heap.size := o2.size.trans o1.size
  refine ⟨rfl, ⟨(Below.heap_alloc _ _ _ (by omega)).trans m3, (Below.heap_alloc _ _ _ (by omega)).trans m2⟩, ?_⟩
  exact ((Fr.of_only o1 (.inl rfl)).trans (Fr.of_only o2 (.inr rfl))).trans (Fr.of_below ((Below.refl _ _).alloc (Nat.le_refl _) _))

theorem Idle.keep {base b gs gn capS capN : Nat} {L : List SV} {t : ByteArray} {q : Int} {bv sv : Value} {B : List (Nat × Nat)} {sn : List Int} {lo : Int} {w w' : World} (h : Idle base b gs gn capS capN L t q bv sv B sn lo w) (hk : ∀ (j : Nat) (cs : Array Value) (T : TypeId), w.heap[j]? = some (.cells cs T (0, 0)) → (T = 125 ∨ T = 96 ∨ T = 3 ∨ T = 129) → w'.heap[j]? = w.heap[j]?) : Idle base b gs gn capS capN L t q bv sv B sn lo w' := by
  obtain ⟨cur, h2, h3⟩ := h.stp
  obtain ⟨n, X, hX⟩ := h.spare
  have hrow : ∀ {v : Value} {n : Nat} {xs : List Value}, w.ownsRow base 129 2 v n xs → w'.ownsRow base 129 2 v n xs := fun {v n xs} hr => by
    refine ⟨hr.1, ?_⟩
    rcases hr.2 with h0 | ⟨g, cap, cur, hv, hg, hgg, rest⟩
    · exact .inl h0
    · exact .inr ⟨g, cap, cur, hv, hg, (hk g _ _ hgg (.inr (.inr (.inr rfl)))).trans hgg, rest⟩
  exact ⟨(hk b _ _ h.blk (.inl rfl)).trans h.blk, ⟨cur, (hk gs _ _ h2 (.inr (.inl rfl))).trans h2, h3⟩, (hk gn _ _ h.seen (.inr (.inr (.inl rfl)))).trans h.seen, h.len, hrow h.row, ⟨n, X, hrow hX⟩, h.apart, h.oks, h.few, h.many, h.baseb, h.basen⟩
end Go.Proofs.YtmmhajlfbjjocaaGreat
