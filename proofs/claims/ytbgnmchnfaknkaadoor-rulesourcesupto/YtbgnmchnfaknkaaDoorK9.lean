/-
  What the program's Parse answers.
-/
import Derived.Test.YtbgnmchnfaknkaaDoorK8
namespace Go.Proofs.YtbgnmchnfaknkaaDoor
open Go.RowKit Go.Shelf

theorem box_kept {w w1 : World} {o : Obj} (h : Below (w.alloc o).heap.size (w.alloc o) w1) : w1.heap[w.heap.size]? = some o := by
  rw [h.block w.heap.size (by simp)]
  exact WD.alloc_at w o
abbrev zR : Array Value := #[.slice none 0 0, .int .i64 0, .slice none 0 0, .slice none 0 0, .int .i64 0]
/-- What stands while a line is parsed: the two results' boxes, as they were made. -/
structure PI (w W : World) : Prop where
  bel : Below w.heap.size w W
  r : W.heap[w.heap.size]? = some (.cells #[.slice none 0 0, .int .i64 0, .slice none 0 0, .slice none 0 0, .int .i64 0] 24 (0, 0))
  f : W.heap[w.heap.size + 1]? = some (.cells #[.int .i64 0, .int .i64 0] 27 (0, 0))
  mx : Mx W
  two : w.heap.size + 2 ≤ W.heap.size
theorem PI.below {w W W1 : World} (h : PI w W) (hb : Below W.heap.size W W1) : PI w W1 := by
  have h2 := h.two
  exact ⟨below_trans h.bel hb h.bel.size, (hb.block _ (by omega)).trans h.r, (hb.block _ (by omega)).trans h.f, h.mx.below hb h.mx.pos, Nat.le_trans h.two hb.size⟩
theorem PI.start {w : World} (hm : Mx w) : PI w ((w.alloc (.cells #[.slice none 0 0, .int .i64 0, .slice none 0 0, .slice none 0 0, .int .i64 0] 24)).alloc (.cells #[.int .i64 0, .int .i64 0] 27)) := by
  have hb : Below w.heap.size w ((w.alloc (.cells #[.slice none 0 0, .int .i64 0, .slice none 0 0, .slice none 0 0, .int .i64 0] 24)).alloc (.cells #[.int .i64 0, .int .i64 0] 27)) := ((Below.refl _ _).alloc (Nat.le_refl _) _).alloc (by simp) _
  refine ⟨hb, ?_, heap_alloc_new', hm.below hb hm.pos, by simp⟩
  rw [Below.heap_alloc _ _ _ (by simp)]
  exact WD.alloc_at _ _
/-- Two boxes are written, cell by cell. -/
def out7 (w : World) (b : Nat) (x0 x1 x2 x3 x4 y0 y1 : Value) : World :=
  ((((((w.setCell ⟨b, 0, none⟩ x0).setCell ⟨b, 1, none⟩ x1).setCell ⟨b, 2, none⟩ x2).setCell ⟨b, 3, none⟩ x3).setCell ⟨b, 4, none⟩ x4).setCell ⟨b + 1, 0, none⟩ y0).setCell ⟨b + 1, 1, none⟩ y1
theorem out7_heap {w : World} {b : Nat} (x0 x1 x2 x3 x4 y0 y1 : Value) (h : w.heap[b]? = some (.cells #[.slice none 0 0, .int .i64 0, .slice none 0 0, .slice none 0 0, .int .i64 0] 24 (0, 0))) (h2 : w.heap[b + 1]? = some (.cells #[.int .i64 0, .int .i64 0] 27 (0, 0))) :
    (out7 w b x0 x1 x2 x3 x4 y0 y1).heap[b]? = some (.cells #[x0, x1, x2, x3, x4] 24 (0, 0)) ∧ (out7 w b x0 x1 x2 x3 x4 y0 y1).heap[b + 1]? = some (.cells #[y0, y1] 27 (0, 0)) ∧ (∀ j, j ≠ b → j ≠ b + 1 → (out7 w b x0 x1 x2 x3 x4 y0 y1).heap[j]? = w.heap[j]?) := by
  unfold out7
  refine ⟨?_, ?_, ?_⟩
  · rw [Below.heap_setCell _ _ _ _ (by show b ≠ b + 1; omega), Below.heap_setCell _ _ _ _ (by show b ≠ b + 1; omega)]
    have e1 : (w.setCell ⟨b, 0, none⟩ x0).heap[b]? = some (.cells #[x0, .int .i64 0, .slice none 0 0, .slice none 0 0, .int .i64 0] 24 (0, 0)) := heap_set (i := 0) h x0
    have e2 : ((w.setCell ⟨b, 0, none⟩ x0).setCell ⟨b, 1, none⟩ x1).heap[b]? = some (.cells #[x0, x1, .slice none 0 0, .slice none 0 0, .int .i64 0] 24 (0, 0)) := heap_set (i := 1) e1 x1
    have e3 : (((w.setCell ⟨b, 0, none⟩ x0).setCell ⟨b, 1, none⟩ x1).setCell ⟨b, 2, none⟩ x2).heap[b]? = some (.cells #[x0, x1, x2, .slice none 0 0, .int .i64 0] 24 (0, 0)) := heap_set (i := 2) e2 x2
    have e4 : ((((w.setCell ⟨b, 0, none⟩ x0).setCell ⟨b, 1, none⟩ x1).setCell ⟨b, 2, none⟩ x2).setCell ⟨b, 3, none⟩ x3).heap[b]? = some (.cells #[x0, x1, x2, x3, .int .i64 0] 24 (0, 0)) := heap_set (i := 3) e3 x3
    exact heap_set (i := 4) e4 x4
  · have e0 : (((((w.setCell ⟨b, 0, none⟩ x0).setCell ⟨b, 1, none⟩ x1).setCell ⟨b, 2, none⟩ x2).setCell ⟨b, 3, none⟩ x3).setCell ⟨b, 4, none⟩ x4).heap[b + 1]? = some (.cells #[.int .i64 0, .int .i64 0] 27 (0, 0)) := ?_
    · have e1 : ((((((w.setCell ⟨b, 0, none⟩ x0).setCell ⟨b, 1, none⟩ x1).setCell ⟨b, 2, none⟩ x2).setCell ⟨b, 3, none⟩ x3).setCell ⟨b, 4, none⟩ x4).setCell ⟨b + 1, 0, none⟩ y0).heap[b + 1]? = some (.cells #[y0, .int .i64 0] 27 (0, 0)) := heap_set (i := 0) e0 y0
      exact heap_set (i := 1) e1 y1
    rw [Below.heap_setCell _ _ _ _ (by show b + 1 ≠ b; omega), Below.heap_setCell _ _ _ _ (by show b + 1 ≠ b; omega), Below.heap_setCell _ _ _ _ (by show b + 1 ≠ b; omega), Below.heap_setCell _ _ _ _ (by show b + 1 ≠ b; omega), Below.heap_setCell _ _ _ _ (by show b + 1 ≠ b; omega)]
    exact h2
  · intro j h1 h2
    rw [Below.heap_setCell _ _ _ _ h2, Below.heap_setCell _ _ _ _ h2, Below.heap_setCell _ _ _ _ h1, Below.heap_setCell _ _ _ _ h1, Below.heap_setCell _ _ _ _ h1, Below.heap_setCell _ _ _ _ h1, Below.heap_setCell _ _ _ _ h1]
theorem out7_below {w W : World} (x0 x1 x2 x3 x4 y0 y1 : Value) (h : PI w W) : Below w.heap.size w (out7 W w.heap.size x0 x1 x2 x3 x4 y0 y1) := by
  unfold out7
  have e1 := h.bel.setCell (p := ⟨w.heap.size, 0, none⟩) (Nat.le_refl _) x0
  have e2 := e1.setCell (p := ⟨w.heap.size, 1, none⟩) (Nat.le_refl _) x1
  have e3 := e2.setCell (p := ⟨w.heap.size, 2, none⟩) (Nat.le_refl _) x2
  have e4 := e3.setCell (p := ⟨w.heap.size, 3, none⟩) (Nat.le_refl _) x3
  have e5 := e4.setCell (p := ⟨w.heap.size, 4, none⟩) (Nat.le_refl _) x4
  have e6 := e5.setCell (p := ⟨w.heap.size + 1, 0, none⟩) (Nat.le_succ _) y0
  exact e6.setCell (p := ⟨w.heap.size + 1, 1, none⟩) (Nat.le_succ _) y1
/-- What Parse answers. -/
def ParsePost (s : ByteArray) (at_ : Int) (w : World) (e : Ending) (w' : World) : Prop :=
  ∃ v, e = .returned (.tuple #[v, .agg #[.int .i64 (Q.whyP (bl s) : Nat), .int .i64 (Q.faultAt (bl s) at_)]]) ∧ RuV w'.heap.size w' v (Q.ruP (bl s) at_) ∧ Below w.heap.size w w'
def isStr : Value → Bool
  | .string _ => true
  | _ => false
/-- A block without texts has no text in it. -/
theorem no_string {w : World} {b i : Nat} {cs : Array Value} {T : TypeId} {x : ByteArray} (h : w.heap[b]? = some (.cells cs T (0, 0))) (hc : cs.toList.any isStr = false) (hx : w.cell? ⟨b, i, none⟩ = some (.string x)) : False := by
  simp only [World.cell?, h] at hx
  have hm : Value.string x ∈ cs.toList := by
    have : cs[i]? = some (.string x) := hx
    exact Array.mem_toList_iff.2 (Array.mem_of_getElem? this)
  have := List.any_eq_false.1 hc _ hm
  exact this rfl
theorem RuV.out7 {w W : World} {v : Value} {r : Q.Ru} {B : Nat} (x0 x1 x2 x3 x4 y0 y1 : Value) (hp : PI w W) (h : RuV B W v r) (hB : B ≤ W.heap.size) : RuV (YtbgnmchnfaknkaaDoor.out7 W w.heap.size x0 x1 x2 x3 x4 y0 y1).heap.size (YtbgnmchnfaknkaaDoor.out7 W w.heap.size x0 x1 x2 x3 x4 y0 y1) v r := by
  have h2 := out7_heap x0 x1 x2 x3 x4 y0 y1 hp.r hp.f
  have hz : (YtbgnmchnfaknkaaDoor.out7 W w.heap.size x0 x1 x2 x3 x4 y0 y1).heap.size = W.heap.size := by unfold YtbgnmchnfaknkaaDoor.out7; simp only [size_set]
  have key : ∀ vt l, Words B W vt l → Words (YtbgnmchnfaknkaaDoor.out7 W w.heap.size x0 x1 x2 x3 x4 y0 y1).heap.size (YtbgnmchnfaknkaaDoor.out7 W w.heap.size x0 x1 x2 x3 x4 y0 y1) vt l := by
    intro vt l hw
    obtain ⟨a, n, c, e1, e2, e3, e4⟩ := hw
    refine ⟨a, n, c, e1, e2, e3, fun i hi => ?_⟩
    obtain ⟨b, o, f1, f2, f3⟩ := e4 i hi
    have g1 : b ≠ w.heap.size := fun e => no_string hp.r (by decide) (e ▸ f3)
    have g2 : b ≠ w.heap.size + 1 := fun e => no_string hp.f (by decide) (e ▸ f3)
    refine ⟨b, o, f1, by rw [hz]; omega, ?_⟩
    rw [← f3]
    unfold World.cell?
    rw [h2.2.2 b g1 g2]
  obtain ⟨vt, vs, vc, e, h3, h4, h5⟩ := h
  exact ⟨vt, vs, vc, e, key _ _ h3, key _ _ h4, key _ _ h5⟩
end Go.Proofs.YtbgnmchnfaknkaaDoor
