/-
  What stays while some blocks are written; texts appended to a row of one's own.
-/
import Derived.Test.YtbgnmchnfaknkaaDoorKX
import Derived.Test.YtbgnmchnfaknkaaDoorJM
import Derived.Maps.AppendAt
import Derived.Deep.RegionLaw
import Derived.Deep.RegionHeld3
import Derived.Deep.AppendLies
namespace Go.Proofs.YtbgnmchnfaknkaaDoor
open Go.RowKit Go.Shelf

/-- Of the blocks that were there none is written but those of D. -/
structure Fr (D : Nat → Prop) (w w' : World) : Prop where
  os : w'.os = w.os
  tape : w'.tape = w.tape
  output : w'.output = w.output
  size : w.heap.size ≤ w'.heap.size
  block : ∀ j, j < w.heap.size → ¬ D j → w'.heap[j]? = w.heap[j]?
theorem Fr.refl (D : Nat → Prop) (w : World) : Fr D w w := ⟨rfl, rfl, rfl, Nat.le_refl _, fun _ _ _ => rfl⟩
theorem Fr.trans {D : Nat → Prop} {w w1 w2 : World} (h : Fr D w w1) (k : Fr D w1 w2) : Fr D w w2 :=
  ⟨k.os.trans h.os, k.tape.trans h.tape, k.output.trans h.output, Nat.le_trans h.size k.size, fun j hj hD => (k.block j (Nat.lt_of_lt_of_le hj h.size) hD).trans (h.block j hj hD)⟩
theorem Fr.mono {D D' : Nat → Prop} {w w' : World} (h : Fr D w w') (hD : ∀ j, j < w.heap.size → D j → D' j) : Fr D' w w' := ⟨h.os, h.tape, h.output, h.size, fun j hj hn => h.block j hj (fun e => hn (hD j hj e))⟩
theorem Fr.of_below {D : Nat → Prop} {w w' : World} (h : Below w.heap.size w w') : Fr D w w' := ⟨h.os, h.tape, h.output, h.size, fun j hj _ => h.block j hj⟩
theorem Fr.set {D : Nat → Prop} (b i : Nat) (w : World) (x : Value) (hD : D b) : Fr D w (w.setCell ⟨b, i, none⟩ x) :=
  ⟨rfl, rfl, rfl, by rw [size_set]; exact Nat.le_refl _, fun j _ hn => Below.heap_setCell _ _ _ _ (fun e => hn (e ▸ hD))⟩
theorem Fr.alloc {D : Nat → Prop} (w : World) (o : Obj) : Fr D w (w.alloc o) := .of_below ((Below.refl _ _).alloc (Nat.le_refl _) _)
theorem Fr.drew {D : Nat → Prop} (w : World) : Fr D w w.drew := ⟨rfl, rfl, rfl, Nat.le_refl _, fun _ _ _ => rfl⟩
theorem Fr.grown {D : Nat → Prop} {w w' : World} {v : Value} (h : w.grownBy w' v.ownBlock) (hD : ∀ g, v.ownBlock = some g → D g) : Fr D w w' :=
  ⟨h.os, h.tape, h.output, h.size, fun j hj hn => h.block j hj (fun e => hn (hD j e.symm))⟩
theorem Fr.below {D : Nat → Prop} {w w' : World} {base : Nat} (h : Fr D w w') (hb : base ≤ w.heap.size) (hD : ∀ j, D j → base ≤ j) : Below base w w' :=
  ⟨h.os, h.tape, h.output, h.size, fun j hj => h.block j (by omega) (fun e => by have := hD j e; omega)⟩
theorem row_fr {D : Nat → Prop} {w w' : World} {base n k : Nat} {v : Value} {e : TypeId} {xs : List Value} (h : w.ownsRow base e k v n xs) (hf : Fr D w w') (hD : ∀ g, v.ownBlock = some g → ¬ D g) : w'.ownsRow base e k v n xs := by
  refine ⟨h.1, ?_⟩
  rcases h.2 with h0 | ⟨g, cap, cur, hv, hg, hgg, rest⟩
  · exact .inl h0
  · refine .inr ⟨g, cap, cur, hv, hg, ?_, rest⟩
    rw [hf.block g (Array.getElem?_eq_some_iff.1 hgg).1 (hD g (by rw [hv]; rfl))]
    exact hgg
theorem row_has {w : World} {base n k : Nat} {v : Value} {e : TypeId} {xs : List Value} (h : w.ownsRow base e k v n xs) : ∀ g, v.ownBlock = some g → base ≤ g ∧ g < w.heap.size := fun g hg => h.lt g hg
theorem row_ne {w : World} {base g : Nat} {v : Value} {e T : TypeId} {k n : Nat} {xs : List Value} {cs : Array Value} (h : w.ownsRow base e k v n xs) (hg : w.heap[g]? = some (.cells cs T (0, 0))) (hT : ¬ e = T) : v.ownBlock ≠ some g := by
  rcases h.2 with ⟨rfl, _⟩ | ⟨g', cap, cur, rfl, _, hc, _⟩
  · intro h; cases h
  · intro h
    simp [Value.ownBlock] at h
    subst h
    rw [hg] at hc
    simp at hc
    exact hT hc.2.symm
theorem row_slice {w : World} {base n k : Nat} {v : Value} {e : TypeId} {xs : List Value} (h : w.ownsRow base e k v n xs) : ∃ a c, v = .slice a n c := by
  rcases h.2 with ⟨rfl, rfl⟩ | ⟨g, cap, cur, rfl, _⟩
  · exact ⟨none, 0, rfl⟩
  · exact ⟨_, _, rfl⟩

theorem run_append_none_any {w : World} (base : Nat) (t ty e : TypeId) (i : TypeInfo) (size : Nat) (ht : Tryd.prog.underlying t = some (.slice e)) (hi : Tryd.prog.info? e = some i)
    (v : Value) (n c : Nat) (xs : List Value) (hown : w.ownsRow base e size v n xs) :
    (Builtin.append_ #[t, t] ty #[v, .slice none 0 c]).run Tryd.prog w = .ok v w := by
  rcases hown.2 with ⟨rfl, rfl⟩ | ⟨g, cap, cur, rfl, _, _, hnc, _⟩
  · simp [Builtin.append_, run_underlying ht, sizeOf, typeInfo, hi, Builtin.lenOf, Builtin.firstCells]
  · simp [Builtin.append_, run_underlying ht, sizeOf, typeInfo, hi, Builtin.lenOf, Builtin.firstCells, hnc, storeCells]

theorem strs_one (l : List ByteArray) : ∀ u ∈ l.map Value.string, u.oneCell' = true := by
  intro u hu
  obtain ⟨x, _, rfl⟩ := List.mem_map.1 hu
  rfl
/-- What an append of texts to one's own row runs to. -/
theorem run_app {w : World} (base B : Nat) (ty : TypeId) (v v2 : Value) (la lb : List ByteArray) (hown : w.ownsRow base 9 1 v la.length (la.map Value.string)) (h2 : Words B w v2 lb) (hnm : la.length + lb.length ≤ 1000000000000) (hbase : base ≤ w.heap.size) :
    ∃ a' c' w', (Builtin.append_ #[22, 22] ty #[v, v2]).run Tryd.prog w = .ok (.slice a' (la.length + lb.length) c') w' ∧ w'.ownsRow base 9 1 (.slice a' (la.length + lb.length) c') (la.length + lb.length) ((la ++ lb).map Value.string) ∧ w.grownBy w' v.ownBlock ∧ ((Value.slice a' (la.length + lb.length) c').ownBlock = v.ownBlock ∨ (Value.slice a' (la.length + lb.length) c').ownBlock = some w.heap.size) := by
  obtain ⟨i0, hi, hz0, hz1, hz2⟩ := info_of WD.infoS
  have key : ∃ v' w', (Builtin.append_ #[22, 22] ty #[v, v2]).run Tryd.prog w = .ok v' w' ∧ w'.ownsRow base 9 1 v' (la.length + lb.length) ((la ++ lb).map Value.string) ∧ w.grownBy w' v.ownBlock ∧ (v'.ownBlock = v.ownBlock ∨ v'.ownBlock = some w.heap.size) := by
    obtain ⟨a, n, c, rfl, hn, hc, hcell⟩ := h2
    cases a with
    | none =>
      have hb0 : lb = [] := by
        rcases lb with _ | ⟨x, t⟩
        · rfl
        · obtain ⟨b, o, e, _⟩ := hcell 0 (by simp); cases e
      subst hb0
      simp at hn; subst hn
      refine ⟨v, w, run_append_none_any base 22 ty 9 i0 1 Tryd.underlying22 hi v _ c _ hown, ?_, ⟨rfl, rfl, rfl, Nat.le_refl _, fun _ _ _ => rfl⟩, .inl rfl⟩
      simpa using hown
    | some ad =>
      obtain ⟨v', w', h1, h3, h4, _, h5⟩ := run_append_own_at (P := Tryd.prog) w base 22 ty 9 i0 (.string ⟨#[]⟩) 1 16 Tryd.underlying22 hi hz0 hz1 hz2 rfl (by decide) v la.length _ hown ad n c (lb.map Value.string) (by rw [List.length_map, hn, Nat.mul_one]) (by
        intro j u hu
        rw [List.getElem?_map] at hu
        cases hj : lb[j]? with
        | none => rw [hj] at hu; simp at hu
        | some x =>
          rw [hj] at hu; simp at hu; subst hu
          obtain ⟨hjl, rfl⟩ := List.getElem?_eq_some_iff.1 hj
          obtain ⟨b, o, e1, _, e3⟩ := hcell j hjl
          cases e1
          rw [add_none]; exact e3) (strs_one lb) (by unfold maxLen; omega) (by omega) hbase
      rw [hn] at h3
      exact ⟨v', w', h1, by rw [List.map_append]; exact h3, h4, h5⟩
  obtain ⟨v', w', h1, h3, h4, h5⟩ := key
  obtain ⟨a', c', rfl⟩ := row_slice h3
  exact ⟨a', c', w', h1, h3, h4, h5⟩
/-- At a step of a region that draws its order. -/
theorem step_app {w : World} {ops : Array Oper} {o : Oper} {a : Go.Act} {K : Go.Act → World → Prop} {Q : Exit → Go.Act → World → Prop} {E : Prop} (hgd : o.guard = none) (s x : Operand)
    (ho : o.op = .call { callee := .builtin .append, args := #[s, x], argTypes := #[22, 22] })
    (base B : Nat) (v v2 : Value) (la lb : List ByteArray) (hs : a.eval s = v) (hown : w.ownsRow base 9 1 v la.length (la.map Value.string)) (hx : a.eval x = v2) (h2 : Words B w v2 lb) (hnm : la.length + lb.length ≤ 1000000000000) (hbase : base ≤ w.heap.size)
    (h : ∀ a' c' w', w'.ownsRow base 9 1 (.slice a' (la.length + lb.length) c') (la.length + lb.length) ((la ++ lb).map Value.string) → w.grownBy w' v.ownBlock → ((Value.slice a' (la.length + lb.length) c').ownBlock = v.ownBlock ∨ (Value.slice a' (la.length + lb.length) c').ownBlock = some w.heap.size) → K (a.put o.dst (.slice a' (la.length + lb.length) c')) w') :
    if Region.wanted o (yielded ops a.tmps) = true then Oper.wp Tryd.prog o a w K Q else E := by
  have hw : Region.wanted o (yielded ops a.tmps) = true := by simp [Region.wanted, hgd]
  rw [if_pos hw]
  obtain ⟨a', c', w', hr, h3, h4, h5⟩ := run_app base B o.type v v2 la lb hown h2 hnm hbase
  unfold Oper.wp execOp
  simp only [ho, resolve, invoke, builtin, Sem.run_bind, Sem.run_pure, Result.andThen_ok, List.map_toArray, List.map_cons, List.map_nil, hs, hx, hr]
  exact h a' c' w' h3 h4 h5
/-- At a plain region's list. -/
theorem list_app {w : World} {ops : Array Oper} {rest : List Oper} {o : Oper} {a : Go.Act} {Q : Exit → Go.Act → World → Prop} (hgd : o.guard = none) (s x : Operand)
    (ho : o.op = .call { callee := .builtin .append, args := #[s, x], argTypes := #[22, 22] })
    (base B : Nat) (v v2 : Value) (la lb : List ByteArray) (hs : a.eval s = v) (hown : w.ownsRow base 9 1 v la.length (la.map Value.string)) (hx : a.eval x = v2) (h2 : Words B w v2 lb) (hnm : la.length + lb.length ≤ 1000000000000) (hbase : base ≤ w.heap.size)
    (h : ∀ a' c' w', w'.ownsRow base 9 1 (.slice a' (la.length + lb.length) c') (la.length + lb.length) ((la ++ lb).map Value.string) → w.grownBy w' v.ownBlock → ((Value.slice a' (la.length + lb.length) c').ownBlock = v.ownBlock ∨ (Value.slice a' (la.length + lb.length) c').ownBlock = some w.heap.size) → wpList Tryd.prog ops Q rest (a.put o.dst (.slice a' (la.length + lb.length) c')) w') :
    wpList Tryd.prog ops Q (o :: rest) a w := by
  refine wpList_plain hgd fun K hK => ?_
  obtain ⟨a', c', w', hr, h3, h4, h5⟩ := run_app base B o.type v v2 la lb hown h2 hnm hbase
  unfold Oper.wp execOp
  simp only [ho, resolve, invoke, builtin, Sem.run_bind, Sem.run_pure, Result.andThen_ok, List.map_toArray, List.map_cons, List.map_nil, hs, hx, hr]
  exact hK _ _ (h a' c' w' h3 h4 h5)
end Go.Proofs.YtbgnmchnfaknkaaDoor
