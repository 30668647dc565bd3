/-
  Texts appended to a row of one's own, at a step of a region that draws its order; Chain's answer by its length alone.
-/
import Derived.Test.YtfcoihklihkngaaS12
import Derived.Maps.AppendAt
import Derived.Deep.RegionHeldLaw
namespace Go.Proofs.Ytfcoihklihkngaa
open Go.RowKit Go.Shelf

theorem row_slice {w : World} {base n k : Nat} {v : Value} {e : TypeId} {xs : List Value} (h : w.ownsRow base e k v n xs) : ∃ a c, v = .slice a n c := by
  rcases h.2 with ⟨rfl, rfl⟩ | ⟨g, cap, cur, rfl, _⟩
  · exact ⟨none, 0, rfl⟩
  · exact ⟨_, _, rfl⟩

theorem run_append_none_any {w : World} (base : Nat) (t ty e : TypeId) (i : TypeInfo) (size : Nat) (ht : Try.prog.underlying t = some (.slice e)) (hi : Try.prog.info? e = some i)
    (v : Value) (n c : Nat) (xs : List Value) (hown : w.ownsRow base e size v n xs) :
    (Builtin.append_ #[t, t] ty #[v, .slice none 0 c]).run Try.prog w = .ok v w := by
  rcases hown.2 with ⟨rfl, rfl⟩ | ⟨g, cap, cur, rfl, _, _, hnc, _⟩
  · simp [Builtin.append_, run_underlying ht, sizeOf, typeInfo, hi, Builtin.lenOf, Builtin.firstCells]
  · simp [Builtin.append_, run_underlying ht, sizeOf, typeInfo, hi, Builtin.lenOf, Builtin.firstCells, hnc, storeCells]

theorem strs_one (l : List ByteArray) : ∀ u ∈ l.map Value.string, u.oneCell' = true := by
  intro u hu
  obtain ⟨x, _, rfl⟩ := List.mem_map.1 hu
  rfl
/-- What an append of texts to one's own row runs to. -/
theorem run_app {w : World} (base B : Nat) (ty : TypeId) (v v2 : Value) (la lb : List ByteArray) (hown : w.ownsRow base 9 1 v la.length (la.map Value.string)) (h2 : Words B w v2 lb) (hnm : la.length + lb.length ≤ 1000000000000) (hbase : base ≤ w.heap.size) :
    ∃ a' c' w', (Builtin.append_ #[22, 22] ty #[v, v2]).run Try.prog w = .ok (.slice a' (la.length + lb.length) c') w' ∧ w'.ownsRow base 9 1 (.slice a' (la.length + lb.length) c') (la.length + lb.length) ((la ++ lb).map Value.string) ∧ w.grownBy w' v.ownBlock ∧ ((Value.slice a' (la.length + lb.length) c').ownBlock = v.ownBlock ∨ (Value.slice a' (la.length + lb.length) c').ownBlock = some w.heap.size) := by
  obtain ⟨i0, hi, hz0, hz1, hz2⟩ := info_of infoT9
  have key : ∃ v' w', (Builtin.append_ #[22, 22] ty #[v, v2]).run Try.prog w = .ok v' w' ∧ w'.ownsRow base 9 1 v' (la.length + lb.length) ((la ++ lb).map Value.string) ∧ w.grownBy w' v.ownBlock ∧ (v'.ownBlock = v.ownBlock ∨ v'.ownBlock = some w.heap.size) := by
    obtain ⟨a, n, c, rfl, hn, hc, hcell⟩ := h2
    cases a with
    | none =>
      have hb0 : lb = [] := by
        rcases lb with _ | ⟨x, t⟩
        · rfl
        · obtain ⟨b, o, e, _⟩ := hcell 0 (by simp); cases e
      subst hb0
      simp at hn; subst hn
      refine ⟨v, w, run_append_none_any base 22 ty 9 i0 1 Try.underlying22 hi v _ c _ hown, ?_, ⟨rfl, rfl, rfl, Nat.le_refl _, fun _ _ _ => rfl⟩, .inl rfl⟩
      simpa using hown
    | some ad =>
      obtain ⟨v', w', h1, h3, h4, _, h5⟩ := run_append_own_at (P := Try.prog) w base 22 ty 9 i0 (.string ⟨#[]⟩) 1 16 Try.underlying22 hi hz0 hz1 hz2 rfl (by decide) v la.length _ hown ad n c (lb.map Value.string) (by rw [List.length_map, hn, Nat.mul_one]) (by
        intro j u hu
        rw [List.getElem?_map] at hu
        cases hj : lb[j]? with
        | none => rw [hj] at hu; simp at hu
        | some x =>
          rw [hj] at hu; simp at hu; subst hu
          obtain ⟨hjl, rfl⟩ := List.getElem?_eq_some_iff.1 hj
          obtain ⟨b, o, e1, _, e3⟩ := hcell j hjl
          cases e1
          rw [add_none]; exact e3) (strs_one lb) (by unfold maxLen; omega) (by omega) hbase
      rw [hn] at h3
      exact ⟨v', w', h1, by rw [List.map_append]; exact h3, h4, h5⟩
  obtain ⟨v', w', h1, h3, h4, h5⟩ := key
  obtain ⟨a', c', rfl⟩ := row_slice h3
  exact ⟨a', c', w', h1, h3, h4, h5⟩
theorem step_app {w : World} {ops : Array Oper} {o : Oper} {a : Go.Act} {K : Go.Act → World → Prop} {Q : Exit → Go.Act → World → Prop} {E : Prop} (hgd : o.guard = none) (s x : Operand)
    (ho : o.op = .call { callee := .builtin .append, args := #[s, x], argTypes := #[22, 22] })
    (base B : Nat) (v v2 : Value) (la lb : List ByteArray) (n k : Nat) (hn : n = la.length) (hk : k = la.length + lb.length) (hs : a.eval s = v) (hown : w.ownsRow base 9 1 v n (la.map Value.string)) (hx : a.eval x = v2) (h2 : Words B w v2 lb) (hnm : k ≤ 1000000000000) (hbase : base ≤ w.heap.size)
    (h : ∀ a' c' w', w'.ownsRow base 9 1 (.slice a' k c') k ((la ++ lb).map Value.string) → Below base w w' → K (a.put o.dst (.slice a' k c')) w') :
    if Region.wanted o (yielded ops a.tmps) = true then Oper.wp Try.prog o a w K Q else E := by
  have hw : Region.wanted o (yielded ops a.tmps) = true := by simp [Region.wanted, hgd]
  rw [if_pos hw]
  subst hn
  obtain ⟨a', c', w', hr, h3, h4, h5⟩ := run_app base B o.type v v2 la lb hown h2 (by omega) hbase
  rw [← hk] at hr h3
  unfold Oper.wp execOp
  simp only [ho, resolve, invoke, builtin, Sem.run_bind, Sem.run_pure, Result.andThen_ok, List.map_toArray, List.map_cons, List.map_nil, hs, hx, hr]
  exact h a' c' w' h3 ((Below.refl _ _).grown h4 hbase (fun g hg => (hown.lt g hg).1))
def lenO (O : Option (List S.Tx)) : Nat := (O.getD []).length
/-- Chain's answer by its length. -/
theorem chain_len {O : Option (List S.Tx)} {w : World} {e : Ending} {w' : World} (h : ChainPost O w e w') : ∃ a c, e = .returned (.tuple #[.slice a (lenO O) c, .bool O.isSome]) ∧ lenO O ≤ c ∧ Below w.heap.size w w' := by
  obtain ⟨v, b, rfl, hb, hn, hs⟩ := h
  cases hO : O with
  | none =>
    obtain ⟨rfl, rfl⟩ := hn hO
    exact ⟨none, 0, rfl, Nat.le_refl _, hb⟩
  | some c =>
    obtain ⟨rfl, hrow⟩ := hs c hO
    rcases row_src hrow with ⟨rfl, h2, _⟩ | ⟨g, cap, rfl, _, hc, _, _⟩
    · have : lenO (some c) = 0 := h2
      exact ⟨none, 0, by rw [this]; rfl, by rw [this]; exact Nat.le_refl _, hb⟩
    · exact ⟨_, cap, rfl, hc, hb⟩
end Go.Proofs.Ytfcoihklihkngaa
