/-
  What replaced hands on.
-/
import Derived.Test.YtmmhajlfbjjocaaGreatPMade
namespace Go.Proofs.YtmmhajlfbjjocaaGreat
open Go.RowKit Go.Shelf RxSem

def spanC (x : Nat × Nat) : List Value := [.int .i64 (x.1 : Int), .int .i64 (x.2 : Int)]
theorem infoSpan : (Tryz.prog.info? 77).map (fun i => (i.zero, i.size, i.bytes)) = some (some (.agg #[.int .i64 0, .int .i64 0]), 2, 16) := by kernel_rfl
theorem spanC_one (L : List (Nat × Nat)) : ∀ u ∈ L.flatMap spanC, u.oneCell' = true := by
  intro u hu
  obtain ⟨x, _, hx⟩ := List.mem_flatMap.1 hu
  simp [spanC] at hx
  rcases hx with rfl | rfl <;> rfl
/-- The box of a slice of places. -/
def Fall (base bs : Nat) (L : List (Nat × Nat)) (w : World) : Prop := ∃ v, w.heap[bs]? = some (.cells #[v] 74 (0, 0)) ∧ w.ownsRow base 77 2 v L.length (L.flatMap spanC)
set_option maxRecDepth 20000 in
set_option maxHeartbeats 400000 in
theorem replaced1_any (base bs p e : Nat) (L : List (Nat × Nat)) (w : World) (h : Fall base bs L w) (hl : L.length ≤ 100000) (hb : base ≤ w.heap.size) : Calls Tryz.prog 32 #[.agg #[.int .i64 (p : Int), .int .i64 (e : Int)], .pointer (some ⟨bs, 0, none⟩)] w fun z w' => z = .returned (.tuple #[]) ∧ Fall base bs (L ++ [(p, e)]) w' ∧ (∀ (j : Nat) (cs : Array Value) (T : TypeId), w.heap[j]? = some (.cells cs T (0, 0)) → T ≠ 74 → T ≠ 77 → w'.heap[j]? = w.heap[j]?) ∧ Fr (fun j => j = bs ∨ base ≤ j) w w' := by
  obtain ⟨i0, hif, hz0, hz1, hz2⟩ := info_parts infoSpan
  obtain ⟨v, hbx, hrow⟩ := h
  obtain ⟨a, c, hv⟩ := row_slice hrow
  obtain ⟨m, hm⟩ : ∃ m, m = L.length := ⟨_, rfl⟩
  rw [← hm] at hv hrow hl
  subst hv
  have c0 : w.cell? ⟨bs, 0, none⟩ = some (.slice a m c) := by simp only [World.cell?, hbx]; rfl
  have f0 : ∀ j, w.frozen? ⟨bs, j, none⟩ = false := fun j => by simp [World.frozen?, hbx]
  have hbl : bs < w.heap.size := (Array.getElem?_eq_some_iff.1 hbx).1
  have HX : Hid (w.heap[bs]? = some (.cells #[.slice a m c] 74 (0, 0)) ∧ m = L.length ∧ w.ownsRow base 77 2 (.slice a m c) m (L.flatMap spanC)) := ⟨hbx, hm, hrow⟩
  clear hm
  go_enter Tryz.func32, Tryz.ntmps32
  go_wp2_with (first | (at_builtin; refine wpList_append_own_at _ rfl _ _ 74 rfl base 77 i0 (.agg #[.int .i64 0, .int .i64 0]) 2 16 Tryz.underlying74 hif hz0 hz1 hz2 rfl (by decide) _ _ _ rfl ((hrow.alloc _).alloc _) ⟨w.heap.size + 1, 0, none⟩ 1 1 (spanC (p, e)) rfl rfl ?c1 ?c2 ?c3 ?c4 ?c5 ?_) | fail)
  case c1 =>
    intro j u hj
    match j, hj with
    | 0, hj => simp [spanC] at hj; subst hj; simp [Addr.add]
    | 1, hj => simp [spanC] at hj; subst hj; simp [Addr.add]
    | j + 2, hj => simp [spanC] at hj
  case c2 => intro u hu; exact spanC_one [(p, e)] u (by simpa using hu)
  case c3 => unfold maxLen; omega
  case c4 => omega
  case c5 => simp; omega
  intro v9 w9 hown' hgrow hnil hloc
  have hs9 := hgrow.size
  have hs9' : w.heap.size ≤ w9.heap.size := by simp at hs9; omega
  have hkeep : ∀ q, q < w.heap.size → (Value.slice a m c).ownBlock ≠ some q → w9.heap[q]? = w.heap[q]? := fun q hq hne => by
    rw [hgrow.block q (by simp; omega) (fun e => hne e.symm), Below.heap_alloc _ _ _ (by simp; omega)]
    exact Below.heap_alloc _ _ _ hq
  have hnb : (Value.slice a m c).ownBlock ≠ some bs := row_ne HX.out.2.2 HX.out.1 (by decide)
  have hb9 : w9.heap[bs]? = some (.cells #[.slice a m c] 74 (0, 0)) := (hkeep bs hbl hnb).trans HX.out.1
  have d0 : w9.cell? ⟨bs, 0, none⟩ = some (.slice a m c) := by simp only [World.cell?, hb9]; rfl
  have g0 : ∀ j, w9.frozen? ⟨bs, j, none⟩ = false := fun j => by simp [World.frozen?, hb9]
  have H9 : Hid (w9.ownsRow base 77 2 v9 (m + 1) (L.flatMap spanC ++ spanC (p, e)) ∧ w9.heap[bs]? = some (.cells #[.slice a m c] 74 (0, 0)) ∧ (∀ q, q < w.heap.size → (Value.slice a m c).ownBlock ≠ some q → w9.heap[q]? = w.heap[q]?) ∧ w9.os = w.os ∧ w9.tape = w.tape ∧ w9.output = w.output ∧ w.heap.size ≤ w9.heap.size) := ⟨hown', hb9, hkeep, hgrow.os, hgrow.tape, hgrow.output, hs9'⟩
  obtain ⟨a9, c9, hv9⟩ := row_slice hown'
  subst hv9
  clear hown' hgrow hnil hloc hrow hs9 hs9' hkeep hnb hb9
  go_wp2_with fail
  go_end0
  obtain ⟨r1, r2, r3, r4, r5, r6, r7⟩ := H9.out
  have o : Only bs w9 (w9.setCell ⟨bs, 0, none⟩ (.slice a9 (m + 1) c9)) := Only.set _ _ _ _
  have hL : (L ++ [(p, e)]).length = m + 1 := by rw [HX.out.2.1]; simp
  refine ⟨rfl, ⟨_, heap_set r2 _, ?_⟩, fun j cs T hj h1 h2 => ?_, r4, r5, r6, Nat.le_trans r7 (by rw [o.size]; exact Nat.le_refl _), fun j hj hd => ?_⟩
  · rw [hL, List.flatMap_append]
    have : [(p, e)].flatMap spanC = spanC (p, e) := by simp
    rw [this]
    exact row_set r1 (row_ne r1 r2 (by decide)) _
  · have hjl := (Array.getElem?_eq_some_iff.1 hj).1
    have hjb : j ≠ bs := fun e => by rw [e, HX.out.1] at hj; simp at hj; exact h1 hj.2.symm
    rw [o.block j hjb]
    exact r3 j hjl (fun hv => by
      obtain ⟨cur, hc⟩ := row_type HX.out.2.2 hv
      rw [hc] at hj; simp at hj; exact h2 hj.2.symm)
  · rw [o.block j (fun e => hd (.inl e))]
    exact r3 j hj (fun hv => hd (.inr (HX.out.2.2.lt j hv).1))
end Go.Proofs.YtmmhajlfbjjocaaGreat
