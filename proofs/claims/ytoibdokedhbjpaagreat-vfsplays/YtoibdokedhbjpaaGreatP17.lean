/-
  The two stores, and the call that lies beside them.
-/
import Derived.Test.YtoibdokedhbjpaaGreatP16
namespace Go.Proofs.YtoibdokedhbjpaaGreat
open Go.RowKit Go.Shelf Go.Maps

abbrev actCells (a : Act) : Array Value := #[.int .u8 a.kind, .string a.p, .string a.q, .string a.t, .int .i64 a.n]
structure PA (base b m br ha : Nat) (w0 : World) (a : Act) (s r : St) (w : World) : Prop where
  pr : PR base b m br w0 s r w
  blk : w.heap[ha]? = some (.cells (actCells a) 36 (0, 0))
section
variable {base b m br ha : Nat} {w0 : World} {a : Act} {s r : St} {w w' : World}
theorem PA.below (h : PA base b m br ha w0 a s r w) (hb : Below w.heap.size w w') : PA base b m br ha w0 a s r w' :=
  ⟨h.pr.below hb, (hb.block ha (Array.getElem?_eq_some_iff.1 h.blk).1).trans h.blk⟩
theorem PA.cells (h : PA base b m br ha w0 a s r w) : w.cell? ⟨ha, 0, none⟩ = some (.int .u8 a.kind) ∧ w.cell? ⟨ha, 1, none⟩ = some (.string a.p) ∧ w.cell? ⟨ha, 2, none⟩ = some (.string a.q) ∧ w.cell? ⟨ha, 3, none⟩ = some (.string a.t) ∧ w.cell? ⟨ha, 4, none⟩ = some (.int .i64 a.n) :=
  ⟨cell_in h.blk 0 rfl, cell_in h.blk 1 rfl, cell_in h.blk 2 rfl, cell_in h.blk 3 rfl, cell_in h.blk 4 rfl⟩
theorem act_left {v vL vN v1 : Value} {cs : Array Value} (h : Pair base b m br v vL vN s r w) (ht : Turn b m v v1 w w') (hk : w.heap[ha]? = some (.cells cs 36 (0, 0))) : w'.heap[ha]? = some (.cells cs 36 (0, 0)) := by
  refine (ht.block ha (Array.getElem?_eq_some_iff.1 hk).1 (fun e => ?_) (fun e => ?_) (fun e => ?_)).trans hk
  · have := h.st.blk; rw [← e, hk] at this; simp at this
  · obtain ⟨es, clock, hx⟩ := h.st.map.isMap; rw [← e, hk] at hx; cases hx
  · obtain ⟨cur, hc⟩ := row_type h.st.row e; rw [hk] at hc; simp at hc
theorem act_right {v vL vN : Value} {cs : Array Value} (h : Pair base b m br v vL vN s r w) (ht : RTurn br w w') (hk : w.heap[ha]? = some (.cells cs 36 (0, 0))) : w'.heap[ha]? = some (.cells cs 36 (0, 0)) := by
  refine (ht.block ha (Array.getElem?_eq_some_iff.1 hk).1 (fun e => ?_)).trans hk
  have := h.rs.blk; rw [← e, hk] at this; simp at this
theorem PA.does (h : PA base b m br ha w0 a s r w) (ho : a.Ok) (hp : a.p.size ≤ 1048577) (hq : a.q.size ≤ 1048577) (ht : a.t.size ≤ 140737488355328) (hn : s.now ≤ 1152921504606846976) :
    Calls Tryz.prog 11 #[ptr b, actArg a] w fun e w' => e = .returned (.int .i64 (s.act a).2) ∧ PA base b m br ha w0 a (s.act a).1 r w' := by
  obtain ⟨⟨v, vL, vN, h1, h2⟩, hk⟩ := h
  refine (does_any a w h1.st ho hp hq ht hn).mono ?_
  rintro e w' ⟨rfl, v', hs, htn⟩
  exact ⟨rfl, ⟨v', vL, vN, h1.left hs htn, h2.trans (h1.st.low htn)⟩, act_left h1 htn hk⟩
theorem PA.would (h : PA base b m br ha w0 a s r w) (ok : r.Ok) (tr : Tree r) (ho : a.Ok) (hp : a.p.size ≤ 1048577) (hq : a.q.size ≤ 1048577) (ht : a.t.size ≤ 140737488355328) (hn : r.now ≤ 1152921504606846976) (h8 : a.kind.tmod 10 ≠ 8) :
    Calls Tryz.prog 12 #[rptr br, actArg a] w fun e w' => e = .returned (.int .i64 (r.act a).2) ∧ PA base b m br ha w0 a s (r.act a).1 w' := by
  obtain ⟨⟨v, vL, vN, h1, h2⟩, hk⟩ := h
  refine (would_any a w h1.rs ok tr ho hp hq ht hn h8).mono ?_
  rintro e w' ⟨rfl, vL', vN', hs, htn, hf⟩
  exact ⟨rfl, ⟨v, vL', vN', h1.right hs htn hf, h2.trans (h1.rs.low htn)⟩, act_right h1 htn hk⟩
/-- The notes of both, in a row, and whether they are the same. -/
theorem PA.notes (h : PA base b m br ha w0 a s s w) (f : Bool) :
    Calls Tryz.prog 9 #[ptr b, .bool f] w fun e w' => ∃ u, e = .returned u ∧ PA base b m br ha w0 a (s.tell f) s w' ∧
      ∀ w1, Below w'.heap.size w' w1 → Calls Tryz.prog 10 #[rptr br, .bool f] w1 fun e w'' => ∃ u2, e = .returned u2 ∧ PA base b m br ha w0 a (s.tell f) (s.tell f) w'' ∧
        ∀ w3, Below w''.heap.size w'' w3 → Calls Tryz.prog 8 #[u, u2] w3 fun e w4 => e = .returned (.bool true) ∧ PA base b m br ha w0 a (s.tell f) (s.tell f) w4 := by
  obtain ⟨⟨v, vL, vN, h1, h2⟩, hk⟩ := h
  have hno := h1.st.ok.note
  refine (notes_any f w h1.st).mono ?_
  rintro e w' ⟨rfl, hs, hrow, htn⟩
  have h3 := h1.left hs htn
  have h4 := h2.trans (h1.st.low htn)
  have hk2 := act_left h1 htn hk
  have hP : PA base b m br ha w0 a (s.tell f) s w' := ⟨⟨_, vL, vN, h3, h4⟩, hk2⟩
  refine ⟨v, rfl, hP, fun w1 hB => ?_⟩
  have h3' := h3.below hB
  have h4' := h4.trans (hB.mono h3.sized)
  have hk3 := (hP.below hB).blk
  refine (rnotes_any f w1 h3'.rs).mono ?_
  rintro e w'' ⟨rfl, hs2, hrow2, htn2⟩
  have hrow' : w''.ownsRow base 74 2 v s.notes.length (notesV s.notes) := row_keep (owns_below hrow hB) fun g hg hlt => htn2.block g hlt (fun e => h1.nv (e ▸ hg))
  have hP2 : PA base b m br ha w0 a (s.tell f) (s.tell f) w'' := ⟨⟨_, vL, _, h3'.right hs2 htn2 (.inr fun g hg => by cases hg), h4'.trans (h3'.rs.low htn2)⟩, act_right h3' htn2 hk3⟩
  refine ⟨vN, rfl, hP2, fun w3 hB3 => ?_⟩
  refine (touches_any s.notes v vN base base w3 (by omega) (owns_below hrow' hB3) (owns_below hrow2 hB3)).mono ?_
  rintro e w4 ⟨rfl, hB4⟩
  exact ⟨rfl, (hP2.below hB3).below hB4⟩
theorem PA.vstat (h : PA base b m br ha w0 a s r w) (p : ByteArray) (hp : p.size ≤ 1050000) :
    Calls Tryz.prog 13 #[ptr b, .string p] w fun e w' => e = .returned (statV (s.stat p)) ∧ PA base b m br ha w0 a s r w' := by
  have h0 := h
  obtain ⟨⟨v, vL, vN, h1, h2⟩, _⟩ := h
  exact (stat_any p w h1.st (by omega)).mono fun e w' hh => ⟨hh.1, h0.below hh.2⟩
theorem PA.rstat (h : PA base b m br ha w0 a s r w) (p : ByteArray) (hp : p.size ≤ 1050000) (hl : r.L.length ≤ 1000) :
    Calls Tryz.prog 14 #[rptr br, .string p] w fun e w' => e = .returned (statV (r.stat p)) ∧ PA base b m br ha w0 a s r w' := by
  have h0 := h
  obtain ⟨⟨v, vL, vN, h1, h2⟩, _⟩ := h
  exact (rstat_any p w h1.rs hl hp).mono fun e w' hh => ⟨hh.1, h0.below hh.2⟩
end
end Go.Proofs.YtoibdokedhbjpaaGreat
