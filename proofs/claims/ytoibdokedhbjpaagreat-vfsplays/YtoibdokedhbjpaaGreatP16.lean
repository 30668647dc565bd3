/-
  The program's store and the document's own, side by side.
-/
import Derived.Test.YtoibdokedhbjpaaGreatP14
import Derived.Test.YtoibdokedhbjpaaGreatP15
namespace Go.Proofs.YtoibdokedhbjpaaGreat
open Go.RowKit Go.Shelf Go.Maps

theorem row_keep {w w' : World} {base : Nat} {e : TypeId} {size n : Nat} {v : Value} {xs : List Value} (h : w.ownsRow base e size v n xs) (hk : ∀ g, v.ownBlock = some g → g < w.heap.size → w'.heap[g]? = w.heap[g]?) : w'.ownsRow base e size v n xs := by
  refine ⟨h.1, ?_⟩
  rcases h.2 with h0 | ⟨g, cap, cur, hu, hg, hgg, rest⟩
  · exact .inl h0
  · exact .inr ⟨g, cap, cur, hu, hg, (hk g (by rw [hu]; rfl) (Array.getElem?_eq_some_iff.1 hgg).1).trans hgg, rest⟩
structure Pair (base b m br : Nat) (v vL vN : Value) (s r : St) (w : World) : Prop where
  st : Store base b m v s w
  rs : RSt base br vL vN r w
  vv : ∀ g, v.ownBlock = some g → vN.ownBlock ≠ some g
section
variable {base b m br : Nat} {v vL vN : Value} {s r : St} {w w' : World}
theorem Pair.nb (h : Pair base b m br v vL vN s r w) : b ≠ br := fun e => by
  have h1 := h.st.blk; have h2 := h.rs.blk
  rw [e, h2] at h1; simp at h1
theorem Pair.nm (h : Pair base b m br v vL vN s r w) : m ≠ br := fun e => by
  obtain ⟨es, clock, hx⟩ := h.st.map.isMap
  have h2 := h.rs.blk
  rw [e, h2] at hx; cases hx
theorem Pair.nv (h : Pair base b m br v vL vN s r w) : v.ownBlock ≠ some br := fun e => by
  obtain ⟨cur, hc⟩ := row_type h.st.row e
  have h2 := h.rs.blk
  rw [h2] at hc; simp at hc
theorem Pair.nLb (h : Pair base b m br v vL vN s r w) : ∀ g, vL.ownBlock = some g → g ≠ b ∧ g ≠ m ∧ v.ownBlock ≠ some g := fun g hg => by
  obtain ⟨cur, hc⟩ := row_type h.rs.row hg
  refine ⟨fun e => ?_, fun e => ?_, fun e => ?_⟩
  · have := h.st.blk; rw [← e, hc] at this; simp at this
  · obtain ⟨es, clock, hx⟩ := h.st.map.isMap; rw [← e, hc] at hx; cases hx
  · obtain ⟨cur2, hc2⟩ := row_type h.st.row e; rw [hc] at hc2; simp at hc2
theorem Pair.nNb (h : Pair base b m br v vL vN s r w) : ∀ g, vN.ownBlock = some g → g ≠ b ∧ g ≠ m ∧ v.ownBlock ≠ some g := fun g hg => by
  obtain ⟨cur, hc⟩ := row_type h.rs.nts hg
  refine ⟨fun e => ?_, fun e => ?_, fun e => h.vv g e hg⟩
  · have := h.st.blk; rw [← e, hc] at this; simp at this
  · obtain ⟨es, clock, hx⟩ := h.st.map.isMap; rw [← e, hc] at hx; cases hx
theorem Pair.left (h : Pair base b m br v vL vN s r w) {v1 : Value} {s1 : St} (hs : Store base b m v1 s1 w') (ht : Turn b m v v1 w w') : Pair base b m br v1 vL vN s1 r w' := by
  refine ⟨hs, ⟨(ht.block br h.rs.lt (Ne.symm h.nb) (Ne.symm h.nm) h.nv).trans h.rs.blk, row_keep h.rs.row fun g hg hlt => ?_, row_keep h.rs.nts fun g hg hlt => ?_, h.rs.hb⟩, fun g hg e => ?_⟩
  · obtain ⟨a, c, d⟩ := h.nLb g hg; exact ht.block g hlt a c d
  · obtain ⟨a, c, d⟩ := h.nNb g hg; exact ht.block g hlt a c d
  · rcases ht.own g hg with e1 | e1
    · exact h.vv g e1 e
    · have := (h.rs.nts.lt g e).2; omega
theorem Pair.right (h : Pair base b m br v vL vN s r w) {vL1 vN1 : Value} {r1 : St} (hs : RSt base br vL1 vN1 r1 w') (ht : RTurn br w w') (hf : Fresh w.heap.size vN vN1) : Pair base b m br v vL1 vN1 s r1 w' := by
  refine ⟨⟨(ht.block b h.st.lt h.nb).trans h.st.blk, h.st.map.of_block (ht.block m h.st.ltm h.nm), row_keep h.st.row fun g hg hlt => ht.block g hlt (fun e => h.nv (e ▸ hg)), h.st.hb, h.st.hm, h.st.ok⟩, hs, fun g hg e => ?_⟩
  rcases hf with e1 | e1
  · rw [e1] at e; exact h.vv g hg e
  · have := (h.st.row.lt g hg).2; have := e1 g e; omega
theorem Pair.below (h : Pair base b m br v vL vN s r w) (hb : Below w.heap.size w w') : Pair base b m br v vL vN s r w' := ⟨h.st.below hb, h.rs.below hb, h.vv⟩
theorem Pair.sized (h : Pair base b m br v vL vN s r w) : base ≤ w.heap.size := h.rs.sized
end
/-- Some pair, and what lay below is as it was. -/
def PR (base b m br : Nat) (w0 : World) (s r : St) (w : World) : Prop := ∃ v vL vN, Pair base b m br v vL vN s r w ∧ Below base w0 w
section
variable {base b m br : Nat} {w0 : World} {s r : St} {w w' : World}
theorem PR.below (h : PR base b m br w0 s r w) (hb : Below w.heap.size w w') : PR base b m br w0 s r w' := by
  obtain ⟨v, vL, vN, h1, h2⟩ := h
  exact ⟨v, vL, vN, h1.below hb, h2.trans (hb.mono h1.sized)⟩
theorem PR.does (h : PR base b m br w0 s r w) (a : Act) (ho : a.Ok) (hp : a.p.size ≤ 1048577) (hq : a.q.size ≤ 1048577) (ht : a.t.size ≤ 140737488355328) (hn : s.now ≤ 1152921504606846976) :
    Calls Tryz.prog 11 #[ptr b, actArg a] w fun e w' => e = .returned (.int .i64 (s.act a).2) ∧ PR base b m br w0 (s.act a).1 r w' := by
  obtain ⟨v, vL, vN, h1, h2⟩ := h
  refine (does_any a w h1.st ho hp hq ht hn).mono ?_
  rintro e w' ⟨rfl, v', hs, htn⟩
  exact ⟨rfl, v', vL, vN, h1.left hs htn, h2.trans (h1.st.low htn)⟩
theorem PR.would (h : PR base b m br w0 s r w) (a : Act) (ok : r.Ok) (tr : Tree r) (ho : a.Ok) (hp : a.p.size ≤ 1048577) (hq : a.q.size ≤ 1048577) (ht : a.t.size ≤ 140737488355328) (hn : r.now ≤ 1152921504606846976) (h8 : a.kind.tmod 10 ≠ 8) :
    Calls Tryz.prog 12 #[rptr br, actArg a] w fun e w' => e = .returned (.int .i64 (r.act a).2) ∧ PR base b m br w0 s (r.act a).1 w' := by
  obtain ⟨v, vL, vN, h1, h2⟩ := h
  refine (would_any a w h1.rs ok tr ho hp hq ht hn h8).mono ?_
  rintro e w' ⟨rfl, vL', vN', hs, htn, hf⟩
  exact ⟨rfl, v, vL', vN', h1.right hs htn hf, h2.trans (h1.rs.low htn)⟩
/-- The notes of both, in a row. -/
theorem PR.notes (h : PR base b m br w0 s r w) (f : Bool) :
    Calls Tryz.prog 9 #[ptr b, .bool f] w fun e w' => ∃ u, e = .returned u ∧ PR base b m br w0 (s.tell f) r w' ∧
      Calls Tryz.prog 10 #[rptr br, .bool f] w' fun e w'' => ∃ u2, e = .returned u2 ∧ PR base b m br w0 (s.tell f) (r.tell f) w'' ∧ w''.ownsRow base 74 2 u s.notes.length (notesV s.notes) ∧ w''.ownsRow base 74 2 u2 r.notes.length (notesV r.notes) := by
  obtain ⟨v, vL, vN, h1, h2⟩ := h
  refine (notes_any f w h1.st).mono ?_
  rintro e w' ⟨rfl, hs, hrow, htn⟩
  have h3 := h1.left hs htn
  have h4 := h2.trans (h1.st.low htn)
  refine ⟨v, rfl, ⟨_, vL, vN, h3, h4⟩, (rnotes_any f w' h3.rs).mono ?_⟩
  rintro e w'' ⟨rfl, hs2, hrow2, htn2⟩
  refine ⟨vN, rfl, ⟨_, vL, _, h3.right hs2 htn2 (.inr fun g hg => by cases hg), h4.trans (h3.rs.low htn2)⟩, row_keep hrow fun g hg hlt => htn2.block g hlt (fun e => h1.nv (e ▸ hg)), hrow2⟩
theorem PR.vstat (h : PR base b m br w0 s r w) (p : ByteArray) (hp : p.size ≤ 1050000) :
    Calls Tryz.prog 13 #[ptr b, .string p] w fun e w' => e = .returned (statV (s.stat p)) ∧ PR base b m br w0 s r w' := by
  have h0 := h
  obtain ⟨v, vL, vN, h1, h2⟩ := h
  exact (stat_any p w h1.st (by omega)).mono fun e w' hh => ⟨hh.1, h0.below hh.2⟩
theorem PR.ok (h : PR base b m br w0 s r w) : s.Ok := by obtain ⟨v, vL, vN, h1, _⟩ := h; exact h1.st.ok
theorem PR.rstat (h : PR base b m br w0 s r w) (p : ByteArray) (hp : p.size ≤ 1050000) (hl : r.L.length ≤ 1000) :
    Calls Tryz.prog 14 #[rptr br, .string p] w fun e w' => e = .returned (statV (r.stat p)) ∧ PR base b m br w0 s r w' := by
  have h0 := h
  obtain ⟨v, vL, vN, h1, h2⟩ := h
  exact (rstat_any p w h1.rs hl hp).mono fun e w' hh => ⟨hh.1, h0.below hh.2⟩
theorem PR.vused (h : PR base b m br w0 s r w) :
    Calls Tryz.prog 15 #[ptr b] w fun e w' => e = .returned (.int .i64 s.L.used) ∧ PR base b m br w0 s r w' := by
  have h0 := h
  obtain ⟨v, vL, vN, h1, h2⟩ := h
  exact (used_any w h1.st).mono fun e w' hh => ⟨hh.1, h0.below hh.2⟩
theorem PR.rused (h : PR base b m br w0 s r w) (hl : r.L.length ≤ 1000) (hu : r.L.used ≤ 10000000) :
    Calls Tryz.prog 16 #[rptr br] w fun e w' => e = .returned (.int .i64 (r.L.used : Nat)) ∧ PR base b m br w0 s r w' := by
  have h0 := h
  obtain ⟨v, vL, vN, h1, h2⟩ := h
  exact (rused_any w h1.rs hl hu).mono fun e w' hh => ⟨hh.1, hh.2 ▸ h0⟩
theorem PR.vclock (h : PR base b m br w0 s r w) :
    Calls Tryz.prog 17 #[ptr b] w fun e w' => e = .returned (.int .i64 s.now) ∧ PR base b m br w0 s r w' := by
  have h0 := h
  obtain ⟨v, vL, vN, h1, h2⟩ := h
  exact (clock_any w h1.st).mono fun e w' hh => ⟨hh.1, hh.2 ▸ h0⟩
theorem PR.c1 (h : PR base b m br w0 s r w) : w.cell? ⟨br, 1, none⟩ = some (.int .i64 r.now) := by obtain ⟨v, vL, vN, h1, _⟩ := h; exact h1.rs.c1
theorem PR.vread (h : PR base b m br w0 s r w) (p : ByteArray) (hp : p.size ≤ 1100000) :
    Calls Tryz.prog 23 #[ptr b, .string p] w fun e w' => e = .returned (readV (s.read p).2) ∧ PR base b m br w0 (s.read p).1 r w' := by
  obtain ⟨v, vL, vN, h1, h2⟩ := h
  refine (read_any p w h1.st hp).mono ?_
  rintro e w' ⟨rfl, v', hs, htn⟩
  exact ⟨rfl, v', vL, vN, h1.left hs htn, h2.trans (h1.st.low htn)⟩
theorem PR.rread (h : PR base b m br w0 s r w) (p : ByteArray) (hl : r.L.length ≤ 1000) (hn : r.notes.length ≤ 4096) (hp : p.size ≤ 1050000) :
    Calls Tryz.prog 24 #[rptr br, .string p] w fun e w' => e = .returned (readV (r.read p).2) ∧ PR base b m br w0 s (r.read p).1 w' := by
  obtain ⟨v, vL, vN, h1, h2⟩ := h
  refine (rread_any p w h1.rs hl hn hp).mono ?_
  rintro e w' ⟨rfl, vN', hs, htn, hf⟩
  exact ⟨rfl, v, vL, vN', h1.right hs htn hf, h2.trans (h1.rs.low htn)⟩
end
/-! A new one. -/
set_option maxRecDepth 20000 in
theorem rnew_bad (room : Int) (w : World) (h : room < 0 ∨ 1048576 < room) :
    Calls Tryz.prog 5 #[.int .i64 room] w fun e w' => e = .returned (.tuple #[.agg #[.int .i64 0, .int .i64 0, .slice none 0 0, .bool false, .slice none 0 0], .int .i64 1]) ∧ Below w.heap.size w w' := by
  have HB : Hid (∀ o, Below w.heap.size w (w.alloc o)) := fun o => (Below.refl _ w).alloc (Nat.le_refl _) _
  by_cases h0 : room < 0
  · clear h
    go_enter Tryz.func5, Tryz.ntmps5
    go_wp2
    refine bodyPost_ret (by simp [results, Tryz.results5, go_sem]; try rfl) rfl ?_
    exact ⟨rfl, HB.out _⟩
  · have h1 : 1048576 < room := by omega
    clear h
    go_enter Tryz.func5, Tryz.ntmps5
    go_wp2
    refine bodyPost_ret (by simp [results, Tryz.results5, go_sem]; try rfl) rfl ?_
    exact ⟨rfl, HB.out _⟩
set_option maxRecDepth 20000 in
theorem rnew_any (room : Int) (w : World) (h0 : 0 ≤ room) (h1 : room ≤ 1048576) :
    Calls Tryz.prog 5 #[.int .i64 room] w fun e w' => ∃ g, e = .returned (.tuple #[.agg #[.int .i64 room, .int .i64 0, .slice (some ⟨g, 0, none⟩) 1 1, .bool false, .slice none 0 0], .int .i64 0]) ∧ w'.ownsRow w.heap.size 70 4 (.slice (some ⟨g, 0, none⟩) 1 1) 1 (filesV (St.new room).L) ∧ Below w.heap.size w w' := by
  have h0' : ¬ room < 0 := by omega
  have h1' : ¬ 1048576 < room := by omega
  have HE : Hid (∀ o W, W = (w.alloc o).alloc (.cells #[.string topB, .string E, .int .i64 0, .bool true] 70) → W.ownsRow w.heap.size 70 4 (.slice (some ⟨w.heap.size + 1, 0, none⟩) 1 1) 1 (filesV (St.new room).L) ∧ Below w.heap.size w W) := by
    intro o W hW
    subst hW
    have hs : (w.alloc o).heap.size = w.heap.size + 1 := by simp
    have hn := heap_alloc_new (w.alloc o) (.cells #[.string topB, .string E, .int .i64 0, .bool true] 70)
    rw [hs] at hn
    refine ⟨⟨rfl, .inr ⟨w.heap.size + 1, 1, _, rfl, by omega, hn, Nat.le_refl _, by unfold maxLen; omega, rfl, rfl⟩⟩, ((Below.refl _ w).alloc (Nat.le_refl _) _).alloc (by omega) _⟩
  clear h0 h1
  go_enter Tryz.func5, Tryz.ntmps5
  go_wp2
  refine bodyPost_ret (by simp [results, Tryz.results5, go_sem]; try rfl) rfl ?_
  exact ⟨_, rfl, HE.out _ _ rfl⟩
end Go.Proofs.YtoibdokedhbjpaaGreat
