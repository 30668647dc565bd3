/-
  What stays of a reading's builder while others are written, and the state of mean's loop.
-/
import Derived.Test.YtkelmhpoplbacaaGreatDoorX11
import Derived.Test.YtkelmhpoplbacaaGreatDoorM1
namespace Go.Proofs.YtkelmhpoplbacaaGreatDoor.Ex
open Go.RowKit Go.Shelf

theorem isB_fr {D : Nat → Prop} {B b : Nat} {o : List UInt8} {w w' : World} (h : IsB B b o w) (hf : Fr D w w') (hn : ∀ j cs T fz, w.heap[j]? = some (.cells cs T fz) → (T = 186 ∨ T = 5) → ¬ D j) : IsB B b o w' := by
  have hrow : ∀ v, w.ownsRowF B 5 1 v (Lib.byteCells o).length (Lib.byteCells o) → w'.ownsRowF B 5 1 v (Lib.byteCells o).length (Lib.byteCells o) := fun v hv => by
    refine ⟨hv.1, ?_⟩
    rcases hv.2 with h0 | ⟨g, cap, cur, fz, h1, h2, h3, rest⟩
    · exact .inl h0
    · exact .inr ⟨g, cap, cur, fz, h1, h2, (hf.block g (Array.getElem?_eq_some_iff.1 h3).1 (hn g _ _ _ h3 (.inr rfl))).trans h3, rest⟩
  rcases h with ⟨hB, v, hb, ho, hne⟩ | ⟨hB, v, hb, ho, hne⟩
  · exact .inl ⟨hB, v, (hf.block b (Array.getElem?_eq_some_iff.1 hb).1 (hn b _ _ _ hb (.inl rfl))).trans hb, hrow v ho, hne⟩
  · exact .inr ⟨hB, v, (hf.block b (Array.getElem?_eq_some_iff.1 hb).1 (hn b _ _ _ hb (.inl rfl))).trans hb, hrow v ho, hne⟩
theorem isB_cell {B b : Nat} {o : List UInt8} {w : World} (h : IsB B b o w) : ∃ cc, w.heap[b]? = some (.cells cc 186 (0, 0)) := by
  rcases h with ⟨_, v, h, _⟩ | ⟨_, v, h, _⟩
  · exact ⟨_, h⟩
  · exact ⟨_, h⟩
/-- How it stands ahead of each round of mean. -/
structure MI (B bw : Nat) (pv : Value) (within : List ByteArray) (br : Nat) (s : ByteArray) (vw : Value) (W : World) (a te : Nat) (made : ByteArray) (left : List Dl) (fuel : Nat) (vw' vl : Value) (wr : World) : Prop where
  wk : WkAt B bw pv fuel vw' within wr
  rd : RdAt br bw s vl left wr
  ib : IsB (W.heap.size + 1) (W.heap.size + 1) (bl made) wr
  bx : wr.heap[W.heap.size]? = some (.cells #[.int .i64 (a : Int), .int .i64 (te : Int)] 225 (0, 0))
  fr : Fr (FR bw br vw) W wr
  mv : Moved vw vw' W
  sz : made.size ≤ 65536
  fu : fuel ≤ 10000000
section
variable {B bw : Nat} {pv : Value} {within : List ByteArray} {br : Nat} {s : ByteArray} {vw : Value} {W : World} {a te : Nat} {made : ByteArray} {left : List Dl} {fuel : Nat} {vw' vl : Value} {wr : World}
theorem MI.big (h : MI B bw pv within br s vw W a te made left fuel vw' vl wr) : W.heap.size + 1 < wr.heap.size := by
  obtain ⟨cc, h1⟩ := isB_cell h.ib
  exact (Array.getElem?_eq_some_iff.1 h1).1
/-- What else there is, is none of what a turn of the work and the reading writes. -/
theorem MI.apart (h : MI B bw pv within br s vw W a te made left fuel vw' vl wr) (j : Nat) (cs : Array Value) (T : TypeId) (fz : Nat × Nat) (hj : wr.heap[j]? = some (.cells cs T fz)) (h1 : ¬ T = 203) (h2 : ¬ T = 222) (h3 : ¬ (9 : TypeId) = T) : ¬ FR bw br vw' j := fun e => by
  rcases e with e | e | e
  · rw [e, h.wk.blk] at hj; simp at hj; exact h1 hj.2.1.symm
  · rw [e, h.rd.blk] at hj; simp at hj; exact h2 hj.2.1.symm
  · obtain ⟨cur, hc⟩ := row_type h.wk.row e
    rw [hc] at hj; simp at hj; exact h3 hj.2.1
/-- The builder is written. -/
theorem MI.wrote (h : MI B bw pv within br s vw W a te made left fuel vw' vl wr) {made2 : ByteArray} {w2 : World} (hi : IsB (W.heap.size + 1) (W.heap.size + 1) (bl made2) w2) (hb : Below (W.heap.size + 1) wr w2) (ho : Lib.OthersKept 5 (some (W.heap.size + 1)) wr w2) (hs : made2.size ≤ 65536) : MI B bw pv within br s vw W a te made2 left fuel vw' vl w2 := by
  obtain ⟨cc, hbc⟩ := isB_cell h.ib
  have hk : ∀ (j : Nat) (cs : Array Value) (T : TypeId), wr.heap[j]? = some (.cells cs T (0, 0)) → ¬ T = 5 → ¬ T = 186 → w2.heap[j]? = some (.cells cs T (0, 0)) := fun j cs T hj h5 hB => ho j _ hj (fun e => by
      have e' := Option.some.inj e
      rw [e', hbc] at hj; simp at hj; exact hB hj.2.symm) (fun c fz e => by simp at e; exact h5 e.2.1)
  refine ⟨⟨hk _ _ _ h.wk.blk (by decide) (by decide), ?_, h.wk.hb⟩, ⟨hk _ _ _ h.rd.blk (by decide) (by decide), h.rd.row.kept fun g cs hg => hk g cs _ hg (by decide) (by decide)⟩, hi, hk _ _ _ h.bx (by decide) (by decide), ?_, h.mv, hs, h.fu⟩
  · refine ⟨h.wk.row.1, ?_⟩
    rcases h.wk.row.2 with h0 | ⟨g, cap, cur, hv, hg, hgg, rest⟩
    · exact .inl h0
    · exact .inr ⟨g, cap, cur, hv, hg, hk _ _ _ hgg (by decide) (by decide), rest⟩
  · exact ⟨hb.os.trans h.fr.os, hb.tape.trans h.fr.tape, hb.output.trans h.fr.output, Nat.le_trans h.fr.size hb.size, fun j hj hD => (hb.block j (by omega)).trans (h.fr.block j hj hD)⟩
theorem MI.add (h : MI B bw pv within br s vw W a te made left fuel vw' vl wr) {u : ByteArray} {w2 : World} (hi : IsB (W.heap.size + 1) (W.heap.size + 1) (bl made ++ bl u) w2) (hb : Below (W.heap.size + 1) wr w2) (ho : Lib.OthersKept 5 (some (W.heap.size + 1)) wr w2) (hs : made.size + u.size ≤ 65536) : MI B bw pv within br s vw W a te (made ++ u) left fuel vw' vl w2 := by
  have e1 : bl (made ++ u) = bl made ++ bl u := by simp [bl]
  exact h.wrote (by rw [e1]; exact hi) hb ho (by simp; omega)
/-- A dollar's own block stays while the builder is written, and while the work and the reading turn. -/
theorem MI.keeps (h : MI B bw pv within br s vw W a te made left fuel vw' vl wr) {xb : Nat} {cs : Array Value} (hx : wr.heap[xb]? = some (.cells cs 261 (0, 0))) {w2 : World} (ho : Lib.OthersKept 5 (some (W.heap.size + 1)) wr w2) : w2.heap[xb]? = some (.cells cs 261 (0, 0)) := by
  obtain ⟨cc, hbc⟩ := isB_cell h.ib
  exact ho xb _ hx (fun e => by have e' := Option.some.inj e; rw [e', hbc] at hx; simp at hx) (fun c fz e => by simp at e)
theorem MI.keepsF (h : MI B bw pv within br s vw W a te made left fuel vw' vl wr) {xb : Nat} {cs : Array Value} (hx : wr.heap[xb]? = some (.cells cs 261 (0, 0))) {w2 : World} (hf : Fr (FR bw br vw') wr w2) : w2.heap[xb]? = some (.cells cs 261 (0, 0)) :=
  (hf.block xb (Array.getElem?_eq_some_iff.1 hx).1 (h.apart _ _ _ _ hx (by decide) (by decide) (by decide))).trans hx
/-- A turn of the work and the reading. -/
theorem MI.turn (h : MI B bw pv within br s vw W a te made left fuel vw' vl wr) {left2 : List Dl} {fuel2 : Nat} {vw2 vl2 : Value} {w2 : World} (hk : WkAt B bw pv fuel2 vw2 within w2) (hr : RdAt br bw s vl2 left2 w2) (hf : Fr (FR bw br vw') wr w2) (hm : Moved vw' vw2 wr) (hfu : fuel2 ≤ 10000000) : MI B bw pv within br s vw W a te made left2 fuel2 vw2 vl2 w2 := by
  refine ⟨hk, hr, isB_fr h.ib hf (fun j cs T fz hj hT => h.apart j cs T fz hj ?_ ?_ ?_), (hf.block _ (Array.getElem?_eq_some_iff.1 h.bx).1 (h.apart _ _ _ _ h.bx (by decide) (by decide) (by decide))).trans h.bx, h.fr.nextR h.mv hf, h.mv.next h.fr.size hm, h.sz, hfu⟩
  · rcases hT with rfl | rfl <;> decide
  · rcases hT with rfl | rfl <;> decide
  · rcases hT with rfl | rfl <;> decide
/-- New memory. -/
theorem MI.below (h : MI B bw pv within br s vw W a te made left fuel vw' vl wr) {w2 : World} (hb : Below wr.heap.size wr w2) : MI B bw pv within br s vw W a te made left fuel vw' vl w2 :=
  h.turn (h.wk.below hb) (h.rd.below hb) (.of_below hb) (Moved.refl _ _) h.fu
theorem MI.low (h : MI B bw pv within br s vw W a te made left fuel vw' vl wr) {f0 : Nat} {w0 : World} (hk : WkAt B bw pv f0 vw within W) (hbr : B ≤ br) (hW : Below B w0 W) : Below B w0 wr := hW.trans (h.fr.below hk.low (FR.low hk hbr))
/-- The first dollar is taken. -/
theorem MI.take {d : Dl} {rest : List Dl} (h : MI B bw pv within br s vw W a te made (d :: rest) fuel vw' vl wr) {vl2 : Value} (hv : DlsAt wr vl2 rest) (o : Obj) : MI B bw pv within br s vw W a te made rest fuel vw' vl2 ((wr.setCell ⟨br, 2, none⟩ vl2).alloc o) := by
  have hf : Fr (FR bw br vw') wr (wr.setCell ⟨br, 2, none⟩ vl2) := Fr.set br 2 wr _ (.inr (.inl rfl))
  have hne : bw ≠ br := fun e => by have h1 := h.wk.blk; rw [e, h.rd.blk] at h1; simp at h1
  have h2 : MI B bw pv within br s vw W a te made rest fuel vw' vl2 (wr.setCell ⟨br, 2, none⟩ vl2) := by
    refine h.turn ⟨?_, row_set h.wk.row (row_ne' h.wk.row h.rd.blk (by decide)) _, h.wk.hb⟩ ⟨heap_set h.rd.blk _, hv.kept fun g cs hg => ?_⟩ hf (Moved.refl _ _) h.fu
    · rw [Below.heap_setCell _ _ _ _ hne]; exact h.wk.blk
    · rw [Below.heap_setCell _ _ _ _ (fun e => by simp only at e; rw [e, h.rd.blk] at hg; simp at hg)]; exact hg
  exact h2.below ((Below.refl _ _).alloc (Nat.le_refl _) _)
/-- How it stands at first. -/
theorem MI.first (hk : WkAt B bw pv fuel vw within W) (hr : RdAt br bw s vl left W) (hf : fuel ≤ 10000000) : MI B bw pv within br s vw W a te E0 left fuel vw vl ((W.alloc (.cells #[.int .i64 (a : Int), .int .i64 (te : Int)] 225)).alloc (.cells #[.pointer none, .slice none 0 0] 186)) := by
  have hb : Below W.heap.size W ((W.alloc (.cells #[.int .i64 (a : Int), .int .i64 (te : Int)] 225)).alloc (.cells #[.pointer none, .slice none 0 0] 186)) := ((Below.refl _ _).alloc (Nat.le_refl _) _).alloc (by simp) _
  refine ⟨hk.below hb, hr.below hb, .inl ⟨Nat.le_refl _, .slice none 0 0, ?_, World.ownsRowF_of (World.ownsRow_nil _ _ _ _), by simp [Value.ownBlock]⟩, ?_, .of_below hb, Moved.refl _ _, by show (0 : Nat) ≤ 65536; omega, hf⟩
  · exact heap_alloc_new'
  · rw [Below.heap_alloc _ _ _ (by simp)]; exact heap_alloc_new _ _
end
end Go.Proofs.YtkelmhpoplbacaaGreatDoor.Ex
