/-
  What has been joined, behind a new rule's being laid behind it.
-/
import Derived.Test.YtbgnmchnfaknkaaDoorJ6
namespace Go.Proofs.YtbgnmchnfaknkaaDoor
open Go.RowKit Go.Shelf Go.Maps

def newJ (t : ByteArray) (r : Q.Ru) (vt vs vc : Value) : JE := ⟨vt, vs, vc, Q.newR (bl t) r⟩
theorem newJ_l (t : ByteArray) (r : Q.Ru) (vt vs vc : Value) : (newJ t r vt vs vc).l 0 = [t] ∧ (newJ t r vt vs vc).l 1 = r.sources.map ba ∧ (newJ t r vt vs vc).l 2 = r.commands.map ba := by
  refine ⟨?_, ?_, ?_⟩
  · show [bl t].map ba = [t]; simp [ba_bl]
  · show (Q.newR (bl t) r).sources.map ba = _; rw [Q.src_new]
  · show (Q.newR (bl t) r).commands.map ba = _; rw [Q.cmd_new]

theorem js_new {base bj bm K : Nat} {vr vr' vt vs vc : Value} {es : List JE} {t : ByteArray} {r : Q.Ru} {w0 w4 w6 w8 : World} (hJ : JS base bj bm vr es K w0)
    (hm : MapI w4 bm (fun q => if q = t then some es.length else Q.lastI (bl q) (es.map JE.r)) (K + 1)) (h4 : Fr (fun j => j = bm) w0 w4) (h6 : Below w4.heap.size w4 w6)
    (hvt : w6.ownsRow base 9 1 vt 1 [.string t]) (hvs : w6.ownsRow base 9 1 vs r.sources.length ((r.sources.map ba).map .string)) (hvc : w6.ownsRow base 9 1 vc r.commands.length ((r.commands.map ba).map .string))
    (m1 : ∀ g, vt.ownBlock = some g → w4.heap.size ≤ g) (m2 : ∀ g, vs.ownBlock = some g → w4.heap.size ≤ g) (m3 : ∀ g, vc.ownBlock = some g → w4.heap.size ≤ g)
    (a12 : ∀ g, vt.ownBlock = some g → vs.ownBlock ≠ some g) (a13 : ∀ g, vt.ownBlock = some g → vc.ownBlock ≠ some g) (a23 : ∀ g, vs.ownBlock = some g → vc.ownBlock ≠ some g)
    (h8 : Fr (fun j => vr.ownBlock = some j) w6 w8) (hrow : w8.ownsRow base 24 5 vr' (es.length + 1) (es.flatMap JE.cells ++ (newJ t r vt vs vc).cells)) (hat : ∀ g, vr'.ownBlock = some g → vr.ownBlock = some g ∨ w0.heap.size ≤ g) :
    JS base bj bm vr' (es ++ [newJ t r vt vs vc]) (K + 1) (w8.setCell ⟨bj, 0, none⟩ vr') ∧ Below base w0 (w8.setCell ⟨bj, 0, none⟩ vr') ∧ Keeps bj bm vr es vr' (es ++ [newJ t r vt vs vc]) w0 (w8.setCell ⟨bj, 0, none⟩ vr') := by
  obtain ⟨n1, n2, n3, n4⟩ := hJ.ne_bj
  obtain ⟨l0, l1, l2⟩ := newJ_l t r vt vs vc
  have hbj : bj < w0.heap.size := (Array.getElem?_eq_some_iff.1 hJ.blk).1
  have f46 : Fr (fun _ => False) w4 w6 := Fr.of_below h6
  have f48 : Fr (fun j => vr.ownBlock = some j) w4 w8 := (f46.mono fun _ _ h => h.elim).trans h8
  have f08 : Fr (fun j => j = bm ∨ vr.ownBlock = some j) w0 w8 := (h4.mono fun _ _ h => .inl h).trans (f48.mono fun _ _ h => .inr h)
  have hb8 : w8.heap[bj]? = some (.cells #[vr, .map (some bm)] 56 (0, 0)) := (f08.block bj hbj (fun h => h.elim n1 n2)).trans hJ.blk
  have hn8 : vr'.ownBlock ≠ some bj := row_ne hrow hb8 (by decide)
  have ff : Fr (fun j => j = bj) w8 (w8.setCell ⟨bj, 0, none⟩ vr') := Fr.set bj 0 w8 vr' rfl
  have f0f : Fr (fun j => j = bm ∨ vr.ownBlock = some j ∨ j = bj) w0 (w8.setCell ⟨bj, 0, none⟩ vr') := (f08.mono fun _ _ h => h.elim .inl (fun h => .inr (.inl h))).trans (ff.mono fun _ _ h => .inr (.inr h))
  have f6f : Fr (fun j => vr.ownBlock = some j ∨ j = bj) w6 (w8.setCell ⟨bj, 0, none⟩ vr') := (h8.mono fun _ _ h => .inl h).trans (ff.mono fun _ _ h => .inr h)
  have hvr : ∀ g, vr.ownBlock = some g → g < w0.heap.size ∧ base ≤ g := fun g hg => ⟨(row_has hJ.row g hg).2, (row_has hJ.row g hg).1⟩
  have hz04 : w0.heap.size ≤ w4.heap.size := h4.size
  have hfar : ∀ g, w4.heap.size ≤ g → ¬ (vr.ownBlock = some g ∨ g = bj) := fun g hg h => by
    rcases h with h | h
    · have := (hvr g h).1; omega
    · omega
  have cls : ∀ (i : Nat) (e : JE) (c b : Nat), (es ++ [newJ t r vt vs vc])[i]? = some e → c < 3 → (e.v c).ownBlock = some b → (es[i]? = some e ∧ b < w0.heap.size) ∨ (i = es.length ∧ e = newJ t r vt vs vc ∧ w4.heap.size ≤ b) := by
    intro i e c b he hc hb
    by_cases hi : i < es.length
    · rw [List.getElem?_append_left hi] at he
      exact .inl ⟨he, (row_has (hJ.own i e c he hc) b hb).2⟩
    · have hi' : i = es.length := by
        have := (List.getElem?_eq_some_iff.1 he).1
        simp at this; omega
      subst hi'
      rw [List.getElem?_append_right (Nat.le_refl _), Nat.sub_self] at he
      cases he
      refine .inr ⟨rfl, rfl, ?_⟩
      match c, hc with
      | 0, _ => exact m1 b hb
      | 1, _ => exact m2 b hb
      | 2, _ => exact m3 b hb
  refine ⟨⟨?_, ?_, ?_, ?_, ?_, hJ.lo.1, hJ.lo.2.1, Nat.le_trans hJ.lo.2.2 f0f.size⟩, f0f.below hJ.lo.2.2 ?_, ?_⟩
  · rw [heap_set hb8]; simp
  · have hf : (fun q => Q.lastI (bl q) ((es ++ [newJ t r vt vs vc]).map JE.r)) = fun q => if q = t then some es.length else Q.lastI (bl q) (es.map JE.r) := by
      funext q
      rw [List.map_append, List.map_cons, List.map_nil, Q.lastI_snoc, show JE.r (newJ t r vt vs vc) = Q.newR (bl t) r from rfl, Q.hasG_new, List.length_map]
      by_cases h : q = t
      · subst h; simp
      · rw [if_neg h, if_neg (fun e => h (bl_inj (by simpa using e)).symm)]
    rw [hf]
    refine hm.of_block ?_
    have hbm : bm < w0.heap.size := hJ.map.lt
    rw [Below.heap_setCell _ _ _ _ (fun e => n1 e.symm), f48.block bm (by omega) n3]
  · rw [List.length_append, List.flatMap_append, show [newJ t r vt vs vc].flatMap JE.cells = (newJ t r vt vs vc).cells by simp]
    exact row_set hrow hn8 _
  · intro i e c he hc
    by_cases hi : i < es.length
    · rw [List.getElem?_append_left hi] at he
      refine row_fr (hJ.own i e c he hc) f0f fun g hg h => ?_
      obtain ⟨k1, k2, k3⟩ := n4 i e c he hc
      rcases h with h | h | h
      · exact k2 (h ▸ hg)
      · exact k3 g hg h
      · exact k1 (h ▸ hg)
    · have hi' : i = es.length := by
        have := (List.getElem?_eq_some_iff.1 he).1
        simp at this; omega
      subst hi'
      rw [List.getElem?_append_right (Nat.le_refl _), Nat.sub_self] at he
      cases he
      match c, hc with
      | 0, _ => rw [l0]; exact row_fr hvt f6f fun g hg => hfar g (m1 g hg)
      | 1, _ => rw [l1, List.length_map]; exact row_fr hvs f6f fun g hg => hfar g (m2 g hg)
      | 2, _ => rw [l2, List.length_map]; exact row_fr hvc f6f fun g hg => hfar g (m3 g hg)
  · intro i1 i2 e1 e2 c d b he1 he2 hc hd hb1 hb2
    rcases cls i1 e1 c b he1 hc hb1 with ⟨g1, k1⟩ | ⟨rfl, rfl, k1⟩
    · rcases cls i2 e2 d b he2 hd hb2 with ⟨g2, k2⟩ | ⟨rfl, rfl, k2⟩
      · exact hJ.apart i1 i2 e1 e2 c d b g1 g2 hc hd hb1 hb2
      · omega
    · rcases cls i2 e2 d b he2 hd hb2 with ⟨g2, k2⟩ | ⟨rfl, rfl, k2⟩
      · omega
      · refine ⟨rfl, ?_⟩
        match c, hc, d, hd with
        | 0, _, 0, _ => rfl
        | 1, _, 1, _ => rfl
        | 2, _, 2, _ => rfl
        | 0, _, 1, _ => exact absurd hb2 (a12 b hb1)
        | 0, _, 2, _ => exact absurd hb2 (a13 b hb1)
        | 1, _, 2, _ => exact absurd hb2 (a23 b hb1)
        | 1, _, 0, _ => exact absurd hb1 (a12 b hb2)
        | 2, _, 0, _ => exact absurd hb1 (a13 b hb2)
        | 2, _, 1, _ => exact absurd hb1 (a23 b hb2)
  · rintro j (rfl | h | rfl)
    · exact hJ.lo.2.1
    · exact (hvr j h).2
    · exact hJ.lo.1
  · rintro x hx ⟨k1, k2, k3, k4⟩
    refine ⟨⟨k1, k2, fun h => ?_, fun i e c he hc hb => ?_⟩, f0f.block x hx ?_⟩
    · rcases hat x h with h | h
      · exact k3 h
      · omega
    · rcases cls i e c x he hc hb with ⟨h1, _⟩ | ⟨_, _, h⟩
      · exact k4 i e c h1 hc hb
      · omega
    · rintro (h | h | h)
      · exact k2 h
      · exact k3 h
      · exact k1 h
end Go.Proofs.YtbgnmchnfaknkaaDoor
