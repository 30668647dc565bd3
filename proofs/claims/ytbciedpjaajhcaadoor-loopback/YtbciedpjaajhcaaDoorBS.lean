/-
  A row of blocks that grows by one; the builder's state in memory.
-/
import Derived.Test.YtbciedpjaajhcaaDoorBM
import Derived.Test.YtbciedpjaajhcaaDoorX2
import Derived.Deep.AppendLies
namespace Go.Proofs.YtbciedpjaajhcaaDoor
open Go.RowKit Go.Shelf
open Ex (Fr)
theorem infoN : (Tryd.prog.info? 47).map (fun i => (i.zero, i.size, i.bytes)) = some (some (.agg #[.int .i64 0, .string ⟨#[]⟩, .int .i64 0, .bool false, .slice none 0 0, .slice none 0 0, .string ⟨#[]⟩, .slice none 0 0]), 8, 128) := by kernel_rfl
theorem infoK : (Tryd.prog.info? 66).map (fun i => (i.zero, i.size, i.bytes)) = some (some (.agg #[.string ⟨#[]⟩, .string ⟨#[]⟩, .int .i64 0, .slice none 0 0]), 4, 64) := by kernel_rfl
abbrev zN : List Value := [.int .i64 0, .string ⟨#[]⟩, .int .i64 0, .bool false, .slice none 0 0, .slice none 0 0, .string ⟨#[]⟩, .slice none 0 0]
def IsS (v : Value) : Prop := ∃ a n c, v = .slice a n c
theorem zN_one : ∀ u ∈ zN, u.oneCell' = true := by
  intro u hu; simp only [zN, List.mem_cons, List.not_mem_nil, or_false] at hu; rcases hu with rfl | rfl | rfl | rfl | rfl | rfl | rfl | rfl <;> rfl
theorem zN_at {w : World} : ∀ j u, zN[j]? = some u → (w.alloc (.cells #[.int .i64 0, .string ⟨#[]⟩, .int .i64 0, .bool false, .slice none 0 0, .slice none 0 0, .string ⟨#[]⟩, .slice none 0 0] 47)).cell? ((⟨w.heap.size, 0, none⟩ : Addr).add j) = some u := by
  intro j u hj
  rw [add_none, Nat.zero_add]
  exact cell_in (cs := #[.int .i64 0, .string ⟨#[]⟩, .int .i64 0, .bool false, .slice none 0 0, .slice none 0 0, .string ⟨#[]⟩, .slice none 0 0]) (T := 47) (alloc_last _ _) j (by simpa using hj)
/-- A row that has just got an empty element. -/
theorem new_elem {w : World} {base n c g : Nat} {xs : List Value} (h : w.ownsRow base 47 8 (.slice (some ⟨g, 0, none⟩) (n + 1) c) (n + 1) (xs ++ zN)) (hx : xs.length = n * 8) :
    w.cell? ⟨g, n * 8, none⟩ = some (.int .i64 0) ∧ w.cell? ⟨g, n * 8 + 1, none⟩ = some (.string ⟨#[]⟩) ∧ w.cell? ⟨g, n * 8 + 2, none⟩ = some (.int .i64 0) ∧ w.cell? ⟨g, n * 8 + 3, none⟩ = some (.bool false) ∧ w.cell? ⟨g, n * 8 + 4, none⟩ = some (.slice none 0 0) ∧ w.cell? ⟨g, n * 8 + 5, none⟩ = some (.slice none 0 0) ∧ w.cell? ⟨g, n * 8 + 6, none⟩ = some (.string ⟨#[]⟩) ∧ w.cell? ⟨g, n * 8 + 7, none⟩ = some (.slice none 0 0) := by
  rcases row_src h with ⟨h1, h2, _⟩ | ⟨g', cap, hv, hg, hcap, hl, hc⟩
  · simp at h2
  · simp only [Value.slice.injEq, Option.some.injEq, Addr.mk.injEq, and_true] at hv
    obtain ⟨rfl, _, rfl⟩ := hv
    have key : ∀ j u, zN[j]? = some u → w.cell? ⟨g, n * 8 + j, none⟩ = some u := fun j u hj => by
      have := hc (n * 8 + j) u (by rw [List.getElem?_append_right (by omega), hx, Nat.add_sub_cancel_left]; exact hj)
      rw [add_none, Nat.zero_add] at this; exact this
    exact ⟨key 0 _ rfl, key 1 _ rfl, key 2 _ rfl, key 3 _ rfl, key 4 _ rfl, key 5 _ rfl, key 6 _ rfl, key 7 _ rfl⟩
theorem new_frozen {w : World} {base n c g : Nat} {xs : List Value} (h : w.ownsRow base 47 8 (.slice (some ⟨g, 0, none⟩) (n + 1) c) (n + 1) xs) : w.frozen? ⟨g, n * 8, none⟩ = false ∧ w.frozen? ⟨g, n * 8 + 1, none⟩ = false ∧ w.frozen? ⟨g, n * 8 + 2, none⟩ = false ∧ w.frozen? ⟨g, n * 8 + 3, none⟩ = false ∧ w.frozen? ⟨g, n * 8 + 4, none⟩ = false ∧ w.frozen? ⟨g, n * 8 + 5, none⟩ = false ∧ w.frozen? ⟨g, n * 8 + 6, none⟩ = false ∧ w.frozen? ⟨g, n * 8 + 7, none⟩ = false :=
  ⟨V.frozen_row h _, V.frozen_row h _, V.frozen_row h _, V.frozen_row h _, V.frozen_row h _, V.frozen_row h _, V.frozen_row h _, V.frozen_row h _⟩
/-- The eight stores into the new element. -/
abbrev set8 (w : World) (g o : Nat) (u0 u1 u2 u3 u4 u5 u6 u7 : Value) : World :=
  (((((((w.setCell ⟨g, o, none⟩ u0).setCell ⟨g, o + 1, none⟩ u1).setCell ⟨g, o + 2, none⟩ u2).setCell ⟨g, o + 3, none⟩ u3).setCell ⟨g, o + 4, none⟩ u4).setCell ⟨g, o + 5, none⟩ u5).setCell ⟨g, o + 6, none⟩ u6).setCell ⟨g, o + 7, none⟩ u7
theorem set8_row {w : World} {base n c g : Nat} {xs : List Value} (h : w.ownsRow base 47 8 (.slice (some ⟨g, 0, none⟩) (n + 1) c) (n + 1) (xs ++ zN)) (hx : xs.length = n * 8) (u0 u1 u2 u3 u4 u5 u6 u7 : Value) :
    (set8 w g (n * 8) u0 u1 u2 u3 u4 u5 u6 u7).ownsRow base 47 8 (.slice (some ⟨g, 0, none⟩) (n + 1) c) (n + 1) (xs ++ [u0, u1, u2, u3, u4, u5, u6, u7]) := by
  have h8 := V.owns_put (V.owns_put (V.owns_put (V.owns_put (V.owns_put (V.owns_put (V.owns_put (V.owns_put h (k := n * 8) u0) (k := n * 8 + 1) u1) (k := n * 8 + 2) u2) (k := n * 8 + 3) u3) (k := n * 8 + 4) u4) (k := n * 8 + 5) u5) (k := n * 8 + 6) u6) (k := n * 8 + 7) u7
  have e : ((((((((xs ++ zN).set (n * 8) u0).set (n * 8 + 1) u1).set (n * 8 + 2) u2).set (n * 8 + 3) u3).set (n * 8 + 4) u4).set (n * 8 + 5) u5).set (n * 8 + 6) u6).set (n * 8 + 7) u7 = xs ++ [u0, u1, u2, u3, u4, u5, u6, u7] := by
    rw [← hx]
    simp only [List.set_append_right _ _ (Nat.le_refl _), List.set_append_right _ _ (Nat.le_add_right _ _), Nat.sub_self, Nat.add_sub_cancel_left, zN]
    rfl
  rw [e] at h8
  exact h8
theorem set8_other {w : World} {g o : Nat} {u0 u1 u2 u3 u4 u5 u6 u7 : Value} {j : Nat} (h : j ≠ g) : (set8 w g o u0 u1 u2 u3 u4 u5 u6 u7).heap[j]? = w.heap[j]? := by
  unfold set8
  rw [Below.heap_setCell _ _ _ _ h, Below.heap_setCell _ _ _ _ h, Below.heap_setCell _ _ _ _ h, Below.heap_setCell _ _ _ _ h, Below.heap_setCell _ _ _ _ h, Below.heap_setCell _ _ _ _ h, Below.heap_setCell _ _ _ _ h, Below.heap_setCell _ _ _ _ h]
theorem set8_fr {D : Nat → Prop} (w : World) (g o : Nat) (u0 u1 u2 u3 u4 u5 u6 u7 : Value) (hD : D g) : Fr D w (set8 w g o u0 u1 u2 u3 u4 u5 u6 u7) :=
  (((((((Fr.set g o w u0 hD).trans (Fr.set g (o + 1) _ u1 hD)).trans (Fr.set g (o + 2) _ u2 hD)).trans (Fr.set g (o + 3) _ u3 hD)).trans (Fr.set g (o + 4) _ u4 hD)).trans (Fr.set g (o + 5) _ u5 hD)).trans (Fr.set g (o + 6) _ u6 hD)).trans (Fr.set g (o + 7) _ u7 hD)
/-- The slot in block b holds a row that has got one element more. -/
def Grew (base b o : Nat) (cs : Array Value) (T : TypeId) (vS : Value) (e : TypeId) (k n : Nat) (xs new : List Value) (w w' : World) : Prop :=
  ∃ g c, w'.heap[b]? = some (.cells (cs.setIfInBounds o (.slice (some ⟨g, 0, none⟩) (n + 1) c)) T (0, 0)) ∧ w'.ownsRow base e k (.slice (some ⟨g, 0, none⟩) (n + 1) c) (n + 1) (xs ++ new) ∧ (vS.ownBlock = some g ∨ w.heap.size ≤ g) ∧ Fr (fun j => j = b ∨ vS.ownBlock = some j) w w' ∧ b ≠ g
/-- New blocks written besides do no harm. -/
theorem Ex.Fr.fresh {D : Nat → Prop} {w w1 w2 : World} (h : Fr D w w1) (k : Fr (fun j => D j ∨ w.heap.size ≤ j) w1 w2) : Fr D w w2 :=
  ⟨k.os.trans h.os, k.tape.trans h.tape, k.output.trans h.output, Nat.le_trans h.size k.size, fun j hj hn => (k.block j (Nat.lt_of_lt_of_le hj h.size) (fun e => e.elim hn (by omega))).trans (h.block j hj hn)⟩
section
variable {base b o n g c : Nat} {cs : Array Value} {T : TypeId} {vS : Value} {xs : List Value} {w w2 : World}
theorem grew_a (hown : w2.ownsRow base 47 8 (.slice (some ⟨g, 0, none⟩) (n + 1) c) (n + 1) (xs ++ zN)) (hx : xs.length = n * 8) (hblk : w2.heap[b]? = some (.cells cs T (0, 0))) (hbg : b ≠ g) (hg : vS.ownBlock = some g ∨ w.heap.size ≤ g) (hf : Fr (fun j => j = b ∨ vS.ownBlock = some j) w w2) (u0 u1 u2 u3 u4 u5 u6 u7 : Value) :
    Grew base b o cs T vS 47 8 n xs [u0, u1, u2, u3, u4, u5, u6, u7] w ((set8 w2 g (n * 8) u0 u1 u2 u3 u4 u5 u6 u7).setCell ⟨b, o, none⟩ (.slice (some ⟨g, 0, none⟩) (n + 1) c)) := by
  have hD : (fun j => (j = b ∨ vS.ownBlock = some j) ∨ w.heap.size ≤ j) g := hg.elim (fun h => .inl (.inr h)) .inr
  refine ⟨g, c, heap_set ((set8_other hbg).trans hblk) _, row_set (set8_row hown hx ..) (fun e => hbg (by simpa [Value.ownBlock] using e.symm)) _, hg, hf.fresh ((set8_fr w2 g (n * 8) u0 u1 u2 u3 u4 u5 u6 u7 hD).trans (Fr.set b o _ _ (.inl (.inl rfl)))), hbg⟩
theorem grew_b (hown : w2.ownsRow base 47 8 (.slice (some ⟨g, 0, none⟩) (n + 1) c) (n + 1) (xs ++ zN)) (hx : xs.length = n * 8) (hblk : w2.heap[b]? = some (.cells cs T (0, 0))) (hbg : b ≠ g) (hg : vS.ownBlock = some g ∨ w.heap.size ≤ g) (hf : Fr (fun j => j = b ∨ vS.ownBlock = some j) w w2) (u0 u1 u2 u3 u4 u5 u6 u7 : Value) :
    Grew base b o cs T vS 47 8 n xs [u0, u1, u2, u3, u4, u5, u6, u7] w (set8 (w2.setCell ⟨b, o, none⟩ (.slice (some ⟨g, 0, none⟩) (n + 1) c)) g (n * 8) u0 u1 u2 u3 u4 u5 u6 u7) := by
  have hD : (fun j => (j = b ∨ vS.ownBlock = some j) ∨ w.heap.size ≤ j) g := hg.elim (fun h => .inl (.inr h)) .inr
  refine ⟨g, c, (set8_other hbg).trans (heap_set hblk _), set8_row (row_set hown (fun e => hbg (by simpa [Value.ownBlock] using e.symm)) _) hx .., hg, hf.fresh ((Fr.set b o w2 _ (.inl (.inl rfl))).trans (set8_fr _ g (n * 8) u0 u1 u2 u3 u4 u5 u6 u7 hD)), hbg⟩
end

/-- The hot block of a slice value. -/
def ob (v : Value) : List Nat := v.ownBlock.toList
theorem mem_ob {v : Value} {g : Nat} : g ∈ ob v ↔ v.ownBlock = some g := by unfold ob; cases v.ownBlock <;> simp [eq_comm]
/-- Blocks in a row that grows. -/
def Hot (base : Nat) (H : Nat → Prop) (w : World) (r : Nat) (v : Value) (ts : List Nd) : Prop := ∃ css, w.ownsRow base 47 8 v ts.length css.flatten ∧ All2 (NdAt H w r) css ts
def FmAt (base : Nat) (H : Nat → Prop) (w : World) (r : Nat) (c : List Value) (hb : List Nat) : Fm → Prop
  | .cn l bs wd t a ks => ∃ vB vK css, c = ndC 2 l vB nilS E nilS ∧ w.ownsRow base 66 4 vB (bs.length + 1) (css.flatten ++ bkC wd t a vK) ∧ All2 (BkAt H w r) css bs ∧ Hot base H w r vK ks ∧ hb = ob vB ++ ob vK
  | .fr l ns li ks => ∃ vN vK, c = ndC 3 l nilS vN li vK ∧ RowAt H w 1 vN (ns.map fun n => [.string n]) ∧ Hot base H w r vK ks ∧ hb = ob vK
def FrOK (base : Nat) (H : Nat → Prop) (w : World) (G : List (List Value × List Nat)) (fs : List Fm) : Prop := G.length = fs.length ∧ ∀ i g f, G[i]? = some g → fs[i]? = some f → FmAt base H w (31 - i) g.1 g.2 f
theorem FrOK.snoc {base : Nat} {H : Nat → Prop} {w : World} {G : List (List Value × List Nat)} {fs : List Fm} (h : FrOK base H w G fs) {g : List Value × List Nat} {f : Fm} (k : FmAt base H w (31 - fs.length) g.1 g.2 f) : FrOK base H w (G ++ [g]) (fs ++ [f]) := by
  refine ⟨by simp [h.1], fun i g' f' hg hf => ?_⟩
  rcases Nat.lt_or_ge i fs.length with hi | hi
  · rw [List.getElem?_append_left (by rw [h.1]; exact hi)] at hg
    rw [List.getElem?_append_left hi] at hf
    exact h.2 i g' f' hg hf
  · have : i = fs.length := by have := (List.getElem?_eq_some_iff.1 hf).1; simp at this; omega
    subst this
    rw [List.getElem?_append_right (by rw [h.1]; exact Nat.le_refl _), h.1] at hg
    rw [List.getElem?_append_right (Nat.le_refl _)] at hf
    simp at hg hf
    subst hg hf; exact k
theorem FrOK.unsnoc {base : Nat} {H : Nat → Prop} {w : World} {G : List (List Value × List Nat)} {fs : List Fm} {f : Fm} (h : FrOK base H w G (fs ++ [f])) : ∃ G0 g, G = G0 ++ [g] ∧ FrOK base H w G0 fs ∧ FmAt base H w (31 - fs.length) g.1 g.2 f := by
  have hl := h.1
  rcases List.eq_nil_or_concat G with rfl | ⟨G0, g, rfl⟩
  · simp at hl
  · rw [List.concat_eq_append] at h hl ⊢
    have hl0 : G0.length = fs.length := by simpa using hl
    refine ⟨G0, g, rfl, ⟨hl0, fun i g' f' hg hf => h.2 i g' f' ?_ ?_⟩, h.2 fs.length g f ?_ ?_⟩
    · rw [List.getElem?_append_left (List.getElem?_eq_some_iff.1 hg).1]; exact hg
    · rw [List.getElem?_append_left (List.getElem?_eq_some_iff.1 hf).1]; exact hf
    · rw [← hl0]; simp
    · simp
theorem Hot.keeps {base : Nat} {H H' D : Nat → Prop} {w w' : World} {r : Nat} {v : Value} {ts : List Nd} (h : Hot base H w r v ts) (hk : Keeps H H' w w') (hf : Fr D w w') (hD : ∀ g ∈ ob v, ¬ D g) : Hot base H' w' r v ts := by
  obtain ⟨css, h1, h2⟩ := h
  exact ⟨css, Ex.row_fr h1 hf (fun g hg => hD g (mem_ob.2 hg)), h2.mono fun c t h => NdAt.keeps hk r c t h⟩
theorem FmAt.keeps {base : Nat} {H H' D : Nat → Prop} {w w' : World} {r : Nat} {c : List Value} {hb : List Nat} {f : Fm} (h : FmAt base H w r c hb f) (hk : Keeps H H' w w') (hf : Fr D w w') (hD : ∀ g ∈ hb, ¬ D g) : FmAt base H' w' r c hb f := by
  cases f with
  | cn l bs wd t a ks =>
    obtain ⟨vB, vK, css, h1, h2, h3, h4, rfl⟩ := h
    exact ⟨vB, vK, css, h1, Ex.row_fr h2 hf (fun g hg => hD g (List.mem_append_left _ (mem_ob.2 hg))), h3.mono fun c b hb => hb.keeps hk, h4.keeps hk hf (fun g hg => hD g (List.mem_append_right _ hg)), rfl⟩
  | fr l ns li ks =>
    obtain ⟨vN, vK, h1, h2, h3, rfl⟩ := h
    exact ⟨vN, vK, h1, h2.keeps hk, h3.keeps hk hf hD, rfl⟩
theorem FrOK.keeps {base : Nat} {H H' D : Nat → Prop} {w w' : World} {G : List (List Value × List Nat)} {fs : List Fm} (h : FrOK base H w G fs) (hk : Keeps H H' w w') (hf : Fr D w w') (hD : ∀ g ∈ (G.map (·.2)).flatten, ¬ D g) : FrOK base H' w' G fs :=
  ⟨h.1, fun i g f hg hfm => (h.2 i g f hg hfm).keeps hk hf (fun x hx => hD x (List.mem_flatten.2 ⟨g.2, List.mem_map.2 ⟨g, List.mem_of_getElem? hg, rfl⟩, hx⟩))⟩

abbrev hots (b : Nat) (vD vO : Value) (G : List (List Value × List Nat)) : List Nat := b :: (ob vD ++ (ob vO ++ (G.map (·.2)).flatten))
/-- The builder in block b. -/
structure StA (base b : Nat) (w : World) (s : Sx) (vD vO : Value) (G : List (List Value × List Nat)) : Prop where
  blk : w.heap[b]? = some (.cells #[vD, vO] 50 (0, 0))
  few : s.op.length ≤ 32
  rowO : w.ownsRow base 47 8 vO s.op.length (G.map (·.1)).flatten
  rowD : Hot base (· ∈ hots b vD vO G) w 32 vD s.done
  frs : FrOK base (· ∈ hots b vD vO G) w G s.op
  nd : (hots b vD vO G).Nodup
  ge : ∀ x ∈ hots b vD vO G, base ≤ x ∧ x < w.heap.size
theorem keeps_of {hl hl' : List Nat} {w w' : World} {D : Nat → Prop} (hf : Fr D w w') (hD : ∀ x, D x → x ∈ hl) (h : ∀ x ∈ hl', x ∈ hl ∨ w.heap.size ≤ x) : Keeps (· ∈ hl) (· ∈ hl') w w' :=
  ⟨hf.size, fun g hg hn => hf.block g hg (fun e => hn (hD g e)), fun g hg hh => (h g hh).elim id (fun e => absurd hg (by omega))⟩
theorem StA.below {base b : Nat} {w w' : World} {s : Sx} {vD vO : Value} {G : List (List Value × List Nat)} (h : StA base b w s vD vO G) (hb : Below w.heap.size w w') : StA base b w' s vD vO G := by
  have hf : Fr (fun _ => False) w w' := Fr.of_below hb
  have hk : Keeps (· ∈ hots b vD vO G) (· ∈ hots b vD vO G) w w' := Keeps.of_below hb
  exact ⟨(hb.block b (h.ge b (by simp)).2).trans h.blk, h.few, Ex.row_fr h.rowO hf (fun _ _ e => e), h.rowD.keeps hk hf (fun _ _ e => e), h.frs.keeps hk hf (fun _ _ e => e), h.nd, fun x hx => ⟨(h.ge x hx).1, Nat.lt_of_lt_of_le (h.ge x hx).2 hb.size⟩⟩
def St (base b : Nat) (w : World) (s : Sx) : Prop := ∃ vD vO G, StA base b w s vD vO G
theorem Ex.Fr.to_below {base : Nat} {D : Nat → Prop} {w w' : World} (h : Fr D w w') (hb : base ≤ w.heap.size) (hD : ∀ x, D x → base ≤ x) : Below base w w' :=
  ⟨h.os, h.tape, h.output, h.size, fun j hj => h.block j (by omega) (fun e => by have := hD j e; omega)⟩
/-- The cells of a block are eight, each a plain one. -/
theorem RowAt.isS {H : Nat → Prop} {w : World} {k : Nat} {v : Value} {css : List (List Value)} (h : RowAt H w k v css) : IsS v := by
  rcases h with ⟨rfl, _⟩ | ⟨g, c, rfl, _⟩
  · exact ⟨_, _, _, rfl⟩
  · exact ⟨_, _, _, rfl⟩
theorem nd_form {H : Nat → Prop} {w : World} : ∀ (r : Nat) (c : List Value) (t : Nd), NdAt H w r c t → ∃ k l vB vN li vK, c = ndC k l vB vN li vK ∧ IsS vB ∧ IsS vN ∧ IsS vK
  | 0, c, t, h => by obtain ⟨l, rfl, rfl⟩ := nd_zero h; exact ⟨_, _, _, _, _, _, rfl, ⟨_, _, _, rfl⟩, ⟨_, _, _, rfl⟩, ⟨_, _, _, rfl⟩⟩
  | r + 1, c, .pl l, h => by rw [nd_pl' h]; exact ⟨_, _, _, _, _, _, rfl, ⟨_, _, _, rfl⟩, ⟨_, _, _, rfl⟩, ⟨_, _, _, rfl⟩⟩
  | r + 1, c, .cn l bs, h => by obtain ⟨vB, css, rfl, h2, _⟩ := nd_cn h; exact ⟨_, _, _, _, _, _, rfl, h2.isS, ⟨_, _, _, rfl⟩, ⟨_, _, _, rfl⟩⟩
  | r + 1, c, .fr l ns li ks, h => by obtain ⟨vN, vK, rfl, h2, cks, h3, _⟩ := nd_fr h; exact ⟨_, _, _, _, _, _, rfl, ⟨_, _, _, rfl⟩, h2.isS, h3.isS⟩
theorem Hot.grew {base : Nat} {H H' : Nat → Prop} {w w' : World} {r : Nat} {css : List (List Value)} {ts : List Nd} {v : Value} {c : List Value} {t : Nd} (h2 : All2 (NdAt H w r) css ts) (hk : Keeps H H' w w') (hr : w'.ownsRow base 47 8 v (ts.length + 1) (css.flatten ++ c)) (hc : NdAt H w r c t) : Hot base H' w' r v (ts ++ [t]) := by
  refine ⟨css ++ [c], ?_, (h2.snoc hc).mono fun c t h => NdAt.keeps hk r c t h⟩
  rw [List.flatten_append, List.length_append]
  simpa using hr
end Go.Proofs.YtbciedpjaajhcaaDoor
