/-
  What has been joined, behind a rule's being added to, and behind a new one.
-/
import Derived.Test.YtbgnmchnfaknkaaDoorJ5
namespace Go.Proofs.YtbgnmchnfaknkaaDoor
open Go.RowKit Go.Shelf Go.Maps

theorem row_map {w : World} {base n k m clock : Nat} {v : Value} {e : TypeId} {xs : List Value} {es : Array MapEntry} (h : w.ownsRow base e k v n xs) (hm : w.heap[m]? = some (.map es clock)) : v.ownBlock ≠ some m := by
  intro hv
  obtain ⟨cur, hc⟩ := row_type h hv
  rw [hm] at hc; cases hc
theorem row_row {w : World} {b1 b2 n1 n2 k1 k2 : Nat} {v1 v2 : Value} {e1 e2 : TypeId} {x1 x2 : List Value} (h1 : w.ownsRow b1 e1 k1 v1 n1 x1) (h2 : w.ownsRow b2 e2 k2 v2 n2 x2) (hT : ¬ e1 = e2) : ∀ g, v1.ownBlock = some g → v2.ownBlock ≠ some g := by
  intro g hg h
  obtain ⟨cur, hc⟩ := row_type h1 hg
  exact row_ne h2 hc (fun e => hT e.symm) h
theorem set_mid (A B C : List Value) (j : Nat) (v : Value) (hj : j < B.length) : (A ++ (B ++ C)).set (A.length + j) v = A ++ (B.set j v ++ C) := by
  rw [List.set_append_right _ _ (by omega), Nat.add_sub_cancel_left, List.set_append_left _ _ hj]
theorem ext_cells {es : List JE} {i : Nat} {e : JE} (hei : es[i]? = some e) (r : Q.Ru) (vs' vc' : Value) (cur : Array Value) (n : Nat) (h : cur.toList.take n = es.flatMap JE.cells) :
    (extC cur (i * 5) r.kind vs' vc').toList.take n = (es.set i ⟨e.vt, vs', vc', Q.extR e.r r⟩).flatMap JE.cells := by
  obtain ⟨hi, hx⟩ := List.getElem?_eq_some_iff.1 hei
  have s1 : es = es.take i ++ ([e] ++ es.drop (i + 1)) := by
    rw [← hx]; show es = es.take i ++ (es[i] :: es.drop (i + 1))
    rw [List.getElem_cons_drop]; exact (List.take_append_drop i es).symm
  have s2 : es.set i ⟨e.vt, vs', vc', Q.extR e.r r⟩ = es.take i ++ ([⟨e.vt, vs', vc', Q.extR e.r r⟩] ++ es.drop (i + 1)) := by
    rw [List.set_eq_take_append_cons_drop, if_pos hi]; rfl
  have hl : ((es.take i).flatMap JE.cells).length = i * 5 := by rw [fl_len JE.cells 5 cells_len, List.length_take]; congr 1; omega
  have hm : ∀ x : JE, [x].flatMap JE.cells = x.cells := fun x => by simp
  rw [s2, List.flatMap_append, List.flatMap_append, hm]
  have h0 : es.flatMap JE.cells = (es.take i).flatMap JE.cells ++ (e.cells ++ (es.drop (i + 1)).flatMap JE.cells) := by
    conv => lhs; rw [s1]
    rw [List.flatMap_append, List.flatMap_append, hm]
  have key : ∀ k : Int, (extC cur (i * 5) k vs' vc').toList.take n = (es.take i).flatMap JE.cells ++ ([e.vt, if k = 2 then .int .i64 2 else .int .i64 e.r.kind, vs', vc', .int .i64 e.r.at_] ++ (es.drop (i + 1)).flatMap JE.cells) := by
    intro k
    unfold extC
    by_cases hk : k = 2
    · rw [if_pos hk, if_pos hk]
      simp only [Array.toList_setIfInBounds, List.take_set, h, h0]
      rw [← hl, set_mid _ _ _ 2 _ (by simp [cells_len]), set_mid _ _ _ 3 _ (by simp [cells_len]), set_mid _ _ _ 1 _ (by simp [cells_len])]
      rfl
    · rw [if_neg hk, if_neg hk]
      simp only [Array.toList_setIfInBounds, List.take_set, h, h0]
      rw [← hl, set_mid _ _ _ 2 _ (by simp [cells_len]), set_mid _ _ _ 3 _ (by simp [cells_len])]
      rfl
  rw [key]
  congr 2
  unfold JE.cells Q.extR
  by_cases hk : r.kind = 2 <;> simp [hk]

theorem JS.ne_bj {base bj bm K : Nat} {vr : Value} {es : List JE} {w : World} (h : JS base bj bm vr es K w) : bj ≠ bm ∧ vr.ownBlock ≠ some bj ∧ vr.ownBlock ≠ some bm ∧ ∀ (i : Nat) (e : JE) (c : Nat), es[i]? = some e → c < 3 → (e.v c).ownBlock ≠ some bj ∧ (e.v c).ownBlock ≠ some bm ∧ ∀ g, (e.v c).ownBlock = some g → vr.ownBlock ≠ some g := by
  obtain ⟨ms, clock, hm⟩ := h.map.isMap
  refine ⟨fun e => ?_, row_ne h.row h.blk (by decide), row_map h.row hm, fun i e c he hc => ⟨row_ne (h.own i e c he hc) h.blk (by decide), row_map (h.own i e c he hc) hm, row_row (h.own i e c he hc) h.row (by decide)⟩⟩
  have := h.blk
  rw [e, hm] at this; cases this

/-- A block that is none of what has been joined. -/
def NoOwn (bj bm : Nat) (vr : Value) (es : List JE) (x : Nat) : Prop := x ≠ bj ∧ x ≠ bm ∧ vr.ownBlock ≠ some x ∧ ∀ (i : Nat) (e : JE) (c : Nat), es[i]? = some e → c < 3 → (e.v c).ownBlock ≠ some x
/-- What is none of it stays, and stays none of it. -/
def Keeps (bj bm : Nat) (vr : Value) (es : List JE) (vr' : Value) (es' : List JE) (w w' : World) : Prop := ∀ x, x < w.heap.size → NoOwn bj bm vr es x → NoOwn bj bm vr' es' x ∧ w'.heap[x]? = w.heap[x]?

theorem js_ext {base bj bm K g i cap : Nat} {vr : Value} {es : List JE} {e : JE} {r : Q.Ru} {w w' : World} {cur : Array Value} {vs' vc' : Value} (hJ : JS base bj bm vr es K w) (hei : es[i]? = some e)
    (hvr : vr = .slice (some ⟨g, 0, none⟩) es.length cap) (hg : base ≤ g) (hcur : w.heap[g]? = some (.cells cur 24 (0, 0)))
    (hP : ExtPost base g (i * 5) cur e.vs e.vc (e.l 1) (e.l 2) r.kind (r.sources.map ba) (r.commands.map ba) w w' vs' vc') :
    JS base bj bm vr (es.set i ⟨e.vt, vs', vc', Q.extR e.r r⟩) K w' ∧ Below base w w' ∧ Keeps bj bm vr es vr (es.set i ⟨e.vt, vs', vc', Q.extR e.r r⟩) w w' := by
  obtain ⟨n1, n2, n3, n4⟩ := hJ.ne_bj
  have hil : i < es.length := (List.getElem?_eq_some_iff.1 hei).1
  have hgl : g < w.heap.size := (Array.getElem?_eq_some_iff.1 hcur).1
  have hvg : vr.ownBlock = some g := by rw [hvr]; rfl
  have hs1 := hJ.own i e 1 hei (by omega)
  have hs2 := hJ.own i e 2 hei (by omega)
  have hD : ∀ (i' : Nat) (e' : JE) (c b : Nat), es[i']? = some e' → c < 3 → (i' ≠ i ∨ c = 0) → (e'.v c).ownBlock = some b → ¬ (b = g ∨ e.vs.ownBlock = some b ∨ e.vc.ownBlock = some b) := by
    intro i' e' c b he' hc hne hb hor
    rcases hor with rfl | h1 | h1
    · exact (n4 i' e' c he' hc).2.2 _ hb hvg
    · have := hJ.apart i' i e' e c 1 b he' hei hc (by omega) hb h1
      omega
    · have := hJ.apart i' i e' e c 2 b he' hei hc (by omega) hb h1
      omega
  have old : ∀ (i' : Nat) (e' : JE) (c b : Nat), es[i']? = some e' → c < 3 → (e'.v c).ownBlock = some b → b < w.heap.size := fun i' e' c b he' hc hb => (row_has (hJ.own i' e' c he' hc) b hb).2
  -- each value of the new list: an old one's block, or a new block
  have cls : ∀ (i' : Nat) (e' : JE) (c b : Nat), (es.set i ⟨e.vt, vs', vc', Q.extR e.r r⟩)[i']? = some e' → c < 3 → (e'.v c).ownBlock = some b → (∃ e0, es[i']? = some e0 ∧ (e0.v c).ownBlock = some b) ∨ (i' = i ∧ c ≠ 0 ∧ w.heap.size ≤ b) := by
    intro i' e' c b he' hc hb
    by_cases hii : i' = i
    · subst hii
      rw [List.getElem?_set_self hil] at he'
      cases he'
      match c, hc with
      | 0, _ => exact .inl ⟨e, hei, hb⟩
      | 1, _ =>
        rcases hP.nearS with h | ⟨b', h, hb'⟩
        · exact .inl ⟨e, hei, h.symm.trans hb⟩
        · right; rw [show (JE.v ⟨e.vt, vs', vc', Q.extR e.r r⟩ 1) = vs' from rfl, h] at hb; cases hb; exact ⟨rfl, by omega, hb'⟩
      | 2, _ =>
        rcases hP.nearC with h | ⟨b', h, hb'⟩
        · exact .inl ⟨e, hei, h.symm.trans hb⟩
        · right; rw [show (JE.v ⟨e.vt, vs', vc', Q.extR e.r r⟩ 2) = vc' from rfl, h] at hb; cases hb; exact ⟨rfl, by omega, hb'⟩
    · rw [List.getElem?_set_ne (fun h => hii h.symm)] at he'
      exact .inl ⟨e', he', hb⟩
  refine ⟨⟨?_, ?_, ?_, ?_, ?_, hJ.lo.1, hJ.lo.2.1, Nat.le_trans hJ.lo.2.2 hP.fr.size⟩, hP.fr.below hJ.lo.2.2 ?_, ?_⟩
  · refine (hP.fr.block bj (Array.getElem?_eq_some_iff.1 hJ.blk).1 ?_).trans hJ.blk
    rintro (h1 | h1 | h1)
    · exact n2 (by rw [hvg, h1])
    · exact (n4 i e 1 hei (by omega)).1 h1
    · exact (n4 i e 2 hei (by omega)).1 h1
  · have hf : (fun q => Q.lastI (bl q) ((es.set i ⟨e.vt, vs', vc', Q.extR e.r r⟩).map JE.r)) = fun q => Q.lastI (bl q) (es.map JE.r) := by
      funext q
      rw [List.map_set]
      exact Q.lastI_set (bl q) (es.map JE.r) i e.r (Q.extR e.r r) (by rw [List.getElem?_map, hei]; rfl) rfl
    rw [hf]
    refine hJ.map.of_block (hP.fr.block bm hJ.map.lt ?_)
    rintro (h1 | h1 | h1)
    · exact n3 (by rw [hvg, h1])
    · exact (n4 i e 1 hei (by omega)).2.1 h1
    · exact (n4 i e 2 hei (by omega)).2.1 h1
  · obtain ⟨hxl, ⟨hv, _⟩ | ⟨g', cap', cur', hv, hg', hcur', hcap, hcm, hcs, hct⟩⟩ := hJ.row
    · rw [hvr] at hv; cases hv
    · rw [hvr] at hv
      simp only [Value.slice.injEq, Option.some.injEq, Addr.mk.injEq, and_true, true_and] at hv
      obtain ⟨rfl, rfl⟩ := hv
      rw [hcur] at hcur'
      cases hcur'
      have hlen : (es.set i ⟨e.vt, vs', vc', Q.extR e.r r⟩).length = es.length := by simp
      rw [hlen]
      refine ⟨by rw [fl_len JE.cells 5 cells_len, hlen], .inr ⟨g, cap, extC cur (i * 5) r.kind vs' vc', hvr, hg, hP.blk, hcap, hcm, ?_, ?_⟩⟩
      · rw [← hcs]; unfold extC; split <;> simp
      · exact ext_cells hei r vs' vc' cur _ hct
  · intro i' e' c he' hc
    by_cases hii : i' = i
    · subst hii
      rw [List.getElem?_set_self hil] at he'
      cases he'
      match c, hc with
      | 0, _ => exact row_fr (hJ.own i' e 0 hei (by omega)) hP.fr fun b hb => hD i' e 0 b hei (by omega) (.inr rfl) hb
      | 1, _ =>
        have := hP.src
        simp only [JE.v, JE.l, Q.extR, List.map_append, List.length_append] at this ⊢
        exact this
      | 2, _ =>
        have := hP.cmd
        simp only [JE.v, JE.l, Q.extR, List.map_append, List.length_append] at this ⊢
        exact this
    · rw [List.getElem?_set_ne (fun h => hii h.symm)] at he'
      exact row_fr (hJ.own i' e' c he' hc) hP.fr fun b hb => hD i' e' c b he' hc (.inl hii) hb
  · intro i1 i2 e1 e2 c d b he1 he2 hc hd hb1 hb2
    rcases cls i1 e1 c b he1 hc hb1 with ⟨f1, g1, k1⟩ | ⟨rfl, hc0, hb1'⟩
    · rcases cls i2 e2 d b he2 hd hb2 with ⟨f2, g2, k2⟩ | ⟨rfl, hd0, hb2'⟩
      · exact hJ.apart i1 i2 f1 f2 c d b g1 g2 hc hd k1 k2
      · have := old i1 f1 c b g1 hc k1; omega
    · rcases cls i2 e2 d b he2 hd hb2 with ⟨f2, g2, k2⟩ | ⟨rfl, hd0, hb2'⟩
      · have := old i2 f2 d b g2 hd k2; omega
      · refine ⟨rfl, ?_⟩
        rw [List.getElem?_set_self hil] at he1 he2
        cases he1; cases he2
        match c, hc, d, hd with
        | 1, _, 1, _ => rfl
        | 2, _, 2, _ => rfl
        | 1, _, 2, _ => exact absurd hb2 (hP.apart b hb1)
        | 2, _, 1, _ => exact absurd hb1 (hP.apart b hb2)
        | 0, _, _, _ => exact absurd rfl hc0
        | 1, _, 0, _ => exact absurd rfl hd0
        | 2, _, 0, _ => exact absurd rfl hd0
  · rintro j (rfl | h1 | h1)
    · exact hg
    · exact (row_has hs1 j h1).1
    · exact (row_has hs2 j h1).1
  · rintro x hx ⟨k1, k2, k3, k4⟩
    refine ⟨⟨k1, k2, k3, fun i' e' c he' hc hb => ?_⟩, hP.fr.block x hx ?_⟩
    · rcases cls i' e' c x he' hc hb with ⟨e0, h1, h2⟩ | ⟨_, _, h⟩
      · exact k4 i' e0 c h1 hc h2
      · omega
    · rintro (h | h | h)
      · exact k3 (by rw [hvg, h])
      · exact k4 i e 1 hei (by omega) h
      · exact k4 i e 2 hei (by omega) h
end Go.Proofs.YtbgnmchnfaknkaaDoor
