/-
  The builder's state behind each of its writes.
-/
import Derived.Test.YtbciedpjaajhcaaDoorBS
import Derived.Test.YtbciedpjaajhcaaDoorX4
namespace Go.Proofs.YtbciedpjaajhcaaDoor
open Go.RowKit Go.Shelf
open Ex (Fr)

theorem nd_apart {A B : List Nat} (h : (A ++ B).Nodup) {x : Nat} (h1 : x ∈ A) (h2 : x ∈ B) : False := (List.nodup_append.1 h).2.2 x h1 x h2 rfl
theorem nd_right {A B : List Nat} (h : (A ++ B).Nodup) : B.Nodup := (List.nodup_append.1 h).2.1
theorem ob_slice (g n c : Nat) : ob (.slice (some ⟨g, 0, none⟩) n c) = [g] := rfl
theorem ob_nil : ob nilS = [] := rfl
theorem nodup_repl {A B : List Nat} {v : Value} {g N : Nat} (h : (A ++ (ob v ++ B)).Nodup) (hlt : ∀ x ∈ A ++ (ob v ++ B), x < N) (hg : v.ownBlock = some g ∨ N ≤ g) : (A ++ ([g] ++ B)).Nodup := by
  rcases hg with hg | hg
  · have : ob v = [g] := by unfold ob; rw [hg]; rfl
    rw [this] at h; exact h
  · have hA : ∀ x ∈ A, x ≠ g := fun x hx e => by have := hlt x (List.mem_append_left _ hx); omega
    have hB : ∀ x ∈ B, x ≠ g := fun x hx e => by have := hlt x (List.mem_append_right _ (List.mem_append_right _ hx)); omega
    obtain ⟨h1, h2, h3⟩ := List.nodup_append.1 h
    obtain ⟨_, h5, h6⟩ := List.nodup_append.1 h2
    refine List.nodup_append.2 ⟨h1, List.nodup_append.2 ⟨by simp, h5, fun x hx y hy e => hB y hy (by simp at hx; rw [← e, hx])⟩, fun x hx y hy e => ?_⟩
    rcases List.mem_append.1 hy with hy | hy
    · simp at hy; exact hA x hx (e.trans hy)
    · exact h3 x hx y (List.mem_append_right _ hy) e
theorem keeps_repl {A B : List Nat} {v : Value} {g : Nat} {w w' : World} {D : Nat → Prop} (hf : Fr D w w') (hD : ∀ x, D x → x ∈ A ++ (ob v ++ B)) (hgg : v.ownBlock = some g ∨ w.heap.size ≤ g) : Keeps (· ∈ A ++ (ob v ++ B)) (· ∈ A ++ ([g] ++ B)) w w' := by
  refine keeps_of hf hD (fun x hx => ?_)
  rcases List.mem_append.1 hx with hx | hx
  · exact .inl (List.mem_append_left _ hx)
  · rcases List.mem_append.1 hx with hx | hx
    · rw [List.mem_singleton] at hx; subst hx
      exact hgg.imp (fun h => List.mem_append_right _ (List.mem_append_left _ (mem_ob.2 h))) id
    · exact .inl (List.mem_append_right _ (List.mem_append_right _ hx))
theorem ge_repl {A B : List Nat} {v : Value} {g base : Nat} {w w' : World} (h : ∀ x ∈ A ++ (ob v ++ B), base ≤ x ∧ x < w.heap.size) (hs : w.heap.size ≤ w'.heap.size) (hg : base ≤ g ∧ g < w'.heap.size) : ∀ x ∈ A ++ ([g] ++ B), base ≤ x ∧ x < w'.heap.size := by
  intro x hx
  have key : x ∈ A ++ (ob v ++ B) → base ≤ x ∧ x < w'.heap.size := fun hx => ⟨(h x hx).1, Nat.lt_of_lt_of_le (h x hx).2 hs⟩
  rcases List.mem_append.1 hx with hx | hx
  · exact key (List.mem_append_left _ hx)
  · rcases List.mem_append.1 hx with hx | hx
    · rw [List.mem_singleton] at hx; subst hx; exact hg
    · exact key (List.mem_append_right _ (List.mem_append_right _ hx))
/-- A row that is not empty: its block's cells. -/
theorem row_arr {w : World} {base : Nat} {e : TypeId} {k n : Nat} {v : Value} {xs : List Value} (h : w.ownsRow base e k v (n + 1) xs) :
    ∃ (g c : Nat) (cur : Array Value), v = .slice (some ⟨g, 0, none⟩) (n + 1) c ∧ n + 1 ≤ c ∧ base ≤ g ∧ w.heap[g]? = some (.cells cur e (0, 0)) ∧ ∀ (i : Nat) (u : Value), xs[i]? = some u → cur[i]? = some u := by
  obtain ⟨hxl, ⟨hv, hn⟩ | ⟨g, cap, cur, hv, hg, hcur, hcap, hcm, hcs, hct⟩⟩ := h
  · omega
  · refine ⟨g, cap, cur, hv, hcap, hg, hcur, fun i u hi => ?_⟩
    have hil : i < (n + 1) * k := by rw [← hxl]; exact (List.getElem?_eq_some_iff.1 hi).1
    have h2 : (cur.toList.take ((n + 1) * k))[i]? = xs[i]? := by rw [hct]
    rw [List.getElem?_take_of_lt hil] at h2
    rw [← Array.getElem?_toList, h2, hi]
theorem row_upd {w w' : World} {base : Nat} {e : TypeId} {k n g c o : Nat} {xs : List Value} {cur : Array Value} {u : Value} (h : w.ownsRow base e k (.slice (some ⟨g, 0, none⟩) n c) n xs) (hc : w.heap[g]? = some (.cells cur e (0, 0))) (hc' : w'.heap[g]? = some (.cells (cur.setIfInBounds o u) e (0, 0))) :
    w'.ownsRow base e k (.slice (some ⟨g, 0, none⟩) n c) n (xs.set o u) := by
  obtain ⟨hxl, ⟨hv, _⟩ | ⟨g', cap', cur', hv, hg, hcur, hcap, hcm, hcs, hct⟩⟩ := h
  · cases hv
  · simp only [Value.slice.injEq, Option.some.injEq, Addr.mk.injEq, and_true, true_and] at hv
    obtain ⟨rfl, rfl⟩ := hv
    rw [hc] at hcur
    obtain rfl : cur = cur' := by simpa using hcur
    refine ⟨by rw [List.length_set]; exact hxl, .inr ⟨g, c, cur.setIfInBounds o u, rfl, hg, hc', hcap, hcm, by rw [Array.size_setIfInBounds]; exact hcs, ?_⟩⟩
    rw [Array.toList_setIfInBounds, ← hct, List.take_set]
theorem flat_len {k : Nat} : ∀ (css : List (List Value)), (∀ c ∈ css, c.length = k) → css.flatten.length = css.length * k
  | [], _ => by simp
  | c :: css, h => by
    rw [List.flatten_cons, List.length_append, h c (by simp), flat_len css (fun x hx => h x (by simp [hx])), List.length_cons, Nat.succ_mul]; omega
theorem flat_get {k : Nat} : ∀ (css : List (List Value)), (∀ c ∈ css, c.length = k) → ∀ (i j : Nat) (c : List Value) (u : Value), css[i]? = some c → c[j]? = some u → css.flatten[i * k + j]? = some u
  | [], _, i, j, c, u, hc, _ => by simp at hc
  | d :: css, h, 0, j, c, u, hc, hu => by
    simp at hc; subst hc
    rw [List.flatten_cons, Nat.zero_mul, Nat.zero_add, List.getElem?_append_left (List.getElem?_eq_some_iff.1 hu).1]; exact hu
  | d :: css, h, i + 1, j, c, u, hc, hu => by
    have hd := h d (by simp)
    rw [List.flatten_cons, List.getElem?_append_right (by rw [hd, Nat.succ_mul]; omega), hd, show (i + 1) * k + j - k = i * k + j by rw [Nat.succ_mul]; omega]
    exact flat_get css (fun x hx => h x (by simp [hx])) i j c u (by simpa using hc) hu
/-- A row that grew, and grows no more. -/
theorem row_cold {H : Nat → Prop} {w : World} {base : Nat} {e : TypeId} {k : Nat} {v : Value} {css : List (List Value)} (h : w.ownsRow base e k v css.length css.flatten) (hk : ∀ c ∈ css, c.length = k) (hH : ∀ g ∈ ob v, ¬ H g) : RowAt H w k v css := by
  rcases row_src h with ⟨h1, h2, _⟩ | ⟨g, cap, hv, hg, hcap, _, hc⟩
  · exact .inl ⟨h1, List.length_eq_zero_iff.1 h2⟩
  · refine .inr ⟨g, cap, hv, hcap, hg, hH g (by rw [hv]; exact List.mem_singleton.2 rfl), fun i cs hi => ⟨hk cs (List.mem_of_getElem? hi), fun j u hj => ?_⟩⟩
    have := hc (i * k + j) u (flat_get css hk i j cs u hi hj)
    rw [add_none, Nat.zero_add] at this; exact this
theorem nd_len {H : Nat → Prop} {w : World} {r : Nat} {css : List (List Value)} {ts : List Nd} (h : All2 (NdAt H w r) css ts) : ∀ c ∈ css, c.length = 8 := by
  induction h with
  | nil => intro c hc; cases hc
  | cons h1 _ ih =>
    intro c hc
    rcases List.mem_cons.1 hc with rfl | hc
    · obtain ⟨k, l, vB, vN, li, vK, rfl, _⟩ := nd_form _ _ _ h1; rfl
    · exact ih c hc
theorem bk_len {H : Nat → Prop} {w : World} {r : Nat} {css : List (List Value)} {bs : List Bk} (h : All2 (BkAt H w r) css bs) : ∀ c ∈ css, c.length = 4 := by
  induction h with
  | nil => intro c hc; cases hc
  | cons h1 _ ih =>
    intro c hc
    rcases List.mem_cons.1 hc with rfl | hc
    · rename_i b _ _ _; cases b with | mk wd t a ks => obtain ⟨vK, rfl, _⟩ := h1; rfl
    · exact ih c hc
theorem Hot.cold {base : Nat} {H H' : Nat → Prop} {w w' : World} {r : Nat} {v : Value} {ts : List Nd} (h : Hot base H w r v ts) (hk : Keeps H H' w w') (hr : ∀ n xs, w.ownsRow base 47 8 v n xs → w'.ownsRow base 47 8 v n xs) (hH : ∀ g ∈ ob v, ¬ H' g) : NdsAt H' w' r v ts := by
  obtain ⟨css, h1, h2⟩ := h
  refine ⟨css, row_cold (base := base) (e := 47) ?_ (nd_len h2) hH, h2.mono fun c t h => NdAt.keeps hk r c t h⟩
  rw [h2.length]; exact hr _ _ h1
theorem fm_len {base : Nat} {H : Nat → Prop} {w : World} {r : Nat} {c : List Value} {hb : List Nat} {f : Fm} (h : FmAt base H w r c hb f) : c.length = 8 := by
  cases f with
  | cn l bs wd t a ks => obtain ⟨vB, vK, css, rfl, _⟩ := h; rfl
  | fr l ns li ks => obtain ⟨vN, vK, rfl, _⟩ := h; rfl
theorem FrOK.len {base : Nat} {H : Nat → Prop} {w : World} {G : List (List Value × List Nat)} {fs : List Fm} (h : FrOK base H w G fs) : ∀ c ∈ G.map (·.1), c.length = 8 := by
  intro c hc
  obtain ⟨g, hg, rfl⟩ := List.mem_map.1 hc
  obtain ⟨i, hi⟩ := List.getElem?_of_mem hg
  have hil : i < fs.length := by rw [← h.1]; exact (List.getElem?_eq_some_iff.1 hi).1
  exact fm_len (h.2 i g fs[i] hi (List.getElem?_eq_getElem hil))

section
variable {base b : Nat} {w w' : World} {done : List Nd} {fs : List Fm} {vD vO : Value} {G : List (List Value × List Nat)}
theorem sx_add_nil (n : Nd) : Sx.addTo done [] n = ⟨done ++ [n], []⟩ := rfl
theorem sx_add_snoc (f : Fm) (n : Nd) : Sx.addTo done (fs ++ [f]) n = ⟨done, fs ++ [f.add n]⟩ := by simp [Sx.addTo]
theorem StA.G_nil (h : StA base b w ⟨done, []⟩ vD vO G) : G = [] := List.length_eq_zero_iff.1 (by have := h.frs.1; simpa using this)
/-- A block behind the others, where none is open. -/
theorem st_add_done (h : StA base b w ⟨done, []⟩ vD vO G) {css : List (List Value)} (h2 : All2 (NdAt (· ∈ hots b vD vO G) w 32) css done) {c : List Value} {t : Nd} (hc : NdAt (· ∈ hots b vD vO G) w 32 c t) (hg : Grew base b 0 #[vD, vO] 50 vD 47 8 done.length css.flatten c w w') :
    St base b w' ⟨done ++ [t], []⟩ := by
  obtain rfl := h.G_nil
  obtain ⟨g, c', hb', hr', hgg, hf, hbg⟩ := hg
  have e0 : hots b vD vO [] = [b] ++ (ob vD ++ ob vO) := by simp [hots]
  have e1 : hots b (.slice (some ⟨g, 0, none⟩) (done.length + 1) c') vO [] = [b] ++ ([g] ++ ob vO) := by simp [hots, ob_slice]
  have hnd := h.nd
  have hge := h.ge
  rw [e0] at h2 hc hnd hge
  have hk := keeps_repl (A := [b]) (B := ob vO) (v := vD) (g := g) hf (fun x hx => by
    rcases hx with rfl | hx
    · simp
    · exact List.mem_append_right _ (List.mem_append_left _ (mem_ob.2 hx))) hgg
  refine ⟨.slice (some ⟨g, 0, none⟩) (done.length + 1) c', vO, [], ⟨by simpa using hb', by simp, Ex.row_fr h.rowO hf (fun x hx e => ?_), by rw [e1]; exact Hot.grew h2 hk hr' hc, ⟨rfl, fun i g f hg => by simp at hg⟩, by rw [e1]; exact nodup_repl hnd (fun x hx => (hge x hx).2) hgg, by rw [e1]; exact ge_repl hge hf.size (hr'.lt g rfl)⟩⟩
  rcases e with rfl | e
  · exact nd_apart hnd (List.mem_singleton.2 rfl) (List.mem_append_right _ (mem_ob.2 hx))
  · exact nd_apart (nd_right hnd) (mem_ob.2 e) (mem_ob.2 hx)
abbrev fl2 (G : List (List Value × List Nat)) : List Nat := (G.map (·.2)).flatten
/-- A block into the condition that is open innermost. -/
theorem st_add_cn {l : Lz} {bs : List Bk} {wd t : ByteArray} {a : Int} {ks : List Nd} {vB vK : Value} {css cks : List (List Value)} {cur : Array Value} {gB cB : Nat}
    (h : StA base b w ⟨done, fs ++ [.cn l bs wd t a ks]⟩ vD vO (G ++ [(ndC 2 l vB nilS E nilS, ob vB ++ ob vK)]))
    (hfr : FrOK base (· ∈ hots b vD vO (G ++ [(ndC 2 l vB nilS E nilS, ob vB ++ ob vK)])) w G fs)
    (hvB : vB = .slice (some ⟨gB, 0, none⟩) (bs.length + 1) cB) (hcur : w.heap[gB]? = some (.cells cur 66 (0, 0)))
    (h1 : w.ownsRow base 66 4 vB (bs.length + 1) (css.flatten ++ bkC wd t a vK))
    (h2 : All2 (BkAt (· ∈ hots b vD vO (G ++ [(ndC 2 l vB nilS E nilS, ob vB ++ ob vK)])) w (31 - fs.length)) css bs) (h4 : All2 (NdAt (· ∈ hots b vD vO (G ++ [(ndC 2 l vB nilS E nilS, ob vB ++ ob vK)])) w (31 - fs.length)) cks ks)
    {c : List Value} {n : Nd} (hc : NdAt (· ∈ hots b vD vO (G ++ [(ndC 2 l vB nilS E nilS, ob vB ++ ob vK)])) w (31 - fs.length) c n) (hg : Grew base gB (bs.length * 4 + 3) cur 66 vK 47 8 ks.length cks.flatten c w w') :
    St base b w' ⟨done, fs ++ [.cn l bs wd t a (ks ++ [n])]⟩ := by
  obtain ⟨g, c', hb', hr', hgg, hf, hbg⟩ := hg
  have e0 : hots b vD vO (G ++ [(ndC 2 l vB nilS E nilS, ob vB ++ ob vK)]) = (b :: (ob vD ++ (ob vO ++ (fl2 G ++ ob vB)))) ++ (ob vK ++ []) := by simp [hots]
  have e1 : hots b vD vO (G ++ [(ndC 2 l vB nilS E nilS, ob vB ++ ob (.slice (some ⟨g, 0, none⟩) (ks.length + 1) c'))]) = (b :: (ob vD ++ (ob vO ++ (fl2 G ++ ob vB)))) ++ ([g] ++ []) := by simp [hots, ob_slice]
  have hnd := h.nd
  have hge := h.ge
  have hrD := h.rowD
  rw [e0] at h2 h4 hc hnd hge hfr hrD
  have hBm : gB ∈ ob vB := by rw [hvB]; exact List.mem_singleton.2 rfl
  have hk := keeps_repl (A := b :: (ob vD ++ (ob vO ++ (fl2 G ++ ob vB)))) (B := []) (v := vK) (g := g) hf (fun x hx => by
    rcases hx with rfl | hx
    · simp [hBm]
    · exact List.mem_append_right _ (List.mem_append_left _ (mem_ob.2 hx))) hgg
  -- what is apart from the blocks that are written
  have nd1 : (b :: (ob vD ++ (ob vO ++ (fl2 G ++ ob vB)))).Nodup := (List.nodup_append.1 hnd).1
  have ap : ∀ A' : List Nat, (∀ x ∈ A', x ∈ b :: (ob vD ++ (ob vO ++ fl2 G))) → ∀ x ∈ A', ¬ (x = gB ∨ vK.ownBlock = some x) := by
    intro A' hA x hx e
    have hxm := hA x hx
    rcases e with rfl | e
    · have : ((b :: (ob vD ++ (ob vO ++ fl2 G))) ++ ob vB).Nodup := by simpa using nd1
      exact nd_apart this hxm hBm
    · refine nd_apart hnd (x := x) ?_ (List.mem_append_left _ (mem_ob.2 e))
      have : x ∈ (b :: (ob vD ++ (ob vO ++ fl2 G))) ++ ob vB := List.mem_append_left _ hxm
      simpa using this
  have hset : (css.flatten ++ bkC wd t a vK).set (bs.length * 4 + 3) (.slice (some ⟨g, 0, none⟩) (ks.length + 1) c') = css.flatten ++ bkC wd t a (.slice (some ⟨g, 0, none⟩) (ks.length + 1) c') := by
    have hl : css.flatten.length = bs.length * 4 := by rw [flat_len css (bk_len h2), h2.length]
    rw [List.set_append_right _ _ (by omega), hl, Nat.add_sub_cancel_left]; rfl
  have hB' : w'.ownsRow base 66 4 vB (bs.length + 1) (css.flatten ++ bkC wd t a (.slice (some ⟨g, 0, none⟩) (ks.length + 1) c')) := by
    subst hvB
    have := row_upd h1 hcur hb'
    rwa [hset] at this
  refine ⟨vD, vO, G ++ [(ndC 2 l vB nilS E nilS, ob vB ++ ob (.slice (some ⟨g, 0, none⟩) (ks.length + 1) c'))], ⟨?_, by have := h.few; simpa using this, ?_, ?_, ?_, by rw [e1]; exact nodup_repl hnd (fun x hx => (hge x hx).2) hgg, by rw [e1]; exact ge_repl hge hf.size (hr'.lt g rfl)⟩⟩
  · exact (hf.block b (hge b (by simp)).2 (ap [b] (by simp) b (by simp))).trans h.blk
  · have h9 := Ex.row_fr h.rowO hf (fun x hx => ap (ob vO) (fun y hy => by simp [hy]) x (mem_ob.2 hx))
    simpa using h9
  · rw [e1]; exact hrD.keeps hk hf (fun x hx => ap (ob vD) (fun y hy => by simp [hy]) x hx)
  · rw [e1]
    refine (hfr.keeps hk hf (fun x hx => ap (fl2 G) (fun y hy => by simp [hy]) x hx)).snoc ?_
    exact ⟨vB, _, css, rfl, hB', h2.mono fun c b hb => hb.keeps hk, Hot.grew h4 hk hr' hc, rfl⟩
end
end Go.Proofs.YtbciedpjaajhcaaDoor
