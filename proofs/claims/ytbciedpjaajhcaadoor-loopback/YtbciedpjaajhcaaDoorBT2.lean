/-
  The builder's state behind each of its writes: a loop's block, a branch, a block that closes, one that opens.
-/
import Derived.Test.YtbciedpjaajhcaaDoorBT
namespace Go.Proofs.YtbciedpjaajhcaaDoor
open Go.RowKit Go.Shelf
open Ex (Fr)
section
variable {base b : Nat} {w w' : World} {done : List Nd} {fs : List Fm} {vD vO : Value} {G : List (List Value × List Nat)}
theorem Keeps.less {H H' H2 : Nat → Prop} (h : Keeps H H' w w') (k : ∀ x, H2 x → H' x) : Keeps H H2 w w' := ⟨h.size, h.block, fun g hg e => h.hot g hg (k g e)⟩
theorem map_snoc1 (G : List (List Value × List Nat)) (x : List Value × List Nat) : ((G ++ [x]).map (·.1)).flatten = (G.map (·.1)).flatten ++ x.1 := by simp
/-- A block into the loop that is open innermost. -/
theorem st_add_fr {l : Lz} {ns : List ByteArray} {li : ByteArray} {ks : List Nd} {vN vK : Value} {cks : List (List Value)} {cur : Array Value} {gO cO : Nat}
    (h : StA base b w ⟨done, fs ++ [.fr l ns li ks]⟩ vD vO (G ++ [(ndC 3 l nilS vN li vK, ob vK)]))
    (hfr : FrOK base (· ∈ hots b vD vO (G ++ [(ndC 3 l nilS vN li vK, ob vK)])) w G fs)
    (hvO : vO = .slice (some ⟨gO, 0, none⟩) (fs.length + 1) cO) (hcur : w.heap[gO]? = some (.cells cur 47 (0, 0)))
    (h3 : RowAt (· ∈ hots b vD vO (G ++ [(ndC 3 l nilS vN li vK, ob vK)])) w 1 vN (ns.map fun n => [.string n])) (h4 : All2 (NdAt (· ∈ hots b vD vO (G ++ [(ndC 3 l nilS vN li vK, ob vK)])) w (31 - fs.length)) cks ks)
    {c : List Value} {n : Nd} (hc : NdAt (· ∈ hots b vD vO (G ++ [(ndC 3 l nilS vN li vK, ob vK)])) w (31 - fs.length) c n) (hg : Grew base gO (fs.length * 8 + 7) cur 47 vK 47 8 ks.length cks.flatten c w w') :
    St base b w' ⟨done, fs ++ [.fr l ns li (ks ++ [n])]⟩ := by
  obtain ⟨g, c', hb', hr', hgg, hf, hbg⟩ := hg
  have e0 : hots b vD vO (G ++ [(ndC 3 l nilS vN li vK, ob vK)]) = (b :: (ob vD ++ (ob vO ++ fl2 G))) ++ (ob vK ++ []) := by simp [hots]
  have e1 : hots b vD vO (G ++ [(ndC 3 l nilS vN li (.slice (some ⟨g, 0, none⟩) (ks.length + 1) c'), ob (.slice (some ⟨g, 0, none⟩) (ks.length + 1) c'))]) = (b :: (ob vD ++ (ob vO ++ fl2 G))) ++ ([g] ++ []) := by simp [hots, ob_slice]
  have hnd := h.nd
  have hge := h.ge
  have hrD := h.rowD
  rw [e0] at h3 h4 hc hnd hge hfr hrD
  have hOm : gO ∈ ob vO := by rw [hvO]; exact List.mem_singleton.2 rfl
  have hk := keeps_repl (A := b :: (ob vD ++ (ob vO ++ fl2 G))) (B := []) (v := vK) (g := g) hf (fun x hx => by
    rcases hx with rfl | hx
    · simp [hOm]
    · exact List.mem_append_right _ (List.mem_append_left _ (mem_ob.2 hx))) hgg
  have nd1 : (b :: (ob vD ++ (ob vO ++ fl2 G))).Nodup := (List.nodup_append.1 hnd).1
  have ap : ∀ A' : List Nat, (∀ x ∈ A', x ∈ b :: (ob vD ++ fl2 G)) → ∀ x ∈ A', ¬ (x = gO ∨ vK.ownBlock = some x) := by
    intro A' hA x hx e
    have hxm := hA x hx
    rcases e with rfl | e
    · have p : ((b :: ob vD) ++ (ob vO ++ fl2 G)).Nodup := by simpa using nd1
      rcases List.mem_append.1 (show x ∈ (b :: ob vD) ++ fl2 G by simpa using hxm) with hy | hy
      · exact nd_apart p hy (List.mem_append_left _ hOm)
      · exact nd_apart (nd_right p) hOm hy
    · refine nd_apart hnd (x := x) ?_ (List.mem_append_left _ (mem_ob.2 e))
      rcases List.mem_append.1 (show x ∈ (b :: ob vD) ++ fl2 G by simpa using hxm) with hy | hy
      · have : x ∈ (b :: ob vD) ++ (ob vO ++ fl2 G) := List.mem_append_left _ hy
        simpa using this
      · have : x ∈ (b :: ob vD) ++ (ob vO ++ fl2 G) := List.mem_append_right _ (List.mem_append_right _ hy)
        simpa using this
  have hO' : w'.ownsRow base 47 8 vO (fs.length + 1) ((G.map (·.1)).flatten ++ ndC 3 l nilS vN li (.slice (some ⟨g, 0, none⟩) (ks.length + 1) c')) := by
    have h9 := h.rowO
    rw [map_snoc1] at h9
    have hln : (⟨done, fs ++ [.fr l ns li ks]⟩ : Sx).op.length = fs.length + 1 := by simp
    rw [hln] at h9
    subst hvO
    have := row_upd h9 hcur hb'
    have hl : (G.map (·.1)).flatten.length = fs.length * 8 := by rw [flat_len _ hfr.len, List.length_map, hfr.1]
    rwa [List.set_append_right _ _ (by omega), hl, Nat.add_sub_cancel_left] at this
  refine ⟨vD, vO, G ++ [(ndC 3 l nilS vN li (.slice (some ⟨g, 0, none⟩) (ks.length + 1) c'), ob (.slice (some ⟨g, 0, none⟩) (ks.length + 1) c'))], ⟨?_, by have := h.few; simpa using this, ?_, ?_, ?_, by rw [e1]; exact nodup_repl hnd (fun x hx => (hge x hx).2) hgg, by rw [e1]; exact ge_repl hge hf.size (hr'.lt g rfl)⟩⟩
  · exact (hf.block b (hge b (by simp)).2 (ap [b] (by simp) b (by simp))).trans h.blk
  · rw [map_snoc1]; simpa using hO'
  · rw [e1]; exact hrD.keeps hk hf (fun x hx => ap (ob vD) (fun y hy => by simp [hy]) x hx)
  · rw [e1]
    refine (hfr.keeps hk hf (fun x hx => ap (fl2 G) (fun y hy => by simp [hy]) x hx)).snoc ?_
    exact ⟨vN, _, rfl, h3.keeps hk, Hot.grew h4 hk hr' hc, rfl⟩
/-- A further branch. -/
theorem st_part {l : Lz} {bs : List Bk} {w0 t0 wd t : ByteArray} {a0 a : Int} {ks : List Nd} {vB vK : Value} {css : List (List Value)} {cur : Array Value} {gO cO : Nat}
    (h : StA base b w ⟨done, fs ++ [.cn l bs w0 t0 a0 ks]⟩ vD vO (G ++ [(ndC 2 l vB nilS E nilS, ob vB ++ ob vK)]))
    (hfr : FrOK base (· ∈ hots b vD vO (G ++ [(ndC 2 l vB nilS E nilS, ob vB ++ ob vK)])) w G fs)
    (hvO : vO = .slice (some ⟨gO, 0, none⟩) (fs.length + 1) cO) (hcur : w.heap[gO]? = some (.cells cur 47 (0, 0)))
    (h2 : All2 (BkAt (· ∈ hots b vD vO (G ++ [(ndC 2 l vB nilS E nilS, ob vB ++ ob vK)])) w (31 - fs.length)) css bs) (h4 : Hot base (· ∈ hots b vD vO (G ++ [(ndC 2 l vB nilS E nilS, ob vB ++ ob vK)])) w (31 - fs.length) vK ks)
    (hg : Grew base gO (fs.length * 8 + 4) cur 47 vB 66 4 (bs.length + 1) (css.flatten ++ bkC w0 t0 a0 vK) [.string wd, .string t, .int .i64 a, .slice none 0 0] w w') :
    St base b w' ⟨done, fs ++ [.cn l (bs ++ [.mk w0 t0 a0 ks]) wd t a []]⟩ := by
  obtain ⟨g, c', hb', hr', hgg, hf, hbg⟩ := hg
  have e0 : hots b vD vO (G ++ [(ndC 2 l vB nilS E nilS, ob vB ++ ob vK)]) = (b :: (ob vD ++ (ob vO ++ fl2 G))) ++ (ob vB ++ ob vK) := by simp [hots]
  have e1 : hots b vD vO (G ++ [(ndC 2 l (.slice (some ⟨g, 0, none⟩) (bs.length + 1 + 1) c') nilS E nilS, ob (.slice (some ⟨g, 0, none⟩) (bs.length + 1 + 1) c') ++ ob nilS)]) = (b :: (ob vD ++ (ob vO ++ fl2 G))) ++ [g] := by simp [hots, ob_slice, ob_nil]
  have hnd := h.nd
  have hge := h.ge
  have hrD := h.rowD
  rw [e0] at h2 h4 hnd hge hfr hrD
  have hOm : gO ∈ ob vO := by rw [hvO]; exact List.mem_singleton.2 rfl
  have hk0 := keeps_repl (A := b :: (ob vD ++ (ob vO ++ fl2 G))) (B := ob vK) (v := vB) (g := g) hf (fun x hx => by
    rcases hx with rfl | hx
    · simp [hOm]
    · exact List.mem_append_right _ (List.mem_append_left _ (mem_ob.2 hx))) hgg
  have hnd0 := nodup_repl hnd (fun x hx => (hge x hx).2) hgg
  have hge0 := ge_repl hge hf.size (hr'.lt g rfl)
  have hk : Keeps (· ∈ (b :: (ob vD ++ (ob vO ++ fl2 G))) ++ (ob vB ++ ob vK)) (· ∈ (b :: (ob vD ++ (ob vO ++ fl2 G))) ++ [g]) w w' := hk0.less (fun x hx => by
    rcases List.mem_append.1 hx with hx | hx
    · exact List.mem_append_left _ hx
    · exact List.mem_append_right _ (List.mem_append_left _ hx))
  have nd1 : (b :: (ob vD ++ (ob vO ++ fl2 G))).Nodup := (List.nodup_append.1 hnd).1
  have hap : ∀ x ∈ b :: (ob vD ++ fl2 G), x ∈ b :: (ob vD ++ (ob vO ++ fl2 G)) ∧ x ≠ gO := by
    intro x hx
    have p : ((b :: ob vD) ++ (ob vO ++ fl2 G)).Nodup := by simpa using nd1
    rcases List.mem_append.1 (show x ∈ (b :: ob vD) ++ fl2 G by simpa using hx) with hy | hy
    · refine ⟨?_, fun e => nd_apart p hy (by rw [e]; exact List.mem_append_left _ hOm)⟩
      have : x ∈ (b :: ob vD) ++ (ob vO ++ fl2 G) := List.mem_append_left _ hy
      simpa using this
    · refine ⟨?_, fun e => nd_apart (nd_right p) (by rw [e]; exact hOm) hy⟩
      have : x ∈ (b :: ob vD) ++ (ob vO ++ fl2 G) := List.mem_append_right _ (List.mem_append_right _ hy)
      simpa using this
  have ap : ∀ A' : List Nat, (∀ x ∈ A', x ∈ b :: (ob vD ++ fl2 G)) → ∀ x ∈ A', ¬ (x = gO ∨ vB.ownBlock = some x) := by
    intro A' hA x hx e
    obtain ⟨q1, q2⟩ := hap x (hA x hx)
    rcases e with e | e
    · exact q2 e
    · exact nd_apart hnd q1 (List.mem_append_left _ (mem_ob.2 e))
  have hKD : ∀ x ∈ ob vK, ¬ (x = gO ∨ vB.ownBlock = some x) := fun x hx e => by
    rcases e with rfl | e
    · exact nd_apart hnd (by simp [hOm]) (List.mem_append_right _ hx)
    · exact nd_apart (nd_right hnd) (mem_ob.2 e) hx
  have hKH : ∀ x ∈ ob vK, ¬ x ∈ (b :: (ob vD ++ (ob vO ++ fl2 G))) ++ [g] := fun x hx hm => by
    rcases List.mem_append.1 hm with hm | hm
    · exact nd_apart hnd0 hm (List.mem_append_right _ hx)
    · exact nd_apart (nd_right hnd0) hm hx
  have hO' : w'.ownsRow base 47 8 vO (fs.length + 1) ((G.map (·.1)).flatten ++ ndC 2 l (.slice (some ⟨g, 0, none⟩) (bs.length + 1 + 1) c') nilS E nilS) := by
    have h9 := h.rowO
    rw [map_snoc1] at h9
    have hln : (⟨done, fs ++ [.cn l bs w0 t0 a0 ks]⟩ : Sx).op.length = fs.length + 1 := by simp
    rw [hln] at h9
    subst hvO
    have := row_upd h9 hcur hb'
    have hl : (G.map (·.1)).flatten.length = fs.length * 8 := by rw [flat_len _ hfr.len, List.length_map, hfr.1]
    rwa [List.set_append_right _ _ (by omega), hl, Nat.add_sub_cancel_left] at this
  refine ⟨vD, vO, G ++ [(ndC 2 l (.slice (some ⟨g, 0, none⟩) (bs.length + 1 + 1) c') nilS E nilS, ob (.slice (some ⟨g, 0, none⟩) (bs.length + 1 + 1) c') ++ ob nilS)], ⟨?_, by have := h.few; simpa using this, ?_, ?_, ?_, ?_, ?_⟩⟩
  · exact (hf.block b (hge b (by simp)).2 (ap [b] (by simp) b (by simp))).trans h.blk
  · rw [map_snoc1]; simpa using hO'
  · rw [e1]; exact hrD.keeps hk hf (fun x hx => ap (ob vD) (fun y hy => by simp [hy]) x hx)
  · rw [e1]
    refine (hfr.keeps hk hf (fun x hx => ap (fl2 G) (fun y hy => by simp [hy]) x hx)).snoc ?_
    refine ⟨_, nilS, css ++ [bkC w0 t0 a0 vK], rfl, ?_, (h2.mono fun c b hb => hb.keeps hk).snoc (b := .mk w0 t0 a0 ks) ⟨vK, rfl, h4.cold hk (fun n xs hr => Ex.row_fr hr hf (fun x hx => hKD x (mem_ob.2 hx))) hKH⟩, ⟨[], owns_nil _ _ _ _, .nil⟩, rfl⟩
    simp only [List.length_append, List.length_cons, List.length_nil, List.flatten_append, List.flatten_cons, List.flatten_nil, List.append_nil]
    exact hr'
  · rw [e1]
    exact (hnd0).sublist (List.Sublist.append (List.Sublist.refl _) (by simp))
  · rw [e1]
    intro x hx
    refine hge0 x ?_
    rcases List.mem_append.1 hx with hx | hx
    · exact List.mem_append_left _ hx
    · exact List.mem_append_right _ (List.mem_append_left _ hx)
end
end Go.Proofs.YtbciedpjaajhcaaDoor
