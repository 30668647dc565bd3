/-
  The builder's state behind each of its writes: a block that closes, one that opens.
-/
import Derived.Test.YtbciedpjaajhcaaDoorBT2
namespace Go.Proofs.YtbciedpjaajhcaaDoor
open Go.RowKit Go.Shelf
open Ex (Fr)
section
variable {base b : Nat} {w w' : World} {done : List Nd} {fs : List Fm} {vD vO : Value} {G : List (List Value × List Nat)}
/-- The innermost block is taken off; what it was stands. -/
theorem st_pop {f : Fm} {g : List Value × List Nat} {gO cO : Nat}
    (h : StA base b w ⟨done, fs ++ [f]⟩ vD vO (G ++ [g])) (hfr : FrOK base (· ∈ hots b vD vO (G ++ [g])) w G fs) (hfm : FmAt base (· ∈ hots b vD vO (G ++ [g])) w (31 - fs.length) g.1 g.2 f)
    (hvO : vO = .slice (some ⟨gO, 0, none⟩) (fs.length + 1) cO) (hb' : w'.heap[b]? = some (.cells #[vD, .slice (some ⟨gO, 0, none⟩) fs.length cO] 50 (0, 0))) (hf : Fr (fun j => j = b) w w') :
    StA base b w' ⟨done, fs⟩ vD (.slice (some ⟨gO, 0, none⟩) fs.length cO) G ∧ NdAt (· ∈ hots b vD (.slice (some ⟨gO, 0, none⟩) fs.length cO) G) w' (32 - fs.length) g.1 f.close := by
  have hob : ob vO = [gO] := by rw [hvO]; rfl
  have e0 : hots b vD vO (G ++ [g]) = (b :: (ob vD ++ (ob vO ++ fl2 G))) ++ g.2 := by simp [hots]
  have e1 : hots b vD (.slice (some ⟨gO, 0, none⟩) fs.length cO) G = b :: (ob vD ++ (ob vO ++ fl2 G)) := by simp [hots, ob_slice, hob]
  have hnd := h.nd
  have hge := h.ge
  have hrD := h.rowD
  have hlen : fs.length + 1 ≤ 32 := by have := h.few; simpa using this
  rw [e0] at hnd hge hfr hrD hfm
  have hk : Keeps (· ∈ (b :: (ob vD ++ (ob vO ++ fl2 G))) ++ g.2) (· ∈ b :: (ob vD ++ (ob vO ++ fl2 G))) w w' := keeps_of hf (fun x e => by rw [e]; simp) (fun x hx => .inl (List.mem_append_left _ hx))
  have nd1 : (b :: (ob vD ++ (ob vO ++ fl2 G))).Nodup := (List.nodup_append.1 hnd).1
  have ap : ∀ x ∈ ob vD ++ (ob vO ++ (fl2 G ++ g.2)), ¬ x = b := fun x hx e => by
    have : (b :: (ob vD ++ (ob vO ++ (fl2 G ++ g.2)))).Nodup := by simpa using hnd
    exact (List.nodup_cons.1 this).1 (by rw [← e]; exact hx)
  have hH : ∀ x ∈ g.2, ¬ x ∈ b :: (ob vD ++ (ob vO ++ fl2 G)) := fun x hx hm => nd_apart hnd hm hx
  have hO : w'.ownsRow base 47 8 (.slice (some ⟨gO, 0, none⟩) fs.length cO) fs.length (G.map (·.1)).flatten := by
    have h9 := h.rowO
    rw [map_snoc1] at h9
    have hln : (⟨done, fs ++ [f]⟩ : Sx).op.length = fs.length + 1 := by simp
    rw [hln] at h9
    have h10 := Ex.row_fr h9 hf (fun x hx => ap x (by simp [mem_ob, hx]))
    subst hvO
    exact Ex.owns_pop h10 (by rw [flat_len _ hfr.len, List.length_map, hfr.1])
  refine ⟨⟨hb', by simp; omega, hO, by rw [e1]; exact hrD.keeps hk hf (fun x hx => ap x (by simp [hx])), by rw [e1]; exact hfr.keeps hk hf (fun x hx => ap x (List.mem_append_right _ (List.mem_append_right _ (List.mem_append_left _ hx)))), by rw [e1]; exact nd1, ?_⟩, ?_⟩
  · rw [e1]
    exact fun x hx => ⟨(hge x (List.mem_append_left _ hx)).1, Nat.lt_of_lt_of_le (hge x (List.mem_append_left _ hx)).2 hf.size⟩
  · rw [e1, show 32 - fs.length = (31 - fs.length) + 1 by omega]
    have apg : ∀ x ∈ g.2, ¬ x = b := fun x hx => ap x (by simp [hx])
    cases f with
    | cn l bs wd t a ks =>
      obtain ⟨vB, vK, css, q1, q2, q3, q4, q5⟩ := hfm
      rw [q5] at hH apg
      rw [q1]
      refine cn_nd (css := css ++ [bkC wd t a vK]) (row_cold (base := base) (e := 66) ?_ ?_ (fun x hx => hH x (List.mem_append_left _ hx))) ((q3.mono fun c b hb => hb.keeps hk).snoc (b := .mk wd t a ks) ⟨vK, rfl, q4.cold hk (fun n xs hr => Ex.row_fr hr hf (fun x hx => apg x (List.mem_append_right _ (mem_ob.2 hx)))) (fun x hx => hH x (List.mem_append_right _ hx))⟩)
      · have := Ex.row_fr q2 hf (fun x hx => apg x (List.mem_append_left _ (mem_ob.2 hx)))
        rw [List.length_append, q3.length]
        simpa using this
      · intro c hc
        rcases List.mem_append.1 hc with hc | hc
        · exact bk_len q3 c hc
        · rw [List.mem_singleton] at hc; rw [hc]; rfl
    | fr l ns li ks =>
      obtain ⟨vN, vK, q1, q2, q3, q4⟩ := hfm
      rw [q4] at hH apg
      rw [q1]
      exact fr_nd (q2.keeps hk) (q3.cold hk (fun n xs hr => Ex.row_fr hr hf (fun x hx => apg x (mem_ob.2 hx))) hH)
/-- A block opens. -/
theorem st_push {w0 : World} {f : Fm} {c : List Value} (h : StA base b w0 ⟨done, fs⟩ vD vO G) (hw : Below w0.heap.size w0 w) (hlen : fs.length < 32) (hb : List Nat) (hbn : hb.Nodup) (hbl : ∀ x ∈ hb, w0.heap.size ≤ x ∧ x < w.heap.size)
    (hfm : ∀ H' : Nat → Prop, (∀ x, H' x → x < w0.heap.size ∨ x ∈ hb ∨ w.heap.size ≤ x) → FmAt base H' w' (31 - fs.length) c hb f) (hg : Grew base b 1 #[vD, vO] 50 vO 47 8 fs.length (G.map (·.1)).flatten c w w') :
    St base b w' ⟨done, fs ++ [f]⟩ := by
  obtain ⟨g, c', hb', hr', hgg, hf, hbg⟩ := hg
  have e0 : hots b vD vO G = (b :: ob vD) ++ (ob vO ++ fl2 G) := by simp [hots]
  have e1 : hots b vD (.slice (some ⟨g, 0, none⟩) (fs.length + 1) c') (G ++ [(c, hb)]) = ((b :: ob vD) ++ ([g] ++ fl2 G)) ++ hb := by simp [hots, ob_slice]
  have hnd := h.nd
  have hge := h.ge
  have hrD := h.rowD
  have hfr := h.frs
  rw [e0] at hnd hge hrD
  have hfr' : FrOK base (· ∈ (b :: ob vD) ++ (ob vO ++ fl2 G)) w0 G fs := by rw [← e0]; exact hfr
  have hgg0 : vO.ownBlock = some g ∨ w0.heap.size ≤ g := hgg.imp id (fun h => Nat.le_trans hw.size h)
  have hf0 : Fr (fun j => j = b ∨ vO.ownBlock = some j) w0 w' := (Fr.of_below hw).trans hf
  have hk0 := keeps_repl (A := b :: ob vD) (B := fl2 G) (v := vO) (g := g) hf0 (fun x hx => by
    rcases hx with rfl | hx
    · simp
    · exact List.mem_append_right _ (List.mem_append_left _ (mem_ob.2 hx))) hgg0
  have hk : Keeps (· ∈ (b :: ob vD) ++ (ob vO ++ fl2 G)) (· ∈ ((b :: ob vD) ++ ([g] ++ fl2 G)) ++ hb) w0 w' := ⟨hk0.size, hk0.block, fun x hx hm => by
    rcases List.mem_append.1 hm with hm | hm
    · exact hk0.hot x hx hm
    · have := (hbl x hm).1; omega⟩
  have hnd0 := nodup_repl hnd (fun x hx => (hge x hx).2) hgg0
  have hge0 := ge_repl hge hf0.size (hr'.lt g rfl)
  have ap : ∀ x ∈ ob vD ++ fl2 G, ¬ (x = b ∨ vO.ownBlock = some x) := fun x hx e => by
    rcases e with rfl | e
    · have : (x :: (ob vD ++ (ob vO ++ fl2 G))).Nodup := by simpa using hnd
      exact (List.nodup_cons.1 this).1 (by rcases List.mem_append.1 hx with hx | hx <;> simp [hx])
    · rcases List.mem_append.1 hx with hx | hx
      · exact nd_apart hnd (List.mem_cons_of_mem _ hx) (List.mem_append_left _ (mem_ob.2 e))
      · exact nd_apart (nd_right hnd) (mem_ob.2 e) hx
  refine ⟨vD, .slice (some ⟨g, 0, none⟩) (fs.length + 1) c', G ++ [(c, hb)], ⟨by simpa using hb', by simp; omega, ?_, ?_, ?_, ?_, ?_⟩⟩
  · rw [map_snoc1]; simpa using hr'
  · rw [e1]; exact hrD.keeps hk hf0 (fun x hx => ap x (List.mem_append_left _ hx))
  · rw [e1]
    refine (hfr'.keeps hk hf0 (fun x hx => ap x (List.mem_append_right _ hx))).snoc (hfm _ (fun x hx => ?_))
    rcases List.mem_append.1 hx with hx | hx
    · rcases List.mem_append.1 hx with hx | hx
      · exact .inl (hge x (List.mem_append_left _ hx)).2
      · rcases List.mem_append.1 hx with hx | hx
        · rw [List.mem_singleton] at hx; subst hx
          rcases hgg with hgg | hgg
          · exact .inl (hge x (List.mem_append_right _ (List.mem_append_left _ (mem_ob.2 hgg)))).2
          · exact .inr (.inr hgg)
        · exact .inl (hge x (List.mem_append_right _ (List.mem_append_right _ hx))).2
    · exact .inr (.inl hx)
  · rw [e1]
    refine List.nodup_append.2 ⟨hnd0, hbn, fun x hx y hy e => ?_⟩
    subst e
    obtain ⟨p1, p2⟩ := hbl x hy
    rcases List.mem_append.1 hx with hx | hx
    · have := (hge x (List.mem_append_left _ hx)).2; omega
    · rcases List.mem_append.1 hx with hx | hx
      · rw [List.mem_singleton] at hx; subst hx
        rcases hgg with hgg | hgg
        · have := (hge x (List.mem_append_right _ (List.mem_append_left _ (mem_ob.2 hgg)))).2; omega
        · omega
      · have := (hge x (List.mem_append_right _ (List.mem_append_right _ hx))).2; omega
  · rw [e1]
    intro x hx
    rcases List.mem_append.1 hx with hx | hx
    · exact hge0 x hx
    · obtain ⟨p1, p2⟩ := hbl x hx
      have hbb := (hge b (by simp))
      have hs := hf.size
      exact ⟨by omega, by omega⟩
end
end Go.Proofs.YtbciedpjaajhcaaDoor
