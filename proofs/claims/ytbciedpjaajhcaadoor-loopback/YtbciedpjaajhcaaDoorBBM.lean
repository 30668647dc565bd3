/-
  Rows that grow, and what lies beside them: the steps of the law's blocks.
-/
import Derived.Test.YtbciedpjaajhcaaDoorBBL
namespace Go.Proofs.YtbciedpjaajhcaaDoor
open Go.RowKit Go.Shelf
open Ex (Fr)

theorem infoRB : (Tryd.prog.info? 63).map (fun i => (i.zero, i.size, i.bytes)) = some (some (.agg #[.string ⟨#[]⟩, .string ⟨#[]⟩, .int .i64 0, .slice none 0 0]), 4, 64) := by kernel_rfl
theorem infoRN : (Tryd.prog.info? 61).map (fun i => (i.zero, i.size, i.bytes)) = some (some (.agg #[.int .i64 0, .string ⟨#[]⟩, .int .i64 0, .bool false, .slice none 0 0, .slice none 0 0, .string ⟨#[]⟩, .slice none 0 0]), 8, 128) := by kernel_rfl
/-- What stands behind the first i blocks. -/
def BbI (H : Nat → Prop) (r : Nat) (ts : List Nd) (w : World) (i : Nat) (v : Value) (wr : World) : Prop :=
  ∃ css : List (List Value), wr.ownsRow w.heap.size 61 8 v css.length css.flatten ∧ All2 (NdAt (fun g => H g ∨ v.ownBlock = some g) wr r) css (ts.take i) ∧ Below w.heap.size w wr
/-- Behind what lies within the next one. -/
structure YI (A : Nat → Prop) (r : Nat) (W1 : World) (y : Nat) (u0 u1 u2 u3 u5 u6 v2 : Value) (ks : List Nd) (W : World) : Prop where
  blk : W.heap[y]? = some (.cells #[u0, u1, u2, u3, nilS, u5, u6, v2] 61 (0, 0))
  lo : W1.heap.size ≤ y
  kd : KdH (fun x => A x ∨ x = y) W v2 ks r
  bel : Below W1.heap.size W1 W
theorem yi_kd {A : Nat → Prop} {r y lo : Nat} {v2 : Value} {ks : List Nd} {wc wb W : World} (hk : KdH (fun x => A x ∨ (lo ≤ x ∧ x < wc.heap.size)) wb v2 ks r) (hsz : wb.heap.size ≤ W.heap.size) (hb : ∀ g, g < wb.heap.size → g ≠ y → W.heap[g]? = wb.heap[g]?) (hy : y < wc.heap.size ∨ wb.heap.size ≤ y) (hlo : lo ≤ y) : KdH (fun x => A x ∨ x = y) W v2 ks r := by
  refine hk.keeps ⟨hsz, fun g hg hn => hb g hg fun e => hn (.inr ?_), fun g hg h => ?_⟩
  · subst e
    rcases hy with h | h
    · exact ⟨hlo, h⟩
    · omega
  · rcases h with h | h
    · exact .inl h
    · subst h
      rcases hy with h | h
      · exact .inr ⟨hlo, h⟩
      · omega
theorem yi_alloc {A : Nat → Prop} {r : Nat} {W1 wc wb : World} {u0 u1 u2 u3 u5 u6 v2 : Value} {ks : List Nd} (hk : KdH (fun x => A x ∨ (W1.heap.size ≤ x ∧ x < wc.heap.size)) wb v2 ks r) (hb : Below W1.heap.size W1 wb) :
    YI A r W1 wb.heap.size u0 u1 u2 u3 u5 u6 v2 ks (wb.alloc (.cells #[u0, u1, u2, u3, nilS, u5, u6, v2] 61)) :=
  ⟨alloc_last _ _, hb.size, yi_kd hk (by simp) (fun g hg _ => Below.heap_alloc _ _ _ hg) (.inr (Nat.le_refl _)) hb.size, ba2 hb _⟩
theorem yi_set {A : Nat → Prop} {r y : Nat} {W1 wc wb : World} {u0 u1 u2 u3 u5 u6 v2 : Value} {ks : List Nd} (hk : KdH (fun x => A x ∨ (W1.heap.size ≤ x ∧ x < wc.heap.size)) wb v2 ks r) (hb : Below W1.heap.size W1 wb) (hlo : W1.heap.size ≤ y) (hy : y < wc.heap.size) {z0 z1 z2 z3 z4 z5 z6 z7 : Value} (hz : wb.heap[y]? = some (.cells #[z0, z1, z2, z3, z4, z5, z6, z7] 61 (0, 0))) :
    YI A r W1 y u0 u1 u2 u3 u5 u6 v2 ks (((((((((wb.setCell ⟨y, 0, none⟩ u0).setCell ⟨y, 1, none⟩ u1).setCell ⟨y, 2, none⟩ u2).setCell ⟨y, 3, none⟩ u3).setCell ⟨y, 4, none⟩ nilS).setCell ⟨y, 5, none⟩ u5).setCell ⟨y, 6, none⟩ u6).setCell ⟨y, 7, none⟩ v2)) := by
  refine ⟨?_, hlo, yi_kd hk (by simp only [size_set]; exact Nat.le_refl _) (fun g hg hn => ?_) (.inl hy) hlo, bs2 (bs2 (bs2 (bs2 (bs2 (bs2 (bs2 (bs2 hb hlo) hlo) hlo) hlo) hlo) hlo) hlo) hlo⟩
  · rw [heap_set (heap_set (heap_set (heap_set (heap_set (heap_set (heap_set (heap_set hz _) _) _) _) _) _) _) _]; simp
  · rw [Below.heap_setCell _ _ _ _ hn, Below.heap_setCell _ _ _ _ hn, Below.heap_setCell _ _ _ _ hn, Below.heap_setCell _ _ _ _ hn, Below.heap_setCell _ _ _ _ hn, Below.heap_setCell _ _ _ _ hn, Below.heap_setCell _ _ _ _ hn, Below.heap_setCell _ _ _ _ hn]

/-- What is written while branches are gathered. -/
def Hj (A : Nat → Prop) (y : Nat) (v : Value) : Nat → Prop := fun x => (A x ∨ x = y) ∨ v.ownBlock = some x
/-- Behind the first j branches. -/
structure BJ (A : Nat → Prop) (r : Nat) (W1 : World) (y : Nat) (u0 u1 u2 u3 u5 u6 v2 : Value) (ks : List Nd) (bs : List Bk) (j : Nat) (vb : Value) (cb : List (List Value)) (W : World) : Prop where
  blk : W.heap[y]? = some (.cells #[u0, u1, u2, u3, vb, u5, u6, v2] 61 (0, 0))
  lo : W1.heap.size ≤ y
  kd : KdH (Hj A y vb) W v2 ks r
  bel : Below W1.heap.size W1 W
  own : W.ownsRow W1.heap.size 63 4 vb cb.length cb.flatten
  br : All2 (BrH (Hj A y vb) W r) cb (bs.take j)
  none : j = 0 → vb = nilS
theorem bj_start {A : Nat → Prop} {r : Nat} {W1 : World} {y : Nat} {u0 u1 u2 u3 u5 u6 v2 : Value} {ks : List Nd} {W : World} (h : YI A r W1 y u0 u1 u2 u3 u5 u6 v2 ks W) (bs : List Bk) : BJ A r W1 y u0 u1 u2 u3 u5 u6 v2 ks bs 0 nilS [] W := by
  refine ⟨h.blk, h.lo, h.kd.keeps ⟨Nat.le_refl _, fun _ _ _ => rfl, fun g _ hg => ?_⟩, h.bel, owns_nil _ _ _ _, .nil, fun _ => rfl⟩
  rcases hg with hg | hg
  · exact hg
  · cases hg
theorem BJ.row {A : Nat → Prop} {r : Nat} {W1 : World} {y : Nat} {u0 u1 u2 u3 u5 u6 v2 : Value} {ks : List Nd} {bs : List Bk} {j : Nat} {vb : Value} {cb : List (List Value)} {W : World} (h : BJ A r W1 y u0 u1 u2 u3 u5 u6 v2 ks bs j vb cb W) : vb.ownBlock ≠ some y := Ex.row_ne' h.own h.blk (by decide)
/-- One branch more. -/
theorem bj_step {A : Nat → Prop} {r : Nat} {W1 : World} {y : Nat} {u0 u1 u2 u3 u5 u6 v2 : Value} {ks : List Nd} {bs : List Bk} {j : Nat} {vb : Value} {cb : List (List Value)} {wr w3 w4 : World} {o : Obj} {g4 m4 c4 : Nat} {wd t : ByteArray} {at_ : Int} {v3 : Value} {ks3 : List Nd}
    (h : BJ A r W1 y u0 u1 u2 u3 u5 u6 v2 ks bs j vb cb wr) (hb3 : Below wr.heap.size wr w3) (hk3 : KdH (Hj A y vb) w3 v3 ks3 r) (hbj : bs[j]? = some (.mk wd t at_ ks3))
    (hown : w4.ownsRow W1.heap.size 63 4 (.slice (some ⟨g4, 0, none⟩) m4 c4) m4 (cb.flatten ++ bkC wd t at_ v3)) (hm : m4 = cb.length + 1) (hgr : (w3.alloc o).grownBy w4 vb.ownBlock) (hgg : vb.ownBlock = some g4 ∨ g4 = (w3.alloc o).heap.size) :
    BJ A r W1 y u0 u1 u2 u3 u5 u6 v2 ks bs (j + 1) (.slice (some ⟨g4, 0, none⟩) m4 c4) (cb ++ [bkC wd t at_ v3]) (w4.setCell ⟨y, 4, none⟩ (.slice (some ⟨g4, 0, none⟩) m4 c4)) := by
  have hyl : y < wr.heap.size := (Array.getElem?_eq_some_iff.1 h.blk).1
  have hz3 : wr.heap.size ≤ w3.heap.size := hb3.size
  have hza : (w3.alloc o).heap.size = w3.heap.size + 1 := by simp
  have hb4 : ∀ x, x < w3.heap.size → vb.ownBlock ≠ some x → w4.heap[x]? = w3.heap[x]? := fun x hx hn => (hgr.block x (by omega) (fun e => hn e.symm)).trans (Below.heap_alloc _ _ _ hx)
  have hy4 : w4.heap[y]? = some (.cells #[u0, u1, u2, u3, vb, u5, u6, v2] 61 (0, 0)) := (hb4 y (by omega) h.row).trans ((hb3.block y hyl).trans h.blk)
  have hk : Keeps (Hj A y vb) (Hj A y (.slice (some ⟨g4, 0, none⟩) m4 c4)) w3 (w4.setCell ⟨y, 4, none⟩ (.slice (some ⟨g4, 0, none⟩) m4 c4)) := by
    refine ⟨by rw [size_set]; have := hgr.size; omega, fun x hx hn => ?_, fun x hx hh => ?_⟩
    · have h1 : x ≠ y := fun e => hn (.inl (.inr e))
      rw [Below.heap_setCell _ _ _ _ h1]
      exact hb4 x hx fun e => hn (.inr e)
    · rcases hh with hh | hh
      · exact .inl hh
      · have e : g4 = x := by simpa [Value.ownBlock] using hh
        subst e
        rcases hgg with hg | hg
        · exact .inr hg
        · omega
  have hkr : Keeps (Hj A y vb) (Hj A y (.slice (some ⟨g4, 0, none⟩) m4 c4)) wr (w4.setCell ⟨y, 4, none⟩ (.slice (some ⟨g4, 0, none⟩) m4 c4)) := (Keeps.of_below hb3).trans hk
  have hgy : (Value.slice (some ⟨g4, 0, none⟩) m4 c4).ownBlock ≠ some y := Ex.row_ne' hown hy4 (by decide)
  have hlv : ∀ x, vb.ownBlock = some x → W1.heap.size ≤ x := fun x hx => (h.own.lt x hx).1
  refine ⟨?_, h.lo, h.kd.keeps hkr, ?_, ?_, ?_, fun h0 => by omega⟩
  · rw [heap_set hy4]; simp
  · have b1 : Below W1.heap.size W1 (w3.alloc o) := ba2 (bt2 h.bel hb3) o
    have b2 : Below W1.heap.size W1 w4 := b1.grown hgr b1.size (fun k hk => hlv k hk)
    exact bs2 b2 h.lo
  · rw [List.flatten_append, List.flatten_cons, List.flatten_nil, List.append_nil, List.length_append, List.length_singleton, ← hm]
    exact row_set hown hgy _
  · have e : bs.take (j + 1) = bs.take j ++ [.mk wd t at_ ks3] := by rw [List.take_add_one, hbj]; rfl
    rw [e]
    exact (h.br.mono fun c b hb => hb.keeps hkr).snoc ⟨wd, t, at_, v3, ks3, rfl, rfl, hk3.keeps hk⟩
theorem brH_len {H : Nat → Prop} {w : World} {r : Nat} {css : List (List Value)} {bs : List Bk} (h : All2 (BrH H w r) css bs) : ∀ c ∈ css, c.length = 4 := by
  induction h with
  | nil => intro c hc; cases hc
  | cons h1 _ ih =>
    intro c hc
    rcases List.mem_cons.1 hc with rfl | hc
    · obtain ⟨wd, t, a, vK, ks, rfl, _⟩ := h1; rfl
    · exact ih c hc
/-- One block more. -/
theorem bi_step {H : Nat → Prop} {r : Nat} {ts : List Nd} {w wo W1 wr w4 : World} {i : Nat} {vo v' : Value} {y : Nat} {k : Int} {l : Lz} {aN : Option Addr} {nN cN : Nat} {li : ByteArray} {v2 : Value} {ks : List Nd} {bs : List Bk} {vb : Value} {cb : List (List Value)} {t : Nd} {o : Obj}
    (hH : ∀ g, H g → g < w.heap.size) (hi : ts[i]? = some t) (hwo : Below w.heap.size w wo) {css : List (List Value)} (h1 : wo.ownsRow w.heap.size 61 8 vo css.length css.flatten) (h2 : All2 (NdAt (fun g => H g ∨ vo.ownBlock = some g) wo r) css (ts.take i))
    (hb1 : Below wo.heap.size wo W1) (h : BJ (fun x => H x ∨ vo.ownBlock = some x) r W1 y (.int .i64 k) (.string l.text) (.int .i64 l.at_) (.bool l.cmd) (.slice aN nN cN) (.string li) v2 ks bs bs.length vb cb wr)
    (hown : w4.ownsRow w.heap.size 61 8 v' (css.length + 1) (css.flatten ++ ndC k l vb (.slice aN nN cN) li v2)) (hgr : (wr.alloc o).grownBy w4 vo.ownBlock) (hgg : v'.ownBlock = vo.ownBlock ∨ v'.ownBlock = some (wr.alloc o).heap.size)
    (hback : ∀ (H' : Nat → Prop) (w' : World) (vB' : Value) (css' : List (List Value)) (vK' : Value), Keeps H H' w w' → RowAt H' w' 4 vB' css' → All2 (BrH H' w' r) css' bs → (bs = [] → vB' = nilS) → KdH H' w' vK' ks r → v2 = vK' → NdAt H' w' r (ndC k l vB' (.slice aN nN cN) li vK') t) :
    BbI H r ts w (i + 1) v' w4 := by
  have hz1 : wo.heap.size ≤ W1.heap.size := hb1.size
  have hzr : W1.heap.size ≤ wr.heap.size := h.bel.size
  have hza : (wr.alloc o).heap.size = wr.heap.size + 1 := by simp
  have hz4 : (wr.alloc o).heap.size ≤ w4.heap.size := hgr.size
  have hzo : w.heap.size ≤ wo.heap.size := hwo.size
  have hvo : ∀ x, vo.ownBlock = some x → w.heap.size ≤ x ∧ x < wo.heap.size := fun x hx => h1.lt x hx
  have hv' : ∀ x, v'.ownBlock = some x → w.heap.size ≤ x := fun x hx => (hown.lt x hx).1
  have hb4 : ∀ x, x < wr.heap.size → vo.ownBlock ≠ some x → w4.heap[x]? = wr.heap[x]? := fun x hx hn => (hgr.block x (by omega) (fun e => hn e.symm)).trans (Below.heap_alloc _ _ _ hx)
  have hof : ∀ x, v'.ownBlock = some x → vo.ownBlock = some x ∨ wr.heap.size ≤ x := fun x hx => by
    rcases hgg with e | e
    · exact .inl (e ▸ hx)
    · rw [hx] at e; cases e; exact .inr (by omega)
  -- what is kept from the loop within
  have hk : Keeps (Hj (fun x => H x ∨ vo.ownBlock = some x) y vb) (fun g => H g ∨ v'.ownBlock = some g) wr w4 := by
    refine ⟨by omega, fun x hx hn => hb4 x hx fun e => hn (.inl (.inl (.inr e))), fun x hx hh => ?_⟩
    rcases hh with hh | hh
    · exact .inl (.inl (.inl hh))
    · rcases hof x hh with e | e
      · exact .inl (.inl (.inr e))
      · omega
  -- from ahead of it
  have hko : Keeps (fun g => H g ∨ vo.ownBlock = some g) (fun g => H g ∨ v'.ownBlock = some g) wo w4 := by
    refine ⟨by omega, fun x hx hn => (hb4 x (by omega) fun e => hn (.inr e)).trans (((bt2 hb1 (h.bel)).block x hx)), fun x hx hh => ?_⟩
    rcases hh with hh | hh
    · exact .inl hh
    · rcases hof x hh with e | e
      · exact .inr e
      · omega
  have hbw : Below w.heap.size w w4 := by
    have b1 : Below w.heap.size w wr := bt2 (bt2 hwo hb1) h.bel
    exact (ba2 b1 o).grown hgr (ba2 b1 o).size (fun x hx => (hvo x hx).1)
  have hkw : Keeps H (fun g => H g ∨ v'.ownBlock = some g) w w4 := ⟨hbw.size, fun x hx _ => hbw.block x hx, fun x hx hh => by
    rcases hh with hh | hh
    · exact hh
    · have := hv' x hh; omega⟩
  have hvb : ∀ x, vb.ownBlock = some x → W1.heap.size ≤ x := fun x hx => (h.own.lt x hx).1
  have hvbo : ∀ x, vb.ownBlock = some x → vo.ownBlock ≠ some x := fun x hx e => by have := hvb x hx; have := (hvo x e).2; omega
  have hob : w4.ownsRow W1.heap.size 63 4 vb cb.length cb.flatten := by
    have h5 := h.own.alloc o
    exact h5.kept hgr (by
      by_cases e : vb.ownBlock = none
      · exact .inl e
      · refine .inr fun e2 => ?_
        cases hx : vb.ownBlock with
        | none => exact e hx
        | some x => exact hvbo x hx (e2.symm.trans hx))
  have hbr : All2 (BrH (fun g => H g ∨ v'.ownBlock = some g) w4 r) cb bs := by
    have h5 := h.br
    rw [List.take_length] at h5
    exact h5.mono fun c b hb => hb.keeps hk
  refine ⟨css ++ [ndC k l vb (.slice aN nN cN) li v2], ?_, ?_, hbw⟩
  · rw [List.flatten_append, List.flatten_cons, List.flatten_nil, List.append_nil, List.length_append, List.length_singleton]
    exact hown
  · have e : ts.take (i + 1) = ts.take i ++ [t] := by rw [List.take_add_one, hi]; rfl
    rw [e]
    refine (h2.mono fun c b hb => NdAt.keeps hko r c b hb).snoc (hback _ w4 vb cb v2 hkw (row_cold hob (brH_len hbr) fun x hx hh => ?_) hbr (fun hb0 => h.none (by rw [hb0]; rfl)) (h.kd.keeps hk) rfl)
    have hx' := mem_ob.1 hx
    rcases hh with hh | hh
    · have := hH x hh; have := hvb x hx'; omega
    · obtain ⟨cur, hc⟩ := row_type hob hx'
      exact Ex.row_ne' hown hc (by decide) hh
theorem bi_end {H : Nat → Prop} {r : Nat} {ts : List Nd} {w wr : World} {v : Value} (hH : ∀ g, H g → g < w.heap.size) (h : BbI H r ts w ts.length v wr) : NdsAt H wr r v ts := by
  obtain ⟨css, h1, h2, h3⟩ := h
  rw [List.take_length] at h2
  have h4 : All2 (NdAt H wr r) css ts := h2.mono fun c b hb => NdAt.keeps ⟨Nat.le_refl _, fun _ _ _ => rfl, fun g _ hg => .inl hg⟩ r c b hb
  exact ⟨css, row_cold h1 (nd_len h4) fun x hx hh => by have := hH x hh; have := (h1.lt x (mem_ob.1 hx)).1; omega, h4⟩
end Go.Proofs.YtbciedpjaajhcaaDoor
