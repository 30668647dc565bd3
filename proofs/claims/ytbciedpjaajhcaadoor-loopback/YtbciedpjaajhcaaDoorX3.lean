/-
  What begin writes.
-/
import Derived.Test.YtbciedpjaajhcaaDoorX2
namespace Go.Proofs.YtbciedpjaajhcaaDoor.Ex
open Go.RowKit Go.Shelf

/-- How it stands ahead of the last statement of begin: the dollar lies in its own block. -/
structure Pre (base b bd : Nat) (s : ByteArray) (pos : Nat) (vf vo : Value) (F : List Dl) (K : List Br) (d : Dl) (w0 w : World) : Prop where
  blk : w.heap[b]? = some (.cells #[.string s, .int .i64 (pos : Int), vf, vo] 121 (0, 0))
  box : w.heap[bd]? = some (.cells (dlC d).toArray 142 (0, 0))
  rf : w.ownsRow base 142 6 vf F.length (dlsV F)
  ro : w.ownsRow base 147 4 vo K.length (brsV K)
  hb : base ≤ b
  fbd : vf.ownBlock ≠ some bd
  low : Below base w0 w
def StepPost (base b : Nat) (s : ByteArray) (σ : Sn) (w : World) (e : Ending) (w' : World) : Prop := e = .returned (.tuple #[]) ∧ ∃ vf vo, SnAt base b s vf vo σ w' ∧ Below base w w'
theorem Pre.done {base b bd : Nat} {s : ByteArray} {pos : Nat} {vf vo : Value} {F : List Dl} {K : List Br} {d : Dl} {w0 w w2 : World} {v2 : Value} (h : Pre base b bd s pos vf vo F K d w0 w) (hf : Fr (fun j => vf.ownBlock = some j) w w2) (hown : w2.ownsRow base 142 6 v2 (F.length + 1) (dlsV F ++ dlC d)) (hfine : (⟨pos, F ++ [d], K⟩ : Sn).Fine (bl s)) :
    SnAt base b s v2 vo ⟨pos, F ++ [d], K⟩ (w2.setCell ⟨b, 2, none⟩ v2) ∧ Below base w0 (w2.setCell ⟨b, 2, none⟩ v2) := by
  have l1 : b < w.heap.size := (Array.getElem?_eq_some_iff.1 h.blk).1
  have hblk := (hf.block b l1 (row_ne' h.rf h.blk (by decide))).trans h.blk
  have hro := row_fr h.ro hf (fun g hg e => by obtain ⟨cur, hc⟩ := row_type h.rf e; exact row_ne' h.ro hc (by decide) hg)
  have hbw : base ≤ w.heap.size := by have := h.hb; omega
  refine ⟨⟨⟨heap_set hblk _, row_set ?_ (row_ne' hown hblk (by decide)) _, row_set hro (row_ne' hro hblk (by decide)) _, h.hb⟩, hfine⟩, ?_⟩
  · rw [List.length_append, List.length_singleton]; unfold dlsV at hown ⊢; rw [List.flatMap_append]; simpa using hown
  · refine h.low.trans ?_
    exact ((hf.mono (D' := fun j => base ≤ j) (fun j _ e => (h.rf.lt j e).1)).trans (Fr.set b 2 _ _ h.hb)).below hbw (fun _ e => e)
theorem ext_one (s : ByteArray) (k : Nat) (h : k < s.size) : s.extract k (k + 1) = ⟨#[s[k]]⟩ := by
  apply bl_inj
  rw [bl_extract, take_snoc s k h, List.drop_append_of_le_length (by rw [List.length_take, bl_length]; omega), List.drop_of_length_le (by rw [List.length_take]; omega)]
  rfl
theorem ext_none (s : ByteArray) (k : Nat) (h : s.size ≤ k) (j : Nat) : s.extract k j = ⟨#[]⟩ := by
  apply bl_inj
  rw [bl_extract, List.drop_of_length_le (by rw [List.length_take, bl_length]; omega)]
  rfl

set_option maxRecDepth 20000 in
set_option maxHeartbeats 2000000 in
theorem bg_self {base b : Nat} {s : ByteArray} {vf vo : Value} {F : List Dl} {K : List Br} {p : Nat} (w : World) (h : SnAt base b s vf vo ⟨p, F, K⟩ w) (hs : s.size ≤ 1000000) (hl : p + 1 < s.size) (hx : s[p + 1] = 36) (q : Nat) (hq : q = p + 2) (hfine : (⟨q, F ++ [⟨p, q, 0, 0, 0, 0⟩], K⟩ : Sn).Fine (bl s)) :
    Calls Tryd.prog 78 #[.pointer (some ⟨b, 0, none⟩)] w (StepPost base b s ⟨q, F ++ [⟨p, q, 0, 0, 0, 0⟩], K⟩ w) := by
  obtain ⟨i0, hi, hz0, hz1, hz2⟩ := info_of infoD
  have hfew : F.length ≤ p := h.fine.few
  have hopn : K.length ≤ p := h.fine.opn
  have c0 := h.c0
  have c1 : w.cell? ⟨b, 1, none⟩ = some (.int .i64 (p : Int)) := h.c1
  have f1 := h.fr 1
  have hbl := h.lt
  have HS : Hid (SnAt base b s vf vo ⟨p, F, K⟩ w) := h
  have HFi : Hid ((⟨q, F ++ [⟨p, q, 0, 0, 0, 0⟩], K⟩ : Sn).Fine (bl s)) := hfine
  have hex : s.extract (p + 1) q = ⟨#[36]⟩ := by rw [hq]; rw [ext_one s (p + 1) hl, hx]
  have hmin : min ((p : Int) + 2) (s.size : Int) = (q : Int) := by rw [hq]; omega
  have hq1 : (p : Int) + 1 ≤ (q : Int) := by omega
  have hq2 : (q : Int) ≤ (s.size : Int) := by omega
  have HQ : Hid (q = p + 2) := hq
  obtain ⟨w1, hw1, hbd1, hB1⟩ : ∃ w1, w1 = (w.setCell ⟨b, 1, none⟩ (.int .i64 (q : Int))).alloc (.cells #[.int .i64 (p : Int), .int .i64 (q : Int), .int .i64 0, .int .i64 0, .int .i64 0, .int .i64 0] 142) ∧ w.heap.size < w1.heap.size ∧ Fr (fun j => j = b) w w1 := ⟨_, rfl, by simp, (Fr.set (D := fun j => j = b) b 1 w _ rfl).trans (Fr.alloc _ _)⟩
  have hblk1 : w1.heap[b]? = some (.cells #[.string s, .int .i64 (q : Int), vf, vo] 121 (0, 0)) := by
    rw [hw1, Below.heap_alloc _ _ _ (by simpa using hbl)]; exact heap_set h.blk _
  have hbox1 : w1.heap[w.heap.size]? = some (.cells #[.int .i64 (p : Int), .int .i64 (q : Int), .int .i64 0, .int .i64 0, .int .i64 0, .int .i64 0] 142 (0, 0)) := by
    rw [hw1]; have := heap_alloc_new (w.setCell ⟨b, 1, none⟩ (.int .i64 (q : Int))) (.cells #[.int .i64 (p : Int), .int .i64 (q : Int), .int .i64 0, .int .i64 0, .int .i64 0, .int .i64 0] 142); rwa [size_set] at this
  have H1 : Hid (Fr (fun j => j = b) w w1 ∧ w1.heap[b]? = some (.cells #[.string s, .int .i64 (q : Int), vf, vo] 121 (0, 0)) ∧ w1.heap[w.heap.size]? = some (.cells #[.int .i64 (p : Int), .int .i64 (q : Int), .int .i64 0, .int .i64 0, .int .i64 0, .int .i64 0] 142 (0, 0))) := ⟨hB1, hblk1, hbox1⟩
  clear h hfine hq hB1 hx
  go_enter Tryd.func78, Tryd.ntmps78
  go_wp2_with fail
  rw [← hw1]
  clear hw1 c0 c1 f1
  have d0 : w1.cell? ⟨b, 0, none⟩ = some (.string s) := V.cell_in H1.out.2.1 0 rfl
  have d1 : w1.cell? ⟨b, 1, none⟩ = some (.int .i64 (q : Int)) := V.cell_in H1.out.2.1 1 rfl
  clear hblk1 hbox1
  go_quiet (fail)
  go_wp2_with fail
  try rw [hex]
  go_wp2_with fail
  have HP : Hid (Pre base b w.heap.size s q vf vo F K ⟨p, q, 0, 0, 0, 0⟩ w (w1.drewN nq)) := by
    have hrd := HS.out
    have hfr : Fr (fun j => j = b) w (w1.drewN nq) := H1.out.1.trans (Fr.drewN _ _)
    exact ⟨H1.out.2.1, H1.out.2.2, row_fr hrd.rf hfr (fun g hg e => hrd.nf (by rw [hg, e])), row_fr hrd.ro hfr (fun g hg e => hrd.no (by rw [hg, e])), hrd.hb, fun e => Nat.lt_irrefl _ (hrd.rf.lt _ e).2, hfr.below (by have := hrd.hb; have := hrd.lt; omega) (fun j e => by rw [e]; exact hrd.hb)⟩
  obtain ⟨w5, hw5⟩ : ∃ w5, w5 = w1.drewN nq := ⟨_, rfl⟩
  rw [← hw5] at HP ⊢
  clear hw5 d0 d1

  have e2 : w5.cell? ⟨b, 2, none⟩ = some vf := V.cell_in HP.out.blk 2 rfl
  have g2 : w5.frozen? ⟨b, 2, none⟩ = false := by simp [World.frozen?, HP.out.blk]
  have y0 := V.cell_in HP.out.box 0 rfl
  have y1 := V.cell_in HP.out.box 1 rfl
  have y2 := V.cell_in HP.out.box 2 rfl
  have y3 := V.cell_in HP.out.box 3 rfl
  have y4 := V.cell_in HP.out.box 4 rfl
  have y5 := V.cell_in HP.out.box 5 rfl
  have hb5 : b < w5.heap.size := (Array.getElem?_eq_some_iff.1 HP.out.blk).1
  have hd5 : w.heap.size < w5.heap.size := (Array.getElem?_eq_some_iff.1 HP.out.box).1
  have hbs : base ≤ w5.heap.size := by have := HP.out.hb; omega
  have hrf := HP.out.rf
  obtain ⟨n, hn⟩ : ∃ n, n = F.length := ⟨_, rfl⟩
  have HN : Hid (n = F.length) := hn
  rw [← hn] at hrf hfew
  obtain ⟨av, cv, hvf⟩ := V.owns_slice hrf
  obtain ⟨xs, hxs⟩ : ∃ xs, xs = dlsV F := ⟨_, rfl⟩
  have HX : Hid (xs = dlsV F) := hxs
  rw [← hxs] at hrf
  subst hvf
  clear hxs hn
  have HG : Hid (∀ (w2 : World) (o2 : Obj), (w5.drew.alloc o2).grownBy w2 (Value.slice av n cv).ownBlock → w2.cell? ⟨b, 2, none⟩ = some (.slice av n cv) ∧ w2.frozen? ⟨b, 2, none⟩ = false ∧ Fr (fun j => (Value.slice av n cv).ownBlock = some j) w5 w2) := by
    intro w2 o2 hgr
    have hf : Fr (fun j => (Value.slice av n cv).ownBlock = some j) w5 w2 := ((Fr.drew _).trans (Fr.alloc _ o2)).trans (Fr.grown hgr (fun g hg => hg))
    have hb2 := (hf.block b hb5 (row_ne' HP.out.rf HP.out.blk (by decide))).trans HP.out.blk
    exact ⟨V.cell_in hb2 2 rfl, by simp [World.frozen?, hb2], hf⟩
  unfold dlC at y0 y1 y2 y3 y4 y5
  go_region_law (first | (refine step_append_own _ (by rfl) (.tmp 61) (.tmp 63) 118 (by rfl) base 142 i0 (.agg #[.int .i64 0, .int .i64 0, .int .i64 0, .int .i64 0, .int .i64 0, .int .i64 0]) 6 48 Tryd.underlying118 hi hz0 hz1 hz2 rfl (by decide) (.slice av n cv) n xs (by rfl) (hrf.kept (row := none) ⟨rfl, rfl, rfl, by simp, fun k hk _ => Below.heap_alloc _ _ _ hk⟩ (Classical.em _)) ⟨w5.heap.size, 0, none⟩ 1 1 [.int .i64 (p : Int), .int .i64 (q : Int), .int .i64 0, .int .i64 0, .int .i64 0, .int .i64 0] (by rfl) rfl (by intro j u hj; match j, hj with | 0, hj => simp at hj; subst hj; simp [Addr.add] | 1, hj => simp at hj; subst hj; simp [Addr.add] | 2, hj => simp at hj; subst hj; simp [Addr.add] | 3, hj => simp at hj; subst hj; simp [Addr.add] | 4, hj => simp at hj; subst hj; simp [Addr.add] | 5, hj => simp at hj; subst hj; simp [Addr.add]) (by intro u hu; simp only [List.mem_cons, List.not_mem_nil, or_false] at hu; rcases hu with rfl | rfl | rfl | rfl | rfl | rfl <;> rfl) (by unfold maxLen; omega) (by omega) (by simp; omega) ?_; intro v' w2 hown hgr; obtain ⟨a2, c2, hv2⟩ := V.owns_slice hown; subst hv2; obtain ⟨k3, g4, hfr⟩ := HG.out w2 _ hgr))
  all_goals
    go_wp2
    go_end0
    have hq := HQ.out
    rw [HX.out, HN.out] at hown
    rw [HN.out] at hfr
    exact ⟨rfl, .slice a2 (n + 1) c2, _, HP.out.done (by rw [← HN.out] at hfr; exact hfr) (by rw [← HN.out] at hown ⊢; exact hown) HFi.out⟩

set_option maxRecDepth 20000 in
set_option maxHeartbeats 2000000 in
theorem bg_end {base b : Nat} {s : ByteArray} {vf vo : Value} {F : List Dl} {K : List Br} {p : Nat} (w : World) (h : SnAt base b s vf vo ⟨p, F, K⟩ w) (hs : s.size ≤ 1000000) (hl : p + 1 = s.size) (q : Nat) (hq : q = p + 1) (hfine : (⟨q, F ++ [⟨p, q, 0, 0, 0, 0⟩], K⟩ : Sn).Fine (bl s)) :
    Calls Tryd.prog 78 #[.pointer (some ⟨b, 0, none⟩)] w (StepPost base b s ⟨q, F ++ [⟨p, q, 0, 0, 0, 0⟩], K⟩ w) := by
  obtain ⟨i0, hi, hz0, hz1, hz2⟩ := info_of infoD
  have hfew : F.length ≤ p := h.fine.few
  have hopn : K.length ≤ p := h.fine.opn
  have c0 := h.c0
  have c1 : w.cell? ⟨b, 1, none⟩ = some (.int .i64 (p : Int)) := h.c1
  have f1 := h.fr 1
  have hbl := h.lt
  have HS : Hid (SnAt base b s vf vo ⟨p, F, K⟩ w) := h
  have HFi : Hid ((⟨q, F ++ [⟨p, q, 0, 0, 0, 0⟩], K⟩ : Sn).Fine (bl s)) := hfine
  have hex : s.extract (p + 1) q = ⟨#[]⟩ := ext_none s _ (by omega) _
  have hmin : min ((p : Int) + 2) (s.size : Int) = (q : Int) := by rw [hq]; omega
  have hq1 : (p : Int) + 1 ≤ (q : Int) := by omega
  have hq2 : (q : Int) ≤ (s.size : Int) := by omega
  have HQ : Hid (q = p + 1) := hq
  obtain ⟨w1, hw1, hbd1, hB1⟩ : ∃ w1, w1 = (w.setCell ⟨b, 1, none⟩ (.int .i64 (q : Int))).alloc (.cells #[.int .i64 (p : Int), .int .i64 (q : Int), .int .i64 0, .int .i64 0, .int .i64 0, .int .i64 0] 142) ∧ w.heap.size < w1.heap.size ∧ Fr (fun j => j = b) w w1 := ⟨_, rfl, by simp, (Fr.set (D := fun j => j = b) b 1 w _ rfl).trans (Fr.alloc _ _)⟩
  have hblk1 : w1.heap[b]? = some (.cells #[.string s, .int .i64 (q : Int), vf, vo] 121 (0, 0)) := by
    rw [hw1, Below.heap_alloc _ _ _ (by simpa using hbl)]; exact heap_set h.blk _
  have hbox1 : w1.heap[w.heap.size]? = some (.cells #[.int .i64 (p : Int), .int .i64 (q : Int), .int .i64 0, .int .i64 0, .int .i64 0, .int .i64 0] 142 (0, 0)) := by
    rw [hw1]; have := heap_alloc_new (w.setCell ⟨b, 1, none⟩ (.int .i64 (q : Int))) (.cells #[.int .i64 (p : Int), .int .i64 (q : Int), .int .i64 0, .int .i64 0, .int .i64 0, .int .i64 0] 142); rwa [size_set] at this
  have H1 : Hid (Fr (fun j => j = b) w w1 ∧ w1.heap[b]? = some (.cells #[.string s, .int .i64 (q : Int), vf, vo] 121 (0, 0)) ∧ w1.heap[w.heap.size]? = some (.cells #[.int .i64 (p : Int), .int .i64 (q : Int), .int .i64 0, .int .i64 0, .int .i64 0, .int .i64 0] 142 (0, 0))) := ⟨hB1, hblk1, hbox1⟩
  clear h hfine hq hB1 hl
  go_enter Tryd.func78, Tryd.ntmps78
  go_wp2_with fail
  rw [← hw1]
  clear hw1 c0 c1 f1
  have d0 : w1.cell? ⟨b, 0, none⟩ = some (.string s) := V.cell_in H1.out.2.1 0 rfl
  have d1 : w1.cell? ⟨b, 1, none⟩ = some (.int .i64 (q : Int)) := V.cell_in H1.out.2.1 1 rfl
  clear hblk1 hbox1
  go_quiet (fail)
  go_wp2_with fail
  try rw [hex]
  go_wp2_with fail
  have HP : Hid (Pre base b w.heap.size s q vf vo F K ⟨p, q, 0, 0, 0, 0⟩ w (w1.drewN nq)) := by
    have hrd := HS.out
    have hfr : Fr (fun j => j = b) w (w1.drewN nq) := H1.out.1.trans (Fr.drewN _ _)
    exact ⟨H1.out.2.1, H1.out.2.2, row_fr hrd.rf hfr (fun g hg e => hrd.nf (by rw [hg, e])), row_fr hrd.ro hfr (fun g hg e => hrd.no (by rw [hg, e])), hrd.hb, fun e => Nat.lt_irrefl _ (hrd.rf.lt _ e).2, hfr.below (by have := hrd.hb; have := hrd.lt; omega) (fun j e => by rw [e]; exact hrd.hb)⟩
  obtain ⟨w5, hw5⟩ : ∃ w5, w5 = w1.drewN nq := ⟨_, rfl⟩
  rw [← hw5] at HP ⊢
  clear hw5 d0 d1

  have e2 : w5.cell? ⟨b, 2, none⟩ = some vf := V.cell_in HP.out.blk 2 rfl
  have g2 : w5.frozen? ⟨b, 2, none⟩ = false := by simp [World.frozen?, HP.out.blk]
  have y0 := V.cell_in HP.out.box 0 rfl
  have y1 := V.cell_in HP.out.box 1 rfl
  have y2 := V.cell_in HP.out.box 2 rfl
  have y3 := V.cell_in HP.out.box 3 rfl
  have y4 := V.cell_in HP.out.box 4 rfl
  have y5 := V.cell_in HP.out.box 5 rfl
  have hb5 : b < w5.heap.size := (Array.getElem?_eq_some_iff.1 HP.out.blk).1
  have hd5 : w.heap.size < w5.heap.size := (Array.getElem?_eq_some_iff.1 HP.out.box).1
  have hbs : base ≤ w5.heap.size := by have := HP.out.hb; omega
  have hrf := HP.out.rf
  obtain ⟨n, hn⟩ : ∃ n, n = F.length := ⟨_, rfl⟩
  have HN : Hid (n = F.length) := hn
  rw [← hn] at hrf hfew
  obtain ⟨av, cv, hvf⟩ := V.owns_slice hrf
  obtain ⟨xs, hxs⟩ : ∃ xs, xs = dlsV F := ⟨_, rfl⟩
  have HX : Hid (xs = dlsV F) := hxs
  rw [← hxs] at hrf
  subst hvf
  clear hxs hn
  have HG : Hid (∀ (w2 : World) (o2 : Obj), (w5.drew.alloc o2).grownBy w2 (Value.slice av n cv).ownBlock → w2.cell? ⟨b, 2, none⟩ = some (.slice av n cv) ∧ w2.frozen? ⟨b, 2, none⟩ = false ∧ Fr (fun j => (Value.slice av n cv).ownBlock = some j) w5 w2) := by
    intro w2 o2 hgr
    have hf : Fr (fun j => (Value.slice av n cv).ownBlock = some j) w5 w2 := ((Fr.drew _).trans (Fr.alloc _ o2)).trans (Fr.grown hgr (fun g hg => hg))
    have hb2 := (hf.block b hb5 (row_ne' HP.out.rf HP.out.blk (by decide))).trans HP.out.blk
    exact ⟨V.cell_in hb2 2 rfl, by simp [World.frozen?, hb2], hf⟩
  unfold dlC at y0 y1 y2 y3 y4 y5
  go_region_law (first | (refine step_append_own _ (by rfl) (.tmp 61) (.tmp 63) 118 (by rfl) base 142 i0 (.agg #[.int .i64 0, .int .i64 0, .int .i64 0, .int .i64 0, .int .i64 0, .int .i64 0]) 6 48 Tryd.underlying118 hi hz0 hz1 hz2 rfl (by decide) (.slice av n cv) n xs (by rfl) (hrf.kept (row := none) ⟨rfl, rfl, rfl, by simp, fun k hk _ => Below.heap_alloc _ _ _ hk⟩ (Classical.em _)) ⟨w5.heap.size, 0, none⟩ 1 1 [.int .i64 (p : Int), .int .i64 (q : Int), .int .i64 0, .int .i64 0, .int .i64 0, .int .i64 0] (by rfl) rfl (by intro j u hj; match j, hj with | 0, hj => simp at hj; subst hj; simp [Addr.add] | 1, hj => simp at hj; subst hj; simp [Addr.add] | 2, hj => simp at hj; subst hj; simp [Addr.add] | 3, hj => simp at hj; subst hj; simp [Addr.add] | 4, hj => simp at hj; subst hj; simp [Addr.add] | 5, hj => simp at hj; subst hj; simp [Addr.add]) (by intro u hu; simp only [List.mem_cons, List.not_mem_nil, or_false] at hu; rcases hu with rfl | rfl | rfl | rfl | rfl | rfl <;> rfl) (by unfold maxLen; omega) (by omega) (by simp; omega) ?_; intro v' w2 hown hgr; obtain ⟨a2, c2, hv2⟩ := V.owns_slice hown; subst hv2; obtain ⟨k3, g4, hfr⟩ := HG.out w2 _ hgr))
  all_goals
    go_wp2
    go_end0
    have hq := HQ.out
    rw [HX.out, HN.out] at hown
    rw [HN.out] at hfr
    exact ⟨rfl, .slice a2 (n + 1) c2, _, HP.out.done (by rw [← HN.out] at hfr; exact hfr) (by rw [← HN.out] at hown ⊢; exact hown) HFi.out⟩

set_option maxRecDepth 20000 in
set_option maxHeartbeats 2000000 in
theorem bg_one {base b : Nat} {s : ByteArray} {vf vo : Value} {F : List Dl} {K : List Br} {p : Nat} (w : World) (h : SnAt base b s vf vo ⟨p, F, K⟩ w) (hs : s.size ≤ 1000000) (hl : p + 1 < s.size) (hx : s[p + 1] ≠ 36 ∧ s[p + 1] ≠ 123 ∧ s[p + 1] ≠ 40) (q : Nat) (hq : q = p + 2) (hfine : (⟨q, F ++ [⟨p, q, p + 1, q, 0, 0⟩], K⟩ : Sn).Fine (bl s)) :
    Calls Tryd.prog 78 #[.pointer (some ⟨b, 0, none⟩)] w (StepPost base b s ⟨q, F ++ [⟨p, q, p + 1, q, 0, 0⟩], K⟩ w) := by
  obtain ⟨i0, hi, hz0, hz1, hz2⟩ := info_of infoD
  have hfew : F.length ≤ p := h.fine.few
  have hopn : K.length ≤ p := h.fine.opn
  have c0 := h.c0
  have c1 : w.cell? ⟨b, 1, none⟩ = some (.int .i64 (p : Int)) := h.c1
  have f1 := h.fr 1
  have hbl := h.lt
  have HS : Hid (SnAt base b s vf vo ⟨p, F, K⟩ w) := h
  have HFi : Hid ((⟨q, F ++ [⟨p, q, p + 1, q, 0, 0⟩], K⟩ : Sn).Fine (bl s)) := hfine
  obtain ⟨u, hu⟩ : ∃ u, u = s.extract (p + 1) q := ⟨_, rfl⟩
  have hex : s.extract (p + 1) q = u := hu.symm
  have hul : u.toList = [s[p + 1]] := by rw [hu, hq, ext_one s (p + 1) hl, Lib.toList_data]
  have u0 : ¬ u.toList = [] := by rw [hul]; simp
  have u0b : u.toList.isEmpty = false := by rw [hul]; rfl
  have u1 : ¬ u.toList = [36] := by rw [hul]; simpa using hx.1
  have u1b : (u.toList == [36]) = false := by rw [beq_eq_false_iff_ne]; exact u1
  have u2 : ¬ u.toList = [123] := by rw [hul]; simpa using hx.2.1
  have u2b : (u.toList == [123]) = false := by rw [beq_eq_false_iff_ne]; exact u2
  have u3 : ¬ u.toList = [40] := by rw [hul]; simpa using hx.2.2
  have u3b : (u.toList == [40]) = false := by rw [beq_eq_false_iff_ne]; exact u3
  clear hu hul
  have hmin : min ((p : Int) + 2) (s.size : Int) = (q : Int) := by rw [hq]; omega
  have hq1 : (p : Int) + 1 ≤ (q : Int) := by omega
  have hq2 : (q : Int) ≤ (s.size : Int) := by omega
  have HQ : Hid (q = p + 2) := hq
  obtain ⟨w1, hw1, hbd1, hB1⟩ : ∃ w1, w1 = (w.setCell ⟨b, 1, none⟩ (.int .i64 (q : Int))).alloc (.cells #[.int .i64 (p : Int), .int .i64 (q : Int), .int .i64 0, .int .i64 0, .int .i64 0, .int .i64 0] 142) ∧ w.heap.size < w1.heap.size ∧ Fr (fun j => j = b) w w1 := ⟨_, rfl, by simp, (Fr.set (D := fun j => j = b) b 1 w _ rfl).trans (Fr.alloc _ _)⟩
  have hblk1 : w1.heap[b]? = some (.cells #[.string s, .int .i64 (q : Int), vf, vo] 121 (0, 0)) := by
    rw [hw1, Below.heap_alloc _ _ _ (by simpa using hbl)]; exact heap_set h.blk _
  have hbox1 : w1.heap[w.heap.size]? = some (.cells #[.int .i64 (p : Int), .int .i64 (q : Int), .int .i64 0, .int .i64 0, .int .i64 0, .int .i64 0] 142 (0, 0)) := by
    rw [hw1]; have := heap_alloc_new (w.setCell ⟨b, 1, none⟩ (.int .i64 (q : Int))) (.cells #[.int .i64 (p : Int), .int .i64 (q : Int), .int .i64 0, .int .i64 0, .int .i64 0, .int .i64 0] 142); rwa [size_set] at this
  have H1 : Hid (Fr (fun j => j = b) w w1 ∧ w1.heap[b]? = some (.cells #[.string s, .int .i64 (q : Int), vf, vo] 121 (0, 0)) ∧ w1.heap[w.heap.size]? = some (.cells #[.int .i64 (p : Int), .int .i64 (q : Int), .int .i64 0, .int .i64 0, .int .i64 0, .int .i64 0] 142 (0, 0))) := ⟨hB1, hblk1, hbox1⟩
  clear h hfine hq hB1 hx
  go_enter Tryd.func78, Tryd.ntmps78
  go_wp2_with fail
  rw [← hw1]
  clear hw1 c0 c1 f1
  have d0 : w1.cell? ⟨b, 0, none⟩ = some (.string s) := V.cell_in H1.out.2.1 0 rfl
  have d1 : w1.cell? ⟨b, 1, none⟩ = some (.int .i64 (q : Int)) := V.cell_in H1.out.2.1 1 rfl
  clear hblk1 hbox1
  go_quiet (fail)
  have z0 := V.cell_in H1.out.2.2 0 rfl
  have z1 := V.cell_in H1.out.2.2 1 rfl
  have z2 := V.cell_in H1.out.2.2 2 rfl
  have z3 := V.cell_in H1.out.2.2 3 rfl
  have zf : ∀ i, w1.frozen? ⟨w.heap.size, i, none⟩ = false := fun i => by simp [World.frozen?, H1.out.2.2]
  have zf2 := zf 2
  have zf3 := zf 3
  clear zf
  go_wp2_with fail
  try rw [hex]
  go_wp2_with fail
  obtain ⟨w5, hw5⟩ : ∃ w5, w5 = (((w1.drewN nq).setCell ⟨w.heap.size, 2, none⟩ (.int .i64 (p : Int))).setCell ⟨w.heap.size, 3, none⟩ (.int .i64 (q : Int))).setCell ⟨w.heap.size, 2, none⟩ (.int .i64 ((p : Int) + 1)) := ⟨_, rfl⟩
  have HP : Hid (Pre base b w.heap.size s q vf vo F K ⟨p, q, p + 1, q, 0, 0⟩ w w5) := by
    have hrd := HS.out
    have hne : b ≠ w.heap.size := by have := hrd.lt; omega
    have hfr : Fr (fun j => j = b ∨ j = w.heap.size) w w5 := by
      rw [hw5]
      exact ((((H1.out.1.mono (fun j _ e => .inl e)).trans (Fr.drewN _ _)).trans (Fr.set _ _ _ _ (.inr rfl))).trans (Fr.set _ _ _ _ (.inr rfl))).trans (Fr.set _ _ _ _ (.inr rfl))
    refine ⟨?_, ?_, row_fr hrd.rf hfr (fun g hg e => ?_), row_fr hrd.ro hfr (fun g hg e => ?_), hrd.hb, fun e => Nat.lt_irrefl _ (hrd.rf.lt _ e).2, hfr.below (by have := hrd.hb; have := hrd.lt; omega) (fun j e => ?_)⟩
    · rw [hw5, Below.heap_setCell _ _ _ _ hne, Below.heap_setCell _ _ _ _ hne, Below.heap_setCell _ _ _ _ hne]; exact H1.out.2.1
    · rw [hw5]
      have h9 := heap_set (heap_set (heap_set (i := 2) (show (w1.drewN nq).heap[w.heap.size]? = _ from H1.out.2.2) (.int .i64 (p : Int))) (i := 3) (.int .i64 (q : Int))) (i := 2) (.int .i64 ((p : Int) + 1))
      exact h9
    · rcases e with e | e
      · exact hrd.nf (by rw [hg, e])
      · have := (hrd.rf.lt g hg).2; omega
    · rcases e with e | e
      · exact hrd.no (by rw [hg, e])
      · have := (hrd.ro.lt g hg).2; omega
    · rcases e with e | e
      · rw [e]; exact hrd.hb
      · have := hrd.hb; have := hrd.lt; omega
  rw [← hw5]
  clear hw5 d0 d1 z0 z1 z2 z3 zf2 zf3 hex u0 u0b u1 u1b u2 u2b u3 u3b

  have e2 : w5.cell? ⟨b, 2, none⟩ = some vf := V.cell_in HP.out.blk 2 rfl
  have g2 : w5.frozen? ⟨b, 2, none⟩ = false := by simp [World.frozen?, HP.out.blk]
  have y0 := V.cell_in HP.out.box 0 rfl
  have y1 := V.cell_in HP.out.box 1 rfl
  have y2 := V.cell_in HP.out.box 2 rfl
  have y3 := V.cell_in HP.out.box 3 rfl
  have y4 := V.cell_in HP.out.box 4 rfl
  have y5 := V.cell_in HP.out.box 5 rfl
  have hb5 : b < w5.heap.size := (Array.getElem?_eq_some_iff.1 HP.out.blk).1
  have hd5 : w.heap.size < w5.heap.size := (Array.getElem?_eq_some_iff.1 HP.out.box).1
  have hbs : base ≤ w5.heap.size := by have := HP.out.hb; omega
  have hrf := HP.out.rf
  obtain ⟨n, hn⟩ : ∃ n, n = F.length := ⟨_, rfl⟩
  have HN : Hid (n = F.length) := hn
  rw [← hn] at hrf hfew
  obtain ⟨av, cv, hvf⟩ := V.owns_slice hrf
  obtain ⟨xs, hxs⟩ : ∃ xs, xs = dlsV F := ⟨_, rfl⟩
  have HX : Hid (xs = dlsV F) := hxs
  rw [← hxs] at hrf
  subst hvf
  clear hxs hn
  have HG : Hid (∀ (w2 : World) (o2 : Obj), (w5.drew.alloc o2).grownBy w2 (Value.slice av n cv).ownBlock → w2.cell? ⟨b, 2, none⟩ = some (.slice av n cv) ∧ w2.frozen? ⟨b, 2, none⟩ = false ∧ Fr (fun j => (Value.slice av n cv).ownBlock = some j) w5 w2) := by
    intro w2 o2 hgr
    have hf : Fr (fun j => (Value.slice av n cv).ownBlock = some j) w5 w2 := ((Fr.drew _).trans (Fr.alloc _ o2)).trans (Fr.grown hgr (fun g hg => hg))
    have hb2 := (hf.block b hb5 (row_ne' HP.out.rf HP.out.blk (by decide))).trans HP.out.blk
    exact ⟨V.cell_in hb2 2 rfl, by simp [World.frozen?, hb2], hf⟩
  unfold dlC at y0 y1 y2 y3 y4 y5
  go_region_law (first | (refine step_append_own _ (by rfl) (.tmp 61) (.tmp 63) 118 (by rfl) base 142 i0 (.agg #[.int .i64 0, .int .i64 0, .int .i64 0, .int .i64 0, .int .i64 0, .int .i64 0]) 6 48 Tryd.underlying118 hi hz0 hz1 hz2 rfl (by decide) (.slice av n cv) n xs (by rfl) (hrf.kept (row := none) ⟨rfl, rfl, rfl, by simp, fun k hk _ => Below.heap_alloc _ _ _ hk⟩ (Classical.em _)) ⟨w5.heap.size, 0, none⟩ 1 1 [.int .i64 (p : Int), .int .i64 (q : Int), .int .i64 ((p : Int) + 1), .int .i64 (q : Int), .int .i64 0, .int .i64 0] (by rfl) rfl (by intro j u hj; match j, hj with | 0, hj => simp at hj; subst hj; simp [Addr.add] | 1, hj => simp at hj; subst hj; simp [Addr.add] | 2, hj => simp at hj; subst hj; simp [Addr.add] | 3, hj => simp at hj; subst hj; simp [Addr.add] | 4, hj => simp at hj; subst hj; simp [Addr.add] | 5, hj => simp at hj; subst hj; simp [Addr.add]) (by intro u hu; simp only [List.mem_cons, List.not_mem_nil, or_false] at hu; rcases hu with rfl | rfl | rfl | rfl | rfl | rfl <;> rfl) (by unfold maxLen; omega) (by omega) (by simp; omega) ?_; intro v' w2 hown hgr; obtain ⟨a2, c2, hv2⟩ := V.owns_slice hown; subst hv2; obtain ⟨k3, g4, hfr⟩ := HG.out w2 _ hgr))
  all_goals
    go_wp2
    go_end0
    have hq := HQ.out
    rw [HX.out, HN.out] at hown
    rw [HN.out] at hfr
    exact ⟨rfl, .slice a2 (n + 1) c2, _, HP.out.done (by rw [← HN.out] at hfr; exact hfr) (by rw [← HN.out] at hown ⊢; exact hown) HFi.out⟩

def six (a b c d e f : Value) : Fin 6 → Value := fun i => match i with | 0 => a | 1 => b | 2 => c | 3 => d | 4 => e | 5 => f

set_option maxRecDepth 20000 in
set_option maxHeartbeats 2000000 in
theorem bg_brace {base b : Nat} {s : ByteArray} {vf vo : Value} {F : List Dl} {K : List Br} {p : Nat} (w : World) (h : SnAt base b s vf vo ⟨p, F, K⟩ w) (hs : s.size ≤ 1000000) (hl : p + 1 < s.size) (hx : s[p + 1] = 123) (q : Nat) (hq : q = p + 2) (hfine : (⟨q, F ++ [⟨p, 0, q, 0, 0, 0⟩], K ++ [⟨F.length, 123, 125, 0⟩]⟩ : Sn).Fine (bl s)) :
    Calls Tryd.prog 78 #[.pointer (some ⟨b, 0, none⟩)] w (StepPost base b s ⟨q, F ++ [⟨p, 0, q, 0, 0, 0⟩], K ++ [⟨F.length, 123, 125, 0⟩]⟩ w) := by
  obtain ⟨i0, hi, hz0, hz1, hz2⟩ := info_of infoD
  have hfew : F.length ≤ p := h.fine.few
  have hopn : K.length ≤ p := h.fine.opn
  have c0 := h.c0
  have c1 : w.cell? ⟨b, 1, none⟩ = some (.int .i64 (p : Int)) := h.c1
  have f1 := h.fr 1
  have hbl := h.lt
  have HS : Hid (SnAt base b s vf vo ⟨p, F, K⟩ w) := h
  have HFi : Hid ((⟨q, F ++ [⟨p, 0, q, 0, 0, 0⟩], K ++ [⟨F.length, 123, 125, 0⟩]⟩ : Sn).Fine (bl s)) := hfine
  have hex : s.extract (p + 1) q = ⟨#[123]⟩ := by rw [hq]; rw [ext_one s (p + 1) hl, hx]
  have hmin : min ((p : Int) + 2) (s.size : Int) = (q : Int) := by rw [hq]; omega
  have hq1 : (p : Int) + 1 ≤ (q : Int) := by omega
  have hq2 : (q : Int) ≤ (s.size : Int) := by omega
  have HQ : Hid (q = p + 2) := hq
  obtain ⟨w1, hw1, hbd1, hB1⟩ : ∃ w1, w1 = (w.setCell ⟨b, 1, none⟩ (.int .i64 (q : Int))).alloc (.cells #[.int .i64 (p : Int), .int .i64 (q : Int), .int .i64 0, .int .i64 0, .int .i64 0, .int .i64 0] 142) ∧ w.heap.size < w1.heap.size ∧ Fr (fun j => j = b) w w1 := ⟨_, rfl, by simp, (Fr.set (D := fun j => j = b) b 1 w _ rfl).trans (Fr.alloc _ _)⟩
  have hblk1 : w1.heap[b]? = some (.cells #[.string s, .int .i64 (q : Int), vf, vo] 121 (0, 0)) := by
    rw [hw1, Below.heap_alloc _ _ _ (by simpa using hbl)]; exact heap_set h.blk _
  have hbox1 : w1.heap[w.heap.size]? = some (.cells #[.int .i64 (p : Int), .int .i64 (q : Int), .int .i64 0, .int .i64 0, .int .i64 0, .int .i64 0] 142 (0, 0)) := by
    rw [hw1]; have := heap_alloc_new (w.setCell ⟨b, 1, none⟩ (.int .i64 (q : Int))) (.cells #[.int .i64 (p : Int), .int .i64 (q : Int), .int .i64 0, .int .i64 0, .int .i64 0, .int .i64 0] 142); rwa [size_set] at this
  have H1 : Hid (Fr (fun j => j = b) w w1 ∧ w1.heap[b]? = some (.cells #[.string s, .int .i64 (q : Int), vf, vo] 121 (0, 0)) ∧ w1.heap[w.heap.size]? = some (.cells #[.int .i64 (p : Int), .int .i64 (q : Int), .int .i64 0, .int .i64 0, .int .i64 0, .int .i64 0] 142 (0, 0))) := ⟨hB1, hblk1, hbox1⟩
  clear h hfine hq hB1 hx
  go_enter Tryd.func78, Tryd.ntmps78
  go_wp2_with fail
  rw [← hw1]
  clear hw1 c0 c1 f1
  have d0 : w1.cell? ⟨b, 0, none⟩ = some (.string s) := V.cell_in H1.out.2.1 0 rfl
  have d1 : w1.cell? ⟨b, 1, none⟩ = some (.int .i64 (q : Int)) := V.cell_in H1.out.2.1 1 rfl
  clear hblk1 hbox1
  go_quiet (fail)
  have HHo : Hid (Calls Tryd.prog 89 #[.pointer (some ⟨b, 0, none⟩), .int .u8 123, .int .u8 125, .pointer (some ⟨w.heap.size, 0, none⟩)] (w1.drewN nq) fun e w' => e = .returned (.tuple #[]) ∧ ∃ vo', Pre base b w.heap.size s q vf vo' F (K ++ [⟨F.length, 123, 125, 0⟩]) ⟨p, 0, q, 0, 0, 0⟩ w w') := by
    have hrd := HS.out
    have hfr : Fr (fun j => j = b) w (w1.drewN nq) := H1.out.1.trans (Fr.drewN _ _)
    have hbw : base ≤ w.heap.size := by have := hrd.hb; have := hrd.lt; omega
    have hrf := row_fr hrd.rf hfr (fun g hg e => hrd.nf (by rw [hg, e]))
    have hro := row_fr hrd.ro hfr (fun g hg e => hrd.no (by rw [hg, e]))
    refine (hold_any base b w.heap.size s q vf vo F.length K.length (brsV K) (six (.int .i64 (p : Int)) (.int .i64 (q : Int)) (.int .i64 0) (.int .i64 0) (.int .i64 0) (.int .i64 0)) 123 125 (w1.drewN nq) ⟨H1.out.2.1, H1.out.2.2, hro, V.owns_slice hrd.rf, by have := hfr.size; omega⟩ (by have := HS.out.fine.opn; have := HS.out.fine.pos; rw [bl_length] at this; simp at *; omega)).mono ?_
    rintro e w' ⟨he, vo', k1, k2, k3, k4⟩
    have hnf : ∀ g, vf.ownBlock = some g → ¬ (g = b ∨ g = w.heap.size ∨ vo.ownBlock = some g) := fun g hg e => by
      rcases e with e | e | e
      · exact hrd.nf (by rw [hg, e])
      · have := (hrd.rf.lt g hg).2; omega
      · exact hrd.fo g hg e
    refine ⟨he, vo', k1, k2, row_fr hrf k4 hnf, ?_, hrd.hb, fun e => Nat.lt_irrefl _ (hrd.rf.lt _ e).2, ?_⟩
    · rw [List.length_append, List.length_singleton]; unfold brsV at k3 ⊢; rw [List.flatMap_append]; simpa [brC] using k3
    · refine (hfr.below hbw (fun j e => by rw [e]; exact hrd.hb)).trans ?_
      exact (k4.mono (D' := fun j => base ≤ j) (fun j _ e => by
        rcases e with e | e | e
        · rw [e]; exact hrd.hb
        · rw [e]; exact hbw
        · exact (hro.lt j e).1)).below (by have := hfr.size; omega) (fun _ e => e)
  clear d0 d1
  go_wp2_with fail
  try rw [hex]
  try go_wp2_with fail
  refine HHo.out.mono ?_
  rintro e w5 ⟨rfl, vo', hpre⟩
  have HP : Hid (Pre base b w.heap.size s q vf vo' F (K ++ [⟨F.length, 123, 125, 0⟩]) ⟨p, 0, q, 0, 0, 0⟩ w w5) := hpre
  clear hpre HHo hex
  go_wp2_with fail

  have e2 : w5.cell? ⟨b, 2, none⟩ = some vf := V.cell_in HP.out.blk 2 rfl
  have g2 : w5.frozen? ⟨b, 2, none⟩ = false := by simp [World.frozen?, HP.out.blk]
  have y0 := V.cell_in HP.out.box 0 rfl
  have y1 := V.cell_in HP.out.box 1 rfl
  have y2 := V.cell_in HP.out.box 2 rfl
  have y3 := V.cell_in HP.out.box 3 rfl
  have y4 := V.cell_in HP.out.box 4 rfl
  have y5 := V.cell_in HP.out.box 5 rfl
  have hb5 : b < w5.heap.size := (Array.getElem?_eq_some_iff.1 HP.out.blk).1
  have hd5 : w.heap.size < w5.heap.size := (Array.getElem?_eq_some_iff.1 HP.out.box).1
  have hbs : base ≤ w5.heap.size := by have := HP.out.hb; omega
  have hrf := HP.out.rf
  obtain ⟨n, hn⟩ : ∃ n, n = F.length := ⟨_, rfl⟩
  have HN : Hid (n = F.length) := hn
  rw [← hn] at hrf hfew
  obtain ⟨av, cv, hvf⟩ := V.owns_slice hrf
  obtain ⟨xs, hxs⟩ : ∃ xs, xs = dlsV F := ⟨_, rfl⟩
  have HX : Hid (xs = dlsV F) := hxs
  rw [← hxs] at hrf
  subst hvf
  clear hxs hn
  have HG : Hid (∀ (w2 : World) (o2 : Obj), (w5.drew.alloc o2).grownBy w2 (Value.slice av n cv).ownBlock → w2.cell? ⟨b, 2, none⟩ = some (.slice av n cv) ∧ w2.frozen? ⟨b, 2, none⟩ = false ∧ Fr (fun j => (Value.slice av n cv).ownBlock = some j) w5 w2) := by
    intro w2 o2 hgr
    have hf : Fr (fun j => (Value.slice av n cv).ownBlock = some j) w5 w2 := ((Fr.drew _).trans (Fr.alloc _ o2)).trans (Fr.grown hgr (fun g hg => hg))
    have hb2 := (hf.block b hb5 (row_ne' HP.out.rf HP.out.blk (by decide))).trans HP.out.blk
    exact ⟨V.cell_in hb2 2 rfl, by simp [World.frozen?, hb2], hf⟩
  unfold dlC at y0 y1 y2 y3 y4 y5
  go_region_law (first | (refine step_append_own _ (by rfl) (.tmp 61) (.tmp 63) 118 (by rfl) base 142 i0 (.agg #[.int .i64 0, .int .i64 0, .int .i64 0, .int .i64 0, .int .i64 0, .int .i64 0]) 6 48 Tryd.underlying118 hi hz0 hz1 hz2 rfl (by decide) (.slice av n cv) n xs (by rfl) (hrf.kept (row := none) ⟨rfl, rfl, rfl, by simp, fun k hk _ => Below.heap_alloc _ _ _ hk⟩ (Classical.em _)) ⟨w5.heap.size, 0, none⟩ 1 1 [.int .i64 (p : Int), .int .i64 0, .int .i64 (q : Int), .int .i64 0, .int .i64 0, .int .i64 0] (by rfl) rfl (by intro j u hj; match j, hj with | 0, hj => simp at hj; subst hj; simp [Addr.add] | 1, hj => simp at hj; subst hj; simp [Addr.add] | 2, hj => simp at hj; subst hj; simp [Addr.add] | 3, hj => simp at hj; subst hj; simp [Addr.add] | 4, hj => simp at hj; subst hj; simp [Addr.add] | 5, hj => simp at hj; subst hj; simp [Addr.add]) (by intro u hu; simp only [List.mem_cons, List.not_mem_nil, or_false] at hu; rcases hu with rfl | rfl | rfl | rfl | rfl | rfl <;> rfl) (by unfold maxLen; omega) (by omega) (by simp; omega) ?_; intro v' w2 hown hgr; obtain ⟨a2, c2, hv2⟩ := V.owns_slice hown; subst hv2; obtain ⟨k3, g4, hfr⟩ := HG.out w2 _ hgr))
  all_goals
    go_wp2
    go_end0
    have hq := HQ.out
    rw [HX.out, HN.out] at hown
    rw [HN.out] at hfr
    exact ⟨rfl, .slice a2 (n + 1) c2, _, HP.out.done (by rw [← HN.out] at hfr; exact hfr) (by rw [← HN.out] at hown ⊢; exact hown) HFi.out⟩

set_option maxRecDepth 20000 in
set_option maxHeartbeats 2000000 in
theorem bg_paren {base b : Nat} {s : ByteArray} {vf vo : Value} {F : List Dl} {K : List Br} {p : Nat} (w : World) (h : SnAt base b s vf vo ⟨p, F, K⟩ w) (hs : s.size ≤ 1000000) (hl : p + 1 < s.size) (hx : s[p + 1] = 40) (q : Nat) (hq : q = p + 2) (hfine : (⟨q, F ++ [⟨p, 0, q, 0, 0, 0⟩], K ++ [⟨F.length, 40, 41, 0⟩]⟩ : Sn).Fine (bl s)) :
    Calls Tryd.prog 78 #[.pointer (some ⟨b, 0, none⟩)] w (StepPost base b s ⟨q, F ++ [⟨p, 0, q, 0, 0, 0⟩], K ++ [⟨F.length, 40, 41, 0⟩]⟩ w) := by
  obtain ⟨i0, hi, hz0, hz1, hz2⟩ := info_of infoD
  have hfew : F.length ≤ p := h.fine.few
  have hopn : K.length ≤ p := h.fine.opn
  have c0 := h.c0
  have c1 : w.cell? ⟨b, 1, none⟩ = some (.int .i64 (p : Int)) := h.c1
  have f1 := h.fr 1
  have hbl := h.lt
  have HS : Hid (SnAt base b s vf vo ⟨p, F, K⟩ w) := h
  have HFi : Hid ((⟨q, F ++ [⟨p, 0, q, 0, 0, 0⟩], K ++ [⟨F.length, 40, 41, 0⟩]⟩ : Sn).Fine (bl s)) := hfine
  have hex : s.extract (p + 1) q = ⟨#[40]⟩ := by rw [hq]; rw [ext_one s (p + 1) hl, hx]
  have hmin : min ((p : Int) + 2) (s.size : Int) = (q : Int) := by rw [hq]; omega
  have hq1 : (p : Int) + 1 ≤ (q : Int) := by omega
  have hq2 : (q : Int) ≤ (s.size : Int) := by omega
  have HQ : Hid (q = p + 2) := hq
  obtain ⟨w1, hw1, hbd1, hB1⟩ : ∃ w1, w1 = (w.setCell ⟨b, 1, none⟩ (.int .i64 (q : Int))).alloc (.cells #[.int .i64 (p : Int), .int .i64 (q : Int), .int .i64 0, .int .i64 0, .int .i64 0, .int .i64 0] 142) ∧ w.heap.size < w1.heap.size ∧ Fr (fun j => j = b) w w1 := ⟨_, rfl, by simp, (Fr.set (D := fun j => j = b) b 1 w _ rfl).trans (Fr.alloc _ _)⟩
  have hblk1 : w1.heap[b]? = some (.cells #[.string s, .int .i64 (q : Int), vf, vo] 121 (0, 0)) := by
    rw [hw1, Below.heap_alloc _ _ _ (by simpa using hbl)]; exact heap_set h.blk _
  have hbox1 : w1.heap[w.heap.size]? = some (.cells #[.int .i64 (p : Int), .int .i64 (q : Int), .int .i64 0, .int .i64 0, .int .i64 0, .int .i64 0] 142 (0, 0)) := by
    rw [hw1]; have := heap_alloc_new (w.setCell ⟨b, 1, none⟩ (.int .i64 (q : Int))) (.cells #[.int .i64 (p : Int), .int .i64 (q : Int), .int .i64 0, .int .i64 0, .int .i64 0, .int .i64 0] 142); rwa [size_set] at this
  have H1 : Hid (Fr (fun j => j = b) w w1 ∧ w1.heap[b]? = some (.cells #[.string s, .int .i64 (q : Int), vf, vo] 121 (0, 0)) ∧ w1.heap[w.heap.size]? = some (.cells #[.int .i64 (p : Int), .int .i64 (q : Int), .int .i64 0, .int .i64 0, .int .i64 0, .int .i64 0] 142 (0, 0))) := ⟨hB1, hblk1, hbox1⟩
  clear h hfine hq hB1 hx
  go_enter Tryd.func78, Tryd.ntmps78
  go_wp2_with fail
  rw [← hw1]
  clear hw1 c0 c1 f1
  have d0 : w1.cell? ⟨b, 0, none⟩ = some (.string s) := V.cell_in H1.out.2.1 0 rfl
  have d1 : w1.cell? ⟨b, 1, none⟩ = some (.int .i64 (q : Int)) := V.cell_in H1.out.2.1 1 rfl
  clear hblk1 hbox1
  go_quiet (fail)
  have HHo : Hid (Calls Tryd.prog 89 #[.pointer (some ⟨b, 0, none⟩), .int .u8 40, .int .u8 41, .pointer (some ⟨w.heap.size, 0, none⟩)] (w1.drewN nq) fun e w' => e = .returned (.tuple #[]) ∧ ∃ vo', Pre base b w.heap.size s q vf vo' F (K ++ [⟨F.length, 40, 41, 0⟩]) ⟨p, 0, q, 0, 0, 0⟩ w w') := by
    have hrd := HS.out
    have hfr : Fr (fun j => j = b) w (w1.drewN nq) := H1.out.1.trans (Fr.drewN _ _)
    have hbw : base ≤ w.heap.size := by have := hrd.hb; have := hrd.lt; omega
    have hrf := row_fr hrd.rf hfr (fun g hg e => hrd.nf (by rw [hg, e]))
    have hro := row_fr hrd.ro hfr (fun g hg e => hrd.no (by rw [hg, e]))
    refine (hold_any base b w.heap.size s q vf vo F.length K.length (brsV K) (six (.int .i64 (p : Int)) (.int .i64 (q : Int)) (.int .i64 0) (.int .i64 0) (.int .i64 0) (.int .i64 0)) 40 41 (w1.drewN nq) ⟨H1.out.2.1, H1.out.2.2, hro, V.owns_slice hrd.rf, by have := hfr.size; omega⟩ (by have := HS.out.fine.opn; have := HS.out.fine.pos; rw [bl_length] at this; simp at *; omega)).mono ?_
    rintro e w' ⟨he, vo', k1, k2, k3, k4⟩
    have hnf : ∀ g, vf.ownBlock = some g → ¬ (g = b ∨ g = w.heap.size ∨ vo.ownBlock = some g) := fun g hg e => by
      rcases e with e | e | e
      · exact hrd.nf (by rw [hg, e])
      · have := (hrd.rf.lt g hg).2; omega
      · exact hrd.fo g hg e
    refine ⟨he, vo', k1, k2, row_fr hrf k4 hnf, ?_, hrd.hb, fun e => Nat.lt_irrefl _ (hrd.rf.lt _ e).2, ?_⟩
    · rw [List.length_append, List.length_singleton]; unfold brsV at k3 ⊢; rw [List.flatMap_append]; simpa [brC] using k3
    · refine (hfr.below hbw (fun j e => by rw [e]; exact hrd.hb)).trans ?_
      exact (k4.mono (D' := fun j => base ≤ j) (fun j _ e => by
        rcases e with e | e | e
        · rw [e]; exact hrd.hb
        · rw [e]; exact hbw
        · exact (hro.lt j e).1)).below (by have := hfr.size; omega) (fun _ e => e)
  clear d0 d1
  go_wp2_with fail
  try rw [hex]
  try go_wp2_with fail
  refine HHo.out.mono ?_
  rintro e w5 ⟨rfl, vo', hpre⟩
  have HP : Hid (Pre base b w.heap.size s q vf vo' F (K ++ [⟨F.length, 40, 41, 0⟩]) ⟨p, 0, q, 0, 0, 0⟩ w w5) := hpre
  clear hpre HHo hex
  go_wp2_with fail

  have e2 : w5.cell? ⟨b, 2, none⟩ = some vf := V.cell_in HP.out.blk 2 rfl
  have g2 : w5.frozen? ⟨b, 2, none⟩ = false := by simp [World.frozen?, HP.out.blk]
  have y0 := V.cell_in HP.out.box 0 rfl
  have y1 := V.cell_in HP.out.box 1 rfl
  have y2 := V.cell_in HP.out.box 2 rfl
  have y3 := V.cell_in HP.out.box 3 rfl
  have y4 := V.cell_in HP.out.box 4 rfl
  have y5 := V.cell_in HP.out.box 5 rfl
  have hb5 : b < w5.heap.size := (Array.getElem?_eq_some_iff.1 HP.out.blk).1
  have hd5 : w.heap.size < w5.heap.size := (Array.getElem?_eq_some_iff.1 HP.out.box).1
  have hbs : base ≤ w5.heap.size := by have := HP.out.hb; omega
  have hrf := HP.out.rf
  obtain ⟨n, hn⟩ : ∃ n, n = F.length := ⟨_, rfl⟩
  have HN : Hid (n = F.length) := hn
  rw [← hn] at hrf hfew
  obtain ⟨av, cv, hvf⟩ := V.owns_slice hrf
  obtain ⟨xs, hxs⟩ : ∃ xs, xs = dlsV F := ⟨_, rfl⟩
  have HX : Hid (xs = dlsV F) := hxs
  rw [← hxs] at hrf
  subst hvf
  clear hxs hn
  have HG : Hid (∀ (w2 : World) (o2 : Obj), (w5.drew.alloc o2).grownBy w2 (Value.slice av n cv).ownBlock → w2.cell? ⟨b, 2, none⟩ = some (.slice av n cv) ∧ w2.frozen? ⟨b, 2, none⟩ = false ∧ Fr (fun j => (Value.slice av n cv).ownBlock = some j) w5 w2) := by
    intro w2 o2 hgr
    have hf : Fr (fun j => (Value.slice av n cv).ownBlock = some j) w5 w2 := ((Fr.drew _).trans (Fr.alloc _ o2)).trans (Fr.grown hgr (fun g hg => hg))
    have hb2 := (hf.block b hb5 (row_ne' HP.out.rf HP.out.blk (by decide))).trans HP.out.blk
    exact ⟨V.cell_in hb2 2 rfl, by simp [World.frozen?, hb2], hf⟩
  unfold dlC at y0 y1 y2 y3 y4 y5
  go_region_law (first | (refine step_append_own _ (by rfl) (.tmp 61) (.tmp 63) 118 (by rfl) base 142 i0 (.agg #[.int .i64 0, .int .i64 0, .int .i64 0, .int .i64 0, .int .i64 0, .int .i64 0]) 6 48 Tryd.underlying118 hi hz0 hz1 hz2 rfl (by decide) (.slice av n cv) n xs (by rfl) (hrf.kept (row := none) ⟨rfl, rfl, rfl, by simp, fun k hk _ => Below.heap_alloc _ _ _ hk⟩ (Classical.em _)) ⟨w5.heap.size, 0, none⟩ 1 1 [.int .i64 (p : Int), .int .i64 0, .int .i64 (q : Int), .int .i64 0, .int .i64 0, .int .i64 0] (by rfl) rfl (by intro j u hj; match j, hj with | 0, hj => simp at hj; subst hj; simp [Addr.add] | 1, hj => simp at hj; subst hj; simp [Addr.add] | 2, hj => simp at hj; subst hj; simp [Addr.add] | 3, hj => simp at hj; subst hj; simp [Addr.add] | 4, hj => simp at hj; subst hj; simp [Addr.add] | 5, hj => simp at hj; subst hj; simp [Addr.add]) (by intro u hu; simp only [List.mem_cons, List.not_mem_nil, or_false] at hu; rcases hu with rfl | rfl | rfl | rfl | rfl | rfl <;> rfl) (by unfold maxLen; omega) (by omega) (by simp; omega) ?_; intro v' w2 hown hgr; obtain ⟨a2, c2, hv2⟩ := V.owns_slice hown; subst hv2; obtain ⟨k3, g4, hfr⟩ := HG.out w2 _ hgr))
  all_goals
    go_wp2
    go_end0
    have hq := HQ.out
    rw [HX.out, HN.out] at hown
    rw [HN.out] at hfr
    exact ⟨rfl, .slice a2 (n + 1) c2, _, HP.out.done (by rw [← HN.out] at hfr; exact hfr) (by rw [← HN.out] at hown ⊢; exact hown) HFi.out⟩
end Go.Proofs.YtbciedpjaajhcaaDoor.Ex
