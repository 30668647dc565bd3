/-
  The document's own store: something is set.
-/
import Derived.Test.YtoibdokedhbjpaaGreatP3
namespace Go.Proofs.YtoibdokedhbjpaaGreat
open Go.RowKit Go.Shelf Go.Maps

theorem set_new {L : Fs} {p : ByteArray} (e : Ent) (h : L.look p = none) : L.set p e = L ++ [(p, e)] := by
  induction L with
  | nil => rfl
  | cons x t ih =>
    rw [Fs.look_cons] at h
    unfold Fs.set
    by_cases hx : x.1 = p
    · rw [if_pos hx] at h; cases h
    · rw [if_neg hx] at h
      rw [if_neg hx, ih h]; rfl
theorem set_at {L : Fs} {p : ByteArray} {x : Ent} {i : Nat} (e : Ent) (h : L[i]? = some (p, x)) (hb : ∀ j, j < i → ∀ y, L[j]? = some y → y.1 ≠ p) : L.set p e = List.set L i (p, e) := by
  induction L generalizing i with
  | nil => simp at h
  | cons y t ih =>
    unfold Fs.set
    cases i with
    | zero =>
      simp at h
      rw [h]; simp
    | succ i =>
      rw [if_neg (hb 0 (by omega) y rfl), ih (by simpa using h) (fun j hj z hz => hb (j + 1) (by omega) z (by simpa using hz))]
      rfl
theorem owns_set {w : World} {base e k n cap g : Nat} {xs : List Value} (h : w.ownsRow base e k (.slice (some ⟨g, 0, none⟩) n cap) n xs) (j : Nat) (x : Value) : (w.setCell ⟨g, j, none⟩ x).ownsRow base e k (.slice (some ⟨g, 0, none⟩) n cap) n (xs.set j x) := by
  obtain ⟨hxl, ⟨hv, _⟩ | ⟨g', cap', cur, hv, hg, hcur, hcap, hcm, hcs, hct⟩⟩ := h
  · cases hv
  · cases hv
    refine ⟨by simp [hxl], .inr ⟨g, cap, cur.setIfInBounds j x, rfl, hg, heap_set hcur x, hcap, hcm, by simpa using hcs, ?_⟩⟩
    rw [← hct, Array.toList_setIfInBounds, List.take_set]
theorem filesV_set (L : Fs) (i : Nat) (y : ByteArray × Ent) (h : i < L.length) : filesV (List.set L i y) = ((((filesV L).set (i * 4) (.string y.1)).set (i * 4 + 1) (.string y.2.text)).set (i * 4 + 2) (.int .i64 y.2.time)).set (i * 4 + 3) (.bool y.2.dir) := by
  induction L generalizing i with
  | nil => exact absurd h (Nat.not_lt_zero _)
  | cons x t ih =>
    have e : filesV (x :: t) = .string x.1 :: .string x.2.text :: .int .i64 x.2.time :: .bool x.2.dir :: filesV t := rfl
    cases i with
    | zero => rfl
    | succ i =>
      have e2 : filesV (List.set (x :: t) (i + 1) y) = .string x.1 :: .string x.2.text :: .int .i64 x.2.time :: .bool x.2.dir :: filesV (List.set t i y) := rfl
      rw [e2, e, ih i (by simpa using h)]
      have a0 : (i + 1) * 4 = i * 4 + 1 + 1 + 1 + 1 := by omega
      have a1 : (i + 1) * 4 + 1 = (i * 4 + 1) + 1 + 1 + 1 + 1 := by omega
      have a2 : (i + 1) * 4 + 2 = (i * 4 + 2) + 1 + 1 + 1 + 1 := by omega
      have a3 : (i + 1) * 4 + 3 = (i * 4 + 3) + 1 + 1 + 1 + 1 := by omega
      rw [a1, a2, a3, a0]
      simp only [List.set_cons_succ]
theorem row_cell {w : World} {base e k n cap g : Nat} {xs : List Value} (h : w.ownsRow base e k (.slice (some ⟨g, 0, none⟩) n cap) n xs) (j : Nat) (hj : j < n * k) : ∃ u, w.cell? ⟨g, j, none⟩ = some u ∧ w.frozen? ⟨g, j, none⟩ = false := by
  obtain ⟨hxl, ⟨hv, _⟩ | ⟨g', cap', cur, hv, hg, hcur, hcap, hcm, hcs, hct⟩⟩ := h
  · cases hv
  · cases hv
    have hlen : j < cur.toList.length := by
      have : (cur.toList.take (n * k)).length = n * k := by rw [hct, hxl]
      rw [List.length_take] at this; omega
    refine ⟨cur.toList[j], ?_, by simp [World.frozen?, hcur]⟩
    simp only [World.cell?, hcur]
    simp at hlen ⊢
theorem owns_low {w w' : World} {base e k n B : Nat} {v : Value} {xs : List Value} (h : w.ownsRow base e k v n xs) (hb : Below B w w') (hB : ∀ g, v.ownBlock = some g → g < B) : w'.ownsRow base e k v n xs := by
  refine ⟨h.1, ?_⟩
  rcases h.2 with h0 | ⟨g, cap, cur, hv, hg, hgg, rest⟩
  · exact .inl h0
  · exact .inr ⟨g, cap, cur, hv, hg, (hb.block g (hB g (by rw [hv]; rfl))).trans hgg, rest⟩
theorem RSt.belowB {base br B : Nat} {vL vN : Value} {s : St} {w w' : World} (h : RSt base br vL vN s w) (hb : Below B w w') (h0 : br < B) (h1 : ∀ g, vL.ownBlock = some g → g < B) (h2 : ∀ g, vN.ownBlock = some g → g < B) : RSt base br vL vN s w' :=
  ⟨(hb.block br h0).trans h.blk, owns_low h.row hb h1, owns_low h.nts hb h2, h.hb⟩
theorem RTurn.more {br B : Nat} {w w3 w4 : World} (h : RTurn br w w3) (hb : Below B w3 w4) (hB : w.heap.size ≤ B) : RTurn br w w4 :=
  ⟨hb.os.trans h.os, hb.tape.trans h.tape, hb.output.trans h.output, Nat.le_trans h.size hb.size, fun j hj hne => (hb.block j (by omega)).trans (h.block j hj hne)⟩
section
variable {base br : Nat} {vL vN : Value} {s : St}
set_option maxRecDepth 20000 in
set_option maxHeartbeats 1000000 in
theorem rset_any (p t : ByteArray) (tm : Int) (d : Bool) (w : World) (h : RSt base br vL vN s w) (hl : s.L.length ≤ 1000) (hne : s.L ≠ []) (h0 : 0 ≤ s.now) (h1 : s.now ≤ 2000000000000000000) :
    Calls Tryz.prog 57 #[rptr br, .agg #[.string p, .string t, .int .i64 tm, .bool d]] w fun e w' => e = .returned (.tuple #[]) ∧ ∃ vL', RSt base br vL' vN { s with now := s.now + 1, L := s.L.set p ⟨t, s.now + 1, d⟩ } w' ∧ RTurn br w w' := by
  obtain ⟨i0, hi, hz0, hz1, hz2⟩ := info_parts infoFi
  have hbl := h.lt
  have hbs := h.sized
  have HgL : Hid (∀ g, vL.ownBlock = some g → g < w.heap.size) := fun g hg => (h.row.lt g hg).2
  have HgN : Hid (∀ g, vN.ownBlock = some g → g < w.heap.size) := fun g hg => (h.nts.lt g hg).2
  obtain ⟨s1, hs1⟩ : ∃ s1, s1 = ({ s with now := s.now + 1 } : St) := ⟨_, rfl⟩
  obtain ⟨W2, hW2⟩ : ∃ W2, W2 = (w.setCell ⟨br, 1, none⟩ (.int .i64 (s.now + 1))).alloc (.cells #[.string p, .string t, .int .i64 (s.now + 1), .bool d] 70) := ⟨_, rfl⟩
  have hsz2 : W2.heap.size = w.heap.size + 1 := by rw [hW2]; simp
  have h2 : RSt base br vL vN s1 W2 := by
    rw [hs1, hW2]
    exact (h.putNow (s.now + 1)).below ((Below.refl _ _).alloc (Nat.le_refl _) _)
  have hbox : W2.heap[w.heap.size]? = some (.cells #[.string p, .string t, .int .i64 (s.now + 1), .bool d] 70 (0, 0)) := by
    rw [hW2]
    have := heap_alloc_new (w.setCell ⟨br, 1, none⟩ (.int .i64 (s.now + 1))) (.cells #[.string p, .string t, .int .i64 (s.now + 1), .bool d] 70)
    rw [size_set] at this; exact this
  have hRT : RTurn br w W2 := by
    rw [hW2]
    exact (RTurn.set br 1 w _).trans (RTurn.of_below ((Below.refl _ _).alloc (Nat.le_refl _) _))
  rcases row_src h2.row with ⟨_, hn0, _⟩ | ⟨g, cap, rfl, hg, hcap, hxl, hcells⟩
  · exfalso
    rw [hs1] at hn0
    exact hne (List.length_eq_zero_iff.1 hn0)
  obtain ⟨n, hn⟩ : ∃ n, n = s1.L.length := ⟨_, rfl⟩
  obtain ⟨xs, hxs⟩ : ∃ xs, xs = filesV s1.L := ⟨_, rfl⟩
  have hone := filesV_one s1.L
  have hLs : s1.L = s.L := by rw [hs1]
  have hnl : n ≤ 1000 := by rw [hn, hLs]; exact hl
  have hn1 : 0 < n := by rw [hn, hLs]; exact List.length_pos_iff.2 hne
  rw [← hn] at hxl hcap
  rw [← hxs] at hxl hcells hone
  have c1 := h.c1
  have f1 := h.fr 1
  have c2 := h2.c2
  rw [← hn] at c2
  have HS : Hid (RSt base br (.slice (some ⟨g, 0, none⟩) n cap) vN s1 W2 ∧ n = s1.L.length ∧ xs = filesV s1.L ∧ s1 = ({ s with now := s.now + 1 } : St) ∧ RTurn br w W2 ∧ W2.heap[w.heap.size]? = some (.cells #[.string p, .string t, .int .i64 (s.now + 1), .bool d] 70 (0, 0))) := ⟨by rw [hn]; exact h2, hn, hxs, hs1, hRT, hbox⟩
  have HA : Hid (∀ W, Below (w.heap.size + 1) W2 W → Calls Tryz.prog 42 #[rptr br, .string p] W fun e w' => ∃ r, e = .returned (.int .i64 r) ∧ AtIs s1.L p r ∧ W = w') := fun W hB => rat_any p W (HS.out.1.below (by rw [hsz2]; exact hB)) (by rw [hLs]; exact hl)
  clear hn hxs hs1 hRT hbox h2 h hLs
  rw [hW2] at hcells c2
  go_enter Tryz.func57, Tryz.ntmps57
  go_wp2_with (at_builtin; refine wpList_append_own _ rfl (.const (.slice none 0 0)) (.tmp 21) 27 rfl (w.heap.size + 1) 70 i0 (.agg #[.string ⟨#[]⟩, .string ⟨#[]⟩, .int .i64 0, .bool false]) 4 48 Tryz.underlying27 hi hz0 hz1 hz2 rfl (by decide) _ _ _ rfl (World.ownsRow_nil _ _ _ _) ⟨g, 0, none⟩ n cap xs rfl hxl hcells hone (by unfold maxLen; omega) (by omega) (by simp) ?_)
  intro v3 w3 hown3 hgrow3 _
  rw [← hW2] at hgrow3
  have hb3 : Below (w.heap.size + 1) W2 w3 := (Below.refl _ _).grown hgrow3 (by omega) (fun k hk => by cases hk)
  have hown3' : w3.ownsRow (w.heap.size + 1) 70 4 v3 n xs := by simpa using hown3
  have hbox3 : w3.heap[w.heap.size]? = some (.cells #[.string p, .string t, .int .i64 (s.now + 1), .bool d] 70 (0, 0)) := (hb3.block _ (by omega)).trans HS.out.2.2.2.2.2
  have y0 := cell_in hbox3 0 rfl
  have y1 := cell_in hbox3 1 rfl
  have y2 := cell_in hbox3 2 rfl
  have y3 := cell_in hbox3 3 rfl
  have hs3 := hb3.size
  clear hown3 hgrow3 c1 f1 c2 hcells hbox3
  go_wp2_with fail
  refine (HA.out w3 hb3).mono ?_
  rintro e w' ⟨r, rfl, hat, rfl⟩
  have HT3 : Hid (RSt base br (.slice (some ⟨g, 0, none⟩) n cap) vN s1 w3 ∧ RTurn br w w3) := ⟨HS.out.1.below (by rw [hsz2]; exact hb3), HS.out.2.2.2.2.1.trans (RTurn.of_below (by rw [hsz2]; exact hb3))⟩
  have d2 := HT3.out.1.c2
  have e2 := HT3.out.1.fr 2
  rcases hat with ⟨rfl, hlk⟩ | ⟨i, x, rfl, hx, hlk, hbef⟩
  · have HE : Hid (∀ w4 v4, Below (w.heap.size + 1) w3 w4 → w4.ownsRow (w.heap.size + 1) 70 4 v4 (n + 1) (xs ++ [.string p, .string t, .int .i64 (s.now + 1), .bool d]) → RSt base br v4 vN { s with now := s.now + 1, L := s.L.set p ⟨t, s.now + 1, d⟩ } (w4.setCell ⟨br, 2, none⟩ v4) ∧ RTurn br w (w4.setCell ⟨br, 2, none⟩ v4) ∧ w4.cell? ⟨br, 2, none⟩ = some (.slice (some ⟨g, 0, none⟩) n cap) ∧ w4.frozen? ⟨br, 2, none⟩ = false) := by
      intro w4 v4 hb4 hr4
      have h4 : RSt base br (.slice (some ⟨g, 0, none⟩) n cap) vN s1 w4 := HT3.out.1.belowB hb4 (by omega) (fun k hk => Nat.lt_succ_of_lt (HgL.out k hk)) (fun k hk => Nat.lt_succ_of_lt (HgN.out k hk))
      refine ⟨?_, ?_, h4.c2, h4.fr 2⟩
      · have hLL : s.L.set p ⟨t, s.now + 1, d⟩ = s1.L ++ [(p, ⟨t, s.now + 1, d⟩)] := by
          rw [set_new (L := s.L) _ (by have := hlk; rw [HS.out.2.2.2.1] at this; exact this), HS.out.2.2.2.1]
        have e : ({ s with now := s.now + 1, L := s.L.set p ⟨t, s.now + 1, d⟩ } : St) = { s1 with L := s1.L ++ [(p, ⟨t, s.now + 1, d⟩)] } := by rw [hLL, HS.out.2.2.2.1]
        rw [e]
        refine h4.putL (owns_base ?_ (show base ≤ w.heap.size + 1 by omega))
        rw [List.length_append, ← HS.out.2.1, filesV_app, ← HS.out.2.2.1]
        exact hr4
      · exact (HT3.out.2.more hb4 (Nat.le_succ _)).trans (RTurn.set _ _ _ _)
    clear hlk
    go_wp2_with (at_builtin; refine wpList_append_own _ rfl (.tmp 29) (.tmp 31) 27 rfl (w.heap.size + 1) 70 i0 (.agg #[.string ⟨#[]⟩, .string ⟨#[]⟩, .int .i64 0, .bool false]) 4 48 Tryz.underlying27 hi hz0 hz1 hz2 rfl (by decide) _ _ _ rfl (hown3'.alloc _) ⟨w3.heap.size, 0, none⟩ 1 1 [.string p, .string t, .int .i64 (s.now + 1), .bool d] rfl rfl (by intro j u hj; match j, hj with | 0, hj => simp at hj; subst hj; simp [Addr.add] | 1, hj => simp at hj; subst hj; simp [Addr.add] | 2, hj => simp at hj; subst hj; simp [Addr.add] | 3, hj => simp at hj; subst hj; simp [Addr.add]) (by intro u hu; simp only [List.mem_cons, List.not_mem_nil, or_false] at hu; rcases hu with rfl | rfl | rfl | rfl <;> rfl) (by unfold maxLen; omega) (by omega) (by first | (simp; done) | (simp; omega)) ?_)
    intro v4 w4 hown4 hgrow4 _
    have hb4 : Below (w.heap.size + 1) w3 w4 := ((Below.refl _ _).alloc (by omega) _).grown hgrow4 (by first | (simp; done) | (simp; omega)) (fun k hk => (hown3'.lt k hk).1)
    obtain ⟨r1, r2, r3, r4⟩ := HE.out w4 v4 hb4 hown4
    obtain ⟨av, nv, cv, hv4⟩ : ∃ a n c, v4 = .slice a n c := by
      rcases hown4.2 with ⟨h, _⟩ | ⟨g, cap, cur, h, _⟩
      · exact ⟨_, _, _, h⟩
      · exact ⟨_, _, _, h⟩
    subst hv4
    have HR : Hid (RSt base br (.slice av nv cv) vN { s with now := s.now + 1, L := s.L.set p ⟨t, s.now + 1, d⟩ } (w4.setCell ⟨br, 2, none⟩ (.slice av nv cv)) ∧ RTurn br w (w4.setCell ⟨br, 2, none⟩ (.slice av nv cv))) := ⟨r1, r2⟩
    clear r1 r2 hown4 hgrow4 hown3' hb4 y0 y1 y2 y3 d2 e2
    go_wp2
    go_end0
    exact ⟨rfl, _, HR.out.1, HR.out.2⟩
  · have hii : (i : Int) < (n : Int) := by
      have := (List.getElem?_eq_some_iff.1 hx).1
      have h5 := HS.out.2.1
      omega
    have hi0 : ¬ (i : Int) < 0 := by omega
    obtain ⟨g3, cap3, hv3⟩ : ∃ g3 cap3, v3 = .slice (some ⟨g3, 0, none⟩) n cap3 := by
      rcases hown3'.2 with ⟨_, h0⟩ | ⟨g3, cap3, cur3, hv, _⟩
      · omega
      · exact ⟨g3, cap3, hv⟩
    subst hv3
    have hin : i < n := by omega
    obtain ⟨u0, z0, q0⟩ := row_cell hown3' (i * 4) (by omega)
    obtain ⟨u1, z1, q1⟩ := row_cell hown3' (i * 4 + 1) (by omega)
    obtain ⟨u2, z2, q2⟩ := row_cell hown3' (i * 4 + 2) (by omega)
    obtain ⟨u3, z3, q3⟩ := row_cell hown3' (i * 4 + 3) (by omega)
    have hg3 : w.heap.size + 1 ≤ g3 := (hown3'.lt g3 rfl).1
    have hgb : ¬ g3 = br := by omega
    have hgb2 : ¬ br = g3 := by omega
    have HE : Hid (∀ W, W = ((((w3.setCell ⟨g3, i * 4, none⟩ (.string p)).setCell ⟨g3, i * 4 + 1, none⟩ (.string t)).setCell ⟨g3, i * 4 + 2, none⟩ (.int .i64 (s.now + 1))).setCell ⟨g3, i * 4 + 3, none⟩ (.bool d)) → RSt base br (.slice (some ⟨g3, 0, none⟩) n cap3) vN { s with now := s.now + 1, L := s.L.set p ⟨t, s.now + 1, d⟩ } (W.setCell ⟨br, 2, none⟩ (.slice (some ⟨g3, 0, none⟩) n cap3)) ∧ RTurn br w (W.setCell ⟨br, 2, none⟩ (.slice (some ⟨g3, 0, none⟩) n cap3))) := by
      intro W hW
      have hrow := owns_set (owns_set (owns_set (owns_set hown3' (i * 4) (.string p)) (i * 4 + 1) (.string t)) (i * 4 + 2) (.int .i64 (s.now + 1))) (i * 4 + 3) (.bool d)
      rw [← hW] at hrow
      have hbW : Below (w.heap.size + 1) w3 W := by
        rw [hW]
        exact ((((Below.refl _ _).setCell (p := ⟨g3, i * 4, none⟩) hg3 _).setCell (p := ⟨g3, i * 4 + 1, none⟩) hg3 _).setCell (p := ⟨g3, i * 4 + 2, none⟩) hg3 _).setCell (p := ⟨g3, i * 4 + 3, none⟩) hg3 _
      have h4 : RSt base br (.slice (some ⟨g, 0, none⟩) n cap) vN s1 W := HT3.out.1.belowB hbW (by omega) (fun k hk => Nat.lt_succ_of_lt (HgL.out k hk)) (fun k hk => Nat.lt_succ_of_lt (HgN.out k hk))
      refine ⟨?_, (HT3.out.2.more hbW (Nat.le_succ _)).trans (RTurn.set _ _ _ _)⟩
      have hL1 : s1.L = s.L := by rw [HS.out.2.2.2.1]
      rw [hL1] at hx hbef
      have hLL : s.L.set p ⟨t, s.now + 1, d⟩ = List.set s1.L i (p, ⟨t, s.now + 1, d⟩) := by rw [set_at _ hx hbef, hL1]
      have e : ({ s with now := s.now + 1, L := s.L.set p ⟨t, s.now + 1, d⟩ } : St) = { s1 with L := List.set s1.L i (p, ⟨t, s.now + 1, d⟩) } := by rw [hLL, HS.out.2.2.2.1]
      rw [e]
      refine h4.putL (owns_base ?_ (show base ≤ w.heap.size + 1 by omega))
      rw [List.length_set, ← HS.out.2.1, filesV_set s1.L i _ (by rw [← HS.out.2.1]; exact hin), ← HS.out.2.2.1]
      exact hrow
    clear hlk hbef hx
    go_wp2
    go_end0
    exact ⟨rfl, _, (HE.out _ rfl).1, (HE.out _ rfl).2⟩
end
end Go.Proofs.YtoibdokedhbjpaaGreat
