/-
  The document's own store: what is at a place goes.
-/
import Derived.Test.YtoibdokedhbjpaaGreatP6
import Derived.Test.YtoibdokedhbjpaaGreatArgs
import Derived.Deep.RegionLaw
namespace Go.Proofs.YtoibdokedhbjpaaGreat
open Go.RowKit Go.Shelf Go.Maps

theorem filesV_take (L : Fs) (i : Nat) : filesV (L.take i) = (filesV L).take (i * 4) := by
  induction L generalizing i with
  | nil => simp [filesV]
  | cons x t ih =>
    cases i with
    | zero => simp [filesV]
    | succ i =>
      have e : filesV (x :: t) = .string x.1 :: .string x.2.text :: .int .i64 x.2.time :: .bool x.2.dir :: filesV t := rfl
      have e2 : filesV ((x :: t).take (i + 1)) = .string x.1 :: .string x.2.text :: .int .i64 x.2.time :: .bool x.2.dir :: filesV (t.take i) := rfl
      rw [e, e2, ih, show (i + 1) * 4 = i * 4 + 1 + 1 + 1 + 1 by omega]
      simp only [List.take_succ_cons]
theorem filesV_drop (L : Fs) (i : Nat) : filesV (L.drop i) = (filesV L).drop (i * 4) := by
  induction L generalizing i with
  | nil => simp [filesV]
  | cons x t ih =>
    cases i with
    | zero => simp [filesV]
    | succ i =>
      have e : filesV (x :: t) = .string x.1 :: .string x.2.text :: .int .i64 x.2.time :: .bool x.2.dir :: filesV t := rfl
      have e2 : (x :: t).drop (i + 1) = t.drop i := rfl
      rw [e, e2, ih, show (i + 1) * 4 = i * 4 + 1 + 1 + 1 + 1 by omega]
      simp only [List.drop_succ_cons]
theorem step_append_own {P : Program} (w : World) {ops : Array Oper} {o : Oper} {a : Go.Act} {K : Go.Act → World → Prop} {Q : Exit → Go.Act → World → Prop} {E : Prop} (hgd : o.guard = none) (s x : Operand) (t : TypeId)
    (ho : o.op = .call { callee := .builtin .append, args := #[s, x], argTypes := #[t, t] })
    (base : Nat) (e : TypeId) (i : TypeInfo) (z : Value) (size bytes : Nat) (ht : P.underlying t = some (.slice e)) (hi : P.info? e = some i) (hz : i.zero = some z)
    (hsize : i.size = size) (hby : i.bytes = bytes) (hzs : z.cells.size = size) (hsz : 0 < size)
    (v : Value) (n : Nat) (xs : List Value) (hs : a.eval s = v) (hown : w.ownsRow base e size v n xs)
    (ad : Addr) (m c : Nat) (news : List Value) (hx : a.eval x = .slice (some ad) m c) (hl : news.length = m * size) (hnews : ∀ j u, news[j]? = some u → w.cell? (ad.add j) = some u) (h1 : ∀ u ∈ news, u.oneCell' = true)
    (h63 : n + m ≤ maxLen) (hbytes : (n + m) * bytes ≤ 140737488355328) (hbase : base ≤ w.heap.size)
    (h : ∀ v' w', w'.ownsRow base e size v' (n + m) (xs ++ news) → w.grownBy w' v.ownBlock → K (a.put o.dst v') w') :
    if Region.wanted o (yielded ops a.tmps) = true then Oper.wp P o a w K Q else E := by
  have hw : Region.wanted o (yielded ops a.tmps) = true := by simp [Region.wanted, hgd]
  rw [if_pos hw]
  exact wp_append_own w s x t ho base e i z size bytes ht hi hz hsize hby hzs hsz v n xs hs hown ad m c news hx hl hnews h1 h63 hbytes hbase fun v' w' h2 h3 _ => h v' w' h2 h3
section
variable {base br : Nat} {vL vN : Value} {s : St}
set_option maxRecDepth 20000 in
set_option maxHeartbeats 1000000 in
theorem rout_any (i : Nat) (w : World) (h : RSt base br vL vN s w) (hl : s.L.length ≤ 1000) (hi' : i < s.L.length) :
    Calls Tryz.prog 59 #[rptr br, .int .i64 i] w fun e w' => e = .returned (.tuple #[]) ∧ ∃ vL', RSt base br vL' vN { s with L := s.L.take i ++ s.L.drop (i + 1) } w' ∧ RTurn br w w' := by
  obtain ⟨i0, hi, hz0, hz1, hz2⟩ := info_parts infoFi
  have hbl := h.lt
  have hbs := h.sized
  have c2 := h.c2
  have f2 := h.fr 2
  rcases row_src h.row with ⟨_, hn0, _⟩ | ⟨g, cap, rfl, hg, hcap, hxl, hcells⟩
  · omega
  obtain ⟨n, hn⟩ : ∃ n, n = s.L.length := ⟨_, rfl⟩
  rw [← hn] at c2 hl hcap hi'
  have a1 : (i : Int) < (n : Int) := by omega
  have a2 : (i : Int) + 1 ≤ (n : Int) := by omega
  have a3 : (i : Int) ≤ (cap : Int) := by omega
  have a4 : (n : Int) ≤ (cap : Int) := by omega
  have a5 : (0 : Int) ≤ (i : Int) + 1 := by omega
  have a6 : (0 : Int) ≤ (i : Int) := by omega
  have hwr := wrapI (x := (i : Int) + 1) (by omega) (by omega)
  have A1 : (filesV (s.L.take i)).length = i * 4 := by rw [filesV_len, List.length_take]; omega
  have A2 : ∀ j u, (filesV (s.L.take i))[j]? = some u → w.drew.cell? ((⟨g, 0, none⟩ : Addr).add j) = some u := fun j u hj => by
    rw [filesV_take, List.getElem?_take] at hj
    split at hj
    · exact hcells j u hj
    · cases hj
  have A3 : (filesV (s.L.drop (i + 1))).length = (n - (i + 1)) * 4 := by rw [filesV_len, List.length_drop, ← hn]
  have A4 : ∀ j u, (filesV (s.L.drop (i + 1)))[j]? = some u → w.cell? ((⟨g, (i + 1) * 4, none⟩ : Addr).add j) = some u := fun j u hj => by
    rw [filesV_drop, List.getElem?_drop] at hj
    have := hcells _ u hj
    rw [add_none] at this ⊢
    rw [Nat.zero_add] at this; exact this
  have O1 := filesV_one (s.L.take i)
  have O2 := filesV_one (s.L.drop (i + 1))
  obtain ⟨X1, hX1⟩ : ∃ X1, X1 = filesV (s.L.take i) := ⟨_, rfl⟩
  obtain ⟨X2, hX2⟩ : ∃ X2, X2 = filesV (s.L.drop (i + 1)) := ⟨_, rfl⟩
  rw [← hX1] at A1 A2 O1
  rw [← hX2] at A3 A4 O2
  have HX : Hid (X1 = filesV (s.L.take i) ∧ X2 = filesV (s.L.drop (i + 1)) ∧ n = s.L.length ∧ RSt base br (.slice (some ⟨g, 0, none⟩) n cap) vN s w) := ⟨hX1, hX2, hn, by rw [hn]; exact h⟩
  have A4' : Hid (∀ W, Below w.heap.size w W → ∀ j u, X2[j]? = some u → W.cell? ((⟨g, (i + 1) * 4, none⟩ : Addr).add j) = some u) := fun W hB j u hj => by
    have := A4 j u hj
    rw [add_none] at this ⊢
    rw [hB.cell (p := ⟨g, (i + 1) * 4 + j, none⟩) hg]; exact this
  clear hX1 hX2 hn h hcells hxl A4
  have HE : Hid (∀ W v2, Below w.heap.size w W → W.ownsRow w.heap.size 70 4 v2 (0 + i + (n - (i + 1))) ([] ++ X1 ++ X2) → RSt base br v2 vN { s with L := s.L.take i ++ s.L.drop (i + 1) } (W.setCell ⟨br, 2, none⟩ v2) ∧ RTurn br w (W.setCell ⟨br, 2, none⟩ v2)) := by
    intro W v2 hB hr
    refine ⟨(HX.out.2.2.2.below hB).putL (owns_base ?_ hbs), (RTurn.of_below hB).trans (RTurn.set _ _ _ _)⟩
    have e1 : (s.L.take i ++ s.L.drop (i + 1)).length = 0 + i + (n - (i + 1)) := by rw [List.length_append, List.length_take, List.length_drop, ← HX.out.2.2.1]; omega
    rw [e1, filesV_app, ← HX.out.1, ← HX.out.2.1]
    exact hr
  have a7 : (i : Int) ≤ (i : Int) + 1 := by omega
  by_cases hce : cap = i + 1
  · have HX0 : Hid (X2 = []) := by
      apply List.length_eq_zero_iff.1; rw [A3]; omega
    have hni : n - (i + 1) = 0 := by omega
    rw [hni] at HE A3
    subst hce
    go_enter Tryz.func59, Tryz.ntmps59
    go_wp2
    go_region_law
      (first
        | (refine step_append_own _ (by rfl) (.const (.slice none 0 0)) (.tmp 10) 27 (by rfl) w.heap.size 70 i0 (.agg #[.string ⟨#[]⟩, .string ⟨#[]⟩, .int .i64 0, .bool false]) 4 48 Tryz.underlying27 hi hz0 hz1 hz2 rfl (by decide) (.slice none 0 0) 0 [] (by rfl) (World.ownsRow_nil _ _ _ _) ⟨g, 0, none⟩ i (i + 1) X1 (by rfl) A1 A2 O1 (by unfold maxLen; omega) (by omega) (Nat.le_refl _) ?_; intro v1 w1 hown1 hgr1; have hb1 : Below w.heap.size w w1 := (Below.refl _ w).drew.grown hgr1 (Nat.le_refl _) (fun k hk => by cases hk); have k1 : w1.cell? ⟨br, 2, none⟩ = some (.slice (some ⟨g, 0, none⟩) n (i + 1)) := (by rw [hb1.cell (p := ⟨br, 2, none⟩) hbl]; exact c2))
        | (refine step_append_own _ (by rfl) (.tmp 11) (.tmp 18) 27 (by rfl) w.heap.size 70 i0 (.agg #[.string ⟨#[]⟩, .string ⟨#[]⟩, .int .i64 0, .bool false]) 4 48 Tryz.underlying27 hi hz0 hz1 hz2 rfl (by decide) v1 (0 + i) ([] ++ X1) (by rfl) hown1 ⟨g, 0, none⟩ 0 0 X2 (by rfl) A3 (fun j u hj => by rw [HX0.out] at hj; simp at hj) O2 (by unfold maxLen; omega) (by omega) hb1.size ?_; intro v2 w2 hown2 hgr2; obtain ⟨av, nv, cv, hv2⟩ : ∃ a n c, v2 = .slice a n c := (hown2.2.elim (fun h => ⟨_, _, _, h.1⟩) (fun ⟨g, cap, cur, h, _⟩ => ⟨_, _, _, h⟩)); subst hv2; have hb2 : Below w.heap.size w w2 := hb1.grown hgr2 hb1.size (fun k hk => (hown1.lt k hk).1); have k2 : w2.cell? ⟨br, 2, none⟩ = some (.slice (some ⟨g, 0, none⟩) n (i + 1)) := (by rw [hb2.cell (p := ⟨br, 2, none⟩) hbl]; exact c2); have g2 : w2.frozen? ⟨br, 2, none⟩ = false := (HX.out.2.2.2.below hb2).fr 2))
    all_goals (go_end0; exact ⟨rfl, _, (HE.out _ _ (by assumption) (by assumption)).1, (HE.out _ _ (by assumption) (by assumption)).2⟩)
  · go_enter Tryz.func59, Tryz.ntmps59
    go_wp2
    go_region_law
      (first
        | (refine step_append_own _ (by rfl) (.const (.slice none 0 0)) (.tmp 10) 27 (by rfl) w.heap.size 70 i0 (.agg #[.string ⟨#[]⟩, .string ⟨#[]⟩, .int .i64 0, .bool false]) 4 48 Tryz.underlying27 hi hz0 hz1 hz2 rfl (by decide) (.slice none 0 0) 0 [] (by rfl) (World.ownsRow_nil _ _ _ _) ⟨g, 0, none⟩ i cap X1 (by rfl) A1 A2 O1 (by unfold maxLen; omega) (by omega) (Nat.le_refl _) ?_; intro v1 w1 hown1 hgr1; have hb1 : Below w.heap.size w w1 := (Below.refl _ w).drew.grown hgr1 (Nat.le_refl _) (fun k hk => by cases hk); have k1 : w1.cell? ⟨br, 2, none⟩ = some (.slice (some ⟨g, 0, none⟩) n cap) := (by rw [hb1.cell (p := ⟨br, 2, none⟩) hbl]; exact c2))
        | (refine step_append_own _ (by rfl) (.tmp 11) (.tmp 18) 27 (by rfl) w.heap.size 70 i0 (.agg #[.string ⟨#[]⟩, .string ⟨#[]⟩, .int .i64 0, .bool false]) 4 48 Tryz.underlying27 hi hz0 hz1 hz2 rfl (by decide) v1 (0 + i) ([] ++ X1) (by rfl) hown1 ⟨g, (i + 1) * 4, none⟩ (n - (i + 1)) (cap - (i + 1)) X2 (by rfl) A3 (A4'.out _ hb1) O2 (by unfold maxLen; omega) (by omega) hb1.size ?_; intro v2 w2 hown2 hgr2; obtain ⟨av, nv, cv, hv2⟩ : ∃ a n c, v2 = .slice a n c := (hown2.2.elim (fun h => ⟨_, _, _, h.1⟩) (fun ⟨g, cap, cur, h, _⟩ => ⟨_, _, _, h⟩)); subst hv2; have hb2 : Below w.heap.size w w2 := hb1.grown hgr2 hb1.size (fun k hk => (hown1.lt k hk).1); have k2 : w2.cell? ⟨br, 2, none⟩ = some (.slice (some ⟨g, 0, none⟩) n cap) := (by rw [hb2.cell (p := ⟨br, 2, none⟩) hbl]; exact c2); have g2 : w2.frozen? ⟨br, 2, none⟩ = false := (HX.out.2.2.2.below hb2).fr 2))
    all_goals (go_end0; exact ⟨rfl, _, (HE.out _ _ (by assumption) (by assumption)).1, (HE.out _ _ (by assumption) (by assumption)).2⟩)
end
end Go.Proofs.YtoibdokedhbjpaaGreat
