/-
  The document's Drop and Clear.
-/
import Derived.Test.YtjbmmeneejcpbaaVP5
import Derived.Deep.RegionLaw
namespace Go.Proofs.Ytjbmmeneejcpbaa
open Go.RowKit Go.Shelf Go.Maps

theorem step_append_own {P : Program} (w : World) {ops : Array Oper} {o : Oper} {a : Go.Act} {K : Go.Act → World → Prop} {Q : Exit → Go.Act → World → Prop} {E : Prop} (hgd : o.guard = none) (s x : Operand) (t : TypeId)
    (ho : o.op = .call { callee := .builtin .append, args := #[s, x], argTypes := #[t, t] })
    (base : Nat) (e : TypeId) (i : TypeInfo) (z : Value) (size bytes : Nat) (ht : P.underlying t = some (.slice e)) (hi : P.info? e = some i) (hz : i.zero = some z)
    (hsize : i.size = size) (hby : i.bytes = bytes) (hzs : z.cells.size = size) (hsz : 0 < size)
    (v : Value) (n : Nat) (xs : List Value) (hs : a.eval s = v) (hown : w.ownsRow base e size v n xs)
    (ad : Addr) (m c : Nat) (news : List Value) (hx : a.eval x = .slice (some ad) m c) (hl : news.length = m * size) (hnews : ∀ j u, news[j]? = some u → w.cell? (ad.add j) = some u) (h1 : ∀ u ∈ news, u.oneCell' = true)
    (h63 : n + m ≤ maxLen) (hbytes : (n + m) * bytes ≤ 140737488355328) (hbase : base ≤ w.heap.size)
    (h : ∀ v' w', w'.ownsRow base e size v' (n + m) (xs ++ news) → w.grownBy w' v.ownBlock → K (a.put o.dst v') w') :
    if Region.wanted o (yielded ops a.tmps) = true then Oper.wp P o a w K Q else E := by
  have hw : Region.wanted o (yielded ops a.tmps) = true := by simp [Region.wanted, hgd]
  rw [if_pos hw]
  exact wp_append_own w s x t ho base e i z size bytes ht hi hz hsize hby hzs hsz v n xs hs hown ad m c news hx hl hnews h1 h63 hbytes hbase fun v' w' h2 h3 _ => h v' w' h2 h3

theorem wrapI {x : Int} (h0 : -9223372036854775808 ≤ x) (h1 : x ≤ 9223372036854775807) : IntKind.i64.wrap x = x := by
  simp [IntKind.wrap_i64]; omega
section
variable {base br : Nat} {vL : Value} {L : Vl} {s : VS}
theorem drop_bad {n : Int} {q : ByteArray} (h : isSc n = false) : s.drop n q = (s, 1) := by unfold VS.drop; rw [h]; rfl
theorem drop_none {n : Int} {q : ByteArray} (h : isSc n = true) (hl : (s n).look q = none) : s.drop n q = (s, 6) := by unfold VS.drop; rw [h, hl]; rfl
theorem rel_drop {n : Int} {q : ByteArray} (h : Rel L s) (hn : isSc n = true) {i : Nat} {x : Vr} (hx : L[i]? = some x) (e1 : x.n = n) (e2 : x.q = q) (hl : (s n).look q = some x.v) (hb : ∀ j, j < i → ∀ y, L[j]? = some y → ¬ (y.n = n ∧ y.q = q)) :
    s.drop n q = (s.upd n ((s n).del q), 0) ∧ Rel (L.take i ++ L.drop (i + 1)) (s.upd n ((s n).del q)) := by
  have hp : s.drop n q = (s.upd n ((s n).del q), 0) := by unfold VS.drop; rw [hn, hl]; rfl
  have hok := VS.drop_ok h.ok n q
  rw [hp] at hok
  refine ⟨hp, h.upd hok (fun m => ?_) fun y hy => ?_⟩
  · rw [proj_out (by rw [← h.proj]; exact h.ok.uniq n) hx e1 e2 hb, h.proj]
  · rcases List.mem_append.1 hy with hy | hy
    · exact h.sc y (List.mem_of_mem_take hy)
    · exact h.sc y (List.mem_of_mem_drop hy)
theorem rel_clear (h : Rel L s) (n : Int) : Rel (L.filter fun x => decide (x.n ≠ n)) (s.clear n) := by
  refine h.upd (VS.clear_ok h.ok n) (fun m => proj_clear L n m) fun y hy => h.sc y (List.mem_filter.1 hy).1

set_option maxRecDepth 20000 in
set_option maxHeartbeats 4000000 in
theorem rdrop_any (n : Int) (q : ByteArray) (w : World) (h : RSet base br vL L w) (hr : Rel L s) :
    Calls Try.prog 33 #[rptr br, .int .i64 n, .string q] w fun e w' => e = .returned (.int .i64 (s.drop n q).2) ∧ Left base br (s.drop n q).1 w w' := by
  have hlen := hr.len
  have HS : Hid (Calls Try.prog 46 #[.int .i64 n] w fun e w' => e = .returned (.bool (isSc n)) ∧ w = w') := rscope_any n w
  have HA : Hid (Calls Try.prog 35 #[rptr br, .int .i64 n, .string q] w fun e w' => ∃ r, e = .returned (.int .i64 r) ∧ AtIs L n q r ∧ w = w') := rat_any n q w h hlen
  have HV : Hid (RSet base br vL L w) := h
  have HR : Hid (Rel L s) := hr
  obtain ⟨res, hres⟩ : ∃ res, res = s.drop n q := ⟨_, rfl⟩
  have HRes : Hid (res = s.drop n q) := hres
  rw [← hres]
  clear h hr hres
  cases hn : isSc n
  · have HP : Hid (res = (s, 1)) := by rw [HRes.out]; exact drop_bad hn
    rw [hn] at HS
    clear hn
    go_enter Try.func33, Try.ntmps33
    go_wp2_with fail
    refine HS.out.mono ?_
    rintro e w' ⟨rfl, rfl⟩
    go_wp2
    go_ret
    exact ⟨ret_int (by rw [HP.out]), by rw [HP.out]; exact ⟨_, _, HV.out, HR.out, RTurn.refl _ _⟩⟩
  rw [hn] at HS
  have HNn : Hid (isSc n = true) := hn
  clear hn
  go_enter Try.func33, Try.ntmps33
  go_wp2_with fail
  refine HS.out.mono ?_
  rintro e w' ⟨rfl, rfl⟩
  go_wp2_with fail
  refine HA.out.mono ?_
  rintro e w' ⟨r, rfl, hat, rfl⟩
  rcases hat with ⟨rfl, hlk⟩ | ⟨i, x, rfl, hx, e1, e2, hlk, hb⟩
  · have HP : Hid (res = (s, 6)) := by rw [HRes.out]; exact drop_none HNn.out (by rw [HR.out.proj]; exact hlk)
    clear hlk
    go_wp2
    go_ret
    exact ⟨ret_int (by rw [HP.out]), by rw [HP.out]; exact ⟨_, _, HV.out, HR.out, RTurn.refl _ _⟩⟩
  · obtain ⟨hp1, hp2⟩ := rel_drop HR.out HNn.out hx e1 e2 (by rw [HR.out.proj]; exact hlk) hb
    have HP : Hid (res = (s.upd n ((s n).del q), 0) ∧ Rel (L.take i ++ L.drop (i + 1)) (s.upd n ((s n).del q))) := ⟨by rw [HRes.out]; exact hp1, hp2⟩
    have hi' : i < L.length := (List.getElem?_eq_some_iff.1 hx).1
    clear hp1 hp2 hx e1 e2 hlk hb
    obtain ⟨i0, hi, hz0, hz1, hz2⟩ := info_parts infoVr
    have hbl := HV.out.lt
    have hbs := HV.out.sized
    have c2 := HV.out.c0
    have f2 := HV.out.fr 0
    have hi0 : ¬ (i : Int) < 0 := by omega
    rcases row_src HV.out.row with ⟨_, hn0, _⟩ | ⟨g, cap, hvL, hg, hcap, hxl, hcells⟩
    · omega
    obtain ⟨m, hm⟩ : ∃ m, m = L.length := ⟨_, rfl⟩
    rw [← hm] at hlen hcap hi' hvL
    subst hvL
    have a1 : (i : Int) < (m : Int) := by omega
    have a2 : (i : Int) + 1 ≤ (m : Int) := by omega
    have a3 : (i : Int) ≤ (cap : Int) := by omega
    have a4 : (m : Int) ≤ (cap : Int) := by omega
    have a5 : (0 : Int) ≤ (i : Int) + 1 := by omega
    have a6 : (0 : Int) ≤ (i : Int) := by omega
    have hwr := wrapI (x := (i : Int) + 1) (by omega) (by omega)
    have A1 : (varsV (L.take i)).length = i * 3 := by rw [varsV_len, List.length_take]; omega
    have A2 : ∀ j u, (varsV (L.take i))[j]? = some u → w.drew.cell? ((⟨g, 0, none⟩ : Addr).add j) = some u := fun j u hj => by
      rw [varsV_take, List.getElem?_take] at hj
      split at hj
      · exact hcells j u hj
      · cases hj
    have A3 : (varsV (L.drop (i + 1))).length = (m - (i + 1)) * 3 := by rw [varsV_len, List.length_drop, ← hm]
    have A4 : ∀ j u, (varsV (L.drop (i + 1)))[j]? = some u → w.cell? ((⟨g, (i + 1) * 3, none⟩ : Addr).add j) = some u := fun j u hj => by
      rw [varsV_drop, List.getElem?_drop] at hj
      have := hcells _ u hj
      rw [add_none] at this ⊢
      rw [Nat.zero_add] at this; exact this
    have O1 := varsV_one (L.take i)
    have O2 := varsV_one (L.drop (i + 1))
    obtain ⟨X1, hX1⟩ : ∃ X1, X1 = varsV (L.take i) := ⟨_, rfl⟩
    obtain ⟨X2, hX2⟩ : ∃ X2, X2 = varsV (L.drop (i + 1)) := ⟨_, rfl⟩
    rw [← hX1] at A1 A2 O1
    rw [← hX2] at A3 A4 O2
    have HX : Hid (X1 = varsV (L.take i) ∧ X2 = varsV (L.drop (i + 1)) ∧ m = L.length) := ⟨hX1, hX2, hm⟩
    have A4' : Hid (∀ W, Below w.heap.size w W → ∀ j u, X2[j]? = some u → W.cell? ((⟨g, (i + 1) * 3, none⟩ : Addr).add j) = some u) := fun W hB j u hj => by
      have := A4 j u hj
      rw [add_none] at this ⊢
      rw [hB.cell (p := ⟨g, (i + 1) * 3 + j, none⟩) hg]; exact this
    clear hX1 hX2 hm hcells hxl A4
    have HE : Hid (∀ W v2, Below w.heap.size w W → W.ownsRow w.heap.size 62 3 v2 (0 + i + (m - (i + 1))) ([] ++ X1 ++ X2) → RSet base br v2 (L.take i ++ L.drop (i + 1)) (W.setCell ⟨br, 0, none⟩ v2) ∧ RTurn br w (W.setCell ⟨br, 0, none⟩ v2)) := by
      intro W v2 hB hrw
      refine ⟨(HV.out.below hB).putL (owns_base ?_ hbs), (RTurn.of_below hB).trans (RTurn.set _ _ _ _)⟩
      have e1 : (L.take i ++ L.drop (i + 1)).length = 0 + i + (m - (i + 1)) := by rw [List.length_append, List.length_take, List.length_drop, ← HX.out.2.2]; omega
      rw [e1, varsV_app, ← HX.out.1, ← HX.out.2.1]
      exact hrw
    have a7 : (i : Int) ≤ (i : Int) + 1 := by omega
    by_cases hce : cap = i + 1
    · have HX0 : Hid (X2 = []) := by
        apply List.length_eq_zero_iff.1; rw [A3]; omega
      have hni : m - (i + 1) = 0 := by omega
      rw [hni] at HE A3
      subst hce
      go_wp2
      go_region_law
        (first
          | (refine step_append_own _ (by rfl) (.const (.slice none 0 0)) (.tmp 23) 25 (by rfl) w.heap.size 62 i0 (.agg #[.int .i64 0, .string ⟨#[]⟩, .string ⟨#[]⟩]) 3 40 Try.underlying25 hi hz0 hz1 hz2 rfl (by decide) (.slice none 0 0) 0 [] (by rfl) (World.ownsRow_nil _ _ _ _) ⟨g, 0, none⟩ i (i + 1) X1 (by rfl) A1 A2 O1 (by unfold maxLen; omega) (by omega) (Nat.le_refl _) ?_; intro v1 w1 hown1 hgr1; have hb1 : Below w.heap.size w w1 := (Below.refl _ w).drew.grown hgr1 (Nat.le_refl _) (fun k hk => by cases hk); have k1 : w1.cell? ⟨br, 0, none⟩ = some (.slice (some ⟨g, 0, none⟩) m (i + 1)) := (by rw [hb1.cell (p := ⟨br, 0, none⟩) hbl]; exact c2))
          | (refine step_append_own _ (by rfl) (.tmp 24) (.tmp 31) 25 (by rfl) w.heap.size 62 i0 (.agg #[.int .i64 0, .string ⟨#[]⟩, .string ⟨#[]⟩]) 3 40 Try.underlying25 hi hz0 hz1 hz2 rfl (by decide) v1 (0 + i) ([] ++ X1) (by rfl) hown1 ⟨g, 0, none⟩ 0 0 X2 (by rfl) A3 (fun j u hj => by rw [HX0.out] at hj; simp at hj) O2 (by unfold maxLen; omega) (by omega) hb1.size ?_; intro v2 w2 hown2 hgr2; obtain ⟨av, nv, cv, hv2⟩ : ∃ a n c, v2 = .slice a n c := (hown2.2.elim (fun h => ⟨_, _, _, h.1⟩) (fun ⟨g, cap, cur, h, _⟩ => ⟨_, _, _, h⟩)); subst hv2; have hb2 : Below w.heap.size w w2 := hb1.grown hgr2 hb1.size (fun k hk => (hown1.lt k hk).1); have k2 : w2.cell? ⟨br, 0, none⟩ = some (.slice (some ⟨g, 0, none⟩) m (i + 1)) := (by rw [hb2.cell (p := ⟨br, 0, none⟩) hbl]; exact c2); have g2 : w2.frozen? ⟨br, 0, none⟩ = false := (HV.out.below hb2).fr 0))
      all_goals (go_wp2; go_ret; exact ⟨ret_int (by rw [HP.out.1]), by rw [HP.out.1]; exact ⟨_, _, (HE.out _ _ (by assumption) (by assumption)).1, HP.out.2, (HE.out _ _ (by assumption) (by assumption)).2⟩⟩)
    · go_wp2
      go_region_law
        (first
          | (refine step_append_own _ (by rfl) (.const (.slice none 0 0)) (.tmp 23) 25 (by rfl) w.heap.size 62 i0 (.agg #[.int .i64 0, .string ⟨#[]⟩, .string ⟨#[]⟩]) 3 40 Try.underlying25 hi hz0 hz1 hz2 rfl (by decide) (.slice none 0 0) 0 [] (by rfl) (World.ownsRow_nil _ _ _ _) ⟨g, 0, none⟩ i cap X1 (by rfl) A1 A2 O1 (by unfold maxLen; omega) (by omega) (Nat.le_refl _) ?_; intro v1 w1 hown1 hgr1; have hb1 : Below w.heap.size w w1 := (Below.refl _ w).drew.grown hgr1 (Nat.le_refl _) (fun k hk => by cases hk); have k1 : w1.cell? ⟨br, 0, none⟩ = some (.slice (some ⟨g, 0, none⟩) m cap) := (by rw [hb1.cell (p := ⟨br, 0, none⟩) hbl]; exact c2))
          | (refine step_append_own _ (by rfl) (.tmp 24) (.tmp 31) 25 (by rfl) w.heap.size 62 i0 (.agg #[.int .i64 0, .string ⟨#[]⟩, .string ⟨#[]⟩]) 3 40 Try.underlying25 hi hz0 hz1 hz2 rfl (by decide) v1 (0 + i) ([] ++ X1) (by rfl) hown1 ⟨g, (i + 1) * 3, none⟩ (m - (i + 1)) (cap - (i + 1)) X2 (by rfl) A3 (A4'.out _ hb1) O2 (by unfold maxLen; omega) (by omega) hb1.size ?_; intro v2 w2 hown2 hgr2; obtain ⟨av, nv, cv, hv2⟩ : ∃ a n c, v2 = .slice a n c := (hown2.2.elim (fun h => ⟨_, _, _, h.1⟩) (fun ⟨g, cap, cur, h, _⟩ => ⟨_, _, _, h⟩)); subst hv2; have hb2 : Below w.heap.size w w2 := hb1.grown hgr2 hb1.size (fun k hk => (hown1.lt k hk).1); have k2 : w2.cell? ⟨br, 0, none⟩ = some (.slice (some ⟨g, 0, none⟩) m cap) := (by rw [hb2.cell (p := ⟨br, 0, none⟩) hbl]; exact c2); have g2 : w2.frozen? ⟨br, 0, none⟩ = false := (HV.out.below hb2).fr 0))
      all_goals (go_wp2; go_ret; exact ⟨ret_int (by rw [HP.out.1]), by rw [HP.out.1]; exact ⟨_, _, (HE.out _ _ (by assumption) (by assumption)).1, HP.out.2, (HE.out _ _ (by assumption) (by assumption)).2⟩⟩)
end
end Go.Proofs.Ytjbmmeneejcpbaa
