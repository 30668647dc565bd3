/-
  What the program's Parts answers: the parts of the path, clean, as a list of its own.
-/
import Derived.Test.YtoibdokedhbjpaaGreatKept
namespace Go.Proofs.YtoibdokedhbjpaaGreat
open Go.RowKit Go.Shelf
attribute [local go_sem] Oper.semAt_some

theorem Tryz.info9 : (Tryz.prog.info? 9).map (fun i => (i.zero, i.size, i.bytes)) = some (some (.string ⟨#[]⟩), 1, 16) := by kernel_rfl
theorem below_out {n : Nat} {w w' : World} {o : Obj} (hn : n = w.heap.size) (h : Below (n + 1) (w.alloc o) w') : Below w.heap.size w w' := by
  subst hn
  exact ((Below.refl _ w).alloc (Nat.le_refl _) o).trans (h.mono (by omega))

theorem owns_base {b b' : Nat} {e : TypeId} {size : Nat} {W : World} {v : Value} {n : Nat} {xs : List Value} (h : W.ownsRow b e size v n xs) (hb : b' ≤ b) : W.ownsRow b' e size v n xs := by
  refine ⟨h.1, ?_⟩
  rcases h.2 with h0 | ⟨g, cap, cur, h1, h2, h3⟩
  · exact .inl h0
  · exact .inr ⟨g, cap, cur, h1, Nat.le_trans hb h2, h3⟩

set_option maxRecDepth 100000 in
set_option maxHeartbeats 1000000 in
theorem parts_any (p : ByteArray) (w : World) (hp : p.size ≤ 2000000) :
    Calls Tryz.prog 61 #[.string p] w fun e w' => ∃ v, e = .returned v ∧ w'.ownsRow w.heap.size 9 1 v (parts p).length ((parts p).map Value.string) ∧ Below w.heap.size w w' := by
  obtain ⟨i0, hi, hz0, hz1, hz2⟩ := info_parts Tryz.info9
  obtain ⟨r, hr⟩ : ∃ r, r = G.rootedL (bl p) := ⟨_, rfl⟩
  have HR : Hid (∀ W, Calls Tryz.prog 75 #[.string p] W fun e w' => e = .returned (.bool r) ∧ W = w') := by
    intro W; rw [hr]; exact (atRoot_any p W).mono fun e w' h => ⟨h.1, h.2.symm⟩
  have HP : Hid (kept r (pieces p) = parts p) := by rw [hr]; exact kept_parts p
  have hpl := pieces_len p
  clear hr
  refine (callsIn_wide (n := 6)).1 ?_
  refine callsIn_of_wp_marks Tryz.func61 rfl trivial ?_ rfl
  simp only [Tryz.ntmps61, List.size_toArray, List.length_cons, List.length_nil, Nat.reduceAdd, Nat.reduceSub, Array.replicate_succ, Array.replicate_zero, List.push_toArray, List.append_toArray, List.nil_append, List.cons_append]
  gi_wp2_with (refine ⟨trivial, ?_⟩; gi_at_call 74; refine (pieces_in _ _ _).mono ?_; rintro e w' ⟨rfl, rfl⟩)
  have bP := Boxed.new w 9 (.string p)
  have bO := Boxed.new (w.alloc (.cells #[.string p] 9)) 47 (.slice none 0 0)
  have bN := Boxed.new ((w.alloc (.cells #[.string p] 9)).alloc (.cells #[.slice none 0 0] 47)) 9 (.string p)
  simp only [World.size_alloc] at bO bN
  have hB0 : Below (w.heap.size + 1) (w.alloc (.cells #[.string p] 9)) (((w.alloc (.cells #[.string p] 9)).alloc (.cells #[.slice none 0 0] 47)).alloc (.cells #[.string p] 9)) := ((Below.refl _ _).alloc (by simp) _).alloc (by simp) _
  refine wpIn_rangeFunc_ownG rfl (by omega) (gf := 94) (lb := #[.pointer (some ⟨w.heap.size + 1 + 1, 0, none⟩)]) rfl trivial (enters_of Tryz.func94 (by kernel_rfl) rfl)
    (pieces_stops _ (by omega) (w.heap.size + 1 + 1) (w.heap.size + 1) p hp _ (by simp) bN.cell) belowK_t (belowK_b (by simp)) (Below.refl _ _) (fun _ => rfl)
    (fun pre W => (∃ v, Boxed W (w.heap.size + 1) 47 v ∧ W.ownsRow (w.heap.size + 1) 9 1 v (kept r pre).length ((kept r pre).map Value.string) ∧ True) ∧ Below (w.heap.size + 1) (w.alloc (.cells #[.string p] 9)) W)
    (fun _ _ _ => False)
    (OwnFrom.and (Own.from (holdsRow_own (w.heap.size + 1) (w.heap.size + 1) 47 9 1 (fun pre => (kept r pre).length) (fun pre => (kept r pre).map Value.string) (fun _ _ => True)) _) (ownFrom_below (by simp) (by simp)))
    (fun _ _ _ _ _ hs _ _ => hs)
    ⟨⟨_, bO.alloc _, World.ownsRow_nil _ _ _ _, trivial⟩, hB0⟩
    (fun x => { tmps := #[.string p, .pointer (some ⟨w.heap.size, 0, none⟩), .slice none 0 0, .pointer (some ⟨w.heap.size + 1, 0, none⟩), .string x, undef, .string p, .func (.func 94) #[] #[.pointer (some ⟨w.heap.size + 1 + 1, 0, none⟩)], .string x, undef, undef, undef, undef, undef, undef, undef, undef, undef, undef, undef, undef, undef, undef, undef, undef, undef, undef, undef, undef, undef, undef, undef, undef, undef, undef, undef, undef, undef, undef, undef, undef, undef, undef, undef, undef, undef, undef], defers := [] }) ?assign ?body ?done ?stop
  case assign =>
    intro l x W K hK
    gi_wp2
    exact hK
  case body =>
    rintro l pre x W ⟨⟨v, hv, hrow, -⟩, hB⟩ hlt
    have hpre : pre.length ≤ 2000000 := by omega
    have hkl := kept_len r pre
    have hc := hv.cell
    have hcp : W.cell? ⟨w.heap.size, 0, none⟩ = some (.string p) := by rw [hB.cell (p := ⟨w.heap.size, 0, none⟩) (by simp)]; exact bP.cell
    clear bP bO bN hB0
    have hB' : w.heap.size + 1 ≤ W.heap.size := by have := hB.size; simpa using this
    by_cases hx1 : x = E ∨ x = dotB
    · have HK : Hid (kept r (pre ++ [x]) = kept r pre) := kept_skip r pre hx1
      obtain ⟨a, cap, rfl⟩ := owns_slice hrow
      rcases hx1 with rfl | rfl
      · gi_wp2
        exact ⟨KeepsFrom.refl _ _, Below.refl _ _, ⟨_, hv, by rw [HK.out]; exact hrow, trivial⟩, hB⟩
      · gi_wp2
        exact ⟨KeepsFrom.refl _ _, Below.refl _ _, ⟨_, hv, by rw [HK.out]; exact hrow, trivial⟩, hB⟩
    · obtain ⟨h1, h2⟩ := not_or.1 hx1
      clear hx1
      by_cases h3 : x = ddB
      · subst h3
        clear h1 h2
        by_cases hne : kept r pre = []
        · -- nothing is kept: a '..' stays, unless the path begins at the root
          have HU : Hid (kept true pre = [] → kept true (pre ++ [ddB]) = kept true pre) := fun h => kept_upr pre (.inl h)
          have HV : Hid (kept false pre = [] → kept false (pre ++ [ddB]) = kept false pre ++ [ddB]) := fun h => kept_up pre (.inl h)
          have HE : Hid (kept r pre = []) := hne
          rw [hne] at hrow
          obtain ⟨a, cap, rfl⟩ := owns_slice hrow
          simp only [List.length_nil, List.map_nil] at hrow hv hc
          clear hne hkl
          cases r
          · gi_wp2_with (first
              | (refine ⟨trivial, ?_⟩; gi_at_call 75; refine (CallsIn.inRound l (callsIn_wide.2 (HR.out _))).mono ?_; rintro e w' ⟨rfl, rfl⟩)
              | (gi_at_builtin; refine wpListIn_append_own _ rfl _ _ 47 rfl (w.heap.size + 1) 9 i0 (.string ⟨#[]⟩) 1 16 Tryz.underlying47 hi hz0 hz1 hz2 rfl (by decide) _ _ _ rfl (hrow.alloc _) ⟨W.heap.size, 0, none⟩ 1 1 [.string ddB] rfl rfl (cell_one_new _ _ _) (by simp [Value.oneCell']) (by unfold maxLen; omega) (by omega) (by simp; omega) ?_; intro v' w1 hown' hgrow _; obtain ⟨g', cap', rfl⟩ := ownsRow_succ hown'; obtain ⟨hv1, hv2, hr2, hk2, hb2⟩ := hv.appended (by decide) hrow hB' (Nat.le_refl _) hown' hgrow; have hc1 := hv1.cell; have hf1 := hv1.frozen))
            exact ⟨hk2.from _, hb2, ⟨_, hv2, by rw [HV.out HE.out, HE.out]; simpa using hr2, trivial⟩, hB.trans hb2⟩
          · gi_wp2_with (refine ⟨trivial, ?_⟩; gi_at_call 75; refine (CallsIn.inRound l (callsIn_wide.2 (HR.out _))).mono ?_; rintro e w' ⟨rfl, rfl⟩)
            exact ⟨KeepsFrom.refl _ _, Below.refl _ _, ⟨_, hv, by rw [HU.out HE.out, HE.out]; exact hrow, trivial⟩, hB⟩
        · obtain ⟨g, cap, rfl, hbg, hgW, hcap, hcell⟩ := owns_at hrow hne
          obtain ⟨m, hm⟩ : ∃ m, (kept r pre).length = m + 1 := ⟨(kept r pre).length - 1, by have := List.length_pos_iff.2 hne; omega⟩
          obtain ⟨y, hy⟩ : ∃ y, y = (kept r pre)[m]'(by omega) := ⟨_, rfl⟩
          have hcy : W.cell? ⟨g, m, none⟩ = some (.string y) := by rw [hy]; exact hcell m (by omega)
          have hlast : (kept r pre).getLast? = some y := by
            rw [List.getLast?_eq_getElem?, hm, hy]
            exact List.getElem?_eq_getElem (by omega)
          have HM : Hid ((kept r pre).length = m + 1) := hm
          rw [hm] at hrow hv hc hcap hkl
          have hm6 : m ≤ 2000000 := by omega
          by_cases hyd : y = ddB
          · have HU : Hid (r = true → kept r (pre ++ [ddB]) = kept r pre) := by
              intro e; subst e; exact kept_upr pre (.inr (by rw [hlast, hyd]))
            have HV : Hid (r = false → kept r (pre ++ [ddB]) = kept r pre ++ [ddB]) := by
              intro e; subst e; exact kept_up pre (.inr (by rw [hlast, hyd]))
            subst hyd
            clear hy hcell hlast hne hm
            have hmI : (m : Int) < ((m + 1 : Nat) : Int) := by omega
            cases r
            · gi_wp2_with (first
                | (refine ⟨trivial, ?_⟩; gi_at_call 75; refine (CallsIn.inRound l (callsIn_wide.2 (HR.out _))).mono ?_; rintro e w' ⟨rfl, rfl⟩)
                | (gi_at_builtin; refine wpListIn_append_own _ rfl _ _ 47 rfl (w.heap.size + 1) 9 i0 (.string ⟨#[]⟩) 1 16 Tryz.underlying47 hi hz0 hz1 hz2 rfl (by decide) _ _ _ rfl (hrow.alloc _) ⟨W.heap.size, 0, none⟩ 1 1 [.string ddB] rfl rfl (cell_one_new _ _ _) (by simp [Value.oneCell']) (by unfold maxLen; omega) (by omega) (by simp; omega) ?_; intro v' w1 hown' hgrow _; obtain ⟨g', cap', rfl⟩ := ownsRow_succ hown'; obtain ⟨hv1, hv2, hr2, hk2, hb2⟩ := hv.appended (by decide) hrow hB' (Nat.le_refl _) hown' hgrow; have hc1 := hv1.cell; have hf1 := hv1.frozen))
              exact ⟨hk2.from _, hb2, ⟨_, hv2, by rw [HV.out (by first | rfl | trivial), List.length_append, HM.out]; simpa using hr2, trivial⟩, hB.trans hb2⟩
            · gi_wp2_with (refine ⟨trivial, ?_⟩; gi_at_call 75; refine (CallsIn.inRound l (callsIn_wide.2 (HR.out _))).mono ?_; rintro e w' ⟨rfl, rfl⟩)
              exact ⟨KeepsFrom.refl _ _, Below.refl _ _, ⟨_, hv, by rw [HU.out (by first | rfl | trivial), HM.out]; exact hrow, trivial⟩, hB⟩
          · have HK : Hid (kept r (pre ++ [ddB]) = (kept r pre).dropLast) := kept_pop r pre hne (by rw [hlast]; simpa using hyd)
            have t3 : (y.toList == [46, 46]) = false := by
              rw [Lib.toList_data, beq_eq_false_iff_ne]; exact fun e => hyd (bl_dd.1 e)
            have t3' : ¬ y.toList = [46, 46] := by simpa using t3
            clear hy hcell hlast hne hm hyd
            have hf := hv.frozen
            have hmI : (m : Int) < ((m + 1 : Nat) : Int) := by omega
            gi_wp2
            have hr1 := owns_pop hrow (m := m) (by omega)
            have hr2 := hr1.kept (grownBy_setCell' W (w.heap.size + 1) (.slice (some ⟨g, 0, none⟩) m cap)) (.inr (hv.not_row (by decide) hr1).symm)
            have hkm : (kept r pre).dropLast.map Value.string = ((kept r pre).map Value.string).take m := by
              rw [List.map_dropLast, List.dropLast_eq_take, List.length_map, HM.out]; rfl
            have hkn : (kept r pre).dropLast.length = m := by rw [List.length_dropLast, HM.out]; rfl
            exact ⟨(KeepsOthers.setCell _ _ _).from _, (Below.refl _ W).setCell (p := ⟨w.heap.size + 1, 0, none⟩) (Nat.le_refl _) _, ⟨_, hv.set _, by rw [HK.out, hkm, hkn]; exact hr2, trivial⟩, hB.setCell (p := ⟨w.heap.size + 1, 0, none⟩) (Nat.le_refl _) _⟩
      · have HK : Hid (kept r (pre ++ [x]) = kept r pre ++ [x]) := kept_push r pre h1 h2 h3
        have t1 : ¬ x.toList = [] := by rw [Lib.toList_data]; exact fun e => h1 (bl_E.1 e)
        have t1' : x.toList.isEmpty = false := by simpa using t1
        have t2 : (x.toList == [46]) = false := by rw [Lib.toList_data, beq_eq_false_iff_ne]; exact fun e => h2 (bl_dot.1 e)
        have t3 : (x.toList == [46, 46]) = false := by rw [Lib.toList_data, beq_eq_false_iff_ne]; exact fun e => h3 (bl_dd.1 e)
        have t3' : ¬ x.toList = [46, 46] := by simpa using t3
        clear h1 h2 h3
        obtain ⟨k, hk⟩ : ∃ k, k = (kept r pre).length := ⟨_, rfl⟩
        have HL : Hid (k = (kept r pre).length) := hk
        rw [← hk] at hrow hkl
        clear hk
        obtain ⟨a, cap, rfl⟩ := owns_slice hrow
        gi_wp2_with (gi_at_builtin; refine wpListIn_append_own _ rfl _ _ 47 rfl (w.heap.size + 1) 9 i0 (.string ⟨#[]⟩) 1 16 Tryz.underlying47 hi hz0 hz1 hz2 rfl (by decide) _ _ _ rfl (hrow.alloc _) ⟨W.heap.size, 0, none⟩ 1 1 [.string x] rfl rfl (cell_one_new _ _ _) (by simp [Value.oneCell']) (by unfold maxLen; omega) (by omega) (by simp; omega) ?_; intro v' w1 hown' hgrow _; obtain ⟨g', cap', rfl⟩ := ownsRow_succ hown'; obtain ⟨hv1, hv2, hr2, hk2, hb2⟩ := hv.appended (by decide) hrow hB' (Nat.le_refl _) hown' hgrow; have hc1 := hv1.cell; have hf1 := hv1.frozen)
        exact ⟨hk2.from _, hb2, ⟨_, hv2, by rw [HK.out, List.length_append, ← HL.out]; simpa using hr2, trivial⟩, hB.trans hb2⟩
  case done =>
    rintro D ys W hD rfl ⟨⟨v, hv, hrow, -⟩, hB⟩ hK
    have hc := hv.cell
    have HW : Hid (kept r (pieces p) = parts p) := HP
    gi_wp2
    refine ⟨by simp, .inl ⟨_, _, rfl, run_takeDeferred hK, ?_⟩⟩
    rw [HW.out] at hrow
    have hB2 : Below (w.heap.size + 1) (w.alloc (.cells #[.string p] 9)) _ := hB.trans (belowK_b (w := w.alloc (.cells #[.string p] 9)) (by simp) W D _ (.deferred none) (by simp at hD ⊢; omega) hK rfl rfl)
    refine ⟨_, results_tmp rfl _ _ _, v, rfl, ?_, below_out rfl hB2⟩
    exact owns_base (ownsRow_putObj hrow (.deferred none) hK rfl) (by omega)
  case stop =>
    rintro D c pre W _ _ h _
    exact h.elim
end Go.Proofs.YtoibdokedhbjpaaGreat
