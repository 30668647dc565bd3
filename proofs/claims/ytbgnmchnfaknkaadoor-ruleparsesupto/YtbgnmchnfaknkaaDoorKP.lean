/-
  RuleParses.
-/
import Derived.Test.YtbgnmchnfaknkaaDoorK14
import Derived.Test.YtbgnmchnfaknkaaDoorKX
namespace Go.Proofs.YtbgnmchnfaknkaaDoor
open Go.RowKit Go.Shelf

set_option maxRecDepth 20000 in
set_option maxHeartbeats 2000000 in
theorem parses_law (s : ByteArray) (at_ : Int) (w : World) (hs : s.size ≤ 4000000) (hm : Mx w) :
    Calls Tryd.prog 3 #[.string s, .int .i64 at_] w fun e w' => e = .returned (.bool true) ∧ Below w.heap.size w w' := by
  have hl := ruP_sizes s at_ 4000000 hs
  obtain ⟨y, hy⟩ : ∃ y : Int, y = (Q.whyP (bl s) : Nat) := ⟨_, rfl⟩
  obtain ⟨z, hz⟩ : ∃ z : Int, z = Q.faultAt (bl s) at_ := ⟨_, rfl⟩
  obtain ⟨r, hr⟩ : ∃ r, r = Q.ruP (bl s) at_ := ⟨_, rfl⟩
  have HP : Hid (Calls Tryd.prog 7 #[.string s, .int .i64 at_] w fun e w' => ∃ v, e = .returned (.tuple #[v, .agg #[.int .i64 y, .int .i64 z]]) ∧ RuV w'.heap.size w' v r ∧ Below w.heap.size w w') := by
    rw [hy, hz, hr]; exact parse_any s at_ w hs hm
  have HR : Hid (∀ W, Mx W → Calls Tryd.prog 8 #[.string s, .int .i64 at_] W fun e w' => ∃ v, e = .returned (.tuple #[v, .agg #[.int .i64 y, .int .i64 z]]) ∧ RuV w'.heap.size w' v r ∧ Below W.heap.size W w') := by
    rw [hy, hz, hr]; exact fun W h => rparse_any s at_ W hs h
  rw [← hr] at hl
  have HS : Hid (∀ W v v', RuV W.heap.size W v r → RuV W.heap.size W v' r → Calls Tryd.prog 9 #[v, v'] W fun e w' => e = .returned (.bool true) ∧ Below W.heap.size W w') := fun W v v' h1 h2 => rsame_any r v v' W h1 h2 (by omega) (by omega) (by omega)
  have HA : Hid (∀ W, Below w.heap.size w W → Calls Tryd.prog 10 #[] W fun e w' => e = .returned (.bool true) ∧ Below W.heap.size W w') := fun W hW => alive_any W (hm.below hW hm.pos)
  have HM : Hid (∀ W, Below w.heap.size w W → Mx W) := fun W hW => hm.below hW hm.pos
  have heq : ∀ W, Sem.run Tryd.prog (binOp .eql 27 (.agg #[.int .i64 y, .int .i64 z]) (.agg #[.int .i64 y, .int .i64 z])) W = .ok (.bool true) W := fun W => by rw [eqlFault]; simp
  clear hl hy hz hr hm hs
  obtain ⟨kd, hkd⟩ : ∃ k, k = r.kind := ⟨_, rfl⟩
  obtain ⟨ra, hra⟩ : ∃ k, k = r.at_ := ⟨_, rfl⟩
  have HK : Hid (∀ B W v, RuV B W v r → ∃ ta tn tc sa sn sc ca cn cc, v = .agg #[.slice ta tn tc, .int .i64 kd, .slice sa sn sc, .slice ca cn cc, .int .i64 ra]) := by
    rintro B W v ⟨vt, vs, vc, rfl, ⟨a1, n1, c1, rfl, _⟩, ⟨a2, n2, c2, rfl, _⟩, ⟨a3, n3, c3, rfl, _⟩⟩
    exact ⟨a1, n1, c1, a2, n2, c2, a3, n3, c3, by rw [hkd, hra]⟩
  clear hkd hra
  go_enter Tryd.func3, Tryd.ntmps3
  go_wp2_with fail
  refine HP.out.mono ?_
  rintro e w1 ⟨v, rfl, hv, h1⟩
  obtain ⟨ta, tn, tc, sa, sn, sc, ca, cn, cc, rfl⟩ := HK.out _ _ _ hv
  have HV : Hid (RuV w1.heap.size w1 (.agg #[.slice ta tn tc, .int .i64 kd, .slice sa sn sc, .slice ca cn cc, .int .i64 ra]) r) := hv
  have HB : Hid (Below w.heap.size w w1) := h1
  clear hv h1 HP
  go_wp2_with fail
  obtain ⟨W1, hW1⟩ : ∃ W1, W1 = (w1.alloc (.cells #[.slice ta tn tc, .int .i64 kd, .slice sa sn sc, .slice ca cn cc, .int .i64 ra] 24)).alloc (.cells #[.int .i64 y, .int .i64 z] 27) := ⟨_, rfl⟩
  have hb1 : Below w1.heap.size w1 W1 := by rw [hW1]; exact (below_alloc1 _ _).alloc (by simp) _
  have e1 : W1.heap[w1.heap.size]? = some (.cells #[.slice ta tn tc, .int .i64 kd, .slice sa sn sc, .slice ca cn cc, .int .i64 ra] 24 (0, 0)) := by
    rw [hW1, Below.heap_alloc _ _ _ (by simp)]; exact alloc_b rfl
  have e2 : W1.heap[w1.heap.size + 1]? = some (.cells #[.int .i64 y, .int .i64 z] 27 (0, 0)) := by
    rw [hW1]; exact alloc_b (by simp)
  have HB1 : Hid (Below w.heap.size w W1) := below_trans HB.out hb1 HB.out.size
  have HV1 : Hid (RuV W1.heap.size W1 (.agg #[.slice ta tn tc, .int .i64 kd, .slice sa sn sc, .slice ca cn cc, .int .i64 ra]) r) := (HV.out.below hb1).mono hb1.size
  rw [← hW1]
  clear hW1 hb1 HV HB
  refine (HR.out W1 (HM.out _ HB1.out)).mono ?_
  rintro e w2 ⟨v, rfl, hv, h2⟩
  obtain ⟨ta', tn', tc', sa', sn', sc', ca', cn', cc', rfl⟩ := HK.out _ _ _ hv
  have g1 := (h2.block _ (Array.getElem?_eq_some_iff.1 e1).1).trans e1
  have g2 := (h2.block _ (Array.getElem?_eq_some_iff.1 e2).1).trans e2
  clear e1 e2
  have b0 := box_in2 g1 (.cells #[.slice ta' tn' tc', .int .i64 kd, .slice sa' sn' sc', .slice ca' cn' cc', .int .i64 ra] 24) (.cells #[.int .i64 y, .int .i64 z] 27) 0 rfl
  have b1 := box_in2 g1 (.cells #[.slice ta' tn' tc', .int .i64 kd, .slice sa' sn' sc', .slice ca' cn' cc', .int .i64 ra] 24) (.cells #[.int .i64 y, .int .i64 z] 27) 1 rfl
  have b2 := box_in2 g1 (.cells #[.slice ta' tn' tc', .int .i64 kd, .slice sa' sn' sc', .slice ca' cn' cc', .int .i64 ra] 24) (.cells #[.int .i64 y, .int .i64 z] 27) 2 rfl
  have b3 := box_in2 g1 (.cells #[.slice ta' tn' tc', .int .i64 kd, .slice sa' sn' sc', .slice ca' cn' cc', .int .i64 ra] 24) (.cells #[.int .i64 y, .int .i64 z] 27) 3 rfl
  have b4 := box_in2 g1 (.cells #[.slice ta' tn' tc', .int .i64 kd, .slice sa' sn' sc', .slice ca' cn' cc', .int .i64 ra] 24) (.cells #[.int .i64 y, .int .i64 z] 27) 4 rfl
  have b5 := box_in2 g2 (.cells #[.slice ta' tn' tc', .int .i64 kd, .slice sa' sn' sc', .slice ca' cn' cc', .int .i64 ra] 24) (.cells #[.int .i64 y, .int .i64 z] 27) 0 rfl
  have b6 := box_in2 g2 (.cells #[.slice ta' tn' tc', .int .i64 kd, .slice sa' sn' sc', .slice ca' cn' cc', .int .i64 ra] 24) (.cells #[.int .i64 y, .int .i64 z] 27) 1 rfl
  have hb3 : Below w2.heap.size w2 ((w2.alloc (.cells #[.slice ta' tn' tc', .int .i64 kd, .slice sa' sn' sc', .slice ca' cn' cc', .int .i64 ra] 24)).alloc (.cells #[.int .i64 y, .int .i64 z] 27)) := (below_alloc1 _ _).alloc (by simp) _
  have HB3 : Hid (Below w.heap.size w ((w2.alloc (.cells #[.slice ta' tn' tc', .int .i64 kd, .slice sa' sn' sc', .slice ca' cn' cc', .int .i64 ra] 24)).alloc (.cells #[.int .i64 y, .int .i64 z] 27))) :=
    below_trans (below_trans HB1.out h2 HB1.out.size) hb3 (Nat.le_trans HB1.out.size h2.size)
  have HV3 : Hid (RuV _ _ _ r ∧ RuV _ _ _ r) := ⟨(((HV1.out.below h2).mono h2.size).below hb3).mono hb3.size, (hv.below hb3).mono hb3.size⟩
  have HC : Hid (∀ w3, Below ((w2.alloc (.cells #[.slice ta' tn' tc', .int .i64 kd, .slice sa' sn' sc', .slice ca' cn' cc', .int .i64 ra] 24)).alloc (.cells #[.int .i64 y, .int .i64 z] 27)).heap.size ((w2.alloc (.cells #[.slice ta' tn' tc', .int .i64 kd, .slice sa' sn' sc', .slice ca' cn' cc', .int .i64 ra] 24)).alloc (.cells #[.int .i64 y, .int .i64 z] 27)) w3 → w3.cell? ⟨w1.heap.size + 1, 0, none⟩ = some (.int .i64 y) ∧ w3.cell? ⟨w1.heap.size + 1, 1, none⟩ = some (.int .i64 z) ∧ w3.cell? ⟨w2.heap.size + 1, 0, none⟩ = some (.int .i64 y) ∧ w3.cell? ⟨w2.heap.size + 1, 1, none⟩ = some (.int .i64 z)) := fun w3 h3 => by
    have q2 := (Array.getElem?_eq_some_iff.1 g2).1
    have q : ((w2.alloc (.cells #[.slice ta' tn' tc', .int .i64 kd, .slice sa' sn' sc', .slice ca' cn' cc', .int .i64 ra] 24)).alloc (.cells #[.int .i64 y, .int .i64 z] 27)).heap[w2.heap.size + 1]? = some (.cells #[.int .i64 y, .int .i64 z] 27 (0, 0)) := alloc_b (by simp)
    have q3 := (h3.block _ (Array.getElem?_eq_some_iff.1 q).1).trans q
    exact ⟨(h3.cell (by simp; omega)).trans b5, (h3.cell (by simp; omega)).trans b6, cell_in q3 0 rfl, cell_in q3 1 rfl⟩
  clear hb3 hv h2 HB1 HV1 g1 g2
  go_wp2_with fail
  refine (HS.out _ _ _ HV3.out.1 HV3.out.2).mono ?_
  rintro e w3 ⟨rfl, h3⟩
  have HB4 : Hid (Below w.heap.size w w3) := below_trans HB3.out h3 HB3.out.size
  obtain ⟨c1, c2, c3, c4⟩ := HC.out _ h3
  clear h3 b0 b1 b2 b3 b4 b5 b6 HC
  go_wp2_with fail
  refine (HA.out _ HB4.out).mono ?_
  rintro e w4 ⟨rfl, h4⟩
  have HB5 : Hid (Below w.heap.size w w4) := below_trans HB4.out h4 HB4.out.size
  clear h4
  go_wp2
  go_ret
  exact ⟨rfl, HB5.out⟩
end Go.Proofs.YtbgnmchnfaknkaaDoor
