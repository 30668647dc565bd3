/-
  That the package is alive.
-/
import Derived.Test.YtbgnmchnfaknkaaDoorK12
namespace Go.Proofs.YtbgnmchnfaknkaaDoor
open Go.RowKit Go.Shelf

abbrev aS : ByteArray := ⟨#[97, 32, 98, 58, 32, 99, 32, 100, 59, 32, 99, 109, 100, 32]⟩
theorem alive_why : Q.whyP (bl aS) = 0 ∧ Q.faultAt (bl aS) 3 = 0 ∧ Q.ruP (bl aS) 3 = ⟨[[97], [98]], 1, [[99], [100]], [[99, 109, 100]], 3⟩ := by
  refine ⟨by decide +kernel, by decide +kernel, ?_⟩
  kernel_rfl
theorem alloc_b {w : World} {o : Obj} {b : Nat} (h : b = w.heap.size) : (w.alloc o).heap[b]? = some o := by
  rw [h]; exact WD.alloc_at w o
theorem words_two {w : World} (x y : ByteArray) {b : Nat} (h : w.heap[b]? = some (.cells #[.string x, .string y] 9 (0, 0))) (hb : b < w.heap.size) : Words w.heap.size w (.slice (some ⟨b, 0, none⟩) 2 2) [x, y] :=
  ⟨some ⟨b, 0, none⟩, 2, 2, rfl, rfl, Nat.le_refl _, fun i hi => ⟨b, 0, rfl, hb, by
    match i, hi with
    | 0, _ => exact cell_in h 0 rfl
    | 1, _ => exact cell_in h 1 rfl⟩⟩

set_option maxRecDepth 20000 in
set_option maxHeartbeats 2000000 in
theorem alive_any (w : World) (hm : Mx w) :
    Calls Tryd.prog 10 #[] w fun e w' => e = .returned (.bool true) ∧ Below w.heap.size w w' := by
  have HP : Hid (∀ W, Mx W → Calls Tryd.prog 7 #[.string aS, .int .i64 3] W (ParsePost aS 3 W)) := fun W h => parse_any aS 3 W (by decide) h
  have HC : Hid (∀ W, Calls Tryd.prog 25 #[.string ⟨#[46, 79, 82, 68, 69, 82]⟩] W fun e w' => e = .returned (.int .i64 2) ∧ W = w') := fun W => by
    have := class_any ⟨#[46, 79, 82, 68, 69, 82]⟩ W
    rw [show classF (bl ⟨#[46, 79, 82, 68, 69, 82]⟩) = 2 by decide +kernel] at this
    exact this
  have HM : Hid (Mx w) := hm
  have heq := eqlFault
  clear hm
  go_enter Tryd.func10, Tryd.ntmps10
  go_wp2_with fail
  refine (HP.out _ HM.out).mono ?_
  rintro e w1 ⟨v, rfl, hv, h1⟩
  obtain ⟨y1, y2, y3⟩ := alive_why
  rw [y1, y2]
  rw [y3] at hv
  have HV : Hid (RuV w1.heap.size w1 v ⟨[[97], [98]], 1, [[99], [100]], [[99, 109, 100]], 3⟩) := hv
  obtain ⟨vt, vs, vc, rfl, a1, a2, a3⟩ := hv
  obtain ⟨ta, tn, tc, rfl⟩ : ∃ a n c, vt = .slice a n c := by obtain ⟨a, n, c, h, _⟩ := a1; exact ⟨a, n, c, h⟩
  obtain ⟨sa, sn, sc, rfl⟩ : ∃ a n c, vs = .slice a n c := by obtain ⟨a, n, c, h, _⟩ := a2; exact ⟨a, n, c, h⟩
  obtain ⟨ca, cn, cc, rfl⟩ : ∃ a n c, vc = .slice a n c := by obtain ⟨a, n, c, h, _⟩ := a3; exact ⟨a, n, c, h⟩
  have HB : Hid (Below w.heap.size w w1) := h1
  clear a1 a2 a3 h1 y1 y2 y3
  go_wp2_with fail
  obtain ⟨W, hW⟩ : ∃ W, W = (((((w1.alloc (.cells #[.slice ta tn tc, .int .i64 1, .slice sa sn sc, .slice ca cn cc, .int .i64 3] 24)).alloc (.cells #[.int .i64 0, .int .i64 0] 27)).alloc (.cells #[.string ⟨#[97]⟩, .string ⟨#[98]⟩] 9)).alloc (.cells #[.string ⟨#[99]⟩, .string ⟨#[100]⟩] 9)).alloc (.cells #[.string ⟨#[99, 109, 100]⟩] 9)) := ⟨_, rfl⟩
  have hb : Below w1.heap.size w1 W := by
    rw [hW]
    exact (((((Below.refl _ _).alloc (Nat.le_refl _) _).alloc (by simp) _).alloc (by simp; omega) _).alloc (by simp; omega) _).alloc (by simp; omega) _
  have e2 : W.heap[w1.heap.size + 1 + 1]? = some (.cells #[.string ⟨#[97]⟩, .string ⟨#[98]⟩] 9 (0, 0)) := by
    rw [hW, Below.heap_alloc _ _ _ (by simp), Below.heap_alloc _ _ _ (by simp)]; exact alloc_b (by simp)
  have e3 : W.heap[w1.heap.size + 1 + 1 + 1]? = some (.cells #[.string ⟨#[99]⟩, .string ⟨#[100]⟩] 9 (0, 0)) := by
    rw [hW, Below.heap_alloc _ _ _ (by simp)]; exact alloc_b (by simp)
  have e4 : W.heap[w1.heap.size + 1 + 1 + 1 + 1]? = some (.cells #[.string ⟨#[99, 109, 100]⟩] 9 (0, 0)) := by
    rw [hW]; exact alloc_b (by simp)
  have ez : W.heap.size = w1.heap.size + 5 := by rw [hW]; simp
  rw [← hW]
  have HS : Hid (Calls Tryd.prog 9 #[.agg #[.slice ta tn tc, .int .i64 1, .slice sa sn sc, .slice ca cn cc, .int .i64 3], .agg #[.slice (some ⟨w1.heap.size + 1 + 1, 0, none⟩) 2 2, .int .i64 1, .slice (some ⟨w1.heap.size + 1 + 1 + 1, 0, none⟩) 2 2, .slice (some ⟨w1.heap.size + 1 + 1 + 1 + 1, 0, none⟩) 1 1, .int .i64 3]] W fun e w' => e = .returned (.bool true) ∧ Below W.heap.size W w') := by
    refine rsame_any ⟨[[97], [98]], 1, [[99], [100]], [[99, 109, 100]], 3⟩ _ _ W ((HV.out.below hb).mono hb.size) ⟨_, _, _, rfl, ?_, ?_, ?_⟩ (by simp) (by simp) (by simp)
    · exact words_two _ _ e2 (by omega)
    · exact words_two _ _ e3 (by omega)
    · exact words_one _ e4 (by omega)
  have HB2 : Hid (Below w.heap.size w W) := below_trans HB.out hb HB.out.size
  clear hW hb e2 e3 e4 ez
  refine HS.out.mono ?_
  rintro e w2 ⟨rfl, h2⟩
  have HB3 : Hid (Below w.heap.size w w2) := below_trans HB2.out h2 HB2.out.size
  clear h2
  go_wp2_with (go_at_call 25; refine (HC.out _).mono ?_; rintro e w' ⟨rfl, rfl⟩)
  go_ret
  exact ⟨rfl, HB3.out⟩
end Go.Proofs.YtbgnmchnfaknkaaDoor
