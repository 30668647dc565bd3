/-
  The steps of an expression.
-/
import Derived.Test.YtmmhajlfbjjocaaGreatPWays
namespace Go.Proofs.YtmmhajlfbjjocaaGreat
open Go.RowKit Go.Shelf RxSem

set_option maxRecDepth 20000 in
set_option maxHeartbeats 1000000 in
theorem steps_any : StepsC := by
  intro L k v base w hrow hok hsp hL
  obtain ⟨i0, hif, hz0, hz1, hz2⟩ := info_parts infoSt
  obtain ⟨a, c, hv⟩ := row_slice hrow
  have HX : Hid (w.ownsRow base 98 8 v L.length (L.flatMap signC) ∧ (∀ x ∈ L, x.v.Ok) ∧ SP .ways (L.map SG.abs) k [] ∧ L.length ≤ 200) := ⟨hrow, hok, hsp, hL⟩
  obtain ⟨n, hn⟩ : ∃ n, n = L.length := ⟨_, rfl⟩
  rw [← hn] at hv
  subst hv
  have HN : Hid (n = L.length) := hn
  clear hrow hok hsp hL hn
  go_enter Tryz.func52, Tryz.ntmps52
  go_wp2_with fail
  obtain ⟨wa, hwa, hBa, hSa, hka⟩ := one_box w (.cells #[.slice a n c, .int .i64 0] 141)
  have hM : Mk w.heap.size base (.slice a n c) L 0 wa := ⟨hka, owns_below HX.out.1 hBa, HX.out.2.2.2⟩
  have HC := maker_any L.length 0 k [] wa (by omega) (Nat.zero_le _) hM HX.out.2.1 (by simpa using HX.out.2.2.1)
  have HB : Hid (Below w.heap.size w wa ∧ wa.heap.size = w.heap.size + 1) := ⟨hBa, hSa⟩
  rw [← hwa]
  clear hBa hSa hka hM hwa
  refine HC.mono ?_
  rintro e w1 ⟨v', A, j, rfl, hR, -, -, -, hw, hC, hok⟩
  have hAl : A.length ≤ 400 := by
    have h1 := HX.out.2.2.1.size
    have h2 := congrArg List.length hC
    have h3 := HX.out.2.2.2
    simp [lenOf] at h1 h2
    omega
  obtain ⟨m, hm⟩ : ∃ m, m = A.length := ⟨_, rfl⟩
  have hr1 : w1.ownsRow wa.heap.size 96 7 v' m (A.flatMap stepC) := by rw [hm]; exact hR
  obtain ⟨a1, c1, hv1⟩ := row_slice hr1
  rw [← hm] at hAl
  have hsz : wa.heap.size ≤ w1.heap.size := hw.size
  have H1 : Hid (Wrote w.heap.size wa w1 ∧ A.map SV.abs = code (.alt k) ∧ (∀ x ∈ A, x.Ok) ∧ m = A.length) := ⟨hw, hC, hok, hm⟩
  subst hv1
  clear hR hw hC hok hm HC
  go_wp2_with (first | (at_builtin; refine wpList_append_own_at _ rfl _ _ 61 rfl wa.heap.size 96 i0 (.agg #[.int .i64 0, .int .u64 0, .int .u64 0, .int .u64 0, .int .u64 0, .int .i64 0, .int .i64 0]) 7 56 Tryz.underlying61 hif hz0 hz1 hz2 rfl (by decide) _ _ _ rfl (hr1.alloc _) ⟨w1.heap.size, 0, none⟩ 1 1 (stepC ⟨4, W4.zero, 0, 0⟩) rfl rfl ?c1 ?c2 ?c3 ?c4 ?c5 ?_) | fail)
  case c1 =>
    intro j u hj
    match j, hj with
    | 0, hj => simp [stepC, W4.zero] at hj; subst hj; simp [Addr.add]
    | 1, hj => simp [stepC, W4.zero] at hj; subst hj; simp [Addr.add]
    | 2, hj => simp [stepC, W4.zero] at hj; subst hj; simp [Addr.add]
    | 3, hj => simp [stepC, W4.zero] at hj; subst hj; simp [Addr.add]
    | 4, hj => simp [stepC, W4.zero] at hj; subst hj; simp [Addr.add]
    | 5, hj => simp [stepC, W4.zero] at hj; subst hj; simp [Addr.add]
    | 6, hj => simp [stepC, W4.zero] at hj; subst hj; simp [Addr.add]
    | j + 7, hj => simp [stepC, W4.zero] at hj
  case c2 => intro u hu; exact stepC_one [⟨4, W4.zero, 0, 0⟩] u (by simpa using hu)
  case c3 => unfold maxLen; omega
  case c4 => omega
  case c5 => simp; omega
  intro v9 w9 hown' hgrow hnil hloc
  have hs9 := hgrow.size
  have hb9 : Below wa.heap.size w1 w9 := ⟨hgrow.os, hgrow.tape, hgrow.output, by simp at hs9; omega, fun q hq => by
    rw [hgrow.block q (by simp; omega) (fun e => by have := (hr1.lt q e.symm).1; omega)]
    exact Below.heap_alloc _ _ _ (by omega)⟩
  have H9 : Hid (Row wa.heap.size v9 (A ++ [⟨4, W4.zero, 0, 0⟩]) w9 ∧ Below w.heap.size w w9) := by
    refine ⟨?_, ?_⟩
    · unfold Row
      rw [List.flatMap_append, List.length_append, ← H1.out.2.2.2]
      simpa using hown'
    · have hB1 : Below w.heap.size w w1 := by
        refine ⟨H1.out.1.os.trans HB.out.1.os, H1.out.1.tape.trans HB.out.1.tape, H1.out.1.output.trans HB.out.1.output, Nat.le_trans HB.out.1.size hsz, fun q hq => ?_⟩
        rw [H1.out.1.block q (by have := HB.out.2; omega) (by omega)]
        exact HB.out.1.block q hq
      exact hB1.trans (hb9.mono (by have := HB.out.2; omega))
  obtain ⟨a9, c9, hv9⟩ := row_slice hown'
  subst hv9
  clear hown' hgrow hnil hloc hr1 hb9 hs9
  go_wp2_with fail
  go_ret
  refine ⟨H9.out.2, ?_⟩
  rcases H9.out.1.2 with ⟨_, hl0⟩ | ⟨g3, cap', cur, hv, hg0, hgg, hcl, hcm, hcs, hct⟩
  · simp at hl0
  · refine ⟨g3, cap', A ++ [⟨4, W4.zero, 0, 0⟩], by rw [hv]; rfl, by have := HB.out.2; omega, ⟨cur, hgg, ?_⟩, ?_, ?_⟩
    · rw [← hct]; simp [Nat.mul_comm]
    · rw [List.map_append, H1.out.2.1]; rfl
    · intro x hx
      rcases List.mem_append.1 hx with hx | hx
      · exact H1.out.2.2.1 x hx
      · have : x = ⟨4, W4.zero, 0, 0⟩ := by simpa using hx
        rw [this]; exact ⟨W4.zero_ok, by simp, by simp, by simp⟩
end Go.Proofs.YtmmhajlfbjjocaaGreat
