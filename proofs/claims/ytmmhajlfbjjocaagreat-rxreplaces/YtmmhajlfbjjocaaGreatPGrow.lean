/-
  Rows of steps, one behind the other.
-/
import Derived.Test.YtmmhajlfbjjocaaGreatPFind
namespace Go.Proofs.YtmmhajlfbjjocaaGreat
open Go.RowKit Go.Shelf RxSem

theorem infoSt : (Tryz.prog.info? 96).map (fun i => (i.zero, i.size, i.bytes)) = some (some (.agg #[.int .i64 0, .int .u64 0, .int .u64 0, .int .u64 0, .int .u64 0, .int .i64 0, .int .i64 0]), 7, 56) := by kernel_rfl
/-- A row of steps. -/
def Row (base : Nat) (v : Value) (L : List SV) (w : World) : Prop := w.ownsRow base 96 7 v L.length (L.flatMap stepC)
theorem stepC_len (x : SV) : (stepC x).length = 7 := rfl
theorem stepC_one (L : List SV) : ∀ u ∈ L.flatMap stepC, u.oneCell' = true := by
  intro u hu
  obtain ⟨x, _, hx⟩ := List.mem_flatMap.1 hu
  simp [stepC] at hx
  rcases hx with rfl | rfl | rfl | rfl | rfl | rfl | rfl <;> rfl

set_option maxRecDepth 20000 in
set_option maxHeartbeats 400000 in
theorem grow_any (n : Nat) (hn1 : 1 ≤ n) (hn : n ≤ 100000) (w : World) : Calls Tryz.prog 96 #[.slice none 0 0, .int .i64 (n : Int)] w fun e w' => ∃ v, e = .returned v ∧ Row w.heap.size v [] w' ∧ Below w.heap.size w w' := by
  have hT : Tryz.t96.bytes = 56 := by kernel_rfl
  have hnc : Builtin.nextslicecap n 0 = n := by unfold Builtin.nextslicecap; simp; omega
  have hn0 : ¬ (n : Int) < 0 := by omega
  have hn2 : (0 : Int) < (n : Int) := by omega
  go_enter Tryz.func96, Tryz.ntmps96
  go_wp2_with fail
  all_goals first
    | (exfalso; rename_i a1 a2 a3; simp only [hT, hnc] at *; omega)
    | skip
  go_ret
  have hg1 : n ≤ (Question.appendCap n 0 96).cut (w.tape w.drawn (Question.appendCap n 0 96)) := grownCap_ge w n 0 96
  have hg2 : (Question.appendCap n 0 96).cut (w.tape w.drawn (Question.appendCap n 0 96)) ≤ maxLen := grownCap_le_maxLen w n 0 96 (by unfold maxLen; omega)
  generalize (Question.appendCap n 0 96).cut (w.tape w.drawn (Question.appendCap n 0 96)) = C at hg1 hg2 ⊢
  refine ⟨_, rfl, ⟨rfl, .inr ⟨w.heap.size, C, _, rfl, Nat.le_refl _, heap_alloc_new _ _, Nat.zero_le _, hg2, ?_, by simp⟩⟩, ((Below.refl _ _).alloc (Nat.le_refl _) _).drew⟩
  rw [Array.size_append, size_zeroCells, size_zeroCells]
  simp
  omega

/-- The slices that are handed over. -/
def Parts (ga : Nat) (Vs : List (Value × List SV)) (w : World) : Prop := w.heap[ga]? = some (.cells (Vs.map (·.1)).toArray 61 (0, 0)) ∧ ∀ x ∈ Vs, Row 0 x.1 x.2 w
set_option maxRecDepth 20000 in
set_option maxHeartbeats 400000 in
theorem concat_any (ga : Nat) (Vs : List (Value × List SV)) (w : World) (h : Parts ga Vs w) (h1 : 1 ≤ (Vs.flatMap (·.2)).length) (h2 : (Vs.flatMap (·.2)).length ≤ 100000) (h3 : Vs.length ≤ 10) : Calls Tryz.prog 83 #[.slice (some ⟨ga, 0, none⟩) Vs.length Vs.length] w fun e w' => ∃ v, e = .returned v ∧ Row w.heap.size v (Vs.flatMap (·.2)) w' ∧ Below w.heap.size w w' := by
  obtain ⟨i0, hif, hz0, hz1, hz2⟩ := info_parts infoSt
  obtain ⟨n, hn⟩ : ∃ n, n = Vs.length := ⟨_, rfl⟩
  have hcell : ∀ (W : World), Parts ga Vs W → ∀ i (hi : i < Vs.length), W.cell? ⟨ga, i, none⟩ = some Vs[i].1 := fun W hW i hi => by
    simp only [World.cell?, hW.1]
    simp [hi]
  have hsum : ∀ i, i ≤ Vs.length → ((Vs.take i).flatMap (·.2)).length ≤ 100000 := fun i hi => by
    have e : (Vs.flatMap (·.2)).length = ((Vs.take i).flatMap (·.2)).length + ((Vs.drop i).flatMap (·.2)).length := by
      rw [← List.length_append, ← List.flatMap_append, List.take_append_drop]
    omega
  have hnext : ∀ i (hi : i < Vs.length), (Vs.take (i + 1)).flatMap (·.2) = (Vs.take i).flatMap (·.2) ++ Vs[i].2 := fun i hi => by
    rw [List.take_succ_eq_append_getElem hi, List.flatMap_append]; simp
  have HG : Hid (∀ W m, 1 ≤ m → m ≤ 100000 → Calls Tryz.prog 96 #[.slice none 0 0, .int .i64 ((m : Nat) : Int)] W fun e w' => ∃ v, e = .returned v ∧ Row W.heap.size v [] w' ∧ Below W.heap.size W w') := fun W m a b => grow_any m a b W
  have HH : Hid (n = Vs.length ∧ Parts ga Vs w ∧ _ ∧ _ ∧ _ ∧ 1 ≤ (Vs.flatMap (·.2)).length ∧ (Vs.flatMap (·.2)).length ≤ 100000) := ⟨hn, h, hcell, hsum, hnext, h1, h2⟩
  rw [← hn] at h3 ⊢
  clear h h1 h2 hn hcell hsum hnext
  go_enter Tryz.func83, Tryz.ntmps83
  go_wp2_with fail
  go_loopw [3, 11] (fun vs vi wr => ∃ k : Nat, k ≤ n ∧ vi = .int .i64 (k : Int) ∧ vs = .int .i64 ((((Vs.take k).flatMap (·.2)).length : Nat) : Int) ∧ wr = w) (fun _ vi _ => n - (intOf vi).toNat)
  case atStart => exact ⟨0, Nat.zero_le _, rfl, rfl, rfl⟩
  case round =>
    obtain ⟨k, hk, rfl, rfl, hwr⟩ := hrel
    have hwr2 := hwr.symm
    clear hwr
    subst hwr2
    by_cases hlt : k < n
    · have hl2 : (k : Int) < (n : Int) := by omega
      have hkV : k < Vs.length := by rw [← HH.out.1]; exact hlt
      have e0 := HH.out.2.2.1 w HH.out.2.1 k hkV
      have hrw := HH.out.2.1.2 Vs[k] (List.getElem_mem hkV)
      obtain ⟨a, c, hv⟩ := row_slice hrw
      rw [hv] at e0
      have hs1 := HH.out.2.2.2.1 k (by omega)
      have hs2 := HH.out.2.2.2.1 (k + 1) (by omega)
      rw [HH.out.2.2.2.2.1 k hkV, List.length_append] at hs2
      obtain ⟨m, hm⟩ : ∃ m, m = ((Vs.take k).flatMap (·.2)).length := ⟨_, rfl⟩
      obtain ⟨m2, hm2⟩ : ∃ m, m = Vs[k].2.length := ⟨_, rfl⟩
      rw [← hm] at hs1 hs2
      rw [← hm2] at hs2 e0
      have HM : Hid (m = ((Vs.take k).flatMap (·.2)).length ∧ m2 = Vs[k].2.length) := ⟨hm, hm2⟩
      rw [← hm]
      clear hm hm2 hv hrw
      go_wp2_with fail
      go_roundw
      case rel =>
        refine ⟨k + 1, by omega, by go_num, ?_, trivial⟩
        rw [HH.out.2.2.2.2.1 k hkV, List.length_append, ← HM.out.1, ← HM.out.2]
        go_num
      case measure => simp [intOf]; omega
    · have hl2 : ¬ (k : Int) < (n : Int) := by omega
      have hkn : k = n := by omega
      have hfull : (Vs.take k).flatMap (·.2) = Vs.flatMap (·.2) := by rw [hkn, HH.out.1, List.take_length]
      rw [hfull]
      obtain ⟨m, hm⟩ : ∃ m, m = (Vs.flatMap (·.2)).length := ⟨_, rfl⟩
      have HM : Hid (m = (Vs.flatMap (·.2)).length) := hm
      have hm1 : 1 ≤ m := by rw [hm]; exact HH.out.2.2.2.2.2.1
      have hm2 : m ≤ 100000 := by rw [hm]; exact HH.out.2.2.2.2.2.2
      rw [← hm]
      clear hm hfull
      go_wp2_with fail
      refine (HG.out w m hm1 hm2).mono ?_
      rintro e w1 ⟨v0, rfl, hr0, hb0⟩
      have H0 : Hid (Row w.heap.size v0 [] w1 ∧ Below w.heap.size w w1) := ⟨hr0, hb0⟩
      clear hr0 hb0 HG
      go_wp2_with fail
      go_loopw [6, 27] (fun vs vi w2 => ∃ k : Nat, k ≤ n ∧ vi = .int .i64 (k : Int) ∧ Row w.heap.size vs ((Vs.take k).flatMap (·.2)) w2 ∧ Below w.heap.size w w2) (fun _ vi _ => n - (intOf vi).toNat)
      case atStart => exact ⟨0, Nat.zero_le _, rfl, H0.out.1, H0.out.2⟩
      case round =>
        obtain ⟨k, hk, rfl, hrow, hbel⟩ := hrel
        by_cases hlt3 : k < n
        · have hl3 : (k : Int) < (n : Int) := by omega
          have hkV : k < Vs.length := by rw [← HH.out.1]; exact hlt3
          have hP : Parts ga Vs wr := ⟨(hbel.block ga (Array.getElem?_eq_some_iff.1 HH.out.2.1.1).1).trans HH.out.2.1.1, fun x hx => owns_below (HH.out.2.1.2 x hx) hbel⟩
          have e0 := HH.out.2.2.1 wr hP k hkV
          have hrw := hP.2 Vs[k] (List.getElem_mem hkV)
          have hs1 := HH.out.2.2.2.1 k (by omega)
          have hs2 := HH.out.2.2.2.1 (k + 1) (by omega)
          have hnx := HH.out.2.2.2.2.1 k hkV
          rw [hnx, List.length_append] at hs2
          obtain ⟨x, hx⟩ : ∃ x, x = Vs[k] := ⟨_, rfl⟩
          rw [← hx] at e0 hrw hs2 hnx
          obtain ⟨A, hA⟩ : ∃ A, A = (Vs.take k).flatMap (·.2) := ⟨_, rfl⟩
          rw [← hA] at hs1 hs2 hnx hrow
          obtain ⟨m, hm'⟩ : ∃ m, m = A.length := ⟨_, rfl⟩
          have hrow' : wr.ownsRow w.heap.size 96 7 u6 m (A.flatMap stepC) := by rw [hm']; exact hrow
          obtain ⟨a6, c6, hv6⟩ := row_slice hrow'
          subst hv6
          have HZ : Hid ((Vs.take (k + 1)).flatMap (·.2) = A ++ x.2 ∧ m = A.length ∧ Below w.heap.size w wr) := ⟨hnx, hm', hbel⟩
          have hbs := hbel.size
          rw [← hm'] at hs1 hs2
          clear hnx hx hA hm' hrow hbel
          rcases hrw.2 with ⟨hv, hl0⟩ | ⟨g, cap', cur, hv, hg0, hgg, hcl, hcm, hcs, hct⟩
          · rw [hv] at e0
            have hx0 : x.2 = [] := List.length_eq_zero_iff.1 hl0
            have HX0 : Hid (x.2 = []) := hx0
            clear hx0
            go_wp2_with (first | (at_builtin; refine wpList_append_own_none rfl _ _ 61 rfl w.heap.size 96 i0 7 Tryz.underlying61 hif _ _ _ rfl hrow' rfl ?_) | fail)
            go_roundw
            case rel =>
              refine ⟨k + 1, by omega, by go_num, ?_, HZ.out.2.2⟩
              rw [HZ.out.1, HX0.out, List.append_nil]
              unfold Row
              rw [← HZ.out.2.1]; exact hrow'
            case measure => simp [intOf]; omega
          · rw [hv] at e0
            obtain ⟨m2, hm2'⟩ : ∃ m, m = x.2.length := ⟨_, rfl⟩
            rw [← hm2'] at e0 hs2
            have hrw2 : wr.ownsRow 0 96 7 (.slice (some ⟨g, 0, none⟩) m2 cap') m2 (x.2.flatMap stepC) := by rw [hm2', ← hv]; exact hrw
            have HX0 : Hid (m2 = x.2.length) := hm2'
            clear hrw hgg hcs hct hv hcl hcm hm2'
            go_wp2_with (first | (at_builtin; refine wpList_append_own_at _ rfl _ _ 61 rfl w.heap.size 96 i0 (.agg #[.int .i64 0, .int .u64 0, .int .u64 0, .int .u64 0, .int .u64 0, .int .i64 0, .int .i64 0]) 7 56 Tryz.underlying61 hif hz0 hz1 hz2 rfl (by decide) _ _ _ rfl hrow' ⟨g, 0, none⟩ m2 cap' (x.2.flatMap stepC) rfl (by rw [flat_len2 stepC 7 (fun _ => rfl), ← HX0.out, Nat.mul_comm]) (fun j u hj => hrw2.cells rfl j u hj) (stepC_one _) (by unfold maxLen; omega) (by omega) hbs ?_) | fail)
            intro v9 w9 hown' hgrow _ hloc
            obtain ⟨a9, c9, hv9⟩ := row_slice hown'
            subst hv9
            have H9 : Hid (w9.ownsRow w.heap.size 96 7 (.slice a9 (m + m2) c9) (m + m2) (A.flatMap stepC ++ x.2.flatMap stepC) ∧ Below w.heap.size w w9) := by
              refine ⟨hown', hgrow.os.trans HZ.out.2.2.os, hgrow.tape.trans HZ.out.2.2.tape, hgrow.output.trans HZ.out.2.2.output, Nat.le_trans HZ.out.2.2.size hgrow.size, fun j hj => ?_⟩
              rw [hgrow.block j (by omega) (fun e => by have := (hrow'.lt j e.symm).1; omega)]
              exact HZ.out.2.2.block j hj
            clear hown' hgrow hloc hrow' hrw2
            go_wp2_with fail
            go_roundw
            case rel =>
              refine ⟨k + 1, by omega, by go_num, ?_, H9.out.2⟩
              rw [HZ.out.1]
              unfold Row
              rw [List.flatMap_append, List.length_append, ← HZ.out.2.1, ← HX0.out]
              exact H9.out.1
            case measure => simp [intOf]; omega
        · have hl3 : ¬ (k : Int) < (n : Int) := by omega
          have HF : Hid (Row w.heap.size u6 (Vs.flatMap (·.2)) wr ∧ Below w.heap.size w wr) := by
            have hkn2 : k = n := by omega
            rw [hkn2, HH.out.1, List.take_length] at hrow
            exact ⟨hrow, hbel⟩
          clear hrow hbel
          go_wp2_with fail
          go_ret
          exact ⟨_, rfl, HF.out⟩
end Go.Proofs.YtmmhajlfbjjocaaGreat
