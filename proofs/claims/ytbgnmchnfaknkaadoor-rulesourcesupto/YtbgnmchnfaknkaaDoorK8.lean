/-
  Rules in memory; what wrong answers.
-/
import Derived.Test.YtbgnmchnfaknkaaDoorK7
namespace Go.Proofs.YtbgnmchnfaknkaaDoor
open Go.RowKit Go.Shelf

/-- A value that reads as a rule, its rows below block B. -/
def RuV (B : Nat) (W : World) (v : Value) (r : Q.Ru) : Prop :=
  ∃ vt vs vc, v = .agg #[vt, .int .i64 r.kind, vs, vc, .int .i64 r.at_] ∧ Words B W vt (r.targets.map ba) ∧ Words B W vs (r.sources.map ba) ∧ Words B W vc (r.commands.map ba)
theorem RuV.below {B : Nat} {W W1 : World} {v : Value} {r : Q.Ru} (h : RuV B W v r) (hb : Below B W W1) : RuV B W1 v r := by
  obtain ⟨vt, vs, vc, e, h1, h2, h3⟩ := h
  exact ⟨vt, vs, vc, e, h1.below hb, h2.below hb, h3.below hb⟩
theorem RuV.mono {B B' : Nat} {W : World} {v : Value} {r : Q.Ru} (h : RuV B W v r) (hB : B ≤ B') : RuV B' W v r := by
  obtain ⟨vt, vs, vc, e, h1, h2, h3⟩ := h
  exact ⟨vt, vs, vc, e, h1.mono hB, h2.mono hB, h3.mono hB⟩
theorem Words.slice {B : Nat} {W : World} {v : Value} {l : List ByteArray} (h : Words B W v l) : ∃ a c, v = .slice a l.length c ∧ l.length ≤ c := by
  obtain ⟨a, n, c, h1, h2, h3, _⟩ := h
  exact ⟨a, c, by rw [h1, h2], by omega⟩
theorem words_nil (B : Nat) (W : World) : Words B W (.slice none 0 0) [] := ⟨none, 0, 0, rfl, rfl, Nat.le_refl _, fun i hi => by simp at hi⟩
theorem RuV.zero (B : Nat) (W : World) : RuV B W (.agg #[.slice none 0 0, .int .i64 0, .slice none 0 0, .slice none 0 0, .int .i64 0]) Q.Ru.zero :=
  ⟨_, _, _, rfl, words_nil B W, words_nil B W, words_nil B W⟩
theorem below_alloc1 (w : World) (o : Obj) : Below w.heap.size w (w.alloc o) := (Below.refl _ _).alloc (Nat.le_refl _) _

theorem why_14 {T S : List (List UInt8)} {k : Nat} (h : k = 0 ∨ T = [] ∨ Q.anyLong T = true ∨ Q.anyLong S = true) : Q.whyL T S k = 14 := by unfold Q.whyL; rw [if_pos h]
theorem why_5 {T S : List (List UInt8)} {k : Nat} (h1 : k ≠ 0) (h2 : T ≠ []) (h3 : Q.anyLong T = false) (h4 : Q.anyLong S = false) (h : 4096 < T.length ∨ 4096 < S.length) : Q.whyL T S k = 5 := by
  unfold Q.whyL; rw [if_neg (by simp [h1, h2, h3, h4]), if_pos h]
theorem why_0 {T S : List (List UInt8)} {k : Nat} (h1 : k ≠ 0) (h2 : T ≠ []) (h3 : Q.anyLong T = false) (h4 : Q.anyLong S = false) (h : ¬ 4096 < T.length) (h' : ¬ 4096 < S.length) : Q.whyL T S k = 0 := by
  unfold Q.whyL; rw [if_neg (by simp [h1, h2, h3, h4]), if_neg (by omega)]

set_option maxRecDepth 20000 in
set_option maxHeartbeats 2000000 in
theorem wrong_any (T S : List (List UInt8)) (k : Nat) (vt vs vc : Value) (at_ : Int) (w : World) (hk3 : k ≤ 3) (hTl : T.length ≤ 100000000) (hSl : S.length ≤ 100000000) (hT : Words w.heap.size w vt (T.map ba)) (hS : Words w.heap.size w vs (S.map ba)) :
    Calls Tryd.prog 20 #[.agg #[vt, .int .i64 (k : Int), vs, vc, .int .i64 at_]] w fun e w' => e = .returned (.int .i64 (Q.whyL T S k : Nat)) ∧ Below w.heap.size w w' := by
  obtain ⟨ta, tc, rfl, htc⟩ := hT.slice
  obtain ⟨sa, sc, rfl, hsc⟩ := hS.slice
  rw [List.length_map] at htc hsc
  have HB : Hid (Below w.heap.size w (w.alloc (.cells #[.slice ta (T.map ba).length tc, .int .i64 (k : Int), .slice sa (S.map ba).length sc, vc, .int .i64 at_] 24))) := below_alloc1 _ _
  have HT : Hid (Calls Tryd.prog 42 #[.slice ta (T.map ba).length tc, .func (.func 43) #[] #[]] (w.alloc (.cells #[.slice ta (T.map ba).length tc, .int .i64 (k : Int), .slice sa (S.map ba).length sc, vc, .int .i64 at_] 24)) fun e w' => e = .returned (.bool (Q.anyLong T)) ∧ (w.alloc (.cells #[.slice ta (T.map ba).length tc, .int .i64 (k : Int), .slice sa (S.map ba).length sc, vc, .int .i64 at_] 24)) = w') := by
    have := contf_any (T.map ba) _ _ _ (by rw [List.length_map]; exact hTl) (hT.below HB.out)
    rw [anyB_map] at this; exact this
  have HS : Hid (Calls Tryd.prog 42 #[.slice sa (S.map ba).length sc, .func (.func 43) #[] #[]] (w.alloc (.cells #[.slice ta (T.map ba).length tc, .int .i64 (k : Int), .slice sa (S.map ba).length sc, vc, .int .i64 at_] 24)) fun e w' => e = .returned (.bool (Q.anyLong S)) ∧ (w.alloc (.cells #[.slice ta (T.map ba).length tc, .int .i64 (k : Int), .slice sa (S.map ba).length sc, vc, .int .i64 at_] 24)) = w') := by
    have := contf_any (S.map ba) _ _ _ (by rw [List.length_map]; exact hSl) (hS.below HB.out)
    rw [anyB_map] at this; exact this
  clear hT hS
  rw [List.length_map, List.length_map] at HB HT HS
  rw [List.length_map, List.length_map]
  obtain ⟨n, hn⟩ : ∃ n, n = T.length := ⟨_, rfl⟩
  obtain ⟨m, hm⟩ : ∃ m, m = S.length := ⟨_, rfl⟩
  have HN : Hid (n = T.length ∧ m = S.length) := ⟨hn, hm⟩
  rw [← hn, ← hm] at HB HT HS
  rw [← hn] at hTl htc
  rw [← hm] at hSl hsc
  rw [← hn, ← hm]
  clear hn hm
  by_cases hk : k = 0
  · rw [why_14 (.inl hk)]
    subst hk
    clear HT HS
    go_enter Tryd.func20, Tryd.ntmps20
    go_wp2
    go_ret
    exact ⟨rfl, HB.out⟩
  · have hki : ¬ (k : Int) = 0 := by omega
    have hkb : ((k : Int) == 0) = false := by simpa using hki
    by_cases hT0 : T = []
    · rw [why_14 (.inr (.inl hT0))]
      have hn0 : n = 0 := by rw [HN.out.1, hT0]; rfl
      subst hn0
      clear HT HS hT0 hk
      go_enter Tryd.func20, Tryd.ntmps20
      go_wp2
      go_ret
      exact ⟨rfl, HB.out⟩
    · have hn0 : ¬ (n : Int) = 0 := by
        have h1 := List.length_pos_iff.2 hT0
        have h2 := HN.out.1
        omega
      have hnb : ((n : Int) == 0) = false := by simpa using hn0
      cases hTa : Q.anyLong T with
      | true =>
        rw [why_14 (.inr (.inr (.inl hTa)))]
        rw [hTa] at HT
        clear HS hT0 hk hTa
        go_enter Tryd.func20, Tryd.ntmps20
        go_wp2_with (go_at_call 42; refine HT.out.mono ?_; rintro e w' ⟨rfl, rfl⟩)
        go_ret
        exact ⟨rfl, HB.out⟩
      | false =>
        rw [hTa] at HT
        cases hSa : Q.anyLong S with
        | true =>
          rw [why_14 (.inr (.inr (.inr hSa)))]
          rw [hSa] at HS
          clear hT0 hk hTa hSa
          go_enter Tryd.func20, Tryd.ntmps20
          go_wp2_with fail
          refine HT.out.mono ?_
          rintro e w' ⟨rfl, rfl⟩
          go_wp2_with fail
          refine HS.out.mono ?_
          rintro e w' ⟨rfl, rfl⟩
          go_wp2
          go_ret
          exact ⟨rfl, HB.out⟩
        | false =>
          rw [hSa] at HS
          by_cases hl : 4096 < n
          · have hli : (4096 : Int) < (n : Int) := by omega
            rw [why_5 hk hT0 hTa hSa (.inl (by have := HN.out.1; omega))]
            clear hT0 hk hTa hSa
            go_enter Tryd.func20, Tryd.ntmps20
            go_wp2_with fail
            refine HT.out.mono ?_
            rintro e w' ⟨rfl, rfl⟩
            go_wp2_with fail
            refine HS.out.mono ?_
            rintro e w' ⟨rfl, rfl⟩
            go_wp2
            go_ret
            exact ⟨rfl, HB.out⟩
          · have hli : ¬ (4096 : Int) < (n : Int) := by omega
            by_cases hl2 : 4096 < m
            · have hli2 : (4096 : Int) < (m : Int) := by omega
              rw [why_5 hk hT0 hTa hSa (.inr (by have := HN.out.2; omega))]
              clear hT0 hk hTa hSa
              go_enter Tryd.func20, Tryd.ntmps20
              go_wp2_with fail
              refine HT.out.mono ?_
              rintro e w' ⟨rfl, rfl⟩
              go_wp2_with fail
              refine HS.out.mono ?_
              rintro e w' ⟨rfl, rfl⟩
              go_wp2
              go_ret
              exact ⟨rfl, HB.out⟩
            · have hli2 : ¬ (4096 : Int) < (m : Int) := by omega
              rw [why_0 hk hT0 hTa hSa (by have := HN.out.1; omega) (by have := HN.out.2; omega)]
              clear hT0 hk hTa hSa
              go_enter Tryd.func20, Tryd.ntmps20
              go_wp2_with fail
              refine HT.out.mono ?_
              rintro e w' ⟨rfl, rfl⟩
              go_wp2_with fail
              refine HS.out.mono ?_
              rintro e w' ⟨rfl, rfl⟩
              go_wp2
              go_ret
              exact ⟨rfl, HB.out⟩
end Go.Proofs.YtbgnmchnfaknkaaDoor
