/-
  LoopRounds at every two numbers.
-/
import Derived.Test.YtllpbehhbpefjaaDoorBA
namespace Go.Proofs.YtllpbehhbpefjaaDoor
open Go.RowKit Go.Shelf

/-- May a loop not be gone through so? -/
def rdBad (n m : Int) : Prop := n < 1 ∨ m < 0 ∨ ¬ m % n = 0
theorem quo_rng (n m : Int) (h2 : m ≤ 9223372036854775807) (hn : 1 ≤ n) (hm : 0 ≤ m) : 0 ≤ m / n ∧ m / n ≤ 9223372036854775807 :=
  ⟨Int.ediv_nonneg hm (by omega), Int.le_trans (Int.ediv_le_self n hm) h2⟩
set_option maxRecDepth 20000 in
set_option maxHeartbeats 400000 in
theorem rounds_any (n m : Int) (w : World) (h1 : -9223372036854775808 ≤ n ∧ n ≤ 9223372036854775807) (h2 : -9223372036854775808 ≤ m ∧ m ≤ 9223372036854775807) : Calls Tryd.prog 21 #[.int .i64 n, .int .i64 m] w fun e w' => ((rdBad n m ∧ e = .returned (.tuple #[.int .i64 0, .int .i64 3])) ∨ (¬ rdBad n m ∧ e = .returned (.tuple #[.int .i64 (m / n), .int .i64 0]))) ∧ w = w' := by
  obtain ⟨p1, p2⟩ := h1
  obtain ⟨p3, p4⟩ := h2
  by_cases a1 : n < 1
  · have HB : Hid (rdBad n m) := .inl a1
    go_enter Tryd.func21, Tryd.ntmps21
    go_wp2
    go_ret2
    exact ⟨.inl ⟨HB.out, rfl⟩, rfl⟩
  · by_cases a2 : m < 0
    · have HB : Hid (rdBad n m) := .inr (.inl a2)
      go_enter Tryd.func21, Tryd.ntmps21
      go_wp2
      go_ret2
      exact ⟨.inl ⟨HB.out, rfl⟩, rfl⟩
    · have a0 : ¬ n = 0 := by omega
      have a0b : (n == 0) = false := by simpa using a0
      have a4 : 0 ≤ m := by omega
      have a5 : 1 ≤ n := by omega
      by_cases a3 : m % n = 0
      · have HB : Hid (¬ rdBad n m) := fun h => h.elim a1 (fun h => h.elim a2 (fun h => h a3))
        obtain ⟨b1, b2⟩ := quo_rng n m p4 (by omega) (by omega)
        go_enter Tryd.func21, Tryd.ntmps21
        go_wp2
        go_ret2
        exact ⟨.inr ⟨HB.out, rfl⟩, rfl⟩
      · have HB : Hid (rdBad n m) := .inr (.inr a3)
        have a3b : (m % n == 0) = false := by simpa using a3
        go_enter Tryd.func21, Tryd.ntmps21
        go_wp2
        go_ret2
        exact ⟨.inl ⟨HB.out, rfl⟩, rfl⟩
set_option maxRecDepth 20000 in
set_option maxHeartbeats 400000 in
theorem rrounds_any (n m : Int) (w : World) (h1 : -9223372036854775808 ≤ n ∧ n ≤ 9223372036854775807) (h2 : -9223372036854775808 ≤ m ∧ m ≤ 9223372036854775807) : Calls Tryd.prog 22 #[.int .i64 n, .int .i64 m] w fun e w' => ((rdBad n m ∧ e = .returned (.tuple #[.int .i64 0, .int .i64 3])) ∨ (¬ rdBad n m ∧ e = .returned (.tuple #[.int .i64 (m / n), .int .i64 0]))) ∧ w = w' := by
  obtain ⟨p1, p2⟩ := h1
  obtain ⟨p3, p4⟩ := h2
  by_cases a1 : n < 1
  · have HB : Hid (rdBad n m) := .inl a1
    go_enter Tryd.func22, Tryd.ntmps22
    go_wp2
    go_ret2
    exact ⟨.inl ⟨HB.out, rfl⟩, rfl⟩
  · by_cases a2 : m < 0
    · have HB : Hid (rdBad n m) := .inr (.inl a2)
      go_enter Tryd.func22, Tryd.ntmps22
      go_wp2
      go_ret2
      exact ⟨.inl ⟨HB.out, rfl⟩, rfl⟩
    · have a0 : ¬ n = 0 := by omega
      have a0b : (n == 0) = false := by simpa using a0
      have a4 : 0 ≤ m := by omega
      have a5 : 1 ≤ n := by omega
      by_cases a3 : m % n = 0
      · have HB : Hid (¬ rdBad n m) := fun h => h.elim a1 (fun h => h.elim a2 (fun h => h a3))
        obtain ⟨b1, b2⟩ := quo_rng n m p4 (by omega) (by omega)
        go_enter Tryd.func22, Tryd.ntmps22
        go_wp2
        go_ret2
        exact ⟨.inr ⟨HB.out, rfl⟩, rfl⟩
      · have HB : Hid (rdBad n m) := .inr (.inr a3)
        have a3b : (m % n == 0) = false := by simpa using a3
        go_enter Tryd.func22, Tryd.ntmps22
        go_wp2
        go_ret2
        exact ⟨.inl ⟨HB.out, rfl⟩, rfl⟩
set_option maxRecDepth 20000 in
set_option maxHeartbeats 800000 in
theorem rounds_law (n m : Int) (w : World) (hm : Mx w) (h1 : -9223372036854775808 ≤ n ∧ n ≤ 9223372036854775807) (h2 : -9223372036854775808 ≤ m ∧ m ≤ 9223372036854775807) :
    Calls Tryd.prog 5 #[.int .i64 n, .int .i64 m] w fun e w' => e = .returned (.bool true) ∧ Below w.heap.size w w' := by
  have HA : Hid (Calls Tryd.prog 9 #[] w fun e w' => e = .returned (.bool true) ∧ Below w.heap.size w w') := alive_any w hm
  have HR := rounds_any n m w h1 h2
  have HRR := rrounds_any n m w h1 h2
  by_cases hb : rdBad n m
  · have HR : Hid (Calls Tryd.prog 21 #[.int .i64 n, .int .i64 m] w fun e w' => e = .returned (.tuple #[.int .i64 0, .int .i64 3]) ∧ w = w') := HR.mono fun e w' h => ⟨h.1.elim (fun h => h.2) (fun h => absurd hb h.1), h.2⟩
    have HRR : Hid (Calls Tryd.prog 22 #[.int .i64 n, .int .i64 m] w fun e w' => e = .returned (.tuple #[.int .i64 0, .int .i64 3]) ∧ w = w') := HRR.mono fun e w' h => ⟨h.1.elim (fun h => h.2) (fun h => absurd hb h.1), h.2⟩
    clear hb hm h1 h2
    go_enter Tryd.func5, Tryd.ntmps5
    go_wp2_with fail
    refine HR.out.mono ?_
    rintro e w' ⟨rfl, rfl⟩
    go_wp2_with fail
    refine HRR.out.mono ?_
    rintro e w' ⟨rfl, rfl⟩
    go_wp2_with fail
    refine HA.out.mono ?_
    rintro e w' ⟨rfl, h3⟩
    have H3 : Hid _ := h3
    clear h3
    go_wp2
    go_ret
    exact ⟨rfl, H3.out⟩
  · have HR : Hid (Calls Tryd.prog 21 #[.int .i64 n, .int .i64 m] w fun e w' => e = .returned (.tuple #[.int .i64 (m / n), .int .i64 0]) ∧ w = w') := HR.mono fun e w' h => ⟨h.1.elim (fun h => absurd h.1 hb) (fun h => h.2), h.2⟩
    have HRR : Hid (Calls Tryd.prog 22 #[.int .i64 n, .int .i64 m] w fun e w' => e = .returned (.tuple #[.int .i64 (m / n), .int .i64 0]) ∧ w = w') := HRR.mono fun e w' h => ⟨h.1.elim (fun h => absurd h.1 hb) (fun h => h.2), h.2⟩
    have hmul : m / n * n = m := by
      have h3 : m % n = 0 := Classical.byContradiction fun h => hb (.inr (.inr h))
      have := Int.emod_add_ediv_mul m n
      omega
    obtain ⟨q, hq⟩ : ∃ q, q = m / n := ⟨_, rfl⟩
    rw [← hq] at HR HRR hmul
    obtain ⟨p3, p4⟩ := h2
    have hmul2 : IntKind.i64.wrap (q * n) = m := by rw [hmul]; exact IntWalk.i64_in m ⟨p3, p4⟩
    clear hb hm h1 hq
    go_enter Tryd.func5, Tryd.ntmps5
    go_wp2_with fail
    refine HR.out.mono ?_
    rintro e w' ⟨rfl, rfl⟩
    go_wp2_with fail
    refine HRR.out.mono ?_
    rintro e w' ⟨rfl, rfl⟩
    go_wp2_with fail
    refine HA.out.mono ?_
    rintro e w' ⟨rfl, h3⟩
    have H3 : Hid _ := h3
    clear h3
    go_wp2
    go_ret
    exact ⟨rfl, H3.out⟩
end Go.Proofs.YtllpbehhbpefjaaDoor
