/-
  What the statement RxWays answers where an expression in brackets is too deep, and at all texts.
-/
import Derived.Test.YtmmhajlfbjjocaaPWays3
namespace Go.Proofs.Ytmmhajlfbjjocaa
open Go.RowKit Go.Shelf RxSem

set_option maxRecDepth 20000 in
set_option maxHeartbeats 1000000 in
theorem ways_nor (p q s : ByteArray) (k m : List Nd) (w : World) (hl : p.size + q.size ≤ 90) (hs : s.size ≤ 60) (hp : Comp (bl p) (.inl k)) (hq : Comp (bl q) (.inl m)) (v3 : Nat) (hc3 : Comp (bl (⟨#[40]⟩ ++ p ++ ⟨#[41, 124, 40]⟩ ++ q ++ ⟨#[41]⟩)) (.inr (5, v3))) (hc4 : Comp (bl (⟨#[40]⟩ ++ p ++ ⟨#[41, 43]⟩)) (.inl [.seq [.plus (.alt k)]])) (hc5 : Comp (bl (⟨#[40]⟩ ++ p ++ ⟨#[41, 40]⟩ ++ p ++ ⟨#[41, 42]⟩)) (.inl [.seq [.alt k, .star (.alt k)]])) : Calls Try.prog 6 #[.string p, .string q, .string s] w fun e w' => e = .returned (.bool true) ∧ Below w.heap.size w w' := by
  have HC3 : Hid (∀ W, Calls Try.prog 9 #[.string (⟨#[40]⟩ ++ p ++ ⟨#[41, 124, 40]⟩ ++ q ++ ⟨#[41]⟩)] W (MadePost (⟨#[40]⟩ ++ p ++ ⟨#[41, 124, 40]⟩ ++ q ++ ⟨#[41]⟩) W (.inr (5, v3)))) := fun W => compile_made _ _ hc3 W
  have HC4 : Hid (∀ W, Calls Try.prog 9 #[.string (⟨#[40]⟩ ++ p ++ ⟨#[41, 43]⟩)] W (MadePost (⟨#[40]⟩ ++ p ++ ⟨#[41, 43]⟩) W (.inl [.seq [.plus (.alt k)]]))) := fun W => compile_made _ _ hc4 W
  have HC5 : Hid (∀ W, Calls Try.prog 9 #[.string (⟨#[40]⟩ ++ p ++ ⟨#[41, 40]⟩ ++ p ++ ⟨#[41, 42]⟩)] W (MadePost (⟨#[40]⟩ ++ p ++ ⟨#[41, 40]⟩ ++ p ++ ⟨#[41, 42]⟩) W (.inl [.seq [.alt k, .star (.alt k)]]))) := fun W => compile_made _ _ hc5 W
  clear hc3 hc4 hc5
  have HA : Hid (∀ W, Calls Try.prog 8 #[] W fun e w' => e = .returned (.bool true) ∧ Below W.heap.size W w') := alive_any
  have HP : Hid (∀ W, Calls Try.prog 9 #[.string p] W (MadePost p W (.inl k))) := fun W => compile_made p _ hp W
  have HQ : Hid (∀ W, Calls Try.prog 9 #[.string q] W (MadePost q W (.inl m))) := fun W => compile_made q _ hq W
  have h1 : ¬ (90 : Int) < (p.size : Int) + (q.size : Int) := by omega
  have h2 : ¬ (60 : Int) < (s.size : Int) := by omega
  have hpb : p.size ≤ 90 := by omega
  have hqb : q.size ≤ 90 := by omega
  have H0 : Hid (Sc5 w.heap.size w [] [] w) := Sc5.nil w
  obtain ⟨N, hN⟩ : ∃ N, N = w.heap.size := ⟨_, rfl⟩
  have HN : Hid (N ≤ w.heap.size) := by rw [hN]; exact Nat.le_refl _
  rw [← hN] at H0 ⊢
  clear hN hp hq
  go_enter Try.func6, Try.ntmps6
  go_wp2_with fail
  refine (HP.out _).mono ?_
  rintro e w1 ⟨hB1, b1, rfl, hl1, hm1⟩
  obtain ⟨wa, hwa, hBa, hSa, hka⟩ := one_box w1 (.cells #[.int .i64 0, .int .i64 0] 26)
  obtain ⟨x1, hx1⟩ : ∃ x1, x1 = w1.heap.size := ⟨_, rfl⟩
  have H1 : Hid (Sc5 N w [(x1, 0, 0)] [(b1, p, k)] wa) := by
    rw [hx1]
    exact (((H0.out.below HN.out hB1).reg (Nat.le_trans HN.out hl1) hm1).fault HN.out hBa 0 0 hka)
  clear hB1 hl1 hm1 hBa hSa hka HP
  simp only [faultV]
  go_wp2_with fail
  rw [← hwa, ← hx1]
  clear hwa hx1
  have hb1 := (H1.out.rs (b1, p, k) (by simp)).2.lt
  refine (HQ.out _).mono ?_
  rintro e w2 ⟨hB2, b2, rfl, hl2, hm2⟩
  obtain ⟨wb, hwb, hBb, hSb, hkb⟩ := one_box w2 (.cells #[.int .i64 0, .int .i64 0] 26)
  obtain ⟨x2, hx2⟩ : ∃ x2, x2 = w2.heap.size := ⟨_, rfl⟩
  have hb12 : b1 < b2 := by dsimp only at hb1; omega
  have H2 : Hid (Sc5 N w [(x2, 0, 0), (x1, 0, 0)] [(b2, q, m), (b1, p, k)] wb) := by
    rw [hx2]
    exact (((H1.out.below HN.out hB2).reg (Nat.le_trans (Nat.le_trans HN.out H1.out.bel.size) hl2) hm2).fault HN.out hBb 0 0 hkb)
  have c1 := H2.out.cell x1 0 0 (by simp)
  have c2 := H2.out.cell x2 0 0 (by simp)
  obtain ⟨c10, c11⟩ := c1
  obtain ⟨c20, c21⟩ := c2
  clear hB2 hl2 hm2 hBb hSb hkb HQ hb1
  simp only [faultV]
  rw [hwb] at c10 c11 c20 c21
  rw [hx2] at c20 c21
  go_wp2_with fail
  rw [← hwb, ← hx2]
  clear hwb hx2 c10 c11 c20 c21
  refine (HC3.out _).mono ?_
  rintro e w3 ⟨hB, rfl⟩
  obtain ⟨wx3, hw3, hBx, hSx, hkx⟩ := one_box w3 (.cells #[.int .i64 5, .int .i64 (v3 : Int)] 26)
  obtain ⟨x3, hx3⟩ : ∃ x3, x3 = w3.heap.size := ⟨_, rfl⟩
  have H3 : Hid (Sc5 N w [(x3, 5, (v3 : Int)), (x2, 0, 0), (x1, 0, 0)] [(b2, q, m), (b1, p, k)] wx3) := by
    rw [hx3]
    exact ((H2.out.below HN.out hB).fault HN.out hBx 5 (v3 : Int) hkx)
  clear hB hBx hSx hkx HC3 H2
  simp only [faultV]
  go_wp2_with fail
  rw [← hw3, ← hx3]
  clear hw3 hx3
  have hlt4 := (H3.out.rs (b2, q, m) (by simp)).2.lt
  refine (HC4.out _).mono ?_
  rintro e w4 ⟨hB, b4, rfl, hl, hm⟩
  have hb24 : b2 < b4 := by dsimp only at hlt4; omega
  obtain ⟨wx4, hw4, hBx, hSx, hkx⟩ := one_box w4 (.cells #[.int .i64 0, .int .i64 0] 26)
  obtain ⟨x4, hx4⟩ : ∃ x4, x4 = w4.heap.size := ⟨_, rfl⟩
  have H4 : Hid (Sc5 N w [(x4, 0, 0), (x3, 5, (v3 : Int)), (x2, 0, 0), (x1, 0, 0)] [(b4, (⟨#[40]⟩ ++ p ++ ⟨#[41, 43]⟩), [.seq [.plus (.alt k)]]), (b2, q, m), (b1, p, k)] wx4) := by
    rw [hx4]
    exact (((H3.out.below HN.out hB).reg (Nat.le_trans (Nat.le_trans HN.out H3.out.bel.size) hl) hm).fault HN.out hBx 0 0 hkx)
  clear hB hl hm hBx hSx hkx HC4 hlt4 H3
  simp only [faultV]
  go_wp2_with fail
  rw [← hw4, ← hx4]
  clear hw4 hx4
  have hlt5 := (H4.out.rs (b4, (⟨#[40]⟩ ++ p ++ ⟨#[41, 43]⟩), [.seq [.plus (.alt k)]]) (by simp)).2.lt
  refine (HC5.out _).mono ?_
  rintro e w5 ⟨hB, b5, rfl, hl, hm⟩
  have hb45 : b4 < b5 := by dsimp only at hlt5; omega
  obtain ⟨wx5, hw5, hBx, hSx, hkx⟩ := one_box w5 (.cells #[.int .i64 0, .int .i64 0] 26)
  obtain ⟨x5, hx5⟩ : ∃ x5, x5 = w5.heap.size := ⟨_, rfl⟩
  have H5 : Hid (Sc5 N w [(x5, 0, 0), (x4, 0, 0), (x3, 5, (v3 : Int)), (x2, 0, 0), (x1, 0, 0)] [(b5, (⟨#[40]⟩ ++ p ++ ⟨#[41, 40]⟩ ++ p ++ ⟨#[41, 42]⟩), [.seq [.alt k, .star (.alt k)]]), (b4, (⟨#[40]⟩ ++ p ++ ⟨#[41, 43]⟩), [.seq [.plus (.alt k)]]), (b2, q, m), (b1, p, k)] wx5) := by
    rw [hx5]
    exact (((H4.out.below HN.out hB).reg (Nat.le_trans (Nat.le_trans HN.out H4.out.bel.size) hl) hm).fault HN.out hBx 0 0 hkx)
  clear hB hl hm hBx hSx hkx HC5 hlt5 H4
  simp only [faultV]
  obtain ⟨c30, c31⟩ := H5.out.cell x3 5 (v3 : Int) (by simp)
  obtain ⟨c40, c41⟩ := H5.out.cell x4 0 0 (by simp)
  obtain ⟨c50, c51⟩ := H5.out.cell x5 0 0 (by simp)
  rw [hw5] at c30 c31 c40 c41 c50 c51
  rw [hx5] at c50 c51
  go_wp2_with fail
  rw [← hw5, ← hx5]
  clear hw5 hx5 c30 c31 c40 c41 c50 c51
  refine (HA.out _).mono ?_
  rintro e w9 ⟨rfl, hb⟩
  have HB : Hid (Below N w w9) := H5.out.bel.trans (hb.mono (Nat.le_trans HN.out H5.out.bel.size))
  clear hb
  go_wp2_with fail
  go_ret
  exact ⟨rfl, HB.out⟩
set_option maxRecDepth 20000 in
set_option maxHeartbeats 1000000 in
theorem ways_nplus (p q s : ByteArray) (k m : List Nd) (w : World) (hl : p.size + q.size ≤ 90) (hs : s.size ≤ 60) (hp : Comp (bl p) (.inl k)) (hq : Comp (bl q) (.inl m)) (hc3 : Comp (bl (⟨#[40]⟩ ++ p ++ ⟨#[41, 124, 40]⟩ ++ q ++ ⟨#[41]⟩)) (.inl [.seq [.alt k], .seq [.alt m]])) (v4 : Nat) (hc4 : Comp (bl (⟨#[40]⟩ ++ p ++ ⟨#[41, 43]⟩)) (.inr (5, v4))) (v5 : Nat) (hc5 : Comp (bl (⟨#[40]⟩ ++ p ++ ⟨#[41, 40]⟩ ++ p ++ ⟨#[41, 42]⟩)) (.inr (5, v5))) : Calls Try.prog 6 #[.string p, .string q, .string s] w fun e w' => e = .returned (.bool true) ∧ Below w.heap.size w w' := by
  have HC3 : Hid (∀ W, Calls Try.prog 9 #[.string (⟨#[40]⟩ ++ p ++ ⟨#[41, 124, 40]⟩ ++ q ++ ⟨#[41]⟩)] W (MadePost (⟨#[40]⟩ ++ p ++ ⟨#[41, 124, 40]⟩ ++ q ++ ⟨#[41]⟩) W (.inl [.seq [.alt k], .seq [.alt m]]))) := fun W => compile_made _ _ hc3 W
  have HC4 : Hid (∀ W, Calls Try.prog 9 #[.string (⟨#[40]⟩ ++ p ++ ⟨#[41, 43]⟩)] W (MadePost (⟨#[40]⟩ ++ p ++ ⟨#[41, 43]⟩) W (.inr (5, v4)))) := fun W => compile_made _ _ hc4 W
  have HC5 : Hid (∀ W, Calls Try.prog 9 #[.string (⟨#[40]⟩ ++ p ++ ⟨#[41, 40]⟩ ++ p ++ ⟨#[41, 42]⟩)] W (MadePost (⟨#[40]⟩ ++ p ++ ⟨#[41, 40]⟩ ++ p ++ ⟨#[41, 42]⟩) W (.inr (5, v5)))) := fun W => compile_made _ _ hc5 W
  clear hc3 hc4 hc5
  have HA : Hid (∀ W, Calls Try.prog 8 #[] W fun e w' => e = .returned (.bool true) ∧ Below W.heap.size W w') := alive_any
  have HP : Hid (∀ W, Calls Try.prog 9 #[.string p] W (MadePost p W (.inl k))) := fun W => compile_made p _ hp W
  have HQ : Hid (∀ W, Calls Try.prog 9 #[.string q] W (MadePost q W (.inl m))) := fun W => compile_made q _ hq W
  have h1 : ¬ (90 : Int) < (p.size : Int) + (q.size : Int) := by omega
  have h2 : ¬ (60 : Int) < (s.size : Int) := by omega
  have hpb : p.size ≤ 90 := by omega
  have hqb : q.size ≤ 90 := by omega
  have H0 : Hid (Sc5 w.heap.size w [] [] w) := Sc5.nil w
  obtain ⟨N, hN⟩ : ∃ N, N = w.heap.size := ⟨_, rfl⟩
  have HN : Hid (N ≤ w.heap.size) := by rw [hN]; exact Nat.le_refl _
  rw [← hN] at H0 ⊢
  clear hN hp hq
  go_enter Try.func6, Try.ntmps6
  go_wp2_with fail
  refine (HP.out _).mono ?_
  rintro e w1 ⟨hB1, b1, rfl, hl1, hm1⟩
  obtain ⟨wa, hwa, hBa, hSa, hka⟩ := one_box w1 (.cells #[.int .i64 0, .int .i64 0] 26)
  obtain ⟨x1, hx1⟩ : ∃ x1, x1 = w1.heap.size := ⟨_, rfl⟩
  have H1 : Hid (Sc5 N w [(x1, 0, 0)] [(b1, p, k)] wa) := by
    rw [hx1]
    exact (((H0.out.below HN.out hB1).reg (Nat.le_trans HN.out hl1) hm1).fault HN.out hBa 0 0 hka)
  clear hB1 hl1 hm1 hBa hSa hka HP
  simp only [faultV]
  go_wp2_with fail
  rw [← hwa, ← hx1]
  clear hwa hx1
  have hb1 := (H1.out.rs (b1, p, k) (by simp)).2.lt
  refine (HQ.out _).mono ?_
  rintro e w2 ⟨hB2, b2, rfl, hl2, hm2⟩
  obtain ⟨wb, hwb, hBb, hSb, hkb⟩ := one_box w2 (.cells #[.int .i64 0, .int .i64 0] 26)
  obtain ⟨x2, hx2⟩ : ∃ x2, x2 = w2.heap.size := ⟨_, rfl⟩
  have hb12 : b1 < b2 := by dsimp only at hb1; omega
  have H2 : Hid (Sc5 N w [(x2, 0, 0), (x1, 0, 0)] [(b2, q, m), (b1, p, k)] wb) := by
    rw [hx2]
    exact (((H1.out.below HN.out hB2).reg (Nat.le_trans (Nat.le_trans HN.out H1.out.bel.size) hl2) hm2).fault HN.out hBb 0 0 hkb)
  have c1 := H2.out.cell x1 0 0 (by simp)
  have c2 := H2.out.cell x2 0 0 (by simp)
  obtain ⟨c10, c11⟩ := c1
  obtain ⟨c20, c21⟩ := c2
  clear hB2 hl2 hm2 hBb hSb hkb HQ hb1
  simp only [faultV]
  rw [hwb] at c10 c11 c20 c21
  rw [hx2] at c20 c21
  go_wp2_with fail
  rw [← hwb, ← hx2]
  clear hwb hx2 c10 c11 c20 c21
  have hlt3 := (H2.out.rs (b2, q, m) (by simp)).2.lt
  refine (HC3.out _).mono ?_
  rintro e w3 ⟨hB, b3, rfl, hl, hm⟩
  have hb23 : b2 < b3 := by dsimp only at hlt3; omega
  obtain ⟨wx3, hw3, hBx, hSx, hkx⟩ := one_box w3 (.cells #[.int .i64 0, .int .i64 0] 26)
  obtain ⟨x3, hx3⟩ : ∃ x3, x3 = w3.heap.size := ⟨_, rfl⟩
  have H3 : Hid (Sc5 N w [(x3, 0, 0), (x2, 0, 0), (x1, 0, 0)] [(b3, (⟨#[40]⟩ ++ p ++ ⟨#[41, 124, 40]⟩ ++ q ++ ⟨#[41]⟩), [.seq [.alt k], .seq [.alt m]]), (b2, q, m), (b1, p, k)] wx3) := by
    rw [hx3]
    exact (((H2.out.below HN.out hB).reg (Nat.le_trans (Nat.le_trans HN.out H2.out.bel.size) hl) hm).fault HN.out hBx 0 0 hkx)
  clear hB hl hm hBx hSx hkx HC3 hlt3 H2
  simp only [faultV]
  go_wp2_with fail
  rw [← hw3, ← hx3]
  clear hw3 hx3
  refine (HC4.out _).mono ?_
  rintro e w4 ⟨hB, rfl⟩
  obtain ⟨wx4, hw4, hBx, hSx, hkx⟩ := one_box w4 (.cells #[.int .i64 5, .int .i64 (v4 : Int)] 26)
  obtain ⟨x4, hx4⟩ : ∃ x4, x4 = w4.heap.size := ⟨_, rfl⟩
  have H4 : Hid (Sc5 N w [(x4, 5, (v4 : Int)), (x3, 0, 0), (x2, 0, 0), (x1, 0, 0)] [(b3, (⟨#[40]⟩ ++ p ++ ⟨#[41, 124, 40]⟩ ++ q ++ ⟨#[41]⟩), [.seq [.alt k], .seq [.alt m]]), (b2, q, m), (b1, p, k)] wx4) := by
    rw [hx4]
    exact ((H3.out.below HN.out hB).fault HN.out hBx 5 (v4 : Int) hkx)
  clear hB hBx hSx hkx HC4 H3
  simp only [faultV]
  go_wp2_with fail
  rw [← hw4, ← hx4]
  clear hw4 hx4
  refine (HC5.out _).mono ?_
  rintro e w5 ⟨hB, rfl⟩
  obtain ⟨wx5, hw5, hBx, hSx, hkx⟩ := one_box w5 (.cells #[.int .i64 5, .int .i64 (v5 : Int)] 26)
  obtain ⟨x5, hx5⟩ : ∃ x5, x5 = w5.heap.size := ⟨_, rfl⟩
  have H5 : Hid (Sc5 N w [(x5, 5, (v5 : Int)), (x4, 5, (v4 : Int)), (x3, 0, 0), (x2, 0, 0), (x1, 0, 0)] [(b3, (⟨#[40]⟩ ++ p ++ ⟨#[41, 124, 40]⟩ ++ q ++ ⟨#[41]⟩), [.seq [.alt k], .seq [.alt m]]), (b2, q, m), (b1, p, k)] wx5) := by
    rw [hx5]
    exact ((H4.out.below HN.out hB).fault HN.out hBx 5 (v5 : Int) hkx)
  clear hB hBx hSx hkx HC5 H4
  simp only [faultV]
  obtain ⟨c30, c31⟩ := H5.out.cell x3 0 0 (by simp)
  obtain ⟨c40, c41⟩ := H5.out.cell x4 5 (v4 : Int) (by simp)
  obtain ⟨c50, c51⟩ := H5.out.cell x5 5 (v5 : Int) (by simp)
  rw [hw5] at c30 c31 c40 c41 c50 c51
  rw [hx5] at c50 c51
  go_wp2_with fail
  rw [← hw5, ← hx5]
  clear hw5 hx5 c30 c31 c40 c41 c50 c51
  refine (HA.out _).mono ?_
  rintro e w9 ⟨rfl, hb⟩
  have HB : Hid (Below N w w9) := H5.out.bel.trans (hb.mono (Nat.le_trans HN.out H5.out.bel.size))
  clear hb
  go_wp2_with fail
  go_ret
  exact ⟨rfl, HB.out⟩
set_option maxRecDepth 20000 in
set_option maxHeartbeats 1000000 in
theorem ways_none (p q s : ByteArray) (k m : List Nd) (w : World) (hl : p.size + q.size ≤ 90) (hs : s.size ≤ 60) (hp : Comp (bl p) (.inl k)) (hq : Comp (bl q) (.inl m)) (v3 : Nat) (hc3 : Comp (bl (⟨#[40]⟩ ++ p ++ ⟨#[41, 124, 40]⟩ ++ q ++ ⟨#[41]⟩)) (.inr (5, v3))) (v4 : Nat) (hc4 : Comp (bl (⟨#[40]⟩ ++ p ++ ⟨#[41, 43]⟩)) (.inr (5, v4))) (v5 : Nat) (hc5 : Comp (bl (⟨#[40]⟩ ++ p ++ ⟨#[41, 40]⟩ ++ p ++ ⟨#[41, 42]⟩)) (.inr (5, v5))) : Calls Try.prog 6 #[.string p, .string q, .string s] w fun e w' => e = .returned (.bool true) ∧ Below w.heap.size w w' := by
  have HC3 : Hid (∀ W, Calls Try.prog 9 #[.string (⟨#[40]⟩ ++ p ++ ⟨#[41, 124, 40]⟩ ++ q ++ ⟨#[41]⟩)] W (MadePost (⟨#[40]⟩ ++ p ++ ⟨#[41, 124, 40]⟩ ++ q ++ ⟨#[41]⟩) W (.inr (5, v3)))) := fun W => compile_made _ _ hc3 W
  have HC4 : Hid (∀ W, Calls Try.prog 9 #[.string (⟨#[40]⟩ ++ p ++ ⟨#[41, 43]⟩)] W (MadePost (⟨#[40]⟩ ++ p ++ ⟨#[41, 43]⟩) W (.inr (5, v4)))) := fun W => compile_made _ _ hc4 W
  have HC5 : Hid (∀ W, Calls Try.prog 9 #[.string (⟨#[40]⟩ ++ p ++ ⟨#[41, 40]⟩ ++ p ++ ⟨#[41, 42]⟩)] W (MadePost (⟨#[40]⟩ ++ p ++ ⟨#[41, 40]⟩ ++ p ++ ⟨#[41, 42]⟩) W (.inr (5, v5)))) := fun W => compile_made _ _ hc5 W
  clear hc3 hc4 hc5
  have HA : Hid (∀ W, Calls Try.prog 8 #[] W fun e w' => e = .returned (.bool true) ∧ Below W.heap.size W w') := alive_any
  have HP : Hid (∀ W, Calls Try.prog 9 #[.string p] W (MadePost p W (.inl k))) := fun W => compile_made p _ hp W
  have HQ : Hid (∀ W, Calls Try.prog 9 #[.string q] W (MadePost q W (.inl m))) := fun W => compile_made q _ hq W
  have h1 : ¬ (90 : Int) < (p.size : Int) + (q.size : Int) := by omega
  have h2 : ¬ (60 : Int) < (s.size : Int) := by omega
  have hpb : p.size ≤ 90 := by omega
  have hqb : q.size ≤ 90 := by omega
  have H0 : Hid (Sc5 w.heap.size w [] [] w) := Sc5.nil w
  obtain ⟨N, hN⟩ : ∃ N, N = w.heap.size := ⟨_, rfl⟩
  have HN : Hid (N ≤ w.heap.size) := by rw [hN]; exact Nat.le_refl _
  rw [← hN] at H0 ⊢
  clear hN hp hq
  go_enter Try.func6, Try.ntmps6
  go_wp2_with fail
  refine (HP.out _).mono ?_
  rintro e w1 ⟨hB1, b1, rfl, hl1, hm1⟩
  obtain ⟨wa, hwa, hBa, hSa, hka⟩ := one_box w1 (.cells #[.int .i64 0, .int .i64 0] 26)
  obtain ⟨x1, hx1⟩ : ∃ x1, x1 = w1.heap.size := ⟨_, rfl⟩
  have H1 : Hid (Sc5 N w [(x1, 0, 0)] [(b1, p, k)] wa) := by
    rw [hx1]
    exact (((H0.out.below HN.out hB1).reg (Nat.le_trans HN.out hl1) hm1).fault HN.out hBa 0 0 hka)
  clear hB1 hl1 hm1 hBa hSa hka HP
  simp only [faultV]
  go_wp2_with fail
  rw [← hwa, ← hx1]
  clear hwa hx1
  have hb1 := (H1.out.rs (b1, p, k) (by simp)).2.lt
  refine (HQ.out _).mono ?_
  rintro e w2 ⟨hB2, b2, rfl, hl2, hm2⟩
  obtain ⟨wb, hwb, hBb, hSb, hkb⟩ := one_box w2 (.cells #[.int .i64 0, .int .i64 0] 26)
  obtain ⟨x2, hx2⟩ : ∃ x2, x2 = w2.heap.size := ⟨_, rfl⟩
  have hb12 : b1 < b2 := by dsimp only at hb1; omega
  have H2 : Hid (Sc5 N w [(x2, 0, 0), (x1, 0, 0)] [(b2, q, m), (b1, p, k)] wb) := by
    rw [hx2]
    exact (((H1.out.below HN.out hB2).reg (Nat.le_trans (Nat.le_trans HN.out H1.out.bel.size) hl2) hm2).fault HN.out hBb 0 0 hkb)
  have c1 := H2.out.cell x1 0 0 (by simp)
  have c2 := H2.out.cell x2 0 0 (by simp)
  obtain ⟨c10, c11⟩ := c1
  obtain ⟨c20, c21⟩ := c2
  clear hB2 hl2 hm2 hBb hSb hkb HQ hb1
  simp only [faultV]
  rw [hwb] at c10 c11 c20 c21
  rw [hx2] at c20 c21
  go_wp2_with fail
  rw [← hwb, ← hx2]
  clear hwb hx2 c10 c11 c20 c21
  refine (HC3.out _).mono ?_
  rintro e w3 ⟨hB, rfl⟩
  obtain ⟨wx3, hw3, hBx, hSx, hkx⟩ := one_box w3 (.cells #[.int .i64 5, .int .i64 (v3 : Int)] 26)
  obtain ⟨x3, hx3⟩ : ∃ x3, x3 = w3.heap.size := ⟨_, rfl⟩
  have H3 : Hid (Sc5 N w [(x3, 5, (v3 : Int)), (x2, 0, 0), (x1, 0, 0)] [(b2, q, m), (b1, p, k)] wx3) := by
    rw [hx3]
    exact ((H2.out.below HN.out hB).fault HN.out hBx 5 (v3 : Int) hkx)
  clear hB hBx hSx hkx HC3 H2
  simp only [faultV]
  go_wp2_with fail
  rw [← hw3, ← hx3]
  clear hw3 hx3
  refine (HC4.out _).mono ?_
  rintro e w4 ⟨hB, rfl⟩
  obtain ⟨wx4, hw4, hBx, hSx, hkx⟩ := one_box w4 (.cells #[.int .i64 5, .int .i64 (v4 : Int)] 26)
  obtain ⟨x4, hx4⟩ : ∃ x4, x4 = w4.heap.size := ⟨_, rfl⟩
  have H4 : Hid (Sc5 N w [(x4, 5, (v4 : Int)), (x3, 5, (v3 : Int)), (x2, 0, 0), (x1, 0, 0)] [(b2, q, m), (b1, p, k)] wx4) := by
    rw [hx4]
    exact ((H3.out.below HN.out hB).fault HN.out hBx 5 (v4 : Int) hkx)
  clear hB hBx hSx hkx HC4 H3
  simp only [faultV]
  go_wp2_with fail
  rw [← hw4, ← hx4]
  clear hw4 hx4
  refine (HC5.out _).mono ?_
  rintro e w5 ⟨hB, rfl⟩
  obtain ⟨wx5, hw5, hBx, hSx, hkx⟩ := one_box w5 (.cells #[.int .i64 5, .int .i64 (v5 : Int)] 26)
  obtain ⟨x5, hx5⟩ : ∃ x5, x5 = w5.heap.size := ⟨_, rfl⟩
  have H5 : Hid (Sc5 N w [(x5, 5, (v5 : Int)), (x4, 5, (v4 : Int)), (x3, 5, (v3 : Int)), (x2, 0, 0), (x1, 0, 0)] [(b2, q, m), (b1, p, k)] wx5) := by
    rw [hx5]
    exact ((H4.out.below HN.out hB).fault HN.out hBx 5 (v5 : Int) hkx)
  clear hB hBx hSx hkx HC5 H4
  simp only [faultV]
  obtain ⟨c30, c31⟩ := H5.out.cell x3 5 (v3 : Int) (by simp)
  obtain ⟨c40, c41⟩ := H5.out.cell x4 5 (v4 : Int) (by simp)
  obtain ⟨c50, c51⟩ := H5.out.cell x5 5 (v5 : Int) (by simp)
  rw [hw5] at c30 c31 c40 c41 c50 c51
  rw [hx5] at c50 c51
  go_wp2_with fail
  rw [← hw5, ← hx5]
  clear hw5 hx5 c30 c31 c40 c41 c50 c51
  refine (HA.out _).mono ?_
  rintro e w9 ⟨rfl, hb⟩
  have HB : Hid (Below N w w9) := H5.out.bel.trans (hb.mono (Nat.le_trans HN.out H5.out.bel.size))
  clear hb
  go_wp2_with fail
  go_ret
  exact ⟨rfl, HB.out⟩
theorem any_made (q : ByteArray) (c : List Nd ⊕ (Nat × Nat)) (hc : Comp (bl q) c) (W : World) : Calls Try.prog 9 #[.string q] W fun e w' => ∃ (v : Value) (y a : Nat), e = .returned (.tuple #[v, .agg #[.int .i64 (y : Int), .int .i64 (a : Int)]]) ∧ (v = .pointer none ∨ ∃ b : Nat, v = .pointer (some ⟨b, 0, none⟩)) ∧ Below W.heap.size W w' := by
  refine (compile_made q c hc W).mono ?_
  rintro e w' ⟨hB, h⟩
  cases c with
  | inl k =>
    obtain ⟨b, rfl, _, _⟩ := h
    exact ⟨_, 0, 0, rfl, .inr ⟨b, rfl⟩, hB⟩
  | inr x =>
    obtain ⟨y, a⟩ := x
    dsimp only at h
    exact ⟨_, y, a, h, .inl rfl, hB⟩
set_option maxRecDepth 20000 in
set_option maxHeartbeats 1000000 in
theorem ways_badp (p q s : ByteArray) (why a : Nat) (c : List Nd ⊕ (Nat × Nat)) (w : World) (hl : p.size + q.size ≤ 90) (hs : s.size ≤ 60) (hp : Comp (bl p) (.inr (why, a))) (hq : Comp (bl q) c) : Calls Try.prog 6 #[.string p, .string q, .string s] w fun e w' => e = .returned (.bool true) ∧ Below w.heap.size w w' := by
  have HA : Hid (∀ W, Calls Try.prog 8 #[] W fun e w' => e = .returned (.bool true) ∧ Below W.heap.size W w') := alive_any
  have H0 : Hid (Sc5 w.heap.size w [] [] w) := Sc5.nil w
  obtain ⟨N, hN⟩ : ∃ N, N = w.heap.size := ⟨_, rfl⟩
  have HN : Hid (N ≤ w.heap.size) := by rw [hN]; exact Nat.le_refl _
  rw [← hN] at H0 ⊢
  clear hN
  have HP : Hid (∀ W, Calls Try.prog 9 #[.string p] W (MadePost p W (.inr (why, a)))) := fun W => compile_made p _ hp W
  have HQ : Hid (∀ W, Calls Try.prog 9 #[.string q] W fun e w' => ∃ (v : Value) (y a : Nat), e = .returned (.tuple #[v, .agg #[.int .i64 (y : Int), .int .i64 (a : Int)]]) ∧ (v = .pointer none ∨ ∃ b : Nat, v = .pointer (some ⟨b, 0, none⟩)) ∧ Below W.heap.size W w') := any_made q c hq
  have h1 : ¬ (90 : Int) < (p.size : Int) + (q.size : Int) := by omega
  have h2 : ¬ (60 : Int) < (s.size : Int) := by omega
  have hpb : p.size ≤ 90 := by omega
  have hqb : q.size ≤ 90 := by omega
  have hw : ¬ (why : Int) = 0 := by have := bad_why hp; omega
  have hw2 : ((why : Int) == 0) = false := by simp; omega
  clear hp hq
  go_enter Try.func6, Try.ntmps6
  go_wp2_with fail
  refine (HP.out _).mono ?_
  rintro e w1 ⟨hB1, rfl⟩
  obtain ⟨wa, hwa, hBa, hSa, hka⟩ := one_box w1 (.cells #[.int .i64 (why : Int), .int .i64 (a : Int)] 26)
  obtain ⟨x1, hx1⟩ : ∃ x1, x1 = w1.heap.size := ⟨_, rfl⟩
  have H1 : Hid (Sc5 N w [(x1, (why : Int), (a : Int))] [] wa) := by
    rw [hx1]
    exact ((H0.out.below HN.out hB1).fault HN.out hBa _ _ hka)
  clear hB1 hBa hSa hka HP
  simp only [faultV]
  go_wp2_with fail
  rw [← hwa, ← hx1]
  clear hwa hx1
  refine (HQ.out _).mono ?_
  rintro e w2 ⟨v, y, z, rfl, hv, hB2⟩
  obtain ⟨wb, hwb, hBb, hSb, hkb⟩ := one_box w2 (.cells #[.int .i64 (y : Int), .int .i64 (z : Int)] 26)
  have HX : Hid (Sc5 N w [(x1, (why : Int), (a : Int))] [] wb) := (H1.out.below HN.out hB2).below HN.out hBb
  obtain ⟨c10, c11⟩ := HX.out.cell x1 (why : Int) (a : Int) (by simp)
  clear hB2 hBb hSb hkb HQ
  rw [hwb] at c10 c11
  rcases hv with rfl | ⟨b2, rfl⟩
  · go_wp2_with fail
    rw [← hwb]
    refine (HA.out _).mono ?_
    rintro e w9 ⟨rfl, hb⟩
    have HB : Hid (Below N w w9) := HX.out.bel.trans (hb.mono (Nat.le_trans HN.out HX.out.bel.size))
    clear hb
    go_wp2_with fail
    go_ret
    exact ⟨rfl, HB.out⟩
  · go_wp2_with fail
    rw [← hwb]
    refine (HA.out _).mono ?_
    rintro e w9 ⟨rfl, hb⟩
    have HB : Hid (Below N w w9) := HX.out.bel.trans (hb.mono (Nat.le_trans HN.out HX.out.bel.size))
    clear hb
    go_wp2_with fail
    go_ret
    exact ⟨rfl, HB.out⟩
set_option maxRecDepth 20000 in
set_option maxHeartbeats 1000000 in
theorem ways_badq (p q s : ByteArray) (why a : Nat) (k : List Nd) (w : World) (hl : p.size + q.size ≤ 90) (hs : s.size ≤ 60) (hp : Comp (bl p) (.inl k)) (hq : Comp (bl q) (.inr (why, a))) : Calls Try.prog 6 #[.string p, .string q, .string s] w fun e w' => e = .returned (.bool true) ∧ Below w.heap.size w w' := by
  have HA : Hid (∀ W, Calls Try.prog 8 #[] W fun e w' => e = .returned (.bool true) ∧ Below W.heap.size W w') := alive_any
  have H0 : Hid (Sc5 w.heap.size w [] [] w) := Sc5.nil w
  obtain ⟨N, hN⟩ : ∃ N, N = w.heap.size := ⟨_, rfl⟩
  have HN : Hid (N ≤ w.heap.size) := by rw [hN]; exact Nat.le_refl _
  rw [← hN] at H0 ⊢
  clear hN
  have HP : Hid (∀ W, Calls Try.prog 9 #[.string p] W (MadePost p W (.inl k))) := fun W => compile_made p _ hp W
  have HQ : Hid (∀ W, Calls Try.prog 9 #[.string q] W (MadePost q W (.inr (why, a)))) := fun W => compile_made q _ hq W
  have h1 : ¬ (90 : Int) < (p.size : Int) + (q.size : Int) := by omega
  have h2 : ¬ (60 : Int) < (s.size : Int) := by omega
  have hpb : p.size ≤ 90 := by omega
  have hqb : q.size ≤ 90 := by omega
  have hw : ¬ (why : Int) = 0 := by have := bad_why hq; omega
  have hw2 : ((why : Int) == 0) = false := by simp; omega
  clear hp hq
  go_enter Try.func6, Try.ntmps6
  go_wp2_with fail
  refine (HP.out _).mono ?_
  rintro e w1 ⟨hB1, b1, rfl, hl1, hm1⟩
  obtain ⟨wa, hwa, hBa, hSa, hka⟩ := one_box w1 (.cells #[.int .i64 0, .int .i64 0] 26)
  obtain ⟨x1, hx1⟩ : ∃ x1, x1 = w1.heap.size := ⟨_, rfl⟩
  have H1 : Hid (Sc5 N w [(x1, 0, 0)] [] wa) := by
    rw [hx1]
    exact ((H0.out.below HN.out hB1).fault HN.out hBa 0 0 hka)
  clear hB1 hl1 hm1 hBa hSa hka HP
  simp only [faultV]
  go_wp2_with fail
  rw [← hwa, ← hx1]
  clear hwa hx1
  refine (HQ.out _).mono ?_
  rintro e w2 ⟨hB2, rfl⟩
  obtain ⟨wb, hwb, hBb, hSb, hkb⟩ := one_box w2 (.cells #[.int .i64 (why : Int), .int .i64 (a : Int)] 26)
  have HX : Hid (Sc5 N w [(w2.heap.size, (why : Int), (a : Int)), (x1, 0, 0)] [] wb) := ((H1.out.below HN.out hB2).fault HN.out hBb _ _ hkb)
  obtain ⟨c10, c11⟩ := HX.out.cell x1 0 0 (by simp)
  obtain ⟨c20, c21⟩ := HX.out.cell w2.heap.size (why : Int) (a : Int) (by simp)
  clear hB2 hBb hSb hkb HQ
  simp only [faultV]
  rw [hwb] at c10 c11 c20 c21
  go_wp2_with fail
  rw [← hwb]
  refine (HA.out _).mono ?_
  rintro e w9 ⟨rfl, hb⟩
  have HB : Hid (Below N w w9) := HX.out.bel.trans (hb.mono (Nat.le_trans HN.out HX.out.bel.size))
  clear hb
  go_wp2_with fail
  go_ret
  exact ⟨rfl, HB.out⟩
set_option maxRecDepth 20000 in
set_option maxHeartbeats 1000000 in
theorem ways_law (p q s : ByteArray) (w : World) (hp : p.size ≤ 140737488355328) (hq : q.size ≤ 140737488355328) (hs : s.size ≤ 140737488355328) : Calls Try.prog 6 #[.string p, .string q, .string s] w fun e w' => e = .returned (.bool true) ∧ Below w.heap.size w w' := by
  by_cases hbig : 90 < p.size + q.size
  · have h1 : (90 : Int) < (p.size : Int) + (q.size : Int) := by omega
    have HA : Hid (∀ W, Calls Try.prog 8 #[] W fun e w' => e = .returned (.bool true) ∧ Below W.heap.size W w') := alive_any
    have H0 : Hid (Sc5 w.heap.size w [] [] w) := Sc5.nil w
    obtain ⟨N, hN⟩ : ∃ N, N = w.heap.size := ⟨_, rfl⟩
    have HN : Hid (N ≤ w.heap.size) := by rw [hN]; exact Nat.le_refl _
    rw [← hN] at H0 ⊢
    clear hN
    have HX : Hid (Sc5 N w [] [] w) := H0
    go_enter Try.func6, Try.ntmps6
    go_wp2_with fail
    refine (HA.out _).mono ?_
    rintro e w9 ⟨rfl, hb⟩
    have HB : Hid (Below N w w9) := HX.out.bel.trans (hb.mono (Nat.le_trans HN.out HX.out.bel.size))
    clear hb
    go_wp2_with fail
    go_ret
    exact ⟨rfl, HB.out⟩
  · by_cases hbs : 60 < s.size
    · have h1 : ¬ (90 : Int) < (p.size : Int) + (q.size : Int) := by omega
      have h2 : (60 : Int) < (s.size : Int) := by omega
      have HA : Hid (∀ W, Calls Try.prog 8 #[] W fun e w' => e = .returned (.bool true) ∧ Below W.heap.size W w') := alive_any
      have H0 : Hid (Sc5 w.heap.size w [] [] w) := Sc5.nil w
      obtain ⟨N, hN⟩ : ∃ N, N = w.heap.size := ⟨_, rfl⟩
      have HN : Hid (N ≤ w.heap.size) := by rw [hN]; exact Nat.le_refl _
      rw [← hN] at H0 ⊢
      clear hN
      have HX : Hid (Sc5 N w [] [] w) := H0
      go_enter Try.func6, Try.ntmps6
      go_wp2_with fail
      refine (HA.out _).mono ?_
      rintro e w9 ⟨rfl, hb⟩
      have HB : Hid (Below N w w9) := HX.out.bel.trans (hb.mono (Nat.le_trans HN.out HX.out.bel.size))
      clear hb
      go_wp2_with fail
      go_ret
      exact ⟨rfl, HB.out⟩
    · obtain ⟨c, hc⟩ := Comp.total (bl p)
      obtain ⟨d, hd⟩ := Comp.total (bl q)
      cases c with
      | inr x => exact ways_badp p q s x.1 x.2 d w (by omega) (by omega) hc hd
      | inl k =>
        cases d with
        | inr x => exact ways_badq p q s x.1 x.2 k w (by omega) (by omega) hc hd
        | inl m =>
          have h1 := comp_or hc hd (by rw [bl_length, bl_length]; omega)
          have h2 := comp_plus hc (by rw [bl_length]; omega)
          rw [← bl_or] at h1
          rw [← bl_plus, ← bl_star] at h2
          rcases h1 with h1 | ⟨v, h1⟩
          · rcases h2 with ⟨h2, h3⟩ | ⟨⟨y, h2⟩, ⟨z, h3⟩⟩
            · exact ways_all p q s k m w (by omega) (by omega) hc hd h1 h2 h3
            · exact ways_nplus p q s k m w (by omega) (by omega) hc hd h1 y h2 z h3
          · rcases h2 with ⟨h2, h3⟩ | ⟨⟨y, h2⟩, ⟨z, h3⟩⟩
            · exact ways_nor p q s k m w (by omega) (by omega) hc hd v h1 h2 h3
            · exact ways_none p q s k m w (by omega) (by omega) hc hd v h1 y h2 z h3
end Go.Proofs.Ytmmhajlfbjjocaa
