/-
  What the statement RxWays answers.
-/
import Derived.Test.YtmmhajlfbjjocaaPFirst
namespace Go.Proofs.Ytmmhajlfbjjocaa
open Go.RowKit Go.Shelf RxSem

/-- Faults' boxes, and expressions, of a world. -/
structure Sc5 (N : Nat) (w : World) (F : List (Nat × Int × Int)) (R : List (Nat × ByteArray × List Nd)) (W : World) : Prop where
  bel : Below N w W
  fs : ∀ x ∈ F, W.heap[x.1]? = some (.cells #[.int .i64 x.2.1, .int .i64 x.2.2] 26 (0, 0))
  rs : ∀ x ∈ R, N ≤ x.1 ∧ Made x.1 x.2.1 x.2.2 W
theorem Sc5.nil (w : World) : Sc5 w.heap.size w [] [] w := ⟨Below.refl _ _, fun _ h => by simp at h, fun _ h => by simp at h⟩
theorem Sc5.below {N : Nat} {w W W' : World} {F : List (Nat × Int × Int)} {R : List (Nat × ByteArray × List Nd)} (h : Sc5 N w F R W) (hN : N ≤ w.heap.size) (hb : Below W.heap.size W W') : Sc5 N w F R W' :=
  ⟨h.bel.trans (hb.mono (Nat.le_trans hN h.bel.size)), fun x hx => (hb.block _ (Array.getElem?_eq_some_iff.1 (h.fs x hx)).1).trans (h.fs x hx), fun x hx => ⟨(h.rs x hx).1, (h.rs x hx).2.below hb⟩⟩
theorem Sc5.fault {N : Nat} {w W W' : World} {F : List (Nat × Int × Int)} {R : List (Nat × ByteArray × List Nd)} (h : Sc5 N w F R W) (hN : N ≤ w.heap.size) (hb : Below W.heap.size W W') (y a : Int) (hk : W'.heap[W.heap.size]? = some (.cells #[.int .i64 y, .int .i64 a] 26 (0, 0))) : Sc5 N w ((W.heap.size, y, a) :: F) R W' := by
  have h2 := h.below hN hb
  refine ⟨h2.bel, fun x hx => ?_, h2.rs⟩
  rcases List.mem_cons.1 hx with rfl | hx
  · exact hk
  · exact h2.fs x hx
theorem Sc5.reg {N b : Nat} {w W : World} {F : List (Nat × Int × Int)} {R : List (Nat × ByteArray × List Nd)} {t : ByteArray} {k : List Nd} (h : Sc5 N w F R W) (hb : N ≤ b) (hm : Made b t k W) : Sc5 N w F ((b, t, k) :: R) W := by
  refine ⟨h.bel, h.fs, fun x hx => ?_⟩
  rcases List.mem_cons.1 hx with rfl | hx
  · exact ⟨hb, hm⟩
  · exact h.rs x hx
theorem Sc5.cell {N : Nat} {w W : World} {F : List (Nat × Int × Int)} {R : List (Nat × ByteArray × List Nd)} (h : Sc5 N w F R W) (x : Nat) (y a : Int) (hx : (x, y, a) ∈ F) : W.cell? ⟨x, 0, none⟩ = some (.int .i64 y) ∧ W.cell? ⟨x, 1, none⟩ = some (.int .i64 a) := by
  have := h.fs _ hx
  constructor <;> (simp only [World.cell?, this]; rfl)
/-- An expression is asked: it alone may turn. -/
theorem Sc5.wrote {N b : Nat} {w W W' : World} {F : List (Nat × Int × Int)} {R : List (Nat × ByteArray × List Nd)} {t : ByteArray} {k : List Nd} (h : Sc5 N w F R W) (hN : N ≤ w.heap.size) (hin : (b, t, k) ∈ R) (hone : ∀ x ∈ R, x.1 = b → x = (b, t, k)) (hw : Wrote b W W') (hm : Made b t k W') : Sc5 N w F R W' := by
  obtain ⟨h1, h2⟩ := h.rs _ hin
  obtain ⟨cc, hcc⟩ := h2.cells
  refine ⟨h.bel.trans (hw.below h1 (Nat.le_trans hN h.bel.size)), fun x hx => ?_, fun x hx => ⟨(h.rs x hx).1, ?_⟩⟩
  · have hf := h.fs x hx
    rw [hw.block x.1 (Array.getElem?_eq_some_iff.1 hf).1 (fun e => by rw [e] at hf; dsimp only at hcc; rw [hcc] at hf; simp at hf)]
    exact hf
  · by_cases e : x.1 = b
    · rw [hone x hx e]; exact hm
    · exact (h.rs x hx).2.wrote hw e ⟨cc, hcc⟩
theorem Sc5.is {N b : Nat} {w W : World} {F : List (Nat × Int × Int)} {R : List (Nat × ByteArray × List Nd)} {t : ByteArray} {k : List Nd} (s : ByteArray) (hs : s.size ≤ 60) (h : Sc5 N w F R W) (hN : N ≤ w.heap.size) (hin : (b, t, k) ∈ R) (hone : ∀ x ∈ R, x.1 = b → x = (b, t, k)) : Calls Try.prog 15 #[.pointer (some ⟨b, 0, none⟩), .string s] W fun e w' => (∃ o, e = .returned (.bool o) ∧ (o = true ↔ M (bl s) (.alt k) 0 (bl s).length)) ∧ Sc5 N w F R w' := by
  refine (is_any steps_any b t s k W (h.rs _ hin).2 (by omega)).mono ?_
  rintro e w' ⟨h1, h2, h3⟩
  exact ⟨h1, h.wrote hN hin hone h3 h2⟩
theorem bl_app (a c : ByteArray) : bl (a ++ c) = bl a ++ bl c := by simp [bl]
theorem bl_or (p q : ByteArray) : bl (⟨#[40]⟩ ++ p ++ ⟨#[41, 124, 40]⟩ ++ q ++ ⟨#[41]⟩) = 40 :: (bl p ++ 41 :: 124 :: 40 :: (bl q ++ [41])) := by
  simp only [bl_app]
  simp [bl]
theorem bl_plus (p : ByteArray) : bl (⟨#[40]⟩ ++ p ++ ⟨#[41, 43]⟩) = 40 :: (bl p ++ [41, 43]) := by
  simp only [bl_app]
  simp [bl]
theorem bl_star (p : ByteArray) : bl (⟨#[40]⟩ ++ p ++ ⟨#[41, 40]⟩ ++ p ++ ⟨#[41, 42]⟩) = 40 :: (bl p ++ 41 :: 40 :: (bl p ++ [41, 42])) := by
  simp only [bl_app]
  simp [bl]
set_option maxRecDepth 20000 in
set_option maxHeartbeats 1000000 in
theorem ways_all (p q s : ByteArray) (k m : List Nd) (w : World) (hl : p.size + q.size ≤ 90) (hs : s.size ≤ 60) (hp : Comp (bl p) (.inl k)) (hq : Comp (bl q) (.inl m)) (hc3 : Comp (bl (⟨#[40]⟩ ++ p ++ ⟨#[41, 124, 40]⟩ ++ q ++ ⟨#[41]⟩)) (.inl [.seq [.alt k], .seq [.alt m]])) (hc4 : Comp (bl (⟨#[40]⟩ ++ p ++ ⟨#[41, 43]⟩)) (.inl [.seq [.plus (.alt k)]])) (hc5 : Comp (bl (⟨#[40]⟩ ++ p ++ ⟨#[41, 40]⟩ ++ p ++ ⟨#[41, 42]⟩)) (.inl [.seq [.alt k, .star (.alt k)]])) : Calls Try.prog 6 #[.string p, .string q, .string s] w fun e w' => e = .returned (.bool true) ∧ Below w.heap.size w w' := by
  have HC3 : Hid (∀ W, Calls Try.prog 9 #[.string (⟨#[40]⟩ ++ p ++ ⟨#[41, 124, 40]⟩ ++ q ++ ⟨#[41]⟩)] W (MadePost (⟨#[40]⟩ ++ p ++ ⟨#[41, 124, 40]⟩ ++ q ++ ⟨#[41]⟩) W (.inl [.seq [.alt k], .seq [.alt m]]))) := fun W => compile_made _ _ hc3 W
  have HC4 : Hid (∀ W, Calls Try.prog 9 #[.string (⟨#[40]⟩ ++ p ++ ⟨#[41, 43]⟩)] W (MadePost (⟨#[40]⟩ ++ p ++ ⟨#[41, 43]⟩) W (.inl [.seq [.plus (.alt k)]]))) := fun W => compile_made _ _ hc4 W
  have HC5 : Hid (∀ W, Calls Try.prog 9 #[.string (⟨#[40]⟩ ++ p ++ ⟨#[41, 40]⟩ ++ p ++ ⟨#[41, 42]⟩)] W (MadePost (⟨#[40]⟩ ++ p ++ ⟨#[41, 40]⟩ ++ p ++ ⟨#[41, 42]⟩) W (.inl [.seq [.alt k, .star (.alt k)]]))) := fun W => compile_made _ _ hc5 W
  clear hc3 hc4 hc5
  have HA : Hid (∀ W, Calls Try.prog 8 #[] W fun e w' => e = .returned (.bool true) ∧ Below W.heap.size W w') := alive_any
  have HP : Hid (∀ W, Calls Try.prog 9 #[.string p] W (MadePost p W (.inl k))) := fun W => compile_made p _ hp W
  have HQ : Hid (∀ W, Calls Try.prog 9 #[.string q] W (MadePost q W (.inl m))) := fun W => compile_made q _ hq W
  have h1 : ¬ (90 : Int) < (p.size : Int) + (q.size : Int) := by omega
  have h2 : ¬ (60 : Int) < (s.size : Int) := by omega
  have hpb : p.size ≤ 90 := by omega
  have hqb : q.size ≤ 90 := by omega
  have H0 : Hid (Sc5 w.heap.size w [] [] w) := Sc5.nil w
  obtain ⟨N, hN⟩ : ∃ N, N = w.heap.size := ⟨_, rfl⟩
  have HN : Hid (N ≤ w.heap.size) := by rw [hN]; exact Nat.le_refl _
  rw [← hN] at H0 ⊢
  clear hN hp hq
  go_enter Try.func6, Try.ntmps6
  go_wp2_with fail
  refine (HP.out _).mono ?_
  rintro e w1 ⟨hB1, b1, rfl, hl1, hm1⟩
  obtain ⟨wa, hwa, hBa, hSa, hka⟩ := one_box w1 (.cells #[.int .i64 0, .int .i64 0] 26)
  obtain ⟨x1, hx1⟩ : ∃ x1, x1 = w1.heap.size := ⟨_, rfl⟩
  have H1 : Hid (Sc5 N w [(x1, 0, 0)] [(b1, p, k)] wa) := by
    rw [hx1]
    exact (((H0.out.below HN.out hB1).reg (Nat.le_trans HN.out hl1) hm1).fault HN.out hBa 0 0 hka)
  clear hB1 hl1 hm1 hBa hSa hka HP
  simp only [faultV]
  go_wp2_with fail
  rw [← hwa, ← hx1]
  clear hwa hx1
  have hb1 := (H1.out.rs (b1, p, k) (by simp)).2.lt
  refine (HQ.out _).mono ?_
  rintro e w2 ⟨hB2, b2, rfl, hl2, hm2⟩
  obtain ⟨wb, hwb, hBb, hSb, hkb⟩ := one_box w2 (.cells #[.int .i64 0, .int .i64 0] 26)
  obtain ⟨x2, hx2⟩ : ∃ x2, x2 = w2.heap.size := ⟨_, rfl⟩
  have hb12 : b1 < b2 := by dsimp only at hb1; omega
  have H2 : Hid (Sc5 N w [(x2, 0, 0), (x1, 0, 0)] [(b2, q, m), (b1, p, k)] wb) := by
    rw [hx2]
    exact (((H1.out.below HN.out hB2).reg (Nat.le_trans (Nat.le_trans HN.out H1.out.bel.size) hl2) hm2).fault HN.out hBb 0 0 hkb)
  have c1 := H2.out.cell x1 0 0 (by simp)
  have c2 := H2.out.cell x2 0 0 (by simp)
  obtain ⟨c10, c11⟩ := c1
  obtain ⟨c20, c21⟩ := c2
  clear hB2 hl2 hm2 hBb hSb hkb HQ hb1
  simp only [faultV]
  rw [hwb] at c10 c11 c20 c21
  rw [hx2] at c20 c21
  go_wp2_with fail
  rw [← hwb, ← hx2]
  clear hwb hx2 c10 c11 c20 c21
  have hlt3 := (H2.out.rs (b2, q, m) (by simp)).2.lt
  refine (HC3.out _).mono ?_
  rintro e w3 ⟨hB, b3, rfl, hl, hm⟩
  have hb23 : b2 < b3 := by dsimp only at hlt3; omega
  obtain ⟨wx3, hw3, hBx, hSx, hkx⟩ := one_box w3 (.cells #[.int .i64 0, .int .i64 0] 26)
  obtain ⟨x3, hx3⟩ : ∃ x3, x3 = w3.heap.size := ⟨_, rfl⟩
  have H3 : Hid (Sc5 N w [(x3, 0, 0), (x2, 0, 0), (x1, 0, 0)] [(b3, (⟨#[40]⟩ ++ p ++ ⟨#[41, 124, 40]⟩ ++ q ++ ⟨#[41]⟩), [.seq [.alt k], .seq [.alt m]]), (b2, q, m), (b1, p, k)] wx3) := by
    rw [hx3]
    exact (((H2.out.below HN.out hB).reg (Nat.le_trans (Nat.le_trans HN.out H2.out.bel.size) hl) hm).fault HN.out hBx 0 0 hkx)
  clear hB hl hm hBx hSx hkx HC3 hlt3 H2
  simp only [faultV]
  go_wp2_with fail
  rw [← hw3, ← hx3]
  clear hw3 hx3
  have hlt4 := (H3.out.rs (b3, (⟨#[40]⟩ ++ p ++ ⟨#[41, 124, 40]⟩ ++ q ++ ⟨#[41]⟩), [.seq [.alt k], .seq [.alt m]]) (by simp)).2.lt
  refine (HC4.out _).mono ?_
  rintro e w4 ⟨hB, b4, rfl, hl, hm⟩
  have hb34 : b3 < b4 := by dsimp only at hlt4; omega
  obtain ⟨wx4, hw4, hBx, hSx, hkx⟩ := one_box w4 (.cells #[.int .i64 0, .int .i64 0] 26)
  obtain ⟨x4, hx4⟩ : ∃ x4, x4 = w4.heap.size := ⟨_, rfl⟩
  have H4 : Hid (Sc5 N w [(x4, 0, 0), (x3, 0, 0), (x2, 0, 0), (x1, 0, 0)] [(b4, (⟨#[40]⟩ ++ p ++ ⟨#[41, 43]⟩), [.seq [.plus (.alt k)]]), (b3, (⟨#[40]⟩ ++ p ++ ⟨#[41, 124, 40]⟩ ++ q ++ ⟨#[41]⟩), [.seq [.alt k], .seq [.alt m]]), (b2, q, m), (b1, p, k)] wx4) := by
    rw [hx4]
    exact (((H3.out.below HN.out hB).reg (Nat.le_trans (Nat.le_trans HN.out H3.out.bel.size) hl) hm).fault HN.out hBx 0 0 hkx)
  clear hB hl hm hBx hSx hkx HC4 hlt4 H3
  simp only [faultV]
  go_wp2_with fail
  rw [← hw4, ← hx4]
  clear hw4 hx4
  have hlt5 := (H4.out.rs (b4, (⟨#[40]⟩ ++ p ++ ⟨#[41, 43]⟩), [.seq [.plus (.alt k)]]) (by simp)).2.lt
  refine (HC5.out _).mono ?_
  rintro e w5 ⟨hB, b5, rfl, hl, hm⟩
  have hb45 : b4 < b5 := by dsimp only at hlt5; omega
  obtain ⟨wx5, hw5, hBx, hSx, hkx⟩ := one_box w5 (.cells #[.int .i64 0, .int .i64 0] 26)
  obtain ⟨x5, hx5⟩ : ∃ x5, x5 = w5.heap.size := ⟨_, rfl⟩
  have H5 : Hid (Sc5 N w [(x5, 0, 0), (x4, 0, 0), (x3, 0, 0), (x2, 0, 0), (x1, 0, 0)] [(b5, (⟨#[40]⟩ ++ p ++ ⟨#[41, 40]⟩ ++ p ++ ⟨#[41, 42]⟩), [.seq [.alt k, .star (.alt k)]]), (b4, (⟨#[40]⟩ ++ p ++ ⟨#[41, 43]⟩), [.seq [.plus (.alt k)]]), (b3, (⟨#[40]⟩ ++ p ++ ⟨#[41, 124, 40]⟩ ++ q ++ ⟨#[41]⟩), [.seq [.alt k], .seq [.alt m]]), (b2, q, m), (b1, p, k)] wx5) := by
    rw [hx5]
    exact (((H4.out.below HN.out hB).reg (Nat.le_trans (Nat.le_trans HN.out H4.out.bel.size) hl) hm).fault HN.out hBx 0 0 hkx)
  clear hB hl hm hBx hSx hkx HC5 hlt5 H4
  simp only [faultV]
  obtain ⟨c30, c31⟩ := H5.out.cell x3 0 0 (by simp)
  obtain ⟨c40, c41⟩ := H5.out.cell x4 0 0 (by simp)
  obtain ⟨c50, c51⟩ := H5.out.cell x5 0 0 (by simp)
  rw [hw5] at c30 c31 c40 c41 c50 c51
  rw [hx5] at c50 c51
  go_wp2_with fail
  rw [← hw5, ← hx5]
  clear hw5 hx5 c30 c31 c40 c41 c50 c51
  have HIS : Hid (∀ (b : Nat) (t : ByteArray) (n : List Nd) (W : World), Sc5 N w [(x5, 0, 0), (x4, 0, 0), (x3, 0, 0), (x2, 0, 0), (x1, 0, 0)] [(b5, (⟨#[40]⟩ ++ p ++ ⟨#[41, 40]⟩ ++ p ++ ⟨#[41, 42]⟩), [.seq [.alt k, .star (.alt k)]]), (b4, (⟨#[40]⟩ ++ p ++ ⟨#[41, 43]⟩), [.seq [.plus (.alt k)]]), (b3, (⟨#[40]⟩ ++ p ++ ⟨#[41, 124, 40]⟩ ++ q ++ ⟨#[41]⟩), [.seq [.alt k], .seq [.alt m]]), (b2, q, m), (b1, p, k)] W → (b, t, n) ∈ [(b5, (⟨#[40]⟩ ++ p ++ ⟨#[41, 40]⟩ ++ p ++ ⟨#[41, 42]⟩), [.seq [.alt k, .star (.alt k)]]), (b4, (⟨#[40]⟩ ++ p ++ ⟨#[41, 43]⟩), [.seq [.plus (.alt k)]]), (b3, (⟨#[40]⟩ ++ p ++ ⟨#[41, 124, 40]⟩ ++ q ++ ⟨#[41]⟩), [.seq [.alt k], .seq [.alt m]]), (b2, q, m), (b1, p, k)] → Calls Try.prog 15 #[.pointer (some ⟨b, 0, none⟩), .string s] W fun e w' => (∃ o, e = .returned (.bool o) ∧ (o = true ↔ M (bl s) (.alt n) 0 (bl s).length)) ∧ Sc5 N w [(x5, 0, 0), (x4, 0, 0), (x3, 0, 0), (x2, 0, 0), (x1, 0, 0)] [(b5, (⟨#[40]⟩ ++ p ++ ⟨#[41, 40]⟩ ++ p ++ ⟨#[41, 42]⟩), [.seq [.alt k, .star (.alt k)]]), (b4, (⟨#[40]⟩ ++ p ++ ⟨#[41, 43]⟩), [.seq [.plus (.alt k)]]), (b3, (⟨#[40]⟩ ++ p ++ ⟨#[41, 124, 40]⟩ ++ q ++ ⟨#[41]⟩), [.seq [.alt k], .seq [.alt m]]), (b2, q, m), (b1, p, k)] w') := fun b t n W hS hin => Sc5.is s hs hS HN.out hin (fun x hx e => by
    simp only [List.mem_cons, List.not_mem_nil, or_false, Prod.mk.injEq] at hx hin
    rcases hin with ⟨rfl, rfl, rfl⟩ | ⟨rfl, rfl, rfl⟩ | ⟨rfl, rfl, rfl⟩ | ⟨rfl, rfl, rfl⟩ | ⟨rfl, rfl, rfl⟩ <;> rcases hx with rfl | rfl | rfl | rfl | rfl <;> first | rfl | (dsimp only at e; omega))
  have hbe : ∀ (x y : Bool) (w : World), Sem.run Try.prog (binOp BinOp.eql 4 (.bool x) (.bool y)) w = .ok (.bool (x == y)) w := fun _ _ _ => rfl
  refine (HIS.out b3 (⟨#[40]⟩ ++ p ++ ⟨#[41, 124, 40]⟩ ++ q ++ ⟨#[41]⟩) [.seq [.alt k], .seq [.alt m]] _ H5.out (by simp)).mono ?_
  rintro e w6 ⟨⟨o3, rfl, g6⟩, hs6⟩
  have H6 : Hid (Sc5 N w [(x5, 0, 0), (x4, 0, 0), (x3, 0, 0), (x2, 0, 0), (x1, 0, 0)] [(b5, (⟨#[40]⟩ ++ p ++ ⟨#[41, 40]⟩ ++ p ++ ⟨#[41, 42]⟩), [.seq [.alt k, .star (.alt k)]]), (b4, (⟨#[40]⟩ ++ p ++ ⟨#[41, 43]⟩), [.seq [.plus (.alt k)]]), (b3, (⟨#[40]⟩ ++ p ++ ⟨#[41, 124, 40]⟩ ++ q ++ ⟨#[41]⟩), [.seq [.alt k], .seq [.alt m]]), (b2, q, m), (b1, p, k)] w6) := hs6
  clear hs6
  go_wp2_with fail
  refine (HIS.out b1 p k _ H6.out (by simp)).mono ?_
  rintro e w7 ⟨⟨o1, rfl, g7⟩, hs7⟩
  have H7 : Hid (Sc5 N w [(x5, 0, 0), (x4, 0, 0), (x3, 0, 0), (x2, 0, 0), (x1, 0, 0)] [(b5, (⟨#[40]⟩ ++ p ++ ⟨#[41, 40]⟩ ++ p ++ ⟨#[41, 42]⟩), [.seq [.alt k, .star (.alt k)]]), (b4, (⟨#[40]⟩ ++ p ++ ⟨#[41, 43]⟩), [.seq [.plus (.alt k)]]), (b3, (⟨#[40]⟩ ++ p ++ ⟨#[41, 124, 40]⟩ ++ q ++ ⟨#[41]⟩), [.seq [.alt k], .seq [.alt m]]), (b2, q, m), (b1, p, k)] w7) := hs7
  clear hs7
  cases o1 with
  | true =>
    have e3 : o3 = true := g6.2 ((M_or _ _ _ _ _).2 (.inl (g7.1 rfl)))
    subst e3
    go_wp2_with fail
    refine (HIS.out b4 (⟨#[40]⟩ ++ p ++ ⟨#[41, 43]⟩) [.seq [.plus (.alt k)]] _ H7.out (by simp)).mono ?_
    rintro e w9 ⟨⟨o4, rfl, g9⟩, hs9⟩
    have H9 : Hid (Sc5 N w [(x5, 0, 0), (x4, 0, 0), (x3, 0, 0), (x2, 0, 0), (x1, 0, 0)] [(b5, (⟨#[40]⟩ ++ p ++ ⟨#[41, 40]⟩ ++ p ++ ⟨#[41, 42]⟩), [.seq [.alt k, .star (.alt k)]]), (b4, (⟨#[40]⟩ ++ p ++ ⟨#[41, 43]⟩), [.seq [.plus (.alt k)]]), (b3, (⟨#[40]⟩ ++ p ++ ⟨#[41, 124, 40]⟩ ++ q ++ ⟨#[41]⟩), [.seq [.alt k], .seq [.alt m]]), (b2, q, m), (b1, p, k)] w9) := hs9
    clear hs9
    go_wp2_with fail
    refine (HIS.out b5 (⟨#[40]⟩ ++ p ++ ⟨#[41, 40]⟩ ++ p ++ ⟨#[41, 42]⟩) [.seq [.alt k, .star (.alt k)]] _ H9.out (by simp)).mono ?_
    rintro e w10 ⟨⟨o5, rfl, g10⟩, hs10⟩
    have H10 : Hid (Sc5 N w [(x5, 0, 0), (x4, 0, 0), (x3, 0, 0), (x2, 0, 0), (x1, 0, 0)] [(b5, (⟨#[40]⟩ ++ p ++ ⟨#[41, 40]⟩ ++ p ++ ⟨#[41, 42]⟩), [.seq [.alt k, .star (.alt k)]]), (b4, (⟨#[40]⟩ ++ p ++ ⟨#[41, 43]⟩), [.seq [.plus (.alt k)]]), (b3, (⟨#[40]⟩ ++ p ++ ⟨#[41, 124, 40]⟩ ++ q ++ ⟨#[41]⟩), [.seq [.alt k], .seq [.alt m]]), (b2, q, m), (b1, p, k)] w10) := hs10
    clear hs10
    have e45 : o5 = o4 := by
      rw [Bool.eq_iff_iff, g10, g9, M_plus]
    subst e45
    clear g9 g10 g6 g7
    cases o5 with
    | true =>
      go_wp2_with fail
      refine (HA.out _).mono ?_
      rintro e w9 ⟨rfl, hb⟩
      have HB : Hid (Below N w w9) := H10.out.bel.trans (hb.mono (Nat.le_trans HN.out H10.out.bel.size))
      clear hb
      go_wp2_with fail
      go_ret
      exact ⟨rfl, HB.out⟩
    | false =>
      go_wp2_with fail
      refine (HA.out _).mono ?_
      rintro e w9 ⟨rfl, hb⟩
      have HB : Hid (Below N w w9) := H10.out.bel.trans (hb.mono (Nat.le_trans HN.out H10.out.bel.size))
      clear hb
      go_wp2_with fail
      go_ret
      exact ⟨rfl, HB.out⟩
  | false =>
    go_wp2_with fail
    refine (HIS.out b2 q m _ H7.out (by simp)).mono ?_
    rintro e w8 ⟨⟨o2, rfl, g8⟩, hs8⟩
    have H8 : Hid (Sc5 N w [(x5, 0, 0), (x4, 0, 0), (x3, 0, 0), (x2, 0, 0), (x1, 0, 0)] [(b5, (⟨#[40]⟩ ++ p ++ ⟨#[41, 40]⟩ ++ p ++ ⟨#[41, 42]⟩), [.seq [.alt k, .star (.alt k)]]), (b4, (⟨#[40]⟩ ++ p ++ ⟨#[41, 43]⟩), [.seq [.plus (.alt k)]]), (b3, (⟨#[40]⟩ ++ p ++ ⟨#[41, 124, 40]⟩ ++ q ++ ⟨#[41]⟩), [.seq [.alt k], .seq [.alt m]]), (b2, q, m), (b1, p, k)] w8) := hs8
    clear hs8
    have e3 : o3 = o2 := by
      rw [Bool.eq_iff_iff, g6, g8, M_or]
      constructor
      · rintro (h | h)
        · cases g7.2 h
        · exact h
      · exact .inr
    subst e3
    clear g8
    cases o3 with
    | true =>
      go_wp2_with fail
      refine (HIS.out b4 (⟨#[40]⟩ ++ p ++ ⟨#[41, 43]⟩) [.seq [.plus (.alt k)]] _ H8.out (by simp)).mono ?_
      rintro e w9 ⟨⟨o4, rfl, g9⟩, hs9⟩
      have H9 : Hid (Sc5 N w [(x5, 0, 0), (x4, 0, 0), (x3, 0, 0), (x2, 0, 0), (x1, 0, 0)] [(b5, (⟨#[40]⟩ ++ p ++ ⟨#[41, 40]⟩ ++ p ++ ⟨#[41, 42]⟩), [.seq [.alt k, .star (.alt k)]]), (b4, (⟨#[40]⟩ ++ p ++ ⟨#[41, 43]⟩), [.seq [.plus (.alt k)]]), (b3, (⟨#[40]⟩ ++ p ++ ⟨#[41, 124, 40]⟩ ++ q ++ ⟨#[41]⟩), [.seq [.alt k], .seq [.alt m]]), (b2, q, m), (b1, p, k)] w9) := hs9
      clear hs9
      go_wp2_with fail
      refine (HIS.out b5 (⟨#[40]⟩ ++ p ++ ⟨#[41, 40]⟩ ++ p ++ ⟨#[41, 42]⟩) [.seq [.alt k, .star (.alt k)]] _ H9.out (by simp)).mono ?_
      rintro e w10 ⟨⟨o5, rfl, g10⟩, hs10⟩
      have H10 : Hid (Sc5 N w [(x5, 0, 0), (x4, 0, 0), (x3, 0, 0), (x2, 0, 0), (x1, 0, 0)] [(b5, (⟨#[40]⟩ ++ p ++ ⟨#[41, 40]⟩ ++ p ++ ⟨#[41, 42]⟩), [.seq [.alt k, .star (.alt k)]]), (b4, (⟨#[40]⟩ ++ p ++ ⟨#[41, 43]⟩), [.seq [.plus (.alt k)]]), (b3, (⟨#[40]⟩ ++ p ++ ⟨#[41, 124, 40]⟩ ++ q ++ ⟨#[41]⟩), [.seq [.alt k], .seq [.alt m]]), (b2, q, m), (b1, p, k)] w10) := hs10
      clear hs10
      have e45 : o5 = o4 := by
        rw [Bool.eq_iff_iff, g10, g9, M_plus]
      subst e45
      clear g9 g10 g6 g7
      cases o5 with
      | true =>
        go_wp2_with fail
        refine (HA.out _).mono ?_
        rintro e w9 ⟨rfl, hb⟩
        have HB : Hid (Below N w w9) := H10.out.bel.trans (hb.mono (Nat.le_trans HN.out H10.out.bel.size))
        clear hb
        go_wp2_with fail
        go_ret
        exact ⟨rfl, HB.out⟩
      | false =>
        go_wp2_with fail
        refine (HA.out _).mono ?_
        rintro e w9 ⟨rfl, hb⟩
        have HB : Hid (Below N w w9) := H10.out.bel.trans (hb.mono (Nat.le_trans HN.out H10.out.bel.size))
        clear hb
        go_wp2_with fail
        go_ret
        exact ⟨rfl, HB.out⟩
    | false =>
      go_wp2_with fail
      refine (HIS.out b4 (⟨#[40]⟩ ++ p ++ ⟨#[41, 43]⟩) [.seq [.plus (.alt k)]] _ H8.out (by simp)).mono ?_
      rintro e w9 ⟨⟨o4, rfl, g9⟩, hs9⟩
      have H9 : Hid (Sc5 N w [(x5, 0, 0), (x4, 0, 0), (x3, 0, 0), (x2, 0, 0), (x1, 0, 0)] [(b5, (⟨#[40]⟩ ++ p ++ ⟨#[41, 40]⟩ ++ p ++ ⟨#[41, 42]⟩), [.seq [.alt k, .star (.alt k)]]), (b4, (⟨#[40]⟩ ++ p ++ ⟨#[41, 43]⟩), [.seq [.plus (.alt k)]]), (b3, (⟨#[40]⟩ ++ p ++ ⟨#[41, 124, 40]⟩ ++ q ++ ⟨#[41]⟩), [.seq [.alt k], .seq [.alt m]]), (b2, q, m), (b1, p, k)] w9) := hs9
      clear hs9
      go_wp2_with fail
      refine (HIS.out b5 (⟨#[40]⟩ ++ p ++ ⟨#[41, 40]⟩ ++ p ++ ⟨#[41, 42]⟩) [.seq [.alt k, .star (.alt k)]] _ H9.out (by simp)).mono ?_
      rintro e w10 ⟨⟨o5, rfl, g10⟩, hs10⟩
      have H10 : Hid (Sc5 N w [(x5, 0, 0), (x4, 0, 0), (x3, 0, 0), (x2, 0, 0), (x1, 0, 0)] [(b5, (⟨#[40]⟩ ++ p ++ ⟨#[41, 40]⟩ ++ p ++ ⟨#[41, 42]⟩), [.seq [.alt k, .star (.alt k)]]), (b4, (⟨#[40]⟩ ++ p ++ ⟨#[41, 43]⟩), [.seq [.plus (.alt k)]]), (b3, (⟨#[40]⟩ ++ p ++ ⟨#[41, 124, 40]⟩ ++ q ++ ⟨#[41]⟩), [.seq [.alt k], .seq [.alt m]]), (b2, q, m), (b1, p, k)] w10) := hs10
      clear hs10
      have e45 : o5 = o4 := by
        rw [Bool.eq_iff_iff, g10, g9, M_plus]
      subst e45
      clear g9 g10 g6 g7
      cases o5 with
      | true =>
        go_wp2_with fail
        refine (HA.out _).mono ?_
        rintro e w9 ⟨rfl, hb⟩
        have HB : Hid (Below N w w9) := H10.out.bel.trans (hb.mono (Nat.le_trans HN.out H10.out.bel.size))
        clear hb
        go_wp2_with fail
        go_ret
        exact ⟨rfl, HB.out⟩
      | false =>
        go_wp2_with fail
        refine (HA.out _).mono ?_
        rintro e w9 ⟨rfl, hb⟩
        have HB : Hid (Below N w w9) := H10.out.bel.trans (hb.mono (Nat.le_trans HN.out H10.out.bel.size))
        clear hb
        go_wp2_with fail
        go_ret
        exact ⟨rfl, HB.out⟩
end Go.Proofs.Ytmmhajlfbjjocaa
