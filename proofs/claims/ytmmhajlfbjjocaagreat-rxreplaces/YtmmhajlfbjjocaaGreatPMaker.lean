/-
  Forks, and what is made of rows of steps.
-/
import Derived.Test.YtmmhajlfbjjocaaGreatPGrow
namespace Go.Proofs.YtmmhajlfbjjocaaGreat
open Go.RowKit Go.Shelf RxSem

def fk (a b : Int) : SV := ⟨3, W4.zero, a, b⟩
def maybeV (A : List SV) : List SV := fk 1 (A.length + 1) :: A
def againV (A : List SV) : List SV := A ++ [fk (-(A.length : Int)) 1]
def eitherV (A B : List SV) : List SV := fk 1 (A.length + 2) :: (A ++ fk (B.length + 1) (B.length + 1) :: B)
theorem maybeV_abs (A : List SV) : (maybeV A).map SV.abs = maybe (A.map SV.abs) := by simp [maybeV, maybe, fk, SV.abs]
theorem againV_abs (A : List SV) : (againV A).map SV.abs = agn (A.map SV.abs) := by simp [againV, agn, fk, SV.abs]
theorem eitherV_abs (A B : List SV) : (eitherV A B).map SV.abs = either (A.map SV.abs) (B.map SV.abs) := by simp [eitherV, either, fk, SV.abs]
theorem fk_ok {a b : Int} (h1 : -1000000 ≤ a ∧ a ≤ 1000000) (h2 : -1000000 ≤ b ∧ b ≤ 1000000) : (fk a b).Ok := ⟨W4.zero_ok, by simp [fk], h1, h2⟩

set_option maxRecDepth 20000 in
set_option maxHeartbeats 400000 in
theorem forked_any (a b : Int) (w : World) : Calls Tryz.prog 84 #[.int .i64 a, .int .i64 b] w fun e w' => e = .returned (.slice (some ⟨w.heap.size, 0, none⟩) 1 1) ∧ Row w.heap.size (.slice (some ⟨w.heap.size, 0, none⟩) 1 1) [fk a b] w' ∧ Below w.heap.size w w' := by
  go_enter Tryz.func84, Tryz.ntmps84
  go_wp2_with fail
  go_ret
  refine ⟨rfl, ⟨rfl, .inr ⟨w.heap.size, 1, _, rfl, Nat.le_refl _, heap_alloc_new _ _, by simp, by unfold maxLen; omega, rfl, rfl⟩⟩, (Below.refl _ _).alloc (Nat.le_refl _) _⟩

set_option maxRecDepth 20000 in
set_option maxHeartbeats 400000 in
theorem maybe_any (va : Value) (A : List SV) (w : World) (h : Row 0 va A w) (hA : A.length ≤ 10000) : Calls Tryz.prog 94 #[va] w fun e w' => ∃ v, e = .returned v ∧ Row w.heap.size v (maybeV A) w' ∧ Below w.heap.size w w' := by
  obtain ⟨av, cv, hv⟩ := row_slice h
  obtain ⟨n, hn⟩ : ∃ n, n = A.length := ⟨_, rfl⟩
  rw [← hn] at hv
  subst hv
  have HFk : Hid (∀ a b W, Calls Tryz.prog 84 #[.int .i64 a, .int .i64 b] W fun e w' => e = .returned (.slice (some ⟨W.heap.size, 0, none⟩) 1 1) ∧ Row W.heap.size (.slice (some ⟨W.heap.size, 0, none⟩) 1 1) [fk a b] w' ∧ Below W.heap.size W w') := forked_any
  have HX : Hid (n = A.length ∧ Row 0 (.slice av n cv) A w) := ⟨hn, h⟩
  rw [← hn] at hA
  clear h hn
  go_enter Tryz.func94, Tryz.ntmps94
  go_wp2_with fail
  refine (HFk.out _ _ _).mono ?_
  rintro e w1 ⟨rfl, hr1, hb1⟩
  obtain ⟨wa, hwa, hBa, hSa, hka⟩ := one_box w1 (.cells #[.slice (some ⟨w.heap.size, 0, none⟩) 1 1, .slice av n cv] 61)
  have hbw : Below w.heap.size w wa := hb1.trans (hBa.mono hb1.size)
  have HC : Hid (Calls Tryz.prog 83 #[.slice (some ⟨w1.heap.size, 0, none⟩) 2 2] wa fun e w' => ∃ v, e = .returned v ∧ Row wa.heap.size v (maybeV A) w' ∧ Below wa.heap.size wa w') := by
    have hP : Parts w1.heap.size [(.slice (some ⟨w.heap.size, 0, none⟩) 1 1, [fk 1 ((n : Int) + 1)]), (.slice av n cv, A)] wa := ⟨hka, fun x hx => by
      simp at hx
      rcases hx with rfl | rfl
      · exact owns_below (row_base hr1 (Nat.zero_le _)) hBa
      · exact owns_below (owns_below HX.out.2 hb1) hBa⟩
    have hl := HX.out.1
    refine (concat_any w1.heap.size _ wa hP (by simp) (by simp; omega) (by simp)).mono ?_
    rintro e w' ⟨v, he, hR, hB⟩
    refine ⟨v, he, ?_, hB⟩
    have e2 : maybeV A = ([(.slice (some ⟨w.heap.size, 0, none⟩) 1 1, [fk 1 ((n : Int) + 1)]), (.slice av n cv, A)] : List (Value × List SV)).flatMap (·.2) := by simp [maybeV, ← hl]
    rw [e2]; exact hR
  have H1 : Hid (Below w.heap.size w wa) := hbw
  clear hr1 hb1 hBa hSa hka HFk hbw
  go_wp2_with fail
  rw [← hwa]
  refine HC.out.mono ?_
  rintro e w2 ⟨v, rfl, hR, hB⟩
  have H2 : Hid (Row wa.heap.size v (maybeV A) w2 ∧ Below wa.heap.size wa w2) := ⟨hR, hB⟩
  clear hR hB HC
  go_wp2_with fail
  go_ret
  exact ⟨v, rfl, row_base H2.out.1 H1.out.size, H1.out.trans (H2.out.2.mono H1.out.size)⟩
set_option maxRecDepth 20000 in
set_option maxHeartbeats 400000 in
theorem again_any (va : Value) (A : List SV) (w : World) (h : Row 0 va A w) (hA : A.length ≤ 10000) : Calls Tryz.prog 95 #[va] w fun e w' => ∃ v, e = .returned v ∧ Row w.heap.size v (againV A) w' ∧ Below w.heap.size w w' := by
  obtain ⟨av, cv, hv⟩ := row_slice h
  obtain ⟨n, hn⟩ : ∃ n, n = A.length := ⟨_, rfl⟩
  rw [← hn] at hv
  subst hv
  have HFk : Hid (∀ a b W, Calls Tryz.prog 84 #[.int .i64 a, .int .i64 b] W fun e w' => e = .returned (.slice (some ⟨W.heap.size, 0, none⟩) 1 1) ∧ Row W.heap.size (.slice (some ⟨W.heap.size, 0, none⟩) 1 1) [fk a b] w' ∧ Below W.heap.size W w') := forked_any
  have HX : Hid (n = A.length ∧ Row 0 (.slice av n cv) A w) := ⟨hn, h⟩
  rw [← hn] at hA
  clear h hn
  go_enter Tryz.func95, Tryz.ntmps95
  go_wp2_with fail
  refine (HFk.out _ _ _).mono ?_
  rintro e w1 ⟨rfl, hr1, hb1⟩
  obtain ⟨wa, hwa, hBa, hSa, hka⟩ := one_box w1 (.cells #[.slice av n cv, .slice (some ⟨w.heap.size, 0, none⟩) 1 1] 61)
  have hbw : Below w.heap.size w wa := hb1.trans (hBa.mono hb1.size)
  have HC : Hid (Calls Tryz.prog 83 #[.slice (some ⟨w1.heap.size, 0, none⟩) 2 2] wa fun e w' => ∃ v, e = .returned v ∧ Row wa.heap.size v (againV A) w' ∧ Below wa.heap.size wa w') := by
    have hP : Parts w1.heap.size [(.slice av n cv, A), (.slice (some ⟨w.heap.size, 0, none⟩) 1 1, [fk (-(n : Int)) 1])] wa := ⟨hka, fun x hx => by
      simp at hx
      rcases hx with rfl | rfl
      · exact owns_below (owns_below HX.out.2 hb1) hBa
      · exact owns_below (row_base hr1 (Nat.zero_le _)) hBa⟩
    have hl := HX.out.1
    refine (concat_any w1.heap.size _ wa hP (by simp) (by simp; omega) (by simp)).mono ?_
    rintro e w' ⟨v, he, hR, hB⟩
    refine ⟨v, he, ?_, hB⟩
    have e2 : againV A = ([(.slice av n cv, A), (.slice (some ⟨w.heap.size, 0, none⟩) 1 1, [fk (-(n : Int)) 1])] : List (Value × List SV)).flatMap (·.2) := by simp [againV, ← hl]
    rw [e2]; exact hR
  have H1 : Hid (Below w.heap.size w wa) := hbw
  clear hr1 hb1 hBa hSa hka HFk hbw
  go_wp2_with fail
  rw [← hwa]
  refine HC.out.mono ?_
  rintro e w2 ⟨v, rfl, hR, hB⟩
  have H2 : Hid (Row wa.heap.size v (againV A) w2 ∧ Below wa.heap.size wa w2) := ⟨hR, hB⟩
  clear hR hB HC
  go_wp2_with fail
  go_ret
  exact ⟨v, rfl, row_base H2.out.1 H1.out.size, H1.out.trans (H2.out.2.mono H1.out.size)⟩
set_option maxRecDepth 20000 in
set_option maxHeartbeats 400000 in
theorem either_any (va vb : Value) (A B : List SV) (w : World) (h : Row 0 va A w) (h2 : Row 0 vb B w) (hA : A.length ≤ 10000) (hB : B.length ≤ 10000) : Calls Tryz.prog 76 #[va, vb] w fun e w' => ∃ v, e = .returned v ∧ Row w.heap.size v (eitherV A B) w' ∧ Below w.heap.size w w' := by
  obtain ⟨av, cv, hv⟩ := row_slice h
  obtain ⟨n, hn⟩ : ∃ n, n = A.length := ⟨_, rfl⟩
  rw [← hn] at hv
  subst hv
  obtain ⟨av2, cv2, hv2⟩ := row_slice h2
  obtain ⟨m, hm⟩ : ∃ n, n = B.length := ⟨_, rfl⟩
  rw [← hm] at hv2
  subst hv2
  have HFk : Hid (∀ a b W, Calls Tryz.prog 84 #[.int .i64 a, .int .i64 b] W fun e w' => e = .returned (.slice (some ⟨W.heap.size, 0, none⟩) 1 1) ∧ Row W.heap.size (.slice (some ⟨W.heap.size, 0, none⟩) 1 1) [fk a b] w' ∧ Below W.heap.size W w') := forked_any
  have HX : Hid (n = A.length ∧ Row 0 (.slice av n cv) A w ∧ m = B.length ∧ Row 0 (.slice av2 m cv2) B w) := ⟨hn, h, hm, h2⟩
  rw [← hn] at hA
  rw [← hm] at hB
  clear h h2 hn hm
  go_enter Tryz.func76, Tryz.ntmps76
  go_wp2_with fail
  refine (HFk.out _ _ _).mono ?_
  rintro e w1 ⟨rfl, hr1, hb1⟩
  have H1 : Hid (Row w.heap.size (.slice (some ⟨w.heap.size, 0, none⟩) 1 1) [fk 1 ((n : Int) + 2)] w1 ∧ Below w.heap.size w w1) := ⟨hr1, hb1⟩
  clear hr1 hb1
  go_wp2_with fail
  refine (HFk.out _ _ _).mono ?_
  rintro e w2 ⟨rfl, hr2, hb2⟩
  obtain ⟨wa, hwa, hBa, hSa, hka⟩ := one_box w2 (.cells #[.slice (some ⟨w.heap.size, 0, none⟩) 1 1, .slice av n cv, .slice (some ⟨w1.heap.size, 0, none⟩) 1 1, .slice av2 m cv2] 61)
  have hb12 : Below w.heap.size w w2 := H1.out.2.trans (hb2.mono H1.out.2.size)
  have hbw : Below w.heap.size w wa := hb12.trans (hBa.mono hb12.size)
  have HC : Hid (Calls Tryz.prog 83 #[.slice (some ⟨w2.heap.size, 0, none⟩) 4 4] wa fun e w' => ∃ v, e = .returned v ∧ Row wa.heap.size v (eitherV A B) w' ∧ Below wa.heap.size wa w') := by
    have hP : Parts w2.heap.size [(.slice (some ⟨w.heap.size, 0, none⟩) 1 1, [fk 1 ((n : Int) + 2)]), (.slice av n cv, A), (.slice (some ⟨w1.heap.size, 0, none⟩) 1 1, [fk ((m : Int) + 1) ((m : Int) + 1)]), (.slice av2 m cv2, B)] wa := ⟨hka, fun x hx => by
      simp at hx
      rcases hx with rfl | rfl | rfl | rfl
      · exact owns_below (owns_below (row_base H1.out.1 (Nat.zero_le _)) hb2) hBa
      · exact owns_below (owns_below (owns_below HX.out.2.1 H1.out.2) hb2) hBa
      · exact owns_below (row_base hr2 (Nat.zero_le _)) hBa
      · exact owns_below (owns_below (owns_below HX.out.2.2.2 H1.out.2) hb2) hBa⟩
    have hl := HX.out.1
    have hl2 := HX.out.2.2.1
    refine (concat_any w2.heap.size _ wa hP (by simp) (by simp; omega) (by simp)).mono ?_
    rintro e w' ⟨v, he, hR, hB⟩
    refine ⟨v, he, ?_, hB⟩
    have e2 : eitherV A B = ([(.slice (some ⟨w.heap.size, 0, none⟩) 1 1, [fk 1 ((n : Int) + 2)]), (.slice av n cv, A), (.slice (some ⟨w1.heap.size, 0, none⟩) 1 1, [fk ((m : Int) + 1) ((m : Int) + 1)]), (.slice av2 m cv2, B)] : List (Value × List SV)).flatMap (·.2) := by simp [eitherV, ← hl, ← hl2]
    rw [e2]; exact hR
  have H2 : Hid (Below w.heap.size w wa) := hbw
  clear hr2 hb2 hBa hSa hka HFk hbw hb12
  go_wp2_with fail
  rw [← hwa]
  refine HC.out.mono ?_
  rintro e w3 ⟨v, rfl, hR, hB⟩
  have H3 : Hid (Row wa.heap.size v (eitherV A B) w3 ∧ Below wa.heap.size wa w3) := ⟨hR, hB⟩
  clear hR hB HC
  go_wp2_with fail
  go_ret
  exact ⟨v, rfl, row_base H3.out.1 H2.out.size, H2.out.trans (H3.out.2.mono H2.out.size)⟩
end Go.Proofs.YtmmhajlfbjjocaaGreat
