/-
  MB4
-/
import Derived.Test.YtedepknbaakkhaaGreatDoorL44
set_option maxRecDepth 20000
namespace Go.Proofs.YtedepknbaakkhaaGreatDoor
open Go.RowKit Go.Shelf Go.Sort
theorem emptyL : E.toList = [] := by decide +kernel
theorem list_ne {s : ByteArray} (h : ¬ s.toList = []) : 0 < s.size ∧ bl s ≠ [] := by
  have h1 : 0 < s.size := by
    by_cases h0 : s.size = 0
    · exact absurd (by have : s = E := bl_inj (List.length_eq_zero_iff.1 (by rw [bl_length]; exact h0)); rw [this]; exact emptyL) h
    · omega
  exact ⟨h1, fun e => by have := bl_length s; rw [e] at this; simp at this; omega⟩
theorem chain_all {s t : ByteArray} (hs : ¬ s.toList = []) (ht : ¬ t.toList = []) (hl : ((s[s.size - 1]'(by have := (list_ne hs).1; omega)).toNat : Int) ≠ 92) {us vs : List Um} (h1 : allU (bl s) = .inl us) (h2 : allU (bl t) = .inl vs) (h5 : (fltN (allU (bl (s ++ ⟨#[58]⟩ ++ t)))).1 ≠ 5) : allU (bl (s ++ ⟨#[58]⟩ ++ t)) = .inl (us ++ vs) := by
  have e : bl (s ++ ⟨#[58]⟩ ++ t) = bl s ++ 58 :: bl t := by rw [bl_cat, bl_cat]; simp [bl]
  rw [e] at h5 ⊢
  have hl' : (bl s).getLast? ≠ some 92 := fun h => by
    rw [last_is s (list_ne hs).1] at h
    exact hl (by rw [Option.some.inj h]; rfl)
  rcases all_both (list_ne hs).2 (list_ne ht).2 hl' h1 h2 with h | ⟨a, h⟩
  · exact h
  · rw [h] at h5; exact absurd rfl h5
set_option maxHeartbeats 8000000 in
theorem chain_mid (s t : ByteArray) (a : Option Addr) (n c : Nat) (l : List ByteArray) (w : World) (hsz : s.size + t.size ≤ 300) (hw : Words w.heap.size w (.slice a n c) l) (hG : Gz w) (hE : Ey w) (hfar : farB (s ++ t) l = false) (hs : ¬ s.toList = []) (ht : ¬ t.toList = []) (hn : n ≤ 1000000) (hls : ∀ y ∈ l, y.size ≤ 1000000) :
    Calls Tryz.prog 8 #[.string s, .string t, .slice a n c] w fun e w' => e = .returned (.bool true) ∧ Below w.heap.size w w' := by
  have HAl : Hid (∀ W, Below w.heap.size w W → Calls Tryz.prog 10 #[] W fun e w' => e = .returned (.bool true) ∧ Below W.heap.size W w') := fun W hB => alive_any W (hG.1.below hB hG.1.pos)
  have hF0 := far_any (s ++ t) a n c l w hw
  rw [hfar] at hF0
  have HF : Hid (Calls Tryz.prog 9 #[.string (s ++ t), .slice a n c] w fun e w' => e = .returned (.bool false) ∧ w = w') := hF0
  have hov : ¬ 9223372036854775807 < s.size + t.size := by omega
  have hov1 : ¬ 9223372036854775807 < s.size + (⟨#[58]⟩ : ByteArray).size := by show ¬ _ < s.size + 1; omega
  have hov2 : ¬ 9223372036854775807 < (s ++ ⟨#[58]⟩ : ByteArray).size + t.size := by rw [ByteArray.size_append]; show ¬ _ < s.size + 1 + t.size; omega
  have hst : (s ++ ⟨#[58]⟩ ++ t : ByteArray).size ≤ 301 := by rw [ByteArray.size_append, ByteArray.size_append]; show s.size + 1 + t.size ≤ 301; omega
  have hs2 : s.toList.isEmpty = false := by simp; exact hs
  have ht2 : t.toList.isEmpty = false := by simp; exact ht
  have hs0 : 0 < s.size := (list_ne hs).1
  obtain ⟨f1, f2, hf⟩ : ∃ f1 f2, fltN (allU (bl s)) = (f1, f2) := ⟨_, _, rfl⟩
  obtain ⟨g1, g2, hg⟩ : ∃ g1 g2, fltN (allU (bl t)) = (g1, g2) := ⟨_, _, rfl⟩
  obtain ⟨h1, h2, hh⟩ : ∃ h1 h2, fltN (allU (bl (s ++ ⟨#[58]⟩ ++ t))) = (h1, h2) := ⟨_, _, rfl⟩
  have HPs : Hid (∀ W, Below w.heap.size w W → Calls Tryz.prog 14 #[.string s] W fun e w' => (∃ v, e = .returned (.tuple #[v, .agg #[.int .i64 (f1 : Int), .int .i64 (f2 : Int)]])) ∧ Below W.heap.size W w') := fun W hB => parse_f s W (by omega) (hG.1.below hB hG.1.pos) (hE.below hB hE.pos) f1 f2 hf
  have HPt : Hid (∀ W, Below w.heap.size w W → Calls Tryz.prog 14 #[.string t] W fun e w' => (∃ v, e = .returned (.tuple #[v, .agg #[.int .i64 (g1 : Int), .int .i64 (g2 : Int)]])) ∧ Below W.heap.size W w') := fun W hB => parse_f t W (by omega) (hG.1.below hB hG.1.pos) (hE.below hB hE.pos) g1 g2 hg
  have HPh : Hid (∀ W, Below w.heap.size w W → Calls Tryz.prog 14 #[.string (s ++ ⟨#[58]⟩ ++ t)] W fun e w' => (∃ v, e = .returned (.tuple #[v, .agg #[.int .i64 (h1 : Int), .int .i64 (h2 : Int)]])) ∧ Below W.heap.size W w') := fun W hB => parse_f _ W (by omega) (hG.1.below hB hG.1.pos) (hE.below hB hE.pos) h1 h2 hh
  go_enter Tryz.func8, Tryz.ntmps8
  go_wp2_with fail
  refine HF.out.mono ?_
  rintro e w' ⟨rfl, rfl⟩
  go_wp2_with fail
  refine (HPs.out _ (Below.refl _ _)).mono ?_
  rintro e w1 ⟨⟨v1, rfl⟩, hb1⟩
  have hx1 := heap_alloc_new w1 (.cells #[.int .i64 (f1 : Int), .int .i64 (f2 : Int)] 33)
  have hb2 := hb1.alloc hb1.size (.cells #[.int .i64 (f1 : Int), .int .i64 (f2 : Int)] 33)
  obtain ⟨w2, hw2⟩ : ∃ w2, w2 = w1.alloc (.cells #[.int .i64 (f1 : Int), .int .i64 (f2 : Int)] 33) := ⟨_, rfl⟩
  rw [← hw2] at hx1 hb2
  have hn2 : w1.heap.size < w2.heap.size := (Array.getElem?_eq_some_iff.1 hx1).1
  go_upto_region 4 with fail
  rw [← hw2]
  generalize w1.heap.size = b1 at hx1 hn2 ⊢
  clear hw2 hb1 hn2
  go_wp2_with fail
  refine (HPt.out _ hb2).mono ?_
  rintro e w3 ⟨⟨v3, rfl⟩, hb3⟩
  have hx3 := (hb3.block b1 (Array.getElem?_eq_some_iff.1 hx1).1).trans hx1
  replace hb3 := hb2.trans (hb3.mono hb2.size)
  clear hx1 hb2 w2
  have hy3 := heap_alloc_new w3 (.cells #[.int .i64 (g1 : Int), .int .i64 (g2 : Int)] 33)
  have hb4 := hb3.alloc hb3.size (.cells #[.int .i64 (g1 : Int), .int .i64 (g2 : Int)] 33)
  have hx4 := (((Below.refl w3.heap.size w3).alloc (Nat.le_refl _) (.cells #[.int .i64 (g1 : Int), .int .i64 (g2 : Int)] 33)).block b1 (Array.getElem?_eq_some_iff.1 hx3).1).trans hx3
  obtain ⟨w4, hw4⟩ : ∃ w4, w4 = w3.alloc (.cells #[.int .i64 (g1 : Int), .int .i64 (g2 : Int)] 33) := ⟨_, rfl⟩
  rw [← hw4] at hy3 hb4 hx4
  go_upto_region 5 with fail
  rw [← hw4]
  generalize w3.heap.size = b3 at hy3 ⊢
  clear hw4 hb3 hx3 w3
  go_wp2_with fail
  refine (HPh.out _ hb4).mono ?_
  rintro e w5 ⟨⟨v5, rfl⟩, hb5⟩
  have hx5 := (hb5.block b1 (Array.getElem?_eq_some_iff.1 hx4).1).trans hx4
  have hy5 := (hb5.block b3 (Array.getElem?_eq_some_iff.1 hy3).1).trans hy3
  replace hb5 := hb4.trans (hb5.mono hb4.size)
  clear hx4 hy3 hb4 w4
  have hz6 := heap_alloc_new w5 (.cells #[.int .i64 (h1 : Int), .int .i64 (h2 : Int)] 33)
  have hb6 := hb5.alloc hb5.size (.cells #[.int .i64 (h1 : Int), .int .i64 (h2 : Int)] 33)
  have hB5 := (Below.refl w5.heap.size w5).alloc (Nat.le_refl _) (.cells #[.int .i64 (h1 : Int), .int .i64 (h2 : Int)] 33)
  have hx6 := (hB5.block b1 (Array.getElem?_eq_some_iff.1 hx5).1).trans hx5
  have hy6 := (hB5.block b3 (Array.getElem?_eq_some_iff.1 hy5).1).trans hy5
  obtain ⟨w6, hw6⟩ : ∃ w6, w6 = w5.alloc (.cells #[.int .i64 (h1 : Int), .int .i64 (h2 : Int)] 33) := ⟨_, rfl⟩
  rw [← hw6] at hz6 hb6 hx6 hy6
  go_upto_region 6 with fail
  rw [← hw6]
  generalize w5.heap.size = b5 at hz6 ⊢
  clear hw6 hb5 hx5 hy5 hB5 w5
  have HB6 : Hid (Below w.heap.size w w6) := hb6
  have x0 : w6.cell? ⟨b1, 0, none⟩ = some (.int .i64 (f1 : Int)) := by simp [World.cell?, hx6]
  have x1 : w6.cell? ⟨b1, 1, none⟩ = some (.int .i64 (f2 : Int)) := by simp [World.cell?, hx6]
  have y0 : w6.cell? ⟨b3, 0, none⟩ = some (.int .i64 (g1 : Int)) := by simp [World.cell?, hy6]
  have y1 : w6.cell? ⟨b3, 1, none⟩ = some (.int .i64 (g2 : Int)) := by simp [World.cell?, hy6]
  have z0 : w6.cell? ⟨b5, 0, none⟩ = some (.int .i64 (h1 : Int)) := by simp [World.cell?, hz6]
  have z1 : w6.cell? ⟨b5, 1, none⟩ = some (.int .i64 (h2 : Int)) := by simp [World.cell?, hz6]
  have HZ : Hid (w6.heap[b5]? = some (.cells #[.int .i64 (h1 : Int), .int .i64 (h2 : Int)] 33 (0, 0))) := hz6
  clear hx6 hy6 hz6 hb6
  by_cases hf0 : ¬ f1 = 0
  · have e1 : ((f1 : Int) == 0) = false := by rw [beq_eq_false_iff_ne]; omega
    have e2 : ¬ (f1 : Int) = 0 := by omega
    go_wp2_with fail
    refine (HAl.out _ HB6.out).mono ?_
    rintro e w7 ⟨rfl, hb7⟩
    have HB7 : Hid (Below w.heap.size w w7) := HB6.out.trans (hb7.mono HB6.out.size)
    clear hb7
    go_wp2
    go_ret
    exact ⟨rfl, HB7.out⟩
  replace hf0 : f1 = 0 := by omega
  subst hf0
  obtain ⟨us, hus⟩ := flt_zero (by rw [hf])
  obtain rfl : f2 = 0 := by rw [hus] at hf; cases hf; rfl
  by_cases hg0 : ¬ g1 = 0
  · have e1 : ((g1 : Int) == 0) = false := by rw [beq_eq_false_iff_ne]; omega
    have e2 : ¬ (g1 : Int) = 0 := by omega
    go_wp2_with fail
    refine (HAl.out _ HB6.out).mono ?_
    rintro e w7 ⟨rfl, hb7⟩
    have HB7 : Hid (Below w.heap.size w w7) := HB6.out.trans (hb7.mono HB6.out.size)
    clear hb7
    go_wp2
    go_ret
    exact ⟨rfl, HB7.out⟩
  replace hg0 : g1 = 0 := by omega
  subst hg0
  obtain ⟨vs, hvs⟩ := flt_zero (by rw [hg])
  obtain rfl : g2 = 0 := by rw [hvs] at hg; cases hg; rfl
  by_cases h5 : h1 = 5
  · have e1 : ((h1 : Int) == 5) = true := by rw [h5]; rfl
    have e2 : (h1 : Int) = 5 := by omega
    go_wp2_with fail
    refine (HAl.out _ HB6.out).mono ?_
    rintro e w7 ⟨rfl, hb7⟩
    have HB7 : Hid (Below w.heap.size w w7) := HB6.out.trans (hb7.mono HB6.out.size)
    clear hb7
    go_wp2
    go_ret
    exact ⟨rfl, HB7.out⟩
  have h5a : ((h1 : Int) == 5) = false := by rw [beq_eq_false_iff_ne]; omega
  have h5b : ¬ (h1 : Int) = 5 := by omega
  have hle : (1 : Int) ≤ (s.size : Int) := by omega
  have hlt : s.size - 1 < s.size := by omega
  cases hl : ((s[s.size - 1].toNat : Int) == 92) with
  | true =>
    go_wp2_with fail
    refine (HAl.out _ HB6.out).mono ?_
    rintro e w7 ⟨rfl, hb7⟩
    have HB7 : Hid (Below w.heap.size w w7) := HB6.out.trans (hb7.mono HB6.out.size)
    clear hb7
    go_wp2
    go_ret
    exact ⟨rfl, HB7.out⟩
  | false =>
    have hall := chain_all hs ht (by rw [beq_eq_false_iff_ne] at hl; exact hl) hus hvs (by rw [hh]; exact h5)
    obtain ⟨rfl, rfl⟩ : h1 = 0 ∧ h2 = 0 := by rw [hall] at hh; cases hh; exact ⟨rfl, rfl⟩
    have hgu := fun u hu => semU_is (Nat.le_refl _) ((all_good (N := 1000) hus (by rw [bl_length]; omega)).1 u hu)
    have hgv := fun u hu => semU_is (Nat.le_refl _) ((all_good (N := 1000) hvs (by rw [bl_length]; omega)).1 u hu)
    obtain ⟨R1, hR1⟩ : ∃ R1, appL us l = R1 := ⟨_, rfl⟩
    have HS : Hid (∀ W, Below w.heap.size w W → Calls Tryz.prog 11 #[.string s, .slice a n c] W fun e w' => Below W.heap.size W w' ∧ ∃ a' n' c', e = .returned (.tuple #[.slice a' n' c', .int .i64 (if R1.isSome then 0 else 5)]) ∧ Words w'.heap.size w' (.slice a' n' c') (R1.getD [])) := fun W hB => all_t s us R1 a n c l W (by omega) ((hw.below hB).mono hB.size) hn hls (hG.below hB) (hE.below hB hE.pos) hus hR1
    cases R1 with
    | none =>
      clear hgu hgv hR1 hall HPs HPt HPh HF hF0 hw
      go_wp2_with fail
      refine (HS.out _ HB6.out).mono ?_
      rintro e w8 ⟨hb8, a8, n8, c8, rfl, hw8⟩
      have HB8 : Hid (Below w.heap.size w w8) := HB6.out.trans (hb8.mono HB6.out.size)
      clear hb8 hw8
      dsimp only [Option.isSome]
      go_wp2_with fail
      refine (HAl.out _ HB8.out).mono ?_
      rintro e w7 ⟨rfl, hb7⟩
      have HB7 : Hid (Below w.heap.size w w7) := HB8.out.trans (hb7.mono HB8.out.size)
      clear hb7
      go_wp2
      go_ret
      exact ⟨rfl, HB7.out⟩
    | some r =>
      obtain ⟨hfr, happ⟩ := appL_app (vs := vs) hgu hR1
      obtain ⟨R2, hR2⟩ : ∃ R2, appL vs r = R2 := ⟨_, rfl⟩
      rw [hR2] at happ
      have hf2 : (R2.getD []).length ≤ 2000000 := by
        cases R2 with
        | none => simp
        | some r2 => have := (appL_app (vs := []) hgv hR2).1.1; simp; omega
      obtain ⟨k, hk⟩ : ∃ k : Int, (if R2.isSome then 0 else 5) = k := ⟨_, rfl⟩
      obtain ⟨L2, hL2⟩ : ∃ L2, R2.getD [] = L2 := ⟨_, rfl⟩
      have HT : Hid (∀ a' n' c' W, Below w.heap.size w W → Words W.heap.size W (.slice a' n' c') r → Calls Tryz.prog 11 #[.string t, .slice a' n' c'] W fun e w' => Below W.heap.size W w' ∧ ∃ a' n' c', e = .returned (.tuple #[.slice a' n' c', .int .i64 k]) ∧ Words w'.heap.size w' (.slice a' n' c') L2) := fun a' n' c' W hB hwr => by
        rw [← hk, ← hL2]
        exact all_t t vs R2 a' n' c' r W (by omega) hwr (by have := hwr.len; have := hfr.1; omega) (few_all hfr).2 (hG.below hB) (hE.below hB hE.pos) hvs hR2
      have HH : Hid (∀ W, Below w.heap.size w W → Calls Tryz.prog 11 #[.string (s ++ ⟨#[58]⟩ ++ t), .slice a n c] W fun e w' => Below W.heap.size W w' ∧ ∃ a' n' c', e = .returned (.tuple #[.slice a' n' c', .int .i64 k]) ∧ Words w'.heap.size w' (.slice a' n' c') L2) := fun W hB => by
        rw [← hk, ← hL2]
        exact all_t _ (us ++ vs) R2 a n c l W (by omega) ((hw.below hB).mono hB.size) hn hls (hG.below hB) (hE.below hB hE.pos) hall happ
      rw [hL2] at hf2
      have HL2 : Hid (L2.length ≤ 2000000) := hf2
      clear hgu hgv hR1 hall HPs HPt HPh HF hF0 hw happ hR2 hk hL2 hf2 hfr
      go_wp2_with fail
      refine (HS.out _ HB6.out).mono ?_
      rintro e w8 ⟨hb8, a8, n8, c8, rfl, hw8⟩
      have HB8 : Hid (Below w.heap.size w w8) := HB6.out.trans (hb8.mono HB6.out.size)
      have HW8 : Hid (Words w8.heap.size w8 (.slice a8 n8 c8) r) := hw8
      have HZ8 : Hid (w8.heap[b5]? = some (.cells #[.int .i64 0, .int .i64 0] 33 (0, 0))) := (hb8.block b5 (Array.getElem?_eq_some_iff.1 HZ.out).1).trans HZ.out
      clear hb8 hw8 HZ HB6 z0 z1 x0 x1 y0 y1
      dsimp only [Option.isSome]
      go_wp2_with fail
      refine (HT.out _ _ _ _ HB8.out HW8.out).mono ?_
      rintro e w9 ⟨hb9, a9, n9, c9, rfl, hw9⟩
      have HB9 : Hid (Below w.heap.size w w9) := HB8.out.trans (hb9.mono HB8.out.size)
      have HW9 : Hid (Words w9.heap.size w9 (.slice a9 n9 c9) L2) := hw9
      have HZ9 : Hid (w9.heap[b5]? = some (.cells #[.int .i64 0, .int .i64 0] 33 (0, 0))) := (hb9.block b5 (Array.getElem?_eq_some_iff.1 HZ8.out).1).trans HZ8.out
      clear hb9 hw9 HZ8 HB8 HW8
      go_wp2_with fail
      refine (HH.out _ HB9.out).mono ?_
      rintro e wa ⟨hba, aa, na, ca, rfl, hwa⟩
      have HBa : Hid (Below w.heap.size w wa) := HB9.out.trans (hba.mono HB9.out.size)
      have HS2 : Hid (Calls Tryz.prog 13 #[.slice a9 n9 c9, .slice aa na ca] wa fun e w' => e = .returned (.bool true) ∧ ∃ n, w' = wa.drewN n) := same_any L2 _ _ _ _ wa HL2.out (HW9.out.below hba) hwa
      have hza : wa.heap[b5]? = some (.cells #[.int .i64 0, .int .i64 0] 33 (0, 0)) := (hba.block b5 (Array.getElem?_eq_some_iff.1 HZ9.out).1).trans HZ9.out
      have z0 : wa.cell? ⟨b5, 0, none⟩ = some (.int .i64 0) := by simp [World.cell?, hza]
      have z1 : wa.cell? ⟨b5, 1, none⟩ = some (.int .i64 0) := by simp [World.cell?, hza]
      clear hba hwa hza HZ9 HB9 HW9
      go_wp2_with fail
      refine HS2.out.mono ?_
      rintro e wb ⟨rfl, m, rfl⟩
      have HBb : Hid (Below w.heap.size w (wa.drewN m)) := below_drewN HBa.out _
      go_wp2_with fail
      refine (HAl.out _ HBb.out).mono ?_
      rintro e wc ⟨rfl, hbc⟩
      have HBc : Hid (Below w.heap.size w wc) := HBb.out.trans (hbc.mono HBb.out.size)
      clear hbc
      go_wp2
      go_ret
      exact ⟨rfl, HBc.out⟩
theorem chain_law (s t : ByteArray) (a : Option Addr) (n c : Nat) (l : List ByteArray) (w : World) (hsz : s.size ≤ 140737488355328) (htz : t.size ≤ 140737488355328) (hw : Words w.heap.size w (.slice a n c) l) (hG : Gz w) (hE : Ey w) :
    Calls Tryz.prog 8 #[.string s, .string t, .slice a n c] w fun e w' => e = .returned (.bool true) ∧ Below w.heap.size w w' := by
  by_cases hq : farB (s ++ t) l = true ∨ s.toList = [] ∨ t.toList = []
  · exact chain_far s t a n c l w hsz htz hw hG.1 hq
  · have h1 : farB (s ++ t) l = false := by cases h : farB (s ++ t) l with
      | true => exact absurd (.inl h) hq
      | false => rfl
    obtain ⟨h2, h3, h4⟩ := farB_not h1
    have hfew := few_of h3 h4
    rw [ByteArray.size_append] at h2
    exact chain_mid s t a n c l w h2 hw hG hE h1 (fun h => hq (.inr (.inl h))) (fun h => hq (.inr (.inr h))) (by have := hw.len; omega) (few_all hfew).2
end Go.Proofs.YtedepknbaakkhaaGreatDoor
