/-
  What the statement RxFirst answers.
-/
import Derived.Test.YtmmhajlfbjjocaaPAlive
namespace Go.Proofs.Ytmmhajlfbjjocaa
open Go.RowKit Go.Shelf RxSem

set_option maxRecDepth 20000 in
set_option maxHeartbeats 400000 in
theorem far_any (p s : ByteArray) (w : World) (hp : p.size ≤ 140737488355328) (hs : s.size ≤ 140737488355328) : Calls Try.prog 12 #[.string p, .string s] w fun e w' => e = .returned (.bool (decide (300 < p.size ∨ 60 < s.size))) ∧ w = w' := by
  by_cases h : 300 < p.size
  · have h1 : (300 : Int) < (p.size : Int) := by omega
    have h2 : decide (300 < p.size ∨ 60 < s.size) = true := by simp; omega
    rw [h2]
    clear h2
    go_enter Try.func12, Try.ntmps12
    go_wp2
    go_ret
    exact ⟨rfl, rfl⟩
  · have h1 : ¬ (300 : Int) < (p.size : Int) := by omega
    by_cases h3 : 60 < s.size
    · have h4 : (60 : Int) < (s.size : Int) := by omega
      have h2 : decide (300 < p.size ∨ 60 < s.size) = true := by simp; omega
      rw [h2]
      clear h2
      go_enter Try.func12, Try.ntmps12
      go_wp2
      go_ret
      exact ⟨rfl, rfl⟩
    · have h4 : ¬ (60 : Int) < (s.size : Int) := by omega
      have h2 : decide (300 < p.size ∨ 60 < s.size) = false := by simp; omega
      rw [h2]
      clear h2
      go_enter Try.func12, Try.ntmps12
      go_wp2
      go_ret
      exact ⟨rfl, rfl⟩
theorem bad_why {p : List UInt8} {why a : Nat} (h : Comp p (.inr (why, a))) : why ≠ 0 := by
  by_cases hl : p.length ≤ 200
  · obtain ⟨l, h1, _⟩ := h.flat hl
    exact sc_why h1 rfl
  · cases h with
    | long => omega
    | bad w l h' => omega
    | many k r h' => omega
set_option maxRecDepth 20000 in
set_option maxHeartbeats 600000 in
theorem first_law (p s : ByteArray) (f : Int) (w : World) (hp : p.size ≤ 140737488355328) (hs : s.size ≤ 140737488355328) (hf1 : -9223372036854775808 ≤ f) (hf2 : f ≤ 9223372036854775807) : Calls Try.prog 7 #[.string p, .string s, .int .i64 f] w fun e w' => e = .returned (.bool true) ∧ Below w.heap.size w w' := by
  have HA : Hid (∀ W, Calls Try.prog 8 #[] W fun e w' => e = .returned (.bool true) ∧ Below W.heap.size W w') := alive_any
  have HFar : Hid (∀ W, Calls Try.prog 12 #[.string p, .string s] W fun e w' => e = .returned (.bool (decide (300 < p.size ∨ 60 < s.size))) ∧ W = w') := fun W => far_any p s W hp hs
  by_cases hfar : 300 < p.size ∨ 60 < s.size
  · have hfd : decide (300 < p.size ∨ 60 < s.size) = true := by simpa using hfar
    rw [hfd] at HFar
    clear hfd hfar
    go_enter Try.func7, Try.ntmps7
    go_wp2_with fail
    refine (HFar.out _).mono ?_
    rintro e w1 ⟨rfl, rfl⟩
    go_wp2_with fail
    refine (HA.out _).mono ?_
    rintro e w1 ⟨rfl, hb⟩
    have HB : Hid (Below w.heap.size w w1) := hb
    clear hb
    go_wp2_with fail
    go_ret
    exact ⟨rfl, HB.out⟩
  · have hfd : decide (300 < p.size ∨ 60 < s.size) = false := by simpa using hfar
    rw [hfd] at HFar
    have hp2 : p.size ≤ 300 := by omega
    have hs2 : s.size ≤ 60 := by omega
    clear hfd hfar hp hs
    go_enter Try.func7, Try.ntmps7
    go_wp2_with fail
    refine (HFar.out _).mono ?_
    rintro e w1 ⟨rfl, rfl⟩
    go_wp2_with fail
    go_loopw [7] (fun vi wr => ∃ i : Nat, i ≤ p.size ∧ vi = .int .i64 (i : Int) ∧ Hid (∀ x ∈ (bl p).take i, x ≠ 94 ∧ x ≠ 36) ∧ wr = w) (fun vi _ => p.size - (intOf vi).toNat)
    case atStart => exact ⟨0, Nat.zero_le _, rfl, fun x hx => by simp at hx, rfl⟩
    case round =>
      obtain ⟨i, hi, rfl, HI, hwr⟩ := hrel
      subst hwr
      by_cases hlt : i < p.size
      · have hl2 : (i : Int) < (p.size : Int) := by omega
        have hi0 : (0 : Int) ≤ (i : Int) := by omega
        obtain ⟨c, hc⟩ : ∃ c, c = p[i] := ⟨_, rfl⟩
        by_cases h1 : c = 94
        · have hcn : p[i].toNat = 94 := by rw [← hc, h1]; rfl
          clear h1 hc
          go_wp2_with fail
          refine (HA.out _).mono ?_
          rintro e w1 ⟨rfl, hb⟩
          have HB : Hid (Below wr.heap.size wr w1) := hb
          clear hb
          go_wp2_with fail
          go_ret
          exact ⟨rfl, HB.out⟩
        · have hn1 : ¬ p[i].toNat = 94 := by rw [← hc]; intro e; exact h1 (by rw [u8_eq_iff]; exact e)
          have hn1' : ¬ (p[i].toNat : Int) = 94 := by omega
          have hn1b : ((p[i].toNat : Int) == 94) = false := by simp [hn1']
          by_cases h2 : c = 36
          · have hcn : p[i].toNat = 36 := by rw [← hc, h2]; rfl
            clear h1 h2 hc
            go_wp2_with fail
            refine (HA.out _).mono ?_
            rintro e w1 ⟨rfl, hb⟩
            have HB : Hid (Below wr.heap.size wr w1) := hb
            clear hb
            go_wp2_with fail
            go_ret
            exact ⟨rfl, HB.out⟩
          · have hn2 : ¬ p[i].toNat = 36 := by rw [← hc]; intro e; exact h2 (by rw [u8_eq_iff]; exact e)
            have hn2' : ¬ (p[i].toNat : Int) = 36 := by omega
            have hn2b : ((p[i].toNat : Int) == 36) = false := by simp [hn2']
            have HI2 : Hid (∀ x ∈ (bl p).take (i + 1), x ≠ 94 ∧ x ≠ 36) := by
              intro x hx
              have hl : i < (bl p).length := by rw [bl_length]; exact hlt
              rw [← List.take_append_getElem hl] at hx
              rcases List.mem_append.1 hx with hx | hx
              · exact HI.out x hx
              · simp at hx
                have : x = c := by rw [hx, hc]; rfl
                rw [this]; exact ⟨h1, h2⟩
            clear h1 h2 hc
            go_wp2_with fail
            go_roundw
            case rel => exact ⟨i + 1, by omega, by go_num, HI2, by first | rfl | trivial⟩
            case measure => simp [intOf]; omega
      · have hl2 : ¬ (i : Int) < (p.size : Int) := by omega
        have HN : Hid (∀ x ∈ bl p, x ≠ 94 ∧ x ≠ 36) := by
          have h := HI.out
          rw [List.take_of_length_le (by rw [bl_length]; omega)] at h
          exact h
        clear HI
        obtain ⟨c, hc⟩ := Comp.total (bl p)
        have HC : Hid (∀ W, Calls Try.prog 9 #[.string p] W (MadePost p W c)) := fun W => compile_made p c hc W
        cases c with
        | inr x =>
          obtain ⟨why, a⟩ := x
          have hw : ¬ (why : Int) = 0 := by have := bad_why hc; omega
          have hw2 : ((why : Int) == 0) = false := by simp; omega
          go_wp2_with fail
          refine (HC.out _).mono ?_
          rintro e w1 ⟨hB1, rfl⟩
          obtain ⟨wa, hwa, hBa, hSa, hka⟩ := one_box w1 (.cells #[.int .i64 (why : Int), .int .i64 (a : Int)] 26)
          have a0 : wa.cell? ⟨w1.heap.size, 0, none⟩ = some (.int .i64 (why : Int)) := by simp only [World.cell?, hka]; rfl
          have a1 : wa.cell? ⟨w1.heap.size, 1, none⟩ = some (.int .i64 (a : Int)) := by simp only [World.cell?, hka]; rfl
          have H1 : Hid (Below wr.heap.size wr wa) := hB1.trans (hBa.mono hB1.size)
          clear hB1 hBa hSa hka HC hc
          simp only [faultV]
          rw [hwa] at a0 a1
          go_wp2_with fail
          rw [← hwa]
          clear hwa a0 a1
          refine (HA.out _).mono ?_
          rintro e w2 ⟨rfl, hb⟩
          have HB : Hid (Below wr.heap.size wr w2) := H1.out.trans (hb.mono H1.out.size)
          clear hb
          go_wp2_with fail
          go_ret
          exact ⟨rfl, HB.out⟩
        | inl k =>
          go_wp2_with fail
          refine (HC.out _).mono ?_
          rintro e w1 ⟨hB1, b, rfl, hl1, hm1⟩
          obtain ⟨wa, hwa, hBa, hSa, hka⟩ := one_box w1 (.cells #[.int .i64 0, .int .i64 0] 26)
          have a0 : wa.cell? ⟨w1.heap.size, 0, none⟩ = some (.int .i64 0) := by simp only [World.cell?, hka]; rfl
          have a1 : wa.cell? ⟨w1.heap.size, 1, none⟩ = some (.int .i64 0) := by simp only [World.cell?, hka]; rfl
          have H1 : Hid (Below wr.heap.size wr wa ∧ wr.heap.size ≤ b ∧ Made b p k wa ∧ RxSem.free (.alt k) = true) := ⟨hB1.trans (hBa.mono hB1.size), hl1, hm1.below hBa, comp_free hc HN.out⟩
          clear hB1 hBa hSa hka HC hc hl1 hm1
          simp only [faultV]
          rw [hwa] at a0 a1
          go_wp2_with fail
          rw [← hwa]
          clear hwa a0 a1
          have HEnd : Hid (∀ W : World, Wrote b wa W → Below wr.heap.size wr W) := fun W hW => H1.out.1.trans (hW.below H1.out.2.1 H1.out.1.size)
          by_cases hneg : f < 0
          · have HF : Hid (Calls Try.prog 13 #[.pointer (some ⟨b, 0, none⟩), .string s, .int .i64 f] wa fun e w' => e = .returned (findV (0, 0, false)) ∧ Below wa.heap.size wa w') := find_neg b p s k f wa H1.out.2.2.1 hneg
            refine HF.out.mono ?_
            rintro e w2 ⟨rfl, h2⟩
            have H2 : Hid (Below wr.heap.size wr w2) := H1.out.1.trans (h2.mono H1.out.1.size)
            clear h2 HF
            simp only [findV]
            go_wp2_with fail
            refine (HA.out _).mono ?_
            rintro e w3 ⟨rfl, hb⟩
            have HB : Hid (Below wr.heap.size wr w3) := H2.out.trans (hb.mono H2.out.size)
            clear hb
            go_wp2_with fail
            go_ret
            exact ⟨rfl, HB.out⟩
          · obtain ⟨n, hn⟩ : ∃ n : Nat, f = (n : Int) := ⟨f.toNat, by omega⟩
            subst hn
            have HF : Hid (Calls Try.prog 13 #[.pointer (some ⟨b, 0, none⟩), .string s, .int .i64 (n : Int)] wa fun e w' => ∃ K, e = .returned (findV (headOf K)) ∧ (n ≤ s.size → LM (bl s) (.alt k) n K) ∧ (s.size < n → K = []) ∧ Made b p k w' ∧ Wrote b wa w') := find_any steps_any b p s k n wa H1.out.2.2.1 (by omega) (by omega)
            refine HF.out.mono ?_
            rintro e w2 ⟨K, rfl, hK1, hK2, hm2, hw2⟩
            obtain ⟨⟨x, y, o⟩, hx⟩ : ∃ x, x = headOf K := ⟨_, rfl⟩
            rw [← hx]
            have H2 : Hid (Made b p k w2 ∧ Wrote b wa w2 ∧ (n ≤ s.size → LM (bl s) (.alt k) n K) ∧ (x, y, o) = headOf K) := ⟨hm2, hw2, hK1, hx⟩
            clear HF hm2 hw2 hK1
            simp only [findV]
            by_cases hbig : s.size < n
            · have hbig2 : (s.size : Int) < (n : Int) := by omega
              have hK := hK2 hbig
              rw [hK] at hx
              simp only [headOf, Prod.mk.injEq] at hx
              obtain ⟨rfl, rfl, rfl⟩ := hx
              clear hK hK2
              go_wp2_with fail
              refine (HA.out _).mono ?_
              rintro e w3 ⟨rfl, hb⟩
              have HB : Hid (Below wr.heap.size wr w3) := (HEnd.out _ H2.out.2.1).trans (hb.mono (HEnd.out _ H2.out.2.1).size)
              clear hb
              go_wp2_with fail
              go_ret
              exact ⟨rfl, HB.out⟩
            · have hbig2 : ¬ (s.size : Int) < (n : Int) := by omega
              clear hx hK2
              have hK := H2.out.2.2.1 (by omega)
              have HK : Hid (LM (bl s) (.alt k) n K ∧ (x, y, o) = headOf K) := ⟨hK, H2.out.2.2.2⟩
              have H3 : Hid (Made b p k w2 ∧ Wrote b wa w2) := ⟨H2.out.1, H2.out.2.1⟩
              have HMl : Hid (∀ i e, M (bl s) (.alt k) i e → i ≤ s.size → i ≤ e ∧ e ≤ s.size) := fun i e h hi => ⟨M_le _ _ _ _ h, by have := M_top _ _ _ _ h (by rw [bl_length]; exact hi); rwa [bl_length] at this⟩
              have HIS : Hid (∀ (i j : Nat) (W : World), i ≤ j → j ≤ s.size → Made b p k W → Calls Try.prog 15 #[.pointer (some ⟨b, 0, none⟩), .string (s.extract i j)] W fun e w' => (∃ o, e = .returned (.bool o) ∧ (o = true ↔ M (bl s) (.alt k) i j)) ∧ Made b p k w' ∧ Wrote b W w') := fun i j W hij hj hM => by
                refine (is_any steps_any b p (s.extract i j) k W hM (by simp; omega)).mono ?_
                rintro e w' ⟨⟨o, h1, h2⟩, h3⟩
                refine ⟨⟨o, h1, h2.trans ?_⟩, h3⟩
                rw [M_piece (bl s) (.alt k) H1.out.2.2.2 i j hij]
                have e1 : bl (s.extract i j) = ((bl s).drop i).take (j - i) := by rw [bl_extract, List.drop_take]
                have e2 : (bl (s.extract i j)).length = j - i := by rw [bl_length]; simp; omega
                rw [e2, e1]
              clear hK H2 hneg
              go_wp2_with fail
              go_loopw [13] (fun vi W => ∃ i : Nat, n ≤ i ∧ i ≤ s.size + 1 ∧ vi = .int .i64 (i : Int) ∧ Hid (∀ p' e', n ≤ p' → p' < i → ¬ M (bl s) (.alt k) p' e') ∧ Hid (Made b p k W ∧ Wrote b wa W)) (fun vi _ => s.size + 1 - (intOf vi).toNat)
              case atStart => exact ⟨n, Nat.le_refl _, by omega, rfl, fun p' e' h1 h2 => by omega, H3⟩
              case round =>
                clear H3
                obtain ⟨q, hq1, hq2, rfl, HQ, HW⟩ := hrel
                by_cases hlt2 : q ≤ s.size
                · have hl3 : (q : Int) ≤ (s.size : Int) := by omega
                  go_wp2_with fail
                  go_loopw [14] (fun vk W => ∃ j : Nat, q ≤ j ∧ j ≤ s.size + 1 ∧ vk = .int .i64 ((j : Int) - 1) ∧ Hid (∀ e', j ≤ e' → ¬ M (bl s) (.alt k) q e') ∧ Hid (Made b p k W ∧ Wrote b wa W)) (fun vk _ => ((intOf vk) + 1).toNat)
                  case atStart => exact ⟨s.size + 1, by omega, Nat.le_refl _, by simp, fun e' h1 h2 => by have := (HMl.out q e' h2 hlt2).2; omega, HW⟩
                  case round =>
                    clear HW
                    obtain ⟨j, hj1, hj2, rfl, HJ, HW⟩ := hrel
                    by_cases hlt3 : q < j
                    · obtain ⟨m, rfl⟩ : ∃ m, j = m + 1 := ⟨j - 1, by omega⟩
                      have e1 : ((m + 1 : Nat) : Int) - 1 = (m : Int) := by omega
                      rw [e1]
                      have hl4 : (q : Int) ≤ (m : Int) := by omega
                      have hl5 : (m : Int) ≤ (s.size : Int) := by omega
                      have hl6 : m ≤ s.size := by omega
                      clear e1
                      go_wp2_with fail
                      refine (HIS.out q m _ (by omega) hl6 HW.out.1).mono ?_
                      rintro e w5 ⟨⟨o5, rfl, h1⟩, h2, h3⟩
                      have HW5 : Hid (Made b p k w5 ∧ Wrote b wa w5) := ⟨h2, HW.out.2.trans h3⟩
                      clear h2 h3
                      cases o5 with
                      | true =>
                        have hM := h1.1 rfl
                        have hh := headOf_some (HK.out.1.head hq1 (by rw [bl_length]; omega) hM (fun e' he => by
                          rcases Nat.lt_or_ge e' (m + 1) with h | h
                          · omega
                          · exact absurd he (HJ.out e' h)) HQ.out)
                        have hh2 := HK.out.2
                        rw [hh] at hh2
                        simp only [Prod.mk.injEq] at hh2
                        obtain ⟨rfl, rfl, rfl⟩ := hh2
                        clear hh hM h1
                        go_wp2_with fail
                        refine (HA.out _).mono ?_
                        rintro e w6 ⟨rfl, hb⟩
                        have HB : Hid (Below _ _ w6) := (HEnd.out _ HW5.out.2).trans (hb.mono (HEnd.out _ HW5.out.2).size)
                        clear hb
                        go_wp2_with fail
                        go_ret
                        exact ⟨rfl, HB.out⟩
                      | false =>
                        have HJ2 : Hid (∀ e', m ≤ e' → ¬ M (bl s) (.alt k) q e') := fun e' he hM => by
                          rcases Nat.lt_or_ge m e' with h | h
                          · exact HJ.out e' h hM
                          · have : e' = m := by omega
                            subst this
                            cases h1.2 hM
                        clear h1
                        go_wp2_with fail
                        go_roundw
                        case rel => exact ⟨m, by omega, by omega, by go_num, HJ2, HW5⟩
                        case measure => simp [intOf]
                    · have hjq : j = q := by omega
                      subst hjq
                      have hl4 : ¬ (j : Int) ≤ (j : Int) - 1 := by omega
                      have HQ2 : Hid (∀ p' e', n ≤ p' → p' < j + 1 → ¬ M (bl s) (.alt k) p' e') := fun p' e' h1 h2 hM => by
                        rcases Nat.lt_or_ge p' j with h | h
                        · exact HQ.out p' e' h1 h hM
                        · have : p' = j := by omega
                          subst this
                          exact HJ.out e' (HMl.out p' e' hM hlt2).1 hM
                      go_wp2_with fail
                      go_roundw
                      case rel => exact ⟨j + 1, by omega, by omega, by go_num, HQ2, HW⟩
                      case measure => simp [intOf]; omega
                · have hl3 : ¬ (q : Int) ≤ (s.size : Int) := by omega
                  have hK0 : K = [] := by
                    have h := HK.out.1.first
                    cases K with
                    | nil => rfl
                    | cons z K =>
                      obtain ⟨z1, z2⟩ := z
                      obtain ⟨g1, g2, g3, _⟩ := h
                      rw [bl_length] at g2
                      exact absurd g3 (HQ.out z1 z2 g1 (by omega))
                  have hh2 := HK.out.2
                  rw [hK0] at hh2
                  simp only [headOf, Prod.mk.injEq] at hh2
                  obtain ⟨rfl, rfl, rfl⟩ := hh2
                  clear hK0
                  go_wp2_with fail
                  refine (HA.out _).mono ?_
                  rintro e w6 ⟨rfl, hb⟩
                  have HB : Hid (Below _ _ w6) := (HEnd.out _ HW.out.2).trans (hb.mono (HEnd.out _ HW.out.2).size)
                  clear hb
                  go_wp2_with fail
                  go_ret
                  exact ⟨rfl, HB.out⟩
theorem int_range {f : Int} (h : (Lit.int .i64 f).wf = true) : -9223372036854775808 ≤ f ∧ f ≤ 9223372036854775807 := by
  have h2 : (decide (IntKind.i64.min ≤ f) && decide (f ≤ IntKind.i64.max)) = true := h
  simp only [Bool.and_eq_true, decide_eq_true_eq] at h2
  exact h2
theorem first_rx (p s : ByteArray) (f : Int) (w : World) (hp : p.size ≤ 140737488355328) (hs : s.size ≤ 140737488355328) (hf : (Lit.int .i64 f).wf = true) : Calls Try.prog 7 #[.string p, .string s, .int .i64 f] w fun e w' => e = .returned (.bool true) ∧ Below w.heap.size w w' := first_law p s f w hp hs (int_range hf).1 (int_range hf).2
end Go.Proofs.Ytmmhajlfbjjocaa
