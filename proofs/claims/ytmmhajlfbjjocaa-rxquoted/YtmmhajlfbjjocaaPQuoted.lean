/-
  What the statement RxQuoted answers.
-/
import Derived.Test.YtmmhajlfbjjocaaPFirst
namespace Go.Proofs.Ytmmhajlfbjjocaa
open Go.RowKit Go.Shelf RxSem

def qn (s : ByteArray) : List Nd := [.seq ((bl s).map one)]
theorem occ_iff (s t : ByteArray) (j : Nat) : M (bl t) (.alt (qn s)) j (j + s.size) ↔ t.extract j (j + s.size) = s := by
  unfold qn
  rw [M_quote, bl_length]
  have e1 : bl (t.extract j (j + s.size)) = ((bl t).drop j).take s.size := by rw [bl_extract, List.drop_take]; congr 1; omega
  constructor
  · rintro ⟨_, h2⟩
    apply bl_inj
    rw [e1]
    apply List.ext_getElem?
    intro u
    by_cases hu : u < s.size
    · rw [List.getElem?_take_of_lt hu, List.getElem?_drop]; exact h2 u hu
    · rw [List.getElem?_take_eq_none (by omega), List.getElem?_eq_none (by rw [bl_length]; omega)]
  · intro h2
    refine ⟨rfl, fun u hu => ?_⟩
    rw [h2] at e1
    rw [e1, List.getElem?_take_of_lt hu, List.getElem?_drop]
theorem occ_end {s t : ByteArray} {j e : Nat} (h : M (bl t) (.alt (qn s)) j e) : e = j + s.size := by
  unfold qn at h
  rw [M_quote, bl_length] at h
  exact h.1
theorem occ_self (s : ByteArray) : M (bl s) (.alt (qn s)) 0 (bl s).length := by
  unfold qn
  rw [M_quote]
  exact ⟨by omega, fun u _ => by rw [Nat.zero_add]⟩
theorem occ_all (s t : ByteArray) : M (bl t) (.alt (qn s)) 0 (bl t).length ↔ s = t := by
  constructor
  · intro h
    have h1 := occ_end h
    rw [bl_length] at h h1
    have h2 := (occ_iff s t 0).1 (by rw [h1] at h; exact h)
    rw [← h2]
    have h3 : 0 + s.size = t.size := by omega
    rw [h3]
    exact ByteArray.extract_zero_size
  · rintro rfl
    exact occ_self s
/-- What the loop has found so far: the first place from m on, or none. -/
def Seen (s t : ByteArray) (m : Nat) (a : Int) : Prop := (a = -1 ∧ ∀ j, m ≤ j → j ≤ t.size → ¬ M (bl t) (.alt (qn s)) j (j + s.size)) ∨ ∃ j : Nat, a = (j : Int) ∧ m ≤ j ∧ j + s.size ≤ t.size ∧ M (bl t) (.alt (qn s)) j (j + s.size) ∧ ∀ i, m ≤ i → i < j → ¬ M (bl t) (.alt (qn s)) i (i + s.size)
theorem Seen.yes {s t : ByteArray} {m : Nat} {a : Int} (_h : Seen s t (m + 1) a) (hm : m + s.size ≤ t.size) (hM : M (bl t) (.alt (qn s)) m (m + s.size)) : Seen s t m (m : Int) :=
  .inr ⟨m, rfl, Nat.le_refl _, hm, hM, fun i h1 h2 => by omega⟩
theorem Seen.no {s t : ByteArray} {m : Nat} {a : Int} (h : Seen s t (m + 1) a) (hM : ¬ M (bl t) (.alt (qn s)) m (m + s.size)) : Seen s t m a := by
  rcases h with ⟨h1, h2⟩ | ⟨j, h1, h2, h3, h4, h5⟩
  · refine .inl ⟨h1, fun j hj hj2 => ?_⟩
    rcases Nat.lt_or_ge m j with h | h
    · exact h2 j h hj2
    · have : j = m := by omega
      subst this; exact hM
  · refine .inr ⟨j, h1, by omega, h3, h4, fun i hi hi2 => ?_⟩
    rcases Nat.lt_or_ge m i with h | h
    · exact h5 i h hi2
    · have : i = m := by omega
      subst this; exact hM
theorem Seen.start (s t : ByteArray) : Seen s t (t.size + 1 - s.size) (-1) := by
  refine .inl ⟨rfl, fun j hj hj2 hM => ?_⟩
  have := M_top _ _ _ _ hM (by rw [bl_length]; exact hj2)
  rw [bl_length] at this
  omega
theorem Seen.head {s t : ByteArray} {a : Int} {K : List (Nat × Nat)} (h : Seen s t 0 a) (hK : LM (bl t) (.alt (qn s)) 0 K) : (a = -1 ∧ headOf K = (0, 0, false)) ∨ ∃ j : Nat, a = (j : Int) ∧ j + s.size ≤ t.size ∧ headOf K = (j, j + s.size, true) := by
  rcases h with ⟨h1, h2⟩ | ⟨j, h1, h2, h3, h4, h5⟩
  · refine .inl ⟨h1, ?_⟩
    have hf := hK.first
    cases K with
    | nil => rfl
    | cons z K =>
      obtain ⟨z1, z2⟩ := z
      obtain ⟨g1, g2, g3, _⟩ := hf
      have e := occ_end g3
      subst e
      rw [bl_length] at g2
      exact absurd g3 (h2 z1 (Nat.zero_le _) g2)
  · refine .inr ⟨j, h1, h3, headOf_some (hK.head (Nat.zero_le _) (by rw [bl_length]; omega) h4 (fun e' he => by rw [occ_end he]; exact Nat.le_refl _) (fun p' e' _ hp hM => ?_))⟩
    have e := occ_end hM
    subst e
    exact h5 p' (Nat.zero_le _) hp hM
set_option maxRecDepth 20000 in
set_option maxHeartbeats 600000 in
theorem quoted_law (s t : ByteArray) (w : World) (hs : s.size ≤ 140737488355328) (ht : t.size ≤ 140737488355328) : Calls Try.prog 5 #[.string s, .string t] w fun e w' => e = .returned (.bool true) ∧ Below w.heap.size w w' := by
  have HA : Hid (∀ W, Calls Try.prog 8 #[] W fun e w' => e = .returned (.bool true) ∧ Below W.heap.size W w') := alive_any
  by_cases h1 : 60 < s.size
  · have h2 : (60 : Int) < (s.size : Int) := by omega
    go_enter Try.func5, Try.ntmps5
    go_wp2_with fail
    refine (HA.out _).mono ?_
    rintro e w1 ⟨rfl, hb⟩
    have HB : Hid (Below w.heap.size w w1) := hb
    clear hb
    go_wp2_with fail
    go_ret
    exact ⟨rfl, HB.out⟩
  · have h2 : ¬ (60 : Int) < (s.size : Int) := by omega
    by_cases h3 : 200 < t.size
    · have h4 : (200 : Int) < (t.size : Int) := by omega
      go_enter Try.func5, Try.ntmps5
      go_wp2_with fail
      refine (HA.out _).mono ?_
      rintro e w1 ⟨rfl, hb⟩
      have HB : Hid (Below w.heap.size w w1) := hb
      clear hb
      go_wp2_with fail
      go_ret
      exact ⟨rfl, HB.out⟩
    · have h4 : ¬ (200 : Int) < (t.size : Int) := by omega
      obtain ⟨Q, hQ⟩ : ∃ Q : ByteArray, Q = ⟨(quote (bl s)).toArray⟩ := ⟨_, rfl⟩
      have hbQ : bl Q = quote (bl s) := by rw [hQ]; rfl
      have HQ : Hid (∀ W, Calls Try.prog 17 #[.string s] W fun e w' => e = .returned (.string Q) ∧ Below W.heap.size W w') := fun W => by rw [hQ]; exact quote_any s W (by omega)
      have HC : Hid (∀ W, Calls Try.prog 9 #[.string Q] W (MadePost Q W (.inl (qn s)))) := fun W => compile_made Q _ (by
        rw [hbQ]
        refine comp_quote (bl s) ?_
        have := quote_len (bl s)
        rw [bl_length] at this
        omega) W
      clear hbQ hQ hs ht h1 h3
      have hs2 : s.size ≤ 60 := by omega
      have ht2 : t.size ≤ 200 := by omega
      go_enter Try.func5, Try.ntmps5
      go_wp2_with fail
      refine (HQ.out _).mono ?_
      rintro e w0 ⟨rfl, hb0⟩
      have H0 : Hid (Below w.heap.size w w0) := hb0
      clear hb0 HQ
      go_wp2_with fail
      refine (HC.out _).mono ?_
      rintro e w1 ⟨hB1, b, rfl, hl1, hm1⟩
      obtain ⟨wa, hwa, hBa, hSa, hka⟩ := one_box w1 (.cells #[.int .i64 0, .int .i64 0] 26)
      have a0 : wa.cell? ⟨w1.heap.size, 0, none⟩ = some (.int .i64 0) := by simp only [World.cell?, hka]; rfl
      have a1 : wa.cell? ⟨w1.heap.size, 1, none⟩ = some (.int .i64 0) := by simp only [World.cell?, hka]; rfl
      have H1 : Hid (Below w.heap.size w wa ∧ w.heap.size ≤ b ∧ Made b Q (qn s) wa) := ⟨(H0.out.trans (hB1.mono H0.out.size)).trans (hBa.mono (Nat.le_trans H0.out.size hB1.size)), Nat.le_trans H0.out.size hl1, hm1.below hBa⟩
      clear hB1 hBa hSa hka HC hl1 hm1 H0
      simp only [faultV]
      rw [hwa] at a0 a1
      go_wp2_with fail
      rw [← hwa]
      clear hwa a0 a1
      have HF : Hid (Calls Try.prog 13 #[.pointer (some ⟨b, 0, none⟩), .string t, .int .i64 0] wa fun e w' => ∃ K, e = .returned (findV (headOf K)) ∧ (0 ≤ t.size → LM (bl t) (.alt (qn s)) 0 K) ∧ (t.size < 0 → K = []) ∧ Made b Q (qn s) w' ∧ Wrote b wa w') := find_any steps_any b Q t (qn s) 0 wa H1.out.2.2 (by omega) (by omega)
      refine HF.out.mono ?_
      rintro e w2 ⟨K, rfl, hK1, _, hm2, hw2⟩
      obtain ⟨⟨x, y, o⟩, hx⟩ : ∃ x, x = headOf K := ⟨_, rfl⟩
      rw [← hx]
      have H2 : Hid (Made b Q (qn s) w2 ∧ Wrote b wa w2 ∧ LM (bl t) (.alt (qn s)) 0 K ∧ (x, y, o) = headOf K) := ⟨hm2, hw2, hK1 (Nat.zero_le _), hx⟩
      clear HF hm2 hw2 hK1 hx
      simp only [findV]
      have HEnd : Hid (∀ W : World, Wrote b wa W → Below w.heap.size w W) := fun W hW => H1.out.1.trans (hW.below H1.out.2.1 H1.out.1.size)
      go_wp2_with fail
      go_loopw [10, 11] (fun va vj W => ∃ (m : Nat) (a j : Int), va = .int .i64 a ∧ vj = .int .i64 j ∧ Hid (Seen s t m a) ∧ ((j < 0 ∧ m = 0 ∧ -100 ≤ j) ∨ ∃ q : Nat, j = (q : Int) ∧ m = q + 1 ∧ q + s.size ≤ t.size) ∧ -1 ≤ a ∧ a ≤ 200 ∧ W = w2) (fun _ vj _ => ((intOf vj) + 1).toNat)
      case atStart =>
        refine ⟨t.size + 1 - s.size, -1, (t.size : Int) - (s.size : Int), rfl, by simp, Seen.start s t, ?_, by omega, by omega, rfl⟩
        by_cases h : s.size ≤ t.size
        · exact .inr ⟨t.size - s.size, by omega, by omega, by omega⟩
        · exact .inl ⟨by omega, by omega, by omega⟩
      case round =>
        obtain ⟨m, a, j, rfl, rfl, HS, hj, ha1, ha2, rfl⟩ := hrel
        rcases hj with ⟨hj1, rfl, hj2⟩ | ⟨q, rfl, rfl, hq⟩
        · have hj3 : ¬ (0 : Int) ≤ j := by omega
          have HI1 : Hid (Calls Try.prog 15 #[.pointer (some ⟨b, 0, none⟩), .string s] wr fun e w' => e = .returned (.bool true) ∧ Made b Q (qn s) w' ∧ Wrote b wr w') := by
            refine (is_any steps_any b Q s (qn s) wr H2.out.1 (by omega)).mono ?_
            rintro e w' ⟨⟨o, h1, h2⟩, h3⟩
            have := h2.2 (occ_self s)
            subst this
            exact ⟨h1, h3⟩
          have HI2 : Hid (∀ W, Made b Q (qn s) W → Calls Try.prog 15 #[.pointer (some ⟨b, 0, none⟩), .string t] W fun e w' => e = .returned (.bool (decide (s = t))) ∧ Made b Q (qn s) w' ∧ Wrote b W w') := fun W hM => by
            refine (is_any steps_any b Q t (qn s) W hM (by omega)).mono ?_
            rintro e w' ⟨⟨o, h1, h2⟩, h3⟩
            refine ⟨?_, h3⟩
            rw [h1]
            have := h2.trans (occ_all s t)
            by_cases hst : s = t
            · rw [decide_eq_true hst, this.2 hst]
            · rw [decide_eq_false hst]
              cases o with
              | false => rfl
              | true => exact absurd (this.1 rfl) hst
          have hcase := HS.out.head H2.out.2.2.1
          rw [← H2.out.2.2.2] at hcase
          go_wp2_with fail
          refine HI1.out.mono ?_
          rintro e w3 ⟨rfl, hm3, hw3⟩
          have H3 : Hid (Made b Q (qn s) w3 ∧ Wrote b wa w3) := ⟨hm3, H2.out.2.1.trans hw3⟩
          clear hm3 hw3 HI1 HS
          by_cases hst : s = t
          · have hd : decide (s = t) = true := decide_eq_true hst
            rw [hd] at HI2
            clear hd
            subst hst
            go_wp2_with fail
            refine (HI2.out w3 H3.out.1).mono ?_
            rintro e w4 ⟨rfl, hm4, hw4⟩
            have H4 : Hid (Below w.heap.size w w4) := HEnd.out _ (H3.out.2.trans hw4)
            clear hm4 hw4 HI2
            rcases hcase with ⟨rfl, hh⟩ | ⟨i, rfl, hi, hh⟩
            · simp only [Prod.mk.injEq] at hh
              obtain ⟨rfl, rfl, rfl⟩ := hh
              go_wp2_with fail
              refine (HA.out _).mono ?_
              rintro e w6 ⟨rfl, hb⟩
              have HB : Hid (Below w.heap.size w w6) := H4.out.trans (hb.mono H4.out.size)
              clear hb
              go_wp2_with fail
              go_ret
              exact ⟨rfl, HB.out⟩
            · simp only [Prod.mk.injEq] at hh
              obtain ⟨rfl, rfl, rfl⟩ := hh
              have hx0 : (0 : Int) ≤ (x : Int) := by omega
              go_wp2_with fail
              refine (HA.out _).mono ?_
              rintro e w6 ⟨rfl, hb⟩
              have HB : Hid (Below w.heap.size w w6) := H4.out.trans (hb.mono H4.out.size)
              clear hb
              go_wp2_with fail
              go_ret
              exact ⟨rfl, HB.out⟩
          · have hd : decide (s = t) = false := decide_eq_false hst
            rw [hd] at HI2
            clear hd
            have hst2 : (s.toList == t.toList) = false := by rw [Lib.toList_data, Lib.toList_data, beq_eq_false_iff_ne]; exact fun e => hst (bl_inj e)
            have hst3 : ¬ s.toList = t.toList := by rw [Lib.toList_data, Lib.toList_data]; exact fun e => hst (bl_inj e)
            go_wp2_with fail
            refine (HI2.out w3 H3.out.1).mono ?_
            rintro e w4 ⟨rfl, hm4, hw4⟩
            have H4 : Hid (Below w.heap.size w w4) := HEnd.out _ (H3.out.2.trans hw4)
            clear hm4 hw4 HI2
            rcases hcase with ⟨rfl, hh⟩ | ⟨i, rfl, hi, hh⟩
            · simp only [Prod.mk.injEq] at hh
              obtain ⟨rfl, rfl, rfl⟩ := hh
              go_wp2_with fail
              refine (HA.out _).mono ?_
              rintro e w6 ⟨rfl, hb⟩
              have HB : Hid (Below w.heap.size w w6) := H4.out.trans (hb.mono H4.out.size)
              clear hb
              go_wp2_with fail
              go_ret
              exact ⟨rfl, HB.out⟩
            · simp only [Prod.mk.injEq] at hh
              obtain ⟨rfl, rfl, rfl⟩ := hh
              have hx0 : (0 : Int) ≤ (x : Int) := by omega
              go_wp2_with fail
              refine (HA.out _).mono ?_
              rintro e w6 ⟨rfl, hb⟩
              have HB : Hid (Below w.heap.size w w6) := H4.out.trans (hb.mono H4.out.size)
              clear hb
              go_wp2_with fail
              go_ret
              exact ⟨rfl, HB.out⟩
        · have hj3 : (0 : Int) ≤ (q : Int) := by omega
          have hj4 : (q : Int) + (s.size : Int) ≤ (t.size : Int) := by omega
          have HN : Hid (∀ a : Int, -1 ≤ a → a ≤ 200 → Seen s t q a → (∃ (m : Nat) (a' j : Int), Value.int .i64 a = Value.int .i64 a' ∧ Value.int .i64 ((q : Int) - 1) = Value.int .i64 j ∧ Hid (Seen s t m a') ∧ ((j < 0 ∧ m = 0 ∧ -100 ≤ j) ∨ ∃ q : Nat, j = (q : Int) ∧ m = q + 1 ∧ q + s.size ≤ t.size) ∧ -1 ≤ a' ∧ a' ≤ 200 ∧ True)) := fun a h1 h2 h3 => by
            refine ⟨q, a, (q : Int) - 1, rfl, rfl, h3, ?_, h1, h2, trivial⟩
            by_cases hq0 : q = 0
            · exact .inl ⟨by omega, hq0, by omega⟩
            · exact .inr ⟨q - 1, by omega, by omega, by omega⟩
          by_cases hE : t.extract q (q + s.size) = s
          · have HS2 : Hid (Seen s t q (q : Int)) := HS.out.yes hq ((occ_iff s t q).2 hE)
            go_wp2_with fail
            exact ⟨HN.out _ (by omega) (by omega) HS2.out, by simp [intOf]⟩
          · have hE2 : ((t.extract q (q + s.size)).toList == s.toList) = false := by rw [Lib.toList_data, Lib.toList_data, beq_eq_false_iff_ne]; exact fun e => hE (bl_inj e)
            have HS2 : Hid (Seen s t q a) := HS.out.no (fun h => hE ((occ_iff s t q).1 h))
            go_wp2_with fail
            exact ⟨HN.out _ ha1 ha2 HS2.out, by simp [intOf]⟩
end Go.Proofs.Ytmmhajlfbjjocaa
