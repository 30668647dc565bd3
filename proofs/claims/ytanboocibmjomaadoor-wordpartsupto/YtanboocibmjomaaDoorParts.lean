/-
  What the statement WordParts answers, called at any text of at most 1100000 bytes: true; nothing that was there has turned.
-/
import Derived.Test.YtanboocibmjomaaDoorAgain
namespace Go.Proofs.YtanboocibmjomaaDoor
open Go.RowKit Go.Shelf

theorem joined_flds_size (s : ByteArray) : (joined (flds s)).size ≤ s.size + (flds s).length := by
  unfold flds
  rw [joined_words (fun w hw => (K.fields_are _ w hw).1), ba_size]
  have h1 := joinB_len (K.fields (bl s))
  have h2 := K.cut_total (st := K.stU) (f := K.fU) () [] (bl s)
  rw [bl_length] at h2
  simp at h2 ⊢
  unfold K.fields at h1 ⊢
  omega
theorem flds_joined (s : ByteArray) : flds (joined (flds s)) = flds s := by
  have ej : joined (flds s) = ba (K.joinB (K.fields (bl s))) := joined_words (fun w hw => (K.fields_are _ w hw).1)
  rw [ej]; unfold flds; rw [bl_ba, K.fields_again]

def plainB (c : UInt8) : Bool := c != 39 && c != 34 && c != 92
theorem plainB_iff (c : UInt8) : plainB c = true ↔ c.toNat ≠ 39 ∧ c.toNat ≠ 34 ∧ c.toNat ≠ 92 := by
  have e1 : c = 39 ↔ c.toNat = 39 := u8_eq_iff c 39
  have e2 : c = 34 ↔ c.toNat = 34 := u8_eq_iff c 34
  have e3 : c = 92 ↔ c.toNat = 92 := u8_eq_iff c 92
  unfold plainB
  simp only [Bool.and_eq_true, bne_iff_ne, ne_eq, e1, e2, e3, and_assoc]
theorem split_plain (s : ByteArray) (h : (bl s).all plainB = true) : (splitE s = 0 ∧ splitW s = flds s ∧ (flds s).length ≤ 4096) ∨ (splitE s = 5 ∧ splitW s = [] ∧ 4096 < (flds s).length) := by
  have h1 : ∀ c ∈ bl s, c ≠ 39 ∧ c ≠ 34 ∧ c ≠ 92 := fun c hc => by
    have := List.all_eq_true.1 h c hc
    unfold plainB at this
    simp only [Bool.and_eq_true, bne_iff_ne, ne_eq] at this
    exact ⟨this.1.1, this.1.2, this.2⟩
  obtain ⟨e1, e2⟩ := K.plain_words (bl s) h1
  have e3 : wds s = flds s := by unfold wds flds; rw [e1]
  by_cases hl : 4096 < (flds s).length
  · right
    have : splitE s = 5 := by unfold splitE; rw [e2, e3, if_neg (by decide), if_pos hl]
    exact ⟨this, by unfold splitW; rw [this]; rfl, hl⟩
  · left
    have : splitE s = 0 := by unfold splitE; rw [e2, e3, if_neg (by decide), if_neg hl]
    exact ⟨this, by unfold splitW; rw [this, if_pos rfl, e3], by omega⟩

set_option maxRecDepth 20000 in
set_option maxHeartbeats 1000000 in
theorem parts_law (s : ByteArray) (w : World) (hs : s.size ≤ 1100000) (hM : Mx w) :
    Calls Tryd.prog 8 #[.string s] w fun e w' => e = .returned (.bool true) ∧ Below w.heap.size w w' := by
  have hjs := joined_flds_size s
  have hfl := flds_len s
  obtain ⟨l, hll⟩ : ∃ l, l = flds s := ⟨_, rfl⟩
  obtain ⟨j, hj⟩ : ∃ j, j = joined l := ⟨_, rfl⟩
  obtain ⟨n, hn⟩ : ∃ n, n = l.length := ⟨_, rfl⟩
  have hn4 : n ≤ 1100000 := by rw [hn, hll]; omega
  have HF : Hid (∀ W, Calls Tryd.prog 17 #[.string s] W fun e w' => ∃ a c, e = .returned (.slice a n c) ∧ Words w'.heap.size w' (.slice a n c) l ∧ Below W.heap.size W w') := by
    intro W
    refine (fields_any s W (by omega)).mono ?_
    rintro e w' ⟨v, rfl, hw, hb⟩
    rw [← hll] at hw
    obtain ⟨a, m, c, rfl, hm, h⟩ := hw
    rw [hm, ← hn]
    exact ⟨a, c, rfl, ⟨a, n, c, rfl, hn, h⟩, hb⟩
  have HJ : Hid (∀ a c W, Words W.heap.size W (.slice a n c) l → Calls Tryd.prog 20 #[.slice a n c] W fun e w' => e = .returned (.string j) ∧ Below W.heap.size W w') := by
    intro a c W h
    rw [hj]
    exact join_any a n c l W (by omega) (by rw [hll]; omega) h
  have HF2 : Hid (∀ W, Calls Tryd.prog 17 #[.string j] W fun e w' => ∃ a c, e = .returned (.slice a n c) ∧ Words w'.heap.size w' (.slice a n c) l ∧ Below W.heap.size W w') := by
    intro W
    have f2 : flds j = l := by rw [hj, hll]; exact flds_joined s
    refine (fields_any j W (by rw [hj, hll]; omega)).mono ?_
    rintro e w' ⟨v, rfl, hw, hb⟩
    rw [f2] at hw
    obtain ⟨a, m, c, rfl, hm, h⟩ := hw
    rw [hm, ← hn]
    exact ⟨a, c, rfl, ⟨a, n, c, rfl, hn, h⟩, hb⟩
  have HC : Hid (∀ a c a' c' W B, Words B W (.slice a n c) l → Words B W (.slice a' n c') l → Calls Tryd.prog 13 #[.slice a n c, .slice a' n c'] W fun e w' => e = .returned (.bool true) ∧ ∃ n, w' = W.drewN n) := by
    intro a c a' c' W B h1 h2
    exact same_any l _ _ B B W (by omega) h1 h2
  have HP : Hid ((bl s).all plainB = true → (n ≤ 4096 ∧ ∀ W, Calls Tryd.prog 9 #[.string s] W fun e w' => ∃ a c, e = .returned (.tuple #[.slice a n c, .int .i64 0]) ∧ Words w'.heap.size w' (.slice a n c) l ∧ Below W.heap.size W w') ∨
      (4096 < n ∧ ∀ W, Calls Tryd.prog 9 #[.string s] W fun e w' => ∃ a c, e = .returned (.tuple #[.slice a 0 c, .int .i64 5]) ∧ Below W.heap.size W w')) := by
    intro hp
    rcases split_plain s hp with ⟨f1, f2, f3⟩ | ⟨f1, f2, f3⟩
    · refine .inl ⟨by rw [hn, hll]; exact f3, fun W => ?_⟩
      refine (split_ok s W (by omega)).mono ?_
      rintro e w' ⟨a, c, rfl, hw, hb⟩
      rw [f2, ← hll, ← hn] at hw
      exact ⟨a, c, by rw [f1, f2, hn, hll]; rfl, hw, hb⟩
    · refine .inr ⟨by rw [hn, hll]; exact f3, fun W => ?_⟩
      refine (split_ok s W (by omega)).mono ?_
      rintro e w' ⟨a, c, rfl, hw, hb⟩
      exact ⟨a, c, by rw [f1, f2]; rfl, hb⟩
  have HA : Hid (∀ W, Mx W → Calls Tryd.prog 14 #[] W fun e w' => e = .returned (.bool true) ∧ Below W.heap.size W w') := fun W h => alive_any W h
  have HM : Hid (Mx w) := hM
  clear hM hjs hfl hll hj hn
  go_enter Tryd.func8, Tryd.ntmps8
  go_wp2_with fail
  refine (HF.out _).mono ?_
  rintro e w1 ⟨a, c, rfl, hw1, hb1⟩
  have HW1 : Hid (Words w1.heap.size w1 (.slice a n c) l) := hw1
  clear hw1
  go_wp2_with fail
  refine (HJ.out _ _ _ HW1.out).mono ?_
  rintro e w2 ⟨rfl, hb2⟩
  have HW2 : Hid (Words w2.heap.size w2 (.slice a n c) l) := (HW1.out.below hb2).mono hb2.size
  have hb12 := hb1.trans (hb2.mono hb1.size)
  clear HW1 hb1 hb2
  go_wp2_with fail
  refine (HF2.out _).mono ?_
  rintro e w3 ⟨a', c', rfl, hw3, hb3⟩
  have HW3 : Hid (Words w3.heap.size w3 (.slice a n c) l ∧ Words w3.heap.size w3 (.slice a' n c') l) := ⟨(HW2.out.below hb3).mono hb3.size, hw3⟩
  have hb13 := hb12.trans (hb3.mono hb12.size)
  clear HW2 hw3 hb12 hb3
  go_wp2_with fail
  refine (HC.out _ _ _ _ _ _ HW3.out.2 HW3.out.1).mono ?_
  rintro e w4 ⟨rfl, m, rfl⟩
  obtain ⟨w4, hw4⟩ : ∃ w4, w4 = w3.drewN m := ⟨_, rfl⟩
  rw [← hw4]
  have hb14 : Below w.heap.size w w4 := by rw [hw4]; exact below_drewN hb13 m
  have HW4 : Hid (Words w4.heap.size w4 (.slice a n c) l) := by rw [hw4]; exact HW3.out.1.drewN m
  have HM4 : Hid (Mx w4) := HM.out.below hb14 HM.out.pos
  clear hb13 HW3 hw4
  go_wp2
  go_loopw [4] (fun vi wr => ∃ k : Nat, k ≤ s.size ∧ vi = .int .i64 k ∧ w4 = wr ∧ Hid (((bl s).take k).all plainB = true)) (fun vi _ => s.size - (intOf vi).toNat)
  case atStart => exact ⟨0, Nat.zero_le _, rfl, rfl, by simp [Hid]⟩
  case round =>
    obtain ⟨k, hk, rfl, rfl, HP1⟩ := hrel
    by_cases hlt : k < s.size
    · have hil : (k : Int) < (s.size : Int) := by omega
      have hpi := plainB_iff s[k]
      cases hp : plainB s[k] with
      | true =>
        have HP2 : Hid (((bl s).take (k + 1)).all plainB = true) := by unfold Hid; rw [take_snoc s k hlt, List.all_append, HP1.out]; simp [hp]
        rw [hp] at hpi
        have h3 := hpi.1 rfl
        have t1 : ((s[k].toNat : Int) == 39) = false := by simp; omega
        have t2 : ((s[k].toNat : Int) == 34) = false := by simp; omega
        have t3 : ((s[k].toNat : Int) == 92) = false := by simp; omega
        clear hp hpi h3
        go_wp2
        go_roundw
        case rel => exact ⟨k + 1, by omega, by go_num, trivial, HP2⟩
        case measure => simp [intOf]; omega
      | false =>
        rw [hp] at hpi
        have h3 : s[k].toNat = 39 ∨ s[k].toNat = 34 ∨ s[k].toNat = 92 := by
          by_cases h : s[k].toNat ≠ 39 ∧ s[k].toNat ≠ 34 ∧ s[k].toNat ≠ 92
          · exact absurd (hpi.2 h) (by simp)
          · omega
        have HA1 : Hid (Calls Tryd.prog 14 #[] w4 fun e w' => e = .returned (.bool true) ∧ Below w4.heap.size w4 w') := HA.out _ HM4.out
        have hbs := hb14.size
        clear hp hpi
        have H3 : Hid (s[k].toNat = 39 ∨ s[k].toNat = 34 ∨ s[k].toNat = 92) := h3
        clear h3
        go_wp2_with (go_at_call 14; refine HA1.out.mono ?_; rintro e w5 ⟨rfl, hb5⟩; have hb15 := hb14.trans (hb5.mono hbs); clear hb5)
        all_goals first
          | (go_ret; exact ⟨rfl, by assumption⟩)
          | (exfalso; have h4 := H3.out; simp only [beq_eq_false_iff_ne, ne_eq] at *; omega)
    · obtain rfl : k = s.size := by omega
      have hpl : (bl s).all plainB = true := by have := HP1.out; rw [take_all] at this; exact this
      have hbs := hb14.size
      rcases HP.out hpl with ⟨hn5, hS⟩ | ⟨hn5, hS⟩
      · have HS : Hid (∀ W, Calls Tryd.prog 9 #[.string s] W fun e w' => ∃ a c, e = .returned (.tuple #[.slice a n c, .int .i64 0]) ∧ Words w'.heap.size w' (.slice a n c) l ∧ Below W.heap.size W w') := hS
        clear hS hpl
        go_wp2_with fail
        refine (HS.out _).mono ?_
        rintro e w5 ⟨a5, c5, rfl, hw5, hb5⟩
        have HW5 : Hid (Words w5.heap.size w5 (.slice a5 n c5) l ∧ Words w5.heap.size w5 (.slice a n c) l) := ⟨hw5, (HW4.out.below hb5).mono hb5.size⟩
        have hb15 := hb14.trans (hb5.mono hbs)
        clear hw5 hb5 hb14 hbs
        go_wp2_with fail
        refine (HC.out _ _ _ _ _ _ HW5.out.1 HW5.out.2).mono ?_
        rintro e w6 ⟨rfl, m6, rfl⟩
        have hb16 : Below w.heap.size w (w5.drewN m6) := below_drewN hb15 m6
        have HM6 : Hid (Mx (w5.drewN m6)) := HM.out.below hb16 HM.out.pos
        clear hb15
        go_wp2_with fail
        refine (HA.out _ HM6.out).mono ?_
        rintro e w7 ⟨rfl, hb7⟩
        have hb17 := hb16.trans (hb7.mono hb16.size)
        clear hb16 hb7
        go_wp2
        go_ret
        exact ⟨rfl, hb17⟩
      · have HS : Hid (∀ W, Calls Tryd.prog 9 #[.string s] W fun e w' => ∃ a c, e = .returned (.tuple #[.slice a 0 c, .int .i64 5]) ∧ Below W.heap.size W w') := hS
        have hni : (4096 : Int) < n := by omega
        clear hS hpl
        go_wp2_with fail
        refine (HS.out _).mono ?_
        rintro e w5 ⟨a5, c5, rfl, hb5⟩
        have hb15 := hb14.trans (hb5.mono hbs)
        have HM6 : Hid (Mx w5) := HM.out.below hb15 HM.out.pos
        clear hb5 hb14 hbs
        go_wp2_with fail
        refine (HA.out _ HM6.out).mono ?_
        rintro e w7 ⟨rfl, hb7⟩
        have hb17 := hb15.trans (hb7.mono hb15.size)
        clear hb15 hb7
        go_wp2
        go_ret
        exact ⟨rfl, hb17⟩
end Go.Proofs.YtanboocibmjomaaDoor
