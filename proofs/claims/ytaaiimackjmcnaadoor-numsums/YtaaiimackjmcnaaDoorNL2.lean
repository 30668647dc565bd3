/-
  What Sum and the document's own Sum answer, and NumSums.
-/
import Derived.Test.YtaaiimackjmcnaaDoorN7
namespace Go.Proofs.YtaaiimackjmcnaaDoor.N
open Go.RowKit Go.Shelf Go.Sort

/-- A row of numbers that is only read. -/
def Nums (W : World) (a0 : Option Addr) (len : Nat) (l : List Int) : Prop :=
  len = l.length ∧ (∀ n ∈ l, -9223372036854775808 ≤ n ∧ n ≤ 9223372036854775807) ∧ ∀ (i : Nat) (h : i < l.length), ∃ b o, a0 = some ⟨b, o, none⟩ ∧ b < W.heap.size ∧ W.cell? ⟨b, o + i, none⟩ = some (.int .i64 l[i])

def may (n : Int) : Bool := decide (-4611686018427387904 ≤ n) && decide (n ≤ 4611686018427387904)
def sumG (s : Int) : List Int → Int × Int
  | [] => (s, 0)
  | n :: l => if may n = true ∧ may (s + n) = true then sumG (s + n) l else (0, 5)

theorem may_any (n : Int) (W : World) :
    Calls Tryd.prog 31 #[.int .i64 n] W fun e w' => e = .returned (.bool (may n)) ∧ W = w' := by
  by_cases h1 : -4611686018427387904 ≤ n
  · by_cases h2 : n ≤ 4611686018427387904
    · have hm : may n = true := by simp [may, h1, h2]
      rw [hm]
      clear hm
      go_enter Tryd.func31, Tryd.ntmps31
      go_wp2
      go_ret
      exact ⟨by simp, rfl⟩
    · have hm : may n = false := by simp [may, h2]
      rw [hm]
      clear hm
      go_enter Tryd.func31, Tryd.ntmps31
      go_wp2
      go_ret
      exact ⟨by simp, rfl⟩
  · have hm : may n = false := by simp [may, h1]
    rw [hm]
    clear hm
    go_enter Tryd.func31, Tryd.ntmps31
    go_wp2
    go_ret
    exact ⟨rfl, rfl⟩
theorem may_true {n : Int} (h : may n = true) : -4611686018427387904 ≤ n ∧ n ≤ 4611686018427387904 := by
  simpa [may] using h
theorem may_false {n : Int} (h : may n = false) : ¬ (-4611686018427387904 ≤ n ∧ n ≤ 4611686018427387904) := by
  intro h2
  rw [may, decide_eq_true h2.1, decide_eq_true h2.2] at h
  cases h

set_option maxHeartbeats 1000000 in
set_option maxRecDepth 20000 in
theorem sum_any (a0 : Option Addr) (len cap : Nat) (l : List Int) (w : World) (hN : Nums w a0 len l) (hl : len ≤ 140737488355328) :
    Calls Tryd.prog 19 #[.slice a0 len cap] w fun e w' => e = .returned (tupV (sumG 0 l)) ∧ w = w' := by
  obtain ⟨hlen, hrange, hcell⟩ := hN
  have HM : Hid (∀ n W, Calls Tryd.prog 31 #[.int .i64 n] W fun e w' => e = .returned (.bool (may n)) ∧ W = w') := fun n W => may_any n W
  have HL : Hid (len = l.length) := hlen
  have HC : Hid (∀ (i : Nat) (h : i < l.length), ∃ b o, a0 = some ⟨b, o, none⟩ ∧ b < w.heap.size ∧ w.cell? ⟨b, o + i, none⟩ = some (.int .i64 l[i])) := hcell
  have HR : Hid (∀ n ∈ l, -9223372036854775808 ≤ n ∧ n ≤ 9223372036854775807) := hrange
  clear hlen hcell hrange
  go_enter Tryd.func19, Tryd.ntmps19
  go_wp2
  go_loop [4, 9] (fun vs vi => ∃ (k : Nat) (s : Int), k ≤ len ∧ vs = .int .i64 s ∧ vi = .int .i64 (k : Int) ∧ Hid (sumG 0 l = sumG s (l.drop k)) ∧ -4611686018427387904 ≤ s ∧ s ≤ 4611686018427387904) (fun _ vi => len - (intOf vi).toNat)
  case atStart => exact ⟨0, 0, Nat.zero_le _, rfl, rfl, rfl, by decide, by decide⟩
  case round =>
    obtain ⟨k, s, hk, rfl, rfl, HS, hs0, hs1⟩ := hrel
    by_cases hkl : k < len
    · have hkl2 : k < l.length := by have := HL.out; omega
      obtain ⟨b, o, rfl, hb, hc⟩ := HC.out k hkl2
      have hd : l.drop k = l[k] :: l.drop (k + 1) := List.drop_eq_getElem_cons hkl2
      have hrg := HR.out l[k] (List.getElem_mem _)
      rw [hd] at HS
      generalize l[k] = n at hc HS hrg
      obtain ⟨hr0, hr1⟩ := hrg
      clear hd HC
      cases hm : may n
      · have HE : Hid (sumG 0 l = (0, 5)) := by
          unfold Hid
          rw [HS.out, sumG, if_neg (by rw [hm]; simp)]
        have HMn : Hid (∀ W, Calls Tryd.prog 31 #[.int .i64 n] W fun e w' => e = .returned (.bool false) ∧ W = w') := fun W => by have := HM.out n W; rw [hm] at this; exact this
        clear HS hm
        go_wp2_with fail
        refine (HMn.out _).mono ?_
        rintro e w1 ⟨rfl, rfl⟩
        go_wp2
        go_ret2
        exact ⟨by rw [HE.out]; rfl, rfl⟩
      · obtain ⟨hn0, hn1⟩ := may_true hm
        have HMn : Hid (∀ W, Calls Tryd.prog 31 #[.int .i64 n] W fun e w' => e = .returned (.bool true) ∧ W = w') := fun W => by have := HM.out n W; rw [hm] at this; exact this
        cases hm2 : may (s + n)
        · have HE : Hid (sumG 0 l = (0, 5)) := by
            unfold Hid
            rw [HS.out, sumG, if_neg (by rw [hm2]; simp)]
          have hmf := may_false hm2
          by_cases hx : s + n = 9223372036854775808
          · have hw : wrap64 (s + n) = -9223372036854775808 := by unfold wrap64; omega
            have HMs : Hid (∀ W, Calls Tryd.prog 31 #[.int .i64 (-9223372036854775808)] W fun e w' => e = .returned (.bool false) ∧ W = w') := fun W => by have := HM.out (-9223372036854775808) W; rw [show may (-9223372036854775808) = false by decide] at this; exact this
            have HX : Hid (s + n = 9223372036854775808) := hx
            clear HS hm hm2 hmf hx
            go_wp2_with fail
            refine (HMn.out _).mono ?_
            rintro e w1 ⟨rfl, rfl⟩
            go_wp2_with fail
            refine (HMs.out _).mono ?_
            rintro e w1 ⟨rfl, rfl⟩
            go_wp2
            go_ret2
            exact ⟨by rw [HE.out]; rfl, rfl⟩
          · have hq0 : -9223372036854775808 ≤ s + n := by omega
            have hq1 : s + n ≤ 9223372036854775807 := by omega
            have HMs : Hid (∀ W, Calls Tryd.prog 31 #[.int .i64 (s + n)] W fun e w' => e = .returned (.bool false) ∧ W = w') := fun W => by have := HM.out (s + n) W; rw [hm2] at this; exact this
            clear HS hm hm2 hmf hx
            go_wp2_with fail
            refine (HMn.out _).mono ?_
            rintro e w1 ⟨rfl, rfl⟩
            go_wp2_with fail
            refine (HMs.out _).mono ?_
            rintro e w1 ⟨rfl, rfl⟩
            go_wp2
            go_ret2
            exact ⟨by rw [HE.out]; rfl, rfl⟩
        · obtain ⟨hq0, hq1⟩ := may_true hm2
          have HE : Hid (sumG 0 l = sumG (s + n) (l.drop (k + 1))) := by
            unfold Hid
            rw [HS.out, sumG, if_pos ⟨hm, hm2⟩]
          have HMs : Hid (∀ W, Calls Tryd.prog 31 #[.int .i64 (s + n)] W fun e w' => e = .returned (.bool true) ∧ W = w') := fun W => by have := HM.out (s + n) W; rw [hm2] at this; exact this
          clear HS hm hm2
          go_wp2_with fail
          refine (HMn.out _).mono ?_
          rintro e w1 ⟨rfl, rfl⟩
          go_wp2_with fail
          refine (HMs.out _).mono ?_
          rintro e w1 ⟨rfl, rfl⟩
          go_wp2
          exact ⟨⟨k + 1, s + n, by omega, rfl, rfl, HE, hq0, hq1⟩, by simp [intOf]; omega⟩
    · obtain rfl : k = len := by omega
      have HE : Hid (sumG 0 l = (s, 0)) := by
        unfold Hid
        rw [HS.out, List.drop_of_length_le (by rw [← HL.out]; exact Nat.le_refl _)]
        rfl
      clear HS
      go_wp2
      go_ret2
      exact ⟨by rw [HE.out]; rfl, rfl⟩

set_option maxHeartbeats 1000000 in
set_option maxRecDepth 20000 in
theorem rsum_any (a0 : Option Addr) (len cap : Nat) (l : List Int) (w : World) (hN : Nums w a0 len l) (hl : len ≤ 140737488355328) :
    Calls Tryd.prog 20 #[.slice a0 len cap] w fun e w' => e = .returned (tupV (sumG 0 l)) ∧ w = w' := by
  obtain ⟨hlen, hrange, hcell⟩ := hN
  have HL : Hid (len = l.length) := hlen
  have HC : Hid (∀ (i : Nat) (h : i < l.length), ∃ b o, a0 = some ⟨b, o, none⟩ ∧ b < w.heap.size ∧ w.cell? ⟨b, o + i, none⟩ = some (.int .i64 l[i])) := hcell
  have HR : Hid (∀ n ∈ l, -9223372036854775808 ≤ n ∧ n ≤ 9223372036854775807) := hrange
  clear hlen hcell hrange
  go_enter Tryd.func20, Tryd.ntmps20
  go_wp2
  go_loop [4, 5] (fun vs vi => ∃ (k : Nat) (s : Int), k ≤ len ∧ vs = .int .i64 s ∧ vi = .int .i64 (k : Int) ∧ Hid (sumG 0 l = sumG s (l.drop k)) ∧ -4611686018427387904 ≤ s ∧ s ≤ 4611686018427387904) (fun _ vi => len - (intOf vi).toNat)
  case atStart => exact ⟨0, 0, Nat.zero_le _, rfl, rfl, rfl, by decide, by decide⟩
  case round =>
    obtain ⟨k, s, hk, rfl, rfl, HS, hs0, hs1⟩ := hrel
    by_cases hkl : k < len
    · have hkl2 : k < l.length := by have := HL.out; omega
      obtain ⟨b, o, rfl, hb, hc⟩ := HC.out k hkl2
      have hd : l.drop k = l[k] :: l.drop (k + 1) := List.drop_eq_getElem_cons hkl2
      have hrg := HR.out l[k] (List.getElem_mem _)
      rw [hd] at HS
      generalize l[k] = n at hc HS hrg
      obtain ⟨hr0, hr1⟩ := hrg
      clear hd HC
      by_cases c1 : n < -4611686018427387904
      · have HE : Hid (sumG 0 l = (0, 5)) := by
          unfold Hid
          rw [HS.out, sumG, if_neg (by rintro ⟨h1, h2⟩; have h3 := may_true h1; have h4 := may_true h2; omega)]
        clear HS
        go_wp2
        go_ret2
        exact ⟨by rw [HE.out]; rfl, rfl⟩
      · by_cases c2 : 4611686018427387904 < n
        · have HE : Hid (sumG 0 l = (0, 5)) := by
            unfold Hid
            rw [HS.out, sumG, if_neg (by rintro ⟨h1, h2⟩; have h3 := may_true h1; have h4 := may_true h2; omega)]
          clear HS
          go_wp2
          go_ret2
          exact ⟨by rw [HE.out]; rfl, rfl⟩
        · by_cases c3 : 0 < n
          · have c4 : ¬ n < 0 := by omega
            by_cases c5 : 4611686018427387904 - n < s
            · have HE : Hid (sumG 0 l = (0, 5)) := by
                unfold Hid
                rw [HS.out, sumG, if_neg (by rintro ⟨h1, h2⟩; have h3 := may_true h1; have h4 := may_true h2; omega)]
              clear HS
              go_wp2
              go_ret2
              exact ⟨by rw [HE.out]; rfl, rfl⟩
            · have c6 : s ≤ 4611686018427387904 - n := by omega
              have hq0 : -4611686018427387904 ≤ s + n := by omega
              have hq1 : s + n ≤ 4611686018427387904 := by omega
              have HE : Hid (sumG 0 l = sumG (s + n) (l.drop (k + 1))) := by
                unfold Hid
                rw [HS.out, sumG, if_pos ⟨by simp [may]; omega, by simp [may]; omega⟩]
              clear HS
              go_wp2
              exact ⟨⟨k + 1, s + n, by omega, rfl, rfl, HE, hq0, hq1⟩, by simp [intOf]; omega⟩
          · by_cases c4 : n < 0
            · by_cases c5 : s < -4611686018427387904 - n
              · have HE : Hid (sumG 0 l = (0, 5)) := by
                  unfold Hid
                  rw [HS.out, sumG, if_neg (by rintro ⟨h1, h2⟩; have h3 := may_true h1; have h4 := may_true h2; omega)]
                clear HS
                go_wp2
                go_ret2
                exact ⟨by rw [HE.out]; rfl, rfl⟩
              · have c6 : -4611686018427387904 - n ≤ s := by omega
                have hq0 : -4611686018427387904 ≤ s + n := by omega
                have hq1 : s + n ≤ 4611686018427387904 := by omega
                have HE : Hid (sumG 0 l = sumG (s + n) (l.drop (k + 1))) := by
                  unfold Hid
                  rw [HS.out, sumG, if_pos ⟨by simp [may]; omega, by simp [may]; omega⟩]
                clear HS
                go_wp2
                exact ⟨⟨k + 1, s + n, by omega, rfl, rfl, HE, hq0, hq1⟩, by simp [intOf]; omega⟩
            · obtain rfl : n = 0 := by omega
              have HE : Hid (sumG 0 l = sumG s (l.drop (k + 1))) := by
                unfold Hid
                rw [HS.out, sumG, if_pos ⟨by decide, by simp [may]; omega⟩, Int.add_zero]
              clear HS
              go_wp2
              exact ⟨⟨k + 1, s, by omega, (by first | rfl | simp), rfl, HE, hs0, hs1⟩, by simp [intOf]; omega⟩
    · obtain rfl : k = len := by omega
      have HE : Hid (sumG 0 l = (s, 0)) := by
        unfold Hid
        rw [HS.out, List.drop_of_length_le (by rw [← HL.out]; exact Nat.le_refl _)]
        rfl
      clear HS
      go_wp2
      go_ret2
      exact ⟨by rw [HE.out]; rfl, rfl⟩
end Go.Proofs.YtaaiimackjmcnaaDoor.N
