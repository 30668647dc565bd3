/-
  What NumNoughts answers.
-/
import Derived.Test.YtaaiimackjmcnaaDoorN8
namespace Go.Proofs.YtaaiimackjmcnaaDoor.N
open Go.RowKit Go.Shelf Go.Sort

def nought (k : Nat) (l : List UInt8) : List UInt8 := List.replicate k 48 ++ l
theorem nought_succ (k : Nat) (l : List UInt8) : nought (k + 1) l = 48 :: nought k l := by
  unfold nought; rw [List.replicate_succ]; rfl
theorem nought_digs (k : Nat) {l : List UInt8} (h : Digs l) : Digs (nought k l) := by
  induction k with
  | zero => simpa [nought] using h
  | succ k ih => rw [nought_succ]; exact ih.nought
theorem nought_num (k : Nat) (l : List UInt8) : numV 10 0 (nought k l) = numV 10 0 l := by
  induction k with
  | zero => simp [nought]
  | succ k ih => rw [nought_succ, nought_val, ih]
theorem nought_len (k : Nat) (l : List UInt8) : (nought k l).length = k + l.length := by simp [nought]

theorem itoa_pos (n : Nat) : Lib.itoa (n : Int) = Lib.decDigits n := by
  unfold Lib.itoa
  rw [if_neg (by omega)]
  rfl
theorem parse_plain (k n : Nat) (h : n ≤ most) : parseG (nought k (Lib.decDigits n)) = ((n : Int), 0) := by
  rw [(nought_digs k (digs_dec n)).parse, nought_num, num_dec]
  unfold valG
  rw [if_neg (by omega)]
  rfl
theorem parse_plus (k n : Nat) (h : n ≤ most) : parseG (43 :: nought k (Lib.decDigits n)) = ((n : Int), 0) := by
  rw [(nought_digs k (digs_dec n)).plus, nought_num, num_dec]
  unfold valG
  rw [if_neg (by omega)]
  rfl
theorem parse_minus (k n : Nat) (h : n ≤ most) : parseG (45 :: nought k (Lib.decDigits n)) = (-(n : Int), 0) := by
  rw [(nought_digs k (digs_dec n)).minus, nought_num, num_dec]
  unfold valG
  rw [if_neg (by omega)]
  rfl
theorem cmp_minus (k n : Nat) (h : n ≤ most) : cmpG (45 :: nought k (Lib.decDigits n)) (Lib.itoa (-(n : Int))) = (0, 0) := by
  have e : parseG (Lib.itoa (-(n : Int))) = (-(n : Int), 0) := by
    rw [parse_itoa, if_neg (by unfold most at h; omega)]
  unfold cmpG
  rw [parse_minus k n h, e]
  simp [cmpI_same]

theorem one_app (c : UInt8) (t : List UInt8) : (⟨#[c]⟩ : ByteArray) ++ ba t = ba (c :: t) := by
  apply bl_inj
  rw [bl_app, bl_ba, bl_ba]
  rfl

set_option maxHeartbeats 1000000 in
set_option maxRecDepth 20000 in
theorem noughts_law (a : Addr) (n m : Int) (h0 : -9223372036854775808 ≤ n) (h1 : n ≤ 9223372036854775807) (hm0 : 0 ≤ m) (hm1 : m ≤ 255) (w : World) (h : Gw a w) :
    Calls Tryd.prog 8 #[.int .i64 n, .int .u8 m] w fun e w' => e = .returned (.bool true) ∧ J a w w' := by
  have HA : Hid (∀ W, J a w W → Calls Tryd.prog 14 #[] W fun e w' => e = .returned (.bool true) ∧ J a w w') := fun W hW => jalive a w W hW
  have HJ : Hid (J a w w) := J.start h
  by_cases hc : n < 0 ∨ 4611686018427387904 < n
  · rcases hc with hc | hc
    · go_enter Tryd.func8, Tryd.ntmps8
      go_wp2_with fail
      refine (HA.out _ HJ.out).mono ?_
      rintro e w3 ⟨rfl, hj3⟩
      go_wp2
      go_ret
      exact ⟨rfl, hj3⟩
    · have hc2 : ¬ n < 0 := by omega
      go_enter Tryd.func8, Tryd.ntmps8
      go_wp2_with fail
      refine (HA.out _ HJ.out).mono ?_
      rintro e w3 ⟨rfl, hj3⟩
      go_wp2
      go_ret
      exact ⟨rfl, hj3⟩
  · obtain ⟨u, rfl⟩ : ∃ u : Nat, n = (u : Int) := ⟨n.toNat, by omega⟩
    obtain ⟨v, rfl⟩ : ∃ v : Nat, m = (v : Int) := ⟨m.toNat, by omega⟩
    have hu : u ≤ most := by unfold most; omega
    have hdl : (Lib.decDigits u).length ≤ 21 := by
      have := Lib.itoa_length_le (u : Int) h0 h1
      rw [itoa_pos] at this
      exact this
    have HF : Hid (Calls Tryd.prog 12 #[.int .i64 (u : Int)] w fun e w' => e = .returned (.string (ba (nought 0 (Lib.decDigits u)))) ∧ J a w w') := by
      have := jformat a w (u : Int) h0 h1 w (J.start h)
      rw [itoa_pos] at this
      exact this
    have HG : Hid (∀ W, J a w W → Calls Tryd.prog 12 #[.int .i64 (-(u : Int))] W fun e w' => e = .returned (.string (ba (Lib.itoa (-(u : Int))))) ∧ J a w w') := fun W hW => jformat a w (-(u : Int)) (by omega) (by omega) W hW
    have hil : (ba (Lib.itoa (-(u : Int)))).size ≤ 140737488355328 := by
      rw [ba_size]
      exact Nat.le_trans (Lib.itoa_length_le (-(u : Int)) (by omega) (by omega)) (by decide)
    have HP1 : Hid (∀ k W, k ≤ 255 → J a w W → Calls Tryd.prog 9 #[.string (ba (nought k (Lib.decDigits u)))] W fun e w' => e = .returned (.tuple #[.int .i64 (u : Int), .int .i64 0]) ∧ J a w w') := fun k W hk hW => by
      have := jparse a w (ba (nought k (Lib.decDigits u))) (by rw [ba_size, nought_len]; omega) W hW
      rw [bl_ba, parse_plain k u hu] at this
      exact this
    have HP2 : Hid (∀ k W, k ≤ 255 → J a w W → Calls Tryd.prog 9 #[.string ((⟨#[43]⟩ : ByteArray) ++ ba (nought k (Lib.decDigits u)))] W fun e w' => e = .returned (.tuple #[.int .i64 (u : Int), .int .i64 0]) ∧ J a w w') := fun k W hk hW => by
      rw [one_app]
      have := jparse a w (ba (43 :: nought k (Lib.decDigits u))) (by rw [ba_size, List.length_cons, nought_len]; omega) W hW
      rw [bl_ba, parse_plus k u hu] at this
      exact this
    have HC : Hid (∀ k W, k ≤ 255 → J a w W → Calls Tryd.prog 15 #[.string ((⟨#[45]⟩ : ByteArray) ++ ba (nought k (Lib.decDigits u))), .string (ba (Lib.itoa (-(u : Int))))] W fun e w' => e = .returned (.tuple #[.int .i64 0, .int .i64 0]) ∧ J a w w') := fun k W hk hW => by
      rw [one_app]
      have := jcompare a w (ba (45 :: nought k (Lib.decDigits u))) (ba (Lib.itoa (-(u : Int)))) (by rw [ba_size, List.length_cons, nought_len]; omega) hil W hW
      rw [bl_ba, bl_ba, cmp_minus k u hu] at this
      exact this
    have HL : Hid (∀ k, k ≤ 255 → (ba (nought k (Lib.decDigits u))).size ≤ 1000) := fun k hk => by rw [ba_size, nought_len]; omega
    have HS : Hid (∀ k, (⟨#[48]⟩ : ByteArray) ++ ba (nought k (Lib.decDigits u)) = ba (nought (k + 1) (Lib.decDigits u))) := fun k => by rw [one_app, nought_succ]
    obtain ⟨X, hX⟩ : ∃ X : Nat → ByteArray, X = fun k => ba (nought k (Lib.decDigits u)) := ⟨_, rfl⟩
    have eX : ∀ k, ba (nought k (Lib.decDigits u)) = X k := fun k => by rw [hX]
    simp only [eX] at HF HP1 HP2 HC HL HS
    generalize ba (Lib.itoa (-(u : Int))) = y at HG HC
    have hu0 : ¬ (u : Int) < 0 := by omega
    have hu1 : ¬ 4611686018427387904 < (u : Int) := by omega
    have hu2 : u ≤ 4611686018427387904 := by omega
    have hz1 : (⟨#[48]⟩ : ByteArray).size = 1 := rfl
    have hz2 : (⟨#[43]⟩ : ByteArray).size = 1 := rfl
    have hz3 : (⟨#[45]⟩ : ByteArray).size = 1 := rfl
    clear hX eX hc hil hdl hu h
    go_enter Tryd.func8, Tryd.ntmps8
    go_wp2_with fail
    refine HF.out.mono ?_
    rintro e w1 ⟨rfl, hj1⟩
    go_wp2
    go_loop [5, 22] (fun vs vi => ∃ k : Nat, k ≤ v ∧ vs = .string (X k) ∧ vi = .int .u8 (k : Int)) (fun _ vi => v - (intOf vi).toNat)
    case atStart => exact ⟨0, Nat.zero_le _, rfl, rfl⟩
    case round =>
      obtain ⟨k, hk, rfl, rfl⟩ := hrel
      have hkk : k ≤ 255 := by omega
      have hsz := HL.out k hkk
      have HSk : Hid ((⟨#[48]⟩ : ByteArray) ++ X k = X (k + 1)) := HS.out k
      by_cases hkv : k < v
      · have hz : ¬ 9223372036854775807 < (⟨#[48]⟩ : ByteArray).size + (X k).size := by omega
        have hw8 : IntKind.u8.wrap ((k : Int) + 1) = (k : Int) + 1 := by
          rw [IntKind.wrap_u8]; omega
        go_wp2
        refine ⟨⟨k + 1, by omega, ?_, ?_⟩, ?_⟩
        · rw [HSk.out]
        · simp
        · simp [intOf]; omega
      · obtain rfl : k = v := by omega
        have hz : ¬ 9223372036854775807 < (⟨#[43]⟩ : ByteArray).size + (X k).size := by omega
        have hzz : ¬ 9223372036854775807 < (⟨#[45]⟩ : ByteArray).size + (X k).size := by omega
        go_wp2_with fail
        refine (HP1.out k _ hkk hj1).mono ?_
        rintro e w2 ⟨rfl, hj2⟩
        go_wp2_with fail
        refine (HP2.out k _ hkk hj2).mono ?_
        rintro e w3 ⟨rfl, hj3⟩
        go_wp2_with fail
        refine (HG.out _ hj3).mono ?_
        rintro e w4 ⟨rfl, hj4⟩
        go_wp2_with fail
        refine (HC.out k _ hkk hj4).mono ?_
        rintro e w5 ⟨rfl, hj5⟩
        go_wp2_with fail
        refine (HA.out _ hj5).mono ?_
        rintro e w6 ⟨rfl, hj6⟩
        go_wp2
        go_ret
        exact ⟨rfl, hj6⟩
end Go.Proofs.YtaaiimackjmcnaaDoor.N
