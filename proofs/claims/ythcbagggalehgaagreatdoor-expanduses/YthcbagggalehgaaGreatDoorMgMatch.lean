/-
  What the program's matches, read and Match answer: whether the pattern is all of the text, as the plain mathematics has it.
-/
import Derived.Test.YthcbagggalehgaaGreatDoorMgOne
namespace Go.Proofs.YthcbagggalehgaaGreatDoor
open Go.RowKit

def agI : Option Nat → Int
  | none => -1
  | some g => g

def mu (n t s a i f : Nat) : Nat := (s - f) * n + ((t - a) + (s - i))
theorem mu_lt {n t s a i f a' i' f' : Nat} (h : f' = f ∧ (t - a') + (s - i') < (t - a) + (s - i) ∨ f < f' ∧ f < s ∧ (t - a') + (s - i') < n) : mu n t s a' i' f' < mu n t s a i f := by
  unfold mu
  rcases h with ⟨rfl, h⟩ | ⟨h1, h2, h3⟩
  · omega
  · have e : (s - f') * n + n ≤ (s - f) * n := by
      have : (s - f' + 1) * n ≤ (s - f) * n := Nat.mul_le_mul_right n (by omega)
      rw [Nat.add_mul] at this; omega
    omega

theorem below_on {B : Nat} {w0 wr w1 wx : World} (hb : Below B w0 wr) (hB : B ≤ wr.heap.size) (hx : Below B wr wx) (hb1 : Below wx.heap.size wx w1) (he : wr.heap.size ≤ wx.heap.size) : Below B w0 w1 :=
  (hb.trans hx).trans (hb1.mono (Nat.le_trans hB he))
theorem below_out {w w1 : World} {o : Obj} (h : Below (w.heap.size + 1) (w.alloc o) w1) : Below w.heap.size w w1 :=
  ((Below.refl _ _).alloc (Nat.le_refl _) _).trans (h.mono (by omega))
theorem trim_all (l : List UInt8) : (Lib.trimLeftB l 42).isEmpty = l.all (· == 42) := by
  unfold Lib.trimLeftB
  induction l with
  | nil => rfl
  | cons c r ih =>
    cases h : (c == 42) with
    | true => rw [List.dropWhile_cons, if_pos h, ih]; simp [h]
    | false => rw [List.dropWhile_cons, if_neg (by simp [h])]; simp [h]

set_option maxHeartbeats 1600000 in
theorem matches_any (T s : ByteArray) (L : Int) (w : World) (hs : T.size ≤ 1000000) (hss : s.size ≤ 1000000) (hL : LastOk T L) :
    Calls Tryz.prog 165 #[.agg #[.string T, .int .i64 L], .string s] w fun e w' => e = .returned (.bool (G.matchB T.data.toList s.data.toList)) ∧ Below w.heap.size w w' := by
  have HL : Hid (LastOk T L) := hL
  clear hL
  go_enter Tryz.func165, Tryz.ntmps165
  go_wp2
  go_loopw [5, 6, 7, 8] (fun va vi vg vf wr => ∃ (a i f : Nat) (ag : Option Nat), va = .int .i64 a ∧ vi = .int .i64 i ∧ vg = .int .i64 (agI ag) ∧ vf = .int .i64 f ∧ a ≤ T.size ∧ i ≤ s.size ∧ f ≤ i ∧ Hid (G.Inv T.data.toList s.data.toList (G.matchB T.data.toList s.data.toList) a i ag f) ∧ Below (w.heap.size + 1) (w.alloc (.cells #[.string T, .int .i64 L] 209)) wr)
    (fun va vi _ vf _ => mu (T.size + s.size + 2) T.size s.size (intOf va).toNat (intOf vi).toNat (intOf vf).toNat)
  case atStart => exact ⟨0, 0, 0, none, rfl, rfl, rfl, rfl, Nat.zero_le _, Nat.zero_le _, Nat.zero_le _, G.inv_start _ _, Below.refl _ _⟩
  case round =>
    obtain ⟨a, i, f, ag, rfl, rfl, rfl, rfl, ha, hi, hf, HI, hb⟩ := hrel
    have hx0 : wr.cell? ⟨w.heap.size, 0, none⟩ = some (.string T) := by rw [hb.cell (p := ⟨w.heap.size, 0, none⟩) (by simp)]; simp
    have hx1 : wr.cell? ⟨w.heap.size, 1, none⟩ = some (.int .i64 L) := by rw [hb.cell (p := ⟨w.heap.size, 1, none⟩) (by simp)]; simp
    have hbs := hb.size
    by_cases hlt : i < s.size
    · have hil : (i : Int) < (s.size : Int) := by omega
      by_cases hat : a < T.size
      · have hatl : (a : Int) < (T.size : Int) := by omega
        cases hstar : ((T[a].toNat : Int) == 42)
        · have hn42 : (T.data.toList[a]'(by simpa using hat) == 42) = false := by rw [← u8_beq _ 42 42 rfl]; exact hstar
          obtain ⟨nx, hnx⟩ : ∃ nx : Nat, nx = a + G.headN (T.data.toList.drop a) := ⟨_, rfl⟩
          obtain ⟨ok, hok⟩ : ∃ ok : Bool, ok = G.headF (T.data.toList.drop a) s[i] := ⟨_, rfl⟩
          have HO : Hid (∀ W, Calls Tryz.prog 195 #[.agg #[.string T, .int .i64 L], .int .i64 a, .int .u8 s[i].toNat] W fun e w' => e = .returned (.tuple #[.int .i64 nx, .bool ok]) ∧ Below W.heap.size W w') := by
            intro W; rw [hnx, hok]; exact one_spec T L a s[i] W hs hat HL.out
          have hfit := headN_fits T a hat
          rw [← hnx] at hfit
          have hnx1 : a < nx := by have := G.headN_pos T[a] (T.data.toList.drop (a + 1)); rw [← drop_ba T a hat] at this; omega
          cases ok
          · cases ag with
            | none =>
              have HR : Hid (G.matchB T.data.toList s.data.toList = false) := G.inv_fail_none HI.out (by simpa using hlt) (Or.inr ⟨by simpa using hat, hn42, hok.symm⟩)
              clear hnx hok HI hn42
              go_wp2
              go_region_with (go_at_call 195; refine (HO.out _).mono ?_; rintro e w1 ⟨rfl, hb1⟩)
              all_goals
                go_wp2
                go_ret
                exact ⟨ret_bool HR.out.symm, below_out (below_on hb (by simp at hbs; omega) (Below.refl _ _).drew hb1 (Nat.le_refl _))⟩
            | some g =>
              have HN : Hid (G.Inv T.data.toList s.data.toList (G.matchB T.data.toList s.data.toList) g (f + 1) (some g) (f + 1)) := G.inv_fail_some HI.out (by simpa using hlt) (Or.inr ⟨by simpa using hat, hn42, hok.symm⟩)
              have hg : g ≤ T.size := by have := HN.out.1; simpa using this
              have hag : agI (some g) = (g : Int) := rfl
              clear hnx hok hn42 HI
              go_wp2
              go_region_with (go_at_call 195; refine (HO.out _).mono ?_; rintro e w1 ⟨rfl, hb1⟩)
              all_goals
                go_wp2
                go_roundw
                case rel => exact ⟨g, f + 1, f + 1, some g, by go_num, by go_num, by go_num, by go_num, hg, by omega, by omega, HN, below_on hb (by simp at hbs; omega) (Below.refl _ _).drew hb1 (Nat.le_refl _)⟩
                case measure => simp only [intOf]; refine mu_lt ?_; simp <;> omega
          · have HX : Hid (nx = a + G.headN (T.data.toList.drop a) ∧ true = G.headF (T.data.toList.drop a) s[i] ∧ (T.data.toList[a]'(by simpa using hat) == 42) = false) := ⟨hnx, hok, hn42⟩
            clear hnx hok hn42
            go_wp2
            go_region_with (go_at_call 195; refine (HO.out _).mono ?_; rintro e w1 ⟨rfl, hb1⟩)
            all_goals
              go_wp2
              go_roundw
              case rel =>
                refine ⟨nx, i + 1, f, ag, rfl, by go_num, rfl, rfl, hfit, by omega, by omega, ?_, below_on hb (by simp at hbs; omega) (Below.refl _ _).drew hb1 (Nat.le_refl _)⟩
                show G.Inv _ _ _ _ _ _ _
                have h := HX.out
                rw [h.1]
                exact G.inv_one HI.out (by simpa using hat) h.2.2 (by simpa using hlt) h.2.1.symm (by rw [← h.1]; simpa using hfit)
              case measure => simp only [intOf]; refine mu_lt ?_; simp <;> omega
        · have h42 : T.data.toList[a]'(by simpa using hat) = 42 := eq_of (x := T[a]) (y := 42) (n := 42) rfl hstar
          have HN : Hid (G.Inv T.data.toList s.data.toList (G.matchB T.data.toList s.data.toList) (a + 1) i (some (a + 1)) i) := G.inv_star HI.out (by simpa using hat) h42
          clear h42
          go_wp2
          go_roundw
          case rel => exact ⟨a + 1, i, i, some (a + 1), by go_num, rfl, by simp [agI], rfl, by omega, by omega, by omega, HN, hb⟩
          case measure => simp only [intOf]; refine mu_lt ?_; by_cases hfi : f = i <;> simp <;> omega
      · obtain rfl : a = T.size := by omega
        have HO : Hid (∀ W, Calls Tryz.prog 195 #[.agg #[.string T, .int .i64 L], .int .i64 T.size, .int .u8 s[i].toNat] W fun e w' => e = .returned (.tuple #[.int .i64 T.size, .bool false]) ∧ Below W.heap.size W w') := fun W => one_end T L s[i] W
        cases ag with
        | none =>
          have HR : Hid (G.matchB T.data.toList s.data.toList = false) := G.inv_fail_none HI.out (by simpa using hlt) (Or.inl (by simp))
          clear HI
          go_wp2
          go_region_with (go_at_call 195; refine (HO.out _).mono ?_; rintro e w1 ⟨rfl, hb1⟩)
          all_goals
            go_wp2
            go_ret
            exact ⟨ret_bool HR.out.symm, below_out (below_on hb (by simp at hbs; omega) (Below.refl _ _).drew hb1 (Nat.le_refl _))⟩
        | some g =>
          have HN : Hid (G.Inv T.data.toList s.data.toList (G.matchB T.data.toList s.data.toList) g (f + 1) (some g) (f + 1)) := G.inv_fail_some HI.out (by simpa using hlt) (Or.inl (by simp))
          have hg : g ≤ T.size := by have := HN.out.1; simpa using this
          have hag : agI (some g) = (g : Int) := rfl
          clear HI
          go_wp2
          go_region_with (go_at_call 195; refine (HO.out _).mono ?_; rintro e w1 ⟨rfl, hb1⟩)
          all_goals
            go_wp2
            go_roundw
            case rel => exact ⟨g, f + 1, f + 1, some g, by go_num, by go_num, by go_num, by go_num, hg, by omega, by omega, HN, below_on hb (by simp at hbs; omega) (Below.refl _ _).drew hb1 (Nat.le_refl _)⟩
            case measure => simp only [intOf]; refine mu_lt ?_; simp <;> omega
    · obtain rfl : i = s.size := by omega
      have HR : Hid (G.matchB T.data.toList s.data.toList = (T.data.toList.drop a).all (· == 42)) := by
        have h := HI.out
        rw [show s.size = s.data.toList.length by simp] at h
        exact G.inv_end h
      go_wp2_with (go_at_call 196; refine (Tryz.strings_TrimLeft_one (T.extract a T.size) 42 (by decide) _).mono ?_; rintro e w' ⟨rfl, rfl⟩)
      go_ret
      refine ⟨ret_bool ?_, below_out hb⟩
      rw [HR.out, trim_all, List.take_of_length_le (by simp)]
end Go.Proofs.YthcbagggalehgaaGreatDoor
