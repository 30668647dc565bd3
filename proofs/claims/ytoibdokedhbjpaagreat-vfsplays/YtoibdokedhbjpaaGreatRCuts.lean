/-
  What the document's own Dir and Name answer: the same cuts.
-/
import Derived.Test.YtoibdokedhbjpaaGreatCuts
namespace Go.Proofs.YtoibdokedhbjpaaGreat
open Go.RowKit Go.Shelf

theorem data_at (s : ByteArray) (k : Nat) (h : k < s.size) : s.data[k]! = s[k] := by
  rw [getElem!_pos s.data k (by simpa using h)]; rfl

set_option maxHeartbeats 400000 in
theorem last_any (s : ByteArray) (c : Int) (w : World) (hs : s.size ≤ 140737488355328) :
    Calls Tryz.prog 69 #[.string s, .int .u8 c] w fun e w' => e = .returned (.int .i64 (lastI s c)) ∧ w' = w := by
  go_enter Tryz.func69, Tryz.ntmps69
  go_wp2
  go_loop [5] (fun v => ∃ k : Nat, k ≤ s.size ∧ v = .int .i64 ((k : Int) - 1) ∧ Hid (Lib.lastIdx s c k = lastI s c)) (fun v => (intOf v + 1).toNat)
  case atStart => exact ⟨s.size, Nat.le_refl _, by go_num, rfl⟩
  case round =>
    obtain ⟨k, hk, rfl, HL⟩ := hrel
    cases k with
    | zero =>
      go_wp2
      go_ret
      exact ⟨by rw [← HL.out]; rfl, rfl⟩
    | succ k =>
      have e1 : ((k + 1 : Nat) : Int) - 1 = (k : Int) := by omega
      rw [e1]
      have hkI : (k : Int) < (s.size : Int) := by omega
      have HD : Hid (s.data[k]! = s[k]) := data_at s k (by omega)
      have HS : Hid (Lib.lastIdx s c (k + 1) = if ((s.data[k]!).toNat : Int) = c then (k : Int) else Lib.lastIdx s c k) := rfl
      clear e1
      by_cases hx : ((s[k].toNat : Int) == c) = true
      · go_wp2
        go_ret
        exact ⟨ret_int (by rw [← HL.out, HS.out, HD.out, if_pos (by simpa using hx)]), rfl⟩
      · go_wp2
        go_round
        case rel => exact ⟨k, by omega, by go_num, by rw [← HL.out, HS.out, HD.out, if_neg (by simpa using hx)]; rfl⟩
        case measure => simp [intOf]
set_option maxHeartbeats 400000 in
theorem rdir_any (p : ByteArray) (w : World) (hs : p.size ≤ 140737488355328) :
    Calls Tryz.prog 46 #[.string p] w fun e w' => e = .returned (.string (dirB p)) ∧ w' = w := by
  have HO : Hid (∀ W, Calls Tryz.prog 69 #[.string p, .int .u8 47] W fun e w' => e = .returned (.int .i64 (lastI p 47)) ∧ w' = W) := fun W => last_any p 47 W hs
  unfold dirB
  rcases lastI_cases p 47 with h | ⟨i, hi, h⟩
  · rw [h] at HO ⊢
    clear h
    go_enter Tryz.func46, Tryz.ntmps46
    go_wp2_with fail
    refine (HO.out _).mono ?_
    rintro e w' ⟨rfl, rfl⟩
    go_wp2
    go_ret
    exact ⟨rfl, rfl⟩
  · rw [h] at HO ⊢
    clear h
    by_cases h0 : i = 0
    · subst h0
      go_enter Tryz.func46, Tryz.ntmps46
      go_wp2_with fail
      refine (HO.out _).mono ?_
      rintro e w' ⟨rfl, rfl⟩
      go_wp2
      go_ret
      exact ⟨rfl, rfl⟩
    · have c1 : (0 : Int) < (i : Int) := by omega
      have c2 : ¬ (i : Int) = 0 := by omega
      have c3 : (i : Int) ≤ (p.size : Int) := by omega
      rw [if_neg (by omega), if_neg c2]
      go_enter Tryz.func46, Tryz.ntmps46
      go_wp2_with fail
      refine (HO.out _).mono ?_
      rintro e w' ⟨rfl, rfl⟩
      go_wp2
      go_ret
      exact ⟨rfl, rfl⟩

set_option maxHeartbeats 400000 in
theorem rname_any (p : ByteArray) (w : World) (hs : p.size ≤ 140737488355328) :
    Calls Tryz.prog 47 #[.string p] w fun e w' => e = .returned (.string (nameB p)) ∧ w' = w := by
  have HO : Hid (∀ W, Calls Tryz.prog 69 #[.string p, .int .u8 47] W fun e w' => e = .returned (.int .i64 (lastI p 47)) ∧ w' = W) := fun W => last_any p 47 W hs
  unfold nameB
  rcases lastI_cases p 47 with h | ⟨i, hi, h⟩
  · rw [h] at HO ⊢
    clear h
    go_enter Tryz.func47, Tryz.ntmps47
    go_wp2_with fail
    refine (HO.out _).mono ?_
    rintro e w' ⟨rfl, rfl⟩
    go_wp2
    go_ret
    exact ⟨ret_str (by simp), rfl⟩
  · rw [h] at HO ⊢
    clear h
    have c1 : (0 : Int) ≤ (i : Int) + 1 := by omega
    have c3 : (i : Int) + 1 ≤ (p.size : Int) := by omega
    go_enter Tryz.func47, Tryz.ntmps47
    go_wp2_with fail
    refine (HO.out _).mono ?_
    rintro e w' ⟨rfl, rfl⟩
    go_wp2
    go_ret
    exact ⟨rfl, rfl⟩
end Go.Proofs.YtoibdokedhbjpaaGreat
