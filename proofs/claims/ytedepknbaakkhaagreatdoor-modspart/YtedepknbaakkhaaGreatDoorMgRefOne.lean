/-
  What the document's own set, in and first answer: just what the plain pattern's head says; memory is as it was.
-/
import Derived.Test.YtedepknbaakkhaaGreatDoorMgOne
namespace Go.Proofs.YtedepknbaakkhaaGreatDoor.GR
open Go.RowKit

theorem ret_int {k : IntKind} {a b : Int} (h : a = b) : Ending.returned (.int k a) = .returned (.int k b) := by rw [h]

theorem idx_step (p : ByteArray) (k : Nat) (h : k < p.size) (hc : ((p[k].toNat : Int) == 93) = false) : G.idx 93 (p.data.toList.drop k) = (G.idx 93 (p.data.toList.drop (k + 1))).map (· + 1) := by
  rw [drop_ba p k h, G.idx, if_neg]
  rw [← u8_beq _ 93 93 rfl]; simpa using hc
theorem idx_hit (p : ByteArray) (k : Nat) (h : k < p.size) (hc : ((p[k].toNat : Int) == 93) = true) : G.idx 93 (p.data.toList.drop k) = some 0 := by
  rw [drop_ba p k h, G.idx, if_pos]
  rw [← u8_beq _ 93 93 rfl]; exact hc
theorem idx_out (p : ByteArray) (k : Nat) (h : ¬ k < p.size) : G.idx 93 (p.data.toList.drop k) = none := by
  rw [List.drop_of_length_le (by simp; omega)]; rfl

/-- What the loop from place b on comes to. -/
def fromI (b : Nat) (o : Option Nat) : Int := match o with | some k => (b : Int) + k + 1 | none => -1

theorem from_step (p : ByteArray) (k : Nat) (h : k < p.size) (hc : ((p[k].toNat : Int) == 93) = false) : fromI k (G.idx 93 (p.data.toList.drop k)) = fromI (k + 1) (G.idx 93 (p.data.toList.drop (k + 1))) := by
  rw [idx_step p k h hc]
  cases G.idx 93 (p.data.toList.drop (k + 1)) with
  | none => rfl
  | some j => simp only [fromI, Option.map_some]; omega

set_option maxHeartbeats 800000 in
theorem refset_two (p : ByteArray) (w : World) (hs : p.size ≤ 1000000) (h0 : 0 < p.size) (hn : ∀ h : 1 < p.size, ((p[1].toNat : Int) == 33) = false ∧ ((p[1].toNat : Int) == 94) = false) :
    Calls Tryz.prog 36 #[.string p] w fun e w' => e = .returned (.int .i64 (fromI 2 (G.idx 93 (p.data.toList.drop 2)))) ∧ w' = w := by
  by_cases h1 : 1 < p.size
  · have hi1 : (1 : Int) < (p.size : Int) := by omega
    obtain ⟨h3, h4⟩ := hn h1
    clear hn
    go_enter Tryz.func36, Tryz.ntmps36
    go_wp2
    go_loop [4] (fun vk => ∃ k : Nat, 2 ≤ k ∧ k ≤ 1000002 ∧ vk = .int .i64 k ∧ Hid (fromI k (G.idx 93 (p.data.toList.drop k)) = fromI 2 (G.idx 93 (p.data.toList.drop 2)))) (fun vk => p.size - (intOf vk).toNat)
    case atStart => exact ⟨2, by omega, by omega, rfl, rfl⟩
    case round =>
      obtain ⟨k, hk1, hk2, rfl, HR⟩ := hrel
      by_cases hlt : k < p.size
      · have hil : (k : Int) < (p.size : Int) := by omega
        cases hc : ((p[k].toNat : Int) == 93)
        · go_wp2
          go_round
          case rel => exact ⟨k + 1, by omega, by omega, by go_num, (from_step p k hlt hc).symm.trans HR.out⟩
          case measure => simp [intOf]; omega
        · go_wp2
          go_ret
          exact ⟨ret_int (by rw [← HR.out, idx_hit p k hlt hc]; simp [fromI]), rfl⟩
      · go_wp2
        go_ret
        exact ⟨ret_int (by rw [← HR.out, idx_out p k hlt]; rfl), rfl⟩
  · have hi1 : ¬ (1 : Int) < (p.size : Int) := by omega
    clear hn
    go_enter Tryz.func36, Tryz.ntmps36
    go_wp2
    go_loop [4] (fun vk => ∃ k : Nat, 2 ≤ k ∧ k ≤ 1000002 ∧ vk = .int .i64 k ∧ Hid (fromI k (G.idx 93 (p.data.toList.drop k)) = fromI 2 (G.idx 93 (p.data.toList.drop 2)))) (fun vk => p.size - (intOf vk).toNat)
    case atStart => exact ⟨2, by omega, by omega, rfl, rfl⟩
    case round =>
      obtain ⟨k, hk1, hk2, rfl, HR⟩ := hrel
      by_cases hlt : k < p.size
      · have hil : (k : Int) < (p.size : Int) := by omega
        cases hc : ((p[k].toNat : Int) == 93)
        · go_wp2
          go_round
          case rel => exact ⟨k + 1, by omega, by omega, by go_num, (from_step p k hlt hc).symm.trans HR.out⟩
          case measure => simp [intOf]; omega
        · go_wp2
          go_ret
          exact ⟨ret_int (by rw [← HR.out, idx_hit p k hlt hc]; simp [fromI]), rfl⟩
      · go_wp2
        go_ret
        exact ⟨ret_int (by rw [← HR.out, idx_out p k hlt]; rfl), rfl⟩

set_option maxHeartbeats 800000 in
theorem refset_three (p : ByteArray) (w : World) (hs : p.size ≤ 1000000) (h1 : 1 < p.size) (hn : ((p[1].toNat : Int) == 33 || (p[1].toNat : Int) == 94) = true) :
    Calls Tryz.prog 36 #[.string p] w fun e w' => e = .returned (.int .i64 (fromI 3 (G.idx 93 (p.data.toList.drop 3)))) ∧ w' = w := by
  have hi1 : (1 : Int) < (p.size : Int) := by omega
  cases h3 : ((p[1].toNat : Int) == 33)
  all_goals
    have h4 : ((p[1].toNat : Int) == 33 || (p[1].toNat : Int) == 94) = true := hn
    rw [h3] at h4
    simp only [Bool.true_or, Bool.false_or] at h4
    clear hn
    go_enter Tryz.func36, Tryz.ntmps36
    go_wp2
    go_loop [4] (fun vk => ∃ k : Nat, 3 ≤ k ∧ k ≤ 1000002 ∧ vk = .int .i64 k ∧ Hid (fromI k (G.idx 93 (p.data.toList.drop k)) = fromI 3 (G.idx 93 (p.data.toList.drop 3)))) (fun vk => p.size - (intOf vk).toNat)
    case atStart => exact ⟨3, by omega, by omega, rfl, rfl⟩
    case round =>
      obtain ⟨k, hk1, hk2, rfl, HR⟩ := hrel
      by_cases hlt : k < p.size
      · have hil : (k : Int) < (p.size : Int) := by omega
        cases hc : ((p[k].toNat : Int) == 93)
        · go_wp2
          go_round
          case rel => exact ⟨k + 1, by omega, by omega, by go_num, (from_step p k hlt hc).symm.trans HR.out⟩
          case measure => simp [intOf]; omega
        · go_wp2
          go_ret
          exact ⟨ret_int (by rw [← HR.out, idx_hit p k hlt hc]; simp [fromI]), rfl⟩
      · go_wp2
        go_ret
        exact ⟨ret_int (by rw [← HR.out, idx_out p k hlt]; rfl), rfl⟩

theorem refset_any (p : ByteArray) (w : World) (hs : p.size ≤ 1000000) (h0 : 0 < p.size) :
    Calls Tryz.prog 36 #[.string p] w fun e w' => e = .returned (.int .i64 (fromI (1 + (if G.negOf (p.data.toList.drop 1) then 1 else 0) + 1) (G.closeOf (p.data.toList.drop 1)))) ∧ w' = w := by
  have hcl := close_eq p 0
  simp only [Nat.zero_add] at hcl
  rw [hcl]
  by_cases h1 : 1 < p.size
  · have hne := neg_eq p 0 (by omega)
    simp only [Nat.zero_add] at hne
    cases h3 : ((p[1].toNat : Int) == 33 || (p[1].toNat : Int) == 94)
    · rw [h3] at hne
      rw [hne]
      rw [Bool.or_eq_false_iff] at h3
      exact refset_two p w hs h0 (fun _ => h3)
    · rw [h3] at hne
      rw [hne]
      exact refset_three p w hs h1 h3
  · have hne : G.negOf (p.data.toList.drop 1) = false := by rw [List.drop_of_length_le (by simp; omega)]; rfl
    rw [hne]
    exact refset_two p w hs h0 (fun h => absurd h h1)
end Go.Proofs.YtedepknbaakkhaaGreatDoor.GR
