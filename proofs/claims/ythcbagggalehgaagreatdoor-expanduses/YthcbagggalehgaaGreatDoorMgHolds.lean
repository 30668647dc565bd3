/-
  What the program's search through a set's members answers: just the plain one's answer; memory is as it was.
-/
import Derived.Test.YthcbagggalehgaaGreatDoorProg
import Derived.Test.YthcbagggalehgaaGreatDoorMgPlain
import Derived.WalkKit
import Derived.WalkSpells
import Derived.WalkLawsBesides
import Derived.Deep.QuietTactic
import Derived.BigQuiet
namespace Go.Proofs.YthcbagggalehgaaGreatDoor
open Go.RowKit

theorem ret_bool {a b : Bool} (h : a = b) : Ending.returned (.bool a) = .returned (.bool b) := by rw [h]
theorem drop_ba (m : ByteArray) (k : Nat) (h : k < m.size) : m.data.toList.drop k = m[k] :: m.data.toList.drop (k + 1) :=
  List.drop_eq_getElem_cons (by simpa using h)
theorem u8_eq_iff (a b : UInt8) : a = b ↔ a.toNat = b.toNat := ⟨fun h => by rw [h], UInt8.toNat_inj.mp⟩
theorem u8_beq (a b : UInt8) (n : Nat) (hn : b.toNat = n) : ((a.toNat : Int) == (n : Int)) = (a == b) := by
  rw [Bool.eq_iff_iff]; simp only [beq_iff_eq]; rw [u8_eq_iff]; omega

theorem holds_range (m : ByteArray) (c : UInt8) (k : Nat) (h : k + 2 < m.size) (hd : ((m[k + 1].toNat : Int) == 45) = true) :
    G.holdsM c (m.data.toList.drop k) = ((decide (m[k].toNat ≤ c.toNat) && decide (c.toNat ≤ m[k + 2].toNat)) || G.holdsM c (m.data.toList.drop (k + 3))) := by
  have hd' : (m[k + 1] == 45) = true := by rw [← u8_beq _ 45 45 rfl]; exact hd
  rw [drop_ba m k (by omega), drop_ba m (k + 1) (by omega), drop_ba m (k + 2) (by omega), G.holdsM, if_pos hd']
  rfl
theorem holds_single_mid (m : ByteArray) (c : UInt8) (k : Nat) (h : k + 2 < m.size) (hd : ((m[k + 1].toNat : Int) == 45) = false) :
    G.holdsM c (m.data.toList.drop k) = (m[k] == c || G.holdsM c (m.data.toList.drop (k + 1))) := by
  have hd' : (m[k + 1] == 45) = false := by rw [← u8_beq _ 45 45 rfl]; exact hd
  rw [drop_ba m k (by omega), drop_ba m (k + 1) (by omega), drop_ba m (k + 2) (by omega), G.holdsM, if_neg (by simp [hd'])]
theorem holds_single_end (m : ByteArray) (c : UInt8) (k : Nat) (h0 : k < m.size) (h : ¬ k + 2 < m.size) :
    G.holdsM c (m.data.toList.drop k) = (m[k] == c || G.holdsM c (m.data.toList.drop (k + 1))) := by
  rw [drop_ba m k h0]
  by_cases h1 : k + 1 < m.size
  · rw [drop_ba m (k + 1) h1, List.drop_of_length_le (i := k + 1 + 1) (by simp; omega)]; simp [G.holdsM]
  · rw [List.drop_of_length_le (i := k + 1) (by simp; omega)]; simp [G.holdsM]
theorem holds_end (m : ByteArray) (c : UInt8) (k : Nat) (h : ¬ k < m.size) : G.holdsM c (m.data.toList.drop k) = false := by
  rw [List.drop_of_length_le (by simp; omega)]; rfl
theorem beq_tt {a b : UInt8} (h1 : a.toNat ≤ b.toNat) (h2 : b.toNat ≤ a.toNat) : (a == b) = true := by
  rw [beq_iff_eq, u8_eq_iff]; omega
theorem beq_ff {a b : UInt8} (h : ¬ (a.toNat ≤ b.toNat ∧ b.toNat ≤ a.toNat)) : (a == b) = false := by
  rw [← Bool.not_eq_true, beq_iff_eq, u8_eq_iff]; omega

set_option maxHeartbeats 400000 in
theorem holds_any (m : ByteArray) (c : UInt8) (w : World) (hs : m.size ≤ 1000000) :
    Calls Tryz.prog 221 #[.string m, .int .u8 c.toNat] w fun e w' => e = .returned (.bool (G.holdsM c m.data.toList)) ∧ ∃ n, w' = w.drewN n := by

  go_enter Tryz.func221, Tryz.ntmps221
  go_wp2
  go_loopw [5] (fun i wr => ∃ k n : Nat, k ≤ m.size ∧ i = .int .i64 k ∧ wr = w.drewN n ∧ Hid (G.holdsM c (m.data.toList.drop k) = G.holdsM c m.data.toList)) (fun i _ => m.size - (intOf i).toNat)
  case atStart => exact ⟨0, 0, Nat.zero_le _, rfl, rfl, rfl⟩
  case round =>
    obtain ⟨k, n, hk, rfl, rfl, HR⟩ := hrel
    by_cases hlt : k < m.size
    · have hi : (k : Int) < (m.size : Int) := by omega
      go_wp2
      go_quiet (fail)
      by_cases h2 : k + 2 < m.size
      · go_wp2
        all_goals first
          | (go_ret; refine ⟨ret_bool ?_, _, rfl⟩; rw [← HR.out, holds_range m c k h2 ‹_›]; simp [*]; done)
          | (go_ret; refine ⟨ret_bool ?_, _, rfl⟩; rw [← HR.out, holds_single_mid m c k h2 ‹_›, beq_tt ‹_› ‹_›]; rfl)
          | (go_roundw
             case rel =>
               refine ⟨k + 3, _, by omega, by go_num, rfl, ?_⟩
               show _ = _
               rw [← HR.out, holds_range m c k h2 ‹_›]; simp [*]; done
             case measure => simp [intOf]; omega)
          | (go_roundw
             case rel =>
               refine ⟨k + 1, _, by omega, by go_num, rfl, ?_⟩
               show _ = _
               rw [← HR.out, holds_single_mid m c k h2 ‹_›, beq_ff (by omega)]; rfl
             case measure => simp [intOf]; omega)
      · go_wp2
        all_goals first
          | (go_ret; refine ⟨ret_bool ?_, _, rfl⟩; rw [← HR.out, holds_single_end m c k hlt h2, beq_tt ‹_› ‹_›]; rfl)
          | (go_roundw
             case rel =>
               refine ⟨k + 1, _, by omega, by go_num, rfl, ?_⟩
               show _ = _
               rw [← HR.out, holds_single_end m c k hlt h2, beq_ff (by omega)]; rfl
             case measure => simp [intOf]; omega)
    · go_wp2
      go_ret
      exact ⟨ret_bool (by rw [← HR.out, holds_end m c k hlt]), _, rfl⟩
end Go.Proofs.YthcbagggalehgaaGreatDoor
