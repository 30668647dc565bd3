/-
  What the document's own in answers: is a byte one of a set (told with its brackets); memory is as it was.
-/
import Derived.Test.YtedepknbaakkhaaGreatDoorMgRefOne
namespace Go.Proofs.YtedepknbaakkhaaGreatDoor.GR
open Go.RowKit

theorem or_ret {x y : Bool} {n : Bool} (h : x = y) : Ending.returned (.bool (!x == n)) = .returned (.bool (y != n)) := by rw [h]; rfl
theorem beq_flip (a b : UInt8) : (a == b) = (b == a) := by rw [Bool.eq_iff_iff, beq_iff_eq, beq_iff_eq]; exact ⟨fun h => h.symm, fun h => h.symm⟩

set_option maxRecDepth 20000 in
set_option maxHeartbeats 1600000 in
theorem refin_plain (q m : ByteArray) (c : UInt8) (w : World) (hq : q.size ≤ 1000000) (h2 : 2 ≤ q.size) (hm : q.extract 1 (q.size - 1) = m) (hn : ∀ h : 0 < m.size, ((m[0].toNat : Int) == 33) = false ∧ ((m[0].toNat : Int) == 94) = false) :
    Calls Tryz.prog 37 #[.string q, .int .u8 c.toNat] w fun e w' => e = .returned (.bool (G.holdsM c m.data.toList != false)) ∧ w' = w := by
  have hms : m.size ≤ 1000000 := by rw [← hm]; simp; omega
  have hI : (2 : Int) ≤ (q.size : Int) := by omega
  have hsl : ∀ W, (Instr.slice 9 (.string q) (some (.int .i64 1)) (some (.int .i64 ((q.size : Int) - 1))) none).run Tryz.prog W = .ok (.string m) W := by
    intro W
    have h := run_slice_string (P := Tryz.prog) W 9 q .i64 .i64 1 ((q.size : Int) - 1) Tryz.underlying9 (by omega) (by omega) (by omega)
    rw [h, ← hm]; congr 3; omega
  clear hm
  by_cases h0 : 0 < m.size
  · have h0I : (0 : Int) < (m.size : Int) := by omega
    obtain ⟨h3, h4⟩ := hn h0
    clear hn
    go_enter Tryz.func37, Tryz.ntmps37
    go_wp2
    go_loop [6, 7] (fun vb vk => ∃ (k : Nat) (b : Bool), k ≤ m.size ∧ vk = .int .i64 k ∧ vb = .bool b ∧ Hid ((b || G.holdsM c (m.data.toList.drop k)) = G.holdsM c m.data.toList)) (fun _ vk => m.size - (intOf vk).toNat)
    case atStart => exact ⟨0, false, by omega, rfl, rfl, by show (false || _) = _; simp⟩
    case round =>
      obtain ⟨k, b, hk, rfl, rfl, HR⟩ := hrel
      by_cases hlt : k < m.size
      · have hil : (k : Int) < (m.size : Int) := by omega
        by_cases hr : k + 2 < m.size
        · have hrl : (k : Int) + 2 < (m.size : Int) := by omega
          cases hd : ((m[k + 1].toNat : Int) == 45)
          · cases b
            · go_wp2
              go_round
              case rel =>
                refine ⟨k + 1, _, by omega, by go_num, rfl, ?_⟩
                show (_ || _) = _
                rw [← HR.out, holds_single_mid m c k hr hd]; simp [beq_int, beq_flip]
              case measure => simp [intOf]; omega
            · go_wp2
              go_round
              case rel =>
                refine ⟨k + 1, true, by omega, by go_num, rfl, ?_⟩
                show (_ || _) = _
                rw [← HR.out]; rfl
              case measure => simp [intOf]; omega
          · cases b
            · by_cases h5 : m[k].toNat ≤ c.toNat
              · go_wp2
                go_round
                case rel =>
                  refine ⟨k + 3, _, by omega, by go_num, rfl, ?_⟩
                  show (_ || _) = _
                  rw [← HR.out, holds_range m c k hr hd]; simp [h5]
                case measure => simp [intOf]; omega
              · go_wp2
                go_round
                case rel =>
                  refine ⟨k + 3, _, by omega, by go_num, rfl, ?_⟩
                  show (_ || _) = _
                  rw [← HR.out, holds_range m c k hr hd]; simp [h5]
                case measure => simp [intOf]; omega
            · go_wp2
              go_round
              case rel =>
                refine ⟨k + 3, true, by omega, by go_num, rfl, ?_⟩
                show (_ || _) = _
                rw [← HR.out]; rfl
              case measure => simp [intOf]; omega
        · have hrl : ¬ (k : Int) + 2 < (m.size : Int) := by omega
          cases b
          · go_wp2
            go_round
            case rel =>
              refine ⟨k + 1, _, by omega, by go_num, rfl, ?_⟩
              show (_ || _) = _
              rw [← HR.out, holds_single_end m c k hlt hr]; simp [beq_int, beq_flip]
            case measure => simp [intOf]; omega
          · go_wp2
            go_round
            case rel =>
              refine ⟨k + 1, true, by omega, by go_num, rfl, ?_⟩
              show (_ || _) = _
              rw [← HR.out]; rfl
            case measure => simp [intOf]; omega
      · go_wp2
        go_ret
        have hb : G.holdsM c m.data.toList = b := by rw [← HR.out, holds_end m c k hlt]; simp
        rw [hb]
        cases b <;> exact ⟨rfl, rfl⟩
  · have h0I : ¬ (0 : Int) < (m.size : Int) := by omega
    clear hn
    go_enter Tryz.func37, Tryz.ntmps37
    go_wp2
    go_loop [6, 7] (fun vb vk => ∃ (k : Nat) (b : Bool), k ≤ m.size ∧ vk = .int .i64 k ∧ vb = .bool b ∧ Hid ((b || G.holdsM c (m.data.toList.drop k)) = G.holdsM c m.data.toList)) (fun _ vk => m.size - (intOf vk).toNat)
    case atStart => exact ⟨0, false, by omega, rfl, rfl, by show (false || _) = _; simp⟩
    case round =>
      obtain ⟨k, b, hk, rfl, rfl, HR⟩ := hrel
      by_cases hlt : k < m.size
      · omega
      · go_wp2
        go_ret
        have hb : G.holdsM c m.data.toList = b := by rw [← HR.out, holds_end m c k hlt]; simp
        rw [hb]
        cases b <;> exact ⟨rfl, rfl⟩

set_option maxRecDepth 20000 in
set_option maxHeartbeats 1600000 in
theorem refin_neg (q m0 m : ByteArray) (c : UInt8) (w : World) (hq : q.size ≤ 1000000) (h2 : 2 ≤ q.size) (hm0 : q.extract 1 (q.size - 1) = m0) (h0 : 0 < m0.size) (hm : m0.extract 1 m0.size = m) (hn : ((m0[0].toNat : Int) == 33 || (m0[0].toNat : Int) == 94) = true) :
    Calls Tryz.prog 37 #[.string q, .int .u8 c.toNat] w fun e w' => e = .returned (.bool (G.holdsM c m.data.toList != true)) ∧ w' = w := by
  have hms0 : m0.size ≤ 1000000 := by rw [← hm0]; simp; omega
  have hms : m.size ≤ 1000000 := by rw [← hm]; simp; omega
  have hI : (2 : Int) ≤ (q.size : Int) := by omega
  have hsl : ∀ W, (Instr.slice 9 (.string q) (some (.int .i64 1)) (some (.int .i64 ((q.size : Int) - 1))) none).run Tryz.prog W = .ok (.string m0) W := by
    intro W
    have h := run_slice_string (P := Tryz.prog) W 9 q .i64 .i64 1 ((q.size : Int) - 1) Tryz.underlying9 (by omega) (by omega) (by omega)
    rw [h, ← hm0]; congr 3; omega
  have hsl2 : ∀ W, (Instr.slice 9 (.string m0) (some (.int .i64 1)) none none).run Tryz.prog W = .ok (.string m) W := by
    intro W
    have h := run_slice_string_l (P := Tryz.prog) W 9 m0 Tryz.underlying9 .i64 1 (by omega) (by omega)
    rw [h, ← hm]; rfl
  have h0I : (0 : Int) < (m0.size : Int) := by omega
  clear hm hm0
  cases h3 : ((m0[0].toNat : Int) == 33)
  all_goals
    have h4 : ((m0[0].toNat : Int) == 33 || (m0[0].toNat : Int) == 94) = true := hn
    rw [h3] at h4
    simp only [Bool.true_or, Bool.false_or] at h4
    clear hn
    go_enter Tryz.func37, Tryz.ntmps37
    go_wp2
    go_loop [6, 7] (fun vb vk => ∃ (k : Nat) (b : Bool), k ≤ m.size ∧ vk = .int .i64 k ∧ vb = .bool b ∧ Hid ((b || G.holdsM c (m.data.toList.drop k)) = G.holdsM c m.data.toList)) (fun _ vk => m.size - (intOf vk).toNat)
    case atStart => exact ⟨0, false, by omega, rfl, rfl, by show (false || _) = _; simp⟩
    case round =>
      obtain ⟨k, b, hk, rfl, rfl, HR⟩ := hrel
      by_cases hlt : k < m.size
      · have hil : (k : Int) < (m.size : Int) := by omega
        by_cases hr : k + 2 < m.size
        · have hrl : (k : Int) + 2 < (m.size : Int) := by omega
          cases hd : ((m[k + 1].toNat : Int) == 45)
          · cases b
            · go_wp2
              go_round
              case rel =>
                refine ⟨k + 1, _, by omega, by go_num, rfl, ?_⟩
                show (_ || _) = _
                rw [← HR.out, holds_single_mid m c k hr hd]; simp [beq_int, beq_flip]
              case measure => simp [intOf]; omega
            · go_wp2
              go_round
              case rel =>
                refine ⟨k + 1, true, by omega, by go_num, rfl, ?_⟩
                show (_ || _) = _
                rw [← HR.out]; rfl
              case measure => simp [intOf]; omega
          · cases b
            · by_cases h5 : m[k].toNat ≤ c.toNat
              · go_wp2
                go_round
                case rel =>
                  refine ⟨k + 3, _, by omega, by go_num, rfl, ?_⟩
                  show (_ || _) = _
                  rw [← HR.out, holds_range m c k hr hd]; simp [h5]
                case measure => simp [intOf]; omega
              · go_wp2
                go_round
                case rel =>
                  refine ⟨k + 3, _, by omega, by go_num, rfl, ?_⟩
                  show (_ || _) = _
                  rw [← HR.out, holds_range m c k hr hd]; simp [h5]
                case measure => simp [intOf]; omega
            · go_wp2
              go_round
              case rel =>
                refine ⟨k + 3, true, by omega, by go_num, rfl, ?_⟩
                show (_ || _) = _
                rw [← HR.out]; rfl
              case measure => simp [intOf]; omega
        · have hrl : ¬ (k : Int) + 2 < (m.size : Int) := by omega
          cases b
          · go_wp2
            go_round
            case rel =>
              refine ⟨k + 1, _, by omega, by go_num, rfl, ?_⟩
              show (_ || _) = _
              rw [← HR.out, holds_single_end m c k hlt hr]; simp [beq_int, beq_flip]
            case measure => simp [intOf]; omega
          · go_wp2
            go_round
            case rel =>
              refine ⟨k + 1, true, by omega, by go_num, rfl, ?_⟩
              show (_ || _) = _
              rw [← HR.out]; rfl
            case measure => simp [intOf]; omega
      · go_wp2
        go_ret
        have hb : G.holdsM c m.data.toList = b := by rw [← HR.out, holds_end m c k hlt]; simp
        rw [hb]
        cases b <;> exact ⟨rfl, rfl⟩
end Go.Proofs.YtedepknbaakkhaaGreatDoor.GR
