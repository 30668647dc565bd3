/-
  MgRefIn MgRefFirst MgPlain2
-/
import Derived.Test.YtpcpcfnmcfjomaaGreatDoorK03
import Derived.Test.YtpcpcfnmcfjomaaGreatDoorK02
namespace Go.Proofs.YtpcpcfnmcfjomaaGreatDoor.GR
open Go.RowKit
theorem beq_flip (a b : UInt8) : (a == b) = (b == a) := by rw [Bool.eq_iff_iff, beq_iff_eq, beq_iff_eq]; exact ⟨fun h => h.symm, fun h => h.symm⟩
set_option maxRecDepth 20000 in
set_option maxHeartbeats 1600000 in
theorem refin_plain (q m : ByteArray) (c : UInt8) (w : World) (hq : q.size ≤ 1000000) (h2 : 2 ≤ q.size) (hm : q.extract 1 (q.size - 1) = m) (hn : ∀ h : 0 < m.size, ((m[0].toNat : Int) == 33) = false ∧ ((m[0].toNat : Int) == 94) = false) :
    Calls Tryz.prog 160 #[.string q, .int .u8 c.toNat] w fun e w' => e = .returned (.bool (G.holdsM c m.data.toList != false)) ∧ w' = w := by
  have hms : m.size ≤ 1000000 := by rw [← hm]; simp; omega
  have hI : (2 : Int) ≤ (q.size : Int) := by omega
  have hsl : ∀ W, (Instr.slice 9 (.string q) (some (.int .i64 1)) (some (.int .i64 ((q.size : Int) - 1))) none).run Tryz.prog W = .ok (.string m) W := by
    intro W
    have h := run_slice_string (P := Tryz.prog) W 9 q .i64 .i64 1 ((q.size : Int) - 1) Tryz.underlying9 (by omega) (by omega) (by omega)
    rw [h, ← hm]; congr 3; omega
  clear hm
  by_cases h0 : 0 < m.size
  · have h0I : (0 : Int) < (m.size : Int) := by omega
    obtain ⟨h3, h4⟩ := hn h0
    clear hn
    go_enter Tryz.func160, Tryz.ntmps160
    go_wp2
    go_loop [6, 7] (fun vb vk => ∃ (k : Nat) (b : Bool), k ≤ m.size ∧ vk = .int .i64 k ∧ vb = .bool b ∧ Hid ((b || G.holdsM c (m.data.toList.drop k)) = G.holdsM c m.data.toList)) (fun _ vk => m.size - (intOf vk).toNat)
    case atStart => exact ⟨0, false, by omega, rfl, rfl, by show (false || _) = _; simp⟩
    case round =>
      obtain ⟨k, b, hk, rfl, rfl, HR⟩ := hrel
      by_cases hlt : k < m.size
      · have hil : (k : Int) < (m.size : Int) := by omega
        by_cases hr : k + 2 < m.size
        · have hrl : (k : Int) + 2 < (m.size : Int) := by omega
          cases hd : ((m[k + 1].toNat : Int) == 45)
          · cases b
            · go_wp2
              go_round
              case rel =>
                refine ⟨k + 1, _, by omega, by go_num, rfl, ?_⟩
                show (_ || _) = _
                rw [← HR.out, holds_single_mid m c k hr hd]; simp [beq_int, beq_flip]
              case measure => simp [intOf]; omega
            · go_wp2
              go_round
              case rel =>
                refine ⟨k + 1, true, by omega, by go_num, rfl, ?_⟩
                show (_ || _) = _
                rw [← HR.out]; rfl
              case measure => simp [intOf]; omega
          · cases b
            · by_cases h5 : m[k].toNat ≤ c.toNat
              · go_wp2
                go_round
                case rel =>
                  refine ⟨k + 3, _, by omega, by go_num, rfl, ?_⟩
                  show (_ || _) = _
                  rw [← HR.out, holds_range m c k hr hd]; simp [h5]
                case measure => simp [intOf]; omega
              · go_wp2
                go_round
                case rel =>
                  refine ⟨k + 3, _, by omega, by go_num, rfl, ?_⟩
                  show (_ || _) = _
                  rw [← HR.out, holds_range m c k hr hd]; simp [h5]
                case measure => simp [intOf]; omega
            · go_wp2
              go_round
              case rel =>
                refine ⟨k + 3, true, by omega, by go_num, rfl, ?_⟩
                show (_ || _) = _
                rw [← HR.out]; rfl
              case measure => simp [intOf]; omega
        · have hrl : ¬ (k : Int) + 2 < (m.size : Int) := by omega
          cases b
          · go_wp2
            go_round
            case rel =>
              refine ⟨k + 1, _, by omega, by go_num, rfl, ?_⟩
              show (_ || _) = _
              rw [← HR.out, holds_single_end m c k hlt hr]; simp [beq_int, beq_flip]
            case measure => simp [intOf]; omega
          · go_wp2
            go_round
            case rel =>
              refine ⟨k + 1, true, by omega, by go_num, rfl, ?_⟩
              show (_ || _) = _
              rw [← HR.out]; rfl
            case measure => simp [intOf]; omega
      · go_wp2
        go_ret
        have hb : G.holdsM c m.data.toList = b := by rw [← HR.out, holds_end m c k hlt]; simp
        rw [hb]
        cases b <;> exact ⟨rfl, rfl⟩
  · have h0I : ¬ (0 : Int) < (m.size : Int) := by omega
    clear hn
    go_enter Tryz.func160, Tryz.ntmps160
    go_wp2
    go_loop [6, 7] (fun vb vk => ∃ (k : Nat) (b : Bool), k ≤ m.size ∧ vk = .int .i64 k ∧ vb = .bool b ∧ Hid ((b || G.holdsM c (m.data.toList.drop k)) = G.holdsM c m.data.toList)) (fun _ vk => m.size - (intOf vk).toNat)
    case atStart => exact ⟨0, false, by omega, rfl, rfl, by show (false || _) = _; simp⟩
    case round =>
      obtain ⟨k, b, hk, rfl, rfl, HR⟩ := hrel
      by_cases hlt : k < m.size
      · omega
      · go_wp2
        go_ret
        have hb : G.holdsM c m.data.toList = b := by rw [← HR.out, holds_end m c k hlt]; simp
        rw [hb]
        cases b <;> exact ⟨rfl, rfl⟩
set_option maxRecDepth 20000 in
set_option maxHeartbeats 1600000 in
theorem refin_neg (q m0 m : ByteArray) (c : UInt8) (w : World) (hq : q.size ≤ 1000000) (h2 : 2 ≤ q.size) (hm0 : q.extract 1 (q.size - 1) = m0) (h0 : 0 < m0.size) (hm : m0.extract 1 m0.size = m) (hn : ((m0[0].toNat : Int) == 33 || (m0[0].toNat : Int) == 94) = true) :
    Calls Tryz.prog 160 #[.string q, .int .u8 c.toNat] w fun e w' => e = .returned (.bool (G.holdsM c m.data.toList != true)) ∧ w' = w := by
  have hms0 : m0.size ≤ 1000000 := by rw [← hm0]; simp; omega
  have hms : m.size ≤ 1000000 := by rw [← hm]; simp; omega
  have hI : (2 : Int) ≤ (q.size : Int) := by omega
  have hsl : ∀ W, (Instr.slice 9 (.string q) (some (.int .i64 1)) (some (.int .i64 ((q.size : Int) - 1))) none).run Tryz.prog W = .ok (.string m0) W := by
    intro W
    have h := run_slice_string (P := Tryz.prog) W 9 q .i64 .i64 1 ((q.size : Int) - 1) Tryz.underlying9 (by omega) (by omega) (by omega)
    rw [h, ← hm0]; congr 3; omega
  have hsl2 : ∀ W, (Instr.slice 9 (.string m0) (some (.int .i64 1)) none none).run Tryz.prog W = .ok (.string m) W := by
    intro W
    have h := run_slice_string_l (P := Tryz.prog) W 9 m0 Tryz.underlying9 .i64 1 (by omega) (by omega)
    rw [h, ← hm]; rfl
  have h0I : (0 : Int) < (m0.size : Int) := by omega
  clear hm hm0
  cases h3 : ((m0[0].toNat : Int) == 33)
  all_goals
    have h4 : ((m0[0].toNat : Int) == 33 || (m0[0].toNat : Int) == 94) = true := hn
    rw [h3] at h4
    simp only [Bool.true_or, Bool.false_or] at h4
    clear hn
    go_enter Tryz.func160, Tryz.ntmps160
    go_wp2
    go_loop [6, 7] (fun vb vk => ∃ (k : Nat) (b : Bool), k ≤ m.size ∧ vk = .int .i64 k ∧ vb = .bool b ∧ Hid ((b || G.holdsM c (m.data.toList.drop k)) = G.holdsM c m.data.toList)) (fun _ vk => m.size - (intOf vk).toNat)
    case atStart => exact ⟨0, false, by omega, rfl, rfl, by show (false || _) = _; simp⟩
    case round =>
      obtain ⟨k, b, hk, rfl, rfl, HR⟩ := hrel
      by_cases hlt : k < m.size
      · have hil : (k : Int) < (m.size : Int) := by omega
        by_cases hr : k + 2 < m.size
        · have hrl : (k : Int) + 2 < (m.size : Int) := by omega
          cases hd : ((m[k + 1].toNat : Int) == 45)
          · cases b
            · go_wp2
              go_round
              case rel =>
                refine ⟨k + 1, _, by omega, by go_num, rfl, ?_⟩
                show (_ || _) = _
                rw [← HR.out, holds_single_mid m c k hr hd]; simp [beq_int, beq_flip]
              case measure => simp [intOf]; omega
            · go_wp2
              go_round
              case rel =>
                refine ⟨k + 1, true, by omega, by go_num, rfl, ?_⟩
                show (_ || _) = _
                rw [← HR.out]; rfl
              case measure => simp [intOf]; omega
          · cases b
            · by_cases h5 : m[k].toNat ≤ c.toNat
              · go_wp2
                go_round
                case rel =>
                  refine ⟨k + 3, _, by omega, by go_num, rfl, ?_⟩
                  show (_ || _) = _
                  rw [← HR.out, holds_range m c k hr hd]; simp [h5]
                case measure => simp [intOf]; omega
              · go_wp2
                go_round
                case rel =>
                  refine ⟨k + 3, _, by omega, by go_num, rfl, ?_⟩
                  show (_ || _) = _
                  rw [← HR.out, holds_range m c k hr hd]; simp [h5]
                case measure => simp [intOf]; omega
            · go_wp2
              go_round
              case rel =>
                refine ⟨k + 3, true, by omega, by go_num, rfl, ?_⟩
                show (_ || _) = _
                rw [← HR.out]; rfl
              case measure => simp [intOf]; omega
        · have hrl : ¬ (k : Int) + 2 < (m.size : Int) := by omega
          cases b
          · go_wp2
            go_round
            case rel =>
              refine ⟨k + 1, _, by omega, by go_num, rfl, ?_⟩
              show (_ || _) = _
              rw [← HR.out, holds_single_end m c k hlt hr]; simp [beq_int, beq_flip]
            case measure => simp [intOf]; omega
          · go_wp2
            go_round
            case rel =>
              refine ⟨k + 1, true, by omega, by go_num, rfl, ?_⟩
              show (_ || _) = _
              rw [← HR.out]; rfl
            case measure => simp [intOf]; omega
      · go_wp2
        go_ret
        have hb : G.holdsM c m.data.toList = b := by rw [← HR.out, holds_end m c k hlt]; simp
        rw [hb]
        cases b <;> exact ⟨rfl, rfl⟩
end Go.Proofs.YtpcpcfnmcfjomaaGreatDoor.GR
namespace Go.Proofs.YtpcpcfnmcfjomaaGreatDoor.GR
open Go.RowKit
theorem get_ba (m : ByteArray) (i : Nat) (h : i < m.size) (l : List UInt8) (hl : m.data.toList = l) (h2 : i < l.length) : m[i] = l[i] := by
  subst hl; rfl
theorem refin_any (p : ByteArray) (k : Nat) (c : UInt8) (w : World) (hp : p.size ≤ 1000000) (hc : G.closeOf (p.data.toList.drop 1) = some k) :
    Calls Tryz.prog 160 #[.string (p.extract 0 ((if G.negOf (p.data.toList.drop 1) then 1 else 0) + k + 3)), .int .u8 c.toNat] w fun e w' =>
      e = .returned (.bool (G.holdsM c ((G.memOf (p.data.toList.drop 1)).take (k + 1)) != G.negOf (p.data.toList.drop 1))) ∧ w' = w := by
  have hcl : G.closeOf (p.data.toList.drop (0 + 1)) = some k := hc
  rw [close_eq p 0] at hcl
  have hlt := idx_lt _ _ _ hcl
  simp only [Nat.zero_add, List.length_drop, Array.length_toList] at hlt
  have hps : p.data.size = p.size := rfl
  rw [hps] at hlt
  have h1 : 1 < p.size := by omega
  have hne := neg_eq p 0 (by omega)
  simp only [Nat.zero_add] at hne
  cases hn : ((p[1].toNat : Int) == 33 || (p[1].toNat : Int) == 94)
  · rw [hn] at hne
    rw [hne] at hlt ⊢
    simp only [Bool.false_eq_true, if_false, Nat.zero_add] at hlt ⊢
    obtain ⟨q, hq⟩ : ∃ q, p.extract 0 (k + 3) = q := ⟨_, rfl⟩
    have hqd : q.data.toList = p.data.toList.take (k + 3) := by rw [← hq, Lib.extract_data]; simp
    have hqs : q.size = k + 3 := by rw [← hq]; simp; omega
    obtain ⟨m, hm⟩ : ∃ m, q.extract 1 (q.size - 1) = m := ⟨_, rfl⟩
    have hmd : m.data.toList = (p.data.toList.drop 1).take (k + 1) := by
      rw [← hm, Lib.extract_data, hqd, hqs, List.drop_take, List.take_take, show min (k + 3 - 1 - 1) (k + 3 - 1) = k + 1 by omega]
    have hms : m.size = k + 1 := by rw [← hm]; simp; omega
    have hmem : (G.memOf (p.data.toList.drop 1)).take (k + 1) = m.data.toList := by unfold G.memOf; rw [hne, hmd]; rfl
    rw [hmem, hq]
    rw [Bool.or_eq_false_iff] at hn
    refine refin_plain q m c w (by omega) (by omega) hm (fun h => ?_)
    have e : m[0] = p[1] := by
      rw [get_ba m 0 h _ hmd (by simp; omega), List.getElem_take, List.getElem_drop]; rfl
    rw [e]; exact hn
  · rw [hn] at hne
    rw [hne] at hlt ⊢
    simp only [if_true] at hlt ⊢
    obtain ⟨q, hq⟩ : ∃ q, p.extract 0 (1 + k + 3) = q := ⟨_, rfl⟩
    have hqd : q.data.toList = p.data.toList.take (k + 4) := by rw [← hq, Lib.extract_data, show 1 + k + 3 - 0 = k + 4 by omega]; simp
    have hqs : q.size = k + 4 := by rw [← hq]; simp; omega
    obtain ⟨m0, hm0⟩ : ∃ m, q.extract 1 (q.size - 1) = m := ⟨_, rfl⟩
    have hmd : m0.data.toList = (p.data.toList.drop 1).take (k + 2) := by
      rw [← hm0, Lib.extract_data, hqd, hqs, List.drop_take, List.take_take, show min (k + 4 - 1 - 1) (k + 4 - 1) = k + 2 by omega]
    have hms : m0.size = k + 2 := by rw [← hm0]; simp; omega
    obtain ⟨m, hm⟩ : ∃ m, m0.extract 1 m0.size = m := ⟨_, rfl⟩
    have hmem : (G.memOf (p.data.toList.drop 1)).take (k + 1) = m.data.toList := by
      rw [← hm, Lib.extract_data, hmd, hms, List.drop_take, List.take_take, show min (k + 2 - 1) (k + 2 - 1) = k + 1 by omega]
      unfold G.memOf; rw [hne]; rfl
    rw [hmem, hq]
    refine refin_neg q m0 m c w (by omega) (by omega) hm0 (by omega) hm ?_
    have e : m0[0] = p[1] := by
      rw [get_ba m0 0 (by omega) _ hmd (by simp; omega), List.getElem_take, List.getElem_drop]; rfl
    rw [e]; exact hn
def firstV (p : ByteArray) (c : UInt8) : Value := .tuple #[.int .i64 ((G.headN p.data.toList : Nat) : Int), .bool (G.headF p.data.toList c)]
theorem first_ret (p : ByteArray) (c : UInt8) (x : Int) (b : Bool) (h1 : x = ((G.headN p.data.toList : Nat) : Int)) (h2 : b = G.headF p.data.toList c) : Ending.returned (.tuple #[.int .i64 x, .bool b]) = .returned (firstV p c) := by
  unfold firstV; rw [h1, h2]
set_option maxRecDepth 20000 in
set_option maxHeartbeats 800000 in
theorem first_any (p : ByteArray) (c : UInt8) (w : World) (hs : p.size ≤ 1000000) (h0 : 0 < p.size) :
    Calls Tryz.prog 117 #[.string p, .int .u8 c.toNat] w fun e w' => e = .returned (firstV p c) ∧ ∃ n, w' = w.drewN n := by
  have hi : (0 : Int) < (p.size : Int) := by omega
  have hd0 : p.data.toList.drop 0 = p.data.toList := List.drop_zero
  cases h1 : ((p[0].toNat : Int) == 63)
  · cases h2 : ((p[0].toNat : Int) == 92)
    · cases h3 : ((p[0].toNat : Int) == 91)
      · have HF : Hid (G.headN p.data.toList = 1 ∧ G.headF p.data.toList c = (p[0] == c)) := by have h := head_plain p 0 c h0 h1 h2 h3; rw [hd0] at h; exact h
        clear hd0
        go_enter Tryz.func117, Tryz.ntmps117
        go_wp2
        go_quiet (fail)
        go_wp2
        go_ret2
        exact ⟨first_ret _ _ _ _ (by rw [HF.out.1]; rfl) (by rw [HF.out.2]; exact beq_int _ _), _, rfl⟩
      · cases hc : G.closeOf (p.data.toList.drop 1) with
        | none =>
          have HF : Hid (G.headN p.data.toList = 1 ∧ G.headF p.data.toList c = (p[0] == c)) := by have h := head_set_none p 0 c h0 h3 (by simpa using hc); rw [hd0] at h; exact h
          have HS : Hid (∀ W, Calls Tryz.prog 159 #[.string p] W fun e w' => e = .returned (.int .i64 (-1)) ∧ w' = W) := by
            intro W
            have h := refset_any p W hs h0
            rw [hc] at h; exact h
          clear hd0 hc
          go_enter Tryz.func117, Tryz.ntmps117
          go_wp2_with (go_at_call 159; refine (HS.out _).mono ?_; rintro e w' ⟨rfl, rfl⟩)
          go_quiet (fail)
          go_wp2
          go_ret2
          exact ⟨first_ret _ _ _ _ (by rw [HF.out.1]; rfl) (by rw [HF.out.2]; exact beq_int _ _), _, rfl⟩
        | some k =>
          obtain ⟨n, hn⟩ : ∃ n : Nat, n = (if G.negOf (p.data.toList.drop 1) then 1 else 0) + k + 3 := ⟨_, rfl⟩
          obtain ⟨b, hb⟩ : ∃ b : Bool, b = (G.holdsM c ((G.memOf (p.data.toList.drop 1)).take (k + 1)) != G.negOf (p.data.toList.drop 1)) := ⟨_, rfl⟩
          have HF : Hid (G.headN p.data.toList = n ∧ G.headF p.data.toList c = b) := by
            have h := head_set p 0 c h0 k h3 (by simpa using hc); rw [hd0, Nat.zero_add, ← hn, ← hb] at h; exact h
          have HS : Hid (∀ W, Calls Tryz.prog 159 #[.string p] W fun e w' => e = .returned (.int .i64 n) ∧ w' = W) := by
            intro W
            have h := refset_any p W hs h0
            rw [hc] at h
            refine h.mono ?_
            rintro e w' ⟨rfl, rfl⟩
            refine ⟨ret_int ?_, rfl⟩
            simp only [fromI]; rw [hn]; split <;> simp <;> omega
          have HI : Hid (∀ W, Calls Tryz.prog 160 #[.string (p.extract 0 n), .int .u8 c.toNat] W fun e w' => e = .returned (.bool b) ∧ w' = W) := by
            intro W
            rw [hn, hb]; exact refin_any p k c W hs hc
          have hlt := headN_fits p 0 h0
          rw [hd0, HF.out.1] at hlt
          have hnp : 0 < n := by omega
          have hnl : (n : Int) ≤ (p.size : Int) := by omega
          clear hd0 hc hn hb
          go_enter Tryz.func117, Tryz.ntmps117
          go_wp2_with (first | (go_at_call 159; refine (HS.out _).mono ?_; rintro e w' ⟨rfl, rfl⟩) | (go_at_call 160; refine (HI.out _).mono ?_; rintro e w' ⟨rfl, rfl⟩))
          go_ret2
          exact ⟨first_ret _ _ _ _ (by rw [HF.out.1]) (by rw [HF.out.2]), 0, rfl⟩
    · by_cases h3 : 1 < p.size
      · have h3I : (1 : Int) < (p.size : Int) := by omega
        have HF : Hid (G.headN p.data.toList = 2 ∧ G.headF p.data.toList c = (p[1] == c)) := by have h := head_bs p 0 c h0 h2 (by omega); rw [hd0] at h; exact h
        clear hd0
        go_enter Tryz.func117, Tryz.ntmps117
        go_wp2
        go_quiet (fail)
        go_wp2
        go_ret2
        exact ⟨first_ret _ _ _ _ (by rw [HF.out.1]; rfl) (by rw [HF.out.2]; exact beq_int _ _), _, rfl⟩
      · have h3I : ¬ (1 : Int) < (p.size : Int) := by omega
        have HF : Hid (G.headN p.data.toList = 1 ∧ G.headF p.data.toList c = (p[0] == c)) := by have h := head_bs_end p 0 c h0 h2 (by omega); rw [hd0] at h; exact h
        clear hd0
        go_enter Tryz.func117, Tryz.ntmps117
        go_wp2
        go_quiet (fail)
        go_wp2
        go_ret2
        exact ⟨first_ret _ _ _ _ (by rw [HF.out.1]; rfl) (by rw [HF.out.2]; exact beq_int _ _), _, rfl⟩
  · have HF : Hid (G.headN p.data.toList = 1 ∧ G.headF p.data.toList c = true) := by have h := head_any p 0 c h0 h1; rw [hd0] at h; exact h
    clear hd0
    go_enter Tryz.func117, Tryz.ntmps117
    go_wp2
    go_ret2
    exact ⟨first_ret _ _ _ _ (by rw [HF.out.1]; rfl) (by rw [HF.out.2]), 0, rfl⟩
end Go.Proofs.YtpcpcfnmcfjomaaGreatDoor.GR
namespace Go.Proofs.YtpcpcfnmcfjomaaGreatDoor.G
def DP (at1 : List Bool) (ts : List (Option (UInt8 → Bool))) (s : List UInt8) : Prop := ∃ i, i ≤ s.length ∧ at1[i]? = some true ∧ mt ts (s.drop i) = true
def fillTo (t : List Bool) (i : Nat) : List Bool := t.take i ++ List.replicate (t.length - i) false
theorem fillTo_length (t : List Bool) (i : Nat) (h : i ≤ t.length) : (fillTo t i).length = t.length := by
  unfold fillTo; simp; omega
theorem fillTo_all (t : List Bool) : fillTo t t.length = t := by unfold fillTo; simp
theorem fillTo_zero (t : List Bool) : fillTo t 0 = List.replicate t.length false := by unfold fillTo; simp
theorem fillTo_one (t : List Bool) (h0 : t[0]? = some false) : fillTo t 1 = List.replicate t.length false := by
  cases t with
  | nil => simp at h0
  | cons b r =>
    simp at h0; subst h0
    unfold fillTo; simp [List.replicate_succ]
theorem fillTo_set (t : List Bool) (i : Nat) (h : i < t.length) : (fillTo t i).set i t[i] = fillTo t (i + 1) := by
  unfold fillTo
  rw [List.set_append_right _ _ (by simp; omega)]
  have e : i - (t.take i).length = 0 := by simp; omega
  rw [e]
  obtain ⟨m, hm⟩ : ∃ m, t.length - i = m + 1 := ⟨t.length - i - 1, by omega⟩
  rw [hm, show t.length - (i + 1) = m by omega, List.replicate_succ, List.set_cons_zero, List.take_succ_eq_append_getElem h, List.append_assoc]; rfl
def anyTo (a : List Bool) (i : Nat) : Bool := (a.take i).any id
theorem anyTo_succ (a : List Bool) (i : Nat) (h : i < a.length) : anyTo a (i + 1) = (anyTo a i || a[i]) := by
  unfold anyTo; rw [List.take_succ_eq_append_getElem h, List.any_append]; simp only [List.any_cons, List.any_nil, Bool.or_false, id]
theorem anyTo_iff (a : List Bool) (i : Nat) : anyTo a i = true ↔ ∃ j, j < i ∧ a[j]? = some true := by
  unfold anyTo
  rw [List.any_eq_true]
  constructor
  · rintro ⟨x, hx, ht⟩
    obtain ⟨j, hj, rfl⟩ := List.getElem_of_mem hx
    simp at hj
    refine ⟨j, by omega, ?_⟩
    rw [List.getElem_take] at ht
    rw [List.getElem?_eq_getElem (by omega)]; simpa using ht
  · rintro ⟨j, hj, ht⟩
    have hl : j < a.length := by
      rw [List.getElem?_eq_some_iff] at ht; exact ht.1
    refine ⟨true, ?_, rfl⟩
    have : (a.take i)[j]? = some true := by rw [List.getElem?_take_of_lt hj]; exact ht
    exact List.mem_of_getElem? this
def starRow (a : List Bool) : List Bool := (List.range a.length).map fun i => anyTo a (i + 1)
theorem starRow_length (a : List Bool) : (starRow a).length = a.length := by simp [starRow]
theorem starRow_get (a : List Bool) (i : Nat) (h : i < a.length) : (starRow a)[i]'(by simpa [starRow] using h) = anyTo a (i + 1) := by simp [starRow]
def oneRow (a : List Bool) (f : UInt8 → Bool) (s : List UInt8) : List Bool := false :: (List.range s.length).map fun i => a.getD i false && f (s.getD i 0)
theorem oneRow_length (a : List Bool) (f : UInt8 → Bool) (s : List UInt8) : (oneRow a f s).length = s.length + 1 := by simp [oneRow]
theorem oneRow_get (a : List Bool) (f : UInt8 → Bool) (s : List UInt8) (i : Nat) (h : i < s.length) (ha : i < a.length) : (oneRow a f s)[i + 1]'(by rw [oneRow_length]; omega) = (a[i] && f s[i]) := by
  simp [oneRow, h, ha]
theorem dp_star (a : List Bool) (ts : List (Option (UInt8 → Bool))) (s : List UInt8) (hl : a.length = s.length + 1) : DP (starRow a) ts s ↔ DP a (none :: ts) s := by
  constructor
  · rintro ⟨i, hi, h1, h2⟩
    rw [List.getElem?_eq_getElem (by rw [starRow_length]; omega), starRow_get _ _ (by omega)] at h1
    simp only [Option.some.injEq] at h1
    rw [anyTo_iff] at h1
    obtain ⟨j, hj, hj2⟩ := h1
    refine ⟨j, by omega, hj2, ?_⟩
    show starM (mt ts) (s.drop j) = true
    rw [starM_iff]
    refine ⟨i - j, by simp; omega, ?_⟩
    rw [List.drop_drop, show j + (i - j) = i by omega]; exact h2
  · rintro ⟨j, hj, h1, h2⟩
    have h3 : starM (mt ts) (s.drop j) = true := h2
    rw [starM_iff] at h3
    obtain ⟨k, hk, h4⟩ := h3
    simp at hk
    refine ⟨j + k, by omega, ?_, by rw [List.drop_drop] at h4; exact h4⟩
    rw [List.getElem?_eq_getElem (by rw [starRow_length]; omega), starRow_get _ _ (by omega)]
    simp only [Option.some.injEq]
    rw [anyTo_iff]
    exact ⟨j, by omega, h1⟩
theorem dp_one (a : List Bool) (f : UInt8 → Bool) (ts : List (Option (UInt8 → Bool))) (s : List UInt8) (hl : a.length = s.length + 1) : DP (oneRow a f s) ts s ↔ DP a (some f :: ts) s := by
  constructor
  · rintro ⟨i, hi, h1, h2⟩
    cases i with
    | zero => simp [oneRow] at h1
    | succ i =>
      rw [List.getElem?_eq_getElem (by rw [oneRow_length]; omega), oneRow_get _ _ _ _ (by omega) (by omega)] at h1
      simp only [Option.some.injEq, Bool.and_eq_true] at h1
      refine ⟨i, by omega, by rw [List.getElem?_eq_getElem (by omega), h1.1], ?_⟩
      rw [drop_cons s i (by omega)]
      simp only [mt, Bool.and_eq_true]
      exact ⟨h1.2, h2⟩
  · rintro ⟨i, hi, h1, h2⟩
    by_cases hlt : i < s.length
    · rw [drop_cons s i hlt] at h2
      simp only [mt, Bool.and_eq_true] at h2
      rw [List.getElem?_eq_getElem (by omega)] at h1
      simp only [Option.some.injEq] at h1
      refine ⟨i + 1, by omega, ?_, h2.2⟩
      rw [List.getElem?_eq_getElem (by rw [oneRow_length]; omega), oneRow_get _ _ _ _ hlt (by omega), h1, h2.1]; rfl
    · rw [List.drop_of_length_le (by omega)] at h2; simp [mt] at h2
theorem dp_start (ts : List (Option (UInt8 → Bool))) (s : List UInt8) : DP (true :: List.replicate s.length false) ts s ↔ mt ts s = true := by
  constructor
  · rintro ⟨i, hi, h1, h2⟩
    cases i with
    | zero => simpa using h2
    | succ i =>
      simp only [List.getElem?_cons_succ] at h1
      rw [List.getElem?_replicate] at h1
      split at h1 <;> simp at h1
  · intro h; exact ⟨0, by omega, by simp, by simpa using h⟩
theorem dp_end (a : List Bool) (s : List UInt8) (hl : a.length = s.length + 1) : DP a [] s ↔ a[s.length]'(by omega) = true := by
  constructor
  · rintro ⟨i, hi, h1, h2⟩
    have : i = s.length := by
      simp [mt] at h2; omega
    subst this
    rw [List.getElem?_eq_getElem (by omega)] at h1
    simpa using h1
  · intro h
    exact ⟨s.length, by omega, by rw [List.getElem?_eq_getElem (by omega), h], by simp [mt]⟩
end Go.Proofs.YtpcpcfnmcfjomaaGreatDoor.G
