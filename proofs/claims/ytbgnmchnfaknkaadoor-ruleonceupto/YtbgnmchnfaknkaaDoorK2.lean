/-
  What the document's Fields answers.
-/
import Derived.Test.YtbgnmchnfaknkaaDoorK1
namespace Go.Proofs.YtbgnmchnfaknkaaDoor.WD
open Go.RowKit Go.Shelf

theorem isB_iff (c : UInt8) : K.isB c = true ↔ c.toNat = 32 ∨ c.toNat = 9 := by
  have e1 : c = 32 ↔ c.toNat = 32 := u8_eq_iff c 32
  have e2 : c = 9 ↔ c.toNat = 9 := u8_eq_iff c 9
  unfold K.isB
  simp only [Bool.or_eq_true, beq_iff_eq, e1, e2]
set_option maxHeartbeats 400000 in
theorem rblank_any (c : UInt8) (w : World) :
    Calls Tryd.prog 44 #[.int .u8 c.toNat] w fun e w' => e = .returned (.bool (K.isB c)) ∧ w = w' := by
  have HI : Hid (K.isB c = true ↔ c.toNat = 32 ∨ c.toNat = 9) := isB_iff c
  go_enter Tryd.func44, Tryd.ntmps44
  go_wp2
  all_goals go_ret
  all_goals refine ⟨ret_bool ?_, rfl⟩
  all_goals (rw [Bool.eq_iff_iff, HI.out]; simp; omega)


set_option maxRecDepth 20000 in
set_option maxHeartbeats 2000000 in
theorem rfields_any (s : ByteArray) (w1 : World) (hs : s.size ≤ 4000000) :
    Calls Tryd.prog 22 #[.string s] w1 fun e w' => ∃ v, e = .returned v ∧ Words w'.heap.size w' v (flds s) ∧ Below w1.heap.size w1 w' := by
  obtain ⟨i0, hi, hz0, hz1, hz2⟩ := info_of infoS
  have HBl : Hid (∀ (c : UInt8) W, Calls Tryd.prog 44 #[.int .u8 c.toNat] W fun e w' => e = .returned (.bool (K.isB c)) ∧ W = w') := fun c W => rblank_any c W
  have HFl : Hid ((pcs K.stU K.fU () s).length ≤ s.size) := flds_len s
  obtain ⟨wr0, hwr0⟩ : ∃ ws, ws = flds s := ⟨_, rfl⟩
  rw [← hwr0]
  have HE0 : Hid (wr0 = pcs K.stU K.fU () s) := hwr0
  clear hwr0
  go_enter Tryd.func22, Tryd.ntmps22
  go_wp2
  go_loopw [3, 4, 5] (fun v vf vi wr => ∃ (k : Nat) (ws : List ByteArray), vi = .int .i64 k ∧ wr.ownsRow w1.heap.size 9 1 v ws.length (ws.map Value.string) ∧ Below w1.heap.size w1 wr ∧
      ((k = s.size + 1 ∧ vf = .int .i64 (-1) ∧ Hid (pcs K.stU K.fU () s = ws)) ∨ (k ≤ s.size ∧ ∃ (bg : Nat) (x : Unit), bg ≤ k ∧ vf = .int .i64 (if bg = k then -1 else (bg : Int)) ∧ Hid (At K.stU K.fU () s k bg x ws))))
    (fun _ _ vi _ => s.size + 1 - (intOf vi).toNat)
  case atStart => exact ⟨0, [], rfl, World.ownsRow_nil _ _ _ _, Below.refl _ _, .inr ⟨Nat.zero_le _, 0, (), Nat.le_refl _, rfl, At.start s⟩⟩
  case round =>
    obtain ⟨k, ws, rfl, hown, hb, ⟨rfl, rfl, HD⟩ | ⟨hk, bg, x, hbg, rfl, HA⟩⟩ := hrel
    · have hnl : ¬ ((s.size : Int) + 1 ≤ (s.size : Int)) := by omega
      have HW : Hid (Words wr.heap.size wr u3 ws) := words_of_owns hown (Nat.le_refl _)
      have HE : Hid (wr0 = ws) := HE0.out.trans HD.out
      clear hown
      go_wp2
      go_ret
      rw [HE.out]
      exact ⟨_, rfl, HW.out, hb⟩
    · have hbs := hb.size
      have hil : (k : Int) ≤ (s.size : Int) := by omega
      have hwl : ws.length ≤ s.size := Nat.le_trans (HA.out.pre.length_le) HFl.out
      obtain ⟨m, hm⟩ : ∃ m, m = ws.length := ⟨_, rfl⟩
      rw [← hm] at hown hwl
      have HM : Hid (m = ws.length) := hm
      clear hm
      by_cases hlt : k < s.size
      · have hll : (k : Int) < (s.size : Int) := by omega
        have HSt : Hid (x = x) := rfl
        have HBk := HBl.out s[k]
        have HBf : Hid (K.isB s[k] = K.fU x s[k]) := rfl
        cases hf : K.fU x s[k] with
        | false =>
          have HA1 : Hid (At K.stU K.fU () s (k + 1) bg (K.stU x s[k]) ws) := HA.out.on hlt hbg hf
          rw [HBf.out, hf] at HBk
          have HB2 : Hid (∀ W, Calls Tryd.prog 44 #[.int .u8 s[k].toNat] W fun e w' => e = .returned (.bool false) ∧ W = w') := HBk
          clear hf HBk HBf
          by_cases hbk : bg = k
          · subst hbk
            rw [if_pos rfl]
            go_wp2_with (go_at_call 44; refine (HB2.out _).mono ?_; rintro e w' ⟨rfl, rfl⟩)
            go_roundw
            case rel => exact ⟨bg + 1, ws, by go_num, by rw [← HM.out]; exact hown, hb, .inr ⟨by omega, bg, _, by omega, by rw [if_neg (by omega)], HA1⟩⟩
            case measure => simp [intOf]; omega
          · rw [if_neg hbk]
            have hbi : ¬ (bg : Int) < 0 := by omega
            go_wp2_with (go_at_call 44; refine (HB2.out _).mono ?_; rintro e w' ⟨rfl, rfl⟩)
            go_roundw
            case rel => exact ⟨k + 1, ws, by go_num, by rw [← HM.out]; exact hown, hb, .inr ⟨by omega, bg, _, by omega, by rw [if_neg (by omega)], HA1⟩⟩
            case measure => simp [intOf]; omega
        | true =>
          have hfx := hf
          rw [HBf.out, hf] at HBk
          have HB2 : Hid (∀ W, Calls Tryd.prog 44 #[.int .u8 s[k].toNat] W fun e w' => e = .returned (.bool true) ∧ W = w') := HBk
          clear hf HBk HBf
          by_cases hbk : bg = k
          · subst hbk
            rw [if_pos rfl]
            have HA1 : Hid (At K.stU K.fU () s (bg + 1) (bg + 1) (K.stU x s[bg]) ws) := HA.out.skip hlt (by omega) hfx
            clear hfx
            go_wp2_with (go_at_call 44; refine (HB2.out _).mono ?_; rintro e w' ⟨rfl, rfl⟩)
            go_roundw
            case rel => exact ⟨bg + 1, ws, by go_num, by rw [← HM.out]; exact hown, hb, .inr ⟨by omega, bg + 1, _, by omega, by rw [if_pos rfl], HA1⟩⟩
            case measure => simp [intOf]; omega
          · rw [if_neg hbk]
            have hbi : (0 : Int) ≤ bg := by omega
            have hbj : (bg : Int) ≤ k := by omega
            have HA1 : Hid (At K.stU K.fU () s (k + 1) (k + 1) (K.stU x s[k]) (ws ++ [s.extract bg k])) := HA.out.cutoff hlt (by omega) hfx
            clear hfx
            go_wp2_with (first | (at_builtin; refine wpList_append_own _ rfl _ _ 22 rfl w1.heap.size 9 i0 (.string ⟨#[]⟩) 1 16 Tryd.underlying22 hi hz0 hz1 hz2 rfl (by decide) _ _ _ rfl (hown.alloc _) ⟨wr.heap.size, 0, none⟩ 1 1 [.string (s.extract bg k)] rfl rfl (by intro j u hj; match j, hj with | 0, hj => simp at hj; subst hj; simp [Addr.add]) (by intro u hu; simp at hu; subst hu; rfl) (by unfold maxLen; omega) (by omega) (by simp; omega) ?_; intro v' w2 hown' hgrow _; have HG1 : Hid (Below w1.heap.size w1 w2) := (hb.alloc hbs _).grown hgrow (by simp; omega) (fun k hk => (hown.lt k hk).1); have HG2 : Hid (w2.ownsRow w1.heap.size 9 1 v' (ws ++ [s.extract bg k]).length ((ws ++ [s.extract bg k]).map Value.string)) := (by unfold Hid; rw [List.length_append, ← HM.out, List.map_append]; exact hown'); clear hown' hgrow hown hb) | (go_at_call 44; refine (HB2.out _).mono ?_; rintro e w' ⟨rfl, rfl⟩))
            go_roundw
            case rel => exact ⟨k + 1, _, by go_num, by assumption, by assumption, .inr ⟨by omega, k + 1, _, by omega, by rw [if_pos rfl], HA1⟩⟩
            case measure => simp [intOf]; omega
      · obtain rfl : k = s.size := by omega
        have hll : ¬ ((s.size : Int) < (s.size : Int)) := by omega
        by_cases hbk : bg = s.size
        · subst hbk
          rw [if_pos rfl]
          have HA1 : Hid (pcs K.stU K.fU () s = ws) := (HA.out.done (by omega)).1
          go_wp2
          go_roundw
          case rel => exact ⟨s.size + 1, ws, by go_num, by rw [← HM.out]; exact hown, hb, .inl ⟨rfl, rfl, HA1⟩⟩
          case measure => simp [intOf]
        · rw [if_neg hbk]
          have hbi : (0 : Int) ≤ bg := by omega
          have hbj : (bg : Int) ≤ s.size := by omega
          have HA1 : Hid (pcs K.stU K.fU () s = ws ++ [s.extract bg s.size]) := (HA.out.last (by omega)).1
          go_wp2_with (at_builtin; refine wpList_append_own _ rfl _ _ 22 rfl w1.heap.size 9 i0 (.string ⟨#[]⟩) 1 16 Tryd.underlying22 hi hz0 hz1 hz2 rfl (by decide) _ _ _ rfl (hown.alloc _) ⟨wr.heap.size, 0, none⟩ 1 1 [.string (s.extract bg s.size)] rfl rfl (by intro j u hj; match j, hj with | 0, hj => simp at hj; subst hj; simp [Addr.add]) (by intro u hu; simp at hu; subst hu; rfl) (by unfold maxLen; omega) (by omega) (by simp; omega) ?_; intro v' w2 hown' hgrow _; have HG1 : Hid (Below w1.heap.size w1 w2) := (hb.alloc hbs _).grown hgrow (by simp; omega) (fun k hk => (hown.lt k hk).1); have HG2 : Hid (w2.ownsRow w1.heap.size 9 1 v' (ws ++ [s.extract bg s.size]).length ((ws ++ [s.extract bg s.size]).map Value.string)) := (by unfold Hid; rw [List.length_append, ← HM.out, List.map_append]; exact hown'); clear hown' hgrow hown hb)
          go_roundw
          case rel => exact ⟨s.size + 1, _, by go_num, by assumption, by assumption, .inl ⟨rfl, rfl, HA1⟩⟩
          case measure => simp [intOf]
end Go.Proofs.YtbgnmchnfaknkaaDoor.WD
