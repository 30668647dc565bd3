/-
  What the document's Split answers.
-/
import Derived.Test.YtanboocibmjomaaDoorKinds
import Derived.Test.YtanboocibmjomaaDoorSplitF
import Derived.Test.YtanboocibmjomaaDoorJoinF
namespace Go.Proofs.YtanboocibmjomaaDoor
open Go.RowKit Go.Shelf

set_option maxRecDepth 20000 in
set_option maxHeartbeats 2000000 in
theorem rsplit_loop (s y : ByteArray) (w : World) (hs : s.size ≤ 4000000) (hy : y = ba (letters K.Rd.r0 (bl s))) (hK : ∀ W, Calls Tryd.prog 28 #[.string s] W fun e w' => e = .returned (.tuple #[.string y, .bool (K.ends (bl s)).opened]) ∧ Below W.heap.size W w') :
    Calls Tryd.prog 10 #[.string s] w fun e w' => ∃ v, e = .returned (.tuple #[v, .int .i64 (splitE s : Nat)]) ∧ Words w'.heap.size w' v (splitW s) ∧ Below w.heap.size w w' := by
  obtain ⟨i0, hi, hz0, hz1, hz2⟩ := info_parts infoS
  have hys : y.size = s.size := by rw [hy, ba_size, letters_length, bl_length]
  have HY : Hid (∀ k (h : k < s.size) (h2 : k < y.size), ((y[k].toNat : Int) != 98) = !((rdAt s k).blank s[k])) := by
    intro k h h2
    have e : y[k] = letter (rdAt s k) s[k] := by
      have e1 : (bl y)[k]? = some y[k] := by unfold bl; simp [h2]; rfl
      have e2 : bl y = letters K.Rd.r0 (bl s) := by rw [hy, bl_ba]
      have e3 : letters K.Rd.r0 (bl s) = ltAt s (k + 1) ++ letters (((bl s).take (k + 1)).foldl K.Rd.step K.Rd.r0) ((bl s).drop (k + 1)) := by
        unfold ltAt; rw [← letters_append, List.take_append_drop]
      rw [e2, e3, ltAt_succ s k h] at e1
      have hl := ltAt_len s k (Nat.le_of_lt h)
      rw [List.append_assoc, List.getElem?_append_right (by omega), hl, Nat.sub_self] at e1
      simpa using e1.symm
    have hb := (letter_both (rdAt s k) s[k]).1
    rw [← e] at hb
    have e98 : y[k] = 98 ↔ y[k].toNat = 98 := u8_eq_iff _ 98
    cases hB : (rdAt s k).blank s[k] with
    | true => have := e98.1 (hb.2 hB); simp; omega
    | false =>
      have : ¬ y[k].toNat = 98 := fun e => by have := hb.1 (e98.2 e); rw [hB] at this; cases this
      simp; omega
  have HKd : Hid (∀ W, Calls Tryd.prog 28 #[.string s] W fun e w' => e = .returned (.tuple #[.string y, .bool (K.ends (bl s)).opened]) ∧ Below W.heap.size W w') := hK
  have HRd : Hid (∀ k, rdAt s k = ((bl s).take k).foldl K.Rd.step K.Rd.r0) := fun k => rfl
  clear hy hK
  have hfl := K.cut_length (st := K.Rd.step) (f := K.Rd.blank) K.Rd.r0 [] (bl s)
  have HFl : Hid ((pcs K.Rd.step K.Rd.blank K.Rd.r0 s).length ≤ s.size) := by
    unfold Hid pcs; rw [bl_length] at hfl; simpa using hfl
  clear hfl
  cases ho : (K.ends (bl s)).opened with
  | true =>
    have HE : Hid (splitE s = 4 ∧ splitW s = []) := by
      have : splitE s = 4 := by unfold splitE; rw [ho]; rfl
      exact ⟨this, by unfold splitW; rw [this]; rfl⟩
    rw [HE.out.1, HE.out.2]
    rw [ho] at HKd
    clear ho
    go_enter Tryd.func10, Tryd.ntmps10
    go_wp2_with fail
    refine (HKd.out _).mono ?_
    rintro e w1 ⟨rfl, hb1⟩
    go_wp2
    go_ret2
    exact ⟨_, rfl, words_empty _ _, hb1⟩
  | false =>
  rw [ho] at HKd
  have HE0 : Hid (splitE s = (if 4096 < (wds s).length then 5 else 0) ∧ splitW s = (if 4096 < (wds s).length then [] else wds s)) := by
    have : splitE s = (if 4096 < (wds s).length then 5 else 0) := by unfold splitE; rw [ho]; rfl
    refine ⟨this, ?_⟩
    unfold splitW
    rw [this]
    by_cases h : 4096 < (wds s).length <;> simp [h]
  clear ho
  obtain ⟨er, her⟩ : ∃ er, er = splitE s := ⟨_, rfl⟩
  obtain ⟨wr0, hwr0⟩ : ∃ ws, ws = splitW s := ⟨_, rfl⟩
  rw [← her, ← hwr0]
  rw [← her, ← hwr0] at HE0
  clear her hwr0
  go_enter Tryd.func10, Tryd.ntmps10
  go_wp2_with fail
  refine (HKd.out _).mono ?_
  rintro e w1 ⟨rfl, hb1⟩
  have HB1 : Hid (Below w.heap.size w w1) := hb1
  clear hb1 HKd
  go_wp2
  go_loopw [6, 7, 8] (fun v vf vi wr => ∃ (k : Nat) (ws : List ByteArray), vi = .int .i64 k ∧ wr.ownsRow w1.heap.size 9 1 v ws.length (ws.map Value.string) ∧ Below w1.heap.size w1 wr ∧
      ((k = s.size + 1 ∧ vf = .int .i64 (-1) ∧ Hid (pcs K.Rd.step K.Rd.blank K.Rd.r0 s = ws)) ∨ (k ≤ s.size ∧ ∃ (bg : Nat) (x : K.Rd), bg ≤ k ∧ vf = .int .i64 (if bg = k then -1 else (bg : Int)) ∧ Hid (At K.Rd.step K.Rd.blank K.Rd.r0 s k bg x ws))))
    (fun _ _ vi _ => s.size + 1 - (intOf vi).toNat)
  case atStart => exact ⟨0, [], rfl, World.ownsRow_nil _ _ _ _, Below.refl _ _, .inr ⟨Nat.zero_le _, 0, K.Rd.r0, Nat.le_refl _, rfl, At.start s⟩⟩
  case round =>
    obtain ⟨k, ws, rfl, hown, hb, ⟨rfl, rfl, HD⟩ | ⟨hk, bg, x, hbg, rfl, HA⟩⟩ := hrel
    · have hnl : ¬ ((s.size : Int) + 1 ≤ (s.size : Int)) := by omega
      have HW : Hid (Words wr.heap.size wr u6 ws) := words_of_owns hown (Nat.le_refl _)
      have hbw : Hid (Below w.heap.size w wr) := HB1.out.trans (hb.mono HB1.out.size)
      obtain ⟨a, cap, hv⟩ := owns_slice hown
      subst hv
      have e1 : wds s = ws := HD.out
      rw [e1] at HE0
      obtain ⟨n, hn⟩ : ∃ n, n = ws.length := ⟨_, rfl⟩
      rw [← hn] at HE0 HW ⊢
      clear hown hb hn e1
      by_cases hl : 4096 < n
      · have hli : (4096 : Int) < n := by omega
        have HE : Hid (er = 5 ∧ wr0 = []) := by have := HE0.out; rw [if_pos hl, if_pos hl] at this; exact this
        clear HE0
        go_wp2
        go_ret2
        rw [HE.out.1, HE.out.2]
        exact ⟨_, rfl, words_empty _ _, hbw.out⟩
      · have hli : ¬ (4096 : Int) < n := by omega
        have HE : Hid (er = 0 ∧ wr0 = ws) := by have := HE0.out; rw [if_neg hl, if_neg hl] at this; exact this
        clear HE0
        go_wp2
        go_ret2
        rw [HE.out.1, HE.out.2]
        exact ⟨_, rfl, HW.out, hbw.out⟩
    · have hbs := hb.size
      have hil : (k : Int) ≤ (s.size : Int) := by omega
      have hwl : ws.length ≤ s.size := Nat.le_trans (HA.out.pre.length_le) HFl.out
      obtain ⟨m, hm⟩ : ∃ m, m = ws.length := ⟨_, rfl⟩
      rw [← hm] at hown hwl
      have HM : Hid (m = ws.length) := hm
      clear hm
      by_cases hlt : k < s.size
      · have hll : (k : Int) < (s.size : Int) := by omega
        have HSt : Hid (x = x) := rfl
        have hxe : x = rdAt s k := HA.out.2
        have hly : k < y.size := by omega
        have hlyi : (k : Int) < (y.size : Int) := by omega
        have hy98 := HY.out k hlt hly
        rw [← hxe] at hy98
        clear hxe
        cases hf : K.Rd.blank x s[k] with
        | false =>
          have HA1 : Hid (At K.Rd.step K.Rd.blank K.Rd.r0 s (k + 1) bg (K.Rd.step x s[k]) ws) := HA.out.on hlt hbg hf
          rw [hf] at hy98
          simp only [Bool.not_false] at hy98
          clear hf
          by_cases hbk : bg = k
          · subst hbk
            rw [if_pos rfl]
            go_wp2
            go_roundw
            case rel => exact ⟨bg + 1, ws, by go_num, by rw [← HM.out]; exact hown, hb, .inr ⟨by omega, bg, _, by omega, by rw [if_neg (by omega)], HA1⟩⟩
            case measure => simp [intOf]; omega
          · rw [if_neg hbk]
            have hbi : ¬ (bg : Int) < 0 := by omega
            go_wp2
            go_roundw
            case rel => exact ⟨k + 1, ws, by go_num, by rw [← HM.out]; exact hown, hb, .inr ⟨by omega, bg, _, by omega, by rw [if_neg (by omega)], HA1⟩⟩
            case measure => simp [intOf]; omega
        | true =>
          have hfx := hf
          rw [hf] at hy98
          simp only [Bool.not_true] at hy98
          clear hf
          by_cases hbk : bg = k
          · subst hbk
            rw [if_pos rfl]
            have HA1 : Hid (At K.Rd.step K.Rd.blank K.Rd.r0 s (bg + 1) (bg + 1) (K.Rd.step x s[bg]) ws) := HA.out.skip hlt (by omega) hfx
            clear hfx
            go_wp2
            go_roundw
            case rel => exact ⟨bg + 1, ws, by go_num, by rw [← HM.out]; exact hown, hb, .inr ⟨by omega, bg + 1, _, by omega, by rw [if_pos rfl], HA1⟩⟩
            case measure => simp [intOf]; omega
          · rw [if_neg hbk]
            have hbi : (0 : Int) ≤ bg := by omega
            have hbj : (bg : Int) ≤ k := by omega
            have HA1 : Hid (At K.Rd.step K.Rd.blank K.Rd.r0 s (k + 1) (k + 1) (K.Rd.step x s[k]) (ws ++ [s.extract bg k])) := HA.out.cutoff hlt (by omega) hfx
            clear hfx
            go_wp2_with (at_builtin; refine wpList_append_own _ rfl _ _ 22 rfl w1.heap.size 9 i0 (.string ⟨#[]⟩) 1 16 Tryd.underlying22 hi hz0 hz1 hz2 rfl (by decide) _ _ _ rfl (hown.alloc _) ⟨wr.heap.size, 0, none⟩ 1 1 [.string (s.extract bg k)] rfl rfl (by intro j u hj; match j, hj with | 0, hj => simp at hj; subst hj; simp [Addr.add]) (by intro u hu; simp at hu; subst hu; rfl) (by unfold maxLen; omega) (by omega) (by simp; omega) ?_; intro v' w2 hown' hgrow _; have HG1 : Hid (Below w1.heap.size w1 w2) := (hb.alloc hbs _).grown hgrow (by simp; omega) (fun k hk => (hown.lt k hk).1); have HG2 : Hid (w2.ownsRow w1.heap.size 9 1 v' (ws ++ [s.extract bg k]).length ((ws ++ [s.extract bg k]).map Value.string)) := (by unfold Hid; rw [List.length_append, ← HM.out, List.map_append]; exact hown'); clear hown' hgrow hown hb)
            go_roundw
            case rel => exact ⟨k + 1, _, by go_num, by assumption, by assumption, .inr ⟨by omega, k + 1, _, by omega, by rw [if_pos rfl], HA1⟩⟩
            case measure => simp [intOf]; omega
      · obtain rfl : k = s.size := by omega
        have hll : ¬ ((s.size : Int) < (s.size : Int)) := by omega
        by_cases hbk : bg = s.size
        · subst hbk
          rw [if_pos rfl]
          have HA1 : Hid (pcs K.Rd.step K.Rd.blank K.Rd.r0 s = ws) := (HA.out.done (by omega)).1
          go_wp2
          go_roundw
          case rel => exact ⟨s.size + 1, ws, by go_num, by rw [← HM.out]; exact hown, hb, .inl ⟨rfl, rfl, HA1⟩⟩
          case measure => simp [intOf]
        · rw [if_neg hbk]
          have hbi : (0 : Int) ≤ bg := by omega
          have hbj : (bg : Int) ≤ s.size := by omega
          have HA1 : Hid (pcs K.Rd.step K.Rd.blank K.Rd.r0 s = ws ++ [s.extract bg s.size]) := (HA.out.last (by omega)).1
          go_wp2_with (at_builtin; refine wpList_append_own _ rfl _ _ 22 rfl w1.heap.size 9 i0 (.string ⟨#[]⟩) 1 16 Tryd.underlying22 hi hz0 hz1 hz2 rfl (by decide) _ _ _ rfl (hown.alloc _) ⟨wr.heap.size, 0, none⟩ 1 1 [.string (s.extract bg s.size)] rfl rfl (by intro j u hj; match j, hj with | 0, hj => simp at hj; subst hj; simp [Addr.add]) (by intro u hu; simp at hu; subst hu; rfl) (by unfold maxLen; omega) (by omega) (by simp; omega) ?_; intro v' w2 hown' hgrow _; have HG1 : Hid (Below w1.heap.size w1 w2) := (hb.alloc hbs _).grown hgrow (by simp; omega) (fun k hk => (hown.lt k hk).1); have HG2 : Hid (w2.ownsRow w1.heap.size 9 1 v' (ws ++ [s.extract bg s.size]).length ((ws ++ [s.extract bg s.size]).map Value.string)) := (by unfold Hid; rw [List.length_append, ← HM.out, List.map_append]; exact hown'); clear hown' hgrow hown hb)
          go_roundw
          case rel => exact ⟨s.size + 1, _, by go_num, by assumption, by assumption, .inl ⟨rfl, rfl, HA1⟩⟩
          case measure => simp [intOf]

theorem rsplit_any (s : ByteArray) (w : World) (hs : s.size ≤ 4000000) :
    Calls Tryd.prog 10 #[.string s] w fun e w' => ∃ v, e = .returned (.tuple #[v, .int .i64 (splitE s : Nat)]) ∧ Words w'.heap.size w' v (splitW s) ∧ Below w.heap.size w w' :=
  rsplit_loop s _ w hs rfl (fun W => kinds_any s W hs)
end Go.Proofs.YtanboocibmjomaaDoor
