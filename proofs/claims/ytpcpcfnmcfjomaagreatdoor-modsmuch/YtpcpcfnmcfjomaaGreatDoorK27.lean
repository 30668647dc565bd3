/-
  MgRefMatch
-/
import Derived.Test.YtpcpcfnmcfjomaaGreatDoorK26
import Derived.Deep.OwnRows
namespace Go.Proofs.YtpcpcfnmcfjomaaGreatDoor.GR
open Go.RowKit
def BR (W : World) (g : Nat) (bs : List Bool) : Prop := W.heap[g]? = some (.cells (bs.map Value.bool).toArray 4 (0, 0))
theorem BR.cell {W : World} {g : Nat} {bs : List Bool} (h : BR W g bs) (j : Nat) (hj : j < bs.length) : W.cell? ⟨g, j, none⟩ = some (.bool bs[j]) := by
  rw [cell_of_row W g j _ 4 (0, 0) h]; simp [hj]
theorem BR.frozen {W : World} {g : Nat} {bs : List Bool} (h : BR W g bs) (j : Nat) : W.frozen? ⟨g, j, none⟩ = false := frozen_of_row W g j _ 4 h
theorem BR.set {W : World} {g : Nat} {bs : List Bool} (h : BR W g bs) (j : Nat) (b : Bool) : BR (W.setCell ⟨g, j, none⟩ (.bool b)) g (bs.set j b) := by
  unfold BR
  rw [heap_setCell_same W g j _ 4 (.bool b) h]
  simp [List.map_set]
theorem BR.other {W : World} {g k : Nat} {bs : List Bool} (h : BR W g bs) (hk : g ≠ k) (j : Nat) (v : Value) : BR (W.setCell ⟨k, j, none⟩ v) g bs := by
  unfold BR
  rw [heap_setCell_other W ⟨k, j, none⟩ g v hk]; exact h
theorem BR.lt {W : World} {g : Nat} {bs : List Bool} (h : BR W g bs) : g < W.heap.size := by
  unfold BR at h; rw [Array.getElem?_eq_some_iff] at h; exact h.1
theorem BR.alloc {W : World} {g : Nat} {bs : List Bool} (h : BR W g bs) (o : Obj) : BR (W.alloc o) g bs := by
  unfold BR; rw [Below.heap_alloc W o g h.lt]; exact h
theorem BR.drewN {W : World} {g : Nat} {bs : List Bool} (h : BR W g bs) (n : Nat) : BR (W.drewN n) g bs := h
theorem made_eq (n : Nat) : madeCells #[.bool false] n = ((List.replicate n false).map Value.bool).toArray := by
  apply Array.toList_inj.1
  rw [toList_madeCells_one]; simp
theorem BR.made (W : World) (n : Nat) (C : Array Value) (hC : C = ((List.replicate n false).map Value.bool).toArray) : BR (W.alloc (.cells C 4)) W.heap.size (List.replicate n false) := by
  unfold BR; rw [heap_alloc_new, hC]
theorem info4b : (Tryz.prog.info? 4).map (fun i => (i.zero, i.size, i.bytes)) = some (some (.bool false), 1, 1) := by kernel_rfl
theorem make_bools (n : Nat) (h : n ≤ 1000001) (W : World) : (Instr.makeSlice 89 (.int .i64 (n : Int)) (.int .i64 (n : Int))).run Tryz.prog W = .ok (.slice (some ⟨W.heap.size, 0, none⟩) n n) (W.alloc (.cells (madeCells #[.bool false] n) 4)) :=
  run_make_row' 89 4 (.bool false) 1 Tryz.underlying89 info4b rfl .i64 .i64 n (by omega) (by omega) W
def strLen : Value → Nat
  | .string p => p.size
  | _ => 0
set_option maxRecDepth 20000 in
set_option maxHeartbeats 1600000 in
theorem refmatch_any (p0 s : ByteArray) (w : World) (hp0 : p0.size ≤ 1000000) (hs : s.size ≤ 1000000) :
    Calls Tryz.prog 75 #[.string p0, .string s] w fun e w' => e = .returned (.bool (G.matchB p0.data.toList s.data.toList)) ∧ Below w.heap.size w w' := by
  obtain ⟨mc, hmc⟩ : ∃ mc : Array Value, mc = madeCells #[.bool false] (s.size + 1) := ⟨_, rfl⟩
  have hmk : ∀ W, (Instr.makeSlice 89 (.int .i64 ((s.size : Int) + 1)) (.int .i64 ((s.size : Int) + 1))).run Tryz.prog W = .ok (.slice (some ⟨W.heap.size, 0, none⟩) (s.size + 1) (s.size + 1)) (W.alloc (.cells mc 4)) := by
    intro W
    have h := make_bools (s.size + 1) (by omega) W
    rw [show (((s.size + 1 : Nat)) : Int) = (s.size : Int) + 1 by omega] at h
    rw [h, hmc]
  have hmcl : mc = ((List.replicate (s.size + 1) false).map Value.bool).toArray := by rw [hmc, made_eq]
  have hmcs : mc.size = s.size + 1 := by rw [hmcl]; simp
  have HM : Hid (mc = ((List.replicate (s.size + 1) false).map Value.bool).toArray) := hmcl
  clear hmc hmcl
  go_enter Tryz.func75, Tryz.ntmps75
  go_wp2
  go_loopw [0, 5] (fun vp va wr => ∃ (p : ByteArray) (a : List Bool) (g : Nat), vp = .string p ∧ va = .slice (some ⟨g, 0, none⟩) (s.size + 1) (s.size + 1) ∧ a.length = s.size + 1 ∧ w.heap.size ≤ g ∧ BR wr g a ∧ Below w.heap.size w wr ∧ p.size ≤ 1000000 ∧ Hid (G.DP a (G.toks p.data.toList) s.data.toList ↔ G.matchB p0.data.toList s.data.toList = true))
    (fun vp _ _ => strLen vp)
  case atStart =>
    refine ⟨p0, true :: List.replicate s.size false, w.heap.size, rfl, rfl, by simp, Nat.le_refl _, ?_, (Below.refl _ _).alloc (Nat.le_refl _) _, hp0, ?_⟩
    · unfold BR
      rw [heap_alloc_new, HM.out, List.replicate_succ]; simp
    · have h := G.dp_start (G.toks p0.data.toList) s.data.toList
      rw [show s.data.toList.length = s.size by simp] at h
      exact h
  case round =>
    obtain ⟨p, a, g, rfl, rfl, hal, hgw, hBR, hb, hps, HD⟩ := hrel
    have hbs := hb.size
    have hgl := hBR.lt
    by_cases hp : 0 < p.size
    · have hpI : (0 : Int) < (p.size : Int) := by omega
      have hdp := drop_ba p 0 hp
      rw [List.drop_zero] at hdp
      cases hst : ((p[0].toNat : Int) == 42)
      · have hn42 : (p[0] == 42) = false := by rw [← u8_beq _ 42 42 rfl]; exact hst
        obtain ⟨n, hnd⟩ : ∃ n : Nat, n = G.headN p.data.toList := ⟨_, rfl⟩
        have hnf : n ≤ p.size := by have h := headN_fits p 0 hp; rw [List.drop_zero, Nat.zero_add, ← hnd] at h; exact h
        have hn1 : 1 ≤ n := by rw [hnd, hdp]; exact G.headN_pos _ _
        have HFI : Hid (∀ (c : UInt8) (W : World), Calls Tryz.prog 117 #[.string p, .int .u8 c.toNat] W fun e w' => e = .returned (.tuple #[.int .i64 n, .bool (G.headF p.data.toList c)]) ∧ ∃ k, w' = W.drewN k) := by
          intro c W; rw [hnd]; exact first_any p c W hps hp
        have HF0 : Hid (∀ W : World, Calls Tryz.prog 117 #[.string p, .int .u8 0] W fun e w' => e = .returned (.tuple #[.int .i64 n, .bool (G.headF p.data.toList 0)]) ∧ ∃ k, w' = W.drewN k) := fun W => HFI.out 0 W
        have HD' : Hid (G.DP (G.oneRow a (G.headF p.data.toList) s.data.toList) (G.toks (p.data.toList.drop n)) s.data.toList ↔ G.matchB p0.data.toList s.data.toList = true) := by
          refine Iff.trans (G.dp_one a _ _ _ (by simpa using hal)) ?_
          have ht := G.toks_head p[0] (p.data.toList.drop 1) hn42
          rw [← hdp, ← hnd] at ht
          rw [← ht]; exact HD
        obtain ⟨f0, hf0⟩ : ∃ b, G.headF p.data.toList 0 = b := ⟨_, rfl⟩
        rw [hf0] at HF0
        obtain ⟨wo, rfl⟩ : ∃ wo : World, wo = wr := ⟨_, rfl⟩
        clear hn42 hdp hf0 hnd HD
        go_wp2_with (go_at_call 117; refine (HF0.out _).mono ?_; rintro e w' ⟨rfl, k0, rfl⟩)
        go_loopw [11] (fun v11 wx => ∃ i : Nat, i ≤ s.size ∧ v11 = .int .i64 i ∧ BR wx g a ∧ BR wx wo.heap.size (G.fillTo (G.oneRow a (G.headF p.data.toList) s.data.toList) (i + 1)) ∧ Below w.heap.size w wx)
          (fun v11 _ => s.size - (intOf v11).toNat)
        case atStart =>
          refine ⟨0, by omega, rfl, (hBR.alloc _).drewN _, ?_, below_drewN (hb.alloc hbs _) _⟩
          rw [Nat.zero_add, G.fillTo_one _ rfl, G.oneRow_length, show s.data.toList.length = s.size by simp]
          exact (BR.made wo (s.size + 1) mc HM.out).drewN _
        case round =>
          obtain ⟨i, hi, rfl, hA, hN, hbx⟩ := hrel
          by_cases hlt : i < s.size
          · have hil : (i : Int) < (s.size : Int) := by omega
            have hia : i < a.length := by omega
            have hrl : (G.oneRow a (G.headF p.data.toList) s.data.toList).length = s.size + 1 := by rw [G.oneRow_length]; simp
            obtain ⟨ai, hai⟩ : ∃ b, a[i] = b := ⟨_, rfl⟩
            obtain ⟨fi, hfi⟩ : ∃ b, G.headF p.data.toList s[i] = b := ⟨_, rfl⟩
            have HF1 : Hid (∀ W : World, Calls Tryz.prog 117 #[.string p, .int .u8 s[i].toNat] W fun e w' => e = .returned (.tuple #[.int .i64 n, .bool fi]) ∧ ∃ k, w' = W.drewN k) := by
              intro W; rw [← hfi]; exact HFI.out s[i] W
            have hgne : g ≠ wo.heap.size := by omega
            have HST : Hid (∀ (k : Nat) (b : Bool), b = (ai && fi) → BR ((wr.drewN k).setCell ⟨wo.heap.size, i + 1, none⟩ (.bool b)) g a ∧ BR ((wr.drewN k).setCell ⟨wo.heap.size, i + 1, none⟩ (.bool b)) wo.heap.size (G.fillTo (G.oneRow a (G.headF p.data.toList) s.data.toList) (i + 1 + 1)) ∧ Below w.heap.size w ((wr.drewN k).setCell ⟨wo.heap.size, i + 1, none⟩ (.bool b))) := by
              intro k b hb1
              refine ⟨(hA.drewN k).other hgne _ _, ?_, (below_drewN hbx k).setCell hbs _⟩
              have hget : (G.oneRow a (G.headF p.data.toList) s.data.toList)[i + 1]'(by rw [hrl]; omega) = (ai && fi) := by
                rw [G.oneRow_get a _ _ i (by simpa using hlt) hia, hai]
                show (ai && G.headF p.data.toList s[i]) = _
                rw [hfi]
              have h := (hN.drewN k).set (i + 1) b
              rw [hb1, ← hget, G.fillTo_set _ _ (by rw [hrl]; omega)] at h
              rw [hb1, ← hget]; exact h
            have hc := hA.cell i hia
            rw [hai] at hc
            have hfl : i + 1 < (G.fillTo (G.oneRow a (G.headF p.data.toList) s.data.toList) (i + 1)).length := by rw [G.fillTo_length _ _ (by rw [hrl]; omega), hrl]; omega
            have hc2 := hN.cell (i + 1) hfl
            have hf2 := hN.frozen (i + 1)
            obtain ⟨old, hold⟩ : ∃ b, (G.fillTo (G.oneRow a (G.headF p.data.toList) s.data.toList) (i + 1))[i + 1] = b := ⟨_, rfl⟩
            rw [hold] at hc2
            clear hold hai hfi hfl hrl hA hN hBR
            cases ai
            · go_wp2_with (go_at_call 117; refine (HF1.out _).mono ?_; rintro e w' ⟨rfl, k1, rfl⟩)
              go_roundw
              case rel =>
                obtain ⟨q1, q2, q3⟩ := HST.out k1 false rfl
                exact ⟨i + 1, by omega, by go_num, q1, q2, q3⟩
              case measure => simp [intOf]; omega
            · go_wp2_with (go_at_call 117; refine (HF1.out _).mono ?_; rintro e w' ⟨rfl, k1, rfl⟩)
              go_roundw
              case rel =>
                obtain ⟨q1, q2, q3⟩ := HST.out k1 fi (by simp)
                exact ⟨i + 1, by omega, by go_num, q1, q2, q3⟩
              case measure => simp [intOf]; omega
          · obtain rfl : i = s.size := by omega
            have hN' : BR wr wo.heap.size (G.oneRow a (G.headF p.data.toList) s.data.toList) := by
              have h : G.fillTo (G.oneRow a (G.headF p.data.toList) s.data.toList) (s.size + 1) = G.oneRow a (G.headF p.data.toList) s.data.toList := by
                have hrl : (G.oneRow a (G.headF p.data.toList) s.data.toList).length = s.size + 1 := by rw [G.oneRow_length]; simp
                rw [← hrl]; exact G.fillTo_all _
              rw [h] at hN; exact hN
            clear hN hA hBR hlt hi
            have hnI : (n : Int) ≤ (p.size : Int) := by omega
            go_wp2
            go_roundw
            case rel =>
              refine ⟨p.extract n p.size, G.oneRow a (G.headF p.data.toList) s.data.toList, wo.heap.size, rfl, rfl, by rw [G.oneRow_length]; simp, hbs, hN', hbx, by simp; omega, ?_⟩
              rw [Lib.extract_to_end]; exact HD'
            case measure => simp [strLen]; omega
      · have hp42 : p[0] = 42 := eq_of (y := 42) (n := 42) rfl hst
        have HD' : Hid (G.DP (G.starRow a) (G.toks (p.data.toList.drop 1)) s.data.toList ↔ G.matchB p0.data.toList s.data.toList = true) := by
          refine Iff.trans (G.dp_star a _ _ (by simpa using hal)) ?_
          rw [← G.toks_star, ← hp42, ← hdp]; exact HD
        obtain ⟨wo, rfl⟩ : ∃ wo : World, wo = wr := ⟨_, rfl⟩
        clear hp42 HD hdp
        go_wp2
        go_loopw [7, 8] (fun v7 v8 wx => ∃ i : Nat, i ≤ s.size + 1 ∧ v8 = .int .i64 i ∧ v7 = .bool (G.anyTo a i) ∧ BR wx g a ∧ BR wx wo.heap.size (G.fillTo (G.starRow a) i) ∧ Below w.heap.size w wx)
          (fun _ v8 _ => s.size + 1 - (intOf v8).toNat)
        case atStart =>
          refine ⟨0, by omega, rfl, rfl, hBR.alloc _, ?_, hb.alloc hbs _⟩
          rw [G.fillTo_zero, G.starRow_length, hal]
          exact BR.made wo (s.size + 1) mc HM.out
        case round =>
          obtain ⟨i, hi, rfl, rfl, hA, hN, hbx⟩ := hrel
          by_cases hlt : i ≤ s.size
          · have hia : i < a.length := by omega
            have hc := hA.cell i hia
            have hfl : i < (G.fillTo (G.starRow a) i).length := by rw [G.fillTo_length _ _ (by rw [G.starRow_length]; omega), G.starRow_length]; omega
            have hc2 := hN.cell i hfl
            have hf2 := hN.frozen i
            obtain ⟨old, hold⟩ : ∃ b, (G.fillTo (G.starRow a) i)[i] = b := ⟨_, rfl⟩
            rw [hold] at hc2
            obtain ⟨ai, hai⟩ : ∃ b, a[i] = b := ⟨_, rfl⟩
            rw [hai] at hc
            obtain ⟨an, han⟩ : ∃ b, G.anyTo a i = b := ⟨_, rfl⟩
            have hsucc : G.anyTo a (i + 1) = (an || ai) := by rw [G.anyTo_succ a i hia, hai, han]
            rw [han]
            have HS : Hid (G.anyTo a (i + 1) = (an || ai)) := hsucc
            clear hsucc hold hai han hfl
            have hgne : g ≠ wo.heap.size := by omega
            have hstep : ∀ b : Bool, b = G.anyTo a (i + 1) → BR (wr.setCell ⟨wo.heap.size, i, none⟩ (.bool b)) g a ∧ BR (wr.setCell ⟨wo.heap.size, i, none⟩ (.bool b)) wo.heap.size (G.fillTo (G.starRow a) (i + 1)) ∧ Below w.heap.size w (wr.setCell ⟨wo.heap.size, i, none⟩ (.bool b)) := by
              intro b hb1
              refine ⟨hA.other hgne _ _, ?_, hbx.setCell hbs _⟩
              have h := hN.set i b
              rw [hb1, ← G.starRow_get a i hia, G.fillTo_set _ _ (by rw [G.starRow_length]; exact hia)] at h
              rw [G.starRow_get a i hia] at h
              rw [hb1]; exact h
            have HST : Hid (∀ b : Bool, b = G.anyTo a (i + 1) → BR (wr.setCell ⟨wo.heap.size, i, none⟩ (.bool b)) g a ∧ BR (wr.setCell ⟨wo.heap.size, i, none⟩ (.bool b)) wo.heap.size (G.fillTo (G.starRow a) (i + 1)) ∧ Below w.heap.size w (wr.setCell ⟨wo.heap.size, i, none⟩ (.bool b))) := hstep
            clear hstep
            cases an
            · go_wp2
              go_roundw
              case rel =>
                have e : ai = G.anyTo a (i + 1) := by rw [HS.out]; rfl
                obtain ⟨q1, q2, q3⟩ := HST.out ai e
                exact ⟨i + 1, by omega, by go_num, by rw [← e], q1, q2, q3⟩
              case measure => simp [intOf]; omega
            · go_wp2
              go_roundw
              case rel =>
                have e : true = G.anyTo a (i + 1) := by rw [HS.out]; rfl
                obtain ⟨q1, q2, q3⟩ := HST.out true e
                exact ⟨i + 1, by omega, by go_num, by rw [← e], q1, q2, q3⟩
              case measure => simp [intOf]; omega
          · obtain rfl : i = s.size + 1 := by omega
            have hN' : BR wr wo.heap.size (G.starRow a) := by
              have h : G.fillTo (G.starRow a) (s.size + 1) = G.starRow a := by rw [← hal, ← G.starRow_length a]; exact G.fillTo_all _
              rw [h] at hN; exact hN
            obtain ⟨an, han⟩ : ∃ b, G.anyTo a (s.size + 1) = b := ⟨_, rfl⟩
            rw [han]
            clear hN hA hBR han hlt hi
            go_wp2
            go_roundw
            case rel =>
              refine ⟨p.extract 1 p.size, G.starRow a, wo.heap.size, rfl, rfl, by rw [G.starRow_length]; exact hal, hbs, hN', hbx, by simp; omega, ?_⟩
              rw [Lib.extract_to_end]; exact HD'
            case measure => simp [strLen]; omega
    · have hp0' : p.size = 0 := by omega
      have hpI : ¬ (0 : Int) < (p.size : Int) := by omega
      have hpl : p.data.toList = [] := List.length_eq_zero_iff.mp (by simpa using hp0')
      have hcl := hBR.cell s.size (by omega)
      obtain ⟨b, hbe⟩ : ∃ b, a[s.size]'(by omega) = b := ⟨_, rfl⟩
      rw [hbe] at hcl
      have HE : Hid (G.matchB p0.data.toList s.data.toList = b) := by
        have h := HD.out
        rw [hpl, G.toks_nil, G.dp_end a s.data.toList (by simpa using hal)] at h
        have hbe' : a[s.data.toList.length]'(by simp; omega) = b := by rw [← hbe]; congr 1
        rw [hbe'] at h
        exact (Bool.eq_iff_iff.mpr h).symm
      clear HD hbe hpl hBR
      go_wp2
      go_ret
      exact ⟨ret_bool HE.out.symm, hb⟩
end Go.Proofs.YtpcpcfnmcfjomaaGreatDoor.GR
