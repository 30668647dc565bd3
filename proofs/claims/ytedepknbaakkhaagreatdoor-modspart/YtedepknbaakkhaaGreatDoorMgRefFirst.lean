/-
  What the document's own first answers: how many bytes the pattern's first part has, and whether it stands for a byte: just what the plain pattern's head says.
-/
import Derived.Test.YtedepknbaakkhaaGreatDoorMgRefIn
namespace Go.Proofs.YtedepknbaakkhaaGreatDoor.GR
open Go.RowKit

theorem get_ba (m : ByteArray) (i : Nat) (h : i < m.size) (l : List UInt8) (hl : m.data.toList = l) (h2 : i < l.length) : m[i] = l[i] := by
  subst hl; rfl

theorem refin_any (p : ByteArray) (k : Nat) (c : UInt8) (w : World) (hp : p.size ≤ 1000000) (hc : G.closeOf (p.data.toList.drop 1) = some k) :
    Calls Tryz.prog 37 #[.string (p.extract 0 ((if G.negOf (p.data.toList.drop 1) then 1 else 0) + k + 3)), .int .u8 c.toNat] w fun e w' =>
      e = .returned (.bool (G.holdsM c ((G.memOf (p.data.toList.drop 1)).take (k + 1)) != G.negOf (p.data.toList.drop 1))) ∧ w' = w := by
  have hcl : G.closeOf (p.data.toList.drop (0 + 1)) = some k := hc
  rw [close_eq p 0] at hcl
  have hlt := idx_lt _ _ _ hcl
  simp only [Nat.zero_add, List.length_drop, Array.length_toList] at hlt
  have hps : p.data.size = p.size := rfl
  rw [hps] at hlt
  have h1 : 1 < p.size := by omega
  have hne := neg_eq p 0 (by omega)
  simp only [Nat.zero_add] at hne
  cases hn : ((p[1].toNat : Int) == 33 || (p[1].toNat : Int) == 94)
  · rw [hn] at hne
    rw [hne] at hlt ⊢
    simp only [Bool.false_eq_true, if_false, Nat.zero_add] at hlt ⊢
    obtain ⟨q, hq⟩ : ∃ q, p.extract 0 (k + 3) = q := ⟨_, rfl⟩
    have hqd : q.data.toList = p.data.toList.take (k + 3) := by rw [← hq, Lib.extract_data]; simp
    have hqs : q.size = k + 3 := by rw [← hq]; simp; omega
    obtain ⟨m, hm⟩ : ∃ m, q.extract 1 (q.size - 1) = m := ⟨_, rfl⟩
    have hmd : m.data.toList = (p.data.toList.drop 1).take (k + 1) := by
      rw [← hm, Lib.extract_data, hqd, hqs, List.drop_take, List.take_take, show min (k + 3 - 1 - 1) (k + 3 - 1) = k + 1 by omega]
    have hms : m.size = k + 1 := by rw [← hm]; simp; omega
    have hmem : (G.memOf (p.data.toList.drop 1)).take (k + 1) = m.data.toList := by unfold G.memOf; rw [hne, hmd]; rfl
    rw [hmem, hq]
    rw [Bool.or_eq_false_iff] at hn
    refine refin_plain q m c w (by omega) (by omega) hm (fun h => ?_)
    have e : m[0] = p[1] := by
      rw [get_ba m 0 h _ hmd (by simp; omega), List.getElem_take, List.getElem_drop]; rfl
    rw [e]; exact hn
  · rw [hn] at hne
    rw [hne] at hlt ⊢
    simp only [if_true] at hlt ⊢
    obtain ⟨q, hq⟩ : ∃ q, p.extract 0 (1 + k + 3) = q := ⟨_, rfl⟩
    have hqd : q.data.toList = p.data.toList.take (k + 4) := by rw [← hq, Lib.extract_data, show 1 + k + 3 - 0 = k + 4 by omega]; simp
    have hqs : q.size = k + 4 := by rw [← hq]; simp; omega
    obtain ⟨m0, hm0⟩ : ∃ m, q.extract 1 (q.size - 1) = m := ⟨_, rfl⟩
    have hmd : m0.data.toList = (p.data.toList.drop 1).take (k + 2) := by
      rw [← hm0, Lib.extract_data, hqd, hqs, List.drop_take, List.take_take, show min (k + 4 - 1 - 1) (k + 4 - 1) = k + 2 by omega]
    have hms : m0.size = k + 2 := by rw [← hm0]; simp; omega
    obtain ⟨m, hm⟩ : ∃ m, m0.extract 1 m0.size = m := ⟨_, rfl⟩
    have hmem : (G.memOf (p.data.toList.drop 1)).take (k + 1) = m.data.toList := by
      rw [← hm, Lib.extract_data, hmd, hms, List.drop_take, List.take_take, show min (k + 2 - 1) (k + 2 - 1) = k + 1 by omega]
      unfold G.memOf; rw [hne]; rfl
    rw [hmem, hq]
    refine refin_neg q m0 m c w (by omega) (by omega) hm0 (by omega) hm ?_
    have e : m0[0] = p[1] := by
      rw [get_ba m0 0 (by omega) _ hmd (by simp; omega), List.getElem_take, List.getElem_drop]; rfl
    rw [e]; exact hn

def firstV (p : ByteArray) (c : UInt8) : Value := .tuple #[.int .i64 ((G.headN p.data.toList : Nat) : Int), .bool (G.headF p.data.toList c)]
theorem first_ret (p : ByteArray) (c : UInt8) (x : Int) (b : Bool) (h1 : x = ((G.headN p.data.toList : Nat) : Int)) (h2 : b = G.headF p.data.toList c) : Ending.returned (.tuple #[.int .i64 x, .bool b]) = .returned (firstV p c) := by
  unfold firstV; rw [h1, h2]

set_option maxRecDepth 20000 in
set_option maxHeartbeats 800000 in
theorem first_any (p : ByteArray) (c : UInt8) (w : World) (hs : p.size ≤ 1000000) (h0 : 0 < p.size) :
    Calls Tryz.prog 21 #[.string p, .int .u8 c.toNat] w fun e w' => e = .returned (firstV p c) ∧ ∃ n, w' = w.drewN n := by
  have hi : (0 : Int) < (p.size : Int) := by omega
  have hd0 : p.data.toList.drop 0 = p.data.toList := List.drop_zero
  cases h1 : ((p[0].toNat : Int) == 63)
  · cases h2 : ((p[0].toNat : Int) == 92)
    · cases h3 : ((p[0].toNat : Int) == 91)
      · have HF : Hid (G.headN p.data.toList = 1 ∧ G.headF p.data.toList c = (p[0] == c)) := by have h := head_plain p 0 c h0 h1 h2 h3; rw [hd0] at h; exact h
        clear hd0
        go_enter Tryz.func21, Tryz.ntmps21
        go_wp2
        go_quiet (fail)
        go_wp2
        go_ret2
        exact ⟨first_ret _ _ _ _ (by rw [HF.out.1]; rfl) (by rw [HF.out.2]; exact beq_int _ _), _, rfl⟩
      · cases hc : G.closeOf (p.data.toList.drop 1) with
        | none =>
          have HF : Hid (G.headN p.data.toList = 1 ∧ G.headF p.data.toList c = (p[0] == c)) := by have h := head_set_none p 0 c h0 h3 (by simpa using hc); rw [hd0] at h; exact h
          have HS : Hid (∀ W, Calls Tryz.prog 36 #[.string p] W fun e w' => e = .returned (.int .i64 (-1)) ∧ w' = W) := by
            intro W
            have h := refset_any p W hs h0
            rw [hc] at h; exact h
          clear hd0 hc
          go_enter Tryz.func21, Tryz.ntmps21
          go_wp2_with (go_at_call 36; refine (HS.out _).mono ?_; rintro e w' ⟨rfl, rfl⟩)
          go_quiet (fail)
          go_wp2
          go_ret2
          exact ⟨first_ret _ _ _ _ (by rw [HF.out.1]; rfl) (by rw [HF.out.2]; exact beq_int _ _), _, rfl⟩
        | some k =>
          obtain ⟨n, hn⟩ : ∃ n : Nat, n = (if G.negOf (p.data.toList.drop 1) then 1 else 0) + k + 3 := ⟨_, rfl⟩
          obtain ⟨b, hb⟩ : ∃ b : Bool, b = (G.holdsM c ((G.memOf (p.data.toList.drop 1)).take (k + 1)) != G.negOf (p.data.toList.drop 1)) := ⟨_, rfl⟩
          have HF : Hid (G.headN p.data.toList = n ∧ G.headF p.data.toList c = b) := by
            have h := head_set p 0 c h0 k h3 (by simpa using hc); rw [hd0, Nat.zero_add, ← hn, ← hb] at h; exact h
          have HS : Hid (∀ W, Calls Tryz.prog 36 #[.string p] W fun e w' => e = .returned (.int .i64 n) ∧ w' = W) := by
            intro W
            have h := refset_any p W hs h0
            rw [hc] at h
            refine h.mono ?_
            rintro e w' ⟨rfl, rfl⟩
            refine ⟨ret_int ?_, rfl⟩
            simp only [fromI]; rw [hn]; split <;> simp <;> omega
          have HI : Hid (∀ W, Calls Tryz.prog 37 #[.string (p.extract 0 n), .int .u8 c.toNat] W fun e w' => e = .returned (.bool b) ∧ w' = W) := by
            intro W
            rw [hn, hb]; exact refin_any p k c W hs hc
          have hlt := headN_fits p 0 h0
          rw [hd0, HF.out.1] at hlt
          have hnp : 0 < n := by omega
          have hnl : (n : Int) ≤ (p.size : Int) := by omega
          clear hd0 hc hn hb
          go_enter Tryz.func21, Tryz.ntmps21
          go_wp2_with (first | (go_at_call 36; refine (HS.out _).mono ?_; rintro e w' ⟨rfl, rfl⟩) | (go_at_call 37; refine (HI.out _).mono ?_; rintro e w' ⟨rfl, rfl⟩))
          go_ret2
          exact ⟨first_ret _ _ _ _ (by rw [HF.out.1]) (by rw [HF.out.2]), 0, rfl⟩
    · by_cases h3 : 1 < p.size
      · have h3I : (1 : Int) < (p.size : Int) := by omega
        have HF : Hid (G.headN p.data.toList = 2 ∧ G.headF p.data.toList c = (p[1] == c)) := by have h := head_bs p 0 c h0 h2 (by omega); rw [hd0] at h; exact h
        clear hd0
        go_enter Tryz.func21, Tryz.ntmps21
        go_wp2
        go_quiet (fail)
        go_wp2
        go_ret2
        exact ⟨first_ret _ _ _ _ (by rw [HF.out.1]; rfl) (by rw [HF.out.2]; exact beq_int _ _), _, rfl⟩
      · have h3I : ¬ (1 : Int) < (p.size : Int) := by omega
        have HF : Hid (G.headN p.data.toList = 1 ∧ G.headF p.data.toList c = (p[0] == c)) := by have h := head_bs_end p 0 c h0 h2 (by omega); rw [hd0] at h; exact h
        clear hd0
        go_enter Tryz.func21, Tryz.ntmps21
        go_wp2
        go_quiet (fail)
        go_wp2
        go_ret2
        exact ⟨first_ret _ _ _ _ (by rw [HF.out.1]; rfl) (by rw [HF.out.2]; exact beq_int _ _), _, rfl⟩
  · have HF : Hid (G.headN p.data.toList = 1 ∧ G.headF p.data.toList c = true) := by have h := head_any p 0 c h0 h1; rw [hd0] at h; exact h
    clear hd0
    go_enter Tryz.func21, Tryz.ntmps21
    go_wp2
    go_ret2
    exact ⟨first_ret _ _ _ _ (by rw [HF.out.1]; rfl) (by rw [HF.out.2]), 0, rfl⟩
end Go.Proofs.YtedepknbaakkhaaGreatDoor.GR
