/-
  What the document's Blank, left and Word answer.
-/
import Derived.Test.YtefhpoklehmlhaaDoorL19
namespace Go.Proofs.YtefhpoklehmlhaaDoor
open Go.RowKit Go.Shelf

theorem isB_or (c : UInt8) : isB c = (((c.toNat : Int) == 32) || ((c.toNat : Int) == 9)) := by
  have e1 := u8_beq c 32 32 rfl
  have e2 := u8_beq c 9 9 rfl
  have e3 : isB c = ((c == 32) || (c == 9)) := by
    unfold isB
    rw [List.contains_cons, List.contains_cons, List.contains_nil, Bool.or_false]
  rw [e3, ← e1, ← e2]; rfl

set_option maxRecDepth 20000 in
set_option maxHeartbeats 400000 in
theorem rblank_any (c : UInt8) (w : World) : Calls Tryd.prog 37 #[.int .u8 (c.toNat : Int)] w fun e w' => e = .returned (.bool (isB c)) ∧ w = w' := by
  have HE : Hid (isB c = (((c.toNat : Int) == 32) || ((c.toNat : Int) == 9))) := isB_or c
  obtain ⟨cn, hcn⟩ : ∃ cn : Int, cn = (c.toNat : Int) := ⟨_, rfl⟩
  rw [← hcn] at HE ⊢
  clear hcn
  by_cases h1 : cn = 32
  · subst h1
    go_enter Tryd.func37, Tryd.ntmps37
    go_wp2_with fail
    go_ret
    exact ⟨ret_bool (by rw [HE.out]; rfl), rfl⟩
  · have b1 : (cn == 32) = false := by simpa using h1
    by_cases h2 : cn = 9
    · subst h2
      go_enter Tryd.func37, Tryd.ntmps37
      go_wp2_with fail
      go_ret
      exact ⟨ret_bool (by rw [HE.out]; rfl), rfl⟩
    · have b2 : (cn == 9) = false := by simpa using h2
      have HE2 : Hid (isB c = false) := by unfold Hid; rw [HE.out, b1, b2]; rfl
      go_enter Tryd.func37, Tryd.ntmps37
      go_wp2_with fail
      go_ret
      exact ⟨ret_bool (by rw [HE2.out]), rfl⟩

def szV : Value → Nat
  | .string x => x.size
  | _ => 0

set_option maxRecDepth 20000 in
set_option maxHeartbeats 400000 in
theorem rleft_any (s : ByteArray) (w : World) (_hs : s.size ≤ 1100000) :
    Calls Tryd.prog 33 #[.string s] w fun e w' => e = .returned (.string (ba (ltrim (bl s)))) ∧ w = w' := by
  go_enter Tryd.func33, Tryd.ntmps33
  go_wp2
  go_loopw [0] (fun v wr => ∃ x : ByteArray, v = .string x ∧ x.size ≤ s.size ∧ w = wr ∧ Hid (ltrim (bl s) = ltrim (bl x))) (fun v _ => szV v)
  case atStart => exact ⟨s, rfl, Nat.le_refl _, rfl, rfl⟩
  case round =>
    obtain ⟨x, rfl, hx, rfl, HX⟩ := hrel
    by_cases h0 : 0 < x.size
    · have h0i : (0 : Int) < (x.size : Int) := by omega
      have h1i : (1 : Int) ≤ (x.size : Int) := by omega
      have hd := drop_bl x 0 h0
      rw [List.drop_zero] at hd
      obtain ⟨c, hc⟩ : ∃ c, c = x[0] := ⟨_, rfl⟩
      obtain ⟨cn, hcn⟩ : ∃ cn : Int, cn = (x[0].toNat : Int) := ⟨_, rfl⟩
      have hg0 : (x[0].toNat : Int) = cn := hcn.symm
      have HB : Hid (∀ W, Calls Tryd.prog 37 #[.int .u8 cn] W fun e w' => e = .returned (.bool (isB c)) ∧ W = w') := fun W => by rw [hcn, ← hc]; exact rblank_any c W
      rw [← hc] at hd
      have HD : Hid (bl x = c :: (bl x).drop (0 + 1)) := hd
      clear hc hcn hd
      cases hb : isB c with
      | true =>
        rw [hb] at HB
        obtain ⟨y, hy⟩ : ∃ y, y = x.extract 1 x.size := ⟨_, rfl⟩
        have hyb : bl y = (bl x).drop 1 := by rw [hy, bl_extract, take_all]
        have hys : y.size = x.size - 1 := by rw [hy]; simp
        have HX1 : Hid (ltrim (bl s) = ltrim (bl y)) := by
          unfold Hid; rw [HX.out, HD.out, ltrim_hit _ hb, hyb]
        have hsl : ∀ W, (Instr.slice 9 (.string x) (some (.int .i64 1)) none none).run Tryd.prog W = .ok (.string y) W := by
          intro W; rw [hy]; exact run_slice_string_l (P := Tryd.prog) W 9 x Tryd.underlying9 .i64 1 (by omega) (by omega)
        clear hb hy hyb
        go_wp2_with (go_at_call 37; refine (HB.out _).mono ?_; rintro e w' ⟨rfl, rfl⟩; go_wp2_with fail)
        go_roundw
        case rel => exact ⟨y, rfl, by omega, trivial, HX1⟩
        case measure => show y.size < x.size; omega
      | false =>
        rw [hb] at HB
        have HX1 : Hid (ba (ltrim (bl s)) = x) := by
          unfold Hid; rw [HX.out, HD.out, ltrim_miss _ hb, ← HD.out, ba_bl]
        clear hb
        go_wp2_with (go_at_call 37; refine (HB.out _).mono ?_; rintro e w' ⟨rfl, rfl⟩; go_wp2_with fail)
        go_ret
        exact ⟨ret_str HX1.out.symm, rfl⟩
    · have h0i : ¬ (0 : Int) < (x.size : Int) := by omega
      have HX1 : Hid (ba (ltrim (bl s)) = x) := by
        have hx0 : bl x = [] := List.length_eq_zero_iff.1 (by rw [bl_length]; omega)
        unfold Hid; rw [HX.out, hx0]
        show ba [] = x
        rw [← hx0, ba_bl]
      go_wp2_with fail
      go_ret
      exact ⟨ret_str HX1.out.symm, rfl⟩

theorem tw_go (s : ByteArray) (k : Nat) (hk : k < s.size) (h : isB s[k] = false) : ((bl s).drop k).takeWhile (fun c => !isB c) = s[k] :: ((bl s).drop (k + 1)).takeWhile (fun c => !isB c) ∧ ((bl s).drop k).dropWhile (fun c => !isB c) = ((bl s).drop (k + 1)).dropWhile (fun c => !isB c) := by
  rw [drop_bl s k hk]; simp [h]
theorem tw_stop (s : ByteArray) (k : Nat) (hk : k < s.size) (h : isB s[k] = true) : ((bl s).drop k).takeWhile (fun c => !isB c) = [] ∧ ((bl s).drop k).dropWhile (fun c => !isB c) = (bl s).drop k := by
  rw [drop_bl s k hk]; simp [h]

set_option maxRecDepth 20000 in
set_option maxHeartbeats 600000 in
theorem rword_any (s : ByteArray) (w : World) (hs : s.size ≤ 1100000) :
    Calls Tryd.prog 18 #[.string s] w fun e w' => e = .returned (.tuple #[.string (ba (wordA (bl s))), .string (ba (wordB (bl s)))]) ∧ Below w.heap.size w w' := by
  have hll := left_le (bl s) [32, 9]
  rw [bl_length] at hll
  obtain ⟨t, ht⟩ : ∃ t, t = ba (ltrim (bl s)) := ⟨_, rfl⟩
  have htb : bl t = ltrim (bl s) := by rw [ht, bl_ba]
  have hts : t.size ≤ 1100000 := by rw [ht, ba_size]; unfold ltrim; omega
  have HL : Hid (∀ W, Calls Tryd.prog 33 #[.string s] W fun e w' => e = .returned (.string t) ∧ W = w') := fun W => by rw [ht]; exact rleft_any s W hs
  obtain ⟨A, hA⟩ : ∃ A, A = ba (wordA (bl s)) := ⟨_, rfl⟩
  obtain ⟨B, hB⟩ : ∃ B, B = ba (wordB (bl s)) := ⟨_, rfl⟩
  have HAB : Hid (A = ba ((bl t).takeWhile fun c => !isB c) ∧ B = ba (ltrim ((bl t).dropWhile fun c => !isB c))) := by
    unfold Hid; rw [hA, hB, htb]; exact ⟨rfl, rfl⟩
  rw [← hA, ← hB]
  clear hA hB ht htb
  go_enter Tryd.func18, Tryd.ntmps18
  go_wp2_with fail
  refine (HL.out _).mono ?_
  rintro e w0 ⟨rfl, rfl⟩
  go_wp2_with fail
  go_loopw [4] (fun vi wr => ∃ k : Nat, k ≤ t.size ∧ vi = .int .i64 (k : Int) ∧ w = wr ∧ Hid ((bl t).takeWhile (fun c => !isB c) = (bl t).take k ++ ((bl t).drop k).takeWhile (fun c => !isB c) ∧ (bl t).dropWhile (fun c => !isB c) = ((bl t).drop k).dropWhile (fun c => !isB c))) (fun vi _ => t.size - (intOf vi).toNat)
  case atStart => exact ⟨0, Nat.zero_le _, rfl, rfl, by simp, by simp⟩
  case round =>
    obtain ⟨k, hk, rfl, rfl, HK⟩ := hrel
    by_cases hlt : k < t.size
    · have hil : (k : Int) < (t.size : Int) := by omega
      have hle : (k : Int) ≤ (t.size : Int) := by omega
      have htk := take_snoc t k hlt
      have hgo := tw_go t k hlt
      have hst := tw_stop t k hlt
      obtain ⟨c, hc⟩ : ∃ c, c = t[k] := ⟨_, rfl⟩
      obtain ⟨cn, hcn⟩ : ∃ cn : Int, cn = (t[k].toNat : Int) := ⟨_, rfl⟩
      have hgk : (t[k].toNat : Int) = cn := hcn.symm
      have HB : Hid (∀ W, Calls Tryd.prog 37 #[.int .u8 cn] W fun e w' => e = .returned (.bool (isB c)) ∧ W = w') := fun W => by rw [hcn, ← hc]; exact rblank_any c W
      rw [← hc] at htk hgo hst
      cases hb : isB c with
      | false =>
        have HK1 : Hid ((bl t).takeWhile (fun c => !isB c) = (bl t).take (k + 1) ++ ((bl t).drop (k + 1)).takeWhile (fun c => !isB c) ∧ (bl t).dropWhile (fun c => !isB c) = ((bl t).drop (k + 1)).dropWhile (fun c => !isB c)) := by
          obtain ⟨g1, g2⟩ := hgo hb
          refine ⟨?_, by rw [HK.out.2, g2]⟩
          rw [HK.out.1, g1, htk]; simp
        rw [hb] at HB
        clear hb hc hcn htk hgo hst
        go_wp2_with (go_at_call 37; refine (HB.out _).mono ?_; rintro e w' ⟨rfl, rfl⟩; go_wp2_with fail)
        go_roundw
        case rel => exact ⟨k + 1, by omega, by go_num, trivial, HK1⟩
        case measure => simp [intOf]; omega
      | true =>
        obtain ⟨g1, g2⟩ := hst hb
        obtain ⟨x, hx⟩ : ∃ x, x = t.extract 0 k := ⟨_, rfl⟩
        obtain ⟨y, hy⟩ : ∃ y, y = t.extract k t.size := ⟨_, rfl⟩
        have hxb : bl x = (bl t).take k := by rw [hx, bl_extract, List.drop_zero]
        have hyb : bl y = (bl t).drop k := by rw [hy, bl_extract, take_all]
        have hys : y.size ≤ 1100000 := by rw [← bl_length, hyb, List.length_drop, bl_length]; omega
        have HAX : Hid (A = x) := by
          unfold Hid; rw [HAB.out.1, HK.out.1, g1, List.append_nil, ← hxb, ba_bl]
        have HLY : Hid (∀ W, Calls Tryd.prog 33 #[.string y] W fun e w' => e = .returned (.string B) ∧ w' = W) := fun W =>
          (rleft_any y W hys).mono fun e w' h => ⟨by rw [h.1, HAB.out.2, HK.out.2, g2, hyb], h.2.symm⟩
        have hs1 : ∀ W, (Instr.slice 9 (.string t) none (some (.int .i64 (k : Int))) none).run Tryd.prog W = .ok (.string x) W := by
          intro W; rw [hx]; exact run_slice_string_h (P := Tryd.prog) W 9 t Tryd.underlying9 .i64 k (by omega) (by omega)
        have hs2 : ∀ W, (Instr.slice 9 (.string t) (some (.int .i64 (k : Int))) none none).run Tryd.prog W = .ok (.string y) W := by
          intro W; rw [hy]; exact run_slice_string_l (P := Tryd.prog) W 9 t Tryd.underlying9 .i64 k (by omega) (by omega)
        rw [hb] at HB
        clear hb hc hcn htk hgo hst hx hy hxb hyb g1 g2
        go_wp2_with (go_at_call 37; refine (HB.out _).mono ?_; rintro e w' ⟨rfl, rfl⟩; go_wp2_with fail)
        go_quiet ((go_at_call 33; exact Calls.quiet_of_same (HLY.out _)))
        go_wp2_with fail
        go_ret2
        exact ⟨by rw [HAX.out]; rfl, below_drewN (Below.refl _ _) _⟩
    · have hke : ¬ (k : Int) < (t.size : Int) := by omega
      have HE : Hid (A = t ∧ B = ⟨#[]⟩) := by
        have hd : (bl t).drop k = [] := List.drop_of_length_le (by rw [bl_length]; omega)
        unfold Hid
        rw [HAB.out.1, HAB.out.2, HK.out.1, HK.out.2, hd]
        refine ⟨?_, rfl⟩
        rw [List.takeWhile_nil, List.append_nil, List.take_of_length_le (by rw [bl_length]; omega), ba_bl]
      go_wp2_with fail
      go_ret2
      exact ⟨by rw [HE.out.1, HE.out.2]; rfl, Below.refl _ _⟩
end Go.Proofs.YtefhpoklehmlhaaDoor
