/-
  What joined and withoutNote answer.
-/
import Derived.Test.YtefhpoklehmlhaaDoorL3
namespace Go.Proofs.YtefhpoklehmlhaaDoor
open Go.RowKit Go.Shelf

theorem join_last (f : Bool) (R : List (List UInt8)) (k : Nat) (h : k + 1 = R.length) : Ln.joinT f (R.drop k) = Ln.lf f R[k] := by
  rw [List.drop_eq_getElem_cons (by omega), List.drop_of_length_le (by omega)]; rfl
theorem join_more (f : Bool) (R : List (List UInt8)) (k : Nat) (h : k + 1 < R.length) : Ln.joinT f (R.drop k) = Lib.trimSuffix (Ln.lf f R[k]) [92] ++ 32 :: Ln.joinT false (R.drop (k + 1)) := by
  have e1 := List.drop_eq_getElem_cons (l := R) (i := k) (by omega)
  have e2 := List.drop_eq_getElem_cons (l := R) (i := k + 1) h
  rw [e1, e2, Ln.joinT]

theorem trimL_blank (s : ByteArray) (W : World) : Calls Tryd.prog 35 #[.string s, .string ⟨#[32, 9]⟩] W fun e w' => e = .returned (.string (ba (Lib.trimLeftS (bl s) [32, 9]))) ∧ Below W.heap.size W w' :=
  Any.strings_TrimLeft_laid Tryd.lays161 (by kernel_rfl) s ⟨#[32, 9]⟩ W (by show 2 < 4294967281; omega) (ascii_of_all rfl)
theorem trimR_blank (s : ByteArray) (W : World) (hs : s.size ≤ 9223372036854775807) : Calls Tryd.prog 39 #[.string s, .string ⟨#[32, 9]⟩] W fun e w' => e = .returned (.string (ba (Lib.trimRightS (bl s) [32, 9]))) ∧ Below W.heap.size W w' :=
  Any.strings_TrimRight_laid Tryd.lays162 (by kernel_rfl) s ⟨#[32, 9]⟩ W hs (by show 2 < 4294967281; omega) (ascii_of_all rfl)
theorem trim_blank (s : ByteArray) (W : World) (hs : s.size ≤ 9223372036854775807) : Calls Tryd.prog 25 #[.string s, .string ⟨#[32, 9]⟩] W fun e w' => e = .returned (.string (ba (Lib.trimS (bl s) [32, 9]))) ∧ Below W.heap.size W w' :=
  Any.strings_Trim_laid Tryd.lays160 (by kernel_rfl) s ⟨#[32, 9]⟩ W hs (by show 2 < 4294967281; omega) (ascii_of_all rfl)

set_option maxRecDepth 20000 in
set_option maxHeartbeats 800000 in
theorem joined_any (R : List (List UInt8)) (v : Value) (w : World) (hne : R ≠ []) (hz : wt R ≤ 1000000) (hW : Words w.heap.size w v (R.map ba)) :
    Calls Tryd.prog 43 #[v] w fun e w' => e = .returned (.string (ba (Ln.joinT true R))) ∧ Below w.heap.size w w' := by
  obtain ⟨b, o, c, rfl, hb, hc, hcell⟩ := hW.at (by simpa using hne)
  have hcell2 : ∀ i (h : i < R.length), w.cell? ⟨b, o + i, none⟩ = some (.string (ba R[i])) := fun i h => by have := hcell i (by simpa using h); rwa [List.getElem_map] at this
  rw [List.length_map] at hc ⊢
  obtain ⟨n, hn⟩ : ∃ n, n = R.length := ⟨_, rfl⟩
  have hl : n ≤ 1000000 := by have := wt_len R; omega
  have hn1 : 1 ≤ n := by rw [hn]; exact List.length_pos_iff.2 hne
  have HC : Hid (n = R.length ∧ (∀ i (h : i < R.length), w.cell? ⟨b, o + i, none⟩ = some (.string (ba R[i]))) ∧ wt R ≤ 1000000 ∧ b < w.heap.size) := ⟨hn, hcell2, hz, hb⟩
  rw [← hn] at hc ⊢
  clear hn hcell hcell2 hz hW hne hb
  have HWB : Hid (∀ (p : List UInt8) (W : World), Bu w.heap.size p W → p.length ≤ 600000000 → Calls Tryd.prog 26 #[.pointer (some ⟨w.heap.size, 0, none⟩), .int .u8 32] W fun e w' => e = .returned .nilIface ∧ BuPost w.heap.size (p ++ [32]) W w') := fun p W h h2 => wb_any _ p 32 32 rfl W h h2
  have HWS : Hid (∀ (p : List UInt8) (m : ByteArray) (W : World), Bu w.heap.size p W → p.length ≤ 600000000 → m.size ≤ 600000000 → Calls Tryd.prog 27 #[.pointer (some ⟨w.heap.size, 0, none⟩), .string m] W fun e w' => e = .returned (.tuple #[.int .i64 m.size, .nilIface]) ∧ BuPost w.heap.size (p ++ bl m) W w') := fun p m W h h2 h3 => ws_any _ p m W h h2 h3
  have HBS : Hid (∀ (p : List UInt8) (W : World), Bu w.heap.size p W → Calls Tryd.prog 29 #[.pointer (some ⟨w.heap.size, 0, none⟩)] W fun e w' => e = .returned (.string (ba p)) ∧ Below w.heap.size W w') := fun p W h => bs_any _ p W h
  go_enter Tryd.func43, Tryd.ntmps43
  go_wp2
  go_loopw [8] (fun vi wr => ∃ (k : Nat) (p : List UInt8), k + 1 ≤ n ∧ vi = .int .i64 (k : Int) ∧ p.length ≤ 1000000 ∧ Hid (Bu w.heap.size p wr ∧ Below w.heap.size w wr ∧ Ln.joinT true R = p ++ Ln.joinT (k == 0) (R.drop k))) (fun vi _ => n - (intOf vi).toNat)
  case atStart => exact ⟨0, [], by omega, rfl, by simp, bu_new w, (Below.refl _ _).alloc (Nat.le_refl _) _, by simp⟩
  case round =>
    obtain ⟨k, p, hk, rfl, hp, HI⟩ := hrel
    have hil : (k : Int) < (n : Int) := by omega
    have hkl : k < R.length := by rw [← HC.out.1]; omega
    have hcx : wr.cell? ⟨b, o + k, none⟩ = some (.string (ba R[k])) := by
      rw [HI.out.2.1.cell (p := ⟨b, o + k, none⟩) HC.out.2.2.2]; exact HC.out.2.1 k hkl
    obtain ⟨x, hxe⟩ : ∃ x, x = ba R[k] := ⟨_, rfl⟩
    obtain ⟨y, hye⟩ : ∃ y, y = ba (Ln.lf (k == 0) R[k]) := ⟨_, rfl⟩
    have HXE : Hid (bl x = R[k]) := by rw [hxe]; exact bl_ba _
    have HYE : Hid (bl y = Ln.lf (k == 0) R[k]) := by rw [hye]; exact bl_ba _
    have hys : y.size ≤ 1000000 := by
      have h1 := lf_le (k == 0) R[k]
      have h2 := wt_mem (List.getElem_mem hkl)
      have h3 := HC.out.2.2.1
      rw [hye, ba_size]; omega
    obtain ⟨z, hze⟩ : ∃ z, z = ba (Lib.trimSuffix (bl y) [92]) := ⟨_, rfl⟩
    have hzs : z.size ≤ 600000000 := by
      have h1 := suf_le (bl y) [92]
      rw [bl_length] at h1
      rw [hze, ba_size]; omega
    have HTS : Hid (∀ W, Calls Tryd.prog 61 #[.string y, .string ⟨#[92]⟩] W fun e w' => e = .returned (.string z) ∧ W = w') := fun W =>
      (Tryd.strings_TrimSuffix y ⟨#[92]⟩ W (by omega)).mono fun e w' h => ⟨by rw [h.1, hze]; rfl, h.2.symm⟩
    have HZE : Hid (bl z = Lib.trimSuffix (Ln.lf (k == 0) R[k]) [92]) := by rw [hze, HYE.out]; exact bl_ba _
    have HTL : Hid (∀ W, Calls Tryd.prog 35 #[.string x, .string ⟨#[32, 9]⟩] W fun e w' => e = .returned (.string (ba (Lib.trimLeftS (bl x) [32, 9]))) ∧ Below W.heap.size W w') := fun W => trimL_blank x W
    rw [← hxe] at hcx
    have HJL := join_len true R
    by_cases hk0 : k = 0
    · subst hk0
      have hxy : x = y := by rw [hxe, hye]; rfl
      subst hxy
      have hcx0 : wr.cell? ⟨b, o, none⟩ = some (.string x) := hcx
      clear hcx HTL HXE hxe hye hze
      by_cases hlast : n = 1
      · subst hlast
        have HE : Hid (Ln.joinT true R = p ++ bl x) := by
          unfold Hid; rw [HI.out.2.2, join_last _ R 0 (by rw [← HC.out.1]), HYE.out]
        clear HJL
        go_wp2_with fail
        refine (HWS.out p x _ HI.out.1 (by omega) (by omega)).mono ?_
        rintro e w1 ⟨rfl, h1, h2, h3⟩
        have H1 : Hid (Bu w.heap.size (p ++ bl x) w1 ∧ Below w.heap.size w w1) := ⟨h1, HI.out.2.1.trans h2⟩
        clear h1 h2 h3
        go_wp2_with fail
        refine (HBS.out _ _ H1.out.1).mono ?_
        rintro e w2 ⟨rfl, h1⟩
        have H2 : Hid (Below w.heap.size w w2) := H1.out.2.trans h1
        clear h1
        go_wp2_with fail
        go_ret
        exact ⟨ret_str (by rw [HE.out]), H2⟩
      · have hn0 : ¬ (0 : Int) = (n : Int) - 1 := by omega
        have hn0' : ((0 : Int) == (n : Int) - 1) = false := by simpa using hn0
        have HE : Hid (Ln.joinT true R = p ++ bl z ++ [32] ++ Ln.joinT (0 + 1 == 0) (R.drop (0 + 1))) := by
          unfold Hid; rw [HI.out.2.2, join_more _ R 0 (by have := HC.out.1; omega), HZE.out]; simp
        have hpl : (p ++ bl z ++ [32]).length ≤ 1000000 := by
          have h3 := HC.out.2.2.1
          have := congrArg List.length HE.out
          rw [List.length_append] at this; omega
        have hpl2 : (p ++ bl z).length ≤ 600000000 := by rw [List.length_append] at hpl; omega
        clear HJL
        go_wp2_with (go_at_call 61; refine (HTS.out _).mono ?_; rintro e w' ⟨rfl, rfl⟩; go_wp2_with fail)
        refine (HWS.out p z _ HI.out.1 (by omega) hzs).mono ?_
        rintro e w1 ⟨rfl, h1, h2, h3⟩
        have H1 : Hid (Bu w.heap.size (p ++ bl z) w1 ∧ Below w.heap.size w w1) := ⟨h1, HI.out.2.1.trans h2⟩
        clear h1 h2 h3
        go_wp2_with fail
        refine (HWB.out _ _ H1.out.1 hpl2).mono ?_
        rintro e w2 ⟨rfl, h1, h2, h3⟩
        have H2 : Hid (Bu w.heap.size (p ++ bl z ++ [32]) w2 ∧ Below w.heap.size w w2 ∧ Ln.joinT true R = p ++ bl z ++ [32] ++ Ln.joinT (0 + 1 == 0) (R.drop (0 + 1))) := ⟨h1, H1.out.2.trans h2, HE.out⟩
        clear h1 h2 h3
        go_wp2_with fail
        go_roundw
        case rel => exact ⟨0 + 1, _, by omega, by go_num, hpl, H2⟩
        case measure => simp [intOf]; omega
    · have hk1 : (0 : Int) < (k : Int) := by omega
      have hkb : (k == 0) = false := by simpa using hk0
      have hyx : ba (Lib.trimLeftS (bl x) [32, 9]) = y := by rw [hye, hkb, HXE.out]; rfl
      rw [hyx] at HTL
      clear hyx hxe hye hze HXE hk0
      by_cases hlast : k + 1 = n
      · have HE : Hid (Ln.joinT true R = p ++ bl y) := by
          unfold Hid; rw [HI.out.2.2, join_last _ R k (by rw [← HC.out.1]; exact hlast), HYE.out]
        subst hlast
        clear HJL hkb
        go_wp2_with fail
        refine (HTL.out _).mono ?_
        rintro e w0 ⟨rfl, h1⟩
        have H0 : Hid (Bu w.heap.size p w0 ∧ Below w.heap.size w w0) := ⟨HI.out.1.below h1, below_trans HI.out.2.1 h1 HI.out.2.1.size⟩
        clear h1
        go_wp2_with fail
        refine (HWS.out p y _ H0.out.1 (by omega) (by omega)).mono ?_
        rintro e w1 ⟨rfl, h1, h2, h3⟩
        have H1 : Hid (Bu w.heap.size (p ++ bl y) w1 ∧ Below w.heap.size w w1) := ⟨h1, H0.out.2.trans h2⟩
        clear h1 h2 h3
        go_wp2_with fail
        refine (HBS.out _ _ H1.out.1).mono ?_
        rintro e w2 ⟨rfl, h1⟩
        have H2 : Hid (Below w.heap.size w w2) := H1.out.2.trans h1
        clear h1
        go_wp2_with fail
        go_ret
        exact ⟨ret_str (by rw [HE.out]), H2⟩
      · have hke : ¬ (k : Int) = (n : Int) - 1 := by omega
        have hke' : ((k : Int) == (n : Int) - 1) = false := by simpa using hke
        have HE : Hid (Ln.joinT true R = p ++ bl z ++ [32] ++ Ln.joinT (k + 1 == 0) (R.drop (k + 1))) := by
          unfold Hid; rw [HI.out.2.2, join_more _ R k (by have := HC.out.1; omega), HZE.out, show (k + 1 == 0) = false by simp]; simp
        have hpl : (p ++ bl z ++ [32]).length ≤ 1000000 := by
          have h3 := HC.out.2.2.1
          have := congrArg List.length HE.out
          rw [List.length_append] at this; omega
        have hpl2 : (p ++ bl z).length ≤ 600000000 := by rw [List.length_append] at hpl; omega
        clear HJL hkb
        go_wp2_with fail
        refine (HTL.out _).mono ?_
        rintro e w0 ⟨rfl, h1⟩
        have H0 : Hid (Bu w.heap.size p w0 ∧ Below w.heap.size w w0) := ⟨HI.out.1.below h1, below_trans HI.out.2.1 h1 HI.out.2.1.size⟩
        clear h1
        go_wp2_with (go_at_call 61; refine (HTS.out _).mono ?_; rintro e w' ⟨rfl, rfl⟩; go_wp2_with fail)
        refine (HWS.out p z _ H0.out.1 (by omega) hzs).mono ?_
        rintro e w1 ⟨rfl, h1, h2, h3⟩
        have H1 : Hid (Bu w.heap.size (p ++ bl z) w1 ∧ Below w.heap.size w w1) := ⟨h1, H0.out.2.trans h2⟩
        clear h1 h2 h3
        go_wp2_with fail
        refine (HWB.out _ _ H1.out.1 hpl2).mono ?_
        rintro e w2 ⟨rfl, h1, h2, h3⟩
        have H2 : Hid (Bu w.heap.size (p ++ bl z ++ [32]) w2 ∧ Below w.heap.size w w2 ∧ Ln.joinT true R = p ++ bl z ++ [32] ++ Ln.joinT (k + 1 == 0) (R.drop (k + 1))) := ⟨h1, H1.out.2.trans h2, HE.out⟩
        clear h1 h2 h3
        go_wp2_with fail
        go_roundw
        case rel => exact ⟨k + 1, _, by omega, by go_num, hpl, H2⟩
        case measure => simp [intOf]; omega

theorem replK_len (old new : List UInt8) (h : new.length ≤ old.length) : ∀ (k : Nat) (s : List UInt8), (Lib.replaceK old new k s).length ≤ s.length
  | 0, s => Nat.le_refl _
  | k + 1, s => by
    rw [Lib.replaceK]
    split
    · exact Nat.le_refl _
    · rename_i hm
      have hm' : ¬ Lib.index s old = -1 := by simpa using hm
      have hge := Lib.index_ge s old
      have hr := Lib.index_room s old (by omega)
      have ih := replK_len old new h k (s.drop ((Lib.index s old).toNat + old.length))
      rw [List.length_drop] at ih
      rw [List.length_append, List.length_append, List.length_take]
      omega
theorem repl_len (s : List UInt8) : (Lib.replaceAll s [92, 35] [35]).length ≤ s.length := by
  unfold Lib.replaceAll Lib.replace
  split
  · exact Nat.le_refl _
  · exact replK_len _ _ (by decide) _ _

set_option maxRecDepth 20000 in
set_option maxHeartbeats 400000 in
theorem withoutNote_any (s : ByteArray) (w : World) (hs : s.size ≤ 1000000) (hm : Mx w) :
    Calls Tryd.prog 42 #[.string s] w fun e w' => e = .returned (.string (ba (Ln.bareT (bl s)))) ∧ Below w.heap.size w w' := by
  obtain ⟨m, hm⟩ := hm
  have HN : Hid (∀ W, Calls Tryd.prog 60 #[.string s] W fun e w' => e = .returned (.int .i64 (Ln.note (bl s) : Nat)) ∧ W = w') := fun W => note_any s W hs
  have hnl := Ln.note_le (bl s)
  rw [bl_length] at hnl
  obtain ⟨n, hn⟩ : ∃ n, n = Ln.note (bl s) := ⟨_, rfl⟩
  rw [← hn] at hnl
  have hni : (n : Int) ≤ (s.size : Int) := by omega
  obtain ⟨y, hy⟩ : ∃ y, y = ba (Lib.replaceAll ((bl s).take n) [92, 35] [35]) := ⟨_, rfl⟩
  have hcl := Lib.countB_le ⟨#[92, 35]⟩ (by decide) _ (s.extract 0 n) (Nat.le_refl _)
  have hes : (s.extract 0 n).size ≤ 1000000 := by simp; omega
  have HR : Hid (Calls Tryd.prog 28 #[.string (s.extract 0 n), .string ⟨#[92, 35]⟩, .string ⟨#[35]⟩] w fun e w' => e = .returned (.string y) ∧ Below w.heap.size w w') :=
    (Tryd.strings_ReplaceAll (s.extract 0 n) ⟨#[92, 35]⟩ ⟨#[35]⟩ m w (by omega) hm (by decide) (by show _ + _ * 1 ≤ _; omega)).mono fun e w' h => ⟨by
      rw [h.1, hy]
      have e1 : (s.extract 0 n).data.toList = (bl s).take n := by have := bl_extract s 0 n; rw [List.drop_zero] at this; exact this
      rw [e1]; rfl, h.2⟩
  obtain ⟨z, hz⟩ : ∃ z, z = ba (Lib.trimRightS (bl y) [32, 9]) := ⟨_, rfl⟩
  have HZ : Hid (ba (Ln.bareT (bl s)) = z) := by
    unfold Hid Ln.bareT; rw [hz, ← hn, hy, bl_ba]
  have hys : y.size ≤ 9223372036854775807 := by
    rw [hy, ba_size]
    have := repl_len ((bl s).take n)
    have h2 : ((bl s).take n).length ≤ s.size := by rw [List.length_take, bl_length]; omega
    omega
  have HT : Hid (∀ W, Calls Tryd.prog 39 #[.string y, .string ⟨#[32, 9]⟩] W fun e w' => e = .returned (.string z) ∧ Below W.heap.size W w') := fun W => by
    rw [hz]; exact trimR_blank y W hys
  rw [HZ.out]
  rw [← hn] at HN
  clear hz hy hn HZ hm hes hcl
  go_enter Tryd.func42, Tryd.ntmps42
  go_wp2_with fail
  refine (HN.out _).mono ?_
  rintro e w0 ⟨rfl, rfl⟩
  go_wp2_with fail
  refine HR.out.mono ?_
  rintro e w1 ⟨rfl, h1⟩
  have H1 : Hid (Below w.heap.size w w1) := h1
  clear h1
  go_wp2_with fail
  refine (HT.out _).mono ?_
  rintro e w2 ⟨rfl, h2⟩
  have H2 : Hid (Below w.heap.size w w2) := below_trans H1.out h2 H1.out.size
  clear h2
  go_wp2_with fail
  go_ret
  exact ⟨rfl, H2⟩
end Go.Proofs.YtefhpoklehmlhaaDoor
