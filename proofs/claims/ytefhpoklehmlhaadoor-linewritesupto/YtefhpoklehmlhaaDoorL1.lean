/-
  What takesNext, note, together and rawLines answer.
-/
import Derived.Test.YtefhpoklehmlhaaDoorL0
import Derived.Test.YtefhpoklehmlhaaDoorShelf
import Derived.Shelf.Strings.SlTrimAscii
namespace Go.Proofs.YtefhpoklehmlhaaDoor
open Go.RowKit Go.Shelf

theorem takes_int (x : List UInt8) : (((x.length : Int) - ((Lib.trimRightB x 92).length : Int)) % 2 == 1) = Ln.takes x := by
  unfold Ln.takes
  have := Ln.trim_le x 92
  rw [Bool.eq_iff_iff]
  simp only [beq_iff_eq]
  omega

set_option maxRecDepth 20000 in
set_option maxHeartbeats 400000 in
theorem takes_any (s : ByteArray) (w : World) (hs : s.size ≤ 1000000) :
    Calls Tryd.prog 22 #[.string s] w fun e w' => e = .returned (.bool (Ln.takes (bl s))) ∧ w = w' := by
  have HT : Hid (∀ W, Calls Tryd.prog 39 #[.string s, .string ⟨#[92]⟩] W fun e w' => e = .returned (.string (ba (Lib.trimRightB (bl s) 92))) ∧ W = w') := fun W =>
    (Tryd.strings_TrimRight_one s 92 (by decide) W (by omega)).mono fun e w' h => ⟨h.1, h.2.symm⟩
  have hl := Ln.trim_le (bl s) 92
  rw [bl_length] at hl
  have he := takes_int (bl s)
  rw [bl_length] at he
  obtain ⟨t, ht⟩ : ∃ t, t = ba (Lib.trimRightB (bl s) 92) := ⟨_, rfl⟩
  have hts : (Lib.trimRightB (bl s) 92).length = t.size := by rw [ht, ba_size]
  rw [← ht] at HT
  rw [hts] at hl he
  have HE : Hid ((((s.size : Int) - (t.size : Int)) % 2 == 1) = Ln.takes (bl s)) := he
  clear ht hts he
  have hw : (0 : Int) ≤ (s.size : Int) - (t.size : Int) := by omega
  go_enter Tryd.func22, Tryd.ntmps22
  go_wp2_with fail
  refine (HT.out _).mono ?_
  rintro e w' ⟨rfl, rfl⟩
  go_wp2
  go_ret
  exact ⟨ret_bool (by rw [← HE.out]), rfl⟩

theorem noteAt_go {acc : List UInt8} {c : UInt8} {t : List UInt8} (h : ¬ (c = 35 ∧ Ln.takes acc = false)) : Ln.noteAt acc (c :: t) = Ln.noteAt (acc ++ [c]) t := by
  rw [Ln.noteAt, if_neg h]
theorem noteAt_stop {acc : List UInt8} {c : UInt8} {t : List UInt8} (h : c = 35) (h2 : Ln.takes acc = false) : Ln.noteAt acc (c :: t) = acc.length := by
  rw [Ln.noteAt, if_pos ⟨h, h2⟩]

set_option maxRecDepth 20000 in
set_option maxHeartbeats 400000 in
theorem note_any (s : ByteArray) (w : World) (hs : s.size ≤ 1000000) :
    Calls Tryd.prog 60 #[.string s] w fun e w' => e = .returned (.int .i64 (Ln.note (bl s) : Nat)) ∧ w = w' := by
  go_enter Tryd.func60, Tryd.ntmps60
  go_wp2
  go_loopw [6] (fun vi wr => ∃ k : Nat, k ≤ s.size ∧ vi = .int .i64 k ∧ w = wr ∧ Hid (Ln.note (bl s) = Ln.noteAt ((bl s).take k) ((bl s).drop k))) (fun vi _ => s.size - (intOf vi).toNat)
  case atStart => exact ⟨0, Nat.zero_le _, rfl, rfl, by simp [Hid, Ln.note]⟩
  case round =>
    obtain ⟨k, hk, rfl, rfl, HA⟩ := hrel
    by_cases hlt : k < s.size
    · have hil : (k : Int) < (s.size : Int) := by omega
      have hd := drop_bl s k hlt
      have hts := take_snoc s k hlt
      obtain ⟨c, hc⟩ : ∃ c, c = s[k] := ⟨_, rfl⟩
      obtain ⟨cn, hcn⟩ : ∃ cn : Int, cn = (s[k].toNat : Int) := ⟨_, rfl⟩
      have hgk : (s[k].toNat : Int) = cn := hcn.symm
      rw [← hc] at hd hts
      have HCC : Hid (cn = (c.toNat : Int)) := by rw [hcn, hc]; rfl
      have HD : Hid ((bl s).drop k = c :: (bl s).drop (k + 1) ∧ (bl s).take (k + 1) = (bl s).take k ++ [c]) := ⟨hd, hts⟩
      clear hcn hc hd hts
      by_cases h35 : c = 35
      · have t1 : cn = 35 := by rw [HCC.out, h35]; rfl
        have HT : Hid (∀ W, Calls Tryd.prog 22 #[.string (s.extract 0 k)] W fun e w' => e = .returned (.bool (Ln.takes ((bl s).take k))) ∧ W = w') := fun W => by
          have := takes_any (s.extract 0 k) W (by simp; omega)
          rw [bl_extract] at this
          exact this
        cases ht : Ln.takes ((bl s).take k) with
        | true =>
          have HA1 : Hid (Ln.note (bl s) = Ln.noteAt ((bl s).take (k + 1)) ((bl s).drop (k + 1))) := by
            unfold Hid
            rw [HA.out, HD.out.1, noteAt_go (fun h => by rw [ht] at h; cases h.2), HD.out.2]
          rw [ht] at HT
          clear ht h35
          go_wp2_with (go_at_call 22; refine (HT.out _).mono ?_; rintro e w' ⟨rfl, rfl⟩)
          go_roundw
          case rel => exact ⟨k + 1, by omega, by go_num, trivial, HA1⟩
          case measure => simp [intOf]; omega
        | false =>
          have HA1 : Hid (Ln.note (bl s) = k) := by
            unfold Hid
            rw [HA.out, HD.out.1, noteAt_stop h35 ht, List.length_take, bl_length]; omega
          rw [ht] at HT
          clear ht h35
          go_wp2_with (go_at_call 22; refine (HT.out _).mono ?_; rintro e w' ⟨rfl, rfl⟩)
          go_ret
          exact ⟨ret_int (by rw [HA1.out]), rfl⟩
      · have t1 : ¬ cn = 35 := by
          rw [HCC.out]; intro h; apply h35; rw [u8_eq_iff]; show c.toNat = 35; omega
        have t2 : (cn == 35) = false := by simpa using t1
        have HA1 : Hid (Ln.note (bl s) = Ln.noteAt ((bl s).take (k + 1)) ((bl s).drop (k + 1))) := by
          unfold Hid
          rw [HA.out, HD.out.1, noteAt_go (fun h => h35 h.1), HD.out.2]
        clear h35
        go_wp2
        go_roundw
        case rel => exact ⟨k + 1, by omega, by go_num, trivial, HA1⟩
        case measure => simp [intOf]; omega
    · have hke : k = s.size := by omega
      have HA1 : Hid (Ln.note (bl s) = s.size) := by
        unfold Hid
        rw [HA.out, hke, drop_all, take_all, Ln.noteAt, bl_length]
      clear hke
      go_wp2
      go_ret
      exact ⟨ret_int (by rw [HA1.out]), rfl⟩
end Go.Proofs.YtefhpoklehmlhaaDoor
