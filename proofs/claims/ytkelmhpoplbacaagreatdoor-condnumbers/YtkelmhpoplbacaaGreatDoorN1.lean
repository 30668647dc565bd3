/-
  What the library's ParseUint does at digits that are all of the base (10 or 16), at 63 bits.
-/
import Derived.Test.YtkelmhpoplbacaaGreatDoorNBase
namespace Go.Proofs.YtkelmhpoplbacaaGreatDoor.N
open Go.RowKit Go.Shelf Go.Proofs.YtkelmhpoplbacaaGreatDoor

theorem lower_any (c : Int) (w : World) :
    Calls Tryz.prog 160 #[.int .u8 c] w fun e w' => e = .returned (.int .u8 (bits .or .u8 c 32)) ∧ w = w' := by
  go_enter Tryz.func160, Tryz.ntmps160
  go_wp2
  go_ret
  exact ⟨rfl, rfl⟩
theorem lower_letter : ∀ c : UInt8, ¬ (48 ≤ c.toNat ∧ c.toNat ≤ 57) → val1 c < 16 → ∃ d : Nat, bits .or .u8 (c.toNat : Int) 32 = (d : Int) ∧ 97 ≤ d ∧ d ≤ 102 ∧ val1 c = d - 87 := by
  intro c h1 h2
  have hc : (97 ≤ c.toNat ∧ c.toNat ≤ 102) ∨ (65 ≤ c.toNat ∧ c.toNat ≤ 70) := by
    unfold val1 at h2
    rw [if_neg h1] at h2
    by_cases h3 : 97 ≤ c.toNat ∧ c.toNat ≤ 102
    · exact .inl h3
    · rw [if_neg h3] at h2
      by_cases h4 : 65 ≤ c.toNat ∧ c.toNat ≤ 70
      · exact .inr h4
      · rw [if_neg h4] at h2; omega
  have hlo : ∀ n : Fin 256, (97 ≤ n.val ∧ n.val ≤ 102) → bits .or .u8 (n.val : Int) 32 = (n.val : Int) := by decide +kernel
  have hhi : ∀ n : Fin 256, (65 ≤ n.val ∧ n.val ≤ 70) → bits .or .u8 (n.val : Int) 32 = ((n.val + 32 : Nat) : Int) := by decide +kernel
  rcases hc with h | h
  · refine ⟨c.toNat, hlo ⟨c.toNat, c.toNat_lt⟩ h, h.1, h.2, ?_⟩
    unfold val1
    rw [if_neg h1, if_pos h]
  · refine ⟨c.toNat + 32, hhi ⟨c.toNat, c.toNat_lt⟩ h, by omega, by omega, ?_⟩
    unfold val1
    rw [if_neg h1, if_neg (by omega), if_pos h]
    omega

set_option maxHeartbeats 4000000 in
set_option maxRecDepth 100000 in
theorem puint10 (t : ByteArray) (hok : okD 10 (bl t) = true) (hmax : t.size ≤ 9223372036854775806) (w : World) :
    Calls Tryz.prog 144 #[.string t, .int .i64 10, .int .i64 63] w fun e w' => e = .returned (puV (numV 10 0 (bl t))) ∧ w' = Lib.bytesWorld w 5 t := by
  have hne : bl t ≠ [] := by
    intro e
    rw [e] at hok
    exact absurd hok (by decide)
  have hall : ∀ c ∈ bl t, val1 c < 10 := by
    unfold okD at hok
    rw [Bool.and_eq_true] at hok
    intro c hc
    exact of_decide_eq_true (List.all_eq_true.1 hok.2 c hc)
  have hemp : t.toList.isEmpty = false := nonempty hne
  have hcv := Lib.run_convert_string_bytes (P := Tryz.prog) w 9 64 5 t (u := .string) (by kernel_rfl) (by kernel_rfl) (by kernel_rfl)
  have hB : ∀ j, j < t.size → (Lib.bytesWorld w 5 t).cell? ⟨w.heap.size, j, none⟩ = some (.int .u8 (t.data.toList.getD j 0).toNat) := fun j hj => Lib.bytesWorld_cell w 5 t j hj
  obtain ⟨W1, hW1⟩ : ∃ W1, W1 = Lib.bytesWorld w 5 t := ⟨_, rfl⟩
  rw [← hW1] at hcv hB ⊢
  clear hW1
  obtain ⟨bs, hL⟩ : ∃ bs, bs = t.data.toList := ⟨_, rfl⟩
  have hLn : bs.length = t.size := by rw [hL, Lib.size_eq]
  rw [← hL] at hB
  rw [show bl t = bs from hL.symm] at hall ⊢
  clear hL hok hne
  have hmv : IntKind.u64.wrap (IntKind.u64.wrap 9223372036854775808 - 1) = 9223372036854775807 := by
    rw [IntKind.wrap_u64, IntKind.wrap_u64]
    decide
  go_enter Tryz.func144, Tryz.ntmps144
  go_wp2
  go_loop [12, 13, 101] (fun vu vn vi => ∃ (k acc : Nat) (a : Int), vu = .bool false ∧ vn = .int .u64 a ∧ vi = .int .i64 k ∧ k ≤ t.size ∧ Hid (a = (acc : Int) ∧ acc < 9223372036854775808 ∧ numV 10 0 bs = numV 10 acc (bs.drop k)))
    (fun _ _ vi => t.size - (intOf vi).toNat)
  case atStart => exact ⟨0, 0, 0, rfl, rfl, rfl, by omega, rfl, by omega, rfl⟩
  case round =>
    obtain ⟨k, acc, a, rfl, rfl, rfl, hk, hh⟩ := hrel
    obtain ⟨ha, hacc, hdec⟩ := hh.out
    clear hh
    have a0 : 0 ≤ a := by omega
    have a1 : a < 9223372036854775808 := by omega
    by_cases hkn : k < t.size
    · have hc := hB k hkn
      have hdrop : bs.drop k = bs[k]'(by omega) :: bs.drop (k + 1) := List.drop_eq_getElem_cons (by omega)
      have hget : bs.getD k 0 = bs[k]'(by omega) := by simp [List.getD, List.getElem?_eq_getElem (show k < bs.length by omega)]
      have hcm : bs[k]'(by omega) ∈ bs := List.getElem_mem _
      rw [hdrop] at hdec
      rw [hget] at hc
      generalize bs[k]'(by omega) = c at hc hdec hcm
      have hc256 : c.toNat < 256 := c.toNat_lt
      clear hB hdrop hget
      by_cases hdig : 48 ≤ c.toNat ∧ c.toNat ≤ 57
      · have hv : val1 c = c.toNat - 48 := by unfold val1; rw [if_pos hdig]
        have hvb := hall c hcm
        clear hall hcm
        obtain ⟨hd0, hd1⟩ := hdig
        by_cases hcut : 1844674407370955162 ≤ acc
        · have HR : Hid (puV (numV 10 0 bs) = _) := puV_over (v := numV 10 0 bs) (by rw [hdec, numV_cons]; exact Nat.le_trans (by omega) (numV_ge 10 (by decide) _ _))
          have icut : 1844674407370955162 ≤ a := by omega
          clear hcut hacc hdec ha hv hvb
          go_wp2
          go_ret2
          exact ⟨by rw [HR.out]; rfl, rfl⟩
        by_cases hov : 18446744073709551616 ≤ acc * 10 + val1 c
        · have HR : Hid (puV (numV 10 0 bs) = _) := puV_over (v := numV 10 0 bs) (by rw [hdec, numV_cons]; exact Nat.le_trans (by omega) (numV_ge 10 (by decide) _ _))
          have icut : a < 1844674407370955162 := by omega
          have iov : 18446744073709551616 ≤ a * 10 + ((c.toNat : Int) - 48) := by omega
          have hwr : IntKind.u64.wrap (a * 10 + ((c.toNat : Int) - 48)) = a * 10 + ((c.toNat : Int) - 48) - 18446744073709551616 := by
            rw [IntKind.wrap_u64]
            omega
          clear hcut hacc hdec hov ha hv hvb
          go_wp2
          go_ret2
          exact ⟨by rw [HR.out]; rfl, rfl⟩
        by_cases hov2 : 9223372036854775808 ≤ acc * 10 + val1 c
        · have HR : Hid (puV (numV 10 0 bs) = _) := puV_over (v := numV 10 0 bs) (by rw [hdec, numV_cons]; exact Nat.le_trans (by omega) (numV_ge 10 (by decide) _ _))
          have icut : a < 1844674407370955162 := by omega
          have iov : 9223372036854775807 < a * 10 + ((c.toNat : Int) - 48) := by omega
          have iov2 : a * 10 + ((c.toNat : Int) - 48) < 18446744073709551616 := by omega
          clear hcut hacc hdec hov2 ha hv hvb hov
          go_wp2
          go_ret2
          exact ⟨by rw [HR.out]; rfl, rfl⟩
        have HN : Hid (a * 10 + ((c.toNat : Int) - 48) = ((acc * 10 + val1 c : Nat) : Int) ∧ acc * 10 + val1 c < 9223372036854775808 ∧ numV 10 0 bs = numV 10 (acc * 10 + val1 c) (bs.drop (k + 1))) := ⟨by omega, by omega, by rw [hdec, numV_cons]⟩
        have icut : a < 1844674407370955162 := by omega
        have iov : a * 10 + ((c.toNat : Int) - 48) ≤ 9223372036854775807 := by omega
        clear hcut hacc hov2 hdec ha hv hvb hov
        go_wp2
        refine ⟨⟨k + 1, acc * 10 + val1 c, a * 10 + ((c.toNat : Int) - 48), rfl, (by first | rfl | (congr 1; omega)), (by first | rfl | (congr 1; omega)), by omega, HN⟩, by simp [intOf]; omega⟩
      · exact absurd (hall c hcm) (by unfold val1; rw [if_neg hdig]; split; omega; split; omega; omega)
    · have hkk : k = t.size := by omega
      subst hkk
      have hF : numV 10 acc (bs.drop t.size) = acc := by rw [List.drop_eq_nil_of_le (by omega)]; rfl
      rw [hF] at hdec
      have HR : Hid (puV (numV 10 0 bs) = .tuple #[.int .u64 a, .nilIface]) := by unfold Hid; rw [hdec, ha]; exact puV_in hacc
      clear hacc hF hdec ha hall
      go_wp2
      go_ret2
      exact ⟨by rw [HR.out]; rfl, rfl⟩

set_option maxHeartbeats 4000000 in
set_option maxRecDepth 100000 in
theorem puint16 (t : ByteArray) (hok : okD 16 (bl t) = true) (hmax : t.size ≤ 9223372036854775806) (w : World) :
    Calls Tryz.prog 144 #[.string t, .int .i64 16, .int .i64 63] w fun e w' => e = .returned (puV (numV 16 0 (bl t))) ∧ w' = Lib.bytesWorld w 5 t := by
  have hne : bl t ≠ [] := by
    intro e
    rw [e] at hok
    exact absurd hok (by decide)
  have hall : ∀ c ∈ bl t, val1 c < 16 := by
    unfold okD at hok
    rw [Bool.and_eq_true] at hok
    intro c hc
    exact of_decide_eq_true (List.all_eq_true.1 hok.2 c hc)
  have hemp : t.toList.isEmpty = false := nonempty hne
  have hcv := Lib.run_convert_string_bytes (P := Tryz.prog) w 9 64 5 t (u := .string) (by kernel_rfl) (by kernel_rfl) (by kernel_rfl)
  have hB : ∀ j, j < t.size → (Lib.bytesWorld w 5 t).cell? ⟨w.heap.size, j, none⟩ = some (.int .u8 (t.data.toList.getD j 0).toNat) := fun j hj => Lib.bytesWorld_cell w 5 t j hj
  obtain ⟨W1, hW1⟩ : ∃ W1, W1 = Lib.bytesWorld w 5 t := ⟨_, rfl⟩
  rw [← hW1] at hcv hB ⊢
  clear hW1
  obtain ⟨bs, hL⟩ : ∃ bs, bs = t.data.toList := ⟨_, rfl⟩
  have hLn : bs.length = t.size := by rw [hL, Lib.size_eq]
  rw [← hL] at hB
  rw [show bl t = bs from hL.symm] at hall ⊢
  clear hL hok hne
  have hmv : IntKind.u64.wrap (IntKind.u64.wrap 9223372036854775808 - 1) = 9223372036854775807 := by
    rw [IntKind.wrap_u64, IntKind.wrap_u64]
    decide
  go_enter Tryz.func144, Tryz.ntmps144
  go_wp2
  go_loop [12, 13, 101] (fun vu vn vi => ∃ (k acc : Nat) (a : Int), vu = .bool false ∧ vn = .int .u64 a ∧ vi = .int .i64 k ∧ k ≤ t.size ∧ Hid (a = (acc : Int) ∧ acc < 9223372036854775808 ∧ numV 16 0 bs = numV 16 acc (bs.drop k)))
    (fun _ _ vi => t.size - (intOf vi).toNat)
  case atStart => exact ⟨0, 0, 0, rfl, rfl, rfl, by omega, rfl, by omega, rfl⟩
  case round =>
    obtain ⟨k, acc, a, rfl, rfl, rfl, hk, hh⟩ := hrel
    obtain ⟨ha, hacc, hdec⟩ := hh.out
    clear hh
    have a0 : 0 ≤ a := by omega
    have a1 : a < 9223372036854775808 := by omega
    by_cases hkn : k < t.size
    · have hc := hB k hkn
      have hdrop : bs.drop k = bs[k]'(by omega) :: bs.drop (k + 1) := List.drop_eq_getElem_cons (by omega)
      have hget : bs.getD k 0 = bs[k]'(by omega) := by simp [List.getD, List.getElem?_eq_getElem (show k < bs.length by omega)]
      have hcm : bs[k]'(by omega) ∈ bs := List.getElem_mem _
      rw [hdrop] at hdec
      rw [hget] at hc
      generalize bs[k]'(by omega) = c at hc hdec hcm
      have hc256 : c.toNat < 256 := c.toNat_lt
      clear hB hdrop hget
      by_cases hdig : 48 ≤ c.toNat ∧ c.toNat ≤ 57
      · have hv : val1 c = c.toNat - 48 := by unfold val1; rw [if_pos hdig]
        have hvb := hall c hcm
        clear hall hcm
        obtain ⟨hd0, hd1⟩ := hdig
        by_cases hcut : 1152921504606846976 ≤ acc
        · have HR : Hid (puV (numV 16 0 bs) = _) := puV_over (v := numV 16 0 bs) (by rw [hdec, numV_cons]; exact Nat.le_trans (by omega) (numV_ge 16 (by decide) _ _))
          have icut : 1152921504606846976 ≤ a := by omega
          clear hcut hacc hdec ha hv hvb
          go_wp2
          go_ret2
          exact ⟨by rw [HR.out]; rfl, rfl⟩
        by_cases hov2 : 9223372036854775808 ≤ acc * 16 + val1 c
        · have HR : Hid (puV (numV 16 0 bs) = _) := puV_over (v := numV 16 0 bs) (by rw [hdec, numV_cons]; exact Nat.le_trans (by omega) (numV_ge 16 (by decide) _ _))
          have icut : a < 1152921504606846976 := by omega
          have iov : 9223372036854775807 < a * 16 + ((c.toNat : Int) - 48) := by omega
          have iov2 : a * 16 + ((c.toNat : Int) - 48) < 18446744073709551616 := by omega
          clear hcut hacc hdec hov2 ha hv hvb
          go_wp2
          go_ret2
          exact ⟨by rw [HR.out]; rfl, rfl⟩
        have HN : Hid (a * 16 + ((c.toNat : Int) - 48) = ((acc * 16 + val1 c : Nat) : Int) ∧ acc * 16 + val1 c < 9223372036854775808 ∧ numV 16 0 bs = numV 16 (acc * 16 + val1 c) (bs.drop (k + 1))) := ⟨by omega, by omega, by rw [hdec, numV_cons]⟩
        have icut : a < 1152921504606846976 := by omega
        have iov : a * 16 + ((c.toNat : Int) - 48) ≤ 9223372036854775807 := by omega
        clear hcut hacc hov2 hdec ha hv hvb
        go_wp2
        refine ⟨⟨k + 1, acc * 16 + val1 c, a * 16 + ((c.toNat : Int) - 48), rfl, (by first | rfl | (congr 1; omega)), (by first | rfl | (congr 1; omega)), by omega, HN⟩, by simp [intOf]; omega⟩
      · have hvb := hall c hcm
        obtain ⟨d, hlow, hd0, hd1, hv⟩ := lower_letter c hdig hvb
        have hdig2 : ¬ (48 ≤ (c.toNat : Int) ∧ (c.toNat : Int) ≤ 57) := by omega
        have HLW : Hid (∀ W, Calls Tryz.prog 160 #[.int .u8 (c.toNat : Int)] W fun e w' => e = .returned (.int .u8 (d : Int)) ∧ W = w') := fun W => (lower_any _ W).mono fun e w' h => ⟨by rw [h.1, hlow], h.2⟩
        clear hlow hall hcm
        have hx0 : 65 ≤ c.toNat ∧ ¬ c.toNat = 95 := by
          revert hvb; unfold val1; rw [if_neg hdig]; split; (intro; omega); split; (intro; omega); (intro h; omega)
        obtain ⟨hx0, hx1⟩ := hx0
        have hx2 : 57 < c.toNat := by omega
        clear hdig hdig2
        by_cases hcut : 1152921504606846976 ≤ acc
        · have HR : Hid (puV (numV 16 0 bs) = _) := puV_over (v := numV 16 0 bs) (by rw [hdec, numV_cons]; exact Nat.le_trans (by omega) (numV_ge 16 (by decide) _ _))
          have icut : 1152921504606846976 ≤ a := by omega
          clear hcut hacc hdec ha hv hvb
          go_wp2_with (go_at_call 160; refine (HLW.out _).mono ?_; rintro e w2 ⟨rfl, rfl⟩)
          go_ret2
          exact ⟨by rw [HR.out]; rfl, rfl⟩
        by_cases hov2 : 9223372036854775808 ≤ acc * 16 + val1 c
        · have HR : Hid (puV (numV 16 0 bs) = _) := puV_over (v := numV 16 0 bs) (by rw [hdec, numV_cons]; exact Nat.le_trans (by omega) (numV_ge 16 (by decide) _ _))
          have icut : a < 1152921504606846976 := by omega
          have iov : 9223372036854775807 < a * 16 + ((d : Int) - 97 + 10) := by omega
          have iov2 : a * 16 + ((d : Int) - 97 + 10) < 18446744073709551616 := by omega
          clear hcut hacc hdec hov2 ha hv hvb
          go_wp2_with (go_at_call 160; refine (HLW.out _).mono ?_; rintro e w2 ⟨rfl, rfl⟩)
          go_ret2
          exact ⟨by rw [HR.out]; rfl, rfl⟩
        have HN : Hid (a * 16 + ((d : Int) - 97 + 10) = ((acc * 16 + val1 c : Nat) : Int) ∧ acc * 16 + val1 c < 9223372036854775808 ∧ numV 16 0 bs = numV 16 (acc * 16 + val1 c) (bs.drop (k + 1))) := ⟨by omega, by omega, by rw [hdec, numV_cons]⟩
        have icut : a < 1152921504606846976 := by omega
        have iov : a * 16 + ((d : Int) - 97 + 10) ≤ 9223372036854775807 := by omega
        clear hcut hacc hov2 hdec ha hv hvb
        go_wp2_with (go_at_call 160; refine (HLW.out _).mono ?_; rintro e w2 ⟨rfl, rfl⟩)
        refine ⟨⟨k + 1, acc * 16 + val1 c, a * 16 + ((d : Int) - 97 + 10), rfl, (by first | rfl | (congr 1; omega)), (by first | rfl | (congr 1; omega)), by omega, HN⟩, by simp [intOf]; omega⟩
    · have hkk : k = t.size := by omega
      subst hkk
      have hF : numV 16 acc (bs.drop t.size) = acc := by rw [List.drop_eq_nil_of_le (by omega)]; rfl
      rw [hF] at hdec
      have HR : Hid (puV (numV 16 0 bs) = .tuple #[.int .u64 a, .nilIface]) := by unfold Hid; rw [hdec, ha]; exact puV_in hacc
      clear hacc hF hdec ha hall
      go_wp2
      go_ret2
      exact ⟨by rw [HR.out]; rfl, rfl⟩
end Go.Proofs.YtkelmhpoplbacaaGreatDoor.N
