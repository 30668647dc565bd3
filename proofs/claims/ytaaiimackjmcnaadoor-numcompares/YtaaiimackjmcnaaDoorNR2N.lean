/-
  The document's own reading of a number, walked.
-/
import Derived.Test.YtaaiimackjmcnaaDoorNR2
namespace Go.Proofs.YtaaiimackjmcnaaDoor.N
open Go.RowKit Go.Shelf Go.Sort

set_option maxHeartbeats 1000000 in
set_option maxRecDepth 20000 in
theorem rparse_NH1 (s : ByteArray) (hs : s.size ≤ 140737488355328) (hpos : 0 < s.size) (h45 : ¬ s[0] = 45) (h43 : ¬ s[0] = 43) (h2 : 2 < s.size) (g0 : s[0].toNat = 48) (g1 : s[1].toNat = 120) (t : ByteArray) (ht : t = s.extract 2 s.size) (w : World) :
    Calls Tryd.prog 10 #[.string s] w fun e w' => e = .returned (tupV (finD false 16 (bl t))) ∧ w = w' := by
  have a1 : ¬ (s[0].toNat : Int) = 45 := by
    have h : ¬ s[0].toNat = 45 := fun h => h45 (UInt8.toNat_inj.1 (by rw [h]; rfl))
    omega
  have a2 : ¬ (s[0].toNat : Int) = 43 := by
    have h : ¬ s[0].toNat = 43 := fun h => h43 (UInt8.toNat_inj.1 (by rw [h]; rfl))
    omega
  have a3 : ((s[0].toNat : Int) == 45) = false := by simpa using a1
  have a4 : ((s[0].toNat : Int) == 43) = false := by simpa using a2
  clear h45 h43
  have hsl2 : ∀ W, (Instr.slice 9 (.string s) (some (.int .i64 2)) none none).run Tryd.prog W = .ok (.string t) W := fun W => by
    rw [run_slice_string_from_if W 9 s .i64 _ Tryd.underlying9, if_pos ⟨by omega, by omega⟩, ht]
    rfl
  have hts : t.size ≤ 140737488355328 := by rw [ht, ByteArray.size_extract]; omega
  clear ht
  go_enter Tryd.func10, Tryd.ntmps10
  go_wp2
  go_loop [6, 7, 8, 9] (fun vn vo vi _ => ∃ (i : Nat) (n : Int) (ov : Bool), vn = .int .i64 n ∧ vo = .bool ov ∧ vi = .int .i64 (i : Int) ∧ i ≤ t.size ∧ Hid (At 16 t i n ov)) (fun _ _ vi _ => t.size - (intOf vi).toNat)
  case atStart => exact ⟨0, 0, false, rfl, rfl, rfl, Nat.zero_le _, At.zero _ _⟩
  case round =>
    obtain ⟨i, n, ov, rfl, rfl, rfl, hi, HAt⟩ := hrel
    have hn0 := HAt.out.lo
    have hn1 := HAt.out.hi
    by_cases hlt : i < t.size
    · obtain ⟨c, hc⟩ : ∃ c, c = t[i] := ⟨_, rfl⟩
      have hcN : t[i].toNat = c.toNat := by rw [hc]
      have HVc : Hid (∀ W, Calls Tryd.prog 26 #[.int .u8 (c.toNat : Int)] W fun e w' => e = .returned (.int .i64 (valI c)) ∧ W = w') := fun W => rvalue c W
      have HC : Hid (c = t[i]) := hc
      clear hc
      by_cases hb : val1 c < 16
      · obtain ⟨v, hv⟩ : ∃ v : Int, v = valI c := ⟨_, rfl⟩
        have HVv : Hid (v = (val1 c : Int)) := by unfold Hid; rw [hv]; unfold valI; rw [if_neg (by omega)]
        have hv0 : 0 ≤ v := by have := HVv.out; omega
        have hv1 : v < 16 := by have := HVv.out; omega
        have hb' : val1 t[i] < 16 := by rw [← HC.out]; exact hb
        rw [← hv] at HVc
        have HB : Hid (val1 t[i] < 16 ∧ v = (val1 t[i] : Int)) := ⟨hb', by rw [HVv.out, HC.out]⟩
        clear hv hb hb' HVv
        cases ov
        · by_cases ho : n * 16 + v ≤ 4611686018427387904
          · have HN : Hid (At 16 t (i + 1) (n * 16 + v) false) := by unfold Hid; have := HB.out.2; rw [this]; exact HAt.out.more hlt HB.out.1 (by rw [← this]; exact ho)
            have hq : ¬ (4611686018427387904 - v) / 16 < n := by rw [ge16 n v]; simpa using ho
            have hq2 : ¬ (4611686018427387904 - v).tdiv 16 < n := by rw [Int.tdiv_eq_ediv_of_nonneg (by omega)]; exact hq
            clear HAt HB HC
            go_wp2_with fail
            refine (HVc.out _).mono ?_
            rintro e w1 ⟨rfl, rfl⟩
            go_wp2
            all_goals first | exact ⟨⟨i + 1, n * 16 + v, false, rfl, (by first | rfl | exact congrArg Value.bool (decide_eq_false (by omega))), rfl, by omega, HN⟩, by simp [intOf]; omega⟩ | (exfalso; rename_i hh; rw [decide_eq_false (show ¬ (4611686018427387904 - v) / 16 < n by omega)] at hh; exact Bool.noConfusion hh)
          · have HN : Hid (At 16 t (i + 1) n true) := by unfold Hid; have := HB.out.2; exact HAt.out.passes hlt HB.out.1 (by rw [← this]; exact ho)
            have hq : (4611686018427387904 - v) / 16 < n := by rw [ge16 n v]; exact ho
            have hq2 : (4611686018427387904 - v).tdiv 16 < n := by rw [Int.tdiv_eq_ediv_of_nonneg (by omega)]; exact hq
            clear HAt HB HC
            go_wp2_with fail
            refine (HVc.out _).mono ?_
            rintro e w1 ⟨rfl, rfl⟩
            go_wp2
            all_goals first | exact ⟨⟨i + 1, n, true, rfl, (by first | rfl | exact congrArg Value.bool (decide_eq_true (by omega))), rfl, by omega, HN⟩, by simp [intOf]; omega⟩ | (exfalso; rename_i hh; rw [decide_eq_true (show (4611686018427387904 - v) / 16 < n by omega)] at hh; exact Bool.noConfusion hh)
        · have HN : Hid (At 16 t (i + 1) n true) := HAt.out.over (by decide) hlt HB.out.1
          clear HAt HB HC
          go_wp2_with fail
          refine (HVc.out _).mono ?_
          rintro e w1 ⟨rfl, rfl⟩
          go_wp2
          exact ⟨⟨i + 1, n, true, rfl, rfl, rfl, by omega, HN⟩, by simp [intOf]; omega⟩
      · have HN : Hid (finD false 16 (bl t) = (0, 3)) := fin_bad (okD_take_bad hlt (by rw [← HC.out]; exact hb))
        obtain ⟨v, hv⟩ : ∃ v : Int, v = valI c := ⟨_, rfl⟩
        have hvv : v < 0 ∨ ¬ v < 0 ∧ ¬ v < 16 := by
          rcases val1_cases c with h | h
          · right; rw [hv]; unfold valI; rw [if_neg (by omega)]; omega
          · left; rw [hv]; unfold valI; rw [if_pos h]; decide
        rw [← hv] at HVc
        clear hv hb HAt HC
        rcases hvv with hv1 | ⟨hv1, hv2⟩
        · go_wp2_with fail
          refine (HVc.out _).mono ?_
          rintro e w1 ⟨rfl, rfl⟩
          go_wp2
          go_ret2
          exact ⟨by rw [HN.out]; rfl, rfl⟩
        · go_wp2_with fail
          refine (HVc.out _).mono ?_
          rintro e w1 ⟨rfl, rfl⟩
          go_wp2
          go_ret2
          exact ⟨by rw [HN.out]; rfl, rfl⟩
    · obtain rfl : i = t.size := by omega
      by_cases h0 : t.size = 0
      · have HN : Hid (finD false 16 (bl t) = (0, 3)) := end_empty h0
        clear HAt
        go_wp2
        go_ret2
        exact ⟨by rw [HN.out]; rfl, rfl⟩
      · have h0' : 0 < t.size := by omega
        cases ov
        · have HN : Hid (finD false 16 (bl t) = (n, 0)) := HAt.out.end_in (ne_of_size h0')
          clear HAt
          go_wp2
          go_ret2
          exact ⟨by rw [HN.out]; rfl, rfl⟩
        · have HN : Hid (finD false 16 (bl t) = (0, 5)) := HAt.out.end_over (ne_of_size h0')
          clear HAt
          go_wp2
          go_ret2
          exact ⟨by rw [HN.out]; rfl, rfl⟩

set_option maxHeartbeats 1000000 in
set_option maxRecDepth 20000 in
theorem rparse_NH2 (s : ByteArray) (hs : s.size ≤ 140737488355328) (hpos : 0 < s.size) (h45 : ¬ s[0] = 45) (h43 : ¬ s[0] = 43) (h2 : 2 < s.size) (g0 : s[0].toNat = 48) (g1 : s[1].toNat = 88) (t : ByteArray) (ht : t = s.extract 2 s.size) (w : World) :
    Calls Tryd.prog 10 #[.string s] w fun e w' => e = .returned (tupV (finD false 16 (bl t))) ∧ w = w' := by
  have a1 : ¬ (s[0].toNat : Int) = 45 := by
    have h : ¬ s[0].toNat = 45 := fun h => h45 (UInt8.toNat_inj.1 (by rw [h]; rfl))
    omega
  have a2 : ¬ (s[0].toNat : Int) = 43 := by
    have h : ¬ s[0].toNat = 43 := fun h => h43 (UInt8.toNat_inj.1 (by rw [h]; rfl))
    omega
  have a3 : ((s[0].toNat : Int) == 45) = false := by simpa using a1
  have a4 : ((s[0].toNat : Int) == 43) = false := by simpa using a2
  clear h45 h43
  have hsl2 : ∀ W, (Instr.slice 9 (.string s) (some (.int .i64 2)) none none).run Tryd.prog W = .ok (.string t) W := fun W => by
    rw [run_slice_string_from_if W 9 s .i64 _ Tryd.underlying9, if_pos ⟨by omega, by omega⟩, ht]
    rfl
  have hts : t.size ≤ 140737488355328 := by rw [ht, ByteArray.size_extract]; omega
  clear ht
  go_enter Tryd.func10, Tryd.ntmps10
  go_wp2
  go_loop [6, 7, 8, 9] (fun vn vo vi _ => ∃ (i : Nat) (n : Int) (ov : Bool), vn = .int .i64 n ∧ vo = .bool ov ∧ vi = .int .i64 (i : Int) ∧ i ≤ t.size ∧ Hid (At 16 t i n ov)) (fun _ _ vi _ => t.size - (intOf vi).toNat)
  case atStart => exact ⟨0, 0, false, rfl, rfl, rfl, Nat.zero_le _, At.zero _ _⟩
  case round =>
    obtain ⟨i, n, ov, rfl, rfl, rfl, hi, HAt⟩ := hrel
    have hn0 := HAt.out.lo
    have hn1 := HAt.out.hi
    by_cases hlt : i < t.size
    · obtain ⟨c, hc⟩ : ∃ c, c = t[i] := ⟨_, rfl⟩
      have hcN : t[i].toNat = c.toNat := by rw [hc]
      have HVc : Hid (∀ W, Calls Tryd.prog 26 #[.int .u8 (c.toNat : Int)] W fun e w' => e = .returned (.int .i64 (valI c)) ∧ W = w') := fun W => rvalue c W
      have HC : Hid (c = t[i]) := hc
      clear hc
      by_cases hb : val1 c < 16
      · obtain ⟨v, hv⟩ : ∃ v : Int, v = valI c := ⟨_, rfl⟩
        have HVv : Hid (v = (val1 c : Int)) := by unfold Hid; rw [hv]; unfold valI; rw [if_neg (by omega)]
        have hv0 : 0 ≤ v := by have := HVv.out; omega
        have hv1 : v < 16 := by have := HVv.out; omega
        have hb' : val1 t[i] < 16 := by rw [← HC.out]; exact hb
        rw [← hv] at HVc
        have HB : Hid (val1 t[i] < 16 ∧ v = (val1 t[i] : Int)) := ⟨hb', by rw [HVv.out, HC.out]⟩
        clear hv hb hb' HVv
        cases ov
        · by_cases ho : n * 16 + v ≤ 4611686018427387904
          · have HN : Hid (At 16 t (i + 1) (n * 16 + v) false) := by unfold Hid; have := HB.out.2; rw [this]; exact HAt.out.more hlt HB.out.1 (by rw [← this]; exact ho)
            have hq : ¬ (4611686018427387904 - v) / 16 < n := by rw [ge16 n v]; simpa using ho
            have hq2 : ¬ (4611686018427387904 - v).tdiv 16 < n := by rw [Int.tdiv_eq_ediv_of_nonneg (by omega)]; exact hq
            clear HAt HB HC
            go_wp2_with fail
            refine (HVc.out _).mono ?_
            rintro e w1 ⟨rfl, rfl⟩
            go_wp2
            all_goals first | exact ⟨⟨i + 1, n * 16 + v, false, rfl, (by first | rfl | exact congrArg Value.bool (decide_eq_false (by omega))), rfl, by omega, HN⟩, by simp [intOf]; omega⟩ | (exfalso; rename_i hh; rw [decide_eq_false (show ¬ (4611686018427387904 - v) / 16 < n by omega)] at hh; exact Bool.noConfusion hh)
          · have HN : Hid (At 16 t (i + 1) n true) := by unfold Hid; have := HB.out.2; exact HAt.out.passes hlt HB.out.1 (by rw [← this]; exact ho)
            have hq : (4611686018427387904 - v) / 16 < n := by rw [ge16 n v]; exact ho
            have hq2 : (4611686018427387904 - v).tdiv 16 < n := by rw [Int.tdiv_eq_ediv_of_nonneg (by omega)]; exact hq
            clear HAt HB HC
            go_wp2_with fail
            refine (HVc.out _).mono ?_
            rintro e w1 ⟨rfl, rfl⟩
            go_wp2
            all_goals first | exact ⟨⟨i + 1, n, true, rfl, (by first | rfl | exact congrArg Value.bool (decide_eq_true (by omega))), rfl, by omega, HN⟩, by simp [intOf]; omega⟩ | (exfalso; rename_i hh; rw [decide_eq_true (show (4611686018427387904 - v) / 16 < n by omega)] at hh; exact Bool.noConfusion hh)
        · have HN : Hid (At 16 t (i + 1) n true) := HAt.out.over (by decide) hlt HB.out.1
          clear HAt HB HC
          go_wp2_with fail
          refine (HVc.out _).mono ?_
          rintro e w1 ⟨rfl, rfl⟩
          go_wp2
          exact ⟨⟨i + 1, n, true, rfl, rfl, rfl, by omega, HN⟩, by simp [intOf]; omega⟩
      · have HN : Hid (finD false 16 (bl t) = (0, 3)) := fin_bad (okD_take_bad hlt (by rw [← HC.out]; exact hb))
        obtain ⟨v, hv⟩ : ∃ v : Int, v = valI c := ⟨_, rfl⟩
        have hvv : v < 0 ∨ ¬ v < 0 ∧ ¬ v < 16 := by
          rcases val1_cases c with h | h
          · right; rw [hv]; unfold valI; rw [if_neg (by omega)]; omega
          · left; rw [hv]; unfold valI; rw [if_pos h]; decide
        rw [← hv] at HVc
        clear hv hb HAt HC
        rcases hvv with hv1 | ⟨hv1, hv2⟩
        · go_wp2_with fail
          refine (HVc.out _).mono ?_
          rintro e w1 ⟨rfl, rfl⟩
          go_wp2
          go_ret2
          exact ⟨by rw [HN.out]; rfl, rfl⟩
        · go_wp2_with fail
          refine (HVc.out _).mono ?_
          rintro e w1 ⟨rfl, rfl⟩
          go_wp2
          go_ret2
          exact ⟨by rw [HN.out]; rfl, rfl⟩
    · obtain rfl : i = t.size := by omega
      by_cases h0 : t.size = 0
      · have HN : Hid (finD false 16 (bl t) = (0, 3)) := end_empty h0
        clear HAt
        go_wp2
        go_ret2
        exact ⟨by rw [HN.out]; rfl, rfl⟩
      · have h0' : 0 < t.size := by omega
        cases ov
        · have HN : Hid (finD false 16 (bl t) = (n, 0)) := HAt.out.end_in (ne_of_size h0')
          clear HAt
          go_wp2
          go_ret2
          exact ⟨by rw [HN.out]; rfl, rfl⟩
        · have HN : Hid (finD false 16 (bl t) = (0, 5)) := HAt.out.end_over (ne_of_size h0')
          clear HAt
          go_wp2
          go_ret2
          exact ⟨by rw [HN.out]; rfl, rfl⟩

set_option maxHeartbeats 1000000 in
set_option maxRecDepth 20000 in
theorem rparse_ND1 (s : ByteArray) (hs : s.size ≤ 140737488355328) (hpos : 0 < s.size) (h45 : ¬ s[0] = 45) (h43 : ¬ s[0] = 43) (h2 : ¬ 2 < s.size) (w : World) :
    Calls Tryd.prog 10 #[.string s] w fun e w' => e = .returned (tupV (finD false 10 (bl s))) ∧ w = w' := by
  have a1 : ¬ (s[0].toNat : Int) = 45 := by
    have h : ¬ s[0].toNat = 45 := fun h => h45 (UInt8.toNat_inj.1 (by rw [h]; rfl))
    omega
  have a2 : ¬ (s[0].toNat : Int) = 43 := by
    have h : ¬ s[0].toNat = 43 := fun h => h43 (UInt8.toNat_inj.1 (by rw [h]; rfl))
    omega
  have a3 : ((s[0].toNat : Int) == 45) = false := by simpa using a1
  have a4 : ((s[0].toNat : Int) == 43) = false := by simpa using a2
  clear h45 h43
  go_enter Tryd.func10, Tryd.ntmps10
  go_wp2
  go_loop [6, 7, 8, 9] (fun vn vo vi _ => ∃ (i : Nat) (n : Int) (ov : Bool), vn = .int .i64 n ∧ vo = .bool ov ∧ vi = .int .i64 (i : Int) ∧ i ≤ s.size ∧ Hid (At 10 s i n ov)) (fun _ _ vi _ => s.size - (intOf vi).toNat)
  case atStart => exact ⟨0, 0, false, rfl, rfl, rfl, Nat.zero_le _, At.zero _ _⟩
  case round =>
    obtain ⟨i, n, ov, rfl, rfl, rfl, hi, HAt⟩ := hrel
    have hn0 := HAt.out.lo
    have hn1 := HAt.out.hi
    by_cases hlt : i < s.size
    · obtain ⟨c, hc⟩ : ∃ c, c = s[i] := ⟨_, rfl⟩
      have hcN : s[i].toNat = c.toNat := by rw [hc]
      have HVc : Hid (∀ W, Calls Tryd.prog 26 #[.int .u8 (c.toNat : Int)] W fun e w' => e = .returned (.int .i64 (valI c)) ∧ W = w') := fun W => rvalue c W
      have HC : Hid (c = s[i]) := hc
      clear hc
      by_cases hb : val1 c < 10
      · obtain ⟨v, hv⟩ : ∃ v : Int, v = valI c := ⟨_, rfl⟩
        have HVv : Hid (v = (val1 c : Int)) := by unfold Hid; rw [hv]; unfold valI; rw [if_neg (by omega)]
        have hv0 : 0 ≤ v := by have := HVv.out; omega
        have hv1 : v < 10 := by have := HVv.out; omega
        have hb' : val1 s[i] < 10 := by rw [← HC.out]; exact hb
        rw [← hv] at HVc
        have HB : Hid (val1 s[i] < 10 ∧ v = (val1 s[i] : Int)) := ⟨hb', by rw [HVv.out, HC.out]⟩
        clear hv hb hb' HVv
        cases ov
        · by_cases ho : n * 10 + v ≤ 4611686018427387904
          · have HN : Hid (At 10 s (i + 1) (n * 10 + v) false) := by unfold Hid; have := HB.out.2; rw [this]; exact HAt.out.more hlt HB.out.1 (by rw [← this]; exact ho)
            have hq : ¬ (4611686018427387904 - v) / 10 < n := by rw [ge10 n v]; simpa using ho
            have hq2 : ¬ (4611686018427387904 - v).tdiv 10 < n := by rw [Int.tdiv_eq_ediv_of_nonneg (by omega)]; exact hq
            clear HAt HB HC
            go_wp2_with fail
            refine (HVc.out _).mono ?_
            rintro e w1 ⟨rfl, rfl⟩
            go_wp2
            all_goals first | exact ⟨⟨i + 1, n * 10 + v, false, rfl, (by first | rfl | exact congrArg Value.bool (decide_eq_false (by omega))), rfl, by omega, HN⟩, by simp [intOf]; omega⟩ | (exfalso; rename_i hh; rw [decide_eq_false (show ¬ (4611686018427387904 - v) / 10 < n by omega)] at hh; exact Bool.noConfusion hh)
          · have HN : Hid (At 10 s (i + 1) n true) := by unfold Hid; have := HB.out.2; exact HAt.out.passes hlt HB.out.1 (by rw [← this]; exact ho)
            have hq : (4611686018427387904 - v) / 10 < n := by rw [ge10 n v]; exact ho
            have hq2 : (4611686018427387904 - v).tdiv 10 < n := by rw [Int.tdiv_eq_ediv_of_nonneg (by omega)]; exact hq
            clear HAt HB HC
            go_wp2_with fail
            refine (HVc.out _).mono ?_
            rintro e w1 ⟨rfl, rfl⟩
            go_wp2
            all_goals first | exact ⟨⟨i + 1, n, true, rfl, (by first | rfl | exact congrArg Value.bool (decide_eq_true (by omega))), rfl, by omega, HN⟩, by simp [intOf]; omega⟩ | (exfalso; rename_i hh; rw [decide_eq_true (show (4611686018427387904 - v) / 10 < n by omega)] at hh; exact Bool.noConfusion hh)
        · have HN : Hid (At 10 s (i + 1) n true) := HAt.out.over (by decide) hlt HB.out.1
          clear HAt HB HC
          go_wp2_with fail
          refine (HVc.out _).mono ?_
          rintro e w1 ⟨rfl, rfl⟩
          go_wp2
          exact ⟨⟨i + 1, n, true, rfl, rfl, rfl, by omega, HN⟩, by simp [intOf]; omega⟩
      · have HN : Hid (finD false 10 (bl s) = (0, 3)) := fin_bad (okD_take_bad hlt (by rw [← HC.out]; exact hb))
        obtain ⟨v, hv⟩ : ∃ v : Int, v = valI c := ⟨_, rfl⟩
        have hvv : v < 0 ∨ ¬ v < 0 ∧ ¬ v < 10 := by
          rcases val1_cases c with h | h
          · right; rw [hv]; unfold valI; rw [if_neg (by omega)]; omega
          · left; rw [hv]; unfold valI; rw [if_pos h]; decide
        rw [← hv] at HVc
        clear hv hb HAt HC
        rcases hvv with hv1 | ⟨hv1, hv2⟩
        · go_wp2_with fail
          refine (HVc.out _).mono ?_
          rintro e w1 ⟨rfl, rfl⟩
          go_wp2
          go_ret2
          exact ⟨by rw [HN.out]; rfl, rfl⟩
        · go_wp2_with fail
          refine (HVc.out _).mono ?_
          rintro e w1 ⟨rfl, rfl⟩
          go_wp2
          go_ret2
          exact ⟨by rw [HN.out]; rfl, rfl⟩
    · obtain rfl : i = s.size := by omega
      by_cases h0 : s.size = 0
      · have HN : Hid (finD false 10 (bl s) = (0, 3)) := end_empty h0
        clear HAt
        go_wp2
        go_ret2
        exact ⟨by rw [HN.out]; rfl, rfl⟩
      · have h0' : 0 < s.size := by omega
        cases ov
        · have HN : Hid (finD false 10 (bl s) = (n, 0)) := HAt.out.end_in (ne_of_size h0')
          clear HAt
          go_wp2
          go_ret2
          exact ⟨by rw [HN.out]; rfl, rfl⟩
        · have HN : Hid (finD false 10 (bl s) = (0, 5)) := HAt.out.end_over (ne_of_size h0')
          clear HAt
          go_wp2
          go_ret2
          exact ⟨by rw [HN.out]; rfl, rfl⟩

set_option maxHeartbeats 1000000 in
set_option maxRecDepth 20000 in
theorem rparse_ND2 (s : ByteArray) (hs : s.size ≤ 140737488355328) (hpos : 0 < s.size) (h45 : ¬ s[0] = 45) (h43 : ¬ s[0] = 43) (h2 : 2 < s.size) (g0 : ¬ s[0].toNat = 48) (w : World) :
    Calls Tryd.prog 10 #[.string s] w fun e w' => e = .returned (tupV (finD false 10 (bl s))) ∧ w = w' := by
  have a1 : ¬ (s[0].toNat : Int) = 45 := by
    have h : ¬ s[0].toNat = 45 := fun h => h45 (UInt8.toNat_inj.1 (by rw [h]; rfl))
    omega
  have a2 : ¬ (s[0].toNat : Int) = 43 := by
    have h : ¬ s[0].toNat = 43 := fun h => h43 (UInt8.toNat_inj.1 (by rw [h]; rfl))
    omega
  have a3 : ((s[0].toNat : Int) == 45) = false := by simpa using a1
  have a4 : ((s[0].toNat : Int) == 43) = false := by simpa using a2
  clear h45 h43
  have b1 : ¬ (s[0].toNat : Int) = 48 := by omega
  have b2 : ((s[0].toNat : Int) == 48) = false := by simpa using b1
  go_enter Tryd.func10, Tryd.ntmps10
  go_wp2
  go_loop [6, 7, 8, 9] (fun vn vo vi _ => ∃ (i : Nat) (n : Int) (ov : Bool), vn = .int .i64 n ∧ vo = .bool ov ∧ vi = .int .i64 (i : Int) ∧ i ≤ s.size ∧ Hid (At 10 s i n ov)) (fun _ _ vi _ => s.size - (intOf vi).toNat)
  case atStart => exact ⟨0, 0, false, rfl, rfl, rfl, Nat.zero_le _, At.zero _ _⟩
  case round =>
    obtain ⟨i, n, ov, rfl, rfl, rfl, hi, HAt⟩ := hrel
    have hn0 := HAt.out.lo
    have hn1 := HAt.out.hi
    by_cases hlt : i < s.size
    · obtain ⟨c, hc⟩ : ∃ c, c = s[i] := ⟨_, rfl⟩
      have hcN : s[i].toNat = c.toNat := by rw [hc]
      have HVc : Hid (∀ W, Calls Tryd.prog 26 #[.int .u8 (c.toNat : Int)] W fun e w' => e = .returned (.int .i64 (valI c)) ∧ W = w') := fun W => rvalue c W
      have HC : Hid (c = s[i]) := hc
      clear hc
      by_cases hb : val1 c < 10
      · obtain ⟨v, hv⟩ : ∃ v : Int, v = valI c := ⟨_, rfl⟩
        have HVv : Hid (v = (val1 c : Int)) := by unfold Hid; rw [hv]; unfold valI; rw [if_neg (by omega)]
        have hv0 : 0 ≤ v := by have := HVv.out; omega
        have hv1 : v < 10 := by have := HVv.out; omega
        have hb' : val1 s[i] < 10 := by rw [← HC.out]; exact hb
        rw [← hv] at HVc
        have HB : Hid (val1 s[i] < 10 ∧ v = (val1 s[i] : Int)) := ⟨hb', by rw [HVv.out, HC.out]⟩
        clear hv hb hb' HVv
        cases ov
        · by_cases ho : n * 10 + v ≤ 4611686018427387904
          · have HN : Hid (At 10 s (i + 1) (n * 10 + v) false) := by unfold Hid; have := HB.out.2; rw [this]; exact HAt.out.more hlt HB.out.1 (by rw [← this]; exact ho)
            have hq : ¬ (4611686018427387904 - v) / 10 < n := by rw [ge10 n v]; simpa using ho
            have hq2 : ¬ (4611686018427387904 - v).tdiv 10 < n := by rw [Int.tdiv_eq_ediv_of_nonneg (by omega)]; exact hq
            clear HAt HB HC
            go_wp2_with fail
            refine (HVc.out _).mono ?_
            rintro e w1 ⟨rfl, rfl⟩
            go_wp2
            all_goals first | exact ⟨⟨i + 1, n * 10 + v, false, rfl, (by first | rfl | exact congrArg Value.bool (decide_eq_false (by omega))), rfl, by omega, HN⟩, by simp [intOf]; omega⟩ | (exfalso; rename_i hh; rw [decide_eq_false (show ¬ (4611686018427387904 - v) / 10 < n by omega)] at hh; exact Bool.noConfusion hh)
          · have HN : Hid (At 10 s (i + 1) n true) := by unfold Hid; have := HB.out.2; exact HAt.out.passes hlt HB.out.1 (by rw [← this]; exact ho)
            have hq : (4611686018427387904 - v) / 10 < n := by rw [ge10 n v]; exact ho
            have hq2 : (4611686018427387904 - v).tdiv 10 < n := by rw [Int.tdiv_eq_ediv_of_nonneg (by omega)]; exact hq
            clear HAt HB HC
            go_wp2_with fail
            refine (HVc.out _).mono ?_
            rintro e w1 ⟨rfl, rfl⟩
            go_wp2
            all_goals first | exact ⟨⟨i + 1, n, true, rfl, (by first | rfl | exact congrArg Value.bool (decide_eq_true (by omega))), rfl, by omega, HN⟩, by simp [intOf]; omega⟩ | (exfalso; rename_i hh; rw [decide_eq_true (show (4611686018427387904 - v) / 10 < n by omega)] at hh; exact Bool.noConfusion hh)
        · have HN : Hid (At 10 s (i + 1) n true) := HAt.out.over (by decide) hlt HB.out.1
          clear HAt HB HC
          go_wp2_with fail
          refine (HVc.out _).mono ?_
          rintro e w1 ⟨rfl, rfl⟩
          go_wp2
          exact ⟨⟨i + 1, n, true, rfl, rfl, rfl, by omega, HN⟩, by simp [intOf]; omega⟩
      · have HN : Hid (finD false 10 (bl s) = (0, 3)) := fin_bad (okD_take_bad hlt (by rw [← HC.out]; exact hb))
        obtain ⟨v, hv⟩ : ∃ v : Int, v = valI c := ⟨_, rfl⟩
        have hvv : v < 0 ∨ ¬ v < 0 ∧ ¬ v < 10 := by
          rcases val1_cases c with h | h
          · right; rw [hv]; unfold valI; rw [if_neg (by omega)]; omega
          · left; rw [hv]; unfold valI; rw [if_pos h]; decide
        rw [← hv] at HVc
        clear hv hb HAt HC
        rcases hvv with hv1 | ⟨hv1, hv2⟩
        · go_wp2_with fail
          refine (HVc.out _).mono ?_
          rintro e w1 ⟨rfl, rfl⟩
          go_wp2
          go_ret2
          exact ⟨by rw [HN.out]; rfl, rfl⟩
        · go_wp2_with fail
          refine (HVc.out _).mono ?_
          rintro e w1 ⟨rfl, rfl⟩
          go_wp2
          go_ret2
          exact ⟨by rw [HN.out]; rfl, rfl⟩
    · obtain rfl : i = s.size := by omega
      by_cases h0 : s.size = 0
      · have HN : Hid (finD false 10 (bl s) = (0, 3)) := end_empty h0
        clear HAt
        go_wp2
        go_ret2
        exact ⟨by rw [HN.out]; rfl, rfl⟩
      · have h0' : 0 < s.size := by omega
        cases ov
        · have HN : Hid (finD false 10 (bl s) = (n, 0)) := HAt.out.end_in (ne_of_size h0')
          clear HAt
          go_wp2
          go_ret2
          exact ⟨by rw [HN.out]; rfl, rfl⟩
        · have HN : Hid (finD false 10 (bl s) = (0, 5)) := HAt.out.end_over (ne_of_size h0')
          clear HAt
          go_wp2
          go_ret2
          exact ⟨by rw [HN.out]; rfl, rfl⟩

set_option maxHeartbeats 1000000 in
set_option maxRecDepth 20000 in
theorem rparse_ND3 (s : ByteArray) (hs : s.size ≤ 140737488355328) (hpos : 0 < s.size) (h45 : ¬ s[0] = 45) (h43 : ¬ s[0] = 43) (h2 : 2 < s.size) (g0 : s[0].toNat = 48) (g1 : ¬ s[1].toNat = 120) (g2 : ¬ s[1].toNat = 88) (w : World) :
    Calls Tryd.prog 10 #[.string s] w fun e w' => e = .returned (tupV (finD false 10 (bl s))) ∧ w = w' := by
  have a1 : ¬ (s[0].toNat : Int) = 45 := by
    have h : ¬ s[0].toNat = 45 := fun h => h45 (UInt8.toNat_inj.1 (by rw [h]; rfl))
    omega
  have a2 : ¬ (s[0].toNat : Int) = 43 := by
    have h : ¬ s[0].toNat = 43 := fun h => h43 (UInt8.toNat_inj.1 (by rw [h]; rfl))
    omega
  have a3 : ((s[0].toNat : Int) == 45) = false := by simpa using a1
  have a4 : ((s[0].toNat : Int) == 43) = false := by simpa using a2
  clear h45 h43
  have b1 : ¬ (s[1].toNat : Int) = 120 := by omega
  have b2 : ((s[1].toNat : Int) == 120) = false := by simpa using b1
  have b3 : ¬ (s[1].toNat : Int) = 88 := by omega
  have b4 : ((s[1].toNat : Int) == 88) = false := by simpa using b3
  go_enter Tryd.func10, Tryd.ntmps10
  go_wp2
  go_loop [6, 7, 8, 9] (fun vn vo vi _ => ∃ (i : Nat) (n : Int) (ov : Bool), vn = .int .i64 n ∧ vo = .bool ov ∧ vi = .int .i64 (i : Int) ∧ i ≤ s.size ∧ Hid (At 10 s i n ov)) (fun _ _ vi _ => s.size - (intOf vi).toNat)
  case atStart => exact ⟨0, 0, false, rfl, rfl, rfl, Nat.zero_le _, At.zero _ _⟩
  case round =>
    obtain ⟨i, n, ov, rfl, rfl, rfl, hi, HAt⟩ := hrel
    have hn0 := HAt.out.lo
    have hn1 := HAt.out.hi
    by_cases hlt : i < s.size
    · obtain ⟨c, hc⟩ : ∃ c, c = s[i] := ⟨_, rfl⟩
      have hcN : s[i].toNat = c.toNat := by rw [hc]
      have HVc : Hid (∀ W, Calls Tryd.prog 26 #[.int .u8 (c.toNat : Int)] W fun e w' => e = .returned (.int .i64 (valI c)) ∧ W = w') := fun W => rvalue c W
      have HC : Hid (c = s[i]) := hc
      clear hc
      by_cases hb : val1 c < 10
      · obtain ⟨v, hv⟩ : ∃ v : Int, v = valI c := ⟨_, rfl⟩
        have HVv : Hid (v = (val1 c : Int)) := by unfold Hid; rw [hv]; unfold valI; rw [if_neg (by omega)]
        have hv0 : 0 ≤ v := by have := HVv.out; omega
        have hv1 : v < 10 := by have := HVv.out; omega
        have hb' : val1 s[i] < 10 := by rw [← HC.out]; exact hb
        rw [← hv] at HVc
        have HB : Hid (val1 s[i] < 10 ∧ v = (val1 s[i] : Int)) := ⟨hb', by rw [HVv.out, HC.out]⟩
        clear hv hb hb' HVv
        cases ov
        · by_cases ho : n * 10 + v ≤ 4611686018427387904
          · have HN : Hid (At 10 s (i + 1) (n * 10 + v) false) := by unfold Hid; have := HB.out.2; rw [this]; exact HAt.out.more hlt HB.out.1 (by rw [← this]; exact ho)
            have hq : ¬ (4611686018427387904 - v) / 10 < n := by rw [ge10 n v]; simpa using ho
            have hq2 : ¬ (4611686018427387904 - v).tdiv 10 < n := by rw [Int.tdiv_eq_ediv_of_nonneg (by omega)]; exact hq
            clear HAt HB HC
            go_wp2_with fail
            refine (HVc.out _).mono ?_
            rintro e w1 ⟨rfl, rfl⟩
            go_wp2
            all_goals first | exact ⟨⟨i + 1, n * 10 + v, false, rfl, (by first | rfl | exact congrArg Value.bool (decide_eq_false (by omega))), rfl, by omega, HN⟩, by simp [intOf]; omega⟩ | (exfalso; rename_i hh; rw [decide_eq_false (show ¬ (4611686018427387904 - v) / 10 < n by omega)] at hh; exact Bool.noConfusion hh)
          · have HN : Hid (At 10 s (i + 1) n true) := by unfold Hid; have := HB.out.2; exact HAt.out.passes hlt HB.out.1 (by rw [← this]; exact ho)
            have hq : (4611686018427387904 - v) / 10 < n := by rw [ge10 n v]; exact ho
            have hq2 : (4611686018427387904 - v).tdiv 10 < n := by rw [Int.tdiv_eq_ediv_of_nonneg (by omega)]; exact hq
            clear HAt HB HC
            go_wp2_with fail
            refine (HVc.out _).mono ?_
            rintro e w1 ⟨rfl, rfl⟩
            go_wp2
            all_goals first | exact ⟨⟨i + 1, n, true, rfl, (by first | rfl | exact congrArg Value.bool (decide_eq_true (by omega))), rfl, by omega, HN⟩, by simp [intOf]; omega⟩ | (exfalso; rename_i hh; rw [decide_eq_true (show (4611686018427387904 - v) / 10 < n by omega)] at hh; exact Bool.noConfusion hh)
        · have HN : Hid (At 10 s (i + 1) n true) := HAt.out.over (by decide) hlt HB.out.1
          clear HAt HB HC
          go_wp2_with fail
          refine (HVc.out _).mono ?_
          rintro e w1 ⟨rfl, rfl⟩
          go_wp2
          exact ⟨⟨i + 1, n, true, rfl, rfl, rfl, by omega, HN⟩, by simp [intOf]; omega⟩
      · have HN : Hid (finD false 10 (bl s) = (0, 3)) := fin_bad (okD_take_bad hlt (by rw [← HC.out]; exact hb))
        obtain ⟨v, hv⟩ : ∃ v : Int, v = valI c := ⟨_, rfl⟩
        have hvv : v < 0 ∨ ¬ v < 0 ∧ ¬ v < 10 := by
          rcases val1_cases c with h | h
          · right; rw [hv]; unfold valI; rw [if_neg (by omega)]; omega
          · left; rw [hv]; unfold valI; rw [if_pos h]; decide
        rw [← hv] at HVc
        clear hv hb HAt HC
        rcases hvv with hv1 | ⟨hv1, hv2⟩
        · go_wp2_with fail
          refine (HVc.out _).mono ?_
          rintro e w1 ⟨rfl, rfl⟩
          go_wp2
          go_ret2
          exact ⟨by rw [HN.out]; rfl, rfl⟩
        · go_wp2_with fail
          refine (HVc.out _).mono ?_
          rintro e w1 ⟨rfl, rfl⟩
          go_wp2
          go_ret2
          exact ⟨by rw [HN.out]; rfl, rfl⟩
    · obtain rfl : i = s.size := by omega
      by_cases h0 : s.size = 0
      · have HN : Hid (finD false 10 (bl s) = (0, 3)) := end_empty h0
        clear HAt
        go_wp2
        go_ret2
        exact ⟨by rw [HN.out]; rfl, rfl⟩
      · have h0' : 0 < s.size := by omega
        cases ov
        · have HN : Hid (finD false 10 (bl s) = (n, 0)) := HAt.out.end_in (ne_of_size h0')
          clear HAt
          go_wp2
          go_ret2
          exact ⟨by rw [HN.out]; rfl, rfl⟩
        · have HN : Hid (finD false 10 (bl s) = (0, 5)) := HAt.out.end_over (ne_of_size h0')
          clear HAt
          go_wp2
          go_ret2
          exact ⟨by rw [HN.out]; rfl, rfl⟩

end Go.Proofs.YtaaiimackjmcnaaDoor.N
