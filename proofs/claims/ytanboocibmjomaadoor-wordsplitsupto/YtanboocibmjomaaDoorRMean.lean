/-
  What the document's Mean and bare answer.
-/
import Derived.Test.YtanboocibmjomaaDoorKinds
import Derived.Test.YtanboocibmjomaaDoorQuoteF
namespace Go.Proofs.YtanboocibmjomaaDoor
open Go.RowKit Go.Shelf

theorem letter_at (s : ByteArray) (k : Nat) (h : k < s.size) (h2 : k < (ba (letters K.Rd.r0 (bl s))).size) : (ba (letters K.Rd.r0 (bl s)))[k] = letter (rdAt s k) s[k] := by
  obtain ⟨y, hy⟩ : ∃ y, y = ba (letters K.Rd.r0 (bl s)) := ⟨_, rfl⟩
  have h3 : k < y.size := by rw [hy]; exact h2
  have e : y[k] = letter (rdAt s k) s[k] := by
    have e1 : (bl y)[k]? = some y[k] := by unfold bl; simp [h3]; rfl
    have e2 : bl y = letters K.Rd.r0 (bl s) := by rw [hy, bl_ba]
    have e3 : letters K.Rd.r0 (bl s) = ltAt s (k + 1) ++ letters (((bl s).take (k + 1)).foldl K.Rd.step K.Rd.r0) ((bl s).drop (k + 1)) := by
      unfold ltAt; rw [← letters_append, List.take_append_drop]
    rw [e2, e3, ltAt_succ s k h] at e1
    have hl := ltAt_len s k (Nat.le_of_lt h)
    rw [List.append_assoc, List.getElem?_append_right (by omega), hl, Nat.sub_self] at e1
    simpa using e1.symm
  subst hy
  exact e

set_option maxRecDepth 20000 in
set_option maxHeartbeats 2000000 in
theorem rmean_any (s : ByteArray) (w : World) (hs : s.size ≤ 4000000) :
    Calls Tryd.prog 12 #[.string s] w fun e w' => e = .returned (.tuple #[.string (meanT s), .int .i64 (meanE s : Nat)]) ∧ Below w.heap.size w w' := by
  obtain ⟨i0, hi, hz0, hz1, hz2⟩ := info_parts info5
  obtain ⟨y, hy⟩ : ∃ y, y = ba (letters K.Rd.r0 (bl s)) := ⟨_, rfl⟩
  have hys : y.size = s.size := by rw [hy, ba_size, letters_length, bl_length]
  have HY : Hid (∀ k (h : k < s.size) (h2 : k < y.size), ((y[k].toNat = 112 ∨ y[k].toNat = 98) ↔ ¬ (rdAt s k).kind s[k] = 2)) := by
    intro k h h2
    have e : y[k] = letter (rdAt s k) s[k] := by subst hy; exact letter_at s k h h2
    have hb := (letter_both (rdAt s k) s[k]).2
    rw [← e] at hb
    rw [← hb, u8_eq_iff _ 112, u8_eq_iff _ 98]; exact Iff.rfl
  have HKd : Hid (∀ W, Calls Tryd.prog 28 #[.string s] W fun e w' => e = .returned (.tuple #[.string y, .bool (K.ends (bl s)).opened]) ∧ Below W.heap.size W w') := fun W => by rw [hy]; exact kinds_any s W hs
  clear hy
  cases ho : (K.ends (bl s)).opened with
  | true =>
    have HE : Hid (meanE s = 4 ∧ meanT s = ⟨#[]⟩) := by
      have : meanE s = 4 := by unfold meanE; rw [ho]; rfl
      exact ⟨this, by unfold meanT; rw [this]; rfl⟩
    rw [HE.out.1, HE.out.2]
    rw [ho] at HKd
    clear ho
    go_enter Tryd.func12, Tryd.ntmps12
    go_wp2_with fail
    refine (HKd.out _).mono ?_
    rintro e w1 ⟨rfl, hb1⟩
    go_wp2
    go_ret2
    exact ⟨rfl, hb1⟩
  | false =>
    have HE : Hid (meanE s = 0 ∧ meanT s = ba (K.mean K.Rd.r0 (bl s))) := by
      have : meanE s = 0 := by unfold meanE; rw [ho]; rfl
      exact ⟨this, by unfold meanT; rw [this]; rfl⟩
    rw [HE.out.1]
    rw [ho] at HKd
    obtain ⟨z, hz⟩ : ∃ z, z = meanT s := ⟨_, rfl⟩
    rw [← hz]
    have HZ : Hid (z = ba (K.mean K.Rd.r0 (bl s))) := by rw [hz]; exact HE.out.2
    clear ho hz HE
    go_enter Tryd.func12, Tryd.ntmps12
    go_wp2_with fail
    refine (HKd.out _).mono ?_
    rintro e w1 ⟨rfl, hb1⟩
    have HB1 : Hid (Below w.heap.size w w1) := hb1
    clear hb1 HKd
    go_wp2
    go_loopw [6, 7] (fun v vi wr => ∃ k : Nat, k ≤ s.size ∧ vi = .int .i64 k ∧ wr.ownsRow w1.heap.size 5 1 v (mnAt s k).length (Lib.byteCells (mnAt s k)) ∧ Below w1.heap.size w1 wr)
      (fun _ vi _ => s.size - (intOf vi).toNat)
    case atStart => exact ⟨0, Nat.zero_le _, rfl, World.ownsRow_nil _ _ _ _, Below.refl _ _⟩
    case round =>
      obtain ⟨k, hk, rfl, hown, hb⟩ := hrel
      have hbs := hb.size
      have hml := mnAt_len s k hk
      by_cases hlt : k < s.size
      · have hil : (k : Int) < (s.size : Int) := by omega
        have hly : k < y.size := by omega
        have hlyi : (k : Int) < (y.size : Int) := by omega
        have hyk := HY.out k hlt hly
        have HM := mnAt_succ s k hlt
        obtain ⟨x, hx⟩ : ∃ x, x = mnAt s k := ⟨_, rfl⟩
        rw [← hx] at HM hown hml
        clear hx
        obtain ⟨m, hll⟩ : ∃ m, x.length = m := ⟨_, rfl⟩
        rw [hll] at hown hml
        by_cases hk2 : (rdAt s k).kind s[k] = 2
        · rw [if_pos hk2, List.append_nil] at HM
          have HQ : Hid (mnAt s (k + 1) = x) := HM
          have g1 : ((y[k].toNat : Int) == 112) = false := by
            simp; intro h; exact hyk.1 (.inl (by omega)) hk2
          have g2 : ((y[k].toNat : Int) == 98) = false := by
            simp; intro h; exact hyk.1 (.inr (by omega)) hk2
          clear HM hyk hk2
          go_wp2
          go_roundw
          case rel => exact ⟨k + 1, by omega, by go_num, by rw [HQ.out, hll]; exact hown, hb⟩
          case measure => simp [intOf]; omega
        · rw [if_neg hk2] at HM
          have HQ : Hid (mnAt s (k + 1) = x ++ [s[k]]) := HM
          have h12 := hyk.2 hk2
          clear HM hyk hk2
          by_cases h112 : y[k].toNat = 112
          · have g1 : ((y[k].toNat : Int) == 112) = true := by simp; omega
            clear h12 h112
            go_wp2_with (at_builtin; refine wpList_append_own _ rfl _ _ 52 rfl w1.heap.size 5 i0 (.int .u8 0) 1 1 Tryd.underlying52 hi hz0 hz1 hz2 rfl (by decide) _ _ _ rfl (hown.alloc _) ⟨wr.heap.size, 0, none⟩ 1 1 [.int .u8 s[k].toNat] rfl rfl (by intro j u hj; match j, hj with | 0, hj => simp at hj; subst hj; simp [Addr.add]) (by intro u hu; simp at hu; subst hu; rfl) (by unfold maxLen; omega) (by omega) (by simp; omega) ?_; intro v' w2 hown' hgrow _; have HG1 : Hid (Below w1.heap.size w1 w2) := (hb.alloc hbs _).grown hgrow (by simp; omega) (fun k hk => (hown.lt k hk).1); have HG2 : Hid (w2.ownsRow w1.heap.size 5 1 v' (mnAt s (k + 1)).length (Lib.byteCells (mnAt s (k + 1)))) := (by unfold Hid; rw [HQ.out]; simpa [Lib.byteCells, hll] using hown'); clear hown' hgrow hown hb)
            go_roundw
            case rel => exact ⟨k + 1, by omega, by go_num, by assumption, by assumption⟩
            case measure => simp [intOf]; omega
          · have g1 : ((y[k].toNat : Int) == 112) = false := by simp; omega
            have g2 : ((y[k].toNat : Int) == 98) = true := by simp; omega
            clear h12 h112
            go_wp2_with (at_builtin; refine wpList_append_own _ rfl _ _ 52 rfl w1.heap.size 5 i0 (.int .u8 0) 1 1 Tryd.underlying52 hi hz0 hz1 hz2 rfl (by decide) _ _ _ rfl (hown.alloc _) ⟨wr.heap.size, 0, none⟩ 1 1 [.int .u8 s[k].toNat] rfl rfl (by intro j u hj; match j, hj with | 0, hj => simp at hj; subst hj; simp [Addr.add]) (by intro u hu; simp at hu; subst hu; rfl) (by unfold maxLen; omega) (by omega) (by simp; omega) ?_; intro v' w2 hown' hgrow _; have HG1 : Hid (Below w1.heap.size w1 w2) := (hb.alloc hbs _).grown hgrow (by simp; omega) (fun k hk => (hown.lt k hk).1); have HG2 : Hid (w2.ownsRow w1.heap.size 5 1 v' (mnAt s (k + 1)).length (Lib.byteCells (mnAt s (k + 1)))) := (by unfold Hid; rw [HQ.out]; simpa [Lib.byteCells, hll] using hown'); clear hown' hgrow hown hb)
            go_roundw
            case rel => exact ⟨k + 1, by omega, by go_num, by assumption, by assumption⟩
            case measure => simp [intOf]; omega
      · obtain rfl : k = s.size := by omega
        have e2 : mnAt s s.size = K.mean K.Rd.r0 (bl s) := by unfold mnAt; rw [take_all]
        rw [e2] at hown
        have hcv : (convert 52 9 u6).run Tryd.prog wr = .ok (.string z) wr := by rw [HZ.out]; exact run_conv hown
        obtain ⟨a, cap, hv⟩ := bytes_slice hown
        subst hv
        have hbw : Hid (Below w.heap.size w wr) := HB1.out.trans (hb.mono HB1.out.size)
        clear hown e2 hml
        go_wp2
        go_ret2
        exact ⟨rfl, hbw.out⟩

theorem contains_iff (c : UInt8) : [95, 46, 47, 43, 45, 44, 58, 61, 64, 37].contains c = true ↔ c.toNat = 95 ∨ c.toNat = 46 ∨ c.toNat = 47 ∨ c.toNat = 43 ∨ c.toNat = 45 ∨ c.toNat = 44 ∨ c.toNat = 58 ∨ c.toNat = 61 ∨ c.toNat = 64 ∨ c.toNat = 37 := by
  have e95 : c = 95 ↔ c.toNat = 95 := u8_eq_iff c 95
  have e46 : c = 46 ↔ c.toNat = 46 := u8_eq_iff c 46
  have e47 : c = 47 ↔ c.toNat = 47 := u8_eq_iff c 47
  have e43 : c = 43 ↔ c.toNat = 43 := u8_eq_iff c 43
  have e45 : c = 45 ↔ c.toNat = 45 := u8_eq_iff c 45
  have e44 : c = 44 ↔ c.toNat = 44 := u8_eq_iff c 44
  have e58 : c = 58 ↔ c.toNat = 58 := u8_eq_iff c 58
  have e61 : c = 61 ↔ c.toNat = 61 := u8_eq_iff c 61
  have e64 : c = 64 ↔ c.toNat = 64 := u8_eq_iff c 64
  have e37 : c = 37 ↔ c.toNat = 37 := u8_eq_iff c 37
  simp only [List.contains_cons, List.contains_nil, Bool.or_false, Bool.or_eq_true, beq_iff_eq, e95, e46, e47, e43, e45, e44, e58, e61, e64, e37]
theorem plain_iff (c : UInt8) : K.plainC c = true ↔ (97 ≤ c.toNat ∧ c.toNat ≤ 122) ∨ (65 ≤ c.toNat ∧ c.toNat ≤ 90) ∨ (48 ≤ c.toNat ∧ c.toNat ≤ 57) ∨ c.toNat = 95 ∨ c.toNat = 46 ∨ c.toNat = 47 ∨ c.toNat = 43 ∨ c.toNat = 45 ∨ c.toNat = 44 ∨ c.toNat = 58 ∨ c.toNat = 61 ∨ c.toNat = 64 ∨ c.toNat = 37 := by
  have l (a b : UInt8) : a ≤ b ↔ a.toNat ≤ b.toNat := UInt8.le_iff_toNat_le
  unfold K.plainC
  simp only [Bool.or_eq_true, Bool.and_eq_true, decide_eq_true_eq, l, contains_iff]
  have e1 : (97 : UInt8).toNat = 97 := rfl
  have e2 : (122 : UInt8).toNat = 122 := rfl
  have e3 : (65 : UInt8).toNat = 65 := rfl
  have e4 : (90 : UInt8).toNat = 90 := rfl
  have e5 : (48 : UInt8).toNat = 48 := rfl
  have e6 : (57 : UInt8).toNat = 57 := rfl
  rw [e1, e2, e3, e4, e5, e6]
  omega

set_option maxRecDepth 20000 in
set_option maxHeartbeats 2000000 in
theorem bare_any (c : UInt8) (w : World) :
    Calls Tryd.prog 33 #[.int .u8 c.toNat] w fun e w' => e = .returned (.bool (K.plainC c)) ∧ w = w' := by
  have HP : Hid (K.plainC c = true ↔ (97 ≤ c.toNat ∧ c.toNat ≤ 122) ∨ (65 ≤ c.toNat ∧ c.toNat ≤ 90) ∨ (48 ≤ c.toNat ∧ c.toNat ≤ 57) ∨ c.toNat = 95 ∨ c.toNat = 46 ∨ c.toNat = 47 ∨ c.toNat = 43 ∨ c.toNat = 45 ∨ c.toNat = 44 ∨ c.toNat = 58 ∨ c.toNat = 61 ∨ c.toNat = 64 ∨ c.toNat = 37) := plain_iff c
  obtain ⟨pc, hpc⟩ : ∃ pc, pc = K.plainC c := ⟨_, rfl⟩
  rw [← hpc]
  rw [← hpc] at HP
  clear hpc
  obtain ⟨n, hn⟩ : ∃ n, n = c.toNat := ⟨_, rfl⟩
  rw [← hn]
  rw [← hn] at HP
  have hn2 : n < 256 := by rw [hn]; exact c.toNat_lt
  clear hn
  by_cases h1 : (97 ≤ n ∧ n ≤ 122) ∨ (65 ≤ n ∧ n ≤ 90) ∨ (48 ≤ n ∧ n ≤ 57)
  · have HT : Hid (true = pc) := (HP.out.2 (by omega)).symm
    have H1 : Hid ((97 ≤ n ∧ n ≤ 122) ∨ (65 ≤ n ∧ n ≤ 90) ∨ (48 ≤ n ∧ n ≤ 57)) := h1
    clear HP
    rcases h1 with ⟨h1, h2⟩ | ⟨h1, h2⟩ | ⟨h1, h2⟩
    · have g1 : (97 : Int) ≤ n := by omega
      have g2 : (n : Int) ≤ 122 := by omega
      go_enter Tryd.func33, Tryd.ntmps33
      go_wp2
      go_ret
      exact ⟨ret_bool HT.out, rfl⟩
    · have g1 : ¬ (97 : Int) ≤ n := by omega
      have g2 : (65 : Int) ≤ n := by omega
      have g3 : (n : Int) ≤ 90 := by omega
      go_enter Tryd.func33, Tryd.ntmps33
      go_wp2
      go_ret
      exact ⟨ret_bool HT.out, rfl⟩
    · have g1 : ¬ (97 : Int) ≤ n := by omega
      have g2 : ¬ (65 : Int) ≤ n := by omega
      have g3 : (48 : Int) ≤ n := by omega
      have g4 : (n : Int) ≤ 57 := by omega
      go_enter Tryd.func33, Tryd.ntmps33
      go_wp2
      go_ret
      exact ⟨ret_bool HT.out, rfl⟩
  by_cases h95 : n = 95
  · subst h95
    have HT : Hid (true = pc) := (HP.out.2 (by omega)).symm
    clear HP h1
    go_enter Tryd.func33, Tryd.ntmps33
    go_wp2
    refine wp_loop_rounds 1 ?_
    rw [rounds_succ]
    go_wp2
    go_ret
    exact ⟨ret_bool HT.out, rfl⟩
  by_cases h46 : n = 46
  · subst h46
    have HT : Hid (true = pc) := (HP.out.2 (by omega)).symm
    clear HP h1
    go_enter Tryd.func33, Tryd.ntmps33
    go_wp2
    refine wp_loop_rounds 2 ?_
    rw [rounds_succ]
    go_wp2
    rw [rounds_succ]
    go_wp2
    go_ret
    exact ⟨ret_bool HT.out, rfl⟩
  by_cases h47 : n = 47
  · subst h47
    have HT : Hid (true = pc) := (HP.out.2 (by omega)).symm
    clear HP h1
    go_enter Tryd.func33, Tryd.ntmps33
    go_wp2
    refine wp_loop_rounds 3 ?_
    rw [rounds_succ]
    go_wp2
    rw [rounds_succ]
    go_wp2
    rw [rounds_succ]
    go_wp2
    go_ret
    exact ⟨ret_bool HT.out, rfl⟩
  by_cases h43 : n = 43
  · subst h43
    have HT : Hid (true = pc) := (HP.out.2 (by omega)).symm
    clear HP h1
    go_enter Tryd.func33, Tryd.ntmps33
    go_wp2
    refine wp_loop_rounds 4 ?_
    rw [rounds_succ]
    go_wp2
    rw [rounds_succ]
    go_wp2
    rw [rounds_succ]
    go_wp2
    rw [rounds_succ]
    go_wp2
    go_ret
    exact ⟨ret_bool HT.out, rfl⟩
  by_cases h45 : n = 45
  · subst h45
    have HT : Hid (true = pc) := (HP.out.2 (by omega)).symm
    clear HP h1
    go_enter Tryd.func33, Tryd.ntmps33
    go_wp2
    refine wp_loop_rounds 5 ?_
    rw [rounds_succ]
    go_wp2
    rw [rounds_succ]
    go_wp2
    rw [rounds_succ]
    go_wp2
    rw [rounds_succ]
    go_wp2
    rw [rounds_succ]
    go_wp2
    go_ret
    exact ⟨ret_bool HT.out, rfl⟩
  by_cases h44 : n = 44
  · subst h44
    have HT : Hid (true = pc) := (HP.out.2 (by omega)).symm
    clear HP h1
    go_enter Tryd.func33, Tryd.ntmps33
    go_wp2
    refine wp_loop_rounds 6 ?_
    rw [rounds_succ]
    go_wp2
    rw [rounds_succ]
    go_wp2
    rw [rounds_succ]
    go_wp2
    rw [rounds_succ]
    go_wp2
    rw [rounds_succ]
    go_wp2
    rw [rounds_succ]
    go_wp2
    go_ret
    exact ⟨ret_bool HT.out, rfl⟩
  by_cases h58 : n = 58
  · subst h58
    have HT : Hid (true = pc) := (HP.out.2 (by omega)).symm
    clear HP h1
    go_enter Tryd.func33, Tryd.ntmps33
    go_wp2
    refine wp_loop_rounds 7 ?_
    rw [rounds_succ]
    go_wp2
    rw [rounds_succ]
    go_wp2
    rw [rounds_succ]
    go_wp2
    rw [rounds_succ]
    go_wp2
    rw [rounds_succ]
    go_wp2
    rw [rounds_succ]
    go_wp2
    rw [rounds_succ]
    go_wp2
    go_ret
    exact ⟨ret_bool HT.out, rfl⟩
  by_cases h61 : n = 61
  · subst h61
    have HT : Hid (true = pc) := (HP.out.2 (by omega)).symm
    clear HP h1
    go_enter Tryd.func33, Tryd.ntmps33
    go_wp2
    refine wp_loop_rounds 8 ?_
    rw [rounds_succ]
    go_wp2
    rw [rounds_succ]
    go_wp2
    rw [rounds_succ]
    go_wp2
    rw [rounds_succ]
    go_wp2
    rw [rounds_succ]
    go_wp2
    rw [rounds_succ]
    go_wp2
    rw [rounds_succ]
    go_wp2
    rw [rounds_succ]
    go_wp2
    go_ret
    exact ⟨ret_bool HT.out, rfl⟩
  by_cases h64 : n = 64
  · subst h64
    have HT : Hid (true = pc) := (HP.out.2 (by omega)).symm
    clear HP h1
    go_enter Tryd.func33, Tryd.ntmps33
    go_wp2
    refine wp_loop_rounds 9 ?_
    rw [rounds_succ]
    go_wp2
    rw [rounds_succ]
    go_wp2
    rw [rounds_succ]
    go_wp2
    rw [rounds_succ]
    go_wp2
    rw [rounds_succ]
    go_wp2
    rw [rounds_succ]
    go_wp2
    rw [rounds_succ]
    go_wp2
    rw [rounds_succ]
    go_wp2
    rw [rounds_succ]
    go_wp2
    go_ret
    exact ⟨ret_bool HT.out, rfl⟩
  by_cases h37 : n = 37
  · subst h37
    have HT : Hid (true = pc) := (HP.out.2 (by omega)).symm
    clear HP h1
    go_enter Tryd.func33, Tryd.ntmps33
    go_wp2
    refine wp_loop_rounds 10 ?_
    rw [rounds_succ]
    go_wp2
    rw [rounds_succ]
    go_wp2
    rw [rounds_succ]
    go_wp2
    rw [rounds_succ]
    go_wp2
    rw [rounds_succ]
    go_wp2
    rw [rounds_succ]
    go_wp2
    rw [rounds_succ]
    go_wp2
    rw [rounds_succ]
    go_wp2
    rw [rounds_succ]
    go_wp2
    rw [rounds_succ]
    go_wp2
    go_ret
    exact ⟨ret_bool HT.out, rfl⟩
  have HT : Hid (false = pc) := by
    unfold Hid
    cases hp : pc with
    | false => rfl
    | true => have := HP.out.1 hp; omega
  have g0 : ¬ ((97 : Int) ≤ n ∧ (n : Int) ≤ 122) := by omega
  have g1 : ¬ ((65 : Int) ≤ n ∧ (n : Int) ≤ 90) := by omega
  have g2 : ¬ ((48 : Int) ≤ n ∧ (n : Int) ≤ 57) := by omega
  have k95 : ((((⟨#[95, 46, 47, 43, 45, 44, 58, 61, 64, 37]⟩ : ByteArray)[0]'(by decide)).toNat : Int) == (n : Int)) = false := by
    show ((95 : Int) == (n : Int)) = false
    simp; omega
  have k46 : ((((⟨#[95, 46, 47, 43, 45, 44, 58, 61, 64, 37]⟩ : ByteArray)[1]'(by decide)).toNat : Int) == (n : Int)) = false := by
    show ((46 : Int) == (n : Int)) = false
    simp; omega
  have k47 : ((((⟨#[95, 46, 47, 43, 45, 44, 58, 61, 64, 37]⟩ : ByteArray)[2]'(by decide)).toNat : Int) == (n : Int)) = false := by
    show ((47 : Int) == (n : Int)) = false
    simp; omega
  have k43 : ((((⟨#[95, 46, 47, 43, 45, 44, 58, 61, 64, 37]⟩ : ByteArray)[3]'(by decide)).toNat : Int) == (n : Int)) = false := by
    show ((43 : Int) == (n : Int)) = false
    simp; omega
  have k45 : ((((⟨#[95, 46, 47, 43, 45, 44, 58, 61, 64, 37]⟩ : ByteArray)[4]'(by decide)).toNat : Int) == (n : Int)) = false := by
    show ((45 : Int) == (n : Int)) = false
    simp; omega
  have k44 : ((((⟨#[95, 46, 47, 43, 45, 44, 58, 61, 64, 37]⟩ : ByteArray)[5]'(by decide)).toNat : Int) == (n : Int)) = false := by
    show ((44 : Int) == (n : Int)) = false
    simp; omega
  have k58 : ((((⟨#[95, 46, 47, 43, 45, 44, 58, 61, 64, 37]⟩ : ByteArray)[6]'(by decide)).toNat : Int) == (n : Int)) = false := by
    show ((58 : Int) == (n : Int)) = false
    simp; omega
  have k61 : ((((⟨#[95, 46, 47, 43, 45, 44, 58, 61, 64, 37]⟩ : ByteArray)[7]'(by decide)).toNat : Int) == (n : Int)) = false := by
    show ((61 : Int) == (n : Int)) = false
    simp; omega
  have k64 : ((((⟨#[95, 46, 47, 43, 45, 44, 58, 61, 64, 37]⟩ : ByteArray)[8]'(by decide)).toNat : Int) == (n : Int)) = false := by
    show ((64 : Int) == (n : Int)) = false
    simp; omega
  have k37 : ((((⟨#[95, 46, 47, 43, 45, 44, 58, 61, 64, 37]⟩ : ByteArray)[9]'(by decide)).toNat : Int) == (n : Int)) = false := by
    show ((37 : Int) == (n : Int)) = false
    simp; omega
  have HN : Hid (¬ ((97 ≤ n ∧ n ≤ 122) ∨ (65 ≤ n ∧ n ≤ 90) ∨ (48 ≤ n ∧ n ≤ 57))) := h1
  clear HP h1 h95 h46 h47 h43 h45 h44 h58 h61 h64 h37 g0 g1 g2
  by_cases a1 : (97 : Int) ≤ n
  all_goals by_cases a2 : (n : Int) ≤ 122
  all_goals by_cases a3 : (65 : Int) ≤ n
  all_goals by_cases a4 : (n : Int) ≤ 90
  all_goals by_cases a5 : (48 : Int) ≤ n
  all_goals by_cases a6 : (n : Int) ≤ 57
  all_goals first
    | (exfalso; have := HN.out; omega)
    | (go_enter Tryd.func33, Tryd.ntmps33
       go_wp2
       refine wp_loop_rounds 11 ?_
       rw [rounds_succ]
       go_wp2
       rw [rounds_succ]
       go_wp2
       rw [rounds_succ]
       go_wp2
       rw [rounds_succ]
       go_wp2
       rw [rounds_succ]
       go_wp2
       rw [rounds_succ]
       go_wp2
       rw [rounds_succ]
       go_wp2
       rw [rounds_succ]
       go_wp2
       rw [rounds_succ]
       go_wp2
       rw [rounds_succ]
       go_wp2
       rw [rounds_succ]
       go_wp2
       go_ret
       exact ⟨ret_bool HT.out, rfl⟩)
end Go.Proofs.YtanboocibmjomaaDoor
