/-
  ModsSort, at any words.
-/
import Derived.Test.YtedepknbaakkhaaGreatDoorM26
namespace Go.Proofs.YtedepknbaakkhaaGreatDoor
open Go.RowKit Go.Shelf Go.Sort

def cntL (x : ByteArray) (l : List ByteArray) : Nat := (l.filter fun y => decide (bl y = bl x)).length
theorem cnt_next (x : ByteArray) (l : List ByteArray) (k : Nat) (hk : k < l.length) : cntL x (l.take (k + 1)) = cntL x (l.take k) + if l[k] = x then 1 else 0 := by
  unfold cntL
  rw [List.take_succ_eq_append_getElem hk, List.filter_append, List.length_append]
  by_cases h : l[k] = x
  · simp [h]
  · have h2 : ¬ bl l[k] = bl x := fun e => h (bl_inj e)
    simp [h, h2]
theorem cnt_le (x : ByteArray) (l : List ByteArray) : cntL x l ≤ l.length := List.length_filter_le _ _
theorem cnt_perm {x : ByteArray} {l l' : List ByteArray} (h : l.Perm l') : cntL x l = cntL x l' := (h.filter _).length_eq
theorem sorted_le (l : List ByteArray) (k : Nat) (hk : k + 1 < (sortedL l).length) : bl (sortedL l)[k] ≤ bl (sortedL l)[k + 1] := by
  have hp := List.pairwise_mergeSort (le := fun x y : List UInt8 => decide (x ≤ y)) (fun a b c h1 h2 => by simp only [decide_eq_true_eq] at *; exact List.le_trans h1 h2) (fun a b => by simp only [Bool.or_eq_true, decide_eq_true_eq]; exact List.le_total a b) (l.map bl)
  rw [List.pairwise_iff_getElem] at hp
  have hl : ((l.map bl).mergeSort fun x y => decide (x ≤ y)).length = (sortedL l).length := by simp [sortedL]
  have := hp k (k + 1) (by omega) (by omega) (by omega)
  simp only [decide_eq_true_eq] at this
  simp only [sortedL, List.getElem_map, bl_ba]
  exact this
theorem words_up {W W' : World} {v : Value} {l : List ByteArray} (h : Words W.heap.size W v l) (hb : Below W.heap.size W W') : Words W'.heap.size W' v l := (h.below hb).mono hb.size

set_option maxRecDepth 20000 in
set_option maxHeartbeats 4000000 in
theorem sort_law (a : Option Addr) (n c : Nat) (l : List ByteArray) (w : World) (hw : Words w.heap.size w (.slice a n c) l) (hmx : Mx w) :
    Calls Tryz.prog 7 #[.slice a n c] w fun e w' => e = .returned (.bool true) ∧ Below w.heap.size w w' := by
  have hnl := hw.len
  have HAl : Hid (∀ W, Below w.heap.size w W → Calls Tryz.prog 10 #[] W fun e w' => e = .returned (.bool true) ∧ Below W.heap.size W w') := fun W hB => alive_any W (hmx.below hB hmx.pos)
  by_cases hfar : 200 < n ∨ longL l = true
  · have HF : Hid (Calls Tryz.prog 9 #[.string ⟨#[]⟩, .slice a n c] w fun e w' => e = .returned (.bool true) ∧ w = w') := by
      by_cases h2 : 200 < n
      · exact far_long _ a n c w (by decide) h2
      · have := far_short ⟨#[]⟩ a n c l w hw (by decide) (by omega)
        rw [hfar.resolve_left h2] at this; exact this
    clear hw hmx hfar hnl
    go_enter Tryz.func7, Tryz.ntmps7
    go_wp2_with fail
    refine HF.out.mono ?_
    rintro e w' ⟨rfl, rfl⟩
    go_wp2_with fail
    refine (HAl.out _ (Below.refl _ _)).mono ?_
    rintro e w1 ⟨rfl, hb⟩
    go_wp2
    go_ret
    exact ⟨rfl, hb⟩
  · have hn : n ≤ 200 := by omega
    have hlg : longL l = false := by cases h : longL l with | true => exact absurd (Or.inr h) hfar | false => rfl
    have HF : Hid (Calls Tryz.prog 9 #[.string ⟨#[]⟩, .slice a n c] w fun e w' => e = .returned (.bool false) ∧ w = w') := by
      have := far_short ⟨#[]⟩ a n c l w hw (by decide) hn
      rw [hlg] at this; exact this
    have hfew := few_of (by omega) hlg
    have HC : Hid (∀ s r W, AllR s l r → Below w.heap.size w W → Calls Tryz.prog 11 #[.string s, .slice a n c] W fun e w' => ∃ a' c', e = .returned (.tuple #[.slice a' r.length c', .int .i64 0]) ∧ Words w'.heap.size w' (.slice a' r.length c') r ∧ Below W.heap.size W w') := fun s r W hA hB => hA a n c W (words_up hw hB) hfew (hmx.below hB hmx.pos)
    have HW : Hid (∀ W, Below w.heap.size w W → Words W.heap.size W (.slice a n c) l) := fun W hB => words_up hw hB
    obtain ⟨A, hA⟩ : ∃ A, A = sortedL l := ⟨_, rfl⟩
    obtain ⟨U, hU⟩ : ∃ U, U = compactL l := ⟨_, rfl⟩
    have H1 : Hid (AllR ⟨#[79]⟩ l A ∧ AllR ⟨#[79, 114, 58, 114]⟩ l A ∧ AllR ⟨#[114, 58, 114]⟩ l l ∧ AllR ⟨#[117]⟩ l U ∧ AllR ⟨#[117, 58, 117]⟩ l U) := by
      rw [hA, hU]; exact ⟨all_O l, all_Orr l, all_rr l, all_u l, all_uu l⟩
    have HUl : Hid (U.length ≤ 4096) := by unfold Hid; rw [hU]; exact (few_compact l hfew).1
    have HAn : Hid (A.length = n ∧ n = l.length) := ⟨by rw [hA, sorted_length, hnl], hnl⟩
    have HSt : Hid (∀ k (hk : k + 1 < A.length), bl A[k] ≤ bl A[k + 1]) := by
      unfold Hid; rw [hA]; exact fun k hk => sorted_le l k hk
    have HCn : Hid (∀ x, cntL x l = cntL x A) := fun x => by rw [hA]; exact (cnt_perm (sortedL_perm l)).symm
    obtain ⟨an, han⟩ : ∃ an, an = A.length := ⟨_, rfl⟩
    obtain ⟨un, hun⟩ : ∃ un, un = U.length := ⟨_, rfl⟩
    obtain ⟨ln, hln⟩ : ∃ ln, ln = l.length := ⟨_, rfl⟩
    have e1 : an = n := by rw [han, HAn.out.1]
    have e2 : ln = n := by rw [hln, ← HAn.out.2]
    have HL : Hid (an = A.length ∧ un = U.length ∧ ln = l.length) := ⟨han, hun, hln⟩
    have H2 : Hid (∀ W, Below w.heap.size w W → (Calls Tryz.prog 11 #[.string ⟨#[79]⟩, .slice a n c] W fun e w' => ∃ a' c', e = .returned (.tuple #[.slice a' n c', .int .i64 0]) ∧ Words w'.heap.size w' (.slice a' n c') A ∧ Below W.heap.size W w') ∧ (Calls Tryz.prog 11 #[.string ⟨#[79, 114, 58, 114]⟩, .slice a n c] W fun e w' => ∃ a' c', e = .returned (.tuple #[.slice a' n c', .int .i64 0]) ∧ Words w'.heap.size w' (.slice a' n c') A ∧ Below W.heap.size W w') ∧ (Calls Tryz.prog 11 #[.string ⟨#[114, 58, 114]⟩, .slice a n c] W fun e w' => ∃ a' c', e = .returned (.tuple #[.slice a' n c', .int .i64 0]) ∧ Words w'.heap.size w' (.slice a' n c') l ∧ Below W.heap.size W w') ∧ (Calls Tryz.prog 11 #[.string ⟨#[117]⟩, .slice a n c] W fun e w' => ∃ a' c', e = .returned (.tuple #[.slice a' un c', .int .i64 0]) ∧ Words w'.heap.size w' (.slice a' un c') U ∧ Below W.heap.size W w') ∧ (Calls Tryz.prog 11 #[.string ⟨#[117, 58, 117]⟩, .slice a n c] W fun e w' => ∃ a' c', e = .returned (.tuple #[.slice a' un c', .int .i64 0]) ∧ Words w'.heap.size w' (.slice a' un c') U ∧ Below W.heap.size W w')) := fun W hB => by
      obtain ⟨g1, g2, g3, g4, g5⟩ := H1.out
      have k1 := HC.out _ _ W g1 hB
      have k2 := HC.out _ _ W g2 hB
      have k3 := HC.out _ _ W g3 hB
      have k4 := HC.out _ _ W g4 hB
      have k5 := HC.out _ _ W g5 hB
      rw [← han, e1] at k1 k2
      rw [← hln, e2] at k3
      rw [← hun] at k4 k5
      exact ⟨k1, k2, k3, k4, k5⟩
    clear hw hmx hfar hnl hlg hfew hA hU e1 e2 han hun hln H1 HC
    go_enter Tryz.func7, Tryz.ntmps7
    go_wp2_with fail
    refine HF.out.mono ?_
    rintro e w' ⟨rfl, rfl⟩
    go_wp2_with fail
    refine (H2.out _ (Below.refl _ _)).1.mono ?_
    rintro e w1 ⟨a1, c1, rfl, hw1, hb1⟩
    have B1 : Hid (Below w.heap.size w w1) := hb1
    clear hb1
    go_wp2_with fail
    refine (H2.out _ B1.out).2.1.mono ?_
    rintro e w2 ⟨a2, c2, rfl, hw2, hb2⟩
    have B2 : Hid (Below w.heap.size w w2) := B1.out.trans (hb2.mono B1.out.size)
    replace hw1 := words_up hw1 hb2
    clear hb2
    go_wp2_with fail
    refine (H2.out _ B2.out).2.2.1.mono ?_
    rintro e w3 ⟨a3, c3, rfl, hw3, hb3⟩
    have B3 : Hid (Below w.heap.size w w3) := B2.out.trans (hb3.mono B2.out.size)
    replace hw1 := words_up hw1 hb3
    replace hw2 := words_up hw2 hb3
    clear hb3
    go_wp2_with fail
    refine (H2.out _ B3.out).2.2.2.1.mono ?_
    rintro e w4 ⟨a4, c4, rfl, hw4, hb4⟩
    have B4 : Hid (Below w.heap.size w w4) := B3.out.trans (hb4.mono B3.out.size)
    replace hw1 := words_up hw1 hb4
    replace hw2 := words_up hw2 hb4
    replace hw3 := words_up hw3 hb4
    clear hb4
    go_wp2_with fail
    refine (H2.out _ B4.out).2.2.2.2.mono ?_
    rintro e w5 ⟨a5, c5, rfl, hw5, hb5⟩
    have B5 : Hid (Below w.heap.size w w5) := B4.out.trans (hb5.mono B4.out.size)
    replace hw1 := words_up hw1 hb5
    replace hw2 := words_up hw2 hb5
    replace hw3 := words_up hw3 hb5
    replace hw4 := words_up hw4 hb5
    clear hb5
    have HZ : Hid (∀ W, Below w5.heap.size w5 W → Words W.heap.size W (.slice a1 n c1) A ∧ Words W.heap.size W (.slice a2 n c2) A ∧ Words W.heap.size W (.slice a3 n c3) l ∧ Words W.heap.size W (.slice a4 un c4) U ∧ Words W.heap.size W (.slice a5 un c5) U ∧ Words W.heap.size W (.slice a n c) l) := fun W hB => ⟨words_up hw1 hB, words_up hw2 hB, words_up hw3 hB, words_up hw4 hB, words_up hw5 hB, HW.out _ (B5.out.trans (hB.mono B5.out.size))⟩
    clear hw1 hw2 hw3 hw4 hw5
    have S1 : Hid (∀ W, Below w5.heap.size w5 W → Calls Tryz.prog 13 #[.slice a1 n c1, .slice a2 n c2] W fun e w' => e = .returned (.bool true) ∧ ∃ n, w' = W.drewN n) := fun W hB => same_any A _ _ _ _ W (by rw [← HL.out.1]; have := HAn.out.1; have := HL.out.1; omega) (HZ.out W hB).1 (HZ.out W hB).2.1
    have S2 : Hid (∀ W, Below w5.heap.size w5 W → Calls Tryz.prog 13 #[.slice a3 n c3, .slice a n c] W fun e w' => e = .returned (.bool true) ∧ ∃ n, w' = W.drewN n) := fun W hB => same_any l _ _ _ _ W (by have := HAn.out.2; omega) (HZ.out W hB).2.2.1 (HZ.out W hB).2.2.2.2.2
    have S3 : Hid (∀ W, Below w5.heap.size w5 W → Calls Tryz.prog 13 #[.slice a4 un c4, .slice a5 un c5] W fun e w' => e = .returned (.bool true) ∧ ∃ n, w' = W.drewN n) := fun W hB => same_any U _ _ _ _ W (by have := HUl.out; omega) (HZ.out W hB).2.2.2.1 (HZ.out W hB).2.2.2.2.1
    have hnn : ((n : Int) != (n : Int)) = false := by simp
    go_wp2_with fail
    refine (S1.out _ (Below.refl _ _)).mono ?_
    rintro e w6 ⟨rfl, k6, hk6⟩
    have B6 : Hid (Below w5.heap.size w5 w6) := by unfold Hid; rw [hk6]; exact below_drewN (Below.refl _ _) k6
    clear hk6
    go_wp2_with fail
    refine (S2.out _ B6.out).mono ?_
    rintro e w7 ⟨rfl, k7, hk7⟩
    have B7 : Hid (Below w5.heap.size w5 w7) := by unfold Hid; rw [hk7]; exact below_drewN B6.out k7
    clear hk7
    go_wp2_with fail
    refine (S3.out _ B7.out).mono ?_
    rintro e w8 ⟨rfl, k8, hk8⟩
    have B8 : Hid (Below w5.heap.size w5 w8) := by unfold Hid; rw [hk8]; exact below_drewN B7.out k8
    clear hk8
    go_wp2
    go_loopw [93] (fun vi wr => ∃ k : Nat, k ≤ n ∧ vi = .int .i64 k ∧ w8 = wr) (fun vi _ => n - (intOf vi).toNat)
    case atStart => exact ⟨0, Nat.zero_le _, rfl, rfl⟩
    case round =>
      obtain ⟨k, hk, rfl, rfl⟩ := hrel
      by_cases hlt : k < n
      · have hil : (k : Int) < (n : Int) := by omega
        have hkl : k < A.length := by rw [HAn.out.1]; exact hlt
        obtain ⟨bA, oA, haA, _, eA⟩ := (HZ.out _ B8.out).1.pick k hkl
        subst haA
        obtain ⟨x, hx⟩ : ∃ x, x = A[k] := ⟨_, rfl⟩
        rw [← hx] at eA
        have HX : Hid (∃ h : k < A.length, x = A[k]) := ⟨hkl, hx⟩
        clear hx hkl
        go_wp2
        go_loopw [15, 100] (fun v15 vi wr => ∃ k2 z : Nat, k2 ≤ n ∧ vi = .int .i64 k2 ∧ v15 = .int .i64 z ∧ z ≤ k2 ∧ Hid (z = cntL x (l.take k2)) ∧ w8 = wr) (fun _ vi _ => n - (intOf vi).toNat)
        case atStart => exact ⟨0, 0, Nat.zero_le _, rfl, rfl, Nat.le_refl _, rfl, rfl⟩
        case round =>
          obtain ⟨k2, z, hk2, rfl, rfl, hz, HZc, rfl⟩ := hrel
          by_cases hlt2 : k2 < n
          · have hil2 : (k2 : Int) < (n : Int) := by omega
            have hkl2 : k2 < l.length := by rw [← HAn.out.2]; exact hlt2
            obtain ⟨bW, oW, haW, _, eW⟩ := (HZ.out _ B8.out).2.2.2.2.2.pick k2 hkl2
            subst haW
            obtain ⟨y, hy⟩ : ∃ y, y = l[k2] := ⟨_, rfl⟩
            have hcn := cnt_next x l k2 hkl2
            rw [← hy] at eW hcn
            rw [← HZc.out] at hcn
            clear hy hkl2 HZc
            by_cases hyx : y = x
            · subst hyx
              rw [if_pos rfl] at hcn
              have HC2 : Hid (z + 1 = cntL y (l.take (k2 + 1))) := hcn.symm
              clear hcn
              go_wp2
              go_roundw
              case rel => exact ⟨k2 + 1, z + 1, by omega, by go_num, by go_num, by omega, HC2, trivial⟩
              case measure => simp [intOf]; omega
            · rw [if_neg hyx] at hcn
              have HC2 : Hid (z = cntL x (l.take (k2 + 1))) := hcn.symm
              have u1 : ¬ y.toList = x.toList := by rw [Lib.toList_data, Lib.toList_data]; exact fun e => hyx (bl_inj e)
              have u2 : (y.toList == x.toList) = false := beq_eq_false_iff_ne.2 u1
              clear hcn hyx
              go_wp2
              go_roundw
              case rel => exact ⟨k2 + 1, z, by omega, by go_num, rfl, by omega, HC2, trivial⟩
              case measure => simp [intOf]; omega
          · obtain rfl : k2 = n := by omega
            have HC0 : Hid (z = cntL x A) := by unfold Hid; rw [HZc.out, HAn.out.2, List.take_length]; exact HCn.out x
            clear HZc
            go_wp2
            go_loopw [15, 112] (fun v15 vi wr => ∃ (k3 : Nat) (t : Int), k3 ≤ k2 ∧ vi = .int .i64 k3 ∧ v15 = .int .i64 t ∧ -1000 ≤ t ∧ t ≤ 1000 ∧ Hid (t = (z : Int) - cntL x (A.take k3)) ∧ w8 = wr) (fun _ vi _ => k2 - (intOf vi).toNat)
            case atStart => exact ⟨0, z, Nat.zero_le _, rfl, rfl, by omega, by omega, by unfold Hid; simp [cntL], rfl⟩
            case round =>
              obtain ⟨k3, t, hk3, rfl, rfl, ht1, ht2, HT, rfl⟩ := hrel
              by_cases hlt3 : k3 < k2
              · have hil3 : (k3 : Int) < (k2 : Int) := by omega
                have hkl3 : k3 < A.length := by rw [HAn.out.1]; exact hlt3
                obtain ⟨bB, oB, haB, _, eB⟩ := (HZ.out _ B8.out).1.pick k3 hkl3
                simp only [Option.some.injEq, Addr.mk.injEq, and_true] at haB
                obtain ⟨rfl, rfl⟩ := haB
                obtain ⟨y, hy⟩ : ∃ y, y = A[k3] := ⟨_, rfl⟩
                have hcn := cnt_next x A k3 hkl3
                rw [← hy] at eB hcn
                have hcl := cnt_le x (A.take k3)
                have hcl2 := cnt_le x (A.take (k3 + 1))
                rw [List.length_take] at hcl hcl2
                clear hy hkl3
                by_cases hyx : y = x
                · subst hyx
                  rw [if_pos rfl] at hcn
                  have HC2 : Hid (t - 1 = (z : Int) - cntL y (A.take (k3 + 1))) := by unfold Hid; rw [HT.out, hcn]; omega
                  have hb1 : -1000 ≤ t - 1 := by rw [HC2.out]; omega
                  clear hcn hcl hcl2 HT
                  go_wp2
                  go_roundw
                  case rel => exact ⟨k3 + 1, t - 1, by omega, by go_num, by go_num, hb1, by omega, HC2, trivial⟩
                  case measure => simp [intOf]; omega
                · rw [if_neg hyx] at hcn
                  have HC2 : Hid (t = (z : Int) - cntL x (A.take (k3 + 1))) := by unfold Hid; rw [HT.out, hcn]; rfl
                  have u1 : ¬ y.toList = x.toList := by rw [Lib.toList_data, Lib.toList_data]; exact fun e => hyx (bl_inj e)
                  have u2 : (y.toList == x.toList) = false := beq_eq_false_iff_ne.2 u1
                  clear hcn hyx hcl hcl2 HT
                  go_wp2
                  go_roundw
                  case rel => exact ⟨k3 + 1, t, by omega, by go_num, rfl, ht1, ht2, HC2, trivial⟩
                  case measure => simp [intOf]; omega
              · obtain rfl : k3 = k2 := by omega
                have ht0 : t = 0 := by rw [HT.out, HC0.out, ← HAn.out.1, List.take_length]; omega
                clear HT
                subst ht0
                by_cases hk0 : k = 0
                · subst hk0
                  go_wp2
                  go_roundw
                  case rel => exact ⟨1, by omega, by go_num, trivial⟩
                  case measure => simp [intOf]; omega
                · have hk00 : (0 : Int) < (k : Int) := by omega
                  have hkm : ((k : Int) - 1).toNat = k - 1 := by omega
                  have hkm0 : (0 : Int) ≤ (k : Int) - 1 := by omega
                  have hkm1 : (k : Int) - 1 < (k3 : Int) := by omega
                  have hkl4 : k - 1 < A.length := by rw [HAn.out.1]; omega
                  obtain ⟨bB, oB, haB, _, eB⟩ := (HZ.out _ B8.out).1.pick (k - 1) hkl4
                  simp only [Option.some.injEq, Addr.mk.injEq, and_true] at haB
                  obtain ⟨rfl, rfl⟩ := haB
                  obtain ⟨y, hy⟩ : ∃ y, y = A[k - 1] := ⟨_, rfl⟩
                  rw [← hy] at eB
                  have hle : bl y ≤ bl x := by
                    obtain ⟨hkA, hxA⟩ := HX.out
                    have h7 := HSt.out (k - 1) (by omega)
                    rw [hy, hxA]
                    have e : k - 1 + 1 = k := by omega
                    simp only [e] at h7
                    exact h7
                  by_cases hyx : y = x
                  · have v1 : (y.toList == x.toList) = true := by rw [hyx]; simp
                    have v2 : y.toList = x.toList := by rw [hyx]
                    clear hy hkl4 hle hyx
                    go_wp2
                    go_roundw
                    case rel => exact ⟨k + 1, by omega, by go_num, trivial⟩
                    case measure => simp [intOf]; omega
                  · have v1 : Op.bytesLess y.toList x.toList = true := by
                      rw [bytesLess_eq, Lib.toList_data, Lib.toList_data, decide_eq_true_eq]
                      exact Classical.byContradiction fun h => hyx (bl_inj (List.le_antisymm hle h))
                    clear hy hkl4 hle hyx
                    go_wp2
                    go_roundw
                    case rel => exact ⟨k + 1, by omega, by go_num, trivial⟩
                    case measure => simp [intOf]; omega
      · obtain rfl : k = n := by omega
        have HBE : Hid (Below w.heap.size w w8) := B5.out.trans (B8.out.mono B5.out.size)
        go_wp2_with fail
        refine (HAl.out _ HBE.out).mono ?_
        rintro e w9 ⟨rfl, hb9⟩
        have HE : Hid (Below w.heap.size w w9) := HBE.out.trans (hb9.mono HBE.out.size)
        clear hb9
        go_wp2
        go_ret
        exact ⟨rfl, HE.out⟩
end Go.Proofs.YtedepknbaakkhaaGreatDoor
