/-
  What the statements WordSplits, WordQuotes and WordFields answer, called at texts of at most 1100000 bytes: true; nothing that was there has turned.
-/
import Derived.Test.YtanboocibmjomaaDoorAlive
import Derived.Test.YtanboocibmjomaaDoorRSplit
import Derived.Test.YtanboocibmjomaaDoorRFields
import Derived.Test.YtanboocibmjomaaDoorRQuote
import Derived.Test.YtanboocibmjomaaDoorRJoin
namespace Go.Proofs.YtanboocibmjomaaDoor
open Go.RowKit Go.Shelf

theorem HA_of : ∀ W, Mx W → Calls Tryd.prog 14 #[] W fun e w' => e = .returned (.bool true) ∧ Below W.heap.size W w' := fun W h => alive_any W h

set_option maxRecDepth 20000 in
set_option maxHeartbeats 400000 in
theorem quotes_law (s : ByteArray) (w : World) (hs : s.size ≤ 1100000) (hM : Mx w) :
    Calls Tryd.prog 4 #[.string s] w fun e w' => e = .returned (.bool true) ∧ Below w.heap.size w w' := by
  obtain ⟨q, hq⟩ : ∃ q, q = ba (K.quote (bl s)) := ⟨_, rfl⟩
  have HQ : Hid (∀ W, Mx W → Calls Tryd.prog 15 #[.string s] W fun e w' => e = .returned (.string q) ∧ Below W.heap.size W w') := fun W h => by rw [hq]; exact quote_ok s W (by omega) h
  have HR : Hid (∀ W, Calls Tryd.prog 16 #[.string s] W fun e w' => e = .returned (.string q) ∧ Below W.heap.size W w') := fun W => by rw [hq]; exact rquote_any s W (by omega)
  have HA : Hid (∀ W, Mx W → Calls Tryd.prog 14 #[] W fun e w' => e = .returned (.bool true) ∧ Below W.heap.size W w') := HA_of
  have HM : Hid (Mx w) := hM
  clear hM hq
  go_enter Tryd.func4, Tryd.ntmps4
  go_wp2_with fail
  refine (HQ.out _ HM.out).mono ?_
  rintro e w1 ⟨rfl, hb1⟩
  go_wp2_with fail
  refine (HR.out _).mono ?_
  rintro e w2 ⟨rfl, hb2⟩
  have hb12 := hb1.trans (hb2.mono hb1.size)
  have HM2 : Hid (Mx w2) := HM.out.below hb12 HM.out.pos
  clear hb1 hb2
  go_wp2_with fail
  refine (HA.out _ HM2.out).mono ?_
  rintro e w3 ⟨rfl, hb3⟩
  have hb13 := hb12.trans (hb3.mono hb12.size)
  clear hb12 hb3
  go_wp2
  go_ret
  exact ⟨rfl, hb13⟩

set_option maxRecDepth 20000 in
set_option maxHeartbeats 400000 in
theorem splits_law (s : ByteArray) (w : World) (hs : s.size ≤ 1100000) (hM : Mx w) :
    Calls Tryd.prog 3 #[.string s] w fun e w' => e = .returned (.bool true) ∧ Below w.heap.size w w' := by
  have hln : (splitW s).length ≤ 2000000 := by
    have h := K.cut_length (st := K.Rd.step) (f := K.Rd.blank) K.Rd.r0 [] (bl s)
    rw [bl_length] at h
    have h2 : (wds s).length ≤ s.size := by unfold wds K.words; simpa using h
    unfold splitW
    split
    · omega
    · simp
  obtain ⟨l, hl⟩ : ∃ l, l = splitW s := ⟨_, rfl⟩
  obtain ⟨n, hn⟩ : ∃ n, n = splitE s := ⟨_, rfl⟩
  obtain ⟨t, ht⟩ : ∃ t, t = meanT s := ⟨_, rfl⟩
  obtain ⟨m, hm⟩ : ∃ m, m = meanE s := ⟨_, rfl⟩
  have HS : Hid (∀ W, Calls Tryd.prog 9 #[.string s] W fun e w' => ∃ v, e = .returned (.tuple #[v, .int .i64 (n : Nat)]) ∧ Words w'.heap.size w' v l ∧ Below W.heap.size W w') := fun W => by rw [hl, hn]; exact split_any s W (by omega)
  have HR : Hid (∀ W, Calls Tryd.prog 10 #[.string s] W fun e w' => ∃ v, e = .returned (.tuple #[v, .int .i64 (n : Nat)]) ∧ Words w'.heap.size w' v l ∧ Below W.heap.size W w') := fun W => by rw [hl, hn]; exact rsplit_any s W (by omega)
  have HT : Hid (∀ W, Calls Tryd.prog 11 #[.string s] W fun e w' => e = .returned (.tuple #[.string t, .int .i64 (m : Nat)]) ∧ Below W.heap.size W w') := fun W => by rw [ht, hm]; exact mean_any s W (by omega)
  have HU : Hid (∀ W, Calls Tryd.prog 12 #[.string s] W fun e w' => e = .returned (.tuple #[.string t, .int .i64 (m : Nat)]) ∧ Below W.heap.size W w') := fun W => by rw [ht, hm]; exact rmean_any s W (by omega)
  have HC : Hid (∀ v1 v2 W B, Words B W v1 l → Words B W v2 l → Calls Tryd.prog 13 #[v1, v2] W fun e w' => e = .returned (.bool true) ∧ ∃ n, w' = W.drewN n) := fun v1 v2 W B h1 h2 => same_any l _ _ B B W (by rw [hl]; omega) h1 h2
  have HA : Hid (∀ W, Mx W → Calls Tryd.prog 14 #[] W fun e w' => e = .returned (.bool true) ∧ Below W.heap.size W w') := HA_of
  have HM : Hid (Mx w) := hM
  clear hM hl hn ht hm hln
  go_enter Tryd.func3, Tryd.ntmps3
  go_wp2_with fail
  refine (HS.out _).mono ?_
  rintro e w1 ⟨v1, rfl, hw1, hb1⟩
  have HW1 : Hid (Words w1.heap.size w1 v1 l) := hw1
  clear hw1
  go_wp2_with fail
  refine (HR.out _).mono ?_
  rintro e w2 ⟨v2, rfl, hw2, hb2⟩
  have HW2 : Hid (Words w2.heap.size w2 v1 l ∧ Words w2.heap.size w2 v2 l) := ⟨(HW1.out.below hb2).mono hb2.size, hw2⟩
  have hb12 := hb1.trans (hb2.mono hb1.size)
  clear hb1 hb2 HW1 hw2
  go_wp2_with fail
  refine (HT.out _).mono ?_
  rintro e w3 ⟨rfl, hb3⟩
  have HW3 : Hid (Words w3.heap.size w3 v1 l ∧ Words w3.heap.size w3 v2 l) := ⟨(HW2.out.1.below hb3).mono hb3.size, (HW2.out.2.below hb3).mono hb3.size⟩
  have hb13 := hb12.trans (hb3.mono hb12.size)
  clear hb12 hb3 HW2
  go_wp2_with fail
  refine (HU.out _).mono ?_
  rintro e w4 ⟨rfl, hb4⟩
  have HW4 : Hid (Words w4.heap.size w4 v1 l ∧ Words w4.heap.size w4 v2 l) := ⟨(HW3.out.1.below hb4).mono hb4.size, (HW3.out.2.below hb4).mono hb4.size⟩
  have hb14 := hb13.trans (hb4.mono hb13.size)
  clear hb13 hb4 HW3
  go_wp2_with fail
  refine (HC.out _ _ _ _ HW4.out.1 HW4.out.2).mono ?_
  rintro e w5 ⟨rfl, k, rfl⟩
  have hb15 : Below w.heap.size w (w4.drewN k) := below_drewN hb14 k
  have HM5 : Hid (Mx (w4.drewN k)) := HM.out.below hb15 HM.out.pos
  clear hb14
  go_wp2_with fail
  refine (HA.out _ HM5.out).mono ?_
  rintro e w6 ⟨rfl, hb6⟩
  have hb16 := hb15.trans (hb6.mono hb15.size)
  clear hb15 hb6
  go_wp2
  go_ret
  exact ⟨rfl, hb16⟩

set_option maxRecDepth 20000 in
set_option maxHeartbeats 400000 in
theorem fields_law (s : ByteArray) (a : Option Addr) (n c : Nat) (ls : List ByteArray) (w : World) (hs : s.size ≤ 1100000) (hn : n ≤ 1100000) (hj : (joined ls).size ≤ 4000000) (hw : Words w.heap.size w (.slice a n c) ls) (hM : Mx w) :
    Calls Tryd.prog 5 #[.string s, .slice a n c] w fun e w' => e = .returned (.bool true) ∧ Below w.heap.size w w' := by
  have hfl := flds_len s
  obtain ⟨l, hl⟩ : ∃ l, l = flds s := ⟨_, rfl⟩
  obtain ⟨m, hm⟩ : ∃ m, m = l.length := ⟨_, rfl⟩
  obtain ⟨j, hjj⟩ : ∃ j, j = joined ls := ⟨_, rfl⟩
  have HF : Hid (∀ W, Calls Tryd.prog 17 #[.string s] W fun e w' => ∃ v, e = .returned v ∧ Words w'.heap.size w' v l ∧ Below W.heap.size W w') := fun W => by rw [hl]; exact fields_any s W (by omega)
  have HR : Hid (∀ W, Calls Tryd.prog 18 #[.string s] W fun e w' => ∃ v, e = .returned v ∧ Words w'.heap.size w' v l ∧ Below W.heap.size W w') := fun W => by rw [hl]; exact rfields_any s W (by omega)
  have HN : Hid (∀ W, Calls Tryd.prog 19 #[.string s] W fun e w' => e = .returned (.int .i64 (m : Nat)) ∧ Below W.heap.size W w') := fun W => by rw [hm, hl]; exact count_any s W (by omega)
  have HJ : Hid (∀ W, Words W.heap.size W (.slice a n c) ls → Calls Tryd.prog 20 #[.slice a n c] W fun e w' => e = .returned (.string j) ∧ Below W.heap.size W w') := fun W h => by rw [hjj]; exact join_any a n c ls W (by omega) (by omega) h
  have HK : Hid (∀ W, Words W.heap.size W (.slice a n c) ls → Calls Tryd.prog 21 #[.slice a n c] W fun e w' => e = .returned (.string j) ∧ Below W.heap.size W w') := fun W h => by rw [hjj]; exact rjoin_any a n c ls W (by omega) (by omega) h
  have HC : Hid (∀ v1 v2 W B, Words B W v1 l → Words B W v2 l → Calls Tryd.prog 13 #[v1, v2] W fun e w' => e = .returned (.bool true) ∧ ∃ n, w' = W.drewN n) := fun v1 v2 W B h1 h2 => same_any l _ _ B B W (by rw [hl]; omega) h1 h2
  have HA : Hid (∀ W, Mx W → Calls Tryd.prog 14 #[] W fun e w' => e = .returned (.bool true) ∧ Below W.heap.size W w') := HA_of
  have HM : Hid (Mx w) := hM
  have HW : Hid (Words w.heap.size w (.slice a n c) ls) := hw
  have HL : Hid (m = l.length) := hm
  clear hM hw hl hm hjj hfl
  go_enter Tryd.func5, Tryd.ntmps5
  go_wp2_with fail
  refine (HF.out _).mono ?_
  rintro e w1 ⟨v1, rfl, hw1, hb1⟩
  have HW1 : Hid (Words w1.heap.size w1 v1 l) := hw1
  clear hw1
  go_wp2_with fail
  refine (HR.out _).mono ?_
  rintro e w2 ⟨v2, rfl, hw2, hb2⟩
  have HW2 : Hid (Words w2.heap.size w2 v1 l ∧ Words w2.heap.size w2 v2 l) := ⟨(HW1.out.below hb2).mono hb2.size, hw2⟩
  have hb12 := hb1.trans (hb2.mono hb1.size)
  clear hb1 hb2 HW1 hw2
  go_wp2_with fail
  refine (HC.out _ _ _ _ HW2.out.1 HW2.out.2).mono ?_
  rintro e w3 ⟨rfl, k, rfl⟩
  obtain ⟨w3, hw3⟩ : ∃ w3, w3 = w2.drewN k := ⟨_, rfl⟩
  rw [← hw3]
  have hb13 : Below w.heap.size w w3 := by rw [hw3]; exact below_drewN hb12 k
  clear hb12 hw3 HW2
  go_wp2_with fail
  refine (HN.out _).mono ?_
  rintro e w4 ⟨rfl, hb4⟩
  have hb14 := hb13.trans (hb4.mono hb13.size)
  clear hb13 hb4
  go_wp2_with fail
  refine (HR.out _).mono ?_
  rintro e w5 ⟨v5, rfl, hw5, hb5⟩
  obtain ⟨a5, c5, hv5⟩ : ∃ a5 c5, v5 = .slice a5 m c5 := by
    obtain ⟨a, n, c, h1, h2, _⟩ := hw5
    exact ⟨a, c, by rw [h1, h2, HL.out]⟩
  subst hv5
  have hb15 := hb14.trans (hb5.mono hb14.size)
  have HWw : Hid (Words w5.heap.size w5 (.slice a n c) ls) := (HW.out.below hb15).mono hb15.size
  clear hb14 hb5 hw5
  go_wp2_with fail
  refine (HJ.out _ HWw.out).mono ?_
  rintro e w6 ⟨rfl, hb6⟩
  have hb16 := hb15.trans (hb6.mono hb15.size)
  have HWx : Hid (Words w6.heap.size w6 (.slice a n c) ls) := (HW.out.below hb16).mono hb16.size
  clear hb15 hb6 HWw
  go_wp2_with fail
  refine (HK.out _ HWx.out).mono ?_
  rintro e w7 ⟨rfl, hb7⟩
  have hb17 := hb16.trans (hb7.mono hb16.size)
  have HM7 : Hid (Mx w7) := HM.out.below hb17 HM.out.pos
  clear hb16 hb7 HWx
  go_wp2_with fail
  refine (HA.out _ HM7.out).mono ?_
  rintro e w8 ⟨rfl, hb8⟩
  have hb18 := hb17.trans (hb8.mono hb17.size)
  clear hb17 hb8
  go_wp2
  go_ret
  exact ⟨rfl, hb18⟩
end Go.Proofs.YtanboocibmjomaaDoor
