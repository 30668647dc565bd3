/-
  What the statement WordAgain answers, called at any text: true; nothing that was there has turned.
-/
import Derived.Test.YtanboocibmjomaaDoorAlive
namespace Go.Proofs.YtanboocibmjomaaDoor
open Go.RowKit Go.Shelf

theorem map_bl_ba (l : List (List UInt8)) : (l.map ba).map bl = l := by
  rw [List.map_map]
  have : (bl ∘ ba) = id := funext bl_ba
  rw [this, List.map_id]
theorem told_words {l : List (List UInt8)} (h : ∀ w ∈ l, w ≠ []) : told (l.map ba) = l.map ba := by
  unfold told
  rw [List.filter_eq_self]
  intro x hx
  obtain ⟨y, hy, rfl⟩ := List.mem_map.1 hx
  unfold neE
  rw [decide_eq_true_eq]
  exact fun e => h y hy (by rw [← bl_ba y, e]; rfl)
theorem joined_words {l : List (List UInt8)} (h : ∀ w ∈ l, w ≠ []) : joined (l.map ba) = ba (K.joinB l) := by
  unfold joined
  rw [told_words h, map_bl_ba]
theorem joinB_len (l : List (List UInt8)) : (K.joinB l).length ≤ (l.map List.length).sum + l.length := by
  induction l with
  | nil => simp [K.joinB]
  | cons x t ih =>
    cases t with
    | nil => simp [K.joinB]
    | cons y t =>
      rw [K.joinB_cons2]
      simp only [List.length_append, List.length_cons, List.map_cons, List.sum_cons] at ih ⊢
      omega
theorem joined_wds_size (s : ByteArray) (h : ∀ w ∈ K.words (bl s), w ≠ []) : (joined (wds s)).size ≤ s.size + (wds s).length := by
  unfold wds
  rw [joined_words h, ba_size]
  have h1 := joinB_len (K.words (bl s))
  have h2 := K.cut_total (st := K.Rd.step) (f := K.Rd.blank) K.Rd.r0 [] (bl s)
  rw [bl_length] at h2
  simp at h2 ⊢
  unfold K.words at h1 ⊢
  omega
theorem le_sum {l : List (List UInt8)} {y : List UInt8} (h : y ∈ l) : y.length ≤ (l.map List.length).sum := by
  induction l with
  | nil => cases h
  | cons x t ih =>
    simp only [List.map_cons, List.sum_cons]
    rcases List.mem_cons.1 h with rfl | h
    · omega
    · have := ih h; omega
theorem wd_size (s : ByteArray) (x : ByteArray) (h : x ∈ wds s) : x.size ≤ s.size := by
  obtain ⟨y, hy, rfl⟩ := List.mem_map.1 h
  have h2 := K.cut_total (st := K.Rd.step) (f := K.Rd.blank) K.Rd.r0 [] (bl s)
  rw [bl_length] at h2
  have h3 : y.length ≤ ((K.words (bl s)).map List.length).sum := le_sum hy
  rw [ba_size]
  unfold K.words at h3
  simp at h2
  omega

/-- What Split answers of a word. -/
theorem split_word {s x : ByteArray} (h : K.ends (bl s) = K.Rd.r0) (hx : x ∈ wds s) : splitE x = 0 ∧ splitW x = [x] := by
  obtain ⟨y, hy, rfl⟩ := List.mem_map.1 hx
  obtain ⟨h1, h2⟩ := K.words_one h hy
  have e1 : wds (ba y) = [ba y] := by unfold wds; rw [bl_ba, h1]; rfl
  have e2 : splitE (ba y) = 0 := by unfold splitE; rw [bl_ba, h2, e1]; rfl
  exact ⟨e2, by unfold splitW; rw [e2, if_pos rfl, e1]⟩
/-- What Split answers of the joined words. -/
theorem split_joined {s : ByteArray} (h : K.ends (bl s) = K.Rd.r0) (hl : ¬ 4096 < (wds s).length) : splitE (joined (wds s)) = 0 ∧ splitW (joined (wds s)) = wds s := by
  have hne : ∀ w ∈ K.words (bl s), w ≠ [] := fun w hw => (K.words_are _ h w hw).1
  have ej : joined (wds s) = ba (K.joinB (K.words (bl s))) := joined_words hne
  have e1 : wds (joined (wds s)) = wds s := by
    rw [ej]; unfold wds; rw [bl_ba, K.words_again _ h]
  have e2 : splitE (joined (wds s)) = 0 := by
    unfold splitE
    rw [e1, if_neg hl, ej, bl_ba, K.ends_join _ h]; rfl
  exact ⟨e2, by unfold splitW; rw [e2, if_pos rfl, e1]⟩

set_option maxRecDepth 20000 in
set_option maxHeartbeats 400000 in
theorem again_bad (s : ByteArray) (w : World) (hs : s.size ≤ 140737488355327) (hM : Mx w) (hE : splitE s ≠ 0) :
    Calls Tryd.prog 7 #[.string s] w fun e w' => e = .returned (.bool true) ∧ Below w.heap.size w w' := by
  obtain ⟨n, hn⟩ : ∃ n, n = splitE s := ⟨_, rfl⟩
  have HS : Hid (∀ W, Calls Tryd.prog 9 #[.string s] W fun e w' => ∃ a c, e = .returned (.tuple #[.slice a 0 c, .int .i64 (n : Nat)]) ∧ Below W.heap.size W w') := by
    intro W
    refine (split_ok s W (by omega)).mono ?_
    rintro e w' ⟨a, c, rfl, _, hb⟩
    have e1 : splitW s = [] := by unfold splitW; rw [if_neg hE]
    exact ⟨a, c, by rw [e1, hn]; rfl, hb⟩
  have HA : Hid (∀ W, Mx W → Calls Tryd.prog 14 #[] W fun e w' => e = .returned (.bool true) ∧ Below W.heap.size W w') := fun W h => alive_any W h
  have HM : Hid (Mx w) := hM
  rw [← hn] at hE
  have hni : ¬ (n : Int) = 0 := by omega
  have hnb : ((n : Int) != 0) = true := by simpa using hE
  clear hM hn
  go_enter Tryd.func7, Tryd.ntmps7
  go_wp2_with fail
  refine (HS.out _).mono ?_
  rintro e w1 ⟨a, c, rfl, hb1⟩
  have HM1 : Hid (Mx w1) := HM.out.below hb1 HM.out.pos
  go_wp2_with fail
  refine (HA.out _ HM1.out).mono ?_
  rintro e w2 ⟨rfl, hb2⟩
  have hb12 := hb1.trans (hb2.mono hb1.size)
  clear hb1 hb2
  go_wp2
  go_ret
  exact ⟨rfl, hb12⟩

set_option maxRecDepth 20000 in
set_option maxHeartbeats 600000 in
theorem again_good (s : ByteArray) (w : World) (hs : s.size ≤ 140737488351232) (hM : Mx w) (hE : splitE s = 0) :
    Calls Tryd.prog 7 #[.string s] w fun e w' => e = .returned (.bool true) ∧ Below w.heap.size w w' := by
  have ho : K.ends (bl s) = K.Rd.r0 := by
    rw [← K.Rd.opened_iff]
    cases h : (K.ends (bl s)).opened with
    | false => rfl
    | true => unfold splitE at hE; rw [h] at hE; simp at hE
  have hl : ¬ 4096 < (wds s).length := by
    intro h; unfold splitE at hE; rw [ho, if_neg (by decide), if_pos h] at hE; omega
  have hW : splitW s = wds s := by unfold splitW; rw [hE, if_pos rfl]
  have hjs := joined_wds_size s (fun w hw => (K.words_are _ ho w hw).1)
  obtain ⟨l, hll⟩ : ∃ l, l = wds s := ⟨_, rfl⟩
  obtain ⟨j, hj⟩ : ∃ j, j = joined l := ⟨_, rfl⟩
  obtain ⟨n, hn⟩ : ∃ n, n = l.length := ⟨_, rfl⟩
  have hn4 : n ≤ 4096 := by rw [hn, hll]; omega
  have HS : Hid (∀ W, Calls Tryd.prog 9 #[.string s] W fun e w' => ∃ a c, e = .returned (.tuple #[.slice a n c, .int .i64 0]) ∧ Words w'.heap.size w' (.slice a n c) l ∧ Below W.heap.size W w') := by
    intro W
    refine (split_ok s W (by omega)).mono ?_
    rintro e w' ⟨a, c, rfl, hw, hb⟩
    rw [hW, ← hll, ← hn] at hw
    exact ⟨a, c, by rw [hE, hW, hn, hll]; rfl, hw, hb⟩
  have HJ : Hid (∀ a c W, Words W.heap.size W (.slice a n c) l → Calls Tryd.prog 20 #[.slice a n c] W fun e w' => e = .returned (.string j) ∧ Below W.heap.size W w') := by
    intro a c W h
    rw [hj]
    exact join_any a n c l W (by omega) (by rw [hll]; omega) h
  have HS2 : Hid (∀ W, Calls Tryd.prog 9 #[.string j] W fun e w' => ∃ a c, e = .returned (.tuple #[.slice a n c, .int .i64 0]) ∧ Words w'.heap.size w' (.slice a n c) l ∧ Below W.heap.size W w') := by
    intro W
    obtain ⟨f1, f2⟩ := split_joined ho hl
    rw [← hll, ← hj] at f1 f2
    refine (split_ok j W (by rw [hj, hll]; omega)).mono ?_
    rintro e w' ⟨a, c, rfl, hw, hb⟩
    rw [f2, ← hn] at hw
    exact ⟨a, c, by rw [f1, f2, hn]; rfl, hw, hb⟩
  have HX : Hid (∀ k (h : k < l.length) W, Calls Tryd.prog 9 #[.string l[k]] W fun e w' => ∃ b o c, e = .returned (.tuple #[.slice (some ⟨b, o, none⟩) 1 c, .int .i64 0]) ∧ w'.cell? ⟨b, o, none⟩ = some (.string l[k]) ∧ Below W.heap.size W w') := by
    intro k h W
    have hmem : l[k] ∈ wds s := by rw [← hll]; exact List.getElem_mem h
    obtain ⟨f1, f2⟩ := split_word ho hmem
    have := wd_size s l[k] hmem
    refine (split_any l[k] W (by omega)).mono ?_
    rintro e w' ⟨v, rfl, hw, hb⟩
    rw [f2] at hw
    obtain ⟨b, o, c, rfl, _, hc⟩ := hw.at (by simp)
    exact ⟨b, o, c, by rw [f1]; rfl, hc 0 (by simp), hb⟩
  have HC : Hid (∀ a c a' c' W B, Words B W (.slice a n c) l → Words B W (.slice a' n c') l → Calls Tryd.prog 13 #[.slice a n c, .slice a' n c'] W fun e w' => e = .returned (.bool true) ∧ ∃ n, w' = W.drewN n) := by
    intro a c a' c' W B h1 h2
    exact same_any l _ _ B B W (by omega) h1 h2
  have HA : Hid (∀ W, Mx W → Calls Tryd.prog 14 #[] W fun e w' => e = .returned (.bool true) ∧ Below W.heap.size W w') := fun W h => alive_any W h
  have HM : Hid (Mx w) := hM
  have HN : Hid (n = l.length) := hn
  clear hM hE ho hl hW hjs hll hj hn
  go_enter Tryd.func7, Tryd.ntmps7
  go_wp2_with fail
  refine (HS.out _).mono ?_
  rintro e w1 ⟨a, c, rfl, hw1, hb1⟩
  have HW1 : Hid (Words w1.heap.size w1 (.slice a n c) l) := hw1
  clear hw1
  go_wp2_with fail
  refine (HJ.out _ _ _ HW1.out).mono ?_
  rintro e w2 ⟨rfl, hb2⟩
  have HW2 : Hid (Words w1.heap.size w2 (.slice a n c) l) := HW1.out.below hb2
  have hb12 := hb1.trans (hb2.mono hb1.size)
  have hs12 := hb2.size
  clear HW1 hb1 hb2
  go_wp2_with fail
  refine (HS2.out _).mono ?_
  rintro e w3 ⟨a', c', rfl, hw3, hb3⟩
  have HW3 : Hid (Words w3.heap.size w3 (.slice a n c) l ∧ Words w3.heap.size w3 (.slice a' n c') l) := ⟨((HW2.out.mono hs12).below hb3).mono hb3.size, hw3⟩
  have hb13 := hb12.trans (hb3.mono hb12.size)
  clear HW2 hw3 hb12 hb3
  go_wp2
  go_loopw [32] (fun vi wr => ∃ k : Nat, k ≤ n ∧ vi = .int .i64 k ∧ Below w3.heap.size w3 wr) (fun vi _ => n - (intOf vi).toNat)
  case atStart => exact ⟨0, Nat.zero_le _, rfl, Below.refl _ _⟩
  case round =>
    obtain ⟨k, hk, rfl, hb⟩ := hrel
    by_cases hlt : k < n
    · have hkl : k < l.length := by rw [← HN.out]; exact hlt
      have hil : (k : Int) < (n : Int) := by omega
      obtain ⟨b, o, rfl, hbB, hcx0⟩ := HW3.out.1.pick k hkl
      have HX1 := HX.out k hkl
      obtain ⟨x, hxe⟩ : ∃ x, x = l[k] := ⟨_, rfl⟩
      rw [← hxe] at hcx0 HX1
      have hcx : wr.cell? ⟨b, o + k, none⟩ = some (.string x) := by rw [hb.cell (p := ⟨b, o + k, none⟩) hbB]; exact hcx0
      have HX2 : Hid (∀ W, Calls Tryd.prog 9 #[.string x] W fun e w' => ∃ b o c, e = .returned (.tuple #[.slice (some ⟨b, o, none⟩) 1 c, .int .i64 0]) ∧ w'.cell? ⟨b, o, none⟩ = some (.string x) ∧ Below W.heap.size W w') := HX1
      clear hxe hcx0 HX1
      have hbs := hb.size
      go_wp2_with fail
      refine (HX2.out _).mono ?_
      rintro e w4 ⟨b4, o4, c4, rfl, hc4, hb4⟩
      have hb5 := hb.trans (hb4.mono hbs)
      clear hb hb4 hbs
      go_wp2
      go_roundw
      case rel => exact ⟨k + 1, by omega, by go_num, hb5⟩
      case measure => simp [intOf]; omega
    · obtain rfl : k = n := by omega
      have hbs := hb.size
      have HW4 : Hid (Words wr.heap.size wr (.slice a k c) l ∧ Words wr.heap.size wr (.slice a' k c') l) := ⟨(HW3.out.1.below hb).mono hbs, (HW3.out.2.below hb).mono hbs⟩
      have hb14 := hb13.trans (hb.mono hb13.size)
      clear hb hb13
      go_wp2_with fail
      refine (HC.out _ _ _ _ _ _ HW4.out.1 HW4.out.2).mono ?_
      rintro e w5 ⟨rfl, m, rfl⟩
      have hb15 : Below w.heap.size w (wr.drewN m) := below_drewN hb14 m
      have HM5 : Hid (Mx (wr.drewN m)) := HM.out.below hb15 HM.out.pos
      clear hb14
      go_wp2_with fail
      refine (HA.out _ HM5.out).mono ?_
      rintro e w6 ⟨rfl, hb6⟩
      have hb16 := hb15.trans (hb6.mono hb15.size)
      clear hb15 hb6
      go_wp2
      go_ret
      exact ⟨rfl, hb16⟩

theorem again_law (s : ByteArray) (w : World) (hs : s.size ≤ 140737488351232) (hM : Mx w) :
    Calls Tryd.prog 7 #[.string s] w fun e w' => e = .returned (.bool true) ∧ Below w.heap.size w w' := by
  by_cases hE : splitE s = 0
  · exact again_good s w hs hM hE
  · exact again_bad s w (by omega) hM hE
end Go.Proofs.YtanboocibmjomaaDoor
