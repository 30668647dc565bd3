/-
  What the statements GlobQuoted, GlobBoth and GlobAll answer, called at any texts: true; nothing that was there has turned.
-/
import Derived.Test.YtpelefbddbghaaaDoorAlive
namespace Go.Proofs.YtpelefbddbghaaaDoor
open Go.RowKit

theorem qt_size (s : ByteArray) : (⟨(G.qt s.data.toList).toArray⟩ : ByteArray).size ≤ 2 * s.size := by
  have h := qt_len s.data.toList
  show (G.qt s.data.toList).toArray.size ≤ _
  simpa using h
theorem bappend (a b : ByteArray) : (a ++ b).data.toList = a.data.toList ++ b.data.toList := by simp

set_option maxHeartbeats 800000 in
theorem quoted_any (s t : ByteArray) (w : World) :
    Calls Tryd.prog 5 #[.string s, .string t] w fun e w' => e = .returned (.bool true) ∧ Below w.heap.size w w' := by
  cases hf : farB s.size t.size
  · have hs : s.size ≤ 2000 := by simp [farB] at hf; omega
    have ht : t.size ≤ 2000 := by simp [farB] at hf; omega
    have hq := qt_size s
    have HF : Hid (∀ W, Calls Tryd.prog 9 #[.string s, .string t] W fun e w' => e = .returned (.bool false) ∧ w' = W) := by
      intro W; rw [← hf]; exact far_any s t W
    have HQ : Hid (∀ W, Calls Tryd.prog 18 #[.string s] W fun e w' => e = .returned (.string ⟨(G.qt s.data.toList).toArray⟩) ∧ Below W.heap.size W w') := fun W => quote_any s W (by omega)
    obtain ⟨q, hqe⟩ : ∃ q : ByteArray, q = ⟨(G.qt s.data.toList).toArray⟩ := ⟨_, rfl⟩
    have hqd : q.data.toList = G.qt s.data.toList := by rw [hqe]
    rw [← hqe] at HQ hq
    have H1 : Hid (∀ W, Calls Tryd.prog 11 #[.string q, .string s] W fun e w' => e = .returned (.bool true) ∧ Below W.heap.size W w') := by
      intro W
      refine (match_any q s W (by omega) (by omega)).mono ?_
      rintro e w' ⟨rfl, h⟩; exact ⟨ret_bool (by rw [hqd, G.match_quoted]; simp), h⟩
    have H2 : Hid (∀ W, Calls Tryd.prog 11 #[.string q, .string t] W fun e w' => e = .returned (.bool (s.toList == t.toList)) ∧ Below W.heap.size W w') := by
      intro W
      refine (match_any q t W (by omega) (by omega)).mono ?_
      rintro e w' ⟨rfl, h⟩; exact ⟨ret_bool (by rw [hqd, G.match_quoted, Lib.toList_data, Lib.toList_data]), h⟩
    clear hqd hq hf hqe
    go_enter Tryd.func5, Tryd.ntmps5
    go_wp2_with fail
    refine (HF.out _).mono ?_
    rintro e w' ⟨rfl, rfl⟩
    go_wp2_with fail
    refine (HQ.out _).mono ?_
    rintro e w1 ⟨rfl, hb1⟩
    go_wp2_with fail
    refine (H1.out _).mono ?_
    rintro e w2 ⟨rfl, hb2⟩
    go_wp2_with fail
    refine (H2.out _).mono ?_
    rintro e w3 ⟨rfl, hb3⟩
    go_wp2_with fail
    refine (alive_any _).mono ?_
    rintro e w4 ⟨rfl, hb4⟩
    go_wp2
    go_ret
    have s1 := hb1.size
    have s2 := hb2.size
    have s3 := hb3.size
    exact ⟨rfl, ((hb1.trans (hb2.mono s1)).trans (hb3.mono (by omega))).trans (hb4.mono (by omega))⟩
  · have HF : Hid (∀ W, Calls Tryd.prog 9 #[.string s, .string t] W fun e w' => e = .returned (.bool true) ∧ w' = W) := by
      intro W; rw [← hf]; exact far_any s t W
    clear hf
    go_enter Tryd.func5, Tryd.ntmps5
    go_wp2_with fail
    refine (HF.out _).mono ?_
    rintro e w' ⟨rfl, rfl⟩
    go_wp2_with fail
    refine (alive_any _).mono ?_
    rintro e w1 ⟨rfl, hb1⟩
    go_wp2
    go_ret
    exact ⟨rfl, hb1⟩

set_option maxHeartbeats 800000 in
theorem both_any (s p t : ByteArray) (w : World) :
    Calls Tryd.prog 7 #[.string s, .string p, .string t] w fun e w' => e = .returned (.bool true) ∧ Below w.heap.size w w' := by
  cases hf : farB s.size p.size
  · cases hf2 : farB t.size 0
    · have hs : s.size ≤ 2000 := by simp [farB] at hf; omega
      have hp : p.size ≤ 2000 := by simp [farB] at hf; omega
      have ht : t.size ≤ 2000 := by simp [farB] at hf2; omega
      have hq := qt_size s
      have HF : Hid (∀ W, Calls Tryd.prog 9 #[.string s, .string p] W fun e w' => e = .returned (.bool false) ∧ w' = W) := by
        intro W; rw [← hf]; exact far_any s p W
      have HF2 : Hid (∀ W, Calls Tryd.prog 9 #[.string t, .string ⟨#[]⟩] W fun e w' => e = .returned (.bool false) ∧ w' = W) := by
        intro W; rw [← hf2]; exact far_any t ⟨#[]⟩ W
      have HQ : Hid (∀ W, Calls Tryd.prog 18 #[.string s] W fun e w' => e = .returned (.string ⟨(G.qt s.data.toList).toArray⟩) ∧ Below W.heap.size W w') := fun W => quote_any s W (by omega)
      obtain ⟨q, hqe⟩ : ∃ q : ByteArray, q = ⟨(G.qt s.data.toList).toArray⟩ := ⟨_, rfl⟩
      have hqd : q.data.toList = G.qt s.data.toList := by rw [hqe]
      rw [← hqe] at HQ hq
      obtain ⟨b, hb⟩ : ∃ b : Bool, b = G.matchB p.data.toList t.data.toList := ⟨_, rfl⟩
      have H1 : Hid (∀ W, Calls Tryd.prog 11 #[.string (q ++ p), .string (s ++ t)] W fun e w' => e = .returned (.bool b) ∧ Below W.heap.size W w') := by
        intro W
        refine (match_any (q ++ p) (s ++ t) W (by simp; omega) (by simp; omega)).mono ?_
        rintro e w' ⟨rfl, h⟩; exact ⟨ret_bool (by rw [bappend, bappend, hqd, G.match_both, hb]), h⟩
      have H2 : Hid (∀ W, Calls Tryd.prog 11 #[.string p, .string t] W fun e w' => e = .returned (.bool b) ∧ Below W.heap.size W w') := by
        intro W; rw [hb]; exact match_any p t W (by omega) (by omega)
      have hq4 : q.size ≤ 4000 := by omega
      clear hqd hq hf hf2 hqe hb
      go_enter Tryd.func7, Tryd.ntmps7
      go_wp2_with fail
      refine (HF.out _).mono ?_
      rintro e w' ⟨rfl, rfl⟩
      go_wp2_with fail
      refine (HF2.out _).mono ?_
      rintro e w' ⟨rfl, rfl⟩
      go_wp2_with fail
      refine (HQ.out _).mono ?_
      rintro e w1 ⟨rfl, hb1⟩
      go_wp2_with fail
      refine (H1.out _).mono ?_
      rintro e w2 ⟨rfl, hb2⟩
      go_wp2_with fail
      refine (H2.out _).mono ?_
      rintro e w3 ⟨rfl, hb3⟩
      go_wp2_with fail
      refine (alive_any _).mono ?_
      rintro e w4 ⟨rfl, hb4⟩
      go_wp2
      go_ret
      have s1 := hb1.size
      have s2 := hb2.size
      have s3 := hb3.size
      exact ⟨rfl, ((hb1.trans (hb2.mono s1)).trans (hb3.mono (by omega))).trans (hb4.mono (by omega))⟩
    · have HF : Hid (∀ W, Calls Tryd.prog 9 #[.string s, .string p] W fun e w' => e = .returned (.bool false) ∧ w' = W) := by
        intro W; rw [← hf]; exact far_any s p W
      have HF2 : Hid (∀ W, Calls Tryd.prog 9 #[.string t, .string ⟨#[]⟩] W fun e w' => e = .returned (.bool true) ∧ w' = W) := by
        intro W; rw [← hf2]; exact far_any t ⟨#[]⟩ W
      clear hf hf2
      go_enter Tryd.func7, Tryd.ntmps7
      go_wp2_with fail
      refine (HF.out _).mono ?_
      rintro e w' ⟨rfl, rfl⟩
      go_wp2_with fail
      refine (HF2.out _).mono ?_
      rintro e w' ⟨rfl, rfl⟩
      go_wp2_with fail
      refine (alive_any _).mono ?_
      rintro e w1 ⟨rfl, hb1⟩
      go_wp2
      go_ret
      exact ⟨rfl, hb1⟩
  · have HF : Hid (∀ W, Calls Tryd.prog 9 #[.string s, .string p] W fun e w' => e = .returned (.bool true) ∧ w' = W) := by
      intro W; rw [← hf]; exact far_any s p W
    clear hf
    go_enter Tryd.func7, Tryd.ntmps7
    go_wp2_with fail
    refine (HF.out _).mono ?_
    rintro e w' ⟨rfl, rfl⟩
    go_wp2_with fail
    refine (alive_any _).mono ?_
    rintro e w1 ⟨rfl, hb1⟩
    go_wp2
    go_ret
    exact ⟨rfl, hb1⟩

set_option maxHeartbeats 1600000 in
theorem all_any (a b c : ByteArray) (w : World) :
    Calls Tryd.prog 6 #[.string a, .string b, .string c] w fun e w' => e = .returned (.bool true) ∧ Below w.heap.size w w' := by
  cases hf : farB a.size b.size
  · cases hf2 : farB c.size 0
    · have ha : a.size ≤ 2000 := by simp [farB] at hf; omega
      have hbs : b.size ≤ 2000 := by simp [farB] at hf; omega
      have hc : c.size ≤ 2000 := by simp [farB] at hf2; omega
      have hqa := qt_size a
      have hqc := qt_size c
      have HF : Hid (∀ W, Calls Tryd.prog 9 #[.string a, .string b] W fun e w' => e = .returned (.bool false) ∧ w' = W) := by
        intro W; rw [← hf]; exact far_any a b W
      have HF2 : Hid (∀ W, Calls Tryd.prog 9 #[.string c, .string ⟨#[]⟩] W fun e w' => e = .returned (.bool false) ∧ w' = W) := by
        intro W; rw [← hf2]; exact far_any c ⟨#[]⟩ W
      have HQ : Hid (∀ W, Calls Tryd.prog 18 #[.string a] W fun e w' => e = .returned (.string ⟨(G.qt a.data.toList).toArray⟩) ∧ Below W.heap.size W w') := fun W => quote_any a W (by omega)
      have HZ : Hid (∀ W, Calls Tryd.prog 18 #[.string c] W fun e w' => e = .returned (.string ⟨(G.qt c.data.toList).toArray⟩) ∧ Below W.heap.size W w') := fun W => quote_any c W (by omega)
      obtain ⟨x, hxe⟩ : ∃ q : ByteArray, q = ⟨(G.qt a.data.toList).toArray⟩ := ⟨_, rfl⟩
      obtain ⟨z, hze⟩ : ∃ q : ByteArray, q = ⟨(G.qt c.data.toList).toArray⟩ := ⟨_, rfl⟩
      have hxd : x.data.toList = G.qt a.data.toList := by rw [hxe]
      have hzd : z.data.toList = G.qt c.data.toList := by rw [hze]
      rw [← hxe] at HQ hqa
      rw [← hze] at HZ hqc
      have h42 : (⟨#[42]⟩ : ByteArray).data.toList = [42] := rfl
      have H1 : Hid (∀ W, Calls Tryd.prog 11 #[.string ⟨#[42]⟩, .string b] W fun e w' => e = .returned (.bool true) ∧ Below W.heap.size W w') := by
        intro W
        refine (match_any ⟨#[42]⟩ b W (by decide) (by omega)).mono ?_
        rintro e w' ⟨rfl, h⟩; exact ⟨ret_bool (G.match_star _), h⟩
      have s42 : (⟨#[42]⟩ : ByteArray).size = 1 := rfl
      have H2 : Hid (∀ W, Calls Tryd.prog 11 #[.string (x ++ ⟨#[42]⟩), .string (a ++ b)] W fun e w' => e = .returned (.bool true) ∧ Below W.heap.size W w') := by
        intro W
        refine (match_any (x ++ ⟨#[42]⟩) (a ++ b) W (by simp [s42]; omega) (by simp; omega)).mono ?_
        rintro e w' ⟨rfl, h⟩; exact ⟨ret_bool (by rw [bappend, bappend, hxd, h42, G.match_ahead]), h⟩
      have H3 : Hid (∀ W, Calls Tryd.prog 11 #[.string (⟨#[42]⟩ ++ z), .string (b ++ c)] W fun e w' => e = .returned (.bool true) ∧ Below W.heap.size W w') := by
        intro W
        refine (match_any (⟨#[42]⟩ ++ z) (b ++ c) W (by simp [s42]; omega) (by simp; omega)).mono ?_
        rintro e w' ⟨rfl, h⟩; exact ⟨ret_bool (by rw [bappend, bappend, hzd, h42]; exact G.match_behind _ _), h⟩
      have H4 : Hid (∀ W, Calls Tryd.prog 11 #[.string (x ++ ⟨#[42]⟩ ++ z), .string (a ++ b ++ c)] W fun e w' => e = .returned (.bool true) ∧ Below W.heap.size W w') := by
        intro W
        refine (match_any (x ++ ⟨#[42]⟩ ++ z) (a ++ b ++ c) W (by simp [s42]; omega) (by simp; omega)).mono ?_
        rintro e w' ⟨rfl, h⟩
        refine ⟨ret_bool ?_, h⟩
        rw [bappend, bappend, bappend, bappend, hxd, hzd, h42, List.append_assoc, List.append_assoc]; exact G.match_mid _ _ _
      have hx4 : x.size ≤ 4000 := by omega
      have hz4 : z.size ≤ 4000 := by omega
      clear hxd hzd hqa hqc hf hf2 hxe hze h42
      go_enter Tryd.func6, Tryd.ntmps6
      go_wp2_with fail
      refine (HF.out _).mono ?_
      rintro e w' ⟨rfl, rfl⟩
      go_wp2_with fail
      refine (HF2.out _).mono ?_
      rintro e w' ⟨rfl, rfl⟩
      go_wp2_with fail
      refine (HQ.out _).mono ?_
      rintro e w1 ⟨rfl, hb1⟩
      go_wp2_with fail
      refine (HZ.out _).mono ?_
      rintro e w2 ⟨rfl, hb2⟩
      go_wp2_with fail
      refine (H1.out _).mono ?_
      rintro e w3 ⟨rfl, hb3⟩
      go_wp2_with fail
      refine (H2.out _).mono ?_
      rintro e w4 ⟨rfl, hb4⟩
      go_wp2_with fail
      refine (H3.out _).mono ?_
      rintro e w5 ⟨rfl, hb5⟩
      go_wp2_with fail
      refine (H4.out _).mono ?_
      rintro e w6 ⟨rfl, hb6⟩
      go_wp2_with fail
      refine (alive_any _).mono ?_
      rintro e w7 ⟨rfl, hb7⟩
      go_wp2
      go_ret
      have s1 := hb1.size
      have s2 := hb2.size
      have s3 := hb3.size
      have s4 := hb4.size
      have s5 := hb5.size
      have s6 := hb6.size
      exact ⟨rfl, ((((((hb1.trans (hb2.mono s1)).trans (hb3.mono (by omega))).trans (hb4.mono (by omega))).trans (hb5.mono (by omega))).trans (hb6.mono (by omega))).trans (hb7.mono (by omega)))⟩
    · have HF : Hid (∀ W, Calls Tryd.prog 9 #[.string a, .string b] W fun e w' => e = .returned (.bool false) ∧ w' = W) := by
        intro W; rw [← hf]; exact far_any a b W
      have HF2 : Hid (∀ W, Calls Tryd.prog 9 #[.string c, .string ⟨#[]⟩] W fun e w' => e = .returned (.bool true) ∧ w' = W) := by
        intro W; rw [← hf2]; exact far_any c ⟨#[]⟩ W
      clear hf hf2
      go_enter Tryd.func6, Tryd.ntmps6
      go_wp2_with fail
      refine (HF.out _).mono ?_
      rintro e w' ⟨rfl, rfl⟩
      go_wp2_with fail
      refine (HF2.out _).mono ?_
      rintro e w' ⟨rfl, rfl⟩
      go_wp2_with fail
      refine (alive_any _).mono ?_
      rintro e w1 ⟨rfl, hb1⟩
      go_wp2
      go_ret
      exact ⟨rfl, hb1⟩
  · have HF : Hid (∀ W, Calls Tryd.prog 9 #[.string a, .string b] W fun e w' => e = .returned (.bool true) ∧ w' = W) := by
      intro W; rw [← hf]; exact far_any a b W
    clear hf
    go_enter Tryd.func6, Tryd.ntmps6
    go_wp2_with fail
    refine (HF.out _).mono ?_
    rintro e w' ⟨rfl, rfl⟩
    go_wp2_with fail
    refine (alive_any _).mono ?_
    rintro e w1 ⟨rfl, hb1⟩
    go_wp2
    go_ret
    exact ⟨rfl, hb1⟩
end Go.Proofs.YtpelefbddbghaaaDoor
