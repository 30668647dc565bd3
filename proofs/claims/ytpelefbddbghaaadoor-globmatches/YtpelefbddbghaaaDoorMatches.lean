/-
  What the statement GlobMatches answers, called at any two texts: true; nothing that was there has turned.
-/
import Derived.Test.YtpelefbddbghaaaDoorPlainFn
import Derived.Test.YtpelefbddbghaaaDoorRefMatch
import Derived.Test.YtpelefbddbghaaaDoorAlive
namespace Go.Proofs.YtpelefbddbghaaaDoor
open Go.RowKit

set_option maxHeartbeats 800000 in
theorem matches_law (p s : ByteArray) (w : World) :
    Calls Tryd.prog 3 #[.string p, .string s] w fun e w' => e = .returned (.bool true) ∧ Below w.heap.size w w' := by
  cases hf : farB p.size s.size
  · have hp : p.size ≤ 2000 := by simp [farB] at hf; omega
    have hs : s.size ≤ 2000 := by simp [farB] at hf; omega
    have HF : Hid (∀ W, Calls Tryd.prog 9 #[.string p, .string s] W fun e w' => e = .returned (.bool false) ∧ w' = W) := by
      intro W; rw [← hf]; exact far_any p s W
    obtain ⟨b, hb⟩ : ∃ b : Bool, b = G.matchB p.data.toList s.data.toList := ⟨_, rfl⟩
    obtain ⟨c, hc⟩ : ∃ c : Bool, c = !anySp p.data.toList := ⟨_, rfl⟩
    have H1 : Hid (∀ W, Calls Tryd.prog 11 #[.string p, .string s] W fun e w' => e = .returned (.bool b) ∧ Below W.heap.size W w') := by
      intro W; rw [hb]; exact match_any p s W (by omega) (by omega)
    have H2 : Hid (∀ W, Calls Tryd.prog 12 #[.string p, .string s] W fun e w' => e = .returned (.bool b) ∧ Below W.heap.size W w') := by
      intro W; rw [hb]; exact refmatch_any p s W (by omega) (by omega)
    have H3 : Hid (∀ W, Calls Tryd.prog 13 #[.string p] W fun e w' => e = .returned (.bool c) ∧ Below W.heap.size W w') := by
      intro W; rw [hc]; exact plain_any p W (by omega)
    have H4 : Hid (∀ W, Calls Tryd.prog 14 #[.string p] W fun e w' => e = .returned (.bool c) ∧ w' = W) := by
      intro W; rw [hc]; exact refplain_any p W (by omega)
    clear hb hc hf
    go_enter Tryd.func3, Tryd.ntmps3
    go_wp2_with fail
    refine (HF.out _).mono ?_
    rintro e w' ⟨rfl, rfl⟩
    go_wp2_with fail
    refine (H1.out _).mono ?_
    rintro e w1 ⟨rfl, hb1⟩
    go_wp2_with fail
    refine (H2.out _).mono ?_
    rintro e w2 ⟨rfl, hb2⟩
    go_wp2_with fail
    refine (H3.out _).mono ?_
    rintro e w3 ⟨rfl, hb3⟩
    go_wp2_with fail
    refine (H4.out _).mono ?_
    rintro e w3' ⟨rfl, rfl⟩
    go_wp2_with fail
    refine (alive_any _).mono ?_
    rintro e w4 ⟨rfl, hb4⟩
    go_wp2
    go_ret
    have s1 := hb1.size
    have s2 := hb2.size
    have s3 := hb3.size
    exact ⟨rfl, ((hb1.trans (hb2.mono s1)).trans (hb3.mono (by omega))).trans (hb4.mono (by omega))⟩
  · have HF : Hid (∀ W, Calls Tryd.prog 9 #[.string p, .string s] W fun e w' => e = .returned (.bool true) ∧ w' = W) := by
      intro W; rw [← hf]; exact far_any p s W
    clear hf
    go_enter Tryd.func3, Tryd.ntmps3
    go_wp2_with fail
    refine (HF.out _).mono ?_
    rintro e w' ⟨rfl, rfl⟩
    go_wp2_with fail
    refine (alive_any _).mono ?_
    rintro e w1 ⟨rfl, hb1⟩
    go_wp2
    go_ret
    exact ⟨rfl, hb1⟩
end Go.Proofs.YtpelefbddbghaaaDoor
