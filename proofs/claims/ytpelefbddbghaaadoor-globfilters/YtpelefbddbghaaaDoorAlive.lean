/-
  What the statements' far and alive answer: far whether one of two texts has more than 2000 bytes; alive true.
-/
import Derived.Test.YtpelefbddbghaaaDoorRead
import Derived.Test.YtpelefbddbghaaaDoorQuote
namespace Go.Proofs.YtpelefbddbghaaaDoor
open Go.RowKit

def farB (a b : Nat) : Bool := decide (2000 < a) || decide (2000 < b)

set_option maxHeartbeats 400000 in
theorem far_any (p s : ByteArray) (w : World) :
    Calls Tryd.prog 9 #[.string p, .string s] w fun e w' => e = .returned (.bool (farB p.size s.size)) ∧ w' = w := by
  unfold farB
  by_cases h1 : 2000 < p.size
  all_goals
    by_cases h2 : 2000 < s.size
    all_goals
      go_enter Tryd.func9, Tryd.ntmps9
      go_wp2
      go_ret
      exact ⟨by simp [h1, h2] <;> omega, rfl⟩

set_option maxHeartbeats 400000 in
theorem plain_a (w : World) :
    Calls Tryd.prog 13 #[.string ⟨#[97]⟩] w fun e w' => e = .returned (.bool true) ∧ Below w.heap.size w w' := by
  have HO : Hid (∀ W, Calls Tryd.prog 23 #[.string ⟨#[97]⟩, .string ⟨#[42, 63, 91, 92]⟩] W fun e w' => e = .returned (.bool false) ∧ Below W.heap.size W w') := by
    intro W
    refine (Tryd.strings_ContainsAny_laid ⟨#[97]⟩ ⟨#[42, 63, 91, 92]⟩ W (by decide) (by decide) ?_ ?_).mono ?_
    · intro j b h; rcases j with _ | j <;> simp at h; subst h; decide
    · intro j b h; rcases j with _ | _ | _ | _ | j <;> simp at h <;> (subst h; decide)
    · rintro e w' ⟨rfl, hb⟩; exact ⟨ret_bool (by decide), hb⟩
  go_enter Tryd.func13, Tryd.ntmps13
  go_wp2_with fail
  refine (HO.out _).mono ?_
  rintro e w1 ⟨rfl, hb1⟩
  go_wp2
  go_ret
  exact ⟨rfl, hb1⟩

set_option maxHeartbeats 400000 in
theorem alive_any (w : World) :
    Calls Tryd.prog 10 #[] w fun e w' => e = .returned (.bool true) ∧ Below w.heap.size w w' := by
  have H1 : Hid (∀ W, Calls Tryd.prog 11 #[.string ⟨#[91, 97, 45, 99, 93, 63, 46, 42]⟩, .string ⟨#[98, 120, 46, 111]⟩] W fun e w' => e = .returned (.bool true) ∧ Below W.heap.size W w') := by
    intro W
    refine (match_any _ _ W (by decide) (by decide)).mono ?_
    rintro e w' ⟨rfl, hb⟩; exact ⟨ret_bool (by decide +kernel), hb⟩
  have H2 : Hid (∀ W, Calls Tryd.prog 11 #[.string ⟨#[91, 97, 45, 99, 93, 63, 46, 42]⟩, .string ⟨#[100, 120, 46, 111]⟩] W fun e w' => e = .returned (.bool false) ∧ Below W.heap.size W w') := by
    intro W
    refine (match_any _ _ W (by decide) (by decide)).mono ?_
    rintro e w' ⟨rfl, hb⟩; exact ⟨ret_bool (by decide +kernel), hb⟩
  have H3 : Hid (∀ W, Calls Tryd.prog 18 #[.string ⟨#[42]⟩] W fun e w' => e = .returned (.string ⟨#[92, 42]⟩) ∧ Below W.heap.size W w') := by
    intro W
    refine (quote_any _ W (by decide)).mono ?_
    rintro e w' ⟨rfl, hb⟩; exact ⟨rfl, hb⟩
  go_enter Tryd.func10, Tryd.ntmps10
  go_wp2_with fail
  refine (H1.out _).mono ?_
  rintro e w1 ⟨rfl, hb1⟩
  go_wp2_with fail
  refine (H2.out _).mono ?_
  rintro e w2 ⟨rfl, hb2⟩
  go_wp2_with fail
  refine (H3.out _).mono ?_
  rintro e w3 ⟨rfl, hb3⟩
  go_wp2_with fail
  refine (plain_a _).mono ?_
  rintro e w4 ⟨rfl, hb4⟩
  go_wp2
  go_ret
  have s1 := hb1.size
  have s2 := hb2.size
  have s3 := hb3.size
  exact ⟨rfl, ((hb1.trans (hb2.mono s1)).trans (hb3.mono (by omega))).trans (hb4.mono (by omega))⟩
end Go.Proofs.YtpelefbddbghaaaDoor
