/-
  What the document's own value, Parse, sign, Compare and Order answer.
-/
import Derived.Test.YtaaiimackjmcnaaDoorN7
namespace Go.Proofs.YtaaiimackjmcnaaDoor.N
open Go.RowKit Go.Shelf Go.Sort

/-- A digit's value as the document's own function tells it. -/
def valI (c : UInt8) : Int := if val1 c = 99 then -1 else (val1 c : Int)
set_option maxHeartbeats 400000 in
theorem rvalue (c : UInt8) (W : World) :
    Calls Tryd.prog 26 #[.int .u8 (c.toNat : Int)] W fun e w' => e = .returned (.int .i64 (valI c)) ∧ W = w' := by
  have hc := c.toNat_lt
  obtain ⟨v, hv⟩ : ∃ v, v = valI c := ⟨_, rfl⟩
  rw [← hv]
  by_cases h1 : 48 ≤ c.toNat ∧ c.toNat ≤ 57
  · have HV : Hid (v = (c.toNat : Int) - 48) := by unfold Hid; rw [hv]; unfold valI val1; rw [if_pos h1, if_neg (by omega)]; omega
    obtain ⟨h1a, h1b⟩ := h1
    clear hv
    go_enter Tryd.func26, Tryd.ntmps26
    go_wp2
    go_ret
    exact ⟨by rw [HV.out]; rfl, rfl⟩
  · by_cases h2 : 97 ≤ c.toNat ∧ c.toNat ≤ 102
    · have HV : Hid (v = (c.toNat : Int) - 97 + 10) := by unfold Hid; rw [hv]; unfold valI val1; rw [if_neg h1, if_pos h2, if_neg (by omega)]; omega
      obtain ⟨h2a, h2b⟩ := h2
      have h3 : 48 ≤ c.toNat := by omega
      have h4 : ¬ c.toNat ≤ 57 := by omega
      clear hv h1
      go_enter Tryd.func26, Tryd.ntmps26
      go_wp2
      go_ret
      exact ⟨by rw [HV.out]; rfl, rfl⟩
    · by_cases h3 : 65 ≤ c.toNat ∧ c.toNat ≤ 70
      · have HV : Hid (v = (c.toNat : Int) - 65 + 10) := by unfold Hid; rw [hv]; unfold valI val1; rw [if_neg h1, if_neg h2, if_pos h3, if_neg (by omega)]; omega
        obtain ⟨h3a, h3b⟩ := h3
        have h5 : 48 ≤ c.toNat := by omega
        have h4 : ¬ c.toNat ≤ 57 := by omega
        have h6 : ¬ 97 ≤ c.toNat := by omega
        clear hv h1 h2
        go_enter Tryd.func26, Tryd.ntmps26
        go_wp2
        go_ret
        exact ⟨by rw [HV.out]; rfl, rfl⟩
      · have HV : Hid (v = -1) := by unfold Hid; rw [hv]; unfold valI val1; rw [if_neg h1, if_neg h2, if_neg h3]; rfl
        clear hv
        go_enter Tryd.func26, Tryd.ntmps26
        go_wp2
        all_goals (go_ret; exact ⟨by rw [HV.out]; rfl, rfl⟩)
theorem val1_cases (c : UInt8) : val1 c < 16 ∨ val1 c = 99 := by
  unfold val1
  split
  · left; omega
  · split
    · left; omega
    · split
      · left; omega
      · right; rfl

set_option maxHeartbeats 400000 in
theorem rsign (x y : Int) (W : World) :
    Calls Tryd.prog 29 #[.int .i64 x, .int .i64 y] W fun e w' => e = .returned (.int .i64 (Lib.compareInt x y)) ∧ W = w' := by
  obtain ⟨v, hv⟩ : ∃ v, v = Lib.compareInt x y := ⟨_, rfl⟩
  rw [← hv]
  by_cases h1 : x < y
  · have HV : Hid (v = -1) := by unfold Hid; rw [hv]; unfold Lib.compareInt; rw [if_pos h1]
    clear hv
    go_enter Tryd.func29, Tryd.ntmps29
    go_wp2
    go_ret
    exact ⟨by rw [HV.out]; rfl, rfl⟩
  · by_cases h2 : y < x
    · have HV : Hid (v = 1) := by unfold Hid; rw [hv]; unfold Lib.compareInt; rw [if_neg h1, if_pos h2]
      clear hv
      go_enter Tryd.func29, Tryd.ntmps29
      go_wp2
      go_ret
      exact ⟨by rw [HV.out]; rfl, rfl⟩
    · have HV : Hid (v = 0) := by unfold Hid; rw [hv]; unfold Lib.compareInt; rw [if_neg h1, if_neg h2]
      clear hv
      go_enter Tryd.func29, Tryd.ntmps29
      go_wp2
      go_ret
      exact ⟨by rw [HV.out]; rfl, rfl⟩
end Go.Proofs.YtaaiimackjmcnaaDoor.N
