/-
  What Class answers of any name.
-/
import Derived.Test.YtbgnmchnfaknkaaDoorK10
namespace Go.Proofs.YtbgnmchnfaknkaaDoor
open Go.RowKit Go.Shelf

/-- What a name is for. -/
def classF (x : List UInt8) : Nat :=
  if x = [46, 80, 72, 79, 78, 89] then 1 else if x = [46, 80, 82, 69, 67, 73, 79, 85, 83] then 1 else if x = [46, 73, 71, 78, 79, 82, 69] then 1 else if x = [46, 83, 73, 76, 69, 78, 84] then 1 else if x = [46, 78, 79, 84, 77, 65, 73, 78] then 1 else if x = [46, 69, 88, 69, 67] then 1 else if x = [46, 77, 69, 84, 65] then 1 else if x = [46, 79, 82, 68, 69, 82] then 2 else if x = [46, 83, 85, 70, 70, 73, 88, 69, 83] then 3 else if x = [46, 80, 65, 84, 72] then 4 else if x = [46, 77, 65, 73, 78] then 5 else if x = [46, 87, 65, 73, 84] then 6 else if x = [46, 68, 69, 70, 65, 85, 76, 84] then 7 else if x = [46, 66, 69, 71, 73, 78] then 7 else if x = [46, 69, 78, 68] then 7 else if x = [46, 73, 78, 84, 69, 82, 82, 85, 80, 84] then 7 else if x = [46, 78, 79, 84, 80, 65, 82, 65, 76, 76, 69, 76] then 8 else if Lib.hasPrefix x [46, 80, 65, 84, 72, 46] = true then 4 else 0
theorem ne_of_bl {x : ByteArray} {l : List UInt8} (h : ¬ bl x = l) : ¬ x.toList = l ∧ (x.toList == l) = false := by
  have h1 : ¬ x.toList = l := by rw [Lib.toList_data]; exact h
  exact ⟨h1, by simpa using h1⟩
set_option maxRecDepth 20000 in
set_option maxHeartbeats 2000000 in
theorem class_any (x : ByteArray) (w : World) :
    Calls Tryd.prog 25 #[.string x] w fun e w' => e = .returned (.int .i64 (classF (bl x) : Nat)) ∧ w = w' := by
  by_cases h0 : bl x = [46, 80, 72, 79, 78, 89]
  · have hx : x = ⟨#[46, 80, 72, 79, 78, 89]⟩ := bl_inj h0
    subst hx
    have hE : classF (bl ⟨#[46, 80, 72, 79, 78, 89]⟩) = 1 := by decide +kernel
    rw [hE]
    clear h0
    go_enter Tryd.func25, Tryd.ntmps25
    go_wp2
    go_ret
    exact ⟨rfl, rfl⟩
  by_cases h1 : bl x = [46, 80, 82, 69, 67, 73, 79, 85, 83]
  · have hx : x = ⟨#[46, 80, 82, 69, 67, 73, 79, 85, 83]⟩ := bl_inj h1
    subst hx
    have hE : classF (bl ⟨#[46, 80, 82, 69, 67, 73, 79, 85, 83]⟩) = 1 := by decide +kernel
    rw [hE]
    clear h1
    go_enter Tryd.func25, Tryd.ntmps25
    go_wp2
    go_ret
    exact ⟨rfl, rfl⟩
  by_cases h2 : bl x = [46, 73, 71, 78, 79, 82, 69]
  · have hx : x = ⟨#[46, 73, 71, 78, 79, 82, 69]⟩ := bl_inj h2
    subst hx
    have hE : classF (bl ⟨#[46, 73, 71, 78, 79, 82, 69]⟩) = 1 := by decide +kernel
    rw [hE]
    clear h2
    go_enter Tryd.func25, Tryd.ntmps25
    go_wp2
    go_ret
    exact ⟨rfl, rfl⟩
  by_cases h3 : bl x = [46, 83, 73, 76, 69, 78, 84]
  · have hx : x = ⟨#[46, 83, 73, 76, 69, 78, 84]⟩ := bl_inj h3
    subst hx
    have hE : classF (bl ⟨#[46, 83, 73, 76, 69, 78, 84]⟩) = 1 := by decide +kernel
    rw [hE]
    clear h3
    go_enter Tryd.func25, Tryd.ntmps25
    go_wp2
    go_ret
    exact ⟨rfl, rfl⟩
  by_cases h4 : bl x = [46, 78, 79, 84, 77, 65, 73, 78]
  · have hx : x = ⟨#[46, 78, 79, 84, 77, 65, 73, 78]⟩ := bl_inj h4
    subst hx
    have hE : classF (bl ⟨#[46, 78, 79, 84, 77, 65, 73, 78]⟩) = 1 := by decide +kernel
    rw [hE]
    clear h4
    go_enter Tryd.func25, Tryd.ntmps25
    go_wp2
    go_ret
    exact ⟨rfl, rfl⟩
  by_cases h5 : bl x = [46, 69, 88, 69, 67]
  · have hx : x = ⟨#[46, 69, 88, 69, 67]⟩ := bl_inj h5
    subst hx
    have hE : classF (bl ⟨#[46, 69, 88, 69, 67]⟩) = 1 := by decide +kernel
    rw [hE]
    clear h5
    go_enter Tryd.func25, Tryd.ntmps25
    go_wp2
    go_ret
    exact ⟨rfl, rfl⟩
  by_cases h6 : bl x = [46, 77, 69, 84, 65]
  · have hx : x = ⟨#[46, 77, 69, 84, 65]⟩ := bl_inj h6
    subst hx
    have hE : classF (bl ⟨#[46, 77, 69, 84, 65]⟩) = 1 := by decide +kernel
    rw [hE]
    clear h6
    go_enter Tryd.func25, Tryd.ntmps25
    go_wp2
    go_ret
    exact ⟨rfl, rfl⟩
  by_cases h7 : bl x = [46, 79, 82, 68, 69, 82]
  · have hx : x = ⟨#[46, 79, 82, 68, 69, 82]⟩ := bl_inj h7
    subst hx
    have hE : classF (bl ⟨#[46, 79, 82, 68, 69, 82]⟩) = 2 := by decide +kernel
    rw [hE]
    clear h7
    go_enter Tryd.func25, Tryd.ntmps25
    go_wp2
    go_ret
    exact ⟨rfl, rfl⟩
  by_cases h8 : bl x = [46, 83, 85, 70, 70, 73, 88, 69, 83]
  · have hx : x = ⟨#[46, 83, 85, 70, 70, 73, 88, 69, 83]⟩ := bl_inj h8
    subst hx
    have hE : classF (bl ⟨#[46, 83, 85, 70, 70, 73, 88, 69, 83]⟩) = 3 := by decide +kernel
    rw [hE]
    clear h8
    go_enter Tryd.func25, Tryd.ntmps25
    go_wp2
    go_ret
    exact ⟨rfl, rfl⟩
  by_cases h9 : bl x = [46, 80, 65, 84, 72]
  · have hx : x = ⟨#[46, 80, 65, 84, 72]⟩ := bl_inj h9
    subst hx
    have hE : classF (bl ⟨#[46, 80, 65, 84, 72]⟩) = 4 := by decide +kernel
    rw [hE]
    clear h9
    go_enter Tryd.func25, Tryd.ntmps25
    go_wp2
    go_ret
    exact ⟨rfl, rfl⟩
  by_cases h10 : bl x = [46, 77, 65, 73, 78]
  · have hx : x = ⟨#[46, 77, 65, 73, 78]⟩ := bl_inj h10
    subst hx
    have hE : classF (bl ⟨#[46, 77, 65, 73, 78]⟩) = 5 := by decide +kernel
    rw [hE]
    clear h10
    go_enter Tryd.func25, Tryd.ntmps25
    go_wp2
    go_ret
    exact ⟨rfl, rfl⟩
  by_cases h11 : bl x = [46, 87, 65, 73, 84]
  · have hx : x = ⟨#[46, 87, 65, 73, 84]⟩ := bl_inj h11
    subst hx
    have hE : classF (bl ⟨#[46, 87, 65, 73, 84]⟩) = 6 := by decide +kernel
    rw [hE]
    clear h11
    go_enter Tryd.func25, Tryd.ntmps25
    go_wp2
    go_ret
    exact ⟨rfl, rfl⟩
  by_cases h12 : bl x = [46, 68, 69, 70, 65, 85, 76, 84]
  · have hx : x = ⟨#[46, 68, 69, 70, 65, 85, 76, 84]⟩ := bl_inj h12
    subst hx
    have hE : classF (bl ⟨#[46, 68, 69, 70, 65, 85, 76, 84]⟩) = 7 := by decide +kernel
    rw [hE]
    clear h12
    go_enter Tryd.func25, Tryd.ntmps25
    go_wp2
    go_ret
    exact ⟨rfl, rfl⟩
  by_cases h13 : bl x = [46, 66, 69, 71, 73, 78]
  · have hx : x = ⟨#[46, 66, 69, 71, 73, 78]⟩ := bl_inj h13
    subst hx
    have hE : classF (bl ⟨#[46, 66, 69, 71, 73, 78]⟩) = 7 := by decide +kernel
    rw [hE]
    clear h13
    go_enter Tryd.func25, Tryd.ntmps25
    go_wp2
    go_ret
    exact ⟨rfl, rfl⟩
  by_cases h14 : bl x = [46, 69, 78, 68]
  · have hx : x = ⟨#[46, 69, 78, 68]⟩ := bl_inj h14
    subst hx
    have hE : classF (bl ⟨#[46, 69, 78, 68]⟩) = 7 := by decide +kernel
    rw [hE]
    clear h14
    go_enter Tryd.func25, Tryd.ntmps25
    go_wp2
    go_ret
    exact ⟨rfl, rfl⟩
  by_cases h15 : bl x = [46, 73, 78, 84, 69, 82, 82, 85, 80, 84]
  · have hx : x = ⟨#[46, 73, 78, 84, 69, 82, 82, 85, 80, 84]⟩ := bl_inj h15
    subst hx
    have hE : classF (bl ⟨#[46, 73, 78, 84, 69, 82, 82, 85, 80, 84]⟩) = 7 := by decide +kernel
    rw [hE]
    clear h15
    go_enter Tryd.func25, Tryd.ntmps25
    go_wp2
    go_ret
    exact ⟨rfl, rfl⟩
  by_cases h16 : bl x = [46, 78, 79, 84, 80, 65, 82, 65, 76, 76, 69, 76]
  · have hx : x = ⟨#[46, 78, 79, 84, 80, 65, 82, 65, 76, 76, 69, 76]⟩ := bl_inj h16
    subst hx
    have hE : classF (bl ⟨#[46, 78, 79, 84, 80, 65, 82, 65, 76, 76, 69, 76]⟩) = 8 := by decide +kernel
    rw [hE]
    clear h16
    go_enter Tryd.func25, Tryd.ntmps25
    go_wp2
    go_ret
    exact ⟨rfl, rfl⟩
  have hE : classF (bl x) = if Lib.hasPrefix (bl x) [46, 80, 65, 84, 72, 46] = true then 4 else 0 := by
    unfold classF
    rw [if_neg h0, if_neg h1, if_neg h2, if_neg h3, if_neg h4, if_neg h5, if_neg h6, if_neg h7, if_neg h8, if_neg h9, if_neg h10, if_neg h11, if_neg h12, if_neg h13, if_neg h14, if_neg h15, if_neg h16]
  rw [hE]
  have HP : Hid (∀ W, Calls Tryd.prog 31 #[.string x, .string ⟨#[46, 80, 65, 84, 72, 46]⟩] W fun e w' => e = .returned (.bool (Lib.hasPrefix (bl x) [46, 80, 65, 84, 72, 46])) ∧ W = w') := fun W => (Tryd.strings_HasPrefix x ⟨#[46, 80, 65, 84, 72, 46]⟩ W).mono fun e w' h => ⟨h.1, h.2.symm⟩
  obtain ⟨a0, b0⟩ := ne_of_bl h0
  obtain ⟨a1, b1⟩ := ne_of_bl h1
  obtain ⟨a2, b2⟩ := ne_of_bl h2
  obtain ⟨a3, b3⟩ := ne_of_bl h3
  obtain ⟨a4, b4⟩ := ne_of_bl h4
  obtain ⟨a5, b5⟩ := ne_of_bl h5
  obtain ⟨a6, b6⟩ := ne_of_bl h6
  obtain ⟨a7, b7⟩ := ne_of_bl h7
  obtain ⟨a8, b8⟩ := ne_of_bl h8
  obtain ⟨a9, b9⟩ := ne_of_bl h9
  obtain ⟨a10, b10⟩ := ne_of_bl h10
  obtain ⟨a11, b11⟩ := ne_of_bl h11
  obtain ⟨a12, b12⟩ := ne_of_bl h12
  obtain ⟨a13, b13⟩ := ne_of_bl h13
  obtain ⟨a14, b14⟩ := ne_of_bl h14
  obtain ⟨a15, b15⟩ := ne_of_bl h15
  obtain ⟨a16, b16⟩ := ne_of_bl h16
  clear hE h0 h1 h2 h3 h4 h5 h6 h7 h8 h9 h10 h11 h12 h13 h14 h15 h16
  cases hp : Lib.hasPrefix (bl x) [46, 80, 65, 84, 72, 46] with
  | true =>
    rw [hp] at HP
    rw [if_pos rfl]
    clear hp
    go_enter Tryd.func25, Tryd.ntmps25
    go_wp2_with (go_at_call 31; refine (HP.out _).mono ?_; rintro e w' ⟨rfl, rfl⟩)
    go_ret
    exact ⟨rfl, rfl⟩
  | false =>
    rw [hp] at HP
    rw [if_neg (by simp)]
    clear hp
    go_enter Tryd.func25, Tryd.ntmps25
    go_wp2_with (go_at_call 31; refine (HP.out _).mono ?_; rintro e w' ⟨rfl, rfl⟩)
    go_ret
    exact ⟨rfl, rfl⟩
end Go.Proofs.YtbgnmchnfaknkaaDoor
