/-
  What reader answers, and what a line does to the builder's state.
-/
import Derived.Test.YtbciedpjaajhcaaDoorBV
namespace Go.Proofs.YtbciedpjaajhcaaDoor
open Go.RowKit Go.Shelf
open Ex (Fr)

set_option maxRecDepth 20000 in
set_option maxHeartbeats 400000 in
theorem closeIf_any {base b : Nat} {w : World} {s : Sx} {vD vO : Value} {G : List (List Value × List Nat)} (h : StA base b w s vD vO G) (hN : s.Le 1000000) (x : Lz) (wd t : ByteArray) (R : Rs) (hR : R = s.endR t true) :
    Calls Tryd.prog 32 #[.pointer (some ⟨b, 0, none⟩), lnV x, .string wd, .string t] w (StepPost base b w R) := by
  obtain ⟨w1, hw1⟩ : ∃ w1, w1 = w.alloc (.cells #[.string x.text, .int .i64 x.at_, .bool x.cmd] 43) := ⟨_, rfl⟩
  have hb1 : Below w.heap.size w w1 := by rw [hw1]; exact (Below.refl _ _).alloc (Nat.le_refl _) _
  have HA : Hid (Calls Tryd.prog 51 #[.pointer (some ⟨b, 0, none⟩), .int .i64 2, .string t] w1 (StepPost base b w1 R)) := by rw [hR]; exact end_any (h.below hb1) hN t true 2 rfl
  have HB : Hid (Below base w w1) := hb1.mono h.sized
  have HB0 : Hid (Below w.heap.size w w1) := hb1
  clear h hb1 hR
  go_enter Tryd.func32, Tryd.ntmps32
  go_wp2_with fail
  rw [← hw1]
  clear hw1
  refine HA.out.mono ?_
  intro e w' h
  cases R with
  | bad k =>
    obtain ⟨rfl, h⟩ := h
    have H : Hid _ := h
    clear h
    go_wp2_with fail
    go_ret
    exact ⟨rfl, HB0.out.trans (H.out.mono HB0.out.size)⟩
  | ok s' =>
    obtain ⟨rfl, h⟩ := h
    have H : Hid _ := h
    clear h
    go_wp2_with fail
    go_ret
    exact ⟨rfl, H.out.1, HB.out.trans H.out.2⟩
set_option maxRecDepth 20000 in
set_option maxHeartbeats 400000 in
theorem closeFor_any {base b : Nat} {w : World} {s : Sx} {vD vO : Value} {G : List (List Value × List Nat)} (h : StA base b w s vD vO G) (hN : s.Le 1000000) (x : Lz) (wd t : ByteArray) (R : Rs) (hR : R = s.endR t false) :
    Calls Tryd.prog 33 #[.pointer (some ⟨b, 0, none⟩), lnV x, .string wd, .string t] w (StepPost base b w R) := by
  obtain ⟨w1, hw1⟩ : ∃ w1, w1 = w.alloc (.cells #[.string x.text, .int .i64 x.at_, .bool x.cmd] 43) := ⟨_, rfl⟩
  have hb1 : Below w.heap.size w w1 := by rw [hw1]; exact (Below.refl _ _).alloc (Nat.le_refl _) _
  have HA : Hid (Calls Tryd.prog 51 #[.pointer (some ⟨b, 0, none⟩), .int .i64 3, .string t] w1 (StepPost base b w1 R)) := by rw [hR]; exact end_any (h.below hb1) hN t false 3 rfl
  have HB : Hid (Below base w w1) := hb1.mono h.sized
  have HB0 : Hid (Below w.heap.size w w1) := hb1
  clear h hb1 hR
  go_enter Tryd.func33, Tryd.ntmps33
  go_wp2_with fail
  rw [← hw1]
  clear hw1
  refine HA.out.mono ?_
  intro e w' h
  cases R with
  | bad k =>
    obtain ⟨rfl, h⟩ := h
    have H : Hid _ := h
    clear h
    go_wp2_with fail
    go_ret
    exact ⟨rfl, HB0.out.trans (H.out.mono HB0.out.size)⟩
  | ok s' =>
    obtain ⟨rfl, h⟩ := h
    have H : Hid _ := h
    clear h
    go_wp2_with fail
    go_ret
    exact ⟨rfl, H.out.1, HB.out.trans H.out.2⟩
/-- The function that reads a line with a word. -/
def fnOf (wd : ByteArray) : Nat := match kindW wd with
  | 1 => 29
  | 2 => 30
  | 3 => 31
  | 4 => 32
  | 5 => 33
  | _ => 34
set_option maxRecDepth 20000 in
set_option maxHeartbeats 800000 in
theorem reader_any (b : Nat) (wd : ByteArray) (w : World) :
    Calls Tryd.prog 17 #[.pointer (some ⟨b, 0, none⟩), .string wd] w fun e w' => e = .returned (.func (.func (fnOf wd)) #[.pointer (some ⟨b, 0, none⟩)] #[]) ∧ w = w' := by
  by_cases h0 : wd = kIf
  · subst h0
    have HV : Hid (fnOf kIf = 29) := by unfold Hid; decide
    rw [HV.out]
    go_enter Tryd.func17, Tryd.ntmps17
    go_wp2
    go_ret
    exact ⟨rfl, rfl⟩
  by_cases h1 : wd = kIfdef
  · subst h1
    have HV : Hid (fnOf kIfdef = 29) := by unfold Hid; decide
    rw [HV.out]
    go_enter Tryd.func17, Tryd.ntmps17
    go_wp2
    go_ret
    exact ⟨rfl, rfl⟩
  by_cases h2 : wd = kIfndef
  · subst h2
    have HV : Hid (fnOf kIfndef = 29) := by unfold Hid; decide
    rw [HV.out]
    go_enter Tryd.func17, Tryd.ntmps17
    go_wp2
    go_ret
    exact ⟨rfl, rfl⟩
  by_cases h3 : wd = kIfmake
  · subst h3
    have HV : Hid (fnOf kIfmake = 29) := by unfold Hid; decide
    rw [HV.out]
    go_enter Tryd.func17, Tryd.ntmps17
    go_wp2
    go_ret
    exact ⟨rfl, rfl⟩
  by_cases h4 : wd = kIfnmake
  · subst h4
    have HV : Hid (fnOf kIfnmake = 29) := by unfold Hid; decide
    rw [HV.out]
    go_enter Tryd.func17, Tryd.ntmps17
    go_wp2
    go_ret
    exact ⟨rfl, rfl⟩
  by_cases h5 : wd = kFor
  · subst h5
    have HV : Hid (fnOf kFor = 30) := by unfold Hid; decide
    rw [HV.out]
    go_enter Tryd.func17, Tryd.ntmps17
    go_wp2
    go_ret
    exact ⟨rfl, rfl⟩
  by_cases h6 : wd = kElif
  · subst h6
    have HV : Hid (fnOf kElif = 31) := by unfold Hid; decide
    rw [HV.out]
    go_enter Tryd.func17, Tryd.ntmps17
    go_wp2
    go_ret
    exact ⟨rfl, rfl⟩
  by_cases h7 : wd = kElse
  · subst h7
    have HV : Hid (fnOf kElse = 31) := by unfold Hid; decide
    rw [HV.out]
    go_enter Tryd.func17, Tryd.ntmps17
    go_wp2
    go_ret
    exact ⟨rfl, rfl⟩
  by_cases h8 : wd = kEndif
  · subst h8
    have HV : Hid (fnOf kEndif = 32) := by unfold Hid; decide
    rw [HV.out]
    go_enter Tryd.func17, Tryd.ntmps17
    go_wp2
    go_ret
    exact ⟨rfl, rfl⟩
  by_cases h9 : wd = kEndfor
  · subst h9
    have HV : Hid (fnOf kEndfor = 33) := by unfold Hid; decide
    rw [HV.out]
    go_enter Tryd.func17, Tryd.ntmps17
    go_wp2
    go_ret
    exact ⟨rfl, rfl⟩
  have HV : Hid (fnOf wd = 34) := by unfold Hid fnOf kindW; simp only [h0, h1, h2, h3, h4, h5, h6, h7, h8, h9, or_self, if_false]
  rw [HV.out]
  obtain ⟨p0, q0⟩ := ne_list h0
  obtain ⟨p1, q1⟩ := ne_list h1
  obtain ⟨p2, q2⟩ := ne_list h2
  obtain ⟨p3, q3⟩ := ne_list h3
  obtain ⟨p4, q4⟩ := ne_list h4
  obtain ⟨p5, q5⟩ := ne_list h5
  obtain ⟨p6, q6⟩ := ne_list h6
  obtain ⟨p7, q7⟩ := ne_list h7
  obtain ⟨p8, q8⟩ := ne_list h8
  obtain ⟨p9, q9⟩ := ne_list h9
  clear h0 h1 h2 h3 h4 h5 h6 h7 h8 h9
  go_enter Tryd.func17, Tryd.ntmps17
  go_wp2
  go_ret
  exact ⟨rfl, rfl⟩

theorem kind_le (wd : ByteArray) : kindW wd ≤ 5 := by
  unfold kindW; repeat' split
  all_goals omega
theorem dirB_size (s : List UInt8) : (dirB s).1.length ≤ s.length ∧ (dirB s).2.length ≤ s.length := by
  unfold dirB
  split
  · exact ⟨Nat.zero_le _, Nat.zero_le _⟩
  · exact ⟨tw_le _ _, Nat.le_trans (left_le _ _) (List.dropWhile_suffix _).length_le⟩
theorem dirX_size (x : Lz) : (dirX x).size ≤ x.text.size := by
  unfold dirX
  rw [ba_size, ← bl_length]
  cases bl x.text with
  | nil => exact Nat.le_refl _
  | cons c t =>
    rw [dirL]
    split
    · exact Nat.zero_le _
    · have h1 := (dirB_size (ltrim t)).2
      have h2 : (ltrim t).length ≤ t.length := left_le t _
      rw [List.length_cons]; omega
/-- What a line does. -/
theorem step_any {base b : Nat} {w : World} {s : Sx} (h : St base b w s) (hN : s.Le 1000000) (x : Lz) (hx : x.text.size ≤ 1000000) :
    Calls Tryd.prog (fnOf (dirW x)) #[.pointer (some ⟨b, 0, none⟩), lnV x, .string (dirW x), .string (dirX x)] w (StepPost base b w (s.step x)) := by
  obtain ⟨vD, vO, G, h⟩ := h
  have hk := kind_le (dirW x)
  have hxs : (dirX x).size ≤ 1000000 := by
    have := dirX_size x; omega
  unfold Sx.step fnOf
  obtain ⟨k, hkk⟩ : ∃ k, k = kindW (dirW x) := ⟨_, rfl⟩
  rw [← hkk] at hk ⊢
  match k, hk with
  | 0, _ => exact plain_any h hN x _ _
  | 1, _ => exact openIf_any h x _ _
  | 2, _ => exact openFor_any h x _ _ hxs
  | 3, _ => exact part_any h hN x _ _
  | 4, _ =>
    refine closeIf_any h hN x _ _ _ ?_
    unfold Sx.endR
    cases hg : s.op.getLast? with
    | none => rfl
    | some f => cases f <;> rfl
  | 5, _ =>
    refine closeFor_any h hN x _ _ _ ?_
    unfold Sx.endR
    cases hg : s.op.getLast? with
    | none => rfl
    | some f => cases f <;> rfl
theorem Sx.addTo_le {done : List Nd} {fs : List Fm} {n : Nd} {N : Nat} (h : Sx.Le ⟨done, fs⟩ N) : (Sx.addTo done fs n).Le (N + 1) := by
  rcases List.eq_nil_or_concat fs with rfl | ⟨fs, f, rfl⟩
  · rw [sx_add_nil]
    exact ⟨by have := h.1; simp at this ⊢; omega, fun f hf => by cases hf⟩
  · rw [List.concat_eq_append] at h ⊢
    rw [sx_add_snoc]
    refine ⟨Nat.le_succ_of_le h.1, fun f' hf => ?_⟩
    rcases List.mem_append.1 hf with hf | hf
    · have := h.2 f' (by simp [hf]); exact ⟨Nat.le_succ_of_le this.1, Nat.le_succ_of_le this.2⟩
    · rw [List.mem_singleton] at hf; subst hf
      have := h.2 f (by simp)
      cases f with
      | cn l bs w t a ks => exact ⟨by have := this.1; simp [Fm.add, Fm.nk] at this ⊢; omega, Nat.le_succ_of_le this.2⟩
      | fr l ns li ks => exact ⟨by have := this.1; simp [Fm.add, Fm.nk] at this ⊢; omega, Nat.le_succ_of_le this.2⟩
theorem Sx.le_mono {s : Sx} {N M : Nat} (h : s.Le N) (hM : N ≤ M) : s.Le M := ⟨Nat.le_trans h.1 hM, fun f hf => ⟨Nat.le_trans (h.2 f hf).1 hM, Nat.le_trans (h.2 f hf).2 hM⟩⟩
theorem Sx.le_drop {s : Sx} {N : Nat} (h : s.Le N) : Sx.Le ⟨s.done, s.op.dropLast⟩ N := ⟨h.1, fun f hf => h.2 f ((List.dropLast_sublist _).mem hf)⟩
theorem Sx.le_push {s : Sx} {N : Nat} (h : s.Le N) {f : Fm} (h1 : f.nk ≤ N + 1) (h2 : f.nb ≤ N + 1) : Sx.Le ⟨s.done, s.op ++ [f]⟩ (N + 1) := by
  refine ⟨Nat.le_succ_of_le h.1, fun f' hf => ?_⟩
  rcases List.mem_append.1 hf with hf | hf
  · have := h.2 f' hf; exact ⟨Nat.le_succ_of_le this.1, Nat.le_succ_of_le this.2⟩
  · rw [List.mem_singleton] at hf; subst hf; exact ⟨h1, h2⟩
section
variable {s : Sx} {x : Lz}
theorem step_k0 (h : kindW (dirW x) = 0) : s.step x = .ok (Sx.addTo s.done s.op (.pl x)) := by unfold Sx.step; rw [h]; rfl
theorem step_k1 (h : kindW (dirW x) = 1) : s.step x = if s.op.length = 32 then .bad 5 else .ok ⟨s.done, s.op ++ [.cn x [] (dirW x) (dirX x) x.at_ []]⟩ := by unfold Sx.step; rw [h]; rfl
theorem step_k2 (h : kindW (dirW x) = 2) : s.step x = match forText (dirX x) with
    | none => .bad 3
    | some (ns, li) => if s.op.length = 32 then .bad 5 else .ok ⟨s.done, s.op ++ [.fr x ns li []]⟩ := by unfold Sx.step; rw [h]; rfl
theorem step_k3 (h : kindW (dirW x) = 3) : s.step x = match s.op.getLast? with
    | some (.cn l bs w0 t0 a0 ks) => if w0 = kElse ∨ (dirW x = kElse ∧ dirX x ≠ E) then .bad 3 else .ok ⟨s.done, s.op.dropLast ++ [.cn l (bs ++ [.mk w0 t0 a0 ks]) (dirW x) (dirX x) x.at_ []]⟩
    | _ => .bad 3 := by unfold Sx.step; rw [h]; rfl
theorem step_k4 (h : kindW (dirW x) = 4) : s.step x = s.endR (dirX x) true := by
  unfold Sx.step Sx.endR; rw [h]
  cases s.op.getLast? with
  | none => rfl
  | some f => cases f <;> rfl
theorem step_k5 (h : kindW (dirW x) = 5) : s.step x = s.endR (dirX x) false := by
  unfold Sx.step Sx.endR; rw [h]
  cases s.op.getLast? with
  | none => rfl
  | some f => cases f <;> rfl
theorem kind_cases (wd : ByteArray) : kindW wd = 0 ∨ kindW wd = 1 ∨ kindW wd = 2 ∨ kindW wd = 3 ∨ kindW wd = 4 ∨ kindW wd = 5 := by have := kind_le wd; omega
theorem endR_le {s' : Sx} {t : ByteArray} {isC : Bool} {N : Nat} (h : s.Le N) (hs : s.endR t isC = .ok s') : s'.Le (N + 1) := by
  unfold Sx.endR at hs
  split at hs
  · split at hs
    · cases hs
    · cases hs; exact Sx.addTo_le (Sx.le_drop h)
  · split at hs
    · cases hs
    · cases hs; exact Sx.addTo_le (Sx.le_drop h)
  · cases hs
theorem endR_bad {t : ByteArray} {isC : Bool} {k : Int} (hs : s.endR t isC = .bad k) : k = 3 := by
  unfold Sx.endR at hs
  split at hs
  · split at hs
    · cases hs; rfl
    · cases hs
  · split at hs
    · cases hs; rfl
    · cases hs
  · cases hs; rfl
theorem Sx.step_le {s' : Sx} {N : Nat} (h : s.Le N) (hs : s.step x = .ok s') : s'.Le (N + 1) := by
  rcases kind_cases (dirW x) with hk | hk | hk | hk | hk | hk
  · rw [step_k0 hk] at hs; cases hs; exact Sx.addTo_le h
  · rw [step_k1 hk] at hs
    split at hs
    · cases hs
    · cases hs; exact Sx.le_push h (by simp [Fm.nk]) (by simp [Fm.nb])
  · rw [step_k2 hk] at hs
    split at hs
    · cases hs
    · split at hs
      · cases hs
      · cases hs; exact Sx.le_push h (by simp [Fm.nk]) (by simp [Fm.nb])
  · rw [step_k3 hk] at hs
    split at hs
    · rename_i l bs w0 t0 a0 ks hg
      split at hs
      · cases hs
      · cases hs
        have hm := h.2 _ (List.mem_of_getLast? hg)
        exact Sx.le_push (s := ⟨s.done, s.op.dropLast⟩) (Sx.le_drop h) (by simp [Fm.nk]) (by have := hm.2; simp [Fm.nb] at this ⊢; omega)
    · cases hs
  · rw [step_k4 hk] at hs; exact endR_le h hs
  · rw [step_k5 hk] at hs; exact endR_le h hs
theorem step_bad3 {k : Int} (hs : s.step x = .bad k) : k = 3 ∨ k = 5 := by
  rcases kind_cases (dirW x) with hk | hk | hk | hk | hk | hk
  · rw [step_k0 hk] at hs; cases hs
  · rw [step_k1 hk] at hs
    split at hs
    · cases hs; exact .inr rfl
    · cases hs
  · rw [step_k2 hk] at hs
    split at hs
    · cases hs; exact .inl rfl
    · split at hs
      · cases hs; exact .inr rfl
      · cases hs
  · rw [step_k3 hk] at hs
    split at hs
    · split at hs
      · cases hs; exact .inl rfl
      · cases hs
    · cases hs; exact .inl rfl
  · rw [step_k4 hk] at hs; exact .inl (endR_bad hs)
  · rw [step_k5 hk] at hs; exact .inl (endR_bad hs)
end
end Go.Proofs.YtbciedpjaajhcaaDoor
