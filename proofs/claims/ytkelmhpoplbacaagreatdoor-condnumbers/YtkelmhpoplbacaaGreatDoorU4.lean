/-
  What Put leaves and answers.
-/
import Derived.Test.YtkelmhpoplbacaaGreatDoorU3
namespace Go.Proofs.YtkelmhpoplbacaaGreatDoor.V
open Go.RowKit Go.Shelf Go.Maps

section
variable {base b : Nat} {m : Int → Nat} {s : VS}

set_option maxHeartbeats 400000 in
theorem mayStand_any (n : Int) (q : ByteArray) (w : World) (h : VSet base b m s w) :
    Calls Tryz.prog 18 #[ptr b, .int .i64 n, .string q] w fun e w' => e = .returned (.int .i64 (if VS.ok n q then 0 else 1)) ∧ Below w.heap.size w w' := by
  have HR : Hid (Calls Tryz.prog 39 #[ptr b] w fun e w' => e = .returned (.bool true) ∧ w = w') := ready_any w h
  have HS : Hid (Calls Tryz.prog 40 #[.int .i64 n] w fun e w' => e = .returned (.bool (isSc n)) ∧ w = w') := isScope_any n w
  have HG : Hid (Calls Tryz.prog 41 #[.string q] w fun e w' => e = .returned (.bool (rightB q)) ∧ Below w.heap.size w w') := right_any q w
  unfold VS.ok
  clear h
  obtain ⟨x, hx⟩ : ∃ x, x = isSc n := ⟨_, rfl⟩
  obtain ⟨y, hy⟩ : ∃ y, y = rightB q := ⟨_, rfl⟩
  rw [← hx] at HS ⊢
  rw [← hy] at HG ⊢
  clear hx hy
  cases x
  · go_enter Tryz.func18, Tryz.ntmps18
    go_wp2_with fail
    refine HR.out.mono ?_
    rintro e w' ⟨rfl, rfl⟩
    go_wp2_with fail
    refine HS.out.mono ?_
    rintro e w' ⟨rfl, rfl⟩
    go_wp2
    go_ret
    exact ⟨rfl, Below.refl _ _⟩
  · cases y
    all_goals
      go_enter Tryz.func18, Tryz.ntmps18
      go_wp2_with fail
      refine HR.out.mono ?_
      rintro e w' ⟨rfl, rfl⟩
      go_wp2_with fail
      refine HS.out.mono ?_
      rintro e w' ⟨rfl, rfl⟩
      go_wp2_with fail
      refine HG.out.mono ?_
      rintro e w' ⟨rfl, hb⟩
      go_wp2
      go_ret
      exact ⟨rfl, hb⟩

theorem nil_add (v : ByteArray) : E ++ v = v := by apply bl_inj; simp [bl]

/-- give, in any world that has only grown. -/
theorem give_below {w : World} (h : VSet base b m s w) (n : Int) (q hd tl : ByteArray) (hk : VS.ok n q = true) (hh : hd.size ≤ 1000000) (ht : tl.size ≤ 140737488355328) (W : World) (hB : Below w.heap.size w W) :
    Calls Tryz.prog 19 #[ptr b, .int .i64 n, .string q, .string hd, .string tl] W fun e w' => e = .returned (.int .i64 (s.give n q (hd ++ tl)).2) ∧ VSet base b m (s.give n q (hd ++ tl)).1 w' ∧ Turn m w w' :=
  (give_any n q hd tl W (h.below hB) hk hh ht).mono fun _ _ hx => ⟨hx.1, hx.2.1, (Turn.of_below hB).trans hx.2.2⟩

set_option maxHeartbeats 400000 in
theorem put_any (n : Int) (q v : ByteArray) (w : World) (h : VSet base b m s w) (hv : v.size ≤ 140737488355328) :
    Calls Tryz.prog 11 #[ptr b, .int .i64 n, .string q, .string v] w fun e w' => e = .returned (.int .i64 (s.put n q v).2) ∧ VSet base b m (s.put n q v).1 w' ∧ Turn m w w' := by
  have HM : Hid (Calls Tryz.prog 18 #[ptr b, .int .i64 n, .string q] w fun e w' => e = .returned (.int .i64 (if VS.ok n q then 0 else 1)) ∧ Below w.heap.size w w') := mayStand_any n q w h
  cases hk : VS.ok n q
  · have HP : Hid (s.put n q v = (s, 1)) := by unfold Hid VS.put; rw [hk]; rfl
    have HV : Hid (∀ W, Below w.heap.size w W → VSet base b m s W) := fun W hB => h.below hB
    rw [hk] at HM
    simp only [Bool.false_eq_true, if_false] at HM
    clear h hk
    go_enter Tryz.func11, Tryz.ntmps11
    go_wp2_with fail
    refine HM.out.mono ?_
    rintro e w' ⟨rfl, hb⟩
    go_wp2
    go_ret
    exact ⟨ret_int (by rw [HP.out]), by rw [HP.out]; exact HV.out _ hb, Turn.of_below hb⟩
  · have HP : Hid (s.put n q v = s.give n q v) := by unfold Hid VS.put; rw [hk]; rfl
    have HG : Hid (∀ W, Below w.heap.size w W → Calls Tryz.prog 19 #[ptr b, .int .i64 n, .string q, .string E, .string v] W fun e w' => e = .returned (.int .i64 (s.put n q v).2) ∧ VSet base b m (s.put n q v).1 w' ∧ Turn m w w') := by
      intro W hB
      have := give_below h n q E v hk (by decide) hv W hB
      rw [nil_add, ← HP.out] at this
      exact this
    rw [hk] at HM
    simp only [if_true] at HM
    clear h hk HP
    go_enter Tryz.func11, Tryz.ntmps11
    go_wp2_with fail
    refine HM.out.mono ?_
    rintro e w' ⟨rfl, hb⟩
    go_wp2_with fail
    refine (HG.out _ hb).mono ?_
    rintro e w2 ⟨rfl, hv2, ht2⟩
    go_wp2
    go_ret
    exact ⟨rfl, hv2, ht2⟩

end
end Go.Proofs.YtkelmhpoplbacaaGreatDoor.V
