/-
  Whether two rules of a target clash.
-/
import Derived.Test.YtbgnmchnfaknkaaDoorJ3
namespace Go.Proofs.YtbgnmchnfaknkaaDoor
open Go.RowKit Go.Shelf Go.Maps

theorem RuV.open {B : Nat} {W : World} {v : Value} {r : Q.Ru} (h : RuV B W v r) : ∃ ta tc sa sc ca cc, v = .agg #[.slice ta r.targets.length tc, .int .i64 r.kind, .slice sa r.sources.length sc, .slice ca r.commands.length cc, .int .i64 r.at_] ∧ Words B W (.slice ta r.targets.length tc) (r.targets.map ba) ∧ Words B W (.slice sa r.sources.length sc) (r.sources.map ba) ∧ Words B W (.slice ca r.commands.length cc) (r.commands.map ba) := by
  obtain ⟨vt, vs, vc, rfl, a1, a2, a3⟩ := h
  obtain ⟨ta, tn, tc, rfl⟩ : ∃ a n c, vt = .slice a n c := by obtain ⟨a, n, c, h, _⟩ := a1; exact ⟨a, n, c, h⟩
  obtain ⟨sa, sn, sc, rfl⟩ : ∃ a n c, vs = .slice a n c := by obtain ⟨a, n, c, h, _⟩ := a2; exact ⟨a, n, c, h⟩
  obtain ⟨ca, cn, cc, rfl⟩ : ∃ a n c, vc = .slice a n c := by obtain ⟨a, n, c, h, _⟩ := a3; exact ⟨a, n, c, h⟩
  have h1 : tn = r.targets.length := by have := a1.len.1; rwa [List.length_map] at this
  have h2 : sn = r.sources.length := by have := a2.len.1; rwa [List.length_map] at this
  have h3 : cn = r.commands.length := by have := a3.len.1; rwa [List.length_map] at this
  subst h1; subst h2; subst h3
  exact ⟨ta, tc, sa, sc, ca, cc, rfl, a1, a2, a3⟩
theorem below_two (w : World) (o o' : Obj) : Below w.heap.size w ((w.alloc o).alloc o') := (below_alloc1 _ _).alloc (by simp) _

set_option maxRecDepth 20000 in
set_option maxHeartbeats 1000000 in
theorem clash_any (t : ByteArray) (e r : Q.Ru) (ve vr : Value) (w : World) {B1 B2 : Nat} {u1 u2 : World} (h1 : RuV B1 u1 ve e) (h2 : RuV B2 u2 vr r) :
    Calls Tryd.prog 48 #[.string t, ve, vr] w fun x w' => x = .returned (.bool (Q.clashR classF (bl t) e r)) ∧ Below w.heap.size w w' := by
  obtain ⟨ta, tc, sa, sc, ca, cc, rfl, _, _, _⟩ := h1.open
  obtain ⟨ua, uc, xa, xc, ya, yc, rfl, _, _, _⟩ := h2.open
  clear h1 h2
  obtain ⟨b, hb⟩ : ∃ b, b = Q.clashR classF (bl t) e r := ⟨_, rfl⟩
  rw [← hb]
  unfold Q.clashR at hb
  have hZ : ∀ w' : World, Below w.heap.size w w' → Hid (Below w.heap.size w w') := fun _ h => h
  have HC : Hid (∀ W, Calls Tryd.prog 25 #[.string t] W fun e w' => e = .returned (.int .i64 (classF (bl t) : Nat)) ∧ W = w') := fun W => class_any t W
  obtain ⟨z, hz⟩ : ∃ z, z = classF (bl t) := ⟨_, rfl⟩
  rw [← hz] at HC hb
  clear hz
  generalize e.kind = ke at hb ⊢
  generalize r.kind = kr at hb ⊢
  generalize e.commands.length = en at hb ⊢
  generalize r.commands.length = rn at hb ⊢
  generalize e.targets.length = q1
  generalize r.targets.length = q2
  generalize e.sources.length = q3
  generalize r.sources.length = q4
  generalize e.at_ = q5
  generalize r.at_ = q6
  have HB : Hid (Below w.heap.size w ((w.alloc (.cells #[.slice ta q1 tc, .int .i64 ke, .slice sa q3 sc, .slice ca en cc, .int .i64 q5] 24)).alloc (.cells #[.slice ua q2 uc, .int .i64 kr, .slice xa q4 xc, .slice ya rn yc, .int .i64 q6] 24))) := below_two _ _ _
  clear hZ
  by_cases hk1 : ke = 3
  · subst hk1
    rw [if_pos (.inl rfl)] at hb
    have HE : Hid (b = !((3 : Int) == kr)) := hb
    clear hb
    go_enter Tryd.func48, Tryd.ntmps48
    go_wp2_with fail
    go_ret
    exact ⟨ret_bool (by rw [HE.out]; simp [bne]), HB.out⟩
  · by_cases hk2 : kr = 3
    · subst hk2
      have hk1' : (ke == 3) = false := by simpa using hk1
      rw [if_pos (.inr rfl)] at hb
      have HE : Hid (b = !(ke == (3 : Int))) := hb
      clear hb
      go_enter Tryd.func48, Tryd.ntmps48
      go_wp2_with fail
      go_ret
      exact ⟨ret_bool (by rw [HE.out]; simp [bne]), HB.out⟩
    · rw [if_neg (by intro h; exact h.elim hk1 hk2)] at hb
      have hk1' : (ke == 3) = false := by simpa using hk1
      have hk2' : (kr == 3) = false := by simpa using hk2
      by_cases h0 : 0 < en
      · have h0' : (0 : Int) < (en : Int) := by omega
        by_cases h3 : 0 < rn
        · have h3' : (0 : Int) < (rn : Int) := by omega
          have HE : Hid (b = decide (z = 0)) := by unfold Hid; rw [hb]; simp [h0, h3]
          clear hb
          go_enter Tryd.func48, Tryd.ntmps48
          go_wp2_with (go_at_call 25; refine (HC.out _).mono ?_; rintro e w' ⟨rfl, rfl⟩)
          go_ret
          exact ⟨ret_bool (by rw [HE.out]; by_cases hz : z = 0 <;> simp [hz]), HB.out⟩
        · have h3' : ¬ (0 : Int) < (rn : Int) := by omega
          have HE : Hid (b = false) := by unfold Hid; rw [hb]; simp [h3]
          clear hb
          go_enter Tryd.func48, Tryd.ntmps48
          go_wp2_with fail
          go_ret
          exact ⟨ret_bool (by rw [HE.out]), HB.out⟩
      · have h0' : ¬ (0 : Int) < (en : Int) := by omega
        have HE : Hid (b = false) := by unfold Hid; rw [hb]; simp [h0]
        clear hb
        go_enter Tryd.func48, Tryd.ntmps48
        go_wp2_with fail
        go_ret
        exact ⟨ret_bool (by rw [HE.out]), HB.out⟩
end Go.Proofs.YtbgnmchnfaknkaaDoor
