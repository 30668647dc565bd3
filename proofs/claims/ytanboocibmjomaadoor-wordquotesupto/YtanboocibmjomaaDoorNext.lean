/-
  What a reading's next and open answer.
-/
import Derived.Test.YtanboocibmjomaaDoorBase
namespace Go.Proofs.YtanboocibmjomaaDoor
open Go.RowKit Go.Shelf

theorem rd_facts (q c : UInt8) :
    (c.toNat = 92 ∧ q.toNat ≠ 39 ∧ (K.Rd.mk q false).kind c = 2 ∧ (K.Rd.mk q false).step c = ⟨q, true⟩) ∨
    (q.toNat = 0 ∧ (c.toNat = 39 ∨ c.toNat = 34) ∧ (K.Rd.mk q false).kind c = 2 ∧ (K.Rd.mk q false).step c = ⟨c, false⟩) ∨
    (c.toNat ≠ 92 ∧ q.toNat = 0 ∧ c.toNat ≠ 39 ∧ c.toNat ≠ 34 ∧ (K.Rd.mk q false).kind c = 0 ∧ (K.Rd.mk q false).step c = ⟨q, false⟩) ∨
    ((c.toNat ≠ 92 ∨ q.toNat = 39) ∧ q.toNat ≠ 0 ∧ c.toNat = q.toNat ∧ (K.Rd.mk q false).kind c = 2 ∧ (K.Rd.mk q false).step c = ⟨0, false⟩) ∨
    ((c.toNat ≠ 92 ∨ q.toNat = 39) ∧ q.toNat ≠ 0 ∧ c.toNat ≠ q.toNat ∧ (K.Rd.mk q false).kind c = 1 ∧ (K.Rd.mk q false).step c = ⟨q, false⟩) := by
  unfold K.Rd.kind K.Rd.step
  have e1 : c = 92 ↔ c.toNat = 92 := u8_eq_iff c 92
  have e2 : q = 39 ↔ q.toNat = 39 := u8_eq_iff q 39
  have e3 : q = 0 ↔ q.toNat = 0 := u8_eq_iff q 0
  have e4 : c = 39 ↔ c.toNat = 39 := u8_eq_iff c 39
  have e5 : c = 34 ↔ c.toNat = 34 := u8_eq_iff c 34
  have e6 : c = q ↔ c.toNat = q.toNat := u8_eq_iff c q
  simp only [Bool.false_eq_true, if_false, ne_eq, e1, e2, e3, e4, e5, e6]
  by_cases h1 : c.toNat = 92 ∧ ¬ q.toNat = 39
  · left; simp [h1]
  · right
    by_cases h2 : q.toNat = 0 ∧ (c.toNat = 39 ∨ c.toNat = 34)
    · left
      refine ⟨h2.1, h2.2, ?_, ?_⟩
      · rw [if_neg h1, if_pos h2]
      · rw [if_neg h1, if_pos h2]
    · right
      by_cases h3 : q.toNat = 0
      · left
        refine ⟨by omega, h3, by omega, by omega, ?_, ?_⟩
        · rw [if_neg h1, if_neg h2, if_pos h3]
        · rw [if_neg h1, if_neg h2, if_pos h3]
      · right
        by_cases h4 : c.toNat = q.toNat
        · left
          refine ⟨by omega, h3, h4, ?_, ?_⟩
          · rw [if_neg h1, if_neg h2, if_neg h3, if_pos h4]
          · rw [if_neg h1, if_neg h2, if_neg h3, if_pos h4]
        · right
          refine ⟨by omega, h3, h4, ?_, ?_⟩
          · rw [if_neg h1, if_neg h2, if_neg h3, if_neg h4]
          · rw [if_neg h1, if_neg h2, if_neg h3, if_neg h4]

set_option maxRecDepth 20000 in
set_option maxHeartbeats 1000000 in
theorem next_any (b : Nat) (r : K.Rd) (c : UInt8) (w : World) (h : Box b r w) :
    Calls Tryd.prog 23 #[.pointer (some ⟨b, 0, none⟩), .int .u8 c.toNat] w fun e w' => e = .returned (.int .i64 (r.kind c : Nat)) ∧ Box b (r.step c) w' ∧ Only b w w' := by
  obtain ⟨q, t⟩ := r
  have c0 := h.c0
  have c1 := h.c1
  have f0 := h.fr 0
  have f1 := h.fr 1
  have HB : Hid (Box b ⟨q, t⟩ w) := h
  dsimp only at c0 c1
  clear h
  cases t with
  | true =>
    go_enter Tryd.func23, Tryd.ntmps23
    go_wp2
    go_ret
    exact ⟨rfl, HB.out.sett false, Only.set _ _ _ _⟩
  | false =>
    have HF := rd_facts q c
    have HF : Hid _ := HF
    go_enter Tryd.func23, Tryd.ntmps23
    go_wp2
    all_goals go_ret
    all_goals (try simp only [bne_iff_ne, ne_eq, beq_iff_eq, bne_eq_false_iff_eq, beq_eq_false_iff_ne] at *)
    all_goals (rcases HF.out with ⟨_, _, hk, hs⟩ | ⟨_, _, hk, hs⟩ | ⟨_, _, _, _, hk, hs⟩ | ⟨_, _, _, hk, hs⟩ | ⟨_, _, _, hk, hs⟩)
    all_goals first
      | (exfalso; omega)
      | (rw [hk, hs]; exact ⟨rfl, HB.out, Only.refl _ _⟩)
      | (rw [hk, hs]; exact ⟨rfl, HB.out.sett true, Only.set _ _ _ _⟩)
      | (rw [hk, hs]; exact ⟨rfl, HB.out.setq c, Only.set _ _ _ _⟩)
      | (rw [hk, hs]; exact ⟨rfl, HB.out.setq 0, Only.set _ _ _ _⟩)
      | (rw [hk, hs, (u8_eq_iff c 39).2 (by show c.toNat = 39; omega)]; exact ⟨rfl, HB.out.setq 39, Only.set _ _ _ _⟩)
      | (rw [hk, hs, (u8_eq_iff c 34).2 (by show c.toNat = 34; omega)]; exact ⟨rfl, HB.out.setq 34, Only.set _ _ _ _⟩)

set_option maxRecDepth 20000 in
set_option maxHeartbeats 1000000 in
theorem open_any (b : Nat) (r : K.Rd) (w : World) (h : Box b r w) :
    Calls Tryd.prog 27 #[.pointer (some ⟨b, 0, none⟩)] w fun e w' => e = .returned (.bool r.opened) ∧ w = w' := by
  obtain ⟨q, t⟩ := r
  have c0 := h.c0
  have c1 := h.c1
  dsimp only at c0 c1
  have e : K.Rd.opened ⟨q, t⟩ = (((q.toNat : Int) != 0) || t) := by
    have := u8_beq q 0 0 rfl
    simp only [K.Rd.opened, bne, ← this]; rfl
  rw [e]
  clear e h
  cases t with
  | true =>
    go_enter Tryd.func27, Tryd.ntmps27
    go_wp2
    all_goals go_ret
    all_goals first | exact ⟨ret_bool (by simp), rfl⟩ | skip
  | false =>
    go_enter Tryd.func27, Tryd.ntmps27
    go_wp2
    all_goals go_ret
    all_goals first | exact ⟨ret_bool (by simp_all), rfl⟩ | skip
end Go.Proofs.YtanboocibmjomaaDoor
