/-
  A file that is written, moved or touched is younger than all others: of the store's list.
-/
import Derived.Test.YtoibdokedhbjpaaTwo
namespace Go.Proofs.Ytoibdokedhbjpaa

theorem young_set {s : St} {q p : ByteArray} {e : Ent} (hw : wh p = some q) (ht : e.time = s.now + 1) {s' : St} (hL : s'.L = s.L.set q e) :
    (s'.stat p).1 = s.now + 1 ∧ ∀ x, x ≠ q → s'.L.look x = s.L.look x := by
  constructor
  · unfold St.stat
    rw [hw]; dsimp only
    rw [hL, Fs.look_set_same]; exact ht
  · intro x hx
    rw [hL, Fs.look_set_other _ _ _ _ hx]
theorem young_put {s : St} {q p x : ByteArray} (hw : wh p = some q) (h0 : (s.put q x).2 = 0) : ((s.put q x).1.stat p).1 = s.now + 1 ∧ ∀ y, y ≠ q → (s.put q x).1.L.look y = s.L.look y := by
  rcases put_cases s q x with ⟨_, h⟩ | ⟨_, _, h⟩
  · exact absurd h0 h
  · exact young_set (e := ⟨x, s.now + 1, false⟩) hw rfl (by rw [h, note_L])
/-- What a call that writes or touches leaves. -/
theorem young_act (s : St) (a : Act) (hk : a.kind.tmod 10 = 0 ∨ a.kind.tmod 10 = 1 ∨ a.kind.tmod 10 = 6) (h0 : (s.act a).2 = 0) :
    ∃ q, wh a.p = some q ∧ ((s.act a).1.stat a.p).1 = s.now + 1 ∧ ∀ x, x ≠ q → (s.act a).1.L.look x = s.L.look x := by
  have key : (s.act a = s.write a.p a.t) ∨ (s.act a = s.append a.p a.t) ∨ (s.act a = s.touch a.p) := by
    unfold St.act
    rcases hk with h | h | h
    · left; rw [if_pos h]
    · right; left; rw [if_neg (by omega), if_pos h]
    · right; right; rw [if_neg (by omega), if_neg (by omega), if_neg (by omega), if_neg (by omega), if_neg (by omega), if_neg (by omega), if_pos h]
  cases hw : wh a.p with
  | none =>
    exfalso
    rcases key with h | h | h
    · rw [h] at h0; unfold St.write at h0; rw [hw] at h0; cases h0
    · rw [h] at h0; unfold St.append at h0; rw [hw] at h0; cases h0
    · rw [h] at h0; unfold St.touch at h0; rw [hw] at h0; cases h0
  | some q =>
    refine ⟨q, rfl, ?_⟩
    rcases key with h | h | h
    · rw [h] at h0 ⊢
      have e : s.write a.p a.t = s.put q a.t := by unfold St.write; rw [hw]
      rw [e] at h0 ⊢
      exact young_put hw h0
    · rw [h] at h0 ⊢
      have e : s.append a.p a.t = s.put q (s.text q ++ a.t) := by unfold St.append; rw [hw]
      rw [e] at h0 ⊢
      exact young_put hw h0
    · rw [h] at h0 ⊢
      have e : s.touch a.p = if s.L.isDir q then ({ s with now := s.now + 1, L := s.L.set q ⟨E, s.now + 1, true⟩ }, 0) else s.put q (s.text q) := by unfold St.touch; rw [hw]
      rw [e] at h0 ⊢
      split at h0
      · rename_i hd
        rw [if_pos hd]
        exact young_set (e := ⟨E, s.now + 1, true⟩) hw rfl rfl
      · rename_i hd
        rw [if_neg hd]
        exact young_put hw h0
theorem young_time {s s' : St} (o : s.Ok) {q x : ByteArray} (hother : ∀ x, x ≠ q → s'.L.look x = s.L.look x) (hx : x ≠ q) {e : Ent} (hl : s'.L.look x = some e) : e.time < s.now + 1 := by
  rw [hother x hx] at hl
  have := o.time _ (Fs.look_mem hl)
  simp only at this
  omega
end Go.Proofs.Ytoibdokedhbjpaa
