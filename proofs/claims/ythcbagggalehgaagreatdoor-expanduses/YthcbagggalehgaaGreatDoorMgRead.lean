/-
  What the program's read and Match answer: Match tells whether the pattern is all of the text, as the plain mathematics has it.
-/
import Derived.Test.YthcbagggalehgaaGreatDoorMgMatch
namespace Go.Proofs.YthcbagggalehgaaGreatDoor
open Go.RowKit

theorem idx_none (c : UInt8) : ∀ l : List UInt8, G.idx c l = none ↔ ∀ x ∈ l, x ≠ c := by
  intro l
  induction l with
  | nil => simp [G.idx]
  | cons b l ih =>
    unfold G.idx
    by_cases hb : b = c
    · subst hb; simp
    · have : (b == c) = false := by simpa using hb
      simp [this, ih, hb]

theorem last_ok (T : ByteArray) : LastOk T (Lib.lastIndexByte T 93) := by
  intro f
  rw [idx_none]
  have hat : ∀ j, (hj : j < T.size) → (((T.data[j]!).toNat : Int) ≠ 93 ↔ T[j] ≠ 93) := by
    intro j hj
    have e : T.data[j]! = T[j] := by rw [getElem!_pos T.data j hj]; rfl
    rw [e]
    have := u8_beq T[j] 93 93 rfl
    constructor
    · intro h h2; rw [h2] at h; exact h rfl
    · intro h h2; apply h; rw [u8_eq_iff]; show T[j].toNat = 93; omega
  rcases Lib.lastIndexByte_spec T 93 with ⟨e, hn⟩ | ⟨i, hi, e, hc, hn⟩
  · rw [e]
    refine ⟨fun _ x hx => ?_, fun _ => by omega⟩
    obtain ⟨j, hj, rfl⟩ := List.getElem_of_mem hx
    simp at hj
    rw [List.getElem_drop]
    exact (hat (f + 1 + j) (by omega)).1 (hn _ (by omega))
  · rw [e]
    constructor
    · intro h x hx
      obtain ⟨j, hj, rfl⟩ := List.getElem_of_mem hx
      simp at hj
      rw [List.getElem_drop]
      exact (hat (f + 1 + j) (by omega)).1 (hn _ (by omega) (by omega))
    · intro h
      apply Int.not_lt.mp
      intro hlt
      have hf : f < i := by omega
      have hm : T[i] ∈ T.data.toList.drop (f + 1) := by
        obtain ⟨d, rfl⟩ : ∃ d, i = f + 1 + d := ⟨i - (f + 1), by omega⟩
        have : (T.data.toList.drop (f + 1))[d]'(by simp; omega) = T[f + 1 + d] := List.getElem_drop ..
        rw [← this]; exact List.getElem_mem _
      have h9 := h _ hm
      exact ((hat i hi).2 h9) hc

set_option maxHeartbeats 400000 in
theorem read_any (T : ByteArray) (w : World) (hs : T.size ≤ 1000000) :
    Calls Tryz.prog 164 #[.string T] w fun e w' => e = .returned (.agg #[.string T, .int .i64 (Lib.lastIndexByte T 93)]) ∧ Below w.heap.size w w' := by
  obtain ⟨L, hL⟩ : ∃ L, L = Lib.lastIndexByte T 93 := ⟨_, rfl⟩
  have HO : Hid (∀ W, Calls Tryz.prog 168 #[.string T, .int .u8 93] W fun e w' => e = .returned (.int .i64 L) ∧ w' = W) := by
    intro W; rw [hL]; exact Tryz.strings_LastIndexByte T 93 (by omega) W
  rw [← hL]
  clear hL hs
  go_enter Tryz.func164, Tryz.ntmps164
  go_wp2_with (go_at_call 168; refine (HO.out _).mono ?_; rintro e w' ⟨rfl, rfl⟩)
  refine bodyPost_ret (v := .agg #[.string T, .int .i64 L]) (by simp [results, Tryz.results164, go_sem]) rfl ⟨rfl, ?_⟩
  exact (Below.refl _ _).alloc (Nat.le_refl _) _

set_option maxHeartbeats 400000 in
theorem match_any (T s : ByteArray) (w : World) (hs : T.size ≤ 1000000) (hss : s.size ≤ 1000000) :
    Calls Tryz.prog 140 #[.string T, .string s] w fun e w' => e = .returned (.bool (G.matchB T.data.toList s.data.toList)) ∧ Below w.heap.size w w' := by
  obtain ⟨b, hb⟩ : ∃ b, b = G.matchB T.data.toList s.data.toList := ⟨_, rfl⟩
  obtain ⟨L, hL⟩ : ∃ L, L = Lib.lastIndexByte T 93 := ⟨_, rfl⟩
  have HR : Hid (∀ W, Calls Tryz.prog 164 #[.string T] W fun e w' => e = .returned (.agg #[.string T, .int .i64 L]) ∧ Below W.heap.size W w') := by
    intro W; rw [hL]; exact read_any T W hs
  have HM : Hid (∀ W, Calls Tryz.prog 165 #[.agg #[.string T, .int .i64 L], .string s] W fun e w' => e = .returned (.bool b) ∧ Below W.heap.size W w') := by
    intro W; rw [hb]; exact matches_any T s L W hs hss (hL ▸ last_ok T)
  rw [← hb]
  clear hL hs hss hb
  go_enter Tryz.func140, Tryz.ntmps140
  go_wp2_with fail
  refine (HR.out _).mono ?_
  rintro e w1 ⟨rfl, hb1⟩
  go_wp2_with fail
  refine (HM.out _).mono ?_
  rintro e w2 ⟨rfl, hb2⟩
  go_wp2
  go_ret
  exact ⟨rfl, hb1.trans (hb2.mono hb1.size)⟩
end Go.Proofs.YthcbagggalehgaaGreatDoor
