/-
  What the document's Touches answers of two lists of notes that are the same.
-/
import Derived.Test.YtoibdokedhbjpaaGreatNote
import Derived.Deep.QuietTactic
import Derived.BigQuiet
namespace Go.Proofs.YtoibdokedhbjpaaGreat
open Go.RowKit Go.Shelf Go.Maps

theorem notesV_len (l : List (Int × ByteArray)) : (notesV l).length = l.length * 2 := by
  induction l with
  | nil => rfl
  | cons x t ih => unfold notesV at ih ⊢; simp only [List.flatMap_cons, List.length_append, List.length_cons, List.length_nil, ih]; omega
theorem notesV_at (l : List (Int × ByteArray)) (i : Nat) (h : i < l.length) : (notesV l)[i * 2]? = some (.int .i64 l[i].1) ∧ (notesV l)[i * 2 + 1]? = some (.string l[i].2) := by
  induction l generalizing i with
  | nil => exact absurd h (Nat.not_lt_zero _)
  | cons x t ih =>
    have e : notesV (x :: t) = .int .i64 x.1 :: .string x.2 :: notesV t := rfl
    rw [e]
    cases i with
    | zero => exact ⟨rfl, rfl⟩
    | succ i =>
      have := ih i (by simpa using h)
      rw [show (i + 1) * 2 = i * 2 + 1 + 1 by omega]
      simpa using this
theorem notes_at {base : Nat} {w : World} {v : Value} {l : List (Int × ByteArray)} (h : w.ownsRow base 74 2 v l.length (notesV l)) (hne : l ≠ []) :
    ∃ g cap, v = .slice (some ⟨g, 0, none⟩) l.length cap ∧ ∀ i (_ : i < l.length), w.cell? ⟨g, i * 2, none⟩ = some (.int .i64 l[i].1) ∧ w.cell? ⟨g, i * 2 + 1, none⟩ = some (.string l[i].2) := by
  obtain ⟨hxl, ⟨hv, hn⟩ | ⟨g, cap, cur, hv, hg, hcur, hcap, hcm, hcs, hct⟩⟩ := h
  · exact absurd (List.length_eq_zero_iff.1 hn) hne
  · refine ⟨g, cap, hv, fun i hi => ?_⟩
    obtain ⟨h1, h2⟩ := notesV_at l i hi
    have hc : ∀ j, j < l.length * 2 → w.cell? ⟨g, j, none⟩ = (notesV l)[j]? := fun j hj => by
      have h3 : (cur.toList.take (l.length * 2))[j]? = (notesV l)[j]? := by rw [hct]
      rw [List.getElem?_take_of_lt hj] at h3
      rw [← h3]
      simp [World.cell?, hcur]
    exact ⟨by rw [hc _ (by omega)]; exact h1, by rw [hc _ (by omega)]; exact h2⟩

set_option maxRecDepth 20000 in
set_option maxHeartbeats 1600000 in
theorem touches_some (l : List (Int × ByteArray)) (g1 c1 g2 c2 : Nat) (w : World) (hl : l.length ≤ 100000)
    (h1 : ∀ i (_ : i < l.length), w.cell? ⟨g1, i * 2, none⟩ = some (.int .i64 l[i].1) ∧ w.cell? ⟨g1, i * 2 + 1, none⟩ = some (.string l[i].2)) (h2 : ∀ i (_ : i < l.length), w.cell? ⟨g2, i * 2, none⟩ = some (.int .i64 l[i].1) ∧ w.cell? ⟨g2, i * 2 + 1, none⟩ = some (.string l[i].2)) :
    Calls Tryz.prog 8 #[.slice (some ⟨g1, 0, none⟩) l.length c1, .slice (some ⟨g2, 0, none⟩) l.length c2] w fun e w' => e = .returned (.bool true) ∧ ∃ n, w' = w.drewN n := by
  obtain ⟨n, hn⟩ : ∃ n, n = l.length := ⟨_, rfl⟩
  have HC : Hid (n = l.length ∧ (∀ i (_ : i < l.length), w.cell? ⟨g1, i * 2, none⟩ = some (.int .i64 l[i].1) ∧ w.cell? ⟨g1, i * 2 + 1, none⟩ = some (.string l[i].2)) ∧ (∀ i (_ : i < l.length), w.cell? ⟨g2, i * 2, none⟩ = some (.int .i64 l[i].1) ∧ w.cell? ⟨g2, i * 2 + 1, none⟩ = some (.string l[i].2))) := ⟨hn, h1, h2⟩
  rw [← hn] at hl ⊢
  clear h1 h2 hn
  go_enter Tryz.func8, Tryz.ntmps8
  go_wp2
  go_loopw [5] (fun vi wr => ∃ k m : Nat, k ≤ n ∧ vi = .int .i64 k ∧ wr = w.drewN m) (fun vi _ => n - (intOf vi).toNat)
  case atStart => exact ⟨0, 0, Nat.zero_le _, rfl, rfl⟩
  case round =>
    obtain ⟨k, m, hk, rfl, rfl⟩ := hrel
    by_cases hlt : k < n
    · have hkl : k < l.length := by rw [← HC.out.1]; exact hlt
      have hil : (k : Int) < (n : Int) := by omega
      obtain ⟨e1, e2⟩ := HC.out.2.1 k hkl
      obtain ⟨e3, e4⟩ := HC.out.2.2 k hkl
      obtain ⟨x, hxe⟩ : ∃ x, x = l[k] := ⟨_, rfl⟩
      rw [← hxe] at e1 e2 e3 e4
      obtain ⟨x1, x2⟩ := x
      dsimp only at e1 e2 e3 e4
      clear hxe
      go_wp2
      go_quiet (fail)
      go_wp2
      go_roundw
      case rel => exact ⟨k + 1, _, by omega, by go_num, rfl⟩
      case measure => simp [intOf]; omega
    · go_wp2
      go_ret
      exact ⟨rfl, _, rfl⟩

set_option maxHeartbeats 1600000 in
theorem touches_none (a1 a2 : Option Addr) (c1 c2 : Nat) (w : World) :
    Calls Tryz.prog 8 #[.slice a1 0 c1, .slice a2 0 c2] w fun e w' => e = .returned (.bool true) ∧ ∃ n, w' = w.drewN n := by
  go_enter Tryz.func8, Tryz.ntmps8
  go_wp2
  refine wp_loop_rounds 1 ?_
  rw [rounds_succ]
  go_wp2
  go_ret
  exact ⟨rfl, 0, rfl⟩

theorem touches_any (l : List (Int × ByteArray)) (v1 v2 : Value) (B1 B2 : Nat) (w : World) (hl : l.length ≤ 100000) (h1 : w.ownsRow B1 74 2 v1 l.length (notesV l)) (h2 : w.ownsRow B2 74 2 v2 l.length (notesV l)) :
    Calls Tryz.prog 8 #[v1, v2] w fun e w' => e = .returned (.bool true) ∧ Below w.heap.size w w' := by
  have key : Calls Tryz.prog 8 #[v1, v2] w fun e w' => e = .returned (.bool true) ∧ ∃ n, w' = w.drewN n := by
    by_cases hne : l = []
    · subst hne
      have s1 : ∃ a c, v1 = .slice a 0 c := by
        rcases h1.2 with ⟨rfl, _⟩ | ⟨g, cap, cur, rfl, _⟩
        · exact ⟨_, _, rfl⟩
        · exact ⟨_, _, rfl⟩
      have s2 : ∃ a c, v2 = .slice a 0 c := by
        rcases h2.2 with ⟨rfl, _⟩ | ⟨g, cap, cur, rfl, _⟩
        · exact ⟨_, _, rfl⟩
        · exact ⟨_, _, rfl⟩
      obtain ⟨a, c, rfl⟩ := s1
      obtain ⟨a', c', rfl⟩ := s2
      exact touches_none a a' c c' w
    · obtain ⟨g, c, rfl, hc⟩ := notes_at h1 hne
      obtain ⟨g', c', rfl, hc'⟩ := notes_at h2 hne
      exact touches_some l g c g' c' w hl hc hc'
  refine key.mono ?_
  rintro e w' ⟨rfl, n, rfl⟩
  exact ⟨rfl, below_drewN (Below.refl _ _) n⟩
end Go.Proofs.YtoibdokedhbjpaaGreat
