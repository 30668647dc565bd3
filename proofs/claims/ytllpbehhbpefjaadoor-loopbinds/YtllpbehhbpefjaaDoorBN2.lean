/-
  LoopUnused at every list of lines, name and value.
-/
import Derived.Test.YtllpbehhbpefjaaDoorBL
namespace Go.Proofs.YtllpbehhbpefjaaDoor
open Go.RowKit Go.Shelf
open Ex (useN Fr)

theorem bindL_plain {U : List ByteArray} {val s : List UInt8} (h : ∀ c ∈ s, c ≠ 36) : bindL U val s = s := by
  rw [bindL_skip s.length s (Nat.le_refl _) (fun j _ e => h 36 (List.mem_of_getElem? e) rfl), List.take_length, List.drop_length, bindL_nil, List.append_nil]
/-- A bracket's body without dollars and braces ends at its brace. -/
theorem body_plain : ∀ (m : List UInt8) (n : Nat) (r : List UInt8), (∀ c ∈ m, c ≠ 36 ∧ c ≠ 123 ∧ c ≠ 125) → m.length + 1 ≤ n → Ex.bodyF n 123 125 0 (m ++ 125 :: r) = some (m.length + 1)
  | [], n + 1, r, _, _ => by simp [Ex.bodyF]
  | [], 0, r, _, h => by simp at h
  | c :: m, 0, r, _, h => by simp at h
  | c :: m, n + 1, r, hc, h => by
    have h0 := hc c (by simp)
    have ih := body_plain m n r (fun x hx => hc x (by simp [hx])) (by simp at h ⊢; omega)
    rw [List.cons_append]
    unfold Ex.bodyF
    simp only [h0.1, h0.2.1, h0.2.2, if_false, ih]
    simp
theorem bl_useA (name : ByteArray) : bl (useA name) = 36 :: 123 :: (bl name ++ [125]) := by
  unfold useA; rw [bl_app, bl_app]; rfl
theorem useN_A {name : ByteArray} (h : ∀ c ∈ bl name, c ≠ 36 ∧ c ≠ 123 ∧ c ≠ 125) : useN (bl (useA name)) = (useA name).size := by
  rw [bl_useA, useA_size]
  unfold useN
  dsimp only
  rw [if_pos rfl]
  unfold Ex.endN
  dsimp only
  have hc : ¬ Ex.clo 123 = 0 := by decide
  rw [if_neg hc]
  have := body_plain (bl name) (bl name ++ [125]).length [] h (by simp)
  rw [show Ex.clo 123 = 125 from rfl, this]
  simp [bl_length]
theorem start_A {name : ByteArray} (h : ∀ c ∈ bl name, c ≠ 36 ∧ c ≠ 123 ∧ c ≠ 125) (r : List UInt8) : startN (usesB name) (bl (useA name) ++ r) = (useA name).size := by
  have hT : takeU (useA name) [] = [useA name] := by unfold takeU; rw [if_pos (useN_A h)]; rfl
  have hhd : ∃ V, usesB name = useA name :: V := by
    unfold usesB
    rw [hT]
    have key : ∀ c (V : List ByteArray), ∃ V', takeU c (useA name :: V) = useA name :: V' := fun c V => by
      unfold takeU; split
      · exact ⟨V ++ [c], rfl⟩
      · exact ⟨V, rfl⟩
    obtain ⟨V1, h1⟩ := key (useB name) []
    obtain ⟨V2, h2⟩ := key (useC name) V1
    split
    · exact ⟨V2, by rw [h1, h2]⟩
    · exact ⟨V1, h1⟩
  obtain ⟨V, hV⟩ := hhd
  rw [hV, startN, if_pos (by simp)]
theorem bind_use {name value : ByteArray} (h : ∀ c ∈ bl name, c ≠ 36 ∧ c ≠ 123 ∧ c ≠ 125) (hv : ∀ c ∈ bl value, c ≠ 36) : bindL (usesB name) (quoteD (bl value)) (97 :: 36 :: 123 :: (bl name ++ [125, 98])) = 97 :: (bl value ++ [98]) := by
  rw [bindL_other _ (by decide)]
  have e : (36 : UInt8) :: 123 :: (bl name ++ [125, 98]) = bl (useA name) ++ [98] := by rw [bl_useA]; simp
  have hst := start_A h [98]
  rw [e, bindL_hit (by rw [bl_useA]; rfl) (by rw [hst, useA_size]; omega), hst]
  have hdrop : (bl (useA name) ++ [98]).drop (useA name).size = [98] := by
    rw [← bl_length, List.drop_left]
  rw [hdrop, bindL_other _ (by decide), bindL_nil, quoteD_plain hv]

theorem row_lz {w : World} {base n : Nat} {v : Value} {e : TypeId} {l : List Lz} (h : w.ownsRow base e 3 v l.length (lzsV l)) (hn : n = l.length) : ∃ a c, v = .slice a n c ∧ n ≤ c ∧ ∀ i x, l[i]? = some x → ∃ g, a = some ⟨g, 0, none⟩ ∧ g < w.heap.size ∧ w.cell? ⟨g, i * 3, none⟩ = some (.string x.text) ∧ w.cell? ⟨g, i * 3 + 1, none⟩ = some (.int .i64 x.at_) ∧ w.cell? ⟨g, i * 3 + 2, none⟩ = some (.bool x.cmd) := by
  subst hn
  rcases row_src h with ⟨h1, h2, _⟩ | ⟨g, cap, hv, hg, hcap, _, hc⟩
  · refine ⟨none, 0, by rw [h1, h2], by omega, fun i x hi => ?_⟩
    have := (List.getElem?_eq_some_iff.1 hi).1
    omega
  · refine ⟨some ⟨g, 0, none⟩, cap, hv, hcap, fun i x hi => ⟨g, rfl, hg, ?_, ?_, ?_⟩⟩
    · have := hc (i * 3 + 0) _ (by unfold lzsV; rw [fl_get lzC 3 lz_len l i 0 x hi (by omega)]; rfl)
      rw [add_none, Nat.zero_add] at this; exact this
    · have := hc (i * 3 + 1) _ (by unfold lzsV; rw [fl_get lzC 3 lz_len l i 1 x hi (by omega)]; rfl)
      rw [add_none, Nat.zero_add] at this; exact this
    · have := hc (i * 3 + 2) _ (by unfold lzsV; rw [fl_get lzC 3 lz_len l i 2 x hi (by omega)]; rfl)
      rw [add_none, Nat.zero_add] at this; exact this
end Go.Proofs.YtllpbehhbpefjaaDoor
