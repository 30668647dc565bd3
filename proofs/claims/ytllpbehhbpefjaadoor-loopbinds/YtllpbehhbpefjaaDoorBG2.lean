/-
  What the document's way of binding finds is what the program's finds.
-/
import Derived.Test.YtllpbehhbpefjaaDoorBG1
namespace Go.Proofs.YtllpbehhbpefjaaDoor
open Go.RowKit Go.Shelf
open Ex (useN bodyF endN clo)

theorem end_app {t : List UInt8} {k : Nat} (h : endN t = some k) (h2 : 2 ≤ t.length) (r : List UInt8) : endN (t ++ r) = some k := by
  match t, h2 with
  | x :: y :: r0, _ =>
    rw [List.cons_append, List.cons_append]
    unfold endN at h ⊢
    dsimp only at h ⊢
    split
    · rename_i hc; rw [if_pos hc] at h; exact h
    · rename_i hc
      rw [if_neg hc] at h
      obtain ⟨q, hq, rfl⟩ := Option.map_eq_some_iff.1 h
      rw [body_app _ _ _ _ _ r q (r0 ++ r).length hq (by simp)]; rfl
theorem start_mem {s : List UInt8} : ∀ {U : List ByteArray}, startN U s ≠ 0 → ∃ u ∈ U, (bl u).isPrefixOf s = true ∧ u.size = startN U s
  | [], h => absurd rfl h
  | u :: U, h => by
    rw [startN] at h ⊢
    by_cases hp : (bl u).isPrefixOf s = true
    · rw [if_pos hp]; exact ⟨u, by simp, hp, rfl⟩
    · rw [if_neg hp] at h ⊢
      obtain ⟨v, h1, h2, h3⟩ := start_mem h
      exact ⟨v, by simp [h1], h2, h3⟩
theorem start_is {s : List UInt8} {m : Nat} : ∀ {U : List ByteArray}, (∃ u ∈ U, (bl u).isPrefixOf s = true) → (∀ u ∈ U, (bl u).isPrefixOf s = true → u.size = m) → startN U s = m
  | [], h, _ => by obtain ⟨u, h, _⟩ := h; cases h
  | v :: U, h, hm => by
    rw [startN]
    by_cases hp : (bl v).isPrefixOf s = true
    · rw [if_pos hp]; exact hm v (by simp) hp
    · rw [if_neg hp]
      obtain ⟨u, h1, h2⟩ := h
      rcases List.mem_cons.1 h1 with rfl | h1
      · exact absurd h2 hp
      · exact start_is ⟨u, h1, h2⟩ (fun u hu => hm u (by simp [hu]))
/-- The texts that a name's uses may be. -/
def Cand (name c : ByteArray) : Prop := c = useA name ∨ c = useB name ∨ (c = useC name ∧ name.size = 1 ∧ ¬ name = kDol)
theorem mem_takeU {c u : ByteArray} {U : List ByteArray} : u ∈ takeU c U ↔ u ∈ U ∨ (u = c ∧ useN (bl c) = c.size) := by
  unfold takeU
  split
  · rename_i h; simp [h]
  · rename_i h; simp [h]
theorem mem_usesB {name u : ByteArray} : u ∈ usesB name ↔ Cand name u ∧ useN (bl u) = u.size := by
  unfold usesB Cand
  split
  · rename_i h
    rw [mem_takeU, mem_takeU, mem_takeU]
    constructor
    · rintro (((h1 | h1) | h1) | h1)
      · cases h1
      · exact ⟨.inl h1.1, by rw [h1.1]; exact h1.2⟩
      · exact ⟨.inr (.inl h1.1), by rw [h1.1]; exact h1.2⟩
      · exact ⟨.inr (.inr ⟨h1.1, h⟩), by rw [h1.1]; exact h1.2⟩
    · rintro ⟨h1 | h1 | h1, h2⟩
      · exact .inl (.inl (.inr ⟨h1, by rw [← h1]; exact h2⟩))
      · exact .inl (.inr ⟨h1, by rw [← h1]; exact h2⟩)
      · exact .inr ⟨h1.1, by rw [← h1.1]; exact h2⟩
  · rename_i h
    rw [mem_takeU, mem_takeU]
    constructor
    · rintro ((h1 | h1) | h1)
      · cases h1
      · exact ⟨.inl h1.1, by rw [h1.1]; exact h1.2⟩
      · exact ⟨.inr (.inl h1.1), by rw [h1.1]; exact h1.2⟩
    · rintro ⟨h1 | h1 | h1, h2⟩
      · exact .inl (.inr ⟨h1, by rw [← h1]; exact h2⟩)
      · exact .inr ⟨h1, by rw [← h1]; exact h2⟩
      · exact absurd h1.2 h
theorem cand_form {name c : ByteArray} (h : Cand name c) : 2 ≤ c.size ∧ (bl c).head? = some 36 ∧ (bl c)[1]? ≠ some 36 := by
  rcases h with rfl | rfl | ⟨rfl, h1, h2⟩
  · rw [useA_size, bl_useA]; exact ⟨by omega, rfl, by simp⟩
  · refine ⟨by rw [useB_size]; omega, ?_, ?_⟩
    · unfold useB; rw [bl_app, bl_app]; rfl
    · unfold useB; rw [bl_app, bl_app]; simp [bl]
  · refine ⟨by rw [useC_size]; omega, ?_, ?_⟩
    · unfold useC; rw [bl_app]; rfl
    · intro e
      apply h2
      have e1 : bl (useC name) = 36 :: bl name := by unfold useC; rw [bl_app]; rfl
      rw [e1] at e
      have hl := bl_length name
      match hb : bl name, hl with
      | [x], _ =>
        rw [hb] at e
        simp at e
        exact bl_inj (by rw [hb, e]; rfl)
      | [], hl => simp at hl; omega
      | x :: y :: r, hl => simp at hl; omega
theorem use_end {c : ByteArray} (h1 : (bl c).head? = some 36) (h2 : useN (bl c) = c.size) (h3 : 2 ≤ c.size) : endN (bl c) = some c.size := by
  cases hb : bl c with
  | nil => rw [hb] at h1; cases h1
  | cons x r =>
    rw [hb] at h1 h2
    simp at h1
    subst h1
    unfold useN at h2
    dsimp only at h2
    rw [if_pos rfl] at h2
    cases he : endN (36 :: r) with
    | none => rw [he] at h2; simp at h2; omega
    | some k => rw [he] at h2; simp at h2; rw [h2]
theorem end_use {c : ByteArray} (h1 : (bl c).head? = some 36) (h2 : endN (bl c) = some c.size) : useN (bl c) = c.size := by
  cases hb : bl c with
  | nil => rw [hb] at h1; cases h1
  | cons x r =>
    rw [hb] at h1 h2
    simp at h1
    subst h1
    unfold useN
    dsimp only
    rw [if_pos rfl, h2]; rfl
/-- What is a use at the head of a text ends where the text's use ends. -/
theorem pre_end {name u : ByteArray} {s : List UInt8} (h : u ∈ usesB name) (hp : (bl u).isPrefixOf s = true) : endN s = some u.size ∧ s.take u.size = bl u := by
  obtain ⟨h1, h2⟩ := mem_usesB.1 h
  obtain ⟨h3, h4, _⟩ := cand_form h1
  obtain ⟨r, rfl⟩ := List.isPrefixOf_iff_prefix.1 hp
  refine ⟨end_app (use_end h4 h2 h3) (by rw [bl_length]; exact h3) r, ?_⟩
  rw [← bl_length, List.take_left]
theorem start_hit2 {name c : ByteArray} {s : List UInt8} {m : Nat} (hc : Cand name c) (he : endN s = some m) (ht : s.take m = bl c) : startN (usesB name) s = m ∧ m = c.size := by
  obtain ⟨h3, h4, _⟩ := cand_form hc
  have hml := (Ex.end_le he).2
  have hm : m = c.size := by rw [← bl_length, ← ht, List.length_take]; omega
  have hue : useN (bl c) = c.size := end_use h4 (by rw [← ht, ← hm]; exact Ex.end_take he (Nat.le_refl _) (by omega))
  refine ⟨start_is ⟨c, mem_usesB.2 ⟨hc, hue⟩, ?_⟩ (fun u hu hp => ?_), hm⟩
  · rw [← ht]; exact List.isPrefixOf_iff_prefix.2 (List.take_prefix _ _)
  · have := (pre_end hu hp).1
    rw [he] at this
    exact (Option.some.inj this).symm
theorem start_miss2 {name : ByteArray} {s : List UInt8} (h : ∀ c m, Cand name c → endN s = some m → s.take m ≠ bl c) : startN (usesB name) s = 0 := by
  refine Classical.byContradiction fun hne => ?_
  obtain ⟨u, hu, hp, _⟩ := start_mem hne
  obtain ⟨h1, h2⟩ := pre_end hu hp
  exact h u u.size (mem_usesB.1 hu).1 h1 h2
theorem start_dd {name : ByteArray} (r : List UInt8) : startN (usesB name) (36 :: 36 :: r) = 0 := by
  refine Classical.byContradiction fun hne => ?_
  obtain ⟨u, hu, hp, _⟩ := start_mem hne
  obtain ⟨h3, _, h5⟩ := cand_form (mem_usesB.1 hu).1
  obtain ⟨q, hq⟩ := List.isPrefixOf_iff_prefix.1 hp
  apply h5
  have : (bl u ++ q)[1]? = some 36 := by rw [hq]; rfl
  rwa [List.getElem?_append_left (by rw [bl_length]; omega)] at this
/-- One step of the document's way, at a text that begins with a dollar. -/
theorem bind_dd {name : ByteArray} {val : List UInt8} (r : List UInt8) : bindL (usesB name) val (36 :: 36 :: r) = 36 :: 36 :: bindL (usesB name) val r := by
  rw [bindL_miss rfl (by rw [start_dd]; omega)]; rfl
theorem bind_no {name : ByteArray} {val : List UInt8} {r : List UInt8} (h0 : r.head? ≠ some 36) (h : ∀ c m, Cand name c → endN (36 :: r) = some m → (36 :: r).take m ≠ bl c) : bindL (usesB name) val (36 :: r) = 36 :: bindL (usesB name) val r := by
  rw [bindL_miss rfl (by rw [start_miss2 h]; omega)]
  cases r with
  | nil => rfl
  | cons c t =>
    rw [bindL_other t (by simpa using h0)]; rfl
theorem bind_yes {name c : ByteArray} {val s : List UInt8} {m : Nat} (hs : s.head? = some 36) (hc : Cand name c) (he : endN s = some m) (ht : s.take m = bl c) : bindL (usesB name) val s = val ++ bindL (usesB name) val (s.drop m) := by
  obtain ⟨h1, h2⟩ := start_hit2 hc he ht
  have := (cand_form hc).1
  rw [bindL_hit hs (by omega), h1]
end Go.Proofs.YtllpbehhbpefjaaDoor
