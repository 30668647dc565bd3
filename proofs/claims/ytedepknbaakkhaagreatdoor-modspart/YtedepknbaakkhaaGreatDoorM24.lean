/-
  Twice sorted, twice turned, twice without neighbours alike: plain lists.
-/
import Derived.Test.YtedepknbaakkhaaGreatDoorM23
namespace Go.Proofs.YtedepknbaakkhaaGreatDoor
open Go.RowKit Go.Shelf Go.Sort

section
variable {α : Type} [Inhabited α] [DecidableEq α]
theorem compact_inv (d : Array α) : ∀ m, (∀ j, 0 < j → j < (Lib.compactUpTo d m).length → (Lib.compactUpTo d m)[j]? ≠ (Lib.compactUpTo d m)[j - 1]?) ∧ (0 < m → (Lib.compactUpTo d m).getLast? = some d[m - 1]!)
  | 0 => ⟨fun j _ h => by simp [Lib.compactUpTo] at h, fun h => by omega⟩
  | m + 1 => by
    obtain ⟨h1, h2⟩ := compact_inv d m
    rw [Lib.compactUpTo_succ]
    by_cases hk : Lib.keeps d m = true
    · rw [if_pos hk]
      refine ⟨fun j hj hl => ?_, fun _ => by simp⟩
      rw [List.length_append, List.length_singleton] at hl
      by_cases e : j = (Lib.compactUpTo d m).length
      · rw [List.getElem?_append_right (by omega), e, Nat.sub_self, List.getElem?_append_left (by omega)]
        rw [← List.getLast?_eq_getElem?]
        have hm : 0 < m := by
          rcases Nat.eq_zero_or_pos m with h0 | h0
          · subst h0; simp [Lib.compactUpTo] at e; omega
          · exact h0
        rw [h2 hm]
        have : d[m]! ≠ d[m - 1]! := by
          unfold Lib.keeps at hk
          simp only [decide_eq_true_eq] at hk
          rcases hk with h0 | h0
          · omega
          · exact h0
        simpa using this
      · rw [List.getElem?_append_left (by omega), List.getElem?_append_left (by omega)]
        exact h1 j hj (by omega)
    · rw [if_neg hk, List.append_nil]
      refine ⟨h1, fun _ => ?_⟩
      have hk' : ¬ (m = 0 ∨ d[m]! ≠ d[m - 1]!) := by
        unfold Lib.keeps at hk; simpa using hk
      have hm : 0 < m := by omega
      have he : d[m]! = d[m - 1]! := Classical.not_not.1 (fun e => hk' (.inr e))
      rw [h2 hm, Nat.add_sub_cancel, he]
theorem compact_twice (zs : List α) : Lib.compact (Lib.compact zs) = Lib.compact zs := by
  refine Lib.compact_all _ fun j hj => ?_
  unfold Lib.keeps
  rw [decide_eq_true_eq]
  rcases Nat.eq_zero_or_pos j with h0 | h0
  · exact .inl h0
  · refine .inr ?_
    have := (compact_inv zs.toArray zs.length).1 j h0 hj
    intro e
    apply this
    show (Lib.compact zs)[j]? = (Lib.compact zs)[j - 1]?
    rw [List.getElem?_eq_getElem hj, List.getElem?_eq_getElem (by omega)]
    rw [getElem!_pos _ j (by simpa using hj), getElem!_pos _ (j - 1) (by simp; omega)] at e
    simpa using e
end
theorem map_ba_bl (l : List (List UInt8)) : (l.map ba).map bl = l := by
  rw [List.map_map]
  conv => rhs; rw [← List.map_id l]
  exact List.map_congr_left fun x _ => bl_ba x
theorem compactL_twice (l : List ByteArray) : compactL (compactL l) = compactL l := by
  unfold compactL
  rw [map_ba_bl, compact_twice]
theorem map_bl_ba (l : List ByteArray) : (l.map bl).map ba = l := by
  rw [List.map_map]
  conv => rhs; rw [← List.map_id l]
  exact List.map_congr_left fun x _ => ba_bl x
theorem sortedL_perm (l : List ByteArray) : (sortedL l).Perm l := by
  have h := (List.mergeSort_perm (l.map bl) (fun x y => decide (x ≤ y))).map ba
  rw [map_bl_ba] at h
  exact h
theorem sizeL_perm {l l' : List ByteArray} (h : l.Perm l') : sizeL l = sizeL l' := (h.map ByteArray.size).sum_nat
theorem few_sorted (l : List ByteArray) (h : Few l) : Few (sortedL l) := ⟨by rw [sorted_length]; exact h.1, by rw [sizeL_perm (sortedL_perm l)]; exact h.2⟩
theorem few_rev (l : List ByteArray) (h : Few l) : Few l.reverse := ⟨by rw [List.length_reverse]; exact h.1, by rw [sizeL_perm (List.reverse_perm l)]; exact h.2⟩
theorem sizeL_app (a b : List ByteArray) : sizeL (a ++ b) = sizeL a + sizeL b := by simp [sizeL]
theorem sum_sub {l l' : List Nat} (h : l.Sublist l') : l.sum ≤ l'.sum := by
  induction h with
  | slnil => exact Nat.le_refl _
  | cons a _ ih => simp only [List.sum_cons]; omega
  | cons_cons a _ ih => simp only [List.sum_cons]; omega
theorem compact_sub (zs : List (List UInt8)) : (Lib.compact zs).Sublist zs := by
  unfold Lib.compact Lib.compactUpTo
  have h := (List.filter_sublist (l := List.range zs.length) (p := Lib.keeps zs.toArray)).map (zs.toArray[·]!)
  have e := Lib.range_map_get zs.toArray
  simp only [List.size_toArray] at e
  rw [e] at h
  exact h
theorem few_compact (l : List ByteArray) (h : Few l) : Few (compactL l) := by
  have hs : (compactL l).Sublist l := by
    have := (compact_sub (l.map bl)).map ba
    rw [map_bl_ba] at this
    exact this
  exact ⟨Nat.le_trans hs.length_le h.1, Nat.le_trans (sum_sub (hs.map ByteArray.size)) h.2⟩
end Go.Proofs.YtedepknbaakkhaaGreatDoor
