/-
  The document's own sorted: texts, rising.
-/
import Derived.Test.YtoibdokedhbjpaaGreatP7
namespace Go.Proofs.YtoibdokedhbjpaaGreat
open Go.RowKit Go.Shelf Go.Maps

def leP (a c : ByteArray) : Prop := bl a ≤ bl c
def gtB (p q : ByteArray) : Bool := !Op.bytesLess p.toList q.toList && !(p.toList == q.toList)
theorem gtB_iff (p q : ByteArray) : gtB p q = true ↔ bl q < bl p := by
  unfold gtB
  rw [bytesLess_eq, Lib.toList_data, Lib.toList_data]
  have e1 : p.data.toList = bl p := rfl
  have e2 : q.data.toList = bl q := rfl
  rw [e1, e2]
  simp only [Bool.and_eq_true, Bool.not_eq_true', decide_eq_false_iff_not, beq_eq_false_iff_ne, ne_eq]
  constructor
  · rintro ⟨h1, h2⟩
    by_cases h : bl q < bl p
    · exact h
    · exact absurd (List.le_antisymm (List.not_lt.1 h) (List.not_lt.1 h1)) h2
  · intro h
    exact ⟨fun h2 => List.lt_irrefl _ (List.lt_trans h h2), fun e => by rw [e] at h; exact List.lt_irrefl _ h⟩
theorem gtB_not {p q : ByteArray} (h : gtB p q = false) : leP p q := by
  unfold leP
  by_cases h3 : bl q < bl p
  · rw [(gtB_iff p q).2 h3] at h; cases h
  · exact List.not_lt.1 h3
/-- A text put in at its place. -/
def insK (o : List ByteArray) (k : Nat) (x : ByteArray) : List ByteArray := o.take k ++ x :: o.drop k
theorem insK_perm (o : List ByteArray) (k : Nat) (x : ByteArray) : (insK o k x).Perm (o ++ [x]) := by
  unfold insK
  refine List.perm_middle.trans ?_
  rw [List.take_append_drop]
  exact (List.perm_append_singleton x o).symm
theorem insK_sorted {o : List ByteArray} {k : Nat} {x : ByteArray} (h : o.Pairwise leP) (hk : k ≤ o.length) (h1 : ∀ j (_ : j < o.length), k ≤ j → gtB o[j] x = true) (h2 : ∀ (h0 : 0 < k), gtB (o[k - 1]'(by omega)) x = false) : (insK o k x).Pairwise leP := by
  unfold insK
  have hs := h
  rw [← List.take_append_drop k o] at hs
  obtain ⟨s1, s2, s3⟩ := List.pairwise_append.1 hs
  have hx : ∀ b ∈ o.drop k, leP x b := fun b hb => by
    obtain ⟨j, hj, rfl⟩ := List.mem_iff_getElem.1 hb
    have hj' : k + j < o.length := by simp at hj; omega
    have := (gtB_iff _ _).1 (h1 (k + j) hj' (by omega))
    rw [List.getElem_drop]
    exact List.le_of_lt this
  have ht : ∀ a ∈ o.take k, leP a x := fun a ha => by
    obtain ⟨j, hj, rfl⟩ := List.mem_iff_getElem.1 ha
    have hj' : j < k := by simp at hj; omega
    have h0 : 0 < k := by omega
    have hle := gtB_not (h2 h0)
    rw [List.getElem_take]
    by_cases hjk : j = k - 1
    · subst hjk; exact hle
    · have := List.pairwise_iff_getElem.1 h j (k - 1) (by omega) (by omega) (by omega)
      exact List.le_trans this hle
  refine List.pairwise_append.2 ⟨s1, List.pairwise_cons.2 ⟨hx, s2⟩, fun a ha b hb => ?_⟩
  rcases List.mem_cons.1 hb with rfl | hb
  · exact ht a ha
  · exact s3 a ha b hb
theorem sorted_is {o l : List ByteArray} (h : o.Pairwise leP) (hp : o.Perm l) : o = St.sorted l := by
  have tr : ∀ a b c : List UInt8, (fun x y => decide (x ≤ y)) a b = true → (fun x y => decide (x ≤ y)) b c = true → (fun x y => decide (x ≤ y)) a c = true := fun a b c h1 h2 => by simp only [decide_eq_true_eq] at *; exact List.le_trans h1 h2
  have to : ∀ a b : List UInt8, ((fun x y => decide (x ≤ y)) a b || (fun x y => decide (x ≤ y)) b a) = true := fun a b => by simp only [Bool.or_eq_true, decide_eq_true_eq]; exact List.le_total a b
  have e : o.map bl = (l.map bl).mergeSort fun x y => decide (x ≤ y) := by
    refine List.Perm.eq_of_pairwise (le := fun a b => decide (a ≤ b) = true) (fun a b _ _ h1 h2 => ?_) ?_ (List.pairwise_mergeSort tr to _) ((hp.map bl).trans (List.mergeSort_perm _ _).symm)
    · simp only [decide_eq_true_eq] at h1 h2
      exact List.le_antisymm h1 h2
    · exact List.pairwise_map.2 (h.imp fun {a c} h => by
        have h' : bl a ≤ bl c := h
        exact decide_eq_true h')
  unfold St.sorted
  rw [← e, List.map_map, show (ba ∘ bl) = id from funext ba_bl, List.map_id]
end Go.Proofs.YtoibdokedhbjpaaGreat
