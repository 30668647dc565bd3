/-
  Sort, Reverse, Compact of words that are one's own; ofAll; apply of O, Or, u, r.
-/
import Derived.Test.YtedepknbaakkhaaGreatDoorM21
import Derived.Sort.OwnSorted
namespace Go.Proofs.YtedepknbaakkhaaGreatDoor
open Go.RowKit Go.Shelf Go.Sort

def sortedL (l : List ByteArray) : List ByteArray := ((l.map bl).mergeSort fun x y => decide (x ≤ y)).map ba
def compactL (l : List ByteArray) : List ByteArray := (Lib.compact (l.map bl)).map ba
theorem strs_enc (xs : List ByteArray) : xs.map Value.string = (xs.map bl).map encStr := by
  rw [List.map_map]
  refine List.map_congr_left fun x _ => ?_
  show Value.string x = .string (ba (bl x))
  rw [ba_bl]
theorem enc_strs (xs : List (List UInt8)) : (xs.map ba).map Value.string = xs.map encStr := by
  rw [List.map_map]; rfl
theorem sorted_length (xs : List ByteArray) : (sortedL xs).length = xs.length := by simp [sortedL, List.length_mergeSort]
theorem sort_own (v : Value) (xs : List ByteArray) (base : Nat) (w : World) (h : w.ownsRow base 9 1 v xs.length (xs.map Value.string)) (hn : xs.length ≤ 1000000) :
    Calls Tryz.prog 71 #[v] w fun e w' => e = .returned (.tuple #[]) ∧ w'.ownsRow base 9 1 v xs.length ((sortedL xs).map Value.string) ∧ w.grownBy w' v.ownBlock := by
  by_cases hne : xs = []
  · subst hne
    obtain ⟨a, cap, rfl⟩ := owns_slice h
    refine (Tryz.slices_Sort_string_none a cap w).mono ?_
    rintro e w' ⟨rfl, rfl⟩
    exact ⟨rfl, by simpa [sortedL] using h, ⟨rfl, rfl, rfl, Nat.le_refl _, fun _ _ _ => rfl⟩⟩
  · rcases h.2 with ⟨_, h0⟩ | ⟨g, cap, cur, rfl, hbase, hb, h1, h2, h3, h4⟩
    · exact absurd (List.length_eq_zero_iff.1 h0) hne
    have hl : (xs.map bl).length = xs.length := by simp
    have hH : Go.Sort.Holds encStr w g 0 (xs.map bl).toArray := holds_of_block hb (by rw [hl, ← strs_enc]; simpa using h4)
    have hc := Tryz.slices_Sort_string g 0 cap (xs.map bl) w hH (Array.getElem?_eq_some_iff.1 hb).1 (by rw [hl]; omega)
    rw [hl] at hc
    refine hc.mono ?_
    rintro e w' ⟨rfl, n, os, rfl⟩
    refine ⟨rfl, ?_, grownBy_sorted _⟩
    have := ownsRow_sorted (w := w) (n := n) (os := os) (ss := xs.map bl) (ts := (xs.map bl).mergeSort fun x y => decide (x ≤ y)) (by simp [List.length_mergeSort]) hbase hb (by rw [hl]; exact h1) h2 h3
    rw [hl, ← enc_strs] at this
    exact this
theorem rev_own (v : Value) (xs : List ByteArray) (base : Nat) (w : World) (h : w.ownsRow base 9 1 v xs.length (xs.map Value.string)) (hn : xs.length ≤ 1000000) :
    Calls Tryz.prog 72 #[v] w fun e w' => e = .returned (.tuple #[]) ∧ w'.ownsRow base 9 1 v xs.length (xs.reverse.map Value.string) ∧ w.grownBy w' v.ownBlock := by
  by_cases hne : xs = []
  · subst hne
    obtain ⟨a, cap, rfl⟩ := owns_slice h
    refine (Tryz.slices_Reverse_string_empty a cap w).mono ?_
    rintro e w' ⟨rfl, rfl⟩
    exact ⟨rfl, by simpa using h, ⟨rfl, rfl, rfl, Nat.le_refl _, fun _ _ _ => rfl⟩⟩
  · rcases h.2 with ⟨_, h0⟩ | ⟨g, cap, cur, rfl, hbase, hb, h1, h2, h3, h4⟩
    · exact absurd (List.length_eq_zero_iff.1 h0) hne
    have hl : (xs.map bl).length = xs.length := by simp
    have hH : Go.Sort.Holds encStr w g 0 (xs.map bl).toArray := holds_of_block hb (by rw [hl, ← strs_enc]; simpa using h4)
    have hc := Tryz.slices_Reverse_string g 0 cap (xs.map bl) w hH (by rw [hl]; omega)
    rw [hl] at hc
    refine hc.mono ?_
    rintro e w' ⟨rfl, n, rfl⟩
    have e0 : putRow encStr (Sort.ahead w n) g 0 (xs.map bl).reverse.toArray = grow (putRow encStr (Sort.ahead w n) g 0 (xs.map bl).reverse.toArray) #[] := (grow_empty _).symm
    rw [e0]
    refine ⟨rfl, ?_, grownBy_sorted _⟩
    have := ownsRow_sorted (w := w) (n := n) (os := #[]) (ss := xs.map bl) (ts := (xs.map bl).reverse) (by simp) hbase hb (by rw [hl]; exact h1) h2 h3
    rw [hl] at this
    rw [strs_enc, List.map_reverse]
    exact this
theorem compact_len (zs : List (List UInt8)) : (Lib.compact zs).length ≤ zs.length := by
  unfold Lib.compact Lib.compactUpTo
  rw [List.length_map]
  refine Nat.le_trans (List.length_filter_le _ _) ?_
  simp
theorem compact_own (v : Value) (xs : List ByteArray) (base : Nat) (w : World) (h : w.ownsRow base 9 1 v xs.length (xs.map Value.string)) (hn : xs.length ≤ 1000000) :
    Calls Tryz.prog 73 #[v] w fun e w' => ∃ v', e = .returned v' ∧ w'.ownsRow base 9 1 v' (compactL xs).length ((compactL xs).map Value.string) ∧ w.grownBy w' v.ownBlock := by
  by_cases hne : xs = []
  · subst hne
    obtain ⟨a, cap, rfl⟩ := owns_slice h
    refine (Tryz.slices_Compact_string_empty a cap w).mono ?_
    rintro e w' ⟨rfl, rfl⟩
    exact ⟨_, rfl, by simpa [compactL, Lib.compact, Lib.compactUpTo] using h, ⟨rfl, rfl, rfl, Nat.le_refl _, fun _ _ _ => rfl⟩⟩
  · rcases h.2 with ⟨_, h0⟩ | ⟨g, cap, cur, rfl, hbase, hb, h1, h2, h3, h4⟩
    · exact absurd (List.length_eq_zero_iff.1 h0) hne
    have hl : (xs.map bl).length = xs.length := by simp
    have hcl := compact_len (xs.map bl)
    have hH : Go.Sort.Holds encStr w g 0 (xs.map bl).toArray := holds_of_block hb (by rw [hl, ← strs_enc]; simpa using h4)
    have hc := Tryz.slices_Compact_string g 0 cap (xs.map bl) w hH (by rw [hl]; omega) (by rw [hl]; exact h1)
    rw [hl] at hc hcl
    refine hc.mono ?_
    rintro e w' ⟨rfl, n, rfl⟩
    have e0 : putRow encStr (Sort.ahead w n) g 0 (Lib.compact (xs.map bl) ++ List.replicate (xs.length - (Lib.compact (xs.map bl)).length) []).toArray = grow (putRow encStr (Sort.ahead w n) g 0 (Lib.compact (xs.map bl) ++ List.replicate (xs.length - (Lib.compact (xs.map bl)).length) []).toArray) #[] := (grow_empty _).symm
    rw [e0]
    refine ⟨_, rfl, ?_, grownBy_sorted _⟩
    have h5 := ownsRow_sorted (w := w) (n := n) (os := #[]) (ss := xs.map bl) (ts := Lib.compact (xs.map bl) ++ List.replicate (xs.length - (Lib.compact (xs.map bl)).length) []) (by simp; omega) hbase hb (by rw [hl]; exact h1) h2 h3
    obtain ⟨hx, ⟨hv, _⟩ | ⟨g', cap', cur', hv, hg', hc', hn', hm', hs', ht'⟩⟩ := h5
    · cases hv
    · simp only [Value.slice.injEq, Option.some.injEq, Addr.mk.injEq] at hv
      obtain ⟨⟨rfl, _, _⟩, _, rfl⟩ := hv
      have el : (compactL xs).length = (Lib.compact (xs.map bl)).length := by simp [compactL]
      refine ⟨by simp, .inr ⟨g, cap, cur', by rw [el], hbase, hc', by rw [el]; omega, h2, hs', ?_⟩⟩
      rw [el, Nat.mul_one]
      have h6 := congrArg (List.take (Lib.compact (xs.map bl)).length) ht'
      rw [List.take_take, hl, Nat.mul_one, Nat.min_eq_left hcl, List.map_append, List.take_left' (by simp)] at h6
      rw [h6]
      unfold compactL
      rw [enc_strs]
end Go.Proofs.YtedepknbaakkhaaGreatDoor
