/-
  How long the names of a search are; what a step of it does, told for the walk.
-/
import Derived.Test.YtfcoihklihkngaaSM2
namespace Go.Proofs.Ytfcoihklihkngaa.S
theorem Good.size {L : List Way} {name : Tx} {l : List Row} (h : Good L name l) (hn : name.length ≤ 200) (hL : ∀ w ∈ L, w.1.length ≤ 50) : ∀ (k : Nat) (x : Row), l[k]? = some x → x.1.length ≤ 200 + 50 * k := by
  intro k
  induction k using Nat.strongRecOn with
  | ind k ih =>
    intro x hx
    by_cases h0 : k = 0
    · subst h0
      rw [h.head] at hx; cases hx
      show name.length ≤ _
      omega
    · obtain ⟨p, _, hp, w, hw, y, hy, hm⟩ := h.back k x (by omega) hx
      have h1 := made_len hm
      have h2 := hL w hw
      have h3 := ih p hp y hy
      omega
theorem Good.size2 {L : List Way} {name : Tx} {l : List Row} (h : Good L name l) (hn : name.length ≤ 200) (hL : ∀ w ∈ L, w.1.length ≤ 50) {k : Nat} {x : Row} (hx : l[k]? = some x) : x.1.length ≤ 26000 := by
  have h1 := h.size hn hL k x hx
  have h2 := (List.getElem?_eq_some_iff.1 hx).1
  have h3 := h.len
  omega
theorem one_none {wt : Tx → Bool} {p : Nat} {l : List Row} {w : Way} {y : Row} (hy : l[p]? = some y) (h : ends y.1 w.2 = false) : one wt p (l, false) w = (l, false) := by
  unfold one made
  rw [if_neg (by simp), nameAt_of hy, if_neg (by rw [h]; simp)]
theorem one_had {wt : Tx → Bool} {p : Nat} {l : List Row} {w : Way} {y : Row} (hy : l[p]? = some y) (h : ends y.1 w.2 = true) (hh : hasN l (stem y.1 w.2 ++ w.1) = true) : one wt p (l, false) w = (l, false) := by
  unfold one made
  rw [if_neg (by simp), nameAt_of hy, if_pos h]
  exact if_pos hh
theorem one_new {wt : Tx → Bool} {p : Nat} {l : List Row} {w : Way} {y : Row} (hy : l[p]? = some y) (h : ends y.1 w.2 = true) (hh : hasN l (stem y.1 w.2 ++ w.1) = false) : one wt p (l, false) w = (l ++ [(stem y.1 w.2 ++ w.1, (p : Int))], wt (stem y.1 w.2 ++ w.1) || (l.length + 1 == 512)) := by
  unfold one made
  rw [if_neg (by simp), nameAt_of hy, if_pos h]
  exact if_neg (by rw [hh]; simp)
theorem hasN_snoc (l : List Row) (m : Tx) (i : Int) (t : Tx) : hasN (l ++ [(m, i)]) t = (hasN l t || t == m) := by
  rw [Bool.eq_iff_iff, Bool.or_eq_true, hasN_iff, hasN_iff, List.map_append, List.mem_append, beq_iff_eq]
  simp
theorem hasN_one (name t : Tx) : hasN [(name, -1)] t = (false || t == name) := by
  rw [Bool.eq_iff_iff, Bool.or_eq_true, hasN_iff, beq_iff_eq]
  simp
/-- All that is said of a search at a way: the state so far, and what is to come. -/
structure Way9 (wt : Tx → Bool) (L : List Way) (name : Tx) (F : List Row) (r a e p j : Nat) (l : List Row) : Prop where
  inn : In L name e r p (l, false)
  fin : (rounds wt L (5 - r) e (((ways wt (L.drop j) (l, false) p)) |> fun s => (List.range' (p + 1) (e - (p + 1))).foldl (ways wt L) s)).1 = F
theorem ways_drop {wt : Tx → Bool} {L : List Way} {s : St} {p j : Nat} {w : Way} (h : L[j]? = some w) : ways wt (L.drop j) s p = ways wt (L.drop (j + 1)) (one wt p s w) p := by
  have hj := (List.getElem?_eq_some_iff.1 h).1
  have e : L[j] = w := (List.getElem?_eq_some_iff.1 h).2
  unfold ways
  rw [List.drop_eq_getElem_cons hj, List.foldl_cons, e]
theorem Way9.step {wt : Tx → Bool} {L : List Way} {name : Tx} {F : List Row} {r a e p j : Nat} {l l' : List Row} {w : Way} (h : Way9 wt L name F r a e p j l) (hp : p < e) (hw : L[j]? = some w) (ho : one wt p (l, false) w = (l', false)) : Way9 wt L name F r a e p (j + 1) l' := by
  refine ⟨?_, ?_⟩
  · have := one_in (wt := wt) h.inn hp (List.mem_of_getElem? hw)
    rw [ho] at this; exact this
  · have := h.fin
    rw [ways_drop hw, ho] at this; exact this
theorem Way9.stop {wt : Tx → Bool} {L : List Way} {name : Tx} {F : List Row} {r a e p j : Nat} {l l' : List Row} {w : Way} (h : Way9 wt L name F r a e p j l) (hw : L[j]? = some w) (ho : one wt p (l, false) w = (l', true)) : F = l' := by
  have := h.fin
  rw [ways_drop hw, ho] at this
  dsimp only at this
  rw [ways_stop rfl, round_stop' rfl, rounds_stop rfl] at this
  exact this.symm
/-- At a row. -/
structure Row9 (wt : Tx → Bool) (L : List Way) (name : Tx) (F : List Row) (r e p : Nat) (l : List Row) : Prop where
  inn : In L name e r p (l, false)
  fin : (rounds wt L (5 - r) e ((List.range' p (e - p)).foldl (ways wt L) (l, false))).1 = F
theorem Row9.begin {wt : Tx → Bool} {L : List Way} {name : Tx} {F : List Row} {r e p : Nat} {l : List Row} (h : Row9 wt L name F r e p l) (hp : p < e) : Way9 wt L name F r p e p 0 l := by
  refine ⟨h.inn, ?_⟩
  have := h.fin
  rw [show e - p = (e - (p + 1)) + 1 by omega, List.range'_succ, List.foldl_cons] at this
  exact this
theorem Way9.done {wt : Tx → Bool} {L : List Way} {name : Tx} {F : List Row} {r a e p : Nat} {l : List Row} (h : Way9 wt L name F r a e p L.length l) : Row9 wt L name F r e (p + 1) l := by
  refine ⟨h.inn.up (by omega), ?_⟩
  have := h.fin
  rw [List.drop_length] at this
  exact this
/-- At a round. -/
structure Rnd9 (wt : Tx → Bool) (L : List Way) (name : Tx) (F : List Row) (r a : Nat) (l : List Row) : Prop where
  at_ : At L name r a (l, false)
  fin : (rounds wt L (6 - r) a (l, false)).1 = F
theorem Rnd9.begin {wt : Tx → Bool} {L : List Way} {name : Tx} {F : List Row} {r a : Nat} {l : List Row} (h : Rnd9 wt L name F r a l) (hr : r < 6) : Row9 wt L name F r l.length a l := by
  refine ⟨h.at_.in_, ?_⟩
  have := h.fin
  rw [show 6 - r = (5 - r) + 1 by omega, rounds] at this
  exact this
theorem Row9.done {wt : Tx → Bool} {L : List Way} {name : Tx} {F : List Row} {r e : Nat} {l : List Row} (h : Row9 wt L name F r e e l) (hr : r < 6) : Rnd9 wt L name F (r + 1) e l := by
  refine ⟨⟨h.inn.good, h.inn.top, h.inn.le, h.inn.all, h.inn.go⟩, ?_⟩
  have := h.fin
  rw [Nat.sub_self] at this
  rw [show 6 - (r + 1) = 5 - r by omega]
  exact this
theorem Rnd9.done {wt : Tx → Bool} {L : List Way} {name : Tx} {F : List Row} {a : Nat} {l : List Row} (h : Rnd9 wt L name F 6 a l) : F = l := h.fin.symm
theorem Rnd9.start (wt : Tx → Bool) (L : List Way) (name : Tx) : Rnd9 wt L name (srch wt L name) 0 0 [(name, -1)] := ⟨start_at L name, rfl⟩
end Go.Proofs.Ytfcoihklihkngaa.S
