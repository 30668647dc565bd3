/-
  What the document says of suffixes, in plain mathematics: what a name is made of, the search, its rows, chains.
-/
namespace Go.Proofs.Ytfcoihklihkngaa.S
abbrev Tx := List UInt8
abbrev Way := Tx × Tx
abbrev Row := Tx × Int

def ends (x s : Tx) : Bool := decide (s.length ≤ x.length) && (x.drop (x.length - s.length) == s)
def stem (x s : Tx) : Tx := x.take (x.length - s.length)
def made (x : Tx) (w : Way) : Option Tx := if ends x w.2 then some (stem x w.2 ++ w.1) else none
theorem made_len {x m : Tx} {w : Way} (h : made x w = some m) : m.length ≤ x.length + w.1.length := by
  unfold made at h
  split at h
  · cases h
    rw [List.length_append]
    unfold stem
    have := List.length_take_le (x.length - w.2.length) x
    have : (x.take (x.length - w.2.length)).length ≤ x.length := List.length_take_le' _ _
    omega
  · cases h

def nameAt (l : List Row) (k : Nat) : Tx := (l.getD k ([], 0)).1
def hasN (l : List Row) (m : Tx) : Bool := (l.map (·.1)).contains m
abbrev St := List Row × Bool
def one (wt : Tx → Bool) (p : Nat) (s : St) (w : Way) : St :=
  if s.2 then s else
  match made (nameAt s.1 p) w with
  | none => s
  | some m => if hasN s.1 m then s else (s.1 ++ [(m, (p : Int))], wt m || (s.1.length + 1 == 512))
def ways (wt : Tx → Bool) (L : List Way) (s : St) (p : Nat) : St := L.foldl (one wt p) s
def round (wt : Tx → Bool) (L : List Way) (s : St) (a n : Nat) : St := (List.range' a n).foldl (ways wt L) s
def rounds (wt : Tx → Bool) (L : List Way) : Nat → Nat → St → St
  | 0, _, s => s
  | k + 1, a, s => rounds wt L k s.1.length (round wt L s a (s.1.length - a))
def start (name : Tx) : St := ([(name, -1)], false)
def srch (wt : Tx → Bool) (L : List Way) (name : Tx) : List Row := (rounds wt L 6 0 (start name)).1

/-! A stopped search stays. -/
theorem one_stop {wt : Tx → Bool} {p : Nat} {s : St} (h : s.2 = true) (w : Way) : one wt p s w = s := by unfold one; rw [if_pos h]
theorem ways_stop {wt : Tx → Bool} {p : Nat} {s : St} (h : s.2 = true) : ∀ L : List Way, ways wt L s p = s
  | [] => rfl
  | w :: L => by
    unfold ways
    rw [List.foldl_cons, one_stop h]
    exact ways_stop h L
theorem round_stop' {wt : Tx → Bool} {L : List Way} {s : St} (h : s.2 = true) : ∀ l : List Nat, l.foldl (ways wt L) s = s
  | [] => rfl
  | p :: l => by rw [List.foldl_cons, ways_stop h]; exact round_stop' h l
theorem round_stop {wt : Tx → Bool} {L : List Way} {s : St} (h : s.2 = true) (a n : Nat) : round wt L s a n = s := round_stop' h _
theorem rounds_stop {wt : Tx → Bool} {L : List Way} {s : St} (h : s.2 = true) : ∀ k a, rounds wt L k a s = s
  | 0, _ => rfl
  | k + 1, a => by rw [rounds, round_stop h]; exact rounds_stop h k _

/-! The steps, one by one. -/
theorem ways_take (wt : Tx → Bool) (L : List Way) (s : St) (p k : Nat) (w : Way) (h : L[k]? = some w) : ways wt (L.take (k + 1)) s p = one wt p (ways wt (L.take k) s p) w := by
  unfold ways
  have hk := (List.getElem?_eq_some_iff.1 h).1
  rw [List.take_add_one, h, Option.toList_some, List.foldl_append]; rfl
theorem ways_from (wt : Tx → Bool) (L : List Way) (s : St) (p k : Nat) (h : (ways wt (L.take k) s p).2 = true) : ways wt L s p = ways wt (L.take k) s p := by
  have e : ways wt L s p = ways wt (L.drop k) (ways wt (L.take k) s p) p := by
    unfold ways
    rw [← List.foldl_append, List.take_append_drop]
  rw [e, ways_stop h]
theorem round_step (wt : Tx → Bool) (L : List Way) (s : St) (a n : Nat) : round wt L s a (n + 1) = ways wt L (round wt L s a n) (a + n) := by
  unfold round
  rw [List.range'_concat, List.foldl_append]; simp
theorem round_from (wt : Tx → Bool) (L : List Way) (s : St) (a n m : Nat) (hm : n ≤ m) (h : (round wt L s a n).2 = true) : round wt L s a m = round wt L s a n := by
  obtain ⟨d, rfl⟩ : ∃ d, m = n + d := ⟨m - n, by omega⟩
  induction d with
  | zero => rfl
  | succ d ih =>
    have ih := ih (by omega)
    rw [← Nat.add_assoc, round_step, ih, ways_stop h]

/-! What holds of the rows. -/
structure Good (L : List Way) (name : Tx) (l : List Row) : Prop where
  head : l[0]? = some (name, -1)
  back : ∀ (k : Nat) (x : Row), 0 < k → l[k]? = some x → ∃ p : Nat, x.2 = (p : Int) ∧ p < k ∧ ∃ w ∈ L, ∃ y, l[p]? = some y ∧ made y.1 w = some x.1
  nodup : (l.map (·.1)).Nodup
  mono : ∀ (j k : Nat) (x y : Row), 0 < j → j ≤ k → l[j]? = some x → l[k]? = some y → x.2 ≤ y.2
  len : l.length ≤ 512
theorem Good.pos {L : List Way} {name : Tx} {l : List Row} (h : Good L name l) : 0 < l.length := (List.getElem?_eq_some_iff.1 h.head).1
/-- Depth: how many steps lead from a row to the first one. -/
inductive Dep (l : List Row) : Nat → Nat → Prop where
  | zero : Dep l 0 0
  | succ {k p d : Nat} {x : Row} : 0 < k → l[k]? = some x → x.2 = (p : Int) → Dep l p d → Dep l k (d + 1)
theorem Dep.app {l : List Row} {k d : Nat} (h : Dep l k d) (r : Row) : Dep (l ++ [r]) k d := by
  induction h with
  | zero => exact .zero
  | succ hk hx hp _ ih =>
    refine .succ hk ?_ hp ih
    rw [List.getElem?_append_left (List.getElem?_eq_some_iff.1 hx).1]; exact hx
def Most (l : List Row) (n r : Nat) : Prop := ∀ k, k < n → k < l.length → ∃ d, d ≤ r ∧ Dep l k d
theorem nameAt_of {l : List Row} {p : Nat} {y : Row} (h : l[p]? = some y) : nameAt l p = y.1 := by unfold nameAt; rw [List.getD_eq_getElem?_getD, h]; rfl
theorem hasN_iff {l : List Row} {m : Tx} : hasN l m = true ↔ m ∈ l.map (·.1) := by unfold hasN; rw [List.contains_iff_mem]

/-- What is so within a round over rows below e, at row p: every row's origin lies at p at most; rows below e have depth r at most, all r + 1. -/
structure In (L : List Way) (name : Tx) (e r p : Nat) (s : St) : Prop where
  good : Good L name s.1
  top : ∀ x ∈ s.1, x.2 ≤ (p : Int)
  le : e ≤ s.1.length
  low : Most s.1 e r
  all : Most s.1 s.1.length (r + 1)
  go : s.2 = false → s.1.length < 512
theorem one_in {wt : Tx → Bool} {L : List Way} {name : Tx} {e r p : Nat} {s : St} (h : In L name e r p s) (hp : p < e) {w : Way} (hw : w ∈ L) : In L name e r p (one wt p s w) := by
  unfold one
  split
  · exact h
  · rename_i hs
    have hs : s.2 = false := by simpa using hs
    split
    · exact h
    · rename_i m hm
      split
      · exact h
      · rename_i hn
        have hpl : p < s.1.length := Nat.lt_of_lt_of_le hp h.le
        obtain ⟨y, hy⟩ : ∃ y, s.1[p]? = some y := ⟨s.1[p], List.getElem?_eq_getElem hpl⟩
        rw [nameAt_of hy] at hm
        have hlt := h.go hs
        have hget : ∀ (k : Nat) (x : Row), (s.1 ++ [(m, (p : Int))])[k]? = some x → (k < s.1.length ∧ s.1[k]? = some x) ∨ (k = s.1.length ∧ x = (m, (p : Int))) := by
          intro k x hx
          by_cases hk : k < s.1.length
          · rw [List.getElem?_append_left hk] at hx; exact .inl ⟨hk, hx⟩
          · have h1 := (List.getElem?_eq_some_iff.1 hx).1
            rw [List.length_append, List.length_singleton] at h1
            obtain rfl : k = s.1.length := by omega
            rw [List.getElem?_append_right (Nat.le_refl _), Nat.sub_self] at hx
            exact .inr ⟨rfl, by simpa using hx.symm⟩
        have hold : ∀ (k : Nat) (x : Row), s.1[k]? = some x → (s.1 ++ [(m, (p : Int))])[k]? = some x := by
          intro k x hx
          rw [List.getElem?_append_left (List.getElem?_eq_some_iff.1 hx).1]; exact hx
        refine ⟨⟨hold _ _ h.good.head, ?_, ?_, ?_, ?_⟩, ?_, ?_, ?_, ?_, ?_⟩
        · intro k x hk hx
          rcases hget k x hx with ⟨_, hx'⟩ | ⟨rfl, rfl⟩
          · obtain ⟨q, e1, e2, v, hv, z, hz, hz2⟩ := h.good.back k x hk hx'
            exact ⟨q, e1, e2, v, hv, z, hold _ _ hz, hz2⟩
          · exact ⟨p, rfl, hpl, w, hw, y, hold _ _ hy, hm⟩
        · show ((s.1 ++ [(m, (p : Int))]).map (·.1)).Nodup
          rw [List.map_append, List.nodup_append]
          refine ⟨h.good.nodup, by simp, ?_⟩
          intro a ha b hb
          simp at hb
          subst hb
          intro e
          subst e
          exact hn (hasN_iff.2 ha)
        · intro j k x z hj hjk hx hz
          rcases hget k z hz with ⟨hk, hz'⟩ | ⟨rfl, rfl⟩
          · rcases hget j x hx with ⟨_, hx'⟩ | ⟨rfl, rfl⟩
            · exact h.good.mono j k x z hj hjk hx' hz'
            · omega
          · rcases hget j x hx with ⟨_, hx'⟩ | ⟨rfl, rfl⟩
            · exact h.top x (List.mem_of_getElem? hx')
            · exact Int.le_refl _
        · show (s.1 ++ [(m, (p : Int))]).length ≤ 512
          rw [List.length_append, List.length_singleton]; omega
        · intro x hx
          rcases List.mem_append.1 hx with hx | hx
          · exact h.top x hx
          · simp at hx; subst hx; exact Int.le_refl _
        · show e ≤ (s.1 ++ [(m, (p : Int))]).length
          rw [List.length_append]; have := h.le; omega
        · intro k hk hk2
          have hkl : k < s.1.length := Nat.lt_of_lt_of_le hk h.le
          obtain ⟨d, hd, hD⟩ := h.low k hk hkl
          exact ⟨d, hd, hD.app _⟩
        · intro k hk hk2
          by_cases hkl : k < s.1.length
          · obtain ⟨d, hd, hD⟩ := h.all k hkl hkl
            exact ⟨d, hd, hD.app _⟩
          · have hk3 : k < (s.1 ++ [(m, (p : Int))]).length := hk2
            rw [List.length_append, List.length_singleton] at hk3
            obtain rfl : k = s.1.length := by omega
            obtain ⟨d, hd, hD⟩ := h.low p hp hpl
            refine ⟨d + 1, by omega, .succ (x := (m, (p : Int))) (p := p) (Nat.lt_of_le_of_lt (Nat.zero_le _) hpl) ?_ rfl (hD.app _)⟩
            rw [List.getElem?_append_right (Nat.le_refl _), Nat.sub_self]; rfl
        · intro hf
          show (s.1 ++ [(m, (p : Int))]).length < 512
          rw [List.length_append, List.length_singleton]
          have : (s.1.length + 1 == 512) = false := by
            have h2 : (wt m || (s.1.length + 1 == 512)) = false := hf
            rw [Bool.or_eq_false_iff] at h2; exact h2.2
          have h3 : s.1.length + 1 ≠ 512 := by simpa using this
          omega
theorem ways_in {wt : Tx → Bool} {L : List Way} {name : Tx} {e r p : Nat} (hp : p < e) : ∀ (K : List Way) {s : St}, In L name e r p s → (∀ w ∈ K, w ∈ L) → In L name e r p (ways wt K s p)
  | [], _, h, _ => h
  | w :: K, s, h, hK => by
    unfold ways
    rw [List.foldl_cons]
    exact ways_in hp K (one_in h hp (hK w (by simp))) fun v hv => hK v (by simp [hv])
theorem In.up {L : List Way} {name : Tx} {e r p q : Nat} {s : St} (h : In L name e r p s) (hq : p ≤ q) : In L name e r q s :=
  ⟨h.good, fun x hx => Int.le_trans (h.top x hx) (by omega), h.le, h.low, h.all, h.go⟩
theorem round_in {wt : Tx → Bool} {L : List Way} {name : Tx} {e r a : Nat} {s : St} (h : In L name e r a s) : ∀ n, a + n ≤ e → In L name e r (a + n) (round wt L s a n)
  | 0, _ => h
  | n + 1, hn => by
    rw [round_step]
    exact (ways_in (by omega) L (round_in h n (by omega)) fun _ hw => hw).up (by omega)
/-- What is so ahead of round r: rows to come begin at a. -/
structure At (L : List Way) (name : Tx) (r a : Nat) (s : St) : Prop where
  good : Good L name s.1
  top : ∀ x ∈ s.1, x.2 ≤ (a : Int)
  a_le : a ≤ s.1.length
  all : Most s.1 s.1.length r
  go : s.2 = false → s.1.length < 512
theorem At.in_ {L : List Way} {name : Tx} {r a : Nat} {s : St} (h : At L name r a s) : In L name s.1.length r a s :=
  ⟨h.good, h.top, Nat.le_refl _, h.all, fun k h1 h2 => by obtain ⟨d, hd, hD⟩ := h.all k h1 h2; exact ⟨d, by omega, hD⟩, h.go⟩
theorem round_at {wt : Tx → Bool} {L : List Way} {name : Tx} {r a : Nat} {s : St} (h : At L name r a s) : At L name (r + 1) s.1.length (round wt L s a (s.1.length - a)) := by
  have h1 := round_in (wt := wt) h.in_ (s.1.length - a) (by have := h.a_le; omega)
  have e : a + (s.1.length - a) = s.1.length := by have := h.a_le; omega
  rw [e] at h1
  exact ⟨h1.good, h1.top, h1.le, h1.all, h1.go⟩
theorem rounds_at {wt : Tx → Bool} {L : List Way} {name : Tx} : ∀ (k : Nat) {r a : Nat} {s : St}, At L name r a s → ∃ b, At L name (r + k) b (rounds wt L k a s)
  | 0, r, a, s, h => ⟨a, h⟩
  | k + 1, r, a, s, h => by
    obtain ⟨b, hb⟩ := rounds_at (wt := wt) k (round_at (wt := wt) h)
    exact ⟨b, by rw [show r + (k + 1) = r + 1 + k by omega]; exact hb⟩
theorem start_at (L : List Way) (name : Tx) : At L name 0 0 (start name) := by
  refine ⟨⟨rfl, ?_, by simp [start], ?_, by simp [start]⟩, ?_, by simp [start], ?_, fun _ => by simp [start]⟩
  · intro k x hk hx
    have := (List.getElem?_eq_some_iff.1 hx).1
    simp [start] at this; omega
  · intro j k x y hj hjk hx hy
    have := (List.getElem?_eq_some_iff.1 hx).1
    simp [start] at this; omega
  · intro x hx
    simp [start] at hx; subst hx; exact (by decide : (-1 : Int) ≤ ((0 : Nat) : Int))
  · intro k hk _
    simp [start] at hk; subst hk
    exact ⟨0, Nat.le_refl _, .zero⟩
theorem srch_good (wt : Tx → Bool) (L : List Way) (name : Tx) : Good L name (srch wt L name) ∧ Most (srch wt L name) (srch wt L name).length 6 := by
  obtain ⟨b, h⟩ := rounds_at (wt := wt) 6 (start_at L name)
  exact ⟨h.good, by have := h.all; rwa [Nat.zero_add] at this⟩

/-! A search for something is the whole one, cut at the first that is wanted. -/
def noW : Tx → Bool := fun _ => false
def Cut (wt : Tx → Bool) (s t : St) : Prop :=
  (s = t ∧ ∀ (j : Nat) (x : Row), 0 < j → s.1[j]? = some x → wt x.1 = false) ∨
  (s.2 = true ∧ ∃ k, 0 < k ∧ k + 1 = s.1.length ∧ s.1 <+: t.1 ∧ (∃ x, s.1[k]? = some x ∧ wt x.1 = true) ∧ ∀ (j : Nat) (x : Row), 0 < j → j < k → s.1[j]? = some x → wt x.1 = false)
theorem one_pre (wt : Tx → Bool) (p : Nat) (s : St) (w : Way) : s.1 <+: (one wt p s w).1 := by
  unfold one
  split
  · exact List.prefix_refl _
  · split
    · exact List.prefix_refl _
    · split
      · exact List.prefix_refl _
      · exact List.prefix_append _ _
theorem one_cut {wt : Tx → Bool} {p : Nat} {s t : St} (h : Cut wt s t) (hpos : 0 < s.1.length) (w : Way) : Cut wt (one wt p s w) (one noW p t w) := by
  rcases h with ⟨rfl, hno⟩ | ⟨hs, k, hk, hkl, hpre, hx, hlow⟩
  · unfold one
    split
    · exact .inl ⟨rfl, hno⟩
    · split
      · exact .inl ⟨rfl, hno⟩
      · rename_i m hm
        split
        · exact .inl ⟨rfl, hno⟩
        · have hnew : ∀ (j : Nat) (x : Row), (s.1 ++ [(m, (p : Int))])[j]? = some x → s.1[j]? = some x ∨ (j = s.1.length ∧ x = (m, (p : Int))) := by
            intro j x hx
            by_cases hk : j < s.1.length
            · rw [List.getElem?_append_left hk] at hx; exact .inl hx
            · have h1 := (List.getElem?_eq_some_iff.1 hx).1
              rw [List.length_append, List.length_singleton] at h1
              obtain rfl : j = s.1.length := by omega
              rw [List.getElem?_append_right (Nat.le_refl _), Nat.sub_self] at hx
              exact .inr ⟨rfl, by simpa using hx.symm⟩
          cases hw : wt m with
          | false =>
            refine .inl ⟨by simp [noW], ?_⟩
            intro j x hj hx
            rcases hnew j x hx with h | ⟨_, rfl⟩
            · exact hno j x hj h
            · exact hw
          | true =>
            refine .inr ⟨by simp, s.1.length, hpos, by simp, List.prefix_refl _, ⟨(m, (p : Int)), by simp, hw⟩, ?_⟩
            intro j x hj hjk hx
            rcases hnew j x hx with h | ⟨rfl, _⟩
            · exact hno j x hj h
            · omega
  · rw [one_stop hs]
    exact .inr ⟨hs, k, hk, hkl, hpre.trans (one_pre _ _ _ _), hx, hlow⟩
theorem one_len (wt : Tx → Bool) (p : Nat) (s : St) (w : Way) : s.1.length ≤ (one wt p s w).1.length := (one_pre wt p s w).length_le
theorem ways_cut {wt : Tx → Bool} {p : Nat} : ∀ (L : List Way) {s t : St}, Cut wt s t → 0 < s.1.length → Cut wt (ways wt L s p) (ways noW L t p) ∧ 0 < (ways wt L s p).1.length
  | [], _, _, h, hp => ⟨h, hp⟩
  | w :: L, s, t, h, hp => by
    unfold ways
    rw [List.foldl_cons, List.foldl_cons]
    exact ways_cut L (one_cut h hp w) (Nat.lt_of_lt_of_le hp (one_len _ _ _ _))
theorem fold_cut {wt : Tx → Bool} {L : List Way} : ∀ (r : List Nat) {s t : St}, Cut wt s t → 0 < s.1.length → Cut wt (r.foldl (ways wt L) s) (r.foldl (ways noW L) t) ∧ 0 < (r.foldl (ways wt L) s).1.length
  | [], _, _, h, hp => ⟨h, hp⟩
  | p :: r, s, t, h, hp => by
    rw [List.foldl_cons, List.foldl_cons]
    have h1 := ways_cut (p := p) L h hp
    exact fold_cut r h1.1 h1.2
theorem fold_pre {L : List Way} {wt : Tx → Bool} : ∀ (r : List Nat) (t : St), t.1 <+: (r.foldl (ways wt L) t).1
  | [], _ => List.prefix_refl _
  | p :: r, t => by
    rw [List.foldl_cons]
    refine List.IsPrefix.trans ?_ (fold_pre r _)
    have : ∀ (K : List Way) (u : St), u.1 <+: (ways wt K u p).1 := by
      intro K
      induction K with
      | nil => intro u; exact List.prefix_refl _
      | cons w K ih =>
        intro u
        unfold ways
        rw [List.foldl_cons]
        exact (one_pre _ _ _ _).trans (ih _)
    exact this L t
theorem rounds_pre {L : List Way} {wt : Tx → Bool} : ∀ (k a : Nat) (t : St), t.1 <+: (rounds wt L k a t).1
  | 0, _, _ => List.prefix_refl _
  | k + 1, _, t => (fold_pre _ t).trans (rounds_pre k _ _)
theorem rounds_cut {wt : Tx → Bool} {L : List Way} : ∀ (k a : Nat) {s t : St}, Cut wt s t → 0 < s.1.length → Cut wt (rounds wt L k a s) (rounds noW L k a t)
  | 0, _, _, _, h, _ => h
  | k + 1, a, s, t, h, hp => by
    rcases h with ⟨rfl, hno⟩ | ⟨hs, j, hj, hjl, hpre, hx, hlow⟩
    · rw [rounds, rounds]
      have h1 := fold_cut (wt := wt) (L := L) (List.range' a (s.1.length - a)) (s := s) (t := s) (.inl ⟨rfl, hno⟩) hp
      exact rounds_cut k _ h1.1 h1.2
    · rw [rounds_stop hs]
      exact .inr ⟨hs, j, hj, hjl, hpre.trans (rounds_pre _ _ _), hx, hlow⟩
theorem srch_cut (wt : Tx → Bool) (L : List Way) (name : Tx) :
    (srch wt L name = srch noW L name ∧ ∀ (j : Nat) (x : Row), 0 < j → (srch noW L name)[j]? = some x → wt x.1 = false) ∨
    (∃ k, 0 < k ∧ k + 1 = (srch wt L name).length ∧ srch wt L name <+: srch noW L name ∧ (∃ x, (srch wt L name)[k]? = some x ∧ wt x.1 = true) ∧ ∀ (j : Nat) (x : Row), 0 < j → j < k → (srch wt L name)[j]? = some x → wt x.1 = false) := by
  have h : Cut wt (start name) (start name) := .inl ⟨rfl, fun j x hj hx => by have := (List.getElem?_eq_some_iff.1 hx).1; simp [start] at this; omega⟩
  rcases rounds_cut (L := L) 6 0 h (by simp [start]) with ⟨e, hno⟩ | ⟨_, hr⟩
  · left
    have e2 : srch wt L name = srch noW L name := congrArg Prod.fst e
    refine ⟨e2, fun j x hj hx => ?_⟩
    rw [← e2] at hx
    exact hno j x hj hx
  · exact .inr hr
end Go.Proofs.Ytfcoihklihkngaa.S
