/-
  Chains, in plain mathematics: what they are, how long they are, what stands in them; what may be a table.
-/
import Derived.Test.YtfcoihklihkngaaSM
namespace Go.Proofs.Ytfcoihklihkngaa.S

def chain (l : List Row) : Nat → Nat → List Tx
  | 0, _ => []
  | f + 1, k => match l[k]? with
    | none => []
    | some x => x.1 :: (if x.2 < 0 then [] else chain l f x.2.toNat)
theorem chain_fuel {L : List Way} {name : Tx} {l : List Row} (h : Good L name l) : ∀ (f k : Nat), k < f → chain l f k = chain l (k + 1) k := by
  intro f k
  induction k using Nat.strongRecOn generalizing f with
  | ind k ih =>
    intro hf
    cases f with
    | zero => omega
    | succ f =>
      unfold chain
      cases hx : l[k]? with
      | none => rfl
      | some x =>
        dsimp only
        by_cases h0 : x.2 < 0
        · rw [if_pos h0, if_pos h0]
        · rw [if_neg h0, if_neg h0]
          cases k with
          | zero =>
            rw [h.head] at hx
            cases hx
            exact absurd (show (-1 : Int) < 0 by decide) h0
          | succ k =>
            obtain ⟨p, hp, hpk, _⟩ := h.back (k + 1) x (Nat.succ_pos _) hx
            have e : x.2.toNat = p := by rw [hp]; simp
            rw [e, ih p hpk f (by omega), ih p hpk (k + 1) (by omega)]
abbrev ch (l : List Row) (k : Nat) : List Tx := chain l (k + 1) k
theorem ch_zero {L : List Way} {name : Tx} {l : List Row} (h : Good L name l) : ch l 0 = [name] := by
  unfold ch chain
  rw [h.head]; rfl
theorem ch_succ {L : List Way} {name : Tx} {l : List Row} (h : Good L name l) {k p : Nat} {x : Row} (hk : 0 < k) (hx : l[k]? = some x) (hp : x.2 = (p : Int)) : ch l k = x.1 :: ch l p := by
  obtain ⟨q, e1, e2, _⟩ := h.back k x hk hx
  have e3 : q = p := by rw [e1] at hp; omega
  subst e3
  unfold ch
  conv => lhs; unfold chain
  rw [hx]
  dsimp only
  rw [if_neg (by omega), show x.2.toNat = q by omega, chain_fuel h k q e2]
theorem ch_ne {L : List Way} {name : Tx} {l : List Row} (h : Good L name l) {k : Nat} (hk : k < l.length) : ch l k ≠ [] := by
  cases k with
  | zero => rw [ch_zero h]; simp
  | succ k =>
    have hx : l[k + 1]? = some l[k + 1] := List.getElem?_eq_getElem hk
    obtain ⟨q, e1, e2, _⟩ := h.back (k + 1) _ (Nat.succ_pos _) hx
    rw [ch_succ h (Nat.succ_pos _) hx e1]; simp

/-- The rows that a chain goes through: cut from a longer search it is the same. -/
theorem ch_pre {L : List Way} {name : Tx} {s t : List Row} (hs : Good L name s) (ht : Good L name t) (hp : s <+: t) : ∀ k, k < s.length → ch s k = ch t k := by
  intro k
  induction k using Nat.strongRecOn with
  | ind k ih =>
    intro hk
    by_cases h0 : k = 0
    · subst h0; rw [ch_zero hs, ch_zero ht]
    · have hx : s[k]? = some s[k] := List.getElem?_eq_getElem hk
      have hy : t[k]? = some s[k] := by
        obtain ⟨u, rfl⟩ := hp
        rw [List.getElem?_append_left hk]; exact hx
      obtain ⟨q, e1, e2, _⟩ := hs.back k _ (by omega) hx
      rw [ch_succ hs (by omega) hx e1, ch_succ ht (by omega) hy e1, ih q e2 (by omega)]
theorem ch_mono {L : List Way} {name : Tx} {l : List Row} (h : Good L name l) : ∀ k j, j ≤ k → k < l.length → (ch l j).length ≤ (ch l k).length := by
  intro k
  induction k using Nat.strongRecOn with
  | ind k ih =>
    intro j hj hk
    by_cases h0 : j = 0
    · subst h0
      rw [ch_zero h]
      exact List.length_pos_iff.2 (ch_ne h hk)
    · have hx : l[k]? = some l[k] := List.getElem?_eq_getElem hk
      have hjl : j < l.length := by omega
      have hy : l[j]? = some l[j] := List.getElem?_eq_getElem hjl
      obtain ⟨q, e1, e2, _⟩ := h.back k _ (by omega) hx
      obtain ⟨p, f1, f2, _⟩ := h.back j _ (by omega) hy
      have hm := h.mono j k _ _ (by omega) hj hy hx
      rw [e1, f1] at hm
      rw [ch_succ h (by omega) hx e1, ch_succ h (by omega) hy f1, List.length_cons, List.length_cons]
      have := ih q e2 p (by omega) (by omega)
      omega
theorem ch_dep {L : List Way} {name : Tx} {l : List Row} (h : Good L name l) {k d : Nat} (hd : Dep l k d) : (ch l k).length = d + 1 := by
  induction hd with
  | zero => rw [ch_zero h]; rfl
  | succ hk hx hp _ ih => rw [ch_succ h hk hx hp, List.length_cons, ih]
theorem ch_len {L : List Way} {name : Tx} {l : List Row} (h : Good L name l) : ∀ {k : Nat}, k < l.length → (ch l k).length ≤ l.length := by
  have key : ∀ k, k < l.length → (ch l k).length ≤ k + 1 := by
    intro k
    induction k using Nat.strongRecOn with
    | ind k ih =>
      intro hk
      by_cases h0 : k = 0
      · subst h0; rw [ch_zero h]; simp
      · have hx : l[k]? = some l[k] := List.getElem?_eq_getElem hk
        obtain ⟨q, e1, e2, _⟩ := h.back k _ (by omega) hx
        rw [ch_succ h (by omega) hx e1, List.length_cons]
        have := ih q e2 (by omega)
        omega
  intro k hk
  have := key k hk
  omega
theorem ch_head {L : List Way} {name : Tx} {l : List Row} (h : Good L name l) {k : Nat} {x : Row} (hx : l[k]? = some x) : (ch l k)[0]? = some x.1 := by
  by_cases h0 : k = 0
  · subst h0
    rw [h.head] at hx; cases hx
    rw [ch_zero h]; rfl
  · obtain ⟨q, e1, e2, _⟩ := h.back k _ (by omega) hx
    rw [ch_succ h (by omega) hx e1]; rfl
/-- What stands in a chain: its last is the name; each next one makes the one ahead of it; all but the first lie in rows below. -/
theorem ch_in {L : List Way} {name : Tx} {l : List Row} (h : Good L name l) : ∀ k, k < l.length →
    (∃ c, ch l k = c ++ [name]) ∧ (∀ (i : Nat) (x y : Tx), (ch l k)[i]? = some x → (ch l k)[i + 1]? = some y → ∃ w ∈ L, made y w = some x) ∧
    (∀ (i : Nat) (x : Tx), i + 1 < (ch l k).length → (ch l k)[i]? = some x → ∃ (j : Nat) (z : Row), 0 < j ∧ j ≤ k ∧ (0 < i → j < k) ∧ l[j]? = some z ∧ z.1 = x) := by
  intro k
  induction k using Nat.strongRecOn with
  | ind k ih =>
    intro hk
    by_cases h0 : k = 0
    · subst h0
      rw [ch_zero h]
      refine ⟨⟨[], rfl⟩, fun i x y hx hy => by simp at hy, fun i x hi hx => by simp at hi⟩
    · have hx : l[k]? = some l[k] := List.getElem?_eq_getElem hk
      obtain ⟨q, e1, e2, w, hw, y, hy, hm⟩ := h.back k _ (by omega) hx
      obtain ⟨⟨c, hc⟩, hs, hr⟩ := ih q e2 (by omega)
      rw [ch_succ h (by omega) hx e1]
      refine ⟨⟨l[k].1 :: c, by rw [hc]; rfl⟩, ?_, ?_⟩
      · intro i a b ha hb
        cases i with
        | zero =>
          rw [List.getElem?_cons_succ] at hb
          rw [ch_head h hy] at hb
          cases ha; cases hb
          exact ⟨w, hw, hm⟩
        | succ i =>
          rw [List.getElem?_cons_succ] at ha hb
          exact hs i a b ha hb
      · intro i a hi ha
        cases i with
        | zero =>
          cases ha
          exact ⟨k, _, by omega, Nat.le_refl _, fun h => absurd h (Nat.lt_irrefl _), hx, rfl⟩
        | succ i =>
          rw [List.getElem?_cons_succ] at ha
          rw [List.length_cons] at hi
          obtain ⟨j, z, j1, j2, _, j4, j5⟩ := hr i a (by omega) ha
          exact ⟨j, z, j1, by omega, fun _ => by omega, j4, j5⟩

/-! What Chain answers. -/
def wants (there : List Tx) (name : Tx) : Tx → Bool := fun t => there.contains t && t != name
/-- The chain of a search's last row, if that is wanted. -/
def lastOf (wt : Tx → Bool) (l : List Row) : Option (List Tx) := if wt (nameAt l (l.length - 1)) then some (ch l (l.length - 1)) else none
def chainOf (there : List Tx) (L : List Way) (name : Tx) : Option (List Tx) := lastOf (wants there name) (srch (wants there name) L name)
theorem name_once {L : List Way} {name : Tx} {l : List Row} (h : Good L name l) {j : Nat} {x : Row} (hj : 0 < j) (hx : l[j]? = some x) : x.1 ≠ name := by
  intro e
  have h1 : (l.map (·.1))[0]? = some name := by rw [List.getElem?_map, h.head]; rfl
  have h2 : (l.map (·.1))[j]? = some name := by rw [List.getElem?_map, hx]; simp [e]
  have := (List.getElem?_inj (by have := h.pos; rwa [List.length_map]) h.nodup).1 (h1.trans h2.symm)
  omega
theorem wants_in {there : List Tx} {name t : Tx} : wants there name t = true ↔ t ∈ there ∧ t ≠ name := by
  unfold wants; rw [Bool.and_eq_true, List.contains_iff_mem, bne_iff_ne]
theorem last_not {there : List Tx} {L : List Way} {name : Tx} {l : List Row} (h : Good L name l) (hn : ∀ (j : Nat) (x : Row), 0 < j → l[j]? = some x → wants there name x.1 = false) : wants there name (nameAt l (l.length - 1)) = false := by
  have hp := h.pos
  by_cases h0 : l.length - 1 = 0
  · rw [h0, nameAt_of h.head]
    cases hw : wants there name name with
    | false => rfl
    | true => exact absurd rfl (wants_in.1 hw).2
  · have hlast : l[l.length - 1]? = some l[l.length - 1] := List.getElem?_eq_getElem (by omega)
    rw [nameAt_of hlast]
    exact hn _ _ (by omega) hlast
theorem chain_none {there : List Tx} {L : List Way} {name : Tx} (h : wants there name (nameAt (srch (wants there name) L name) ((srch (wants there name) L name).length - 1)) = false) : chainOf there L name = none := by
  unfold chainOf lastOf
  exact if_neg (by rw [h]; exact Bool.false_ne_true)
theorem chain_some {there : List Tx} {L : List Way} {name : Tx} {k : Nat} (hk : k + 1 = (srch (wants there name) L name).length) (h : wants there name (nameAt (srch (wants there name) L name) k) = true) : chainOf there L name = some (ch (srch (wants there name) L name) k) := by
  have e : (srch (wants there name) L name).length - 1 = k := by omega
  unfold chainOf lastOf
  rw [e]
  exact if_pos h
theorem cases_aux {there : List Tx} {L : List Way} {name : Tx} {s t : List Row} (hg : Good L name s) (hf : Good L name t) {k : Nat} {x : Row} (hkl : k + 1 = s.length) (hpre : s <+: t) (hx : s[k]? = some x)
    (hlow : ∀ (j : Nat) (x : Row), 0 < j → j < k → s[j]? = some x → wants there name x.1 = false) :
    ch s k = ch t k ∧ t[k]? = some x ∧ ∀ (j : Nat) (y : Row), 0 < j → j < k → t[j]? = some y → y.1 ∉ there := by
  have hk : k < s.length := by omega
  refine ⟨ch_pre hg hf hpre k hk, ?_, fun j y hj hjk hy hm => ?_⟩
  · obtain ⟨u, hu⟩ := hpre
    rw [← hu, List.getElem?_append_left hk]; exact hx
  · have hne := name_once hf hj hy
    obtain ⟨u, hu⟩ := hpre
    rw [← hu, List.getElem?_append_left (by omega)] at hy
    have h1 := hlow j y hj hjk hy
    rw [wants_in.2 ⟨hm, hne⟩] at h1; cases h1
/-- There is a chain just if something that is come to is there; it is that of the first such row. -/
theorem chainOf_cases (there : List Tx) (L : List Way) (name : Tx) :
    (chainOf there L name = none ∧ ∀ (j : Nat) (x : Row), 0 < j → (srch noW L name)[j]? = some x → x.1 ∉ there) ∨
    (∃ (k : Nat) (x : Row), chainOf there L name = some (ch (srch noW L name) k) ∧ 0 < k ∧ (srch noW L name)[k]? = some x ∧ x.1 ∈ there ∧ ∀ (j : Nat) (y : Row), 0 < j → j < k → (srch noW L name)[j]? = some y → y.1 ∉ there) := by
  have hg := (srch_good (wants there name) L name).1
  have hf := (srch_good noW L name).1
  rcases srch_cut (wants there name) L name with ⟨e, hn⟩ | ⟨k, hk, hkl, hpre, ⟨x, hx, hw⟩, hlow⟩
  · refine .inl ⟨chain_none ?_, fun j x hj hx hm => ?_⟩
    · rw [e]; exact last_not hf hn
    · have h1 := hn j x hj hx
      rw [wants_in.2 ⟨hm, name_once hf hj hx⟩] at h1; cases h1
  · obtain ⟨h1, h2, h3⟩ := cases_aux hg hf hkl hpre hx hlow
    refine .inr ⟨k, x, ?_, hk, h2, (wants_in.1 hw).1, h3⟩
    rw [chain_some hkl (by rw [nameAt_of hx]; exact hw), h1]

/-! The laws. -/
theorem holds_math {there : List Tx} {L : List Way} {name : Tx} {c : List Tx} (h : chainOf there L name = some c) :
    2 ≤ c.length ∧ c.length ≤ 7 ∧ (∃ x, c[0]? = some x ∧ x ∈ there) ∧ c[c.length - 1]? = some name ∧
    ∀ (i : Nat) (x y : Tx), c[i]? = some x → c[i + 1]? = some y → (∃ w ∈ L, made y w = some x) ∧ (i + 2 < c.length → y ∉ there) := by
  rcases chainOf_cases there L name with ⟨e, _⟩ | ⟨k, x, e, hk, hx, hin, hlow⟩
  · rw [e] at h; cases h
  · obtain ⟨hf, hmost⟩ := srch_good noW L name
    rw [e] at h
    cases h
    have hkl := (List.getElem?_eq_some_iff.1 hx).1
    obtain ⟨⟨c, hc⟩, hs, hr⟩ := ch_in hf k hkl
    obtain ⟨d, hd, hD⟩ := hmost k hkl hkl
    have hlen := ch_dep hf hD
    have hd1 : 1 ≤ d := by
      cases hD with
      | zero => omega
      | succ _ _ _ _ => omega
    refine ⟨by omega, by omega, ⟨x.1, ch_head hf hx, hin⟩, ?_, fun i a b ha hb => ⟨hs i a b ha hb, fun hi hm => ?_⟩⟩
    · rw [hc, List.length_append, List.length_singleton, Nat.add_sub_cancel, List.getElem?_append_right (Nat.le_refl _), Nat.sub_self]; rfl
    · obtain ⟨j, z, j1, j2, j3, j4, j5⟩ := hr (i + 1) b (by omega) hb
      refine hlow j z j1 (j3 (by omega)) j4 ?_
      rw [j5]; exact hm
theorem more_math {a b : List Tx} {L : List Way} {name : Tx} {c : List Tx} (h : chainOf a L name = some c) : ∃ c', chainOf (a ++ b) L name = some c' ∧ c'.length ≤ c.length := by
  have hf := (srch_good noW L name).1
  rcases chainOf_cases a L name with ⟨e, _⟩ | ⟨k, x, e, hk, hx, hin, hlow⟩
  · rw [e] at h; cases h
  · rw [e] at h
    cases h
    rcases chainOf_cases (a ++ b) L name with ⟨_, hno⟩ | ⟨k2, x2, e2, hk2, hx2, hin2, hlow2⟩
    · exact absurd (List.mem_append.2 (.inl hin)) (hno k x hk hx)
    · refine ⟨_, e2, ch_mono hf k k2 ?_ (List.getElem?_eq_some_iff.1 hx).1⟩
      rcases Nat.lt_or_ge k k2 with hlt | hge
      · exact absurd (List.mem_append.2 (.inl hin)) (hlow2 k x hk hlt hx)
      · exact hge
/-- What is reached: the names of all rows but the first. -/
def reach (L : List Way) (name : Tx) : List Tx := ((srch noW L name).drop 1).map (·.1)
theorem reach_len (L : List Way) (name : Tx) : (reach L name).length < 512 := by
  have h := (srch_good noW L name).1
  have := h.len
  have := h.pos
  unfold reach
  rw [List.length_map, List.length_drop]; omega
theorem reach_get {L : List Way} {name : Tx} {i : Nat} {x : Tx} : (reach L name)[i]? = some x ↔ ∃ z, (srch noW L name)[i + 1]? = some z ∧ z.1 = x := by
  unfold reach
  rw [List.getElem?_map, List.getElem?_drop, Nat.add_comm 1 i]
  cases (srch noW L name)[i + 1]? <;> simp
theorem reach_ne {L : List Way} {name : Tx} {i : Nat} {x : Tx} (h : (reach L name)[i]? = some x) : x ≠ name := by
  obtain ⟨z, hz, rfl⟩ := reach_get.1 h
  exact name_once (srch_good noW L name).1 (Nat.succ_pos _) hz
theorem reach_once {L : List Way} {name : Tx} {i : Nat} {x : Tx} (h : (reach L name)[i]? = some x) : x ∉ (reach L name).take i := by
  intro hm
  obtain ⟨j, hj⟩ := List.getElem?_of_mem hm
  have hji : j < i := by
    have h1 := (List.getElem?_eq_some_iff.1 hj).1
    rw [List.length_take] at h1; omega
  rw [List.getElem?_take_of_lt hji] at hj
  have hnd : (reach L name).Nodup := by
    unfold reach
    rw [List.map_drop]
    exact (List.drop_sublist _ _).nodup (srch_good noW L name).1.nodup
  have := (List.getElem?_inj (List.getElem?_eq_some_iff.1 hj).1 hnd).1 (hj.trans h.symm)
  omega
theorem some_math (there : List Tx) (L : List Way) (name : Tx) : (chainOf there L name).isSome = true ↔ ∃ x ∈ reach L name, x ∈ there := by
  rcases chainOf_cases there L name with ⟨e, hno⟩ | ⟨k, x, e, hk, hx, hin, _⟩
  · rw [e]
    constructor
    · intro h; cases h
    · rintro ⟨x, hx, hm⟩
      obtain ⟨i, hi⟩ := List.getElem?_of_mem hx
      obtain ⟨z, hz, rfl⟩ := reach_get.1 hi
      exact absurd hm (hno (i + 1) z (Nat.succ_pos _) hz)
  · rw [e]
    refine ⟨fun _ => ⟨x.1, ?_, hin⟩, fun _ => rfl⟩
    have : (reach L name)[k - 1]? = some x.1 := reach_get.2 ⟨x, by rw [show k - 1 + 1 = k by omega]; exact hx, rfl⟩
    exact List.mem_of_getElem? this

/-- Whether a table may be. -/
def RightP (S : List Tx) (L : List Way) : Prop :=
  S.length ≤ 64 ∧ L.length ≤ 256 ∧ (∀ (i : Nat) (x : Tx), S[i]? = some x → x ≠ [] ∧ x ∉ S.take i) ∧ (∀ (i : Nat) (w : Way), L[i]? = some w → w.1 ≠ w.2 ∧ w.1 ∈ S ∧ w.2 ∈ S ∧ w ∉ L.take i)
/-- The names of which a name is made by one way. -/
def next (L : List Way) (x : Tx) : List Tx := L.filterMap (made x)
theorem mem_next {L : List Way} {x m : Tx} : m ∈ next L x ↔ ∃ w ∈ L, made x w = some m := by unfold next; rw [List.mem_filterMap]
theorem next_take (L : List Way) (x : Tx) (k : Nat) (w : Way) (h : L[k]? = some w) : next (L.take (k + 1)) x = next (L.take k) x ++ (made x w).toList := by
  unfold next
  rw [List.take_add_one, h, Option.toList_some, List.filterMap_append]
  simp [List.filterMap_cons]
  cases made x w <;> rfl
theorem next_len (L : List Way) (x : Tx) : (next L x).length ≤ L.length := List.length_filterMap_le _ _
end Go.Proofs.Ytfcoihklihkngaa.S
