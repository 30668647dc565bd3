/-
  Joined rules: plain mathematics.
-/
import Derived.Test.YtbgnmchnfaknkaaDoorRM
namespace Go.Proofs.YtbgnmchnfaknkaaDoor.Q

/-- What a rule is behind another one's being added to it. -/
def extR (x r : Ru) : Ru := ⟨x.targets, if r.kind = 2 then 2 else x.kind, x.sources ++ r.sources, x.commands ++ r.commands, x.at_⟩
def newR (t : Bs) (r : Ru) : Ru := extR ⟨[t], r.kind, [], [], r.at_⟩ r
def hasG (t : Bs) (x : Ru) : Bool := x.targets == [t]
/-- Where the last rule of a target stands. -/
def lastI (t : Bs) : List Ru → Option Nat
  | [] => none
  | x :: l => match lastI t l with
    | some i => some (i + 1)
    | none => if hasG t x = true then some 0 else none
theorem lastI_snoc (t : Bs) (l : List Ru) (x : Ru) : lastI t (l ++ [x]) = if hasG t x = true then some l.length else lastI t l := by
  induction l with
  | nil => simp [lastI]
  | cons y l ih =>
    rw [List.cons_append, lastI, ih]
    by_cases h : hasG t x = true
    · simp [h]
    · simp [h, lastI]
theorem lastI_some {t : Bs} : ∀ {l : List Ru} {i : Nat}, lastI t l = some i → ∃ x, l[i]? = some x ∧ hasG t x = true
  | [], i, h => by simp [lastI] at h
  | y :: l, i, h => by
    rw [lastI] at h
    cases e : lastI t l with
    | some j =>
      rw [e] at h; simp at h; subst h
      obtain ⟨x, h1, h2⟩ := lastI_some e
      exact ⟨x, by simpa using h1, h2⟩
    | none =>
      rw [e] at h
      by_cases hy : hasG t y = true
      · simp [hy] at h; subst h; exact ⟨y, rfl, hy⟩
      · simp [hy] at h
theorem lastI_none {t : Bs} : ∀ {l : List Ru}, lastI t l = none → ∀ x ∈ l, hasG t x = false
  | [], _ => by simp
  | y :: l, h => by
    rw [lastI] at h
    cases e : lastI t l with
    | some j => rw [e] at h; simp at h
    | none =>
      rw [e] at h
      intro x hx
      rcases List.mem_cons.1 hx with rfl | hx
      · by_cases hy : hasG t x = true
        · simp [hy] at h
        · simpa using hy
      · exact lastI_none e x hx
theorem lastI_after {t : Bs} : ∀ {l : List Ru} {i j : Nat} {x : Ru}, lastI t l = some i → l[j]? = some x → i < j → hasG t x = false
  | [], i, j, x, h, _, _ => by simp [lastI] at h
  | y :: l, i, j, x, h, hj, hij => by
    rw [lastI] at h
    cases j with
    | zero => omega
    | succ j =>
      have hj' : l[j]? = some x := by simpa using hj
      cases e : lastI t l with
      | some k =>
        rw [e] at h; simp at h; subst h
        exact lastI_after e hj' (by omega)
      | none => exact lastI_none e x (List.mem_of_getElem? hj')
theorem lastI_set (t : Bs) : ∀ (l : List Ru) (i : Nat) (x y : Ru), l[i]? = some x → y.targets = x.targets → lastI t (l.set i y) = lastI t l
  | [], i, x, y, h, _ => by simp at h
  | z :: l, 0, x, y, h, e => by
    simp at h; subst h
    have : hasG t y = hasG t z := by unfold hasG; rw [e]
    simp [lastI, this]
  | z :: l, i + 1, x, y, h, e => by
    simp at h
    simp [lastI, lastI_set t l i x y h e]
theorem hasG_self (t : Bs) (r : Ru) : hasG t (newR t r) = true := by simp [hasG, newR, extR]
theorem hasG_new (t u : Bs) (r : Ru) : hasG u (newR t r) = (t == u) := by
  unfold hasG newR extR
  by_cases h : t = u
  · subst h; simp
  · rw [beq_eq_false_iff_ne.2 (by simpa using h), beq_eq_false_iff_ne.2 h]

section
variable (cl : Bs → Nat)
def clashR (t : Bs) (e r : Ru) : Bool := if e.kind = 3 ∨ r.kind = 3 then !(e.kind == r.kind) else (decide (0 < e.commands.length) && decide (0 < r.commands.length)) && decide (cl t = 0)
def clashG (rs : List Ru) (r : Ru) (t : Bs) : Bool := match lastI t rs with
  | some i => match rs[i]? with
    | some e => clashR cl t e r
    | none => false
  | none => false
def clashesR (rs : List Ru) (r : Ru) : Bool := r.targets.any (clashG cl rs r)
def addR (r : Ru) (rs : List Ru) (t : Bs) : List Ru := match lastI t rs with
  | some i => match rs[i]? with
    | some e => if r.kind = 3 then rs ++ [newR t r] else rs.set i (extR e r)
    | none => rs ++ [newR t r]
  | none => rs ++ [newR t r]
def addAll (r : Ru) (rs : List Ru) (ts : List Bs) : List Ru := ts.foldl (addR r) rs
/-- All rules joined: what they are, or the line of the fault. -/
def joinL (rs : List Ru) : List Ru → Option (List Ru) × Int
  | [] => (some rs, 0)
  | r :: l => if clashesR cl rs r = true then (none, r.at_) else joinL (addAll r rs r.targets) l

/-- Rules of one target each, those of a target that is there twice all Double. -/
structure Once (rs : List Ru) : Prop where
  one : ∀ x ∈ rs, ∃ t, x.targets = [t]
  dbl : ∀ (i j : Nat) (x y : Ru), j < i → rs[i]? = some x → rs[j]? = some y → x.targets = y.targets → x.kind = 3 ∧ y.kind = 3
theorem Once.nil : Once [] := ⟨by simp, by simp⟩
/-- What has been asked of a rule, ahead of its targets' being added. -/
def Fits (r : Ru) (t : Bs) (rs : List Ru) : Prop := ∀ i e, lastI t rs = some i → rs[i]? = some e → (e.kind = 3 ↔ r.kind = 3)
theorem fits_of {r : Ru} {t : Bs} {rs : List Ru} (h : clashG cl rs r t = false) : Fits r t rs := by
  intro i e h1 h2
  unfold clashG at h
  rw [h1] at h
  simp only [h2] at h
  unfold clashR at h
  constructor
  · intro hk
    rw [if_pos (.inl hk)] at h
    simp at h; omega
  · intro hk
    rw [if_pos (.inr hk)] at h
    simp at h; omega
theorem newR_kind (t : Bs) (r : Ru) : (newR t r).kind = r.kind := by unfold newR extR; split <;> simp_all
theorem extR_kind (e r : Ru) : (extR e r).kind = 3 → e.kind = 3 := by unfold extR; simp only; split <;> simp
theorem extR_kind2 (e r : Ru) (h : e.kind ≠ 3) : (extR e r).kind ≠ 3 := by unfold extR; simp only; split <;> simp_all
/-- One target is added. -/
theorem once_add {r : Ru} {t : Bs} {rs : List Ru} (h : Once rs) (hf : Fits r t rs) : Once (addR r rs t) := by
  have hnew : (∀ (i : Nat) (e : Ru), rs[i]? = some e → e.targets = [t] → e.kind = 3 ∧ r.kind = 3) → Once (rs ++ [newR t r]) := by
    intro hk
    refine ⟨?_, ?_⟩
    · intro x hx
      rcases List.mem_append.1 hx with hx | hx
      · exact h.one x hx
      · simp at hx; subst hx; exact ⟨t, rfl⟩
    · intro i j x y hij hx hy hxy
      have hi : i < rs.length + 1 := by have := (List.getElem?_eq_some_iff.1 hx).1; simpa using this
      have hjl : j < rs.length := by omega
      rw [List.getElem?_append_left hjl] at hy
      by_cases hil : i < rs.length
      · rw [List.getElem?_append_left hil] at hx
        exact h.dbl i j x y hij hx hy hxy
      · have : i = rs.length := by omega
        subst this
        simp at hx; subst hx
        have := hk j y hy (by rw [← hxy]; rfl)
        exact ⟨by rw [newR_kind]; exact this.2, this.1⟩
  unfold addR
  cases e1 : lastI t rs with
  | none =>
    refine hnew fun i e he ht => ?_
    have := lastI_none e1 e (List.mem_of_getElem? he)
    simp [hasG, ht] at this
  | some i =>
    obtain ⟨e, he, hte⟩ := lastI_some e1
    have hte' : e.targets = [t] := by simpa [hasG] using hte
    have hke := hf i e e1 he
    simp only [he]
    by_cases hk : r.kind = 3
    · rw [if_pos hk]
      refine hnew fun j f hf' htf => ?_
      rcases Nat.lt_trichotomy i j with hlt | heq | hgt
      · have := lastI_after e1 hf' hlt
        simp [hasG, htf] at this
      · subst heq; rw [he] at hf'; cases hf'; exact ⟨hke.2 hk, hk⟩
      · have := h.dbl i j e f hgt he hf' (by rw [hte', htf])
        exact ⟨this.2, hk⟩
    · rw [if_neg hk]
      have hek : e.kind ≠ 3 := fun h3 => hk (hke.1 h3)
      have hil : i < rs.length := (List.getElem?_eq_some_iff.1 he).1
      refine ⟨?_, ?_⟩
      · intro x hx
        rcases List.mem_or_eq_of_mem_set hx with hx | hx
        · exact h.one x hx
        · subst hx; exact ⟨t, hte'⟩
      · have huniq : ∀ j f, rs[j]? = some f → f.targets = [t] → j = i := by
          intro j f hf' htf
          rcases Nat.lt_trichotomy i j with hlt | heq | hgt
          · exact absurd (h.dbl j i f e hlt hf' he (by rw [hte', htf])).2 hek
          · exact heq.symm
          · exact absurd (h.dbl i j e f hgt he hf' (by rw [hte', htf])).1 hek
        intro a b x y hab hx hy hxy
        rw [List.getElem?_set] at hx hy
        by_cases hai : i = a
        · subst hai
          rw [if_pos rfl, if_pos hil] at hx
          cases hx
          rw [if_neg (by omega)] at hy
          have := huniq b y hy (by rw [← hxy]; exact hte')
          omega
        · rw [if_neg hai] at hx
          by_cases hbi : i = b
          · subst hbi
            rw [if_pos rfl, if_pos hil] at hy
            cases hy
            have := huniq a x hx (by rw [hxy]; exact hte')
            omega
          · rw [if_neg hbi] at hy
            exact h.dbl a b x y hab hx hy hxy
theorem fits_add {r : Ru} {t u : Bs} {rs : List Ru} (hf : Fits r u rs) (ht : Fits r t rs) : Fits r u (addR r rs t) := by
  have hnew : Fits r u (rs ++ [newR t r]) := by
    intro i e h1 h2
    rw [lastI_snoc, hasG_new] at h1
    by_cases htu : t = u
    · rw [if_pos (by simpa using htu)] at h1
      cases h1
      simp at h2; subst h2
      rw [newR_kind]
    · rw [if_neg (by simpa using htu)] at h1
      obtain ⟨x, hx, _⟩ := lastI_some h1
      have hil : i < rs.length := (List.getElem?_eq_some_iff.1 hx).1
      rw [List.getElem?_append_left hil] at h2
      exact hf i e h1 h2
  unfold addR
  cases e1 : lastI t rs with
  | none => exact hnew
  | some k =>
    obtain ⟨x, hx, _⟩ := lastI_some e1
    simp only [hx]
    by_cases hk : r.kind = 3
    · rw [if_pos hk]; exact hnew
    · rw [if_neg hk]
      intro i e h1 h2
      rw [lastI_set u rs k x (extR x r) hx rfl] at h1
      rw [List.getElem?_set] at h2
      by_cases hki : k = i
      · subst hki
        rw [if_pos rfl, if_pos (List.getElem?_eq_some_iff.1 hx).1] at h2
        cases h2
        have := ht k x e1 hx
        constructor
        · intro h3; exact absurd (this.1 (extR_kind x r h3)) hk
        · intro h3; exact absurd h3 hk
      · rw [if_neg hki] at h2
        exact hf i e h1 h2
theorem once_all {r : Ru} : ∀ (ts : List Bs) (rs : List Ru), Once rs → (∀ t ∈ ts, Fits r t rs) → Once (addAll r rs ts)
  | [], rs, h, _ => h
  | t :: ts, rs, h, hf => by
    have h0 := hf t (by simp)
    exact once_all ts (addR r rs t) (once_add h h0) fun u hu => fits_add (hf u (by simp [hu])) h0
theorem once_join : ∀ (l rs a : List Ru), Once rs → (joinL cl rs l).1 = some a → Once a
  | [], rs, a, h, e => by simp [joinL] at e; subst e; exact h
  | r :: l, rs, a, h, e => by
    rw [joinL] at e
    by_cases hc : clashesR cl rs r = true
    · rw [if_pos hc] at e; simp at e
    · rw [if_neg hc] at e
      refine once_join l _ a (once_all _ _ h fun t ht => fits_of cl ?_) e
      simp only [clashesR, List.any_eq_true, not_exists, not_and] at hc
      simpa using hc t ht
/-- Joined again they are the same. -/
theorem again_from : ∀ (l rs : List Ru), Once (rs ++ l) → joinL cl rs l = (some (rs ++ l), 0)
  | [], rs, h => by simp [joinL]
  | r :: l, rs, h => by
    obtain ⟨t, ht⟩ := h.one r (by simp)
    have hr : rs.length < (rs ++ r :: l).length := by simp
    have hrr : (rs ++ r :: l)[rs.length]? = some r := by simp
    have hin : ∀ (i : Nat) (e : Ru), rs[i]? = some e → e.targets = [t] → e.kind = 3 ∧ r.kind = 3 := by
      intro i e he hte
      have hil : i < rs.length := (List.getElem?_eq_some_iff.1 he).1
      have := h.dbl rs.length i r e hil hrr (by rw [List.getElem?_append_left hil]; exact he) (by rw [ht, hte])
      exact ⟨this.2, this.1⟩
    have hc : clashesR cl rs r = false := by
      unfold clashesR
      rw [ht]
      simp only [List.any_cons, List.any_nil, Bool.or_false]
      unfold clashG
      cases e1 : lastI t rs with
      | none => rfl
      | some i =>
        obtain ⟨e, he, hte⟩ := lastI_some e1
        simp only [he]
        have := hin i e he (by simpa [hasG] using hte)
        unfold clashR
        rw [if_pos (.inl this.1), this.1, this.2]; rfl
    have hnr : newR t r = r := by
      unfold newR extR
      have hk : (if r.kind = 2 then (2 : Int) else r.kind) = r.kind := by split <;> simp_all
      cases r
      simp_all
    have ha : addAll r rs r.targets = rs ++ [r] := by
      rw [ht]
      show addR r rs t = _
      unfold addR
      cases e1 : lastI t rs with
      | none => simp [hnr]
      | some i =>
        obtain ⟨e, he, hte⟩ := lastI_some e1
        simp only [he]
        rw [if_pos (hin i e he (by simpa [hasG] using hte)).2, hnr]
    rw [joinL, if_neg (by simp [hc]), ha]
    have := again_from l (rs ++ [r]) (by simpa using h)
    rw [this]; simp
theorem again {a : List Ru} (h : Once a) : joinL cl [] a = (some a, 0) := by
  have := again_from cl a [] (by simpa using h)
  simpa using this

/-! All that is said of a target. -/
variable {α : Type} (f : Ru → List α)
def ofG (t : Bs) (rs : List Ru) : List α := rs.flatMap fun y => if hasG t y = true then f y else []
def saidG (t : Bs) (r : Ru) (ts : List Bs) : List α := ts.flatMap fun u => if u = t then f r else []
def said (t : Bs) (l : List Ru) : List α := l.flatMap fun r => saidG f t r r.targets
theorem ofG_app (t : Bs) (a b : List Ru) : ofG f t (a ++ b) = ofG f t a ++ ofG f t b := by simp [ofG]
theorem ofG_one (t : Bs) (x : Ru) : ofG f t [x] = if hasG t x = true then f x else [] := by simp [ofG]
theorem ofG_nil (t : Bs) (b : List Ru) (h : ∀ x ∈ b, hasG t x = false) : ofG f t b = [] := by
  unfold ofG
  rw [List.flatMap_eq_nil_iff]
  intro x hx
  rw [if_neg (by rw [h x hx]; simp)]
theorem set_split {l : List Ru} {i : Nat} {x : Ru} (h : l[i]? = some x) (y : Ru) : l = l.take i ++ x :: l.drop (i + 1) ∧ l.set i y = l.take i ++ y :: l.drop (i + 1) := by
  obtain ⟨hi, hx⟩ := List.getElem?_eq_some_iff.1 h
  refine ⟨?_, List.set_eq_take_append_cons_drop .. |>.trans (by rw [if_pos hi])⟩
  rw [← hx, List.getElem_cons_drop]
  exact (List.take_append_drop i l).symm
theorem ofG_add (hf0 : ∀ t r, f (newR t r) = f r) (hfe : ∀ e r, f (extR e r) = f e ++ f r) (t u : Bs) (r : Ru) (rs : List Ru) : ofG f t (addR r rs u) = ofG f t rs ++ (if u = t then f r else []) := by
  have hnew : ofG f t (rs ++ [newR u r]) = ofG f t rs ++ (if u = t then f r else []) := by
    rw [ofG_app, ofG_one, hasG_new, hf0]
    by_cases h : u = t <;> simp [h]
  unfold addR
  cases e1 : lastI u rs with
  | none => exact hnew
  | some i =>
    obtain ⟨e, he, hte⟩ := lastI_some e1
    simp only [he]
    by_cases hk : r.kind = 3
    · rw [if_pos hk]; exact hnew
    · rw [if_neg hk]
      obtain ⟨s1, s2⟩ := set_split he (extR e r)
      have hrest : ∀ x ∈ rs.drop (i + 1), hasG u x = false := by
        intro x hx
        obtain ⟨j, hj⟩ := List.mem_iff_getElem?.1 hx
        rw [List.getElem?_drop] at hj
        exact lastI_after e1 hj (by omega)
      have hh : hasG t (extR e r) = hasG t e := rfl
      rw [s2]
      conv => rhs; rw [s1]
      rw [ofG_app, ofG_app, show extR e r :: rs.drop (i + 1) = [extR e r] ++ rs.drop (i + 1) from rfl, show e :: rs.drop (i + 1) = [e] ++ rs.drop (i + 1) from rfl, ofG_app, ofG_app, ofG_one, ofG_one, hh, hfe]
      by_cases hut : u = t
      · subst hut
        rw [if_pos hte, if_pos hte, ofG_nil f u _ hrest]
        simp
      · have hno : hasG t e = false := by
          have h1 : e.targets = [u] := by simpa [hasG] using hte
          unfold hasG; rw [h1]; simpa using hut
        rw [hno]; simp [hut]
theorem ofG_all (hf0 : ∀ t r, f (newR t r) = f r) (hfe : ∀ e r, f (extR e r) = f e ++ f r) (t : Bs) (r : Ru) : ∀ (ts : List Bs) (rs : List Ru), ofG f t (addAll r rs ts) = ofG f t rs ++ saidG f t r ts
  | [], rs => by simp [addAll, saidG]
  | u :: ts, rs => by
    have := ofG_all hf0 hfe t r ts (addR r rs u)
    show ofG f t (addAll r (addR r rs u) ts) = _
    rw [this, ofG_add f hf0 hfe]
    simp [saidG]
theorem ofG_join (hf0 : ∀ t r, f (newR t r) = f r) (hfe : ∀ e r, f (extR e r) = f e ++ f r) (t : Bs) : ∀ (l rs a : List Ru), (joinL cl rs l).1 = some a → ofG f t a = ofG f t rs ++ said f t l
  | [], rs, a, e => by simp [joinL] at e; subst e; simp [said]
  | r :: l, rs, a, e => by
    rw [joinL] at e
    by_cases hc : clashesR cl rs r = true
    · rw [if_pos hc] at e; simp at e
    · rw [if_neg hc] at e
      rw [ofG_join hf0 hfe t l _ a e, ofG_all f hf0 hfe]
      simp [said]
theorem src_new (t : Bs) (r : Ru) : (newR t r).sources = r.sources := by simp [newR, extR]
theorem cmd_new (t : Bs) (r : Ru) : (newR t r).commands = r.commands := by simp [newR, extR]

/-! Sizes. -/
def Sz (k : Nat) (rs : List Ru) : Prop := ∀ x ∈ rs, x.sources.length ≤ k ∧ x.commands.length ≤ k
theorem sz_add {k m : Nat} {r : Ru} (hr : r.sources.length ≤ m ∧ r.commands.length ≤ m) (t : Bs) {rs : List Ru} (h : Sz k rs) : Sz (k + m) (addR r rs t) ∧ (addR r rs t).length ≤ rs.length + 1 := by
  have hnew : Sz (k + m) (rs ++ [newR t r]) ∧ (rs ++ [newR t r]).length ≤ rs.length + 1 := by
    refine ⟨fun x hx => ?_, by simp⟩
    rcases List.mem_append.1 hx with hx | hx
    · have := h x hx; omega
    · simp at hx; subst hx; rw [src_new, cmd_new]; omega
  unfold addR
  cases e1 : lastI t rs with
  | none => exact hnew
  | some i =>
    obtain ⟨e, he, _⟩ := lastI_some e1
    simp only [he]
    by_cases hk : r.kind = 3
    · rw [if_pos hk]; exact hnew
    · rw [if_neg hk]
      refine ⟨fun x hx => ?_, by simp⟩
      rcases List.mem_or_eq_of_mem_set hx with hx | hx
      · have := h x hx; omega
      · subst hx
        have := h e (List.mem_of_getElem? he)
        simp only [extR, List.length_append]; omega
theorem sz_all {m : Nat} {r : Ru} (hr : r.sources.length ≤ m ∧ r.commands.length ≤ m) : ∀ (ts : List Bs) (k : Nat) (rs : List Ru), Sz k rs → Sz (k + ts.length * m) (addAll r rs ts) ∧ (addAll r rs ts).length ≤ rs.length + ts.length
  | [], k, rs, h => by simpa [addAll] using h
  | t :: ts, k, rs, h => by
    obtain ⟨h1, h2⟩ := sz_add hr t h
    obtain ⟨h3, h4⟩ := sz_all hr ts (k + m) (addR r rs t) h1
    refine ⟨?_, ?_⟩
    · have e : k + (t :: ts).length * m = k + m + ts.length * m := by rw [List.length_cons, Nat.add_mul]; omega
      rw [e]; exact h3
    · show (addAll r (addR r rs t) ts).length ≤ _
      rw [List.length_cons]; omega
def tot (l : List Ru) : Nat := (l.map fun r => r.targets.length).sum
theorem sz_join {m : Nat} : ∀ (l : List Ru) (k : Nat) (rs a : List Ru), Sz m l → Sz k rs → (joinL cl rs l).1 = some a → Sz (k + tot l * m) a ∧ a.length ≤ rs.length + tot l
  | [], k, rs, a, _, h, e => by simp [joinL] at e; subst e; simpa [tot] using h
  | r :: l, k, rs, a, hl, h, e => by
    rw [joinL] at e
    by_cases hc : clashesR cl rs r = true
    · rw [if_pos hc] at e; simp at e
    · rw [if_neg hc] at e
      obtain ⟨h1, h2⟩ := sz_all (hl r (by simp)) r.targets k rs h
      obtain ⟨h3, h4⟩ := sz_join l (k + r.targets.length * m) _ a (fun x hx => hl x (by simp [hx])) h1 e
      have e1 : tot (r :: l) = r.targets.length + tot l := by simp [tot]
      refine ⟨?_, by rw [e1]; omega⟩
      have e2 : k + tot (r :: l) * m = k + r.targets.length * m + tot l * m := by rw [e1, Nat.add_mul]; omega
      rw [e2]; exact h3
end
end Go.Proofs.YtbgnmchnfaknkaaDoor.Q
