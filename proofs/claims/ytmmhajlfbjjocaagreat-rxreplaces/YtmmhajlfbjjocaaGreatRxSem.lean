/-
  Regular expressions as the document tells them: which places of a text a node leads to. Plain mathematics: it imports nothing.
-/
namespace RxSem

inductive Nd where
  | none
  | set (f : UInt8 → Bool)
  | bol
  | eol
  | seq (l : List Nd)
  | alt (l : List Nd)
  | star (n : Nd)
  | plus (n : Nd)
  | opt (n : Nd)

inductive Star (R : Nat → Nat → Prop) : Nat → Nat → Prop where
  | here (i : Nat) : Star R i i
  | step {i j k : Nat} : R i j → Star R j k → Star R i k

mutual
/-- From a place to a place. -/
def M (s : List UInt8) : Nd → Nat → Nat → Prop
  | .none, _, _ => False
  | .set f, i, k => k = i + 1 ∧ ∃ c, s[i]? = some c ∧ f c = true
  | .bol, i, k => i = 0 ∧ k = 0
  | .eol, i, k => i = s.length ∧ k = s.length
  | .seq l, i, k => MS s l i k
  | .alt l, i, k => MA s l i k
  | .star n, i, k => Star (M s n) i k
  | .plus n, i, k => ∃ j, M s n i j ∧ Star (M s n) j k
  | .opt n, i, k => i = k ∨ M s n i k
def MS (s : List UInt8) : List Nd → Nat → Nat → Prop
  | [], i, k => i = k
  | n :: l, i, k => ∃ j, M s n i j ∧ MS s l j k
def MA (s : List UInt8) : List Nd → Nat → Nat → Prop
  | [], _, _ => False
  | n :: l, i, k => M s n i k ∨ MA s l i k
end

theorem Star.trans {R : Nat → Nat → Prop} {i j k : Nat} (h : Star R i j) (h2 : Star R j k) : Star R i k := by
  induction h with
  | here => exact h2
  | step a _ ih => exact .step a (ih h2)
theorem Star.one {R : Nat → Nat → Prop} {i k : Nat} (h : R i k) : Star R i k := .step h (.here k)
theorem Star.le {R : Nat → Nat → Prop} (hR : ∀ i k, R i k → i ≤ k) {i k : Nat} (h : Star R i k) : i ≤ k := by
  induction h with
  | here => exact Nat.le_refl _
  | step a _ ih => exact Nat.le_trans (hR _ _ a) ih
theorem Star.top {R : Nat → Nat → Prop} {m : Nat} (hR : ∀ i k, R i k → k ≤ m) {i k : Nat} (h : Star R i k) (hi : i ≤ m) : k ≤ m := by
  induction h with
  | here => exact hi
  | step a _ ih => exact ih (hR _ _ a)

mutual
theorem M_le (s : List UInt8) : (n : Nd) → (i k : Nat) → M s n i k → i ≤ k
  | .none, _, _, h => by unfold M at h; exact h.elim
  | .set f, i, k, h => by unfold M at h; omega
  | .bol, i, k, h => by unfold M at h; omega
  | .eol, i, k, h => by unfold M at h; omega
  | .seq l, i, k, h => by unfold M at h; exact MS_le s l i k h
  | .alt l, i, k, h => by unfold M at h; exact MA_le s l i k h
  | .star n, i, k, h => by unfold M at h; exact h.le (M_le s n)
  | .plus n, i, k, h => by unfold M at h; obtain ⟨j, h1, h2⟩ := h; exact Nat.le_trans (M_le s n i j h1) (h2.le (M_le s n))
  | .opt n, i, k, h => by
    unfold M at h
    rcases h with h | h
    · omega
    · exact M_le s n i k h
theorem MS_le (s : List UInt8) : (l : List Nd) → (i k : Nat) → MS s l i k → i ≤ k
  | [], i, k, h => by unfold MS at h; omega
  | n :: l, i, k, h => by unfold MS at h; obtain ⟨j, h1, h2⟩ := h; exact Nat.le_trans (M_le s n i j h1) (MS_le s l j k h2)
theorem MA_le (s : List UInt8) : (l : List Nd) → (i k : Nat) → MA s l i k → i ≤ k
  | [], _, _, h => by unfold MA at h; exact h.elim
  | n :: l, i, k, h => by
    unfold MA at h
    rcases h with h | h
    · exact M_le s n i k h
    · exact MA_le s l i k h
end

mutual
theorem M_top (s : List UInt8) : (n : Nd) → (i k : Nat) → M s n i k → i ≤ s.length → k ≤ s.length
  | .none, _, _, h, _ => by unfold M at h; exact h.elim
  | .set f, i, k, h, _ => by
    unfold M at h
    obtain ⟨h1, c, h2, _⟩ := h
    have := (List.getElem?_eq_some_iff.1 h2).1
    omega
  | .bol, i, k, h, _ => by unfold M at h; omega
  | .eol, i, k, h, _ => by unfold M at h; omega
  | .seq l, i, k, h, hi => by unfold M at h; exact MS_top s l i k h hi
  | .alt l, i, k, h, hi => by unfold M at h; exact MA_top s l i k h hi
  | .star n, i, k, h, hi => by unfold M at h; exact star_top s n i k h hi
  | .plus n, i, k, h, hi => by unfold M at h; obtain ⟨j, h1, h2⟩ := h; exact star_top s n j k h2 (M_top s n i j h1 hi)
  | .opt n, i, k, h, hi => by
    unfold M at h
    rcases h with h | h
    · omega
    · exact M_top s n i k h hi
theorem star_top (s : List UInt8) : (n : Nd) → (i k : Nat) → Star (M s n) i k → i ≤ s.length → k ≤ s.length
  | n, i, k, h, hi => by
    have hM : ∀ a c, M s n a c → a ≤ s.length → c ≤ s.length := fun a c h => M_top s n a c h
    induction h with
    | here => exact hi
    | step a _ ih => exact ih (hM _ _ a hi)
theorem MS_top (s : List UInt8) : (l : List Nd) → (i k : Nat) → MS s l i k → i ≤ s.length → k ≤ s.length
  | [], i, k, h, hi => by unfold MS at h; omega
  | n :: l, i, k, h, hi => by unfold MS at h; obtain ⟨j, h1, h2⟩ := h; exact MS_top s l j k h2 (M_top s n i j h1 hi)
theorem MA_top (s : List UInt8) : (l : List Nd) → (i k : Nat) → MA s l i k → i ≤ s.length → k ≤ s.length
  | [], _, _, h, _ => by unfold MA at h; exact h.elim
  | n :: l, i, k, h, hi => by
    unfold MA at h
    rcases h with h | h
    · exact M_top s n i k h hi
    · exact MA_top s l i k h hi
end

/-! At most so many steps. -/
def StarN (R : Nat → Nat → Prop) : Nat → Nat → Nat → Prop
  | 0, i, k => i = k
  | m + 1, i, k => StarN R m i k ∨ ∃ j, StarN R m i j ∧ R j k
theorem StarN.more {R : Nat → Nat → Prop} {m m' i k : Nat} (h : StarN R m i k) (hm : m ≤ m') : StarN R m' i k := by
  induction m' with
  | zero => have : m = 0 := by omega
            subst this; exact h
  | succ m' ih =>
    by_cases e : m = m' + 1
    · subst e; exact h
    · exact .inl (ih (by omega))
theorem StarN.cons {R : Nat → Nat → Prop} {i j : Nat} (h : R i j) : ∀ {m k : Nat}, StarN R m j k → StarN R (m + 1) i k := by
  intro m
  induction m with
  | zero =>
    intro k h2
    have e : j = k := h2
    subst e
    exact .inr ⟨i, rfl, h⟩
  | succ m ih =>
    intro k h2
    rcases h2 with h2 | ⟨a, h2, h3⟩
    · exact .inl (ih h2)
    · exact .inr ⟨a, ih h2, h3⟩
theorem StarN.star {R : Nat → Nat → Prop} {i : Nat} : ∀ {m k : Nat}, StarN R m i k → Star R i k := by
  intro m
  induction m with
  | zero =>
    intro k h
    have e : i = k := h
    subst e; exact .here i
  | succ m ih =>
    intro k h
    rcases h with h | ⟨j, h1, h2⟩
    · exact ih h
    · exact (ih h1).trans (.one h2)
theorem Star.starN {R : Nat → Nat → Prop} (hR : ∀ i k, R i k → i ≤ k) {i k : Nat} (h : Star R i k) : StarN R (k - i) i k := by
  induction h with
  | here i => rw [Nat.sub_self]; rfl
  | @step i j k a b ih =>
    have h1 := hR _ _ a
    have h2 := b.le hR
    by_cases e : i = j
    · subst e; exact ih
    · exact (StarN.cons a ih).more (by omega)

/-! Rows of truths. -/
def At (a : List Bool) (i : Nat) : Prop := a[i]? = some true
def both (a c : List Bool) : List Bool := List.zipWith (· || ·) a c
theorem at_both {a c : List Bool} (h : a.length = c.length) (k : Nat) : At (both a c) k ↔ At a k ∨ At c k := by
  unfold At both
  rw [List.getElem?_zipWith]
  by_cases hk : k < a.length
  · rw [List.getElem?_eq_getElem hk, List.getElem?_eq_getElem (by omega : k < c.length)]
    simp
  · rw [List.getElem?_eq_none (by omega), List.getElem?_eq_none (by omega)]
    simp
theorem both_len {a c : List Bool} (h : a.length = c.length) : (both a c).length = a.length := by
  unfold both; rw [List.length_zipWith]; omega
mutual
/-- Where a node may end, if it begins at one of some places. -/
def ends (s : List UInt8) : Nd → List Bool → List Bool
  | .none, _ => List.replicate (s.length + 1) false
  | .set f, a => false :: List.zipWith (fun x c => x && f c) a s
  | .bol, a => a.headD false :: List.replicate s.length false
  | .eol, a => List.replicate s.length false ++ [a.getLastD false]
  | .seq l, a => endsS s l a
  | .alt l, a => endsA s l a (List.replicate (s.length + 1) false)
  | .star n, a => again (ends s n) (s.length + 1) a
  | .plus n, a => again (ends s n) (s.length + 1) (ends s n a)
  | .opt n, a => both a (ends s n a)
def endsS (s : List UInt8) : List Nd → List Bool → List Bool
  | [], a => a
  | n :: l, a => endsS s l (ends s n a)
def endsA (s : List UInt8) : List Nd → List Bool → List Bool → List Bool
  | [], _, out => out
  | n :: l, a, out => endsA s l a (both out (ends s n a))
def again (f : List Bool → List Bool) : Nat → List Bool → List Bool
  | 0, a => a
  | m + 1, a => both (again f m a) (f (again f m a))
end

theorem At.lt {a : List Bool} {i : Nat} (h : At a i) : i < a.length := (List.getElem?_eq_some_iff.1 h).1
theorem at_false (m k : Nat) : ¬ At (List.replicate m false) k := by
  unfold At
  rw [List.getElem?_replicate]
  split <;> simp
/-- What a function of rows does. -/
def Does (N : Nat) (f : List Bool → List Bool) (R : Nat → Nat → Prop) : Prop := ∀ a, a.length = N + 1 → (f a).length = N + 1 ∧ ∀ k, At (f a) k ↔ ∃ i, At a i ∧ R i k
theorem again_ok {N : Nat} {f : List Bool → List Bool} {R : Nat → Nat → Prop} (hf : Does N f R) (a : List Bool) (ha : a.length = N + 1) : ∀ m, (again f m a).length = N + 1 ∧ ∀ k, At (again f m a) k ↔ ∃ i, At a i ∧ StarN R m i k := by
  intro m
  induction m with
  | zero =>
    refine ⟨by unfold again; exact ha, fun k => ?_⟩
    unfold again StarN
    constructor
    · intro h; exact ⟨k, h, rfl⟩
    · rintro ⟨i, h, rfl⟩; exact h
  | succ m ih =>
    obtain ⟨h1, h2⟩ := ih
    obtain ⟨h3, h4⟩ := hf _ h1
    refine ⟨by unfold again; rw [both_len (by omega)]; exact h1, fun k => ?_⟩
    unfold again StarN
    rw [at_both (by omega), h2, h4]
    constructor
    · rintro (⟨i, a1, a2⟩ | ⟨j, a1, a2⟩)
      · exact ⟨i, a1, .inl a2⟩
      · obtain ⟨i, c1, c2⟩ := (h2 j).1 a1
        exact ⟨i, c1, .inr ⟨j, c2, a2⟩⟩
    · rintro ⟨i, a1, a2 | ⟨j, a2, a3⟩⟩
      · exact .inl ⟨i, a1, a2⟩
      · exact .inr ⟨j, (h2 j).2 ⟨i, a1, a2⟩, a3⟩
theorem star_ok {N : Nat} {f : List Bool → List Bool} {R : Nat → Nat → Prop} (hf : Does N f R) (hR : ∀ i k, R i k → i ≤ k) (hT : ∀ i k, Star R i k → i ≤ N → k ≤ N) : Does N (again f (N + 1)) (Star R) := fun a ha => by
  obtain ⟨h1, h2⟩ := again_ok hf a ha (N + 1)
  refine ⟨h1, fun k => (h2 k).trans ⟨?_, ?_⟩⟩
  · rintro ⟨i, c1, c2⟩; exact ⟨i, c1, c2.star⟩
  · rintro ⟨i, c1, c2⟩
    have hi := c1.lt
    have := hT i k c2 (by omega)
    exact ⟨i, c1, (c2.starN hR).more (by omega)⟩
mutual
theorem ends_ok (s : List UInt8) : (n : Nd) → Does s.length (ends s n) (M s n)
  | .none, a, ha => by
    unfold ends
    refine ⟨List.length_replicate .., fun k => ?_⟩
    unfold M
    simp [at_false]
  | .set f, a, ha => by
    unfold ends
    refine ⟨by rw [List.length_cons, List.length_zipWith]; omega, fun k => ?_⟩
    unfold M
    cases k with
    | zero => simp [At]
    | succ k =>
      have e : At (false :: List.zipWith (fun x c => x && f c) a s) (k + 1) ↔ At (List.zipWith (fun x c => x && f c) a s) k := by simp [At]
      rw [e]
      unfold At
      rw [List.getElem?_zipWith]
      constructor
      · intro h
        cases h1 : a[k]? with
        | none => rw [h1] at h; simp at h
        | some x =>
          cases h2 : s[k]? with
          | none => rw [h1, h2] at h; simp at h
          | some c =>
            rw [h1, h2] at h
            simp at h
            exact ⟨k, by rw [h1, h.1], rfl, c, h2, h.2⟩
      · rintro ⟨i, h1, h2, c, h3, h4⟩
        have : i = k := by omega
        subst this
        rw [h1, h3]; simp [h4]
  | .bol, a, ha => by
    unfold ends
    refine ⟨by simp, fun k => ?_⟩
    unfold M
    cases a with
    | nil => simp at ha
    | cons x t =>
      cases k with
      | zero =>
        simp only [List.headD_cons]
        constructor
        · intro h; exact ⟨0, h, by simp⟩
        · rintro ⟨i, h1, rfl, _⟩; exact h1
      | succ k =>
        constructor
        · intro h
          exact absurd (show At (List.replicate s.length false) k from by simpa [At] using h) (at_false _ _)
        · rintro ⟨i, _, _, h⟩; omega
  | .eol, a, ha => by
    unfold ends
    refine ⟨by simp, fun k => ?_⟩
    unfold M
    have hl : a.getLastD false = a[s.length]'(by omega) := by
      have e : a.length - 1 = s.length := by omega
      rw [List.getLastD_eq_getLast?, List.getLast?_eq_getElem?, e, List.getElem?_eq_getElem (by omega)]
      rfl
    by_cases hk : k = s.length
    · subst hk
      unfold At
      rw [List.getElem?_append_right (by simp)]
      simp only [List.length_replicate, Nat.sub_self, List.getElem?_cons_zero, Option.some.injEq]
      rw [hl]
      constructor
      · intro h; exact ⟨s.length, by rw [List.getElem?_eq_getElem (by omega), h], by simp⟩
      · rintro ⟨i, h1, rfl, _⟩
        rw [List.getElem?_eq_getElem (by omega)] at h1
        exact Option.some.inj h1
    · constructor
      · intro h
        have h1 := h.lt
        simp at h1
        unfold At at h
        rw [List.getElem?_append_left (by simp; omega)] at h
        exact absurd h (at_false _ _)
      · rintro ⟨i, _, _, h⟩; exact absurd h hk
  | .seq l, a, ha => by unfold ends M; exact endsS_ok s l a ha
  | .alt l, a, ha => by
    unfold ends M
    obtain ⟨h1, h2⟩ := endsA_ok s l a (List.replicate (s.length + 1) false) ha (List.length_replicate ..)
    refine ⟨h1, fun k => (h2 k).trans ?_⟩
    simp [at_false]
  | .star n, a, ha => by
    unfold ends M
    exact star_ok (ends_ok s n) (M_le s n) (star_top s n) a ha
  | .plus n, a, ha => by
    unfold ends M
    obtain ⟨h1, h2⟩ := ends_ok s n a ha
    obtain ⟨h3, h4⟩ := star_ok (ends_ok s n) (M_le s n) (star_top s n) _ h1
    refine ⟨h3, fun k => (h4 k).trans ⟨?_, ?_⟩⟩
    · rintro ⟨j, c1, c2⟩
      obtain ⟨i, d1, d2⟩ := (h2 j).1 c1
      exact ⟨i, d1, j, d2, c2⟩
    · rintro ⟨i, d1, j, d2, c2⟩
      exact ⟨j, (h2 j).2 ⟨i, d1, d2⟩, c2⟩
  | .opt n, a, ha => by
    unfold ends M
    obtain ⟨h1, h2⟩ := ends_ok s n a ha
    refine ⟨by rw [both_len (by omega)]; exact ha, fun k => ?_⟩
    rw [at_both (by omega), h2]
    constructor
    · rintro (h | ⟨i, c1, c2⟩)
      · exact ⟨k, h, .inl rfl⟩
      · exact ⟨i, c1, .inr c2⟩
    · rintro ⟨i, c1, rfl | c2⟩
      · exact .inl c1
      · exact .inr ⟨i, c1, c2⟩
theorem endsS_ok (s : List UInt8) : (l : List Nd) → Does s.length (endsS s l) (MS s l)
  | [], a, ha => by
    unfold endsS MS
    refine ⟨ha, fun k => ⟨fun h => ⟨k, h, rfl⟩, ?_⟩⟩
    rintro ⟨i, h, rfl⟩; exact h
  | n :: l, a, ha => by
    unfold endsS MS
    obtain ⟨h1, h2⟩ := ends_ok s n a ha
    obtain ⟨h3, h4⟩ := endsS_ok s l _ h1
    refine ⟨h3, fun k => (h4 k).trans ⟨?_, ?_⟩⟩
    · rintro ⟨j, c1, c2⟩
      obtain ⟨i, d1, d2⟩ := (h2 j).1 c1
      exact ⟨i, d1, j, d2, c2⟩
    · rintro ⟨i, d1, j, d2, c2⟩
      exact ⟨j, (h2 j).2 ⟨i, d1, d2⟩, c2⟩
theorem endsA_ok (s : List UInt8) : (l : List Nd) → (a out : List Bool) → a.length = s.length + 1 → out.length = s.length + 1 → (endsA s l a out).length = s.length + 1 ∧ ∀ k, At (endsA s l a out) k ↔ (At out k ∨ ∃ i, At a i ∧ MA s l i k)
  | [], a, out, ha, ho => by
    unfold endsA MA
    exact ⟨ho, fun k => by simp⟩
  | n :: l, a, out, ha, ho => by
    unfold endsA MA
    obtain ⟨h1, h2⟩ := ends_ok s n a ha
    obtain ⟨h3, h4⟩ := endsA_ok s l a (both out (ends s n a)) ha (by rw [both_len (by omega)]; exact ho)
    refine ⟨h3, fun k => (h4 k).trans ?_⟩
    rw [at_both (by omega), h2]
    constructor
    · rintro ((h | ⟨i, c1, c2⟩) | ⟨i, c1, c2⟩)
      · exact .inl h
      · exact .inr ⟨i, c1, .inl c2⟩
      · exact .inr ⟨i, c1, .inr c2⟩
    · rintro (h | ⟨i, c1, c2 | c2⟩)
      · exact .inl (.inl h)
      · exact .inl (.inr ⟨i, c1, c2⟩)
      · exact .inr ⟨i, c1, c2⟩
end

/-! An expression that asks for no beginning and no end reads nothing but what it takes. -/
mutual
def free : Nd → Bool
  | .bol => false
  | .eol => false
  | .seq l => freeL l
  | .alt l => freeL l
  | .star n => free n
  | .plus n => free n
  | .opt n => free n
  | _ => true
def freeL : List Nd → Bool
  | [] => true
  | n :: l => free n && freeL l
end
/-- From i up to k the one text is as the other from i' on. -/
def Same (s s' : List UInt8) (i k i' : Nat) : Prop := ∀ t, i + t < k → s'[i' + t]? = s[i + t]?
theorem Same.left {s s' : List UInt8} {i j k i' : Nat} (h : Same s s' i k i') (hj : j ≤ k) : Same s s' i j i' := fun t ht => h t (by omega)
theorem Same.right {s s' : List UInt8} {i j k i' : Nat} (h : Same s s' i k i') (hj : i ≤ j) : Same s s' j k (i' + (j - i)) := fun t ht => by
  have := h (j - i + t) (by omega)
  rw [show i' + (j - i) + t = i' + (j - i + t) by omega, this, show i + (j - i + t) = j + t by omega]
theorem star_shift {s s' : List UInt8} {R R' : Nat → Nat → Prop} (hle : ∀ i k, R i k → i ≤ k) (hR : ∀ i k i', Same s s' i k i' → R i k → R' i' (i' + (k - i))) {i k : Nat} (h : Star R i k) : ∀ i', Same s s' i k i' → Star R' i' (i' + (k - i)) := by
  induction h with
  | here i => intro i' _; rw [Nat.sub_self]; exact .here i'
  | @step i j k a b ih =>
    intro i' hs
    have h1 := hle _ _ a
    have h2 := b.le hle
    have h3 := hR i j i' (hs.left h2) a
    have h4 := ih (i' + (j - i)) (hs.right h1)
    rw [show i' + (j - i) + (k - j) = i' + (k - i) by omega] at h4
    exact .step h3 h4
mutual
theorem M_shift (s s' : List UInt8) : (n : Nd) → free n = true → ∀ i k i', Same s s' i k i' → M s n i k → M s' n i' (i' + (k - i))
  | .none, _, i, k, i', _, h => by unfold M at h; exact h.elim
  | .set f, _, i, k, i', hs, h => by
    unfold M at h ⊢
    obtain ⟨rfl, c, h1, h2⟩ := h
    have := hs 0 (by omega)
    exact ⟨by omega, c, by rw [Nat.add_zero, Nat.add_zero] at this; rw [this]; exact h1, h2⟩
  | .bol, hf, _, _, _, _, _ => by unfold free at hf; cases hf
  | .eol, hf, _, _, _, _, _ => by unfold free at hf; cases hf
  | .seq l, hf, i, k, i', hs, h => by unfold free at hf; unfold M at h ⊢; exact MS_shift s s' l hf i k i' hs h
  | .alt l, hf, i, k, i', hs, h => by unfold free at hf; unfold M at h ⊢; exact MA_shift s s' l hf i k i' hs h
  | .star n, hf, i, k, i', hs, h => by
    unfold free at hf; unfold M at h ⊢
    exact star_shift (M_le s n) (M_shift s s' n hf) h i' hs
  | .plus n, hf, i, k, i', hs, h => by
    unfold free at hf; unfold M at h ⊢
    obtain ⟨j, h1, h2⟩ := h
    have l1 := M_le s n i j h1
    have l2 := h2.le (M_le s n)
    have h3 := star_shift (M_le s n) (M_shift s s' n hf) h2 (i' + (j - i)) (hs.right l1)
    rw [show i' + (j - i) + (k - j) = i' + (k - i) by omega] at h3
    exact ⟨_, M_shift s s' n hf i j i' (hs.left l2) h1, h3⟩
  | .opt n, hf, i, k, i', hs, h => by
    unfold free at hf; unfold M at h ⊢
    rcases h with rfl | h
    · exact .inl (by omega)
    · exact .inr (M_shift s s' n hf i k i' hs h)
theorem MS_shift (s s' : List UInt8) : (l : List Nd) → freeL l = true → ∀ i k i', Same s s' i k i' → MS s l i k → MS s' l i' (i' + (k - i))
  | [], _, i, k, i', _, h => by unfold MS at h ⊢; omega
  | n :: l, hf, i, k, i', hs, h => by
    unfold freeL at hf
    rw [Bool.and_eq_true] at hf
    unfold MS at h ⊢
    obtain ⟨j, h1, h2⟩ := h
    have l1 := M_le s n i j h1
    have l2 := MS_le s l j k h2
    have h3 := MS_shift s s' l hf.2 j k (i' + (j - i)) (hs.right l1) h2
    rw [show i' + (j - i) + (k - j) = i' + (k - i) by omega] at h3
    exact ⟨_, M_shift s s' n hf.1 i j i' (hs.left l2) h1, h3⟩
theorem MA_shift (s s' : List UInt8) : (l : List Nd) → freeL l = true → ∀ i k i', Same s s' i k i' → MA s l i k → MA s' l i' (i' + (k - i))
  | [], _, _, _, _, _, h => by unfold MA at h; exact h.elim
  | n :: l, hf, i, k, i', hs, h => by
    unfold freeL at hf
    rw [Bool.and_eq_true] at hf
    unfold MA at h ⊢
    rcases h with h | h
    · exact .inl (M_shift s s' n hf.1 i k i' hs h)
    · exact .inr (MA_shift s s' l hf.2 i k i' hs h)
end
/-- A piece of a text by itself. -/
theorem M_piece (s : List UInt8) (n : Nd) (hf : free n = true) (i k : Nat) (hik : i ≤ k) : M s n i k ↔ M ((s.drop i).take (k - i)) n 0 (k - i) := by
  have h1 : Same s ((s.drop i).take (k - i)) i k 0 := fun t ht => by
    rw [Nat.zero_add, List.getElem?_take_of_lt (by omega), List.getElem?_drop]
  have h2 : Same ((s.drop i).take (k - i)) s 0 (k - i) i := fun t ht => by
    rw [Nat.zero_add, List.getElem?_take_of_lt (by omega), List.getElem?_drop]
  constructor
  · intro h; have := M_shift _ _ n hf i k 0 h1 h; rwa [Nat.zero_add] at this
  · intro h; have := M_shift _ _ n hf 0 (k - i) i h2 h; rwa [Nat.sub_zero, Nat.add_sub_cancel' hik] at this
/-- A text as an expression: byte behind byte. -/
theorem MS_bytes (s : List UInt8) (p : List UInt8) (i k : Nat) : MS s (p.map fun c => .set fun x => x == c) i k ↔ (k = i + p.length ∧ ∀ t, t < p.length → s[i + t]? = p[t]?) := by
  induction p generalizing i with
  | nil => unfold MS; simp; omega
  | cons c p ih =>
    show MS s (.set (fun x => x == c) :: p.map _) i k ↔ _
    unfold MS
    constructor
    · rintro ⟨j, h1, h2⟩
      unfold M at h1
      obtain ⟨rfl, x, h3, h4⟩ := h1
      obtain ⟨h5, h6⟩ := (ih (i + 1)).1 h2
      refine ⟨by rw [List.length_cons]; omega, fun t ht => ?_⟩
      cases t with
      | zero => rw [Nat.add_zero, h3]; simp at h4; simp [h4]
      | succ t => have := h6 t (by simpa using ht); rw [show i + (t + 1) = i + 1 + t by omega, this]; simp
    · rintro ⟨h1, h2⟩
      have h0 := h2 0 (by simp)
      refine ⟨i + 1, by unfold M; exact ⟨rfl, c, by simpa using h0, by simp⟩, (ih (i + 1)).2 ⟨by rw [List.length_cons] at h1; omega, fun t ht => ?_⟩⟩
      have := h2 (t + 1) (by simpa using ht)
      rw [show i + 1 + t = i + (t + 1) by omega, this]; simp
end RxSem
