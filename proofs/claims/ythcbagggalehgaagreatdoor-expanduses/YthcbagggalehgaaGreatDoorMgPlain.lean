/-
  Plain mathematics of the glob package: what a pattern means (a list of stars and of single bytes' tests), and that the search which only tries the last star again finds just that. No program is named here.
-/
namespace Go.Proofs.YthcbagggalehgaaGreatDoor.G

/-- Is a byte among a set's members? -/
def holdsM (c : UInt8) : List UInt8 → Bool
  | a :: d :: b :: r => if d == 45 then (decide (a ≤ c) && decide (c ≤ b)) || holdsM c r else (a == c) || holdsM c (d :: b :: r)
  | [a, b] => a == c || b == c
  | [a] => a == c
  | [] => false

def idx (b : UInt8) : List UInt8 → Option Nat
  | [] => none
  | c :: r => if c == b then some 0 else (idx b r).map (· + 1)

def negOf : List UInt8 → Bool
  | c :: _ => c == 33 || c == 94
  | [] => false

def memOf (r : List UInt8) : List UInt8 := if negOf r then r.drop 1 else r

def closeOf (r : List UInt8) : Option Nat := idx 93 ((memOf r).drop 1)

def headN : List UInt8 → Nat
  | [] => 0
  | c :: r => if c == 92 then (if r.isEmpty then 1 else 2) else if c == 91 then (match closeOf r with | some k => (if negOf r then 1 else 0) + k + 3 | none => 1) else 1

def headF (p : List UInt8) (c : UInt8) : Bool :=
  match p with
  | [] => false
  | a :: r => if a == 63 then true else if a == 92 then (match r with | [] => a == c | b :: _ => b == c) else if a == 91 then (match closeOf r with | some k => (holdsM c ((memOf r).take (k + 1)) != negOf r) | none => a == c) else a == c

theorem headN_pos (c : UInt8) (r : List UInt8) : 1 ≤ headN (c :: r) := by
  simp only [headN]; split
  · split <;> omega
  · split
    · split <;> omega
    · omega

def tk : Nat → List UInt8 → List (Option (UInt8 → Bool))
  | 0, _ => []
  | _ + 1, [] => []
  | n + 1, c :: r => if c == 42 then none :: tk n r else some (headF (c :: r)) :: tk n ((c :: r).drop (headN (c :: r)))

def toks (p : List UInt8) : List (Option (UInt8 → Bool)) := tk p.length p

theorem tk_fuel : ∀ (n m : Nat) (p : List UInt8), p.length ≤ n → p.length ≤ m → tk n p = tk m p := by
  intro n
  induction n with
  | zero => intro m p h1 h2; cases p with
    | nil => cases m <;> rfl
    | cons c r => simp at h1
  | succ n ih => intro m p h1 h2; cases p with
    | nil => cases m <;> rfl
    | cons c r =>
      cases m with
      | zero => simp at h2
      | succ m =>
        simp only [List.length_cons] at h1 h2
        unfold tk
        have hp := headN_pos c r
        rw [ih m r (by omega) (by omega), ih m ((c :: r).drop (headN (c :: r))) (by simp; omega) (by simp; omega)]

theorem toks_nil : toks [] = [] := rfl
theorem toks_star (r : List UInt8) : toks (42 :: r) = none :: toks r := by
  unfold toks; rw [List.length_cons, tk]; rfl
theorem toks_head (c : UInt8) (r : List UInt8) (h : (c == 42) = false) : toks (c :: r) = some (headF (c :: r)) :: toks ((c :: r).drop (headN (c :: r))) := by
  have hp := headN_pos c r
  unfold toks; rw [List.length_cons]; rw [tk]; rw [h]; simp only [Bool.false_eq_true, if_false]
  rw [tk_fuel r.length _ _ (by simp; omega) (Nat.le_refl _)]

def starM (f : List UInt8 → Bool) : List UInt8 → Bool
  | [] => f []
  | c :: s => f (c :: s) || starM f s

def starT (f : List UInt8 → Bool) : List UInt8 → Bool
  | [] => false
  | _ :: s => starM f s

def mt : List (Option (UInt8 → Bool)) → List UInt8 → Bool
  | [], s => s.isEmpty
  | none :: ts, s => starM (mt ts) s
  | some _ :: _, [] => false
  | some f :: ts, c :: s => f c && mt ts s

theorem starM_eq (f : List UInt8 → Bool) (s : List UInt8) : starM f s = (f s || starT f s) := by
  cases s with
  | nil => simp [starM, starT]
  | cons c s => rfl

theorem starM_iff (f : List UInt8 → Bool) : ∀ s, starM f s = true ↔ ∃ k, k ≤ s.length ∧ f (s.drop k) = true := by
  intro s
  induction s with
  | nil => simp [starM]
  | cons c s ih =>
    simp only [starM, Bool.or_eq_true, ih]
    constructor
    · rintro (h | ⟨k, hk, h⟩)
      · exact ⟨0, by omega, by simpa using h⟩
      · exact ⟨k + 1, by simp; omega, by simpa using h⟩
    · rintro ⟨k, hk, h⟩
      cases k with
      | zero => exact Or.inl (by simpa using h)
      | succ k => exact Or.inr ⟨k, by simp at hk; omega, by simpa using h⟩

theorem starTiff (f : List UInt8 → Bool) (s : List UInt8) : starT f s = true ↔ ∃ k, 1 ≤ k ∧ k ≤ s.length ∧ f (s.drop k) = true := by
  cases s with
  | nil => simp [starT]; intro k h1 h2; omega
  | cons c s =>
    simp only [starT, starM_iff]
    constructor
    · rintro ⟨k, hk, h⟩; exact ⟨k + 1, by omega, by simp; omega, by simpa using h⟩
    · rintro ⟨k, h1, hk, h⟩
      cases k with
      | zero => omega
      | succ k => exact ⟨k, by simp at hk; omega, by simpa using h⟩

/-- The state of the search: place in the pattern, place in the text, the last star's place, from where it takes. -/
def Inv (T s : List UInt8) (R : Bool) (a i : Nat) (ag : Option Nat) (f : Nat) : Prop :=
  a ≤ T.length ∧ i ≤ s.length ∧ f ≤ i ∧ (match ag with
    | none => R = mt (toks (T.drop a)) (s.drop i)
    | some g => g ≤ T.length ∧ R = (mt (toks (T.drop a)) (s.drop i) || starT (mt (toks (T.drop g))) (s.drop f)) ∧
        ∀ u, mt (toks (T.drop g)) u = true → i - f ≤ u.length ∧ mt (toks (T.drop a)) (u.drop (i - f)) = true)

theorem inv_start (T s : List UInt8) : Inv T s (mt (toks T) s) 0 0 none 0 := by
  refine ⟨by omega, by omega, by omega, ?_⟩
  simp

theorem drop_cons (T : List UInt8) (a : Nat) (h : a < T.length) : T.drop a = T[a] :: T.drop (a + 1) := List.drop_eq_getElem_cons h

theorem inv_star {T s : List UInt8} {R : Bool} {a i f : Nat} {ag : Option Nat} (h : Inv T s R a i ag f) (ha : a < T.length) (hc : T[a] = 42) : Inv T s R (a + 1) i (some (a + 1)) i := by
  obtain ⟨h1, h2, h3, h4⟩ := h
  have hd : toks (T.drop a) = none :: toks (T.drop (a + 1)) := by rw [drop_cons T a ha, hc, toks_star]
  refine ⟨by omega, h2, Nat.le_refl _, by omega, ?_, ?_⟩
  · cases ag with
    | none => simp only at h4; rw [h4, hd]; exact starM_eq _ _
    | some g =>
      obtain ⟨_, h5, h6⟩ := h4
      rw [h5, hd]
      rw [← starM_eq]
      show (starM _ _ || _) = _
      cases hL : starT (mt (toks (T.drop g))) (s.drop f) with
      | false => simp
      | true =>
        rw [Bool.or_true]
        symm
        rw [starTiff] at hL
        obtain ⟨k, k1, k2, k3⟩ := hL
        obtain ⟨u1, u2⟩ := h6 _ k3
        rw [hd] at u2
        have u3 : starM (mt (toks (T.drop (a + 1)))) (((s.drop f).drop k).drop (i - f)) = true := u2
        rw [starM_iff] at u3 ⊢
        obtain ⟨m, m1, m2⟩ := u3
        refine ⟨k + m, ?_, ?_⟩
        · simp at m1 u1 k2 ⊢; omega
        · rw [List.drop_drop, List.drop_drop, List.drop_drop] at m2
          rw [List.drop_drop]
          rw [← m2]; congr 2; omega
  · intro u hu
    refine ⟨by omega, ?_⟩
    simpa using hu

theorem inv_one {T s : List UInt8} {R : Bool} {a i f : Nat} {ag : Option Nat} (h : Inv T s R a i ag f) (ha : a < T.length) (hc : (T[a] == 42) = false) (hi : i < s.length) (hf : headF (T.drop a) s[i] = true) (hn : a + headN (T.drop a) ≤ T.length) : Inv T s R (a + headN (T.drop a)) (i + 1) ag f := by
  obtain ⟨h1, h2, h3, h4⟩ := h
  have hd : toks (T.drop a) = some (headF (T.drop a)) :: toks (T.drop (a + headN (T.drop a))) := by
    rw [← List.drop_drop]
    conv => lhs; rw [drop_cons T a ha, toks_head _ _ hc]
    rw [← drop_cons T a ha]
  have hm : mt (toks (T.drop a)) (s.drop i) = mt (toks (T.drop (a + headN (T.drop a)))) (s.drop (i + 1)) := by
    rw [hd, drop_cons s i hi]; simp only [mt]; rw [hf, Bool.true_and]
  refine ⟨hn, by omega, by omega, ?_⟩
  cases ag with
  | none => simp only at h4 ⊢; rw [h4, hm]
  | some g =>
    obtain ⟨g1, h5, h6⟩ := h4
    refine ⟨g1, by rw [h5, hm], ?_⟩
    intro u hu
    obtain ⟨u1, u2⟩ := h6 u hu
    rw [hd] at u2
    cases hx : u.drop (i - f) with
    | nil => rw [hx] at u2; simp [mt] at u2
    | cons x v =>
      rw [hx] at u2
      simp only [mt, Bool.and_eq_true] at u2
      have hl : (u.drop (i - f)).length = (x :: v).length := by rw [hx]
      simp at hl
      refine ⟨by omega, ?_⟩
      have e : u.drop (i + 1 - f) = v := by
        rw [show i + 1 - f = (i - f) + 1 by omega, ← List.drop_drop, hx]; rfl
      rw [e]; exact u2.2

theorem inv_cur_false {T s : List UInt8} {a i : Nat} (hi : i < s.length) (hf : a = T.length ∨ ∃ ha : a < T.length, (T[a] == 42) = false ∧ headF (T.drop a) s[i] = false) : mt (toks (T.drop a)) (s.drop i) = false := by
  rcases hf with rfl | ⟨ha, hc, hf⟩
  · rw [List.drop_length, toks_nil, drop_cons s i hi]; rfl
  · conv => lhs; rw [drop_cons T a ha, toks_head _ _ hc]
    rw [← drop_cons T a ha, drop_cons s i hi]; simp only [mt]; rw [hf, Bool.false_and]

theorem inv_fail_none {T s : List UInt8} {R : Bool} {a i f : Nat} (h : Inv T s R a i none f) (hi : i < s.length) (hf : a = T.length ∨ ∃ ha : a < T.length, (T[a] == 42) = false ∧ headF (T.drop a) s[i] = false) : R = false := by
  obtain ⟨h1, h2, h3, h4⟩ := h
  simp only at h4
  rw [h4, inv_cur_false hi hf]

theorem inv_fail_some {T s : List UInt8} {R : Bool} {a i f g : Nat} (h : Inv T s R a i (some g) f) (hi : i < s.length) (hf : a = T.length ∨ ∃ ha : a < T.length, (T[a] == 42) = false ∧ headF (T.drop a) s[i] = false) : Inv T s R g (f + 1) (some g) (f + 1) := by
  obtain ⟨h1, h2, h3, g1, h5, h6⟩ := h
  rw [inv_cur_false hi hf, Bool.false_or, drop_cons s f (by omega)] at h5
  refine ⟨g1, by omega, Nat.le_refl _, g1, ?_, ?_⟩
  · rw [h5]; show starM _ _ = _; exact starM_eq _ _
  · intro u hu; exact ⟨by omega, by simpa using hu⟩

theorem mt_empty : ∀ (n : Nat) (p : List UInt8), p.length ≤ n → mt (toks p) [] = p.all (· == 42) := by
  intro n
  induction n with
  | zero => intro p hp; cases p with
    | nil => rfl
    | cons c r => simp at hp
  | succ n ih => intro p hp; cases p with
    | nil => rfl
    | cons c r =>
      cases hc : (c == 42) with
      | true =>
        have : c = 42 := by simpa using hc
        subst this
        rw [toks_star]; show starM _ [] = _
        simp only [starM]; rw [ih r (by simp at hp; omega)]; rfl
      | false => rw [toks_head _ _ hc]; simp [mt, hc]

theorem inv_end {T s : List UInt8} {R : Bool} {a f : Nat} {ag : Option Nat} (h : Inv T s R a s.length ag f) : R = (T.drop a).all (· == 42) := by
  obtain ⟨h1, h2, h3, h4⟩ := h
  rw [List.drop_length] at h4
  rw [← mt_empty _ _ (Nat.le_refl _)]
  cases ag with
  | none => exact h4
  | some g =>
    obtain ⟨g1, h5, h6⟩ := h4
    rw [h5]
    cases hL : starT (mt (toks (T.drop g))) (s.drop f) with
    | false => simp
    | true =>
      exfalso
      rw [starTiff] at hL
      obtain ⟨k, k1, k2, k3⟩ := hL
      obtain ⟨u1, _⟩ := h6 _ k3
      simp at u1 k2; omega

/-- Quoting. -/
def special (c : UInt8) : Bool := c == 42 || c == 63 || c == 91 || c == 92

def qt : List UInt8 → List UInt8
  | [] => []
  | c :: r => if special c then 92 :: c :: qt r else c :: qt r

theorem toks_qt (p : List UInt8) : ∀ s : List UInt8, toks (qt s ++ p) = s.map (fun a => some (fun c => a == c)) ++ toks p := by
  intro s
  induction s with
  | nil => rfl
  | cons c r ih =>
    unfold qt
    cases hs : special c with
    | true =>
      simp only [if_true, List.cons_append, List.map_cons]
      rw [toks_head _ _ (by decide)]
      have e1 : headF (92 :: c :: (qt r ++ p)) = fun x => c == x := by funext x; simp [headF]
      have e2 : headN (92 :: c :: (qt r ++ p)) = 2 := by simp [headN]
      rw [e1, e2]; simp [ih]
    | false =>
      simp only [Bool.false_eq_true, if_false, List.cons_append, List.map_cons]
      simp only [special, Bool.or_eq_false_iff] at hs
      obtain ⟨⟨⟨a1, a2⟩, a3⟩, a4⟩ := hs
      rw [toks_head _ _ a1]
      have e1 : headF (c :: (qt r ++ p)) = fun x => c == x := by funext x; simp only [headF, a2, a3, a4]; simp
      have e2 : headN (c :: (qt r ++ p)) = 1 := by simp only [headN, a3, a4]; simp
      rw [e1, e2]; simp [ih]

theorem mt_lit (ts : List (Option (UInt8 → Bool))) (t : List UInt8) : ∀ s : List UInt8, mt (s.map (fun a => some (fun c => a == c)) ++ ts) (s ++ t) = mt ts t := by
  intro s
  induction s with
  | nil => rfl
  | cons c r ih => simp only [List.map_cons, List.cons_append, mt]; rw [ih]; simp

theorem mt_lit_eq : ∀ (s t : List UInt8), mt (s.map (fun a => some (fun c => a == c))) t = (s == t) := by
  intro s
  induction s with
  | nil => intro t; cases t <;> rfl
  | cons c r ih =>
    intro t
    cases t with
    | nil => rfl
    | cons d t => simp only [List.map_cons, mt, ih]; rfl

/-- What the program's Match answers. -/
def matchB (p s : List UInt8) : Bool := mt (toks p) s

theorem match_both (s p t : List UInt8) : matchB (qt s ++ p) (s ++ t) = matchB p t := by
  unfold matchB; rw [toks_qt, mt_lit]

theorem match_quoted (s t : List UInt8) : matchB (qt s) t = (s == t) := by
  unfold matchB
  have := toks_qt [] s
  rw [List.append_nil, toks_nil, List.append_nil] at this
  rw [this, mt_lit_eq]

theorem match_star (b : List UInt8) : matchB [42] b = true := by
  unfold matchB
  rw [toks_star, toks_nil]; show starM _ b = true
  rw [starM_iff]; exact ⟨b.length, Nat.le_refl _, by simp [mt]⟩

theorem match_ahead (a b : List UInt8) : matchB (qt a ++ [42]) (a ++ b) = true := by
  rw [match_both, match_star]

theorem match_behind (b c : List UInt8) : matchB (42 :: qt c) (b ++ c) = true := by
  unfold matchB
  rw [toks_star]; show starM _ _ = true
  rw [starM_iff]
  refine ⟨b.length, by simp, ?_⟩
  rw [List.drop_append, List.drop_length, List.nil_append, Nat.sub_self, List.drop_zero]
  show matchB (qt c) c = true
  rw [match_quoted]; simp

theorem match_mid (a b c : List UInt8) : matchB (qt a ++ (42 :: qt c)) (a ++ (b ++ c)) = true := by
  rw [match_both, match_behind]

end Go.Proofs.YthcbagggalehgaaGreatDoor.G
