/-
  Conditions as plain mathematics: sides, tests, parts and ways; each reading has one answer alone.
-/
import Derived.Test.YtkelmhpoplbacaaGreatDoorC4
import Derived.Lib.SlTrimSet
namespace Go.Proofs.YtkelmhpoplbacaaGreatDoor.Cd
open Go.RowKit Go.Shelf Ex

structure Sd where
  t : ByteArray
  q : Bool
inductive Tr where
  | some_ (at_ : Nat) (ps : List Tr)
  | all_ (at_ : Nat) (ps : List Tr)
  | not_ (at_ : Nat) (p : Tr)
  | look (at_ : Nat) (word text : ByteArray)
  | truth (at_ : Nat) (sd : Sd)
  | cmp (at_ : Nat) (sign : ByteArray) (l r : Sd)
inductive RR (α : Type) where
  | ok (p : Nat) (x : α)
  | bad (y : Int) (n : Nat)
def RR.map {α β : Type} (f : α → β) : RR α → RR β
  | .ok p x => .ok p (f x)
  | .bad y n => .bad y n
def RR.then {α β : Type} (r : RR α) (f : Nat → α → RR β) : RR β :=
  match r with
  | .ok p x => f p x
  | .bad y n => .bad y n
/-- A place that lies behind another one, in the text; a fault is one. -/
def RR.In {α : Type} (a z : Nat) : RR α → Prop
  | .ok p _ => a ≤ p ∧ p ≤ z
  | .bad y _ => y = 5 ∨ y = 13
def endsB : List UInt8 := [32, 9, 61, 33, 60, 62, 38, 124, 40, 41]
def enclR (s : ByteArray) (a : Nat) (c : UInt8) : RR ByteArray :=
  if (untilP (bl s) [c] (a + 1)).1 then (if (untilP (bl s) [c] (a + 1)).2 = s.size then .bad 13 a else .ok ((untilP (bl s) [c] (a + 1)).2 + 1) (s.extract (a + 1) (untilP (bl s) [c] (a + 1)).2)) else .bad 13 (untilP (bl s) [c] (a + 1)).2
def bareR (s : ByteArray) (q : Nat) : RR Sd :=
  if (untilP (bl s) endsB q).1 then (if (untilP (bl s) endsB q).2 = q then .bad 13 q else .ok (untilP (bl s) endsB q).2 ⟨s.extract q (untilP (bl s) endsB q).2, false⟩) else .bad 13 (untilP (bl s) endsB q).2
def sideR (s : ByteArray) (a : Nat) : RR Sd :=
  if (bl s)[skipP (bl s) a]? = some 34 then (enclR s (skipP (bl s) a) 34).map (fun t => ⟨t, true⟩) else bareR s (skipP (bl s) a)
def wDefined : ByteArray := ⟨#[100, 101, 102, 105, 110, 101, 100]⟩
def wEmpty : ByteArray := ⟨#[101, 109, 112, 116, 121]⟩
def wMake : ByteArray := ⟨#[109, 97, 107, 101]⟩
def wTarget : ByteArray := ⟨#[116, 97, 114, 103, 101, 116]⟩
def wCommands : ByteArray := ⟨#[99, 111, 109, 109, 97, 110, 100, 115]⟩
def wExists : ByteArray := ⟨#[101, 120, 105, 115, 116, 115]⟩
def wordL : List ByteArray := [wDefined, wEmpty, wMake, wTarget, wCommands, wExists]
def wordAt (T : List UInt8) (a : Nat) (w : ByteArray) : Option Nat := if (bl w).isPrefixOf (T.drop a) = true ∧ T[skipP T (a + w.size)]? = some 40 then some (skipP T (a + w.size)) else none
def wordR (T : List UInt8) (a : Nat) : List ByteArray → Option (ByteArray × Nat)
  | [] => none
  | w :: r => match wordAt T a w with
    | some k => some (w, k)
    | none => wordR T a r
def gEq : ByteArray := ⟨#[61, 61]⟩
def gNe : ByteArray := ⟨#[33, 61]⟩
def gLe : ByteArray := ⟨#[60, 61]⟩
def gGe : ByteArray := ⟨#[62, 61]⟩
def gLt : ByteArray := ⟨#[60]⟩
def gGt : ByteArray := ⟨#[62]⟩
def signL : List ByteArray := [gEq, gNe, gLe, gGe, gLt, gGt]
def signR (T : List UInt8) (p : Nat) : List ByteArray → Option (ByteArray × Nat)
  | [] => none
  | g :: r => if (nextP T p (bl g)).1 then some (g, (nextP T p (bl g)).2) else signR T p r
def trimB (t : ByteArray) : ByteArray := ⟨(Lib.trimS (bl t) [32, 9]).toArray⟩
def cmpR (s : ByteArray) (a p : Nat) (l : Sd) : RR Tr :=
  match signR (bl s) p signL with
  | none => .ok (skipP (bl s) p) (.truth a l)
  | some (g, p') => (sideR s p').map (fun r => .cmp a g l r)
def testR (s : ByteArray) (a : Nat) : RR Tr :=
  match wordR (bl s) a wordL with
  | some (w, k) => (enclR s k 41).map (fun t => .look a w (trimB t))
  | none => (sideR s a).then (fun p l => cmpR s a p l)
/-- At least one, with a text between. -/
inductive Sev (T sep : List UInt8) (one : Nat → RR Tr → Prop) : Nat → RR (List Tr) → Prop
  | bad {a : Nat} {y : Int} {n : Nat} : one a (.bad y n) → Sev T sep one a (.bad y n)
  | last {a p : Nat} {t : Tr} : one a (.ok p t) → (nextP T p sep).1 = false → Sev T sep one a (.ok (nextP T p sep).2 [t])
  | more {a p : Nat} {t : Tr} {r : RR (List Tr)} : one a (.ok p t) → (nextP T p sep).1 = true → Sev T sep one (nextP T p sep).2 r → Sev T sep one a (r.map (fun l => t :: l))
def WayR (T : List UInt8) (one : Nat → RR Tr → Prop) (a : Nat) (r : RR Tr) : Prop := ∃ r', Sev T [38, 38] one a r' ∧ r = r'.map (Tr.all_ (skipP T a))
def CondR (T : List UInt8) (one : Nat → RR Tr → Prop) (a : Nat) (r : RR Tr) : Prop := ∃ r', Sev T [124, 124] (WayR T one) a r' ∧ r = r'.map (Tr.some_ (skipP T a))
def closes (s : ByteArray) (q p : Nat) (t : Tr) : RR Tr :=
  if (nextP (bl s) p [41]).1 then .ok (nextP (bl s) p [41]).2 t else .bad 13 (if (nextP (bl s) p [41]).2 = s.size then q else (nextP (bl s) p [41]).2)
def PartR (s : ByteArray) : Nat → Nat → RR Tr → Prop
  | 0 => fun a r => if (bl s)[skipP (bl s) a]? = some 33 ∨ (bl s)[skipP (bl s) a]? = some 40 then r = .bad 5 (skipP (bl s) a) else r = testR s (skipP (bl s) a)
  | k + 1 => fun a r => if (bl s)[skipP (bl s) a]? = some 33 then ∃ r', PartR s k (skipP (bl s) a + 1) r' ∧ r = r'.map (Tr.not_ (skipP (bl s) a))
    else if (bl s)[skipP (bl s) a]? = some 40 then ∃ r', CondR (bl s) (PartR s k) (skipP (bl s) a + 1) r' ∧ r = r'.then (closes s (skipP (bl s) a))
    else r = testR s (skipP (bl s) a)
def wholeR (s : ByteArray) (r' : RR Tr) : RR Tr := r'.then (fun p t => if skipP (bl s) p < s.size then .bad 13 (skipP (bl s) p) else .ok (skipP (bl s) p) t)
def ReadR (s : ByteArray) (r : RR Tr) : Prop := ∃ r', CondR (bl s) (PartR s 32) 0 r' ∧ r = wholeR s r'

/- Each has one answer alone. -/
theorem map_ok {α β : Type} {f : α → β} {r : RR α} {p : Nat} {x : β} (h : RR.ok p x = r.map f) : ∃ y, r = .ok p y ∧ x = f y := by
  cases r with
  | ok q y => simp only [RR.map, RR.ok.injEq] at h; exact ⟨y, by rw [h.1], h.2⟩
  | bad y n => cases h
theorem sev_one {T sep : List UInt8} {one : Nat → RR Tr → Prop} (h1 : ∀ a r r', one a r → one a r' → r = r') : ∀ {a : Nat} {r : RR (List Tr)}, Sev T sep one a r → ∀ {r' : RR (List Tr)}, Sev T sep one a r' → r = r' := by
  intro a r h
  induction h with
  | bad h =>
    intro r' h'
    cases h' with
    | bad h2 => have := h1 _ _ _ h h2; cases this; rfl
    | last h2 _ => have := h1 _ _ _ h h2; cases this
    | more h2 _ _ => have := h1 _ _ _ h h2; cases this
  | last h hn =>
    intro r' h'
    cases h' with
    | bad h2 => have := h1 _ _ _ h h2; cases this
    | last h2 _ => have := h1 _ _ _ h h2; cases this; rfl
    | more h2 hn2 _ => have := h1 _ _ _ h h2; cases this; rw [hn] at hn2; cases hn2
  | more h hn _ ih =>
    intro r' h'
    cases h' with
    | bad h2 => have := h1 _ _ _ h h2; cases this
    | last h2 hn2 => have := h1 _ _ _ h h2; cases this; rw [hn] at hn2; cases hn2
    | more h2 _ h3 => have := h1 _ _ _ h h2; cases this; rw [ih h3]
theorem way_one {T : List UInt8} {one : Nat → RR Tr → Prop} (h1 : ∀ a r r', one a r → one a r' → r = r') (a : Nat) (r r' : RR Tr) (h : WayR T one a r) (h' : WayR T one a r') : r = r' := by
  obtain ⟨x, hx, rfl⟩ := h
  obtain ⟨y, hy, rfl⟩ := h'
  rw [sev_one h1 hx hy]
theorem cond_one {T : List UInt8} {one : Nat → RR Tr → Prop} (h1 : ∀ a r r', one a r → one a r' → r = r') (a : Nat) (r r' : RR Tr) (h : CondR T one a r) (h' : CondR T one a r') : r = r' := by
  obtain ⟨x, hx, rfl⟩ := h
  obtain ⟨y, hy, rfl⟩ := h'
  rw [sev_one (way_one h1) hx hy]
theorem part_one (s : ByteArray) : ∀ (k a : Nat) (r r' : RR Tr), PartR s k a r → PartR s k a r' → r = r' := by
  intro k
  induction k with
  | zero =>
    intro a r r' h h'
    unfold PartR at h h'
    by_cases hc : (bl s)[skipP (bl s) a]? = some 33 ∨ (bl s)[skipP (bl s) a]? = some 40
    · rw [if_pos hc] at h h'; rw [h, h']
    · rw [if_neg hc] at h h'; rw [h, h']
  | succ k ih =>
    intro a r r' h h'
    unfold PartR at h h'
    by_cases h1 : (bl s)[skipP (bl s) a]? = some 33
    · rw [if_pos h1] at h h'
      obtain ⟨x, hx, rfl⟩ := h
      obtain ⟨y, hy, rfl⟩ := h'
      rw [ih _ _ _ hx hy]
    · rw [if_neg h1] at h h'
      by_cases h2 : (bl s)[skipP (bl s) a]? = some 40
      · rw [if_pos h2] at h h'
        obtain ⟨x, hx, rfl⟩ := h
        obtain ⟨y, hy, rfl⟩ := h'
        rw [cond_one ih _ _ _ hx hy]
      · rw [if_neg h2] at h h'
        rw [h, h']
theorem read_one {s : ByteArray} {r r' : RR Tr} (h : ReadR s r) (h' : ReadR s r') : r = r' := by
  obtain ⟨x, hx, rfl⟩ := h
  obtain ⟨y, hy, rfl⟩ := h'
  rw [cond_one (part_one s 32) _ _ _ hx hy]

/- Places lie in the text. -/
theorem until_le {s : ByteArray} {st : List UInt8} : ∀ (n i : Nat), s.size - i ≤ n → i ≤ s.size → i ≤ (untilP (bl s) st i).2 ∧ (untilP (bl s) st i).2 ≤ s.size := by
  intro n
  induction n with
  | zero => intro i h1 h2; rw [until_end (by omega)]; exact ⟨Nat.le_refl _, h2⟩
  | succ n ih =>
    intro i h1 h2
    by_cases hlt : i < s.size
    · cases hc : st.contains s[i]
      · by_cases hx : s[i] = 36
        · cases he : endN ((bl s).drop i) with
          | none => rw [until_bad hlt hc hx he]; exact ⟨Nat.le_refl _, h2⟩
          | some k =>
            have hk := end_le he
            rw [drop_len] at hk
            rw [until_use hlt hc hx he]
            have := ih (i + k) (by omega) (by omega)
            exact ⟨by omega, this.2⟩
        · rw [until_go hlt hc hx]
          have := ih (i + 1) (by omega) (by omega)
          exact ⟨by omega, this.2⟩
      · rw [until_hit hlt hc]; exact ⟨Nat.le_refl _, h2⟩
    · rw [until_end hlt]; exact ⟨Nat.le_refl _, h2⟩
theorem next_le {s : ByteArray} {p : List UInt8} {a : Nat} (h : a ≤ s.size) : a ≤ (nextP (bl s) a p).2 ∧ (nextP (bl s) a p).2 ≤ s.size ∧ ((nextP (bl s) a p).1 = true → a + p.length ≤ (nextP (bl s) a p).2) := by
  have hk := skip_le h
  unfold nextP
  cases hp : p.isPrefixOf ((bl s).drop (skipP (bl s) a))
  · simp only [Bool.false_eq_true, if_false]; exact ⟨hk.1, hk.2, fun h => by cases h⟩
  · rw [List.isPrefixOf_iff_prefix] at hp
    have := hp.length_le
    rw [drop_len] at this
    simp only [if_true]
    exact ⟨by omega, by omega, fun _ => by omega⟩
theorem at_lt {s : ByteArray} {q : Nat} {c : UInt8} (h : (bl s)[q]? = some c) : q < s.size := by
  have := (List.getElem?_eq_some_iff.1 h).1
  rw [bl_length] at this; exact this
theorem encl_in {s : ByteArray} {q : Nat} {c : UInt8} (h : q < s.size) : (enclR s q c).In q s.size := by
  unfold enclR
  have h1 := until_le (s := s) (st := [c]) _ (q + 1) (Nat.le_refl _) (by omega)
  split
  · split
    · exact .inr rfl
    · exact ⟨by omega, by omega⟩
  · exact .inr rfl
theorem bare_in {s : ByteArray} {q : Nat} (h : q ≤ s.size) : (bareR s q).In q s.size := by
  unfold bareR
  have h1 := until_le (s := s) (st := endsB) _ q (Nat.le_refl _) h
  split
  · split
    · exact .inr rfl
    · exact h1
  · exact .inr rfl
theorem RR.In.map {α β : Type} {f : α → β} {a z : Nat} {r : RR α} (h : r.In a z) : (r.map f).In a z := by
  cases r <;> exact h
theorem RR.In.mono {α : Type} {a a' z : Nat} {r : RR α} (h : r.In a z) (ha : a' ≤ a) : r.In a' z := by
  cases r with
  | ok p x => exact ⟨Nat.le_trans ha h.1, h.2⟩
  | bad y n => exact h
theorem RR.In.then {α β : Type} {f : Nat → α → RR β} {a z : Nat} {r : RR α} (h : r.In a z) (hf : ∀ p x, a ≤ p → p ≤ z → (f p x).In a z) : (r.then f).In a z := by
  cases r with
  | ok p x => exact hf p x h.1 h.2
  | bad y n => exact h
theorem side_in {s : ByteArray} {a : Nat} (h : a ≤ s.size) : (sideR s a).In a s.size := by
  have hk := skip_le h
  unfold sideR
  split
  · rename_i hc; exact (encl_in (at_lt hc)).map.mono hk.1
  · exact (bare_in hk.2).mono hk.1
theorem wordAt_le {s : ByteArray} {a k : Nat} {w : ByteArray} (ha : a ≤ s.size) (h : wordAt (bl s) a w = some k) : a ≤ k ∧ k < s.size := by
  unfold wordAt at h
  split at h
  · rename_i hc
    cases h
    obtain ⟨h1, h2⟩ := hc
    rw [List.isPrefixOf_iff_prefix] at h1
    have := h1.length_le
    rw [drop_len, bl_length] at this
    have hk := skip_le (s := s) (a := a + w.size) (by omega)
    exact ⟨by omega, at_lt h2⟩
  · cases h
theorem wordR_le {s : ByteArray} {a : Nat} (ha : a ≤ s.size) : ∀ (l : List ByteArray) {w : ByteArray} {k : Nat}, wordR (bl s) a l = some (w, k) → a ≤ k ∧ k < s.size := by
  intro l
  induction l with
  | nil => intro w k h; cases h
  | cons x r ih =>
    intro w k h
    unfold wordR at h
    cases hw : wordAt (bl s) a x with
    | none => rw [hw] at h; exact ih h
    | some j => rw [hw] at h; cases h; exact wordAt_le ha hw
theorem signR_le {s : ByteArray} {a : Nat} (ha : a ≤ s.size) : ∀ (l : List ByteArray) {w : ByteArray} {k : Nat}, signR (bl s) a l = some (w, k) → a ≤ k ∧ k ≤ s.size := by
  intro l
  induction l with
  | nil => intro w k h; cases h
  | cons x r ih =>
    intro w k h
    unfold signR at h
    split at h
    · cases h; exact ⟨(next_le ha).1, (next_le ha).2.1⟩
    · exact ih h
theorem cmp_in {s : ByteArray} {a p : Nat} {l : Sd} (h : p ≤ s.size) : (cmpR s a p l).In p s.size := by
  unfold cmpR
  cases hs : signR (bl s) p signL with
  | none => exact skip_le h
  | some x =>
    obtain ⟨g, p'⟩ := x
    have := signR_le h signL hs
    exact (side_in this.2).map.mono this.1
theorem test_in {s : ByteArray} {a : Nat} (h : a ≤ s.size) : (testR s a).In a s.size := by
  unfold testR
  cases hw : wordR (bl s) a wordL with
  | none => exact (side_in h).then fun p x h1 h2 => (cmp_in h2).mono h1
  | some x =>
    obtain ⟨w, k⟩ := x
    have := wordR_le h wordL hw
    exact (encl_in this.2).map.mono this.1
theorem sev_in {s : ByteArray} {sep : List UInt8} {one : Nat → RR Tr → Prop} (h1 : ∀ a r, a ≤ s.size → one a r → r.In a s.size) : ∀ {a : Nat} {r : RR (List Tr)}, Sev (bl s) sep one a r → a ≤ s.size → r.In a s.size := by
  intro a r h
  induction h with
  | bad h => intro ha; exact h1 _ _ ha h
  | last h hn => intro ha; have := h1 _ _ ha h; have h2 := next_le (p := sep) this.2; exact ⟨Nat.le_trans this.1 h2.1, h2.2.1⟩
  | more h hn _ ih => intro ha; have := h1 _ _ ha h; have h2 := next_le (p := sep) this.2; exact (ih h2.2.1).map.mono (Nat.le_trans this.1 h2.1)
theorem way_in {s : ByteArray} {one : Nat → RR Tr → Prop} (h1 : ∀ a r, a ≤ s.size → one a r → r.In a s.size) (a : Nat) (r : RR Tr) (ha : a ≤ s.size) (h : WayR (bl s) one a r) : r.In a s.size := by
  obtain ⟨x, hx, rfl⟩ := h
  exact (sev_in h1 hx ha).map
theorem cond_in {s : ByteArray} {one : Nat → RR Tr → Prop} (h1 : ∀ a r, a ≤ s.size → one a r → r.In a s.size) (a : Nat) (r : RR Tr) (ha : a ≤ s.size) (h : CondR (bl s) one a r) : r.In a s.size := by
  obtain ⟨x, hx, rfl⟩ := h
  exact (sev_in (way_in h1) hx ha).map
theorem part_in (s : ByteArray) : ∀ (k a : Nat) (r : RR Tr), a ≤ s.size → PartR s k a r → r.In a s.size := by
  intro k
  induction k with
  | zero =>
    intro a r ha h
    have hk := skip_le ha
    unfold PartR at h
    split at h
    · rw [h]; exact .inl rfl
    · rw [h]; exact (test_in hk.2).mono hk.1
  | succ k ih =>
    intro a r ha h
    have hk := skip_le ha
    unfold PartR at h
    split at h
    · rename_i hc
      obtain ⟨x, hx, rfl⟩ := h
      exact (ih _ _ (at_lt hc) hx).map.mono (by omega)
    · split at h
      · rename_i hc
        obtain ⟨x, hx, rfl⟩ := h
        refine (RR.In.mono (cond_in ih _ _ (at_lt hc) hx) (a' := a) (by omega)).then fun p t h1 h2 => ?_
        unfold closes
        have := next_le (p := [41]) h2
        split
        · exact ⟨by omega, this.2.1⟩
        · exact .inr rfl
      · rw [h]; exact (test_in hk.2).mono hk.1
end Go.Proofs.YtkelmhpoplbacaaGreatDoor.Cd
