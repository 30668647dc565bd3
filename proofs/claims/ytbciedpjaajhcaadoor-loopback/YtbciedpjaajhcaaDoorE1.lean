/-
  Plain mathematics of the expand package: how a text's dollars are found, and what a text means, told as the program does it. No program is named here.
-/
import Derived.Test.YtbciedpjaajhcaaDoorB0
namespace Go.Proofs.YtbciedpjaajhcaaDoor.Ex
open Go.RowKit Go.Shelf

/-- What begins with a dollar: from, en, the name's, the modifiers'. -/
structure Dl where
  fr : Nat
  en : Nat
  nf : Nat
  nt : Nat
  mf : Nat
  mt : Nat
/-- A bracket that is open. -/
structure Br where
  wh : Nat
  o : UInt8
  c : UInt8
  deep : Nat
/-- How a scanner stands. -/
structure Sn where
  pos : Nat
  found : List Dl
  opn : List Br

def beginF (t : List UInt8) (σ : Sn) : Sn :=
  match t[σ.pos + 1]? with
  | none => ⟨σ.pos + 1, σ.found ++ [⟨σ.pos, σ.pos + 1, 0, 0, 0, 0⟩], σ.opn⟩
  | some x =>
    if x = 36 then ⟨σ.pos + 2, σ.found ++ [⟨σ.pos, σ.pos + 2, 0, 0, 0, 0⟩], σ.opn⟩
    else if x = 123 then ⟨σ.pos + 2, σ.found ++ [⟨σ.pos, 0, σ.pos + 2, 0, 0, 0⟩], σ.opn ++ [⟨σ.found.length, 123, 125, 0⟩]⟩
    else if x = 40 then ⟨σ.pos + 2, σ.found ++ [⟨σ.pos, 0, σ.pos + 2, 0, 0, 0⟩], σ.opn ++ [⟨σ.found.length, 40, 41, 0⟩]⟩
    else ⟨σ.pos + 2, σ.found ++ [⟨σ.pos, σ.pos + 2, σ.pos + 1, σ.pos + 2, 0, 0⟩], σ.opn⟩

/-- What a byte does within the innermost bracket k, whose dollar is d. -/
def insideF (b : UInt8) (pos : Nat) (found : List Dl) (K : List Br) (k : Br) (d : Dl) : List Dl × List Br :=
  if b = 58 ∧ d.nt = 0 then (found.set k.wh { d with nt := pos, mf := pos + 1 }, K ++ [k])
  else if b = k.o then (found, K ++ [{ k with deep := k.deep + 1 }])
  else if b = k.c then
    if 0 < k.deep then (found, K ++ [{ k with deep := k.deep - 1 }])
    else (found.set k.wh (if d.nt = 0 then { d with nt := pos, en := pos + 1 } else { d with mt := pos, en := pos + 1 }), K)
  else (found, K ++ [k])

def stepF (t : List UInt8) (σ : Sn) : Sn :=
  match t[σ.pos]? with
  | none => σ
  | some b =>
    if b = 36 then beginF t σ
    else match σ.opn.getLast? with
      | none => { σ with pos := σ.pos + 1 }
      | some k => match σ.found[k.wh]? with
        | none => { σ with pos := σ.pos + 1 }
        | some d => ⟨σ.pos + 1, (insideF b σ.pos σ.found σ.opn.dropLast k d).1, (insideF b σ.pos σ.found σ.opn.dropLast k d).2⟩

def scanF (t : List UInt8) : Nat → Sn → Sn
  | 0, σ => σ
  | n + 1, σ => if σ.pos < t.length then scanF t n (stepF t σ) else σ
def scan0 : Sn := ⟨0, [], []⟩
def scanL (t : List UInt8) : List Dl := (scanF t t.length scan0).found

theorem begin_pos (t : List UInt8) (σ : Sn) : σ.pos + 1 ≤ (beginF t σ).pos ∧ (beginF t σ).pos ≤ σ.pos + 2 := by
  unfold beginF
  split
  · simp
  · split
    · simp
    · split
      · simp
      · split <;> simp
theorem step_pos (t : List UInt8) (σ : Sn) (h : σ.pos < t.length) : σ.pos + 1 ≤ (stepF t σ).pos := by
  unfold stepF
  rw [List.getElem?_eq_getElem h]
  dsimp only
  split
  · exact (begin_pos t σ).1
  · split
    · exact Nat.le_refl _
    · split
      · exact Nat.le_refl _
      · exact Nat.le_refl _
theorem scan_fuel (t : List UInt8) : ∀ (n m : Nat) (σ : Sn), t.length - σ.pos ≤ n → t.length - σ.pos ≤ m → scanF t n σ = scanF t m σ := by
  intro n
  induction n with
  | zero => intro m σ h1 h2; cases m with
    | zero => rfl
    | succ m => unfold scanF; rw [if_neg (by omega)]
  | succ n ih => intro m σ h1 h2; cases m with
    | zero => unfold scanF; rw [if_neg (by omega)]
    | succ m =>
      unfold scanF
      by_cases h : σ.pos < t.length
      · rw [if_pos h, if_pos h]
        have := step_pos t σ h
        exact ih m _ (by omega) (by omega)
      · rw [if_neg h, if_neg h]
theorem scan_step (t : List UInt8) (n : Nat) (σ : Sn) (h : σ.pos < t.length) (hn : t.length - σ.pos ≤ n) : scanF t n (stepF t σ) = scanF t n σ := by
  have h1 := step_pos t σ h
  cases n with
  | zero => omega
  | succ n =>
    rw [show scanF t (n + 1) σ = scanF t n (stepF t σ) by rw [scanF, if_pos h]]
    exact scan_fuel t _ _ _ (by omega) (by omega)
theorem scan_end (t : List UInt8) (n : Nat) (σ : Sn) (h : t.length ≤ σ.pos) : scanF t n σ = σ := by
  cases n with
  | zero => rfl
  | succ n => rw [scanF, if_neg (by omega)]

/-- What every scanner keeps: each bracket's dollar is there. -/
def Sn.Ok (σ : Sn) : Prop := ∀ k ∈ σ.opn, k.wh < σ.found.length

theorem inside_ok {b : UInt8} {pos : Nat} {found : List Dl} {K : List Br} {k : Br} {d : Dl} (h : ∀ x ∈ K ++ [k], x.wh < found.length) : ∀ x ∈ (insideF b pos found K k d).2, x.wh < (insideF b pos found K k d).1.length := by
  have hk : k.wh < found.length := h k (by simp)
  have hK : ∀ x ∈ K, x.wh < found.length := fun x hx => h x (by simp [hx])
  have h2 : ∀ (k' : Br), k'.wh = k.wh → ∀ x ∈ K ++ [k'], x.wh < found.length := by
    intro k' e x hx
    rcases List.mem_append.1 hx with hx | hx
    · exact hK x hx
    · rw [List.mem_singleton] at hx; subst hx; rw [e]; exact hk
  unfold insideF
  split
  · intro x hx; rw [List.length_set]; exact h x hx
  · split
    · exact h2 _ rfl
    · split
      · split
        · exact h2 _ rfl
        · intro x hx; rw [List.length_set]; exact hK x hx
      · exact h
theorem last_split {K : List Br} {k : Br} (h : K.getLast? = some k) : K = K.dropLast ++ [k] := by
  rw [List.getLast?_eq_some_iff] at h
  obtain ⟨l, rfl⟩ := h
  simp
theorem step_ok (t : List UInt8) {σ : Sn} (h : σ.Ok) : (stepF t σ).Ok := by
  have hg : ∀ (d : Dl) (x : Br), x ∈ σ.opn → x.wh < (σ.found ++ [d]).length := fun d x hx => by have := h x hx; simp; omega
  have hb : ∀ (d : Dl) (k : Br), k.wh = σ.found.length → ∀ x ∈ σ.opn ++ [k], x.wh < (σ.found ++ [d]).length := by
    intro d k e x hx
    rcases List.mem_append.1 hx with hx | hx
    · exact hg d x hx
    · rw [List.mem_singleton] at hx; subst hx; rw [e]; simp
  unfold stepF
  split
  · exact h
  · split
    · unfold beginF
      split
      · exact hg _
      · split
        · exact hg _
        · split
          · exact hb _ _ rfl
          · split
            · exact hb _ _ rfl
            · exact hg _
    · split
      · exact h
      · rename_i k hk
        split
        · exact h
        · exact inside_ok (by rw [← last_split hk]; exact h)
theorem scan0_ok : scan0.Ok := fun _ h => by cases h

/-- What every scanner keeps. -/
structure Sn.Fine (t : List UInt8) (σ : Sn) : Prop where
  ok : σ.Ok
  few : σ.found.length ≤ σ.pos
  opn : σ.opn.length ≤ σ.pos
  deep : ∀ k ∈ σ.opn, k.deep ≤ σ.pos
  pos : σ.pos ≤ t.length
theorem inside_len (b : UInt8) (pos : Nat) (found : List Dl) (K : List Br) (k : Br) (d : Dl) : (insideF b pos found K k d).1.length = found.length ∧ (insideF b pos found K k d).2.length ≤ K.length + 1 ∧ ∀ x ∈ (insideF b pos found K k d).2, x ∈ K ∨ x.deep ≤ k.deep + 1 := by
  have h2 : ∀ (k' : Br), k'.deep ≤ k.deep + 1 → ∀ x ∈ K ++ [k'], x ∈ K ∨ x.deep ≤ k.deep + 1 := by
    intro k' e x hx
    rcases List.mem_append.1 hx with hx | hx
    · exact .inl hx
    · rw [List.mem_singleton] at hx; subst hx; exact .inr e
  unfold insideF
  split
  · exact ⟨by simp, by simp, h2 _ (by omega)⟩
  · split
    · exact ⟨rfl, by simp, h2 _ (Nat.le_refl _)⟩
    · split
      · split
        · exact ⟨rfl, by simp, h2 _ (by simp only; omega)⟩
        · exact ⟨by simp, by simp, fun x hx => .inl hx⟩
      · exact ⟨rfl, by simp, h2 _ (by omega)⟩
theorem step_fine {t : List UInt8} {σ : Sn} (h : σ.Fine t) (hp : σ.pos < t.length) : (stepF t σ).Fine t := by
  have h1 := h.few
  have h2 := h.opn
  have h3 := h.deep
  have hk := step_ok t h.ok
  unfold stepF at hk ⊢
  rw [List.getElem?_eq_getElem hp] at hk ⊢
  dsimp only at hk ⊢
  split at hk
  · rename_i he
    try rw [if_pos he]
    unfold beginF at hk ⊢
    split at hk
    · rename_i hn
      try rw [hn]
      exact ⟨hk, by simp; omega, by simp; omega, fun x hx => Nat.le_trans (h3 x hx) (by simp), by simp; omega⟩
    · rename_i y hy
      try rw [hy]
      have hl : σ.pos + 1 < t.length := (List.getElem?_eq_some_iff.1 hy).1
      have hb : ∀ (k : Br), k.deep = 0 → ∀ x ∈ σ.opn ++ [k], x.deep ≤ σ.pos + 2 := by
        intro k e x hx
        rcases List.mem_append.1 hx with hx | hx
        · have := h3 x hx; omega
        · rw [List.mem_singleton] at hx; subst hx; omega
      try dsimp only at hk ⊢
      split at hk
      · rename_i c; try rw [if_pos c]
        exact ⟨hk, by simp; omega, by simp; omega, fun x hx => Nat.le_trans (h3 x hx) (by simp), by simp; omega⟩
      · rename_i c; try rw [if_neg c]
        split at hk
        · rename_i c; try rw [if_pos c]
          exact ⟨hk, by simp; omega, by simp; omega, hb _ rfl, by simp; omega⟩
        · rename_i c; try rw [if_neg c]
          split at hk
          · rename_i c; try rw [if_pos c]
            exact ⟨hk, by simp; omega, by simp; omega, hb _ rfl, by simp; omega⟩
          · rename_i c; try rw [if_neg c]
            exact ⟨hk, by simp; omega, by simp; omega, fun x hx => Nat.le_trans (h3 x hx) (by simp), by simp; omega⟩
  · rename_i he
    try rw [if_neg he]
    cases hg : σ.opn.getLast? with
    | none =>
      rw [hg] at hk
      exact ⟨hk, by simp; omega, by simp; omega, fun x hx => Nat.le_trans (h3 x hx) (by simp), by simp; omega⟩
    | some k =>
      rw [hg] at hk
      dsimp only at hk ⊢
      cases hd : σ.found[k.wh]? with
      | none =>
        rw [hd] at hk
        exact ⟨hk, by simp; omega, by simp; omega, fun x hx => Nat.le_trans (h3 x hx) (by simp), by simp; omega⟩
      | some d =>
        rw [hd] at hk
        dsimp only at hk ⊢
        obtain ⟨a1, a2, a3⟩ := inside_len t[σ.pos] σ.pos σ.found σ.opn.dropLast k d
        have hsp := last_split hg
        have hl := congrArg List.length hsp
        rw [List.length_append, List.length_singleton] at hl
        have hkm : k ∈ σ.opn := by rw [hsp]; simp
        refine ⟨hk, by simp only; omega, by simp only; omega, fun x hx => ?_, by simp only; omega⟩
        rcases a3 x hx with hx | hx
        · have := h3 x (List.dropLast_subset _ hx); simp only; omega
        · have := h3 k hkm; simp only; omega
theorem scan0_fine (t : List UInt8) : scan0.Fine t := ⟨scan0_ok, Nat.le_refl _, Nat.le_refl _, fun _ h => (by cases h), Nat.zero_le _⟩

/-! What a text means. -/
structure Env where
  get : ByteArray → Option ByteArray
  all : ByteArray → ByteArray → Option (Except Int ByteArray)
inductive Res where
  | ok (r : ByteArray) (fuel : Nat)
  | err (e : Int)
  | bad
inductive Mes where
  | ok (r : ByteArray) (left : List Dl) (fuel : Nat)
  | err (e : Int)
  | bad
abbrev E0 : ByteArray := ⟨#[]⟩
def addF (made s : ByteArray) (k : ByteArray → Mes) : Mes := if 65536 < made.size + s.size then .err 5 else k (made ++ s)
def Mes.and (m : Mes) (k : ByteArray → List Dl → Nat → Mes) : Mes :=
  match m with
  | .ok r l f => k r l f
  | .err e => .err e
  | .bad => .bad
def Res.and (m : Res) (k : ByteArray → Nat → Mes) : Mes :=
  match m with
  | .ok r f => k r f
  | .err e => .err e
  | .bad => .bad

def isIn (l : List ByteArray) (x : ByteArray) : Bool := l.any fun y => decide (y = x)
/-- A variable's meaning. -/
def varF (tx : List ByteArray → Nat → ByteArray → Res) (within : List ByteArray) (fuel : Nat) (name v : ByteArray) : Res :=
  if within.length = 32 ∨ isIn within name = true then .err 11
  else if fuel < v.size then .err 10
  else tx (within ++ [name]) (fuel - v.size) v
def opens (m : ByteArray) (c : UInt8) : Bool := (bl m).head? == some c
def allF (ev : Env) (mods : ByteArray) (r : Res) : Res :=
  match r with
  | .ok t f => if mods.size = 0 then .ok t f else match ev.all mods t with
    | none => .bad
    | some (.error e) => .err e
    | some (.ok u) => .ok u f
  | .err e => .err e
  | .bad => .bad
/-- What a use means. -/
def useF (ev : Env) (tx : List ByteArray → Nat → ByteArray → Res) (within : List ByteArray) (fuel : Nat) (name mods : ByteArray) : Res :=
  if opens mods 68 then .ok (if (ev.get name).isSome then mods.extract 1 mods.size else E0) fuel
  else if opens mods 85 then .ok (match ev.get name with | some v => v | none => mods.extract 1 mods.size) fuel
  else allF ev mods (varF tx within fuel name ((ev.get name).getD E0))
def dollarF (ev : Env) (tx : List ByteArray → Nat → ByteArray → Res) (within : List ByteArray) (M : Nat → Nat → List Dl → Nat → Mes) (d : Dl) (rest : List Dl) (fuel : Nat) : Mes :=
  if d.en = 0 then .err 4
  else if d.nf = 0 then .ok ⟨#[36]⟩ rest fuel
  else if fuel < 1 then .err 10
  else (M d.nf d.nt rest (fuel - 1)).and fun name l1 f1 => (M d.mf d.mt l1 f1).and fun mods l2 f2 => (useF ev tx within f2 name mods).and fun r f3 => .ok r l2 f3
def meanF (ev : Env) (tx : List ByteArray → Nat → ByteArray → Res) (within : List ByteArray) (s : ByteArray) : Nat → ByteArray → Nat → Nat → List Dl → Nat → Mes
  | 0, _, _, _, _, _ => .bad
  | n + 1, made, at_, en, left, fuel =>
    match left with
    | [] => addF made (s.extract at_ en) fun r => .ok r [] fuel
    | d :: rest =>
      if d.fr < en then
        addF made (s.extract at_ d.fr) fun m1 =>
          (dollarF ev tx within (fun a b l f => meanF ev tx within s n E0 a b l f) d rest fuel).and fun r l2 f2 =>
            addF m1 r fun m2 => meanF ev tx within s n m2 d.en en l2 f2
      else addF made (s.extract at_ en) fun r => .ok r (d :: rest) fuel
def Mes.res : Mes → Res
  | .ok r _ f => .ok r f
  | .err e => .err e
  | .bad => .bad
def textF (ev : Env) : Nat → List ByteArray → Nat → ByteArray → Res
  | 0, _, _, _ => .bad
  | k + 1, within, fuel, s => (meanF ev (textF ev k) within s ((scanL (bl s)).length + 1) E0 0 s.size (scanL (bl s)) fuel).res
end Go.Proofs.YtbciedpjaajhcaaDoor.Ex
