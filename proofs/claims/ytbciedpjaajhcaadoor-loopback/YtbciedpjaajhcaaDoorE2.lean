/-
  Plain mathematics of the expand package: where a use ends, as the document tells it, and that the program's scanner finds the same.
-/
import Derived.Test.YtbciedpjaajhcaaDoorE1
namespace Go.Proofs.YtbciedpjaajhcaaDoor.Ex
open Go.RowKit Go.Shelf

def clo (x : UInt8) : UInt8 := if x = 123 then 125 else if x = 40 then 41 else 0
/-- How many bytes there are up en the closing bracket, and with it. -/
def bodyF : Nat → UInt8 → UInt8 → Nat → List UInt8 → Option Nat
  | 0, _, _, _, _ => none
  | n + 1, o, c, d, t => match t with
    | [] => none
    | x :: r =>
      if x = 36 then match r with
        | [] => none
        | y :: r2 => if clo y = 0 then (bodyF n o c d r2).map (· + 2) else match bodyF n y (clo y) 0 r2 with
          | none => none
          | some k => (bodyF n o c d (r2.drop k)).map (· + (k + 2))
      else if x = o then (bodyF n o c (d + 1) r).map (· + 1)
      else if x = c then (if d = 0 then some 1 else (bodyF n o c (d - 1) r).map (· + 1))
      else (bodyF n o c d r).map (· + 1)
/-- How many bytes a use has that begins a text. -/
def endN (t : List UInt8) : Option Nat := match t with
  | [] => none
  | [_] => some 1
  | _ :: y :: r => if clo y = 0 then some 2 else (bodyF r.length y (clo y) 0 r).map (· + 2)

theorem body_le : ∀ (n : Nat) (o c : UInt8) (d : Nat) (t : List UInt8) (k : Nat), bodyF n o c d t = some k → 1 ≤ k ∧ k ≤ t.length := by
  intro n
  induction n with
  | zero => intro o c d t k h; simp [bodyF] at h
  | succ n ih =>
    intro o c d t k h
    unfold bodyF at h
    split at h
    · cases h
    · rename_i x r
      split at h
      · split at h
        · cases h
        · rename_i y r2
          split at h
          · obtain ⟨k1, h1, rfl⟩ := Option.map_eq_some_iff.1 h
            have := ih _ _ _ _ _ h1
            simp; omega
          · split at h
            · cases h
            · rename_i k0 h0
              obtain ⟨k1, h1, rfl⟩ := Option.map_eq_some_iff.1 h
              have e0 := ih _ _ _ _ _ h0
              have e1 := ih _ _ _ _ _ h1
              rw [List.length_drop] at e1
              simp; omega
      · split at h
        · obtain ⟨k1, h1, rfl⟩ := Option.map_eq_some_iff.1 h
          have := ih _ _ _ _ _ h1
          simp; omega
        · split at h
          · split at h
            · cases h; simp
            · obtain ⟨k1, h1, rfl⟩ := Option.map_eq_some_iff.1 h
              have := ih _ _ _ _ _ h1
              simp; omega
          · obtain ⟨k1, h1, rfl⟩ := Option.map_eq_some_iff.1 h
            have := ih _ _ _ _ _ h1
            simp; omega
theorem body_fuel : ∀ (n m : Nat) (o c : UInt8) (d : Nat) (t : List UInt8), t.length ≤ n → t.length ≤ m → bodyF n o c d t = bodyF m o c d t := by
  intro n
  induction n with
  | zero => intro m o c d t h1 h2; cases t with
    | nil => cases m <;> rfl
    | cons x r => simp at h1
  | succ n ih =>
    intro m o c d t h1 h2
    cases t with
    | nil => cases m <;> rfl
    | cons x r =>
      cases m with
      | zero => simp at h2
      | succ m =>
        simp only [List.length_cons] at h1 h2
        unfold bodyF
        dsimp only
        rw [ih m o c (d + 1) r (by omega) (by omega), ih m o c (d - 1) r (by omega) (by omega), ih m o c d r (by omega) (by omega)]
        cases r with
        | nil => rfl
        | cons y r2 =>
          simp only [List.length_cons] at h1 h2
          dsimp only
          rw [ih m o c d r2 (by omega) (by omega), ih m y (clo y) 0 r2 (by omega) (by omega)]
          cases bodyF m y (clo y) 0 r2 with
          | none => rfl
          | some k =>
            dsimp only
            rw [ih m o c d (r2.drop k) (by rw [List.length_drop]; omega) (by rw [List.length_drop]; omega)]
/-- What lies behind the end turns nothing. -/
theorem body_take : ∀ (n : Nat) (o c : UInt8) (d : Nat) (t : List UInt8) (k m : Nat), bodyF n o c d t = some k → k ≤ m → bodyF n o c d (t.take m) = some k := by
  intro n
  induction n with
  | zero => intro o c d t k m h; simp [bodyF] at h
  | succ n ih =>
    intro o c d t k m h hm
    have hk := (body_le _ _ _ _ _ _ h).1
    cases t with
    | nil => simp [bodyF] at h
    | cons x r =>
      obtain ⟨m, rfl⟩ : ∃ m', m = m' + 1 := ⟨m - 1, by omega⟩
      rw [List.take_succ_cons]
      unfold bodyF at h ⊢
      dsimp only at h ⊢
      by_cases h36 : x = 36
      · rw [if_pos h36] at h ⊢
        cases r with
        | nil => cases h
        | cons y r2 =>
          dsimp only at h
          by_cases hc : clo y = 0
          · rw [if_pos hc] at h
            obtain ⟨k1, h1, rfl⟩ := Option.map_eq_some_iff.1 h
            obtain ⟨m, rfl⟩ : ∃ m', m = m' + 1 := ⟨m - 1, by omega⟩
            rw [List.take_succ_cons]
            dsimp only
            rw [if_pos hc, ih _ _ _ _ _ m h1 (by omega)]; rfl
          · rw [if_neg hc] at h
            cases h0 : bodyF n y (clo y) 0 r2 with
            | none => rw [h0] at h; cases h
            | some k0 =>
              rw [h0] at h
              dsimp only at h
              obtain ⟨k1, h1, rfl⟩ := Option.map_eq_some_iff.1 h
              obtain ⟨m, rfl⟩ : ∃ m', m = m' + 1 := ⟨m - 1, by omega⟩
              rw [List.take_succ_cons]
              dsimp only
              rw [if_neg hc, ih _ _ _ _ _ m h0 (by omega)]
              dsimp only
              rw [List.drop_take, ih _ _ _ _ _ (m - k0) h1 (by omega)]; rfl
      · rw [if_neg h36] at h ⊢
        by_cases ho : x = o
        · rw [if_pos ho] at h ⊢
          obtain ⟨k1, h1, rfl⟩ := Option.map_eq_some_iff.1 h
          rw [ih _ _ _ _ _ m h1 (by omega)]; rfl
        · rw [if_neg ho] at h ⊢
          by_cases hc : x = c
          · rw [if_pos hc] at h ⊢
            by_cases hd : d = 0
            · rw [if_pos hd] at h ⊢; exact h
            · rw [if_neg hd] at h ⊢
              obtain ⟨k1, h1, rfl⟩ := Option.map_eq_some_iff.1 h
              rw [ih _ _ _ _ _ m h1 (by omega)]; rfl
          · rw [if_neg hc] at h ⊢
            obtain ⟨k1, h1, rfl⟩ := Option.map_eq_some_iff.1 h
            rw [ih _ _ _ _ _ m h1 (by omega)]; rfl
theorem end_le {t : List UInt8} {k : Nat} (h : endN t = some k) : 1 ≤ k ∧ k ≤ t.length := by
  unfold endN at h
  split at h
  · cases h
  · cases h; simp
  · split at h
    · cases h; simp
    · obtain ⟨k1, h1, rfl⟩ := Option.map_eq_some_iff.1 h
      have := body_le _ _ _ _ _ _ h1
      simp; omega
theorem end_take {t : List UInt8} {k m : Nat} (h : endN t = some k) (hm : k ≤ m) (h2 : 2 ≤ k) : endN (t.take m) = some k := by
  unfold endN at h
  split at h
  · cases h
  · cases h; omega
  · rename_i x y r
    obtain ⟨m, rfl⟩ : ∃ m', m = m' + 2 := ⟨m - 2, by omega⟩
    rw [List.take_succ_cons, List.take_succ_cons]
    unfold endN
    dsimp only
    split at h
    · rename_i hc; rw [if_pos hc]; exact h
    · rename_i hc
      rw [if_neg hc]
      obtain ⟨k1, h1, rfl⟩ := Option.map_eq_some_iff.1 h
      have e1 := body_take _ _ _ _ _ _ m h1 (by omega)
      rw [body_fuel _ r.length _ _ _ _ (Nat.le_refl _) (by rw [List.length_take]; omega), e1]; rfl

/-- Where a use's name ends. -/
def cutF : Nat → List UInt8 → Nat
  | 0, t => t.length
  | n + 1, t => match t with
    | [] => 0
    | x :: r =>
      if x = 58 then 0
      else if x = 36 then match endN (x :: r) with
        | none => r.length + 1
        | some k => k + cutF n ((x :: r).drop k)
      else 1 + cutF n r
theorem cut_fuel : ∀ (n m : Nat) (t : List UInt8), t.length ≤ n → t.length ≤ m → cutF n t = cutF m t := by
  intro n
  induction n with
  | zero => intro m t h1 h2; cases t with
    | nil => cases m <;> rfl
    | cons x r => simp at h1
  | succ n ih =>
    intro m t h1 h2
    cases t with
    | nil => cases m <;> rfl
    | cons x r =>
      cases m with
      | zero => simp at h2
      | succ m =>
        simp only [List.length_cons] at h1 h2
        unfold cutF
        dsimp only
        rw [ih m r (by omega) (by omega)]
        cases he : endN (x :: r) with
        | none => rfl
        | some k =>
          have := end_le he
          dsimp only
          rw [ih m ((x :: r).drop k) (by rw [List.length_drop]; simp; omega) (by rw [List.length_drop]; simp; omega)]
def cutL (t : List UInt8) : Nat := cutF t.length t
theorem cut_nil : cutL [] = 0 := rfl
theorem cut_colon (r : List UInt8) : cutL (58 :: r) = 0 := by simp [cutL, cutF]
theorem cut_other {x : UInt8} (r : List UInt8) (h1 : x ≠ 58) (h2 : x ≠ 36) : cutL (x :: r) = 1 + cutL r := by
  unfold cutL; rw [List.length_cons, cutF]; rw [if_neg h1, if_neg h2]
theorem cut_use {r : List UInt8} {k : Nat} (h : endN (36 :: r) = some k) : cutL (36 :: r) = k + cutL ((36 :: r).drop k) := by
  have := end_le h
  simp only [List.length_cons] at this
  unfold cutL; rw [List.length_cons, cutF]
  rw [if_neg (by decide), if_pos rfl, h]
  dsimp only
  rw [cut_fuel r.length ((36 :: r).drop k).length _ (by rw [List.length_drop]; simp; omega) (Nat.le_refl _)]
theorem cut_le : ∀ (n : Nat) (t : List UInt8), t.length ≤ n → cutL t ≤ t.length := by
  intro n
  induction n with
  | zero => intro t h; cases t with
    | nil => exact Nat.le_refl _
    | cons x r => simp at h
  | succ n ih =>
    intro t h
    cases t with
    | nil => exact Nat.le_refl _
    | cons x r =>
      simp only [List.length_cons] at h ⊢
      by_cases h1 : x = 58
      · subst h1; rw [cut_colon]; omega
      · by_cases h2 : x = 36
        · subst h2
          cases he : endN (36 :: r) with
          | none =>
            unfold cutL; rw [List.length_cons, cutF]
            rw [if_neg (by decide), if_pos rfl, he]; exact Nat.le_refl _
          | some k =>
            have := end_le he
            simp only [List.length_cons] at this
            rw [cut_use he]
            have := ih ((36 :: r).drop k) (by rw [List.length_drop]; simp; omega)
            rw [List.length_drop] at this
            simp at this; omega
        · rw [cut_other r h1 h2]
          have := ih r (by omega)
          omega

/-- Steps while more than L brackets are open. -/
inductive Runs (T : List UInt8) (L : Nat) : Sn → Sn → Prop where
  | refl (σ : Sn) : Runs T L σ σ
  | step {σ σ' : Sn} : L < σ.opn.length → σ.pos < T.length → Runs T L (stepF T σ) σ' → Runs T L σ σ'
theorem Runs.trans {T : List UInt8} {L : Nat} {a b c : Sn} (h : Runs T L a b) (h2 : Runs T L b c) : Runs T L a c := by
  induction h with
  | refl => exact h2
  | step h1 h3 _ ih => exact .step h1 h3 (ih h2)
theorem Runs.mono {T : List UInt8} {L L' : Nat} {a b : Sn} (h : Runs T L a b) (hL : L' ≤ L) : Runs T L' a b := by
  induction h with
  | refl => exact .refl _
  | step h1 h3 _ ih => exact .step (by omega) h3 ih
theorem Runs.scan {T : List UInt8} {L : Nat} {a b : Sn} (h : Runs T L a b) : scanF T T.length a = scanF T T.length b := by
  induction h with
  | refl => rfl
  | step h1 h3 _ ih => rw [← ih]; exact (scan_step T _ _ h3 (by omega)).symm

theorem drop_split {T : List UInt8} {p : Nat} {x : UInt8} {r : List UInt8} (h : T.drop p = x :: r) : T[p]? = some x ∧ p < T.length ∧ T.drop (p + 1) = r := by
  have hp : p < T.length := by
    have := congrArg List.length h
    rw [List.length_drop, List.length_cons] at this; omega
  rw [List.drop_eq_getElem_cons hp] at h
  injection h with h1 h2
  exact ⟨by rw [List.getElem?_eq_getElem hp, h1], hp, h2⟩
theorem step_in {T : List UInt8} {p : Nat} {x : UInt8} {r : List UInt8} (h : T.drop p = x :: r) (hx : x ≠ 36) (F : List Dl) (K : List Br) (k : Br) (D : Dl) (hD : F[k.wh]? = some D) :
    stepF T ⟨p, F, K ++ [k]⟩ = ⟨p + 1, (insideF x p F K k D).1, (insideF x p F K k D).2⟩ := by
  unfold stepF
  dsimp only
  rw [(drop_split h).1]
  dsimp only
  rw [if_neg hx]
  simp only [List.getLast?_append, List.getLast?_singleton, Option.some_or, hD, List.dropLast_concat]
theorem step_out {T : List UInt8} {p : Nat} {x : UInt8} {r : List UInt8} (h : T.drop p = x :: r) (hx : x ≠ 36) (F : List Dl) :
    stepF T ⟨p, F, []⟩ = ⟨p + 1, F, []⟩ := by
  unfold stepF
  dsimp only
  rw [(drop_split h).1]
  dsimp only
  rw [if_neg hx]
  rfl
theorem step_dollar {T : List UInt8} {p : Nat} {r : List UInt8} (h : T.drop p = 36 :: r) (F : List Dl) (K : List Br) : stepF T ⟨p, F, K⟩ = beginF T ⟨p, F, K⟩ := by
  unfold stepF
  dsimp only
  rw [(drop_split h).1]
  dsimp only
  rw [if_pos rfl]
theorem begin_end {T : List UInt8} {p : Nat} (h : T.drop p = [36]) (F : List Dl) (K : List Br) : beginF T ⟨p, F, K⟩ = ⟨p + 1, F ++ [⟨p, p + 1, 0, 0, 0, 0⟩], K⟩ := by
  have := (drop_split h).2.2
  unfold beginF
  rw [show T[p + 1]? = none by rw [List.getElem?_eq_none_iff]; simpa using this]
theorem begin_one {T : List UInt8} {p : Nat} {y : UInt8} {r : List UInt8} (h : T.drop p = 36 :: y :: r) (hy : clo y = 0) (F : List Dl) (K : List Br) : ∃ d, beginF T ⟨p, F, K⟩ = ⟨p + 2, F ++ [d], K⟩ ∧ d.fr = p ∧ d.en = p + 2 ∧ (if y = 36 then d.nf = 0 else d.nf = p + 1 ∧ d.nt = p + 2) := by
  have h1 := drop_split h
  have h2 := drop_split h1.2.2
  unfold beginF
  rw [h2.1]
  dsimp only
  by_cases h36 : y = 36
  · rw [if_pos h36]; exact ⟨_, rfl, rfl, rfl, by rw [if_pos h36]⟩
  · have a1 : y ≠ 123 := fun e => by subst e; simp [clo] at hy
    have a2 : y ≠ 40 := fun e => by subst e; simp [clo] at hy
    rw [if_neg h36, if_neg a1, if_neg a2]; exact ⟨_, rfl, rfl, rfl, by rw [if_neg h36]; exact ⟨rfl, rfl⟩⟩
theorem begin_br {T : List UInt8} {p : Nat} {y : UInt8} {r : List UInt8} (h : T.drop p = 36 :: y :: r) (hy : clo y ≠ 0) (F : List Dl) (K : List Br) : beginF T ⟨p, F, K⟩ = ⟨p + 2, F ++ [⟨p, 0, p + 2, 0, 0, 0⟩], K ++ [⟨F.length, y, clo y, 0⟩]⟩ := by
  have h1 := drop_split h
  have h2 := drop_split h1.2.2
  have hc : y = 123 ∨ y = 40 := by
    unfold clo at hy
    by_cases a : y = 123
    · exact .inl a
    · rw [if_neg a] at hy
      by_cases c : y = 40
      · exact .inr c
      · rw [if_neg c] at hy; exact absurd rfl hy
  unfold beginF
  rw [h2.1]
  dsimp only
  rcases hc with rfl | rfl
  · rfl
  · rfl
theorem clo_ne {y : UInt8} (h : clo y ≠ 0) : clo y ≠ 58 ∧ clo y ≠ 36 ∧ y ≠ 58 ∧ y ≠ 36 ∧ y ≠ clo y := by
  unfold clo at h ⊢
  by_cases a : y = 123
  · subst a; decide
  · rw [if_neg a] at h ⊢
    by_cases c : y = 40
    · subst c; decide
    · rw [if_neg c] at h; exact absurd rfl h

/-- The dollar of a use, when its end is found k bytes on from a place p. -/
def closeD (D : Dl) (p k : Nat) (t : List UInt8) : Dl :=
  if D.nt = 0 then
    if cutL (t.take (k - 1)) = k - 1 then { D with nt := p + k - 1, en := p + k }
    else { D with nt := p + cutL (t.take (k - 1)), mf := p + cutL (t.take (k - 1)) + 1, mt := p + k - 1, en := p + k }
  else { D with mt := p + k - 1, en := p + k }
def Clean (F : List Dl) (n p q : Nat) : Prop := ∀ i x, n ≤ i → F[i]? = some x → p ≤ x.fr ∧ x.fr < q ∧ 0 < x.en
theorem Clean.none (F : List Dl) (p q : Nat) : Clean F F.length p q := fun i x hi h => by
  rw [List.getElem?_eq_none_iff.2 hi] at h; cases h

/-- Some bytes on, that are not the end. -/
theorem closeD_skip {D : Dl} {p k j : Nat} {t : List UInt8} (hk : 1 ≤ k) (hc : cutL (t.take (j + k - 1)) = j + cutL ((t.drop j).take (k - 1))) : closeD D p (j + k) t = closeD D (p + j) k (t.drop j) := by
  unfold closeD
  by_cases h : D.nt = 0
  · rw [if_pos h, if_pos h, hc]
    by_cases h2 : cutL ((t.drop j).take (k - 1)) = k - 1
    · rw [if_pos (by omega), if_pos h2, show p + (j + k) = p + j + k by omega]
    · rw [if_neg (by omega), if_neg h2, show p + (j + k) = p + j + k by omega, show p + (j + cutL ((t.drop j).take (k - 1))) = p + j + cutL ((t.drop j).take (k - 1)) by omega]
  · rw [if_neg h, if_neg h, show p + (j + k) = p + j + k by omega]
end Go.Proofs.YtbciedpjaajhcaaDoor.Ex
