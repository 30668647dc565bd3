/-
  A makefile's lines, in plain terms: raw lines, what comes together, notes, and what is read and written.
-/
import Derived.Lib.Split
import Derived.Lib.SplitLaws
import Derived.Lib.Replace
import Derived.Lib.SlTrimSet
import Derived.Lib.TrimByte
import Derived.Lib.Strings
namespace Go.Proofs.YtefhpoklehmlhaaDoor.Ln
open Go

def cut : List UInt8 → List (List UInt8)
  | [] => [[]]
  | c :: t => if c = 10 then [] :: cut t else match cut t with
    | [] => [[c]]
    | h :: r => (c :: h) :: r
theorem cut_ne (s : List UInt8) : cut s ≠ [] := by
  cases s with
  | nil => simp [cut]
  | cons c t =>
    unfold cut
    split
    · simp
    · split <;> simp
theorem split_cut (s : List UInt8) : ∀ k, s.count 10 ≤ k → Lib.splitK [10] 0 k s = cut s := by
  induction s with
  | nil =>
    intro k _
    cases k with
    | zero => rfl
    | succ k => rfl
  | cons c t ih =>
    intro k hk
    by_cases hc : c = 10
    · subst hc
      cases k with
      | zero => simp at hk
      | succ k =>
        have h0 : Lib.index (10 :: t) [10] = ((0 : Nat) : Int) := by simp [Lib.index]
        simp at hk
        have e1 : Lib.splitK [10] 0 (k + 1) (10 :: t) = [] :: Lib.splitK [10] 0 k t := by
          rw [Lib.splitK, h0]; simp
        rw [e1, ih k hk]
        simp [cut]
    · have hk' : t.count 10 ≤ k := by rw [List.count_cons_of_ne (by simpa using hc)] at hk; exact hk
      have := ih k hk'
      have hne : Lib.index (c :: t) [10] = if Lib.index t [10] == -1 then -1 else Lib.index t [10] + 1 := by
        rw [Lib.index, if_neg (by simpa using fun e => hc e.symm)]
      have hcut : cut (c :: t) = match cut t with
        | [] => [[c]]
        | h :: r => (c :: h) :: r := by rw [cut, if_neg hc]
      rw [hcut, ← this]
      cases k with
      | zero => rfl
      | succ k =>
        rw [Lib.splitK, Lib.splitK, hne]
        by_cases hm : Lib.index t [10] = -1
        · simp [hm]
        · have hge := Lib.index_ge t [10]
          obtain ⟨i, hi⟩ : ∃ i : Nat, Lib.index t [10] = i := ⟨(Lib.index t [10]).toNat, by omega⟩
          have h1 : ¬ ((i : Int) == -1) = true := by simp
          have h2 : ¬ ((i : Int) + 1 == -1) = true := by simp; omega
          rw [hi, if_neg h1, if_neg h1, if_neg h2, show ((i : Int) + 1).toNat = i + 1 by omega]
          simp

/-- The raw lines. -/
def raws : List UInt8 → List (List UInt8)
  | [] => []
  | c :: t => if c = 10 then [] :: raws t else match raws t with
    | [] => [[c]]
    | h :: r => (c :: h) :: r
theorem raws_cut (s : List UInt8) : raws s = if (cut s).getLast? = some [] then (cut s).dropLast else cut s := by
  induction s with
  | nil => simp [raws, cut]
  | cons c t ih =>
    by_cases hc : c = 10
    · have e1 : cut (c :: t) = [] :: cut t := by rw [cut, if_pos hc]
      have e2 : raws (c :: t) = [] :: raws t := by rw [raws, if_pos hc]
      have hn := cut_ne t
      obtain ⟨h, r, hr⟩ := List.exists_cons_of_ne_nil hn
      rw [e1, e2, ih, hr]
      simp only [List.getLast?_cons_cons, List.dropLast_cons_cons]
      split <;> rfl
    · have e1 : cut (c :: t) = match cut t with
        | [] => [[c]]
        | h :: r => (c :: h) :: r := by rw [cut, if_neg hc]
      have e2 : raws (c :: t) = match raws t with
        | [] => [[c]]
        | h :: r => (c :: h) :: r := by rw [raws, if_neg hc]
      have hn := cut_ne t
      obtain ⟨h, r, hr⟩ := List.exists_cons_of_ne_nil hn
      rw [e1, e2, ih, hr]
      cases r with
      | nil => cases h <;> simp
      | cons x r =>
        simp only [List.getLast?_cons_cons, List.dropLast_cons_cons]
        by_cases hl : (x :: r).getLast? = some []
        · rw [if_pos hl, if_pos hl]
        · rw [if_neg hl, if_neg hl]
theorem raws_app (s t : List UInt8) : raws (s ++ 10 :: t) = raws (s ++ [10]) ++ raws t := by
  induction s with
  | nil => simp [raws]
  | cons c s ih =>
    by_cases hc : c = 10
    · simp only [List.cons_append, raws, if_pos hc, ih]
    · have hne : raws (s ++ [10]) ≠ [] := by
        cases s with
        | nil => simp [raws]
        | cons d s =>
          simp only [List.cons_append, raws]
          split
          · simp
          · split <;> simp
      obtain ⟨h, r, hr⟩ := List.exists_cons_of_ne_nil hne
      simp only [List.cons_append, raws, if_neg hc, ih, hr]
theorem raws_end_ne (s : List UInt8) : raws (s ++ [10]) ≠ [] := by
  cases s with
  | nil => simp [raws]
  | cons d s =>
    simp only [List.cons_append, raws]
    split
    · simp
    · split <;> simp
theorem raws_end_len (s : List UInt8) : (raws (s ++ [10])).length = (s ++ [10]).count 10 := by
  induction s with
  | nil => simp [raws]
  | cons c s ih =>
    by_cases hc : c = 10
    · simp only [List.cons_append, raws, if_pos hc, List.length_cons, ih]; rw [hc]; simp
    · obtain ⟨h, r, hr⟩ := List.exists_cons_of_ne_nil (raws_end_ne s)
      rw [hr] at ih
      simp only [List.cons_append, raws, if_neg hc, hr]
      rw [List.count_cons_of_ne (by simpa using hc), ← ih]
      simp
theorem raws_plain (r : List UInt8) (h : ∀ c ∈ r, c ≠ 10) : raws (r ++ [10]) = [r] := by
  induction r with
  | nil => simp [raws]
  | cons c r ih =>
    have hc : c ≠ 10 := h c (List.mem_cons_self ..)
    simp only [List.cons_append, raws, if_neg hc, ih (fun x hx => h x (List.mem_cons_of_mem _ hx))]
theorem raws_len (s : List UInt8) : ((raws s).map fun r => r.length + 1).sum ≤ s.length + 1 ∧ (raws s).length ≤ s.length := by
  induction s with
  | nil => simp [raws]
  | cons c t ih =>
    by_cases hc : c = 10
    · simp only [raws, if_pos hc, List.map_cons, List.sum_cons, List.length_cons, List.length_nil]; omega
    · simp only [raws, if_neg hc]
      cases hr : raws t with
      | nil => simp
      | cons h r =>
        rw [hr] at ih
        simp only [List.map_cons, List.sum_cons, List.length_cons] at ih ⊢
        omega

/-- Whether an odd number of strokes stands at the end. -/
def takes (x : List UInt8) : Bool := (x.length - (Lib.trimRightB x 92).length) % 2 == 1
theorem trim_snoc_eq (x : List UInt8) (c : UInt8) : Lib.trimRightB (x ++ [c]) c = Lib.trimRightB x c := by simp [Lib.trimRightB]
theorem trim_snoc_ne (x : List UInt8) {c d : UInt8} (h : d ≠ c) : Lib.trimRightB (x ++ [d]) c = x ++ [d] := by
  simp [Lib.trimRightB, h]
theorem trim_le (x : List UInt8) (c : UInt8) : (Lib.trimRightB x c).length ≤ x.length := by
  unfold Lib.trimRightB
  rw [List.length_reverse]
  have := (List.dropWhile_suffix (· == c) (l := x.reverse)).length_le
  simpa using this
theorem takes_nil : takes [] = false := rfl
theorem takes_stroke (x : List UInt8) : takes (x ++ [92]) = !takes x := by
  unfold takes
  rw [trim_snoc_eq]
  have := trim_le x 92
  rw [Bool.eq_iff_iff]
  simp
  omega
theorem takes_other (x : List UInt8) {c : UInt8} (h : c ≠ 92) : takes (x ++ [c]) = false := by
  unfold takes
  rw [trim_snoc_ne x h]
  simp

/-- How many raw lines come together. -/
def tog : List (List UInt8) → Nat
  | [] => 1
  | [_] => 1
  | r :: r2 :: rs => if takes r then 1 + tog (r2 :: rs) else 1
theorem tog_pos (l : List (List UInt8)) : 1 ≤ tog l := by
  cases l with
  | nil => exact Nat.le_refl _
  | cons r l =>
    cases l with
    | nil => exact Nat.le_refl _
    | cons r2 l => unfold tog; split <;> omega
theorem tog_le : ∀ (l : List (List UInt8)), l ≠ [] → tog l ≤ l.length
  | [], h => absurd rfl h
  | [_], _ => Nat.le_refl _
  | r :: r2 :: l, _ => by
    have := tog_le (r2 :: l) (by simp)
    unfold tog
    split
    · simp only [List.length_cons] at this ⊢; omega
    · simp

def commandT : List (List UInt8) → List UInt8
  | [] => []
  | [r] => Lib.trimPrefix r [9]
  | r :: r2 :: rs => Lib.trimPrefix r [9] ++ 10 :: commandT (r2 :: rs)
def lf (f : Bool) (r : List UInt8) : List UInt8 := if f then r else Lib.trimLeftS r [32, 9]
def joinT : Bool → List (List UInt8) → List UInt8
  | _, [] => []
  | f, [r] => lf f r
  | f, r :: r2 :: rs => Lib.trimSuffix (lf f r) [92] ++ 32 :: joinT false (r2 :: rs)
/-- Where a note begins. -/
def noteAt (acc : List UInt8) : List UInt8 → Nat
  | [] => acc.length
  | c :: t => if c = 35 ∧ takes acc = false then acc.length else noteAt (acc ++ [c]) t
def note (s : List UInt8) : Nat := noteAt [] s
theorem noteAt_le (s : List UInt8) : ∀ acc, noteAt acc s ≤ acc.length + s.length := by
  induction s with
  | nil => intro acc; simp [noteAt]
  | cons c t ih =>
    intro acc
    unfold noteAt
    split
    · omega
    · have := ih (acc ++ [c]); simp at this ⊢; omega
theorem note_le (s : List UInt8) : note s ≤ s.length := by have := noteAt_le s []; simpa [note] using this
def bareT (s : List UInt8) : List UInt8 := Lib.trimRightS (Lib.replaceAll (s.take (note s)) [92, 35] [35]) [32, 9]
def isCmd (g : List (List UInt8)) : Bool := match g with
  | [] => false
  | r :: _ => Lib.hasPrefix r [9]
def wholeT (g : List (List UInt8)) : List UInt8 := if isCmd g then commandT g else bareT (joinT true g)
def blank (t : List UInt8) : Bool := (Lib.trimS t [32, 9]).isEmpty
structure Ln where
  text : List UInt8
  at_ : Nat
  cmd : Bool
def emit (k : Nat) (g : List (List UInt8)) : List Ln := if blank (wholeT g) then [] else [⟨wholeT g, k + 1, isCmd g⟩]
def linesA (k : Nat) (g : List (List UInt8)) : List (List UInt8) → List Ln
  | [] => []
  | r :: rs => if takes r ∧ rs ≠ [] then linesA k (g ++ [r]) rs else emit k (g ++ [r]) ++ linesA (k + g.length + 1) [] rs
theorem linesA_tog (raw : List (List UInt8)) : ∀ (k : Nat) (g : List (List UInt8)), raw ≠ [] → linesA k g raw = emit k (g ++ raw.take (tog raw)) ++ linesA (k + g.length + tog raw) [] (raw.drop (tog raw)) := by
  induction raw with
  | nil => intro k g h; exact absurd rfl h
  | cons r rs ih =>
    intro k g _
    cases rs with
    | nil => simp [linesA, tog]
    | cons r2 rs =>
      by_cases ht : takes r = true
      · have e : linesA k g (r :: r2 :: rs) = linesA k (g ++ [r]) (r2 :: rs) := by rw [linesA, if_pos ⟨ht, by simp⟩]
        have e2 : tog (r :: r2 :: rs) = tog (r2 :: rs) + 1 := by rw [tog, if_pos ht, Nat.add_comm]
        rw [e, e2, ih k (g ++ [r]) (by simp)]
        simp [Nat.add_assoc, Nat.add_comm 1]
      · have e : linesA k g (r :: r2 :: rs) = emit k (g ++ [r]) ++ linesA (k + g.length + 1) [] (r2 :: rs) := by rw [linesA, if_neg (fun h => ht h.1)]
        have e2 : tog (r :: r2 :: rs) = 1 := by rw [tog, if_neg ht]
        rw [e, e2]
        simp
/-- Whether the last raw line goes on. -/
def opens (l : List (List UInt8)) : Bool := match l.getLast? with
  | some r => takes r
  | none => false
theorem linesA_app (A B : List (List UInt8)) : ∀ (k : Nat) (g : List (List UInt8)), A ≠ [] → opens A = false → linesA k g (A ++ B) = linesA k g A ++ linesA (k + g.length + A.length) [] B := by
  induction A with
  | nil => intro k g h; exact absurd rfl h
  | cons r A ih =>
    intro k g _ ho
    cases A with
    | nil =>
      have ht : takes r = false := by simpa [opens] using ho
      simp [linesA, ht]
    | cons r2 A =>
      have ho' : opens (r2 :: A) = false := by simpa [opens] using ho
      by_cases ht : takes r = true
      · have e : linesA k g (r :: r2 :: A) = linesA k (g ++ [r]) (r2 :: A) := by rw [linesA, if_pos ⟨ht, by simp⟩]
        have e1 : linesA k g (r :: r2 :: A ++ B) = linesA k (g ++ [r]) (r2 :: A ++ B) := by
          show linesA k g (r :: (r2 :: (A ++ B))) = _
          rw [linesA, if_pos ⟨ht, by simp⟩]; rfl
        rw [e, e1, ih k (g ++ [r]) (by simp) ho']
        congr 2
        simp; omega
      · have e : linesA k g (r :: r2 :: A) = emit k (g ++ [r]) ++ linesA (k + g.length + 1) [] (r2 :: A) := by rw [linesA, if_neg (fun h => ht h.1)]
        have e1 : linesA k g (r :: r2 :: A ++ B) = emit k (g ++ [r]) ++ linesA (k + g.length + 1) [] (r2 :: A ++ B) := by
          show linesA k g (r :: (r2 :: (A ++ B))) = _
          rw [linesA, if_neg (fun h => ht h.1)]; rfl
        rw [e, e1, ih (k + g.length + 1) [] (by simp) ho', List.append_assoc]
        congr 3
        simp; omega
def shift (n : Nat) (x : Ln) : Ln := ⟨x.text, x.at_ + n, x.cmd⟩
theorem emit_shift (n k : Nat) (g : List (List UInt8)) : emit (k + n) g = (emit k g).map (shift n) := by
  unfold emit
  split
  · rfl
  · simp [shift]; omega
theorem linesA_shift (n : Nat) (B : List (List UInt8)) : ∀ (k : Nat) (g : List (List UInt8)), linesA (k + n) g B = (linesA k g B).map (shift n) := by
  induction B with
  | nil => intro k g; rfl
  | cons r B ih =>
    intro k g
    unfold linesA
    split
    · exact ih k _
    · rw [List.map_append, emit_shift, ← ih (k + g.length + 1) []]
      congr 2
      omega

structure Rd where
  lines : List Ln
  why : Nat
  at_ : Nat
/-- What is read of a text. -/
def readL (s : List UInt8) : Rd :=
  if 65536 < s.length then ⟨[], 5, 0⟩
  else if opens (raws s) then ⟨[], 4, (raws s).length⟩
  else match (linesA 0 [] (raws s))[4096]? with
    | some x => ⟨[], 5, x.at_⟩
    | none => ⟨linesA 0 [] (raws s), 0, 0⟩
theorem readL_far {s : List UInt8} (h : 65536 < s.length) : readL s = ⟨[], 5, 0⟩ := by unfold readL; rw [if_pos h]
theorem readL_open {s : List UInt8} (h : ¬ 65536 < s.length) (ho : opens (raws s) = true) : readL s = ⟨[], 4, (raws s).length⟩ := by
  unfold readL; rw [if_neg h, if_pos ho]
theorem readL_many {s : List UInt8} (h : ¬ 65536 < s.length) (ho : opens (raws s) = false) {x : Ln} (hx : (linesA 0 [] (raws s))[4096]? = some x) : readL s = ⟨[], 5, x.at_⟩ := by
  unfold readL; rw [if_neg h, if_neg (by rw [ho]; simp), hx]
theorem readL_ok {s : List UInt8} (h : ¬ 65536 < s.length) (ho : opens (raws s) = false) (hx : (linesA 0 [] (raws s)).length ≤ 4096) : readL s = ⟨linesA 0 [] (raws s), 0, 0⟩ := by
  unfold readL; rw [if_neg h, if_neg (by rw [ho]; simp), List.getElem?_eq_none hx]
/-- Without a fault: all lines. -/
theorem readL_fine {s : List UInt8} (h : (readL s).why = 0) : s.length ≤ 65536 ∧ opens (raws s) = false ∧ (linesA 0 [] (raws s)).length ≤ 4096 ∧ readL s = ⟨linesA 0 [] (raws s), 0, 0⟩ := by
  by_cases h1 : 65536 < s.length
  · rw [readL_far h1] at h; cases h
  cases h2 : opens (raws s) with
  | true => rw [readL_open h1 h2] at h; cases h
  | false =>
    cases h3 : (linesA 0 [] (raws s))[4096]? with
    | some x => rw [readL_many h1 h2 h3] at h; cases h
    | none => exact ⟨by omega, rfl, List.getElem?_eq_none_iff.1 h3, readL_ok h1 h2 (List.getElem?_eq_none_iff.1 h3)⟩
theorem readL_fault {s : List UInt8} (h : (readL s).why ≠ 0) : (readL s).lines = [] := by
  by_cases h1 : 65536 < s.length
  · rw [readL_far h1]
  cases h2 : opens (raws s) with
  | true => rw [readL_open h1 h2]
  | false =>
    cases h3 : (linesA 0 [] (raws s))[4096]? with
    | some x => rw [readL_many h1 h2 h3]
    | none => exact absurd (by rw [readL_ok h1 h2 (List.getElem?_eq_none_iff.1 h3)]) h
end Go.Proofs.YtefhpoklehmlhaaDoor.Ln
