/-
  QE3 QE2 QB1
-/
import Derived.Test.YtpcpcfnmcfjomaaGreatDoorK28
import Derived.Test.YtpcpcfnmcfjomaaGreatDoorK35
import Derived.Test.YtpcpcfnmcfjomaaGreatDoorK15
import Derived.Test.YtpcpcfnmcfjomaaGreatDoorK33
import Derived.Lib.Atoi
namespace Go.Proofs.YtpcpcfnmcfjomaaGreatDoor.DQ
open Go.RowKit Go.Shelf
theorem idx_is (e : UInt8) : ∀ t : List UInt8, Lib.index t [e] = match idxC e t with | some i => (i : Int) | none => -1
  | [] => by simp [Lib.index, idxC]
  | c :: t => by
    rw [index_one_cons, idx_is e t, idxC]
    by_cases h : c = e
    · rw [if_pos h, if_pos h]; rfl
    · rw [if_neg h, if_neg h]
      cases idxC e t with
      | none => rfl
      | some i => show (if (i : Int) = -1 then (-1 : Int) else i + 1) = ((i + 1 : Nat) : Int); rw [if_neg (by omega)]; omega
theorem idx_lt {e : UInt8} : ∀ {t : List UInt8} {i : Nat}, idxC e t = some i → i < t.length ∧ t[i]? = some e
  | [], i, h => by cases h
  | c :: t, i, h => by
    rw [idxC] at h
    by_cases hc : c = e
    · rw [if_pos hc] at h; cases h; exact ⟨by simp, by rw [hc]; rfl⟩
    · rw [if_neg hc] at h
      cases hx : idxC e t with
      | none => rw [hx] at h; cases h
      | some j =>
        rw [hx] at h
        cases h
        obtain ⟨h1, h2⟩ := idx_lt hx
        exact ⟨by simp; exact h1, by simpa using h2⟩
theorem cut_idx (e : UInt8) (a : List UInt8) : Lib.cut a [e] = match idxC e a with | some i => (a.take i, a.drop (i + 1), true) | none => (a, [], false) := by
  have hi := idx_is e a
  unfold Lib.cut
  cases hx : idxC e a with
  | none => rw [hx] at hi; rw [hi]; rfl
  | some i =>
    rw [hx] at hi
    dsimp only at hi ⊢
    rw [hi, if_pos (by simp)]
    rfl
theorem suffix_is (s a : List UInt8) : Lib.hasSuffix s a = true ↔ ¬ (s.length < a.length ∨ s.drop (s.length - a.length) ≠ a) := by
  unfold Lib.hasSuffix
  rw [List.isSuffixOf_iff_suffix, List.suffix_iff_eq_drop]
  constructor
  · intro h
    rintro (h1 | h1)
    · have := congrArg List.length h
      rw [List.length_drop] at this
      omega
    · exact h1 h.symm
  · intro h
    rcases Classical.em (s.drop (s.length - a.length) = a) with h1 | h1
    · exact h1.symm
    · exact absurd (.inr h1) h
theorem prefix_is (s a : List UInt8) : Lib.hasPrefix s a = true ↔ s.take a.length = a := by
  unfold Lib.hasPrefix
  rw [List.isPrefixOf_iff_prefix, List.prefix_iff_eq_take]
  exact ⟨Eq.symm, Eq.symm⟩
theorem replace_one (b m : List UInt8) : Lib.replace b [37] m 1 = match idxC 37 b with
    | some j => b.take j ++ m ++ b.drop (j + 1)
    | none => b := by
  have hi := idx_is 37 b
  unfold Lib.replace
  cases hx : idxC 37 b with
  | none =>
    rw [hx] at hi
    dsimp only at hi ⊢
    split
    · rfl
    · cases hn : Lib.replaceNum b [37] 1 with
      | zero => rfl
      | succ k => rw [Lib.replaceK, if_pos (by rw [hi]; rfl)]
  | some j =>
    rw [hx] at hi
    dsimp only at hi ⊢
    obtain ⟨h1, h2⟩ := idx_lt hx
    split
    · rename_i hm
      have hm' : m = [37] := (of_decide_eq_true (by simpa using hm) : [37] = m).symm
      rw [hm']
      have := List.take_append_drop j b
      rw [List.drop_eq_getElem_cons h1, (List.getElem?_eq_some_iff.1 h2).2] at this
      rw [List.append_assoc]; exact this.symm
    · have hc : Lib.replaceNum b [37] 1 = 1 := by
        unfold Lib.replaceNum
        have : 1 ≤ Lib.count b [37] := by
          unfold Lib.count
          rw [Lib.countFrom, if_neg (by rw [hi]; simp)]
          omega
        rw [if_neg (by omega)]; rfl
      rw [hc, Lib.replaceK_hit _ _ _ _ j hi, Lib.replaceK]
      rfl
theorem ended_eq (a b s : List UInt8) : endedL a b s = sufA a b s := by
  unfold endedL sufA
  rw [cut_idx]
  cases hx : idxC 37 a with
  | none =>
    dsimp only
    rw [if_neg (fun h => by cases h)]
    by_cases h : Lib.hasSuffix s a = true
    · rw [if_pos h, if_neg ((suffix_is s a).1 h)]
      unfold Lib.trimSuffix
      rw [if_pos h]
    · rw [if_neg h, if_pos (Classical.not_not.1 fun h2 => h ((suffix_is s a).2 h2))]
  | some i =>
    dsimp only
    obtain ⟨hl, _⟩ := idx_lt hx
    rw [if_pos rfl]
    have e3 : (a.take i).length = i := by rw [List.length_take]; omega
    have e4 : (a.drop (i + 1)).length = a.length - (i + 1) := by rw [List.length_drop]
    rw [e3, e4, replace_one]
    have henc : enclB s (a.take i) (a.drop (i + 1)) = true ↔ ¬ (s.length < i + (a.length - (i + 1)) ∨ s.take i ≠ a.take i ∨ s.drop (s.length - (a.length - (i + 1))) ≠ a.drop (i + 1)) := by
      unfold enclB
      rw [Bool.and_eq_true, Bool.and_eq_true, decide_eq_true_eq, prefix_is, suffix_is, e3, e4]
      constructor
      · rintro ⟨h1, h2, h3⟩ (h | h | h)
        · omega
        · exact h h2
        · exact h3 (.inr h)
      · intro h
        refine ⟨?_, ?_, ?_⟩
        · rcases Nat.lt_or_ge s.length (i + (a.length - (i + 1))) with h1 | h1
          · exact absurd (.inl h1) h
          · exact h1
        · exact Classical.not_not.1 fun h1 => h (.inr (.inl h1))
        · rintro (h1 | h1)
          · exact h (.inl (by omega))
          · exact h (.inr (.inr h1))
    by_cases h : enclB s (a.take i) (a.drop (i + 1)) = true
    · rw [if_pos h, if_neg (henc.1 h)]
      cases idxC 37 b <;> rfl
    · rw [if_neg h, if_pos (Classical.not_not.1 fun h2 => h (henc.2 h2))]
theorem sizeL_app' (a b : List ByteArray) : sizeL (a ++ b) = sizeL a + sizeL b := by simp [sizeL]
theorem fold_is (act : ActF) (g : ByteArray → Option ByteArray) (h : ∀ d x made, act d x made = some (d, g x)) : ∀ (l made : List ByteArray) (d : Bool), sizeL made ≤ 65536 → foldA act made d l = if sizeL (made ++ l.filterMap g) ≤ 65536 then some (made ++ l.filterMap g) else none
  | [], made, d, hs => by rw [foldA]; simp [hs]
  | x :: t, made, d, hs => by
    rw [foldA, h]
    cases hg : g x with
    | none =>
      dsimp only
      rw [fold_is act g h t made d hs, List.filterMap_cons_none hg]
    | some y =>
      dsimp only
      rw [List.filterMap_cons_some hg]
      by_cases hy : y.size + sizeL made ≤ 65536
      · rw [if_pos hy, fold_is act g h t (made ++ [y]) d (by rw [sizeL_app']; simp [sizeL] at hy ⊢; omega), List.append_assoc]
        rfl
      · rw [if_neg hy, if_neg]
        rw [sizeL_app']
        simp only [sizeL, List.map_cons, List.sum_cons] at hy ⊢
        omega
theorem fold_few (act : ActF) (g : ByteArray → Option ByteArray) (h : ∀ d x made, act d x made = some (d, g x)) (l : List ByteArray) (hl : l.length ≤ 4096) : foldA act [] false l = fewO (l.filterMap g) := by
  rw [fold_is act g h l [] false (Nat.zero_le _), List.nil_append]
  unfold fewO
  have := List.length_filterMap_le g l
  by_cases hs : sizeL (l.filterMap g) ≤ 65536
  · rw [if_pos hs, if_pos ⟨by omega, hs⟩]
  · rw [if_neg hs, if_neg (fun h => hs h.2)]
theorem place_nth (n : Int) (k : Nat) : placeI n k = if 1 ≤ nthI n k ∧ nthI n k ≤ k then nthI n k - 1 else -1 := by
  have e : (if n < 0 then n + ((k : Int) + 1) else n) = nthI n k := by unfold nthI; split <;> omega
  unfold placeI
  rw [e]
  by_cases h : 1 ≤ nthI n k ∧ nthI n k ≤ k
  · rw [if_pos h, if_neg (by omega)]
  · rw [if_neg h, if_pos (by omega)]
theorem piece_eq (f t : Int) (l : List ByteArray) : pieceL f t l =
    if ¬ (1 ≤ nthI f l.length ∧ nthI f l.length ≤ l.length) ∨ ¬ (1 ≤ nthI t l.length ∧ nthI t l.length ≤ l.length) then []
    else if nthI t l.length < nthI f l.length then ((l.take (nthI f l.length).toNat).drop (nthI t l.length - 1).toNat).reverse
      else (l.take (nthI t l.length).toNat).drop (nthI f l.length - 1).toNat := by
  unfold pieceL
  rw [place_nth, place_nth]
  obtain ⟨F, hF⟩ : ∃ F, F = nthI f l.length := ⟨_, rfl⟩
  obtain ⟨T, hT⟩ : ∃ T, T = nthI t l.length := ⟨_, rfl⟩
  rw [← hF, ← hT]
  have key : ∀ i j : Int, 1 ≤ i → i ≤ j → j ≤ l.length → (l.drop (i - 1).toNat).take ((j - 1).toNat + 1 - (i - 1).toNat) = (l.take j.toNat).drop (i - 1).toNat := fun i j h1 h2 h3 => by
    rw [List.drop_take]
    congr 1
    omega
  by_cases h1 : 1 ≤ F ∧ F ≤ l.length
  · by_cases h2 : 1 ≤ T ∧ T ≤ l.length
    · rw [if_pos h1, if_pos h2, if_neg (show ¬ (F - 1 < 0 ∨ T - 1 < 0) by omega), if_neg (show ¬ (¬ (1 ≤ F ∧ F ≤ (l.length : Int)) ∨ ¬ (1 ≤ T ∧ T ≤ (l.length : Int))) from fun h => h.elim (fun h => h h1) fun h => h h2)]
      by_cases h3 : T < F
      · rw [if_neg (show ¬ F - 1 ≤ T - 1 by omega), if_pos h3, key T F h2.1 (by omega) h1.2]
      · rw [if_pos (show F - 1 ≤ T - 1 by omega), if_neg h3, key F T h1.1 (by omega) h2.2]
    · rw [if_neg h2, if_pos (.inr (by decide)), if_pos (.inr h2)]
  · rw [if_neg h1, if_pos (.inl (by decide)), if_pos (.inl h1)]
end Go.Proofs.YtpcpcfnmcfjomaaGreatDoor.DQ
namespace Go.Proofs.YtpcpcfnmcfjomaaGreatDoor.DQ
open Go.RowKit Go.Shelf
theorem digs_mem (c : UInt8) : digs.contains c = true ↔ ¬ (c.toNat < 48 ∨ 57 < c.toNat) := by
  unfold digs
  simp only [List.contains_cons, List.contains_nil, Bool.or_false, Bool.or_eq_true, beq_iff_eq]
  constructor
  · rintro (rfl | rfl | rfl | rfl | rfl | rfl | rfl | rfl | rfl | rfl) <;> decide
  · intro h
    have hc : c.toNat = 48 ∨ c.toNat = 49 ∨ c.toNat = 50 ∨ c.toNat = 51 ∨ c.toNat = 52 ∨ c.toNat = 53 ∨ c.toNat = 54 ∨ c.toNat = 55 ∨ c.toNat = 56 ∨ c.toNat = 57 := by omega
    have e : ∀ d : UInt8, c.toNat = d.toNat → c = d := fun d hd => UInt8.toNat_inj.1 hd
    rcases hc with h | h | h | h | h | h | h | h | h | h
    · exact .inl (e 48 h)
    · exact .inr (.inl (e 49 h))
    · exact .inr (.inr (.inl (e 50 h)))
    · exact .inr (.inr (.inr (.inl (e 51 h))))
    · exact .inr (.inr (.inr (.inr (.inl (e 52 h)))))
    · exact .inr (.inr (.inr (.inr (.inr (.inl (e 53 h))))))
    · exact .inr (.inr (.inr (.inr (.inr (.inr (.inl (e 54 h)))))))
    · exact .inr (.inr (.inr (.inr (.inr (.inr (.inr (.inl (e 55 h))))))))
    · exact .inr (.inr (.inr (.inr (.inr (.inr (.inr (.inr (.inl (e 56 h)))))))))
    · exact .inr (.inr (.inr (.inr (.inr (.inr (.inr (.inr (.inr (e 57 h)))))))))
theorem digit_is (c : UInt8) : Lib.digitVal c = if c.toNat < 48 ∨ 57 < c.toNat then none else some (c.toNat - 48) := by
  unfold Lib.digitVal
  by_cases h : c.toNat < 48 ∨ 57 < c.toNat
  · rw [if_pos h, if_neg (by omega)]
  · rw [if_neg h, if_pos (by omega)]
theorem take_while (p : UInt8 → Bool) : ∀ (l : List UInt8) (c : UInt8), c ∈ l.takeWhile p → p c = true
  | [], c, h => by simp at h
  | d :: t, c, h => by
    rw [List.takeWhile_cons] at h
    by_cases hd : p d = true
    · rw [if_pos hd] at h
      rcases List.mem_cons.1 h with rfl | h
      · exact hd
      · exact take_while p t c h
    · rw [if_neg hd] at h; simp at h
theorem trim_all {l : List UInt8} : Lib.trimS l digs = [] ↔ ∀ c ∈ l, ¬ (c.toNat < 48 ∨ 57 < c.toNat) := by
  unfold Lib.trimS Lib.trimLeftS Lib.trimRightS
  have hd : ∀ (p : UInt8 → Bool) (l : List UInt8), l.dropWhile p = [] ↔ ∀ c ∈ l, p c = true := by
    intro p l
    induction l with
    | nil => simp
    | cons c t ih =>
      rw [List.dropWhile_cons]
      by_cases h : p c = true
      · rw [if_pos h, ih]; simp [h]
      · rw [if_neg h]; simp [h]
  rw [hd]
  have hsplit : ∀ (p : UInt8 → Bool) (l : List UInt8), (∀ c ∈ (l.dropWhile p).reverse, p c = true) ↔ ∀ c ∈ l, p c = true := by
    intro p l
    constructor
    · intro h c hc
      have h2 : ∀ c ∈ l.dropWhile p, p c = true := fun c hc => h c (List.mem_reverse.2 hc)
      rw [← List.takeWhile_append_dropWhile (p := p) (l := l)] at hc
      rcases List.mem_append.1 hc with hc | hc
      · exact take_while p l c hc
      · exact h2 c hc
    · intro h c hc
      exact h c ((List.dropWhile_sublist p).mem (List.mem_reverse.1 hc))
  rw [hsplit]
  constructor
  · intro h c hc
    exact (digs_mem c).1 (h c (List.mem_reverse.2 hc))
  · intro h c hc
    exact (digs_mem c).2 (h c (List.mem_reverse.1 hc))
theorem dec_none {l : List UInt8} {a : Nat} (h : ¬ ∀ c ∈ l, ¬ (c.toNat < 48 ∨ 57 < c.toNat)) : Lib.decFrom a l = none := by
  induction l generalizing a with
  | nil => exact absurd (fun c hc => by simp at hc) h
  | cons c t ih =>
    rw [Lib.decFrom, digit_is]
    by_cases hc : c.toNat < 48 ∨ 57 < c.toNat
    · rw [if_pos hc]
    · rw [if_neg hc]
      refine ih fun h2 => h fun d hd => ?_
      rcases List.mem_cons.1 hd with rfl | hd
      · exact hc
      · exact h2 d hd
theorem dec_some {l : List UInt8} {a : Nat} (h : ∀ c ∈ l, ¬ (c.toNat < 48 ∨ 57 < c.toNat)) : ∃ n, Lib.decFrom a l = some n := by
  induction l generalizing a with
  | nil => exact ⟨a, rfl⟩
  | cons c t ih =>
    rw [Lib.decFrom, digit_is, if_neg (h c (by simp))]
    exact ih fun d hd => h d (by simp [hd])
theorem numD_is : ∀ (l : List UInt8) (i a : Nat), numD l i a = if l = [] ∨ l.length + i ≤ 6 then Lib.decFrom a l else none
  | [], i, a => by rw [numD, if_pos (.inl rfl)]; rfl
  | c :: t, i, a => by
    rw [numD, Lib.decFrom, digit_is]
    by_cases hc : c.toNat < 48 ∨ 57 < c.toNat
    · rw [if_pos hc, if_pos hc]; simp
    · rw [if_neg hc, if_neg hc]
      dsimp only
      by_cases hi : 6 ≤ i
      · rw [if_pos hi, if_neg (by simp; omega)]
      · rw [if_neg hi, numD_is t]
        by_cases h2 : t = [] ∨ t.length + (i + 1) ≤ 6
        · rw [if_pos h2, if_pos (.inr (by rcases h2 with rfl | h2 <;> simp <;> omega))]
        · rw [if_neg h2, if_neg (fun h3 => h2 (.inr (by rcases h3 with h3 | h3 <;> simp at h3; omega)))]
theorem sign_is (l : List UInt8) : Lib.trimPrefix l [45] = signL l := by
  unfold Lib.trimPrefix Lib.hasPrefix signL
  cases l with
  | nil => simp
  | cons c t =>
    by_cases h : c = 45
    · subst h; simp
    · have : ((45 : UInt8) == c) = false := by simpa using fun e : 45 = c => h e.symm
      simp [List.isPrefixOf, this, h]
theorem num_eq (l : List UInt8) : numO l = if (numA l).2 = true then some (numA l).1 else none := by
  have hD := numD_is (signL l) 0 0
  unfold numO numA
  rw [sign_is]
  by_cases h6 : 6 < (signL l).length
  · have hn : ¬ (signL l = [] ∨ (signL l).length + 0 ≤ 6) := fun h => by
      rcases h with h | h
      · rw [h] at h6; simp at h6
      · omega
    rw [if_neg hn] at hD
    rw [if_pos (.inl h6), hD]
    simp
  · rw [if_pos (.inr (by omega))] at hD
    rw [hD]
    by_cases ht : Lib.trimS (signL l) digs = []
    · rw [if_neg (fun h => h.elim h6 fun h => h ht)]
      obtain ⟨n, hn⟩ := dec_some (a := 0) (trim_all.1 ht)
      rw [hn]
      dsimp only
      cases l with
      | nil => simp [Lib.atoi, signL]
      | cons c t =>
        by_cases h45 : c = 45
        · subst h45
          have hs : signL (45 :: t) = t := rfl
          rw [hs] at hn ⊢
          cases t with
          | nil => simp [Lib.atoi, Lib.decNat]
          | cons d t => simp [Lib.atoi, Lib.decNat, hn]
        · have hs : signL (c :: t) = c :: t := by unfold signL; rw [if_neg (by simpa using h45)]
          rw [hs] at hn ⊢ ht
          have h43 : ¬ c = 43 := fun e => by
            have := trim_all.1 ht c (by simp)
            rw [e] at this; exact this (by decide)
          simp [Lib.atoi, Lib.decNat, h45, h43, hn]
    · rw [if_pos (.inr ht), dec_none (fun h => ht (trim_all.2 h))]
      simp
theorem dots_cons (c : UInt8) (t : List UInt8) : Lib.index (c :: t) [46, 46] = if c = 46 ∧ t.head? = some 46 then 0 else if Lib.index t [46, 46] = -1 then -1 else Lib.index t [46, 46] + 1 := by
  conv => lhs; unfold Lib.index
  by_cases h : c = 46 ∧ t.head? = some 46
  · rw [if_pos h]
    cases t with
    | nil => simp at h
    | cons d t =>
      obtain ⟨rfl, h2⟩ := h
      obtain rfl : d = 46 := Option.some.inj h2
      simp
  · rw [if_neg h]
    have : ([46, 46] : List UInt8).isPrefixOf (c :: t) = false := by
      cases t with
      | nil => simp [List.isPrefixOf]
      | cons d t =>
        simp only [List.isPrefixOf, List.head?_cons, Option.some.injEq] at h ⊢
        simp only [Bool.and_true, Bool.and_eq_false_iff, beq_eq_false_iff_ne]
        by_cases h1 : c = 46
        · exact .inr fun e => h ⟨h1, e.symm⟩
        · exact .inl fun e => h1 e.symm
    simp [this]
theorem dots_is : ∀ x : List UInt8, Lib.index x [46, 46] = match dotsI x with | some d => (d : Int) | none => -1
  | [] => by simp [Lib.index, dotsI]
  | [c] => by
    rw [dots_cons, if_neg (by simp)]
    simp [Lib.index, dotsI]
  | a :: b :: t => by
    rw [dots_cons, dots_is (b :: t), dotsI]
    by_cases h : a = 46 ∧ b = 46
    · rw [if_pos ⟨h.1, by rw [h.2]; rfl⟩, if_pos h]; rfl
    · rw [if_neg (fun e => h ⟨e.1, Option.some.inj e.2⟩), if_neg h]
      cases dotsI (b :: t) with
      | none => rfl
      | some d => show (if (d : Int) = -1 then (-1 : Int) else d + 1) = ((d + 1 : Nat) : Int); rw [if_neg (by omega)]; omega
def Bd (f : Int) : Prop := -10000000 ≤ f ∧ f ≤ 10000000
theorem dec_lt : ∀ (l : List UInt8) (a n : Nat), Lib.decFrom a l = some n → n < (a + 1) * 10 ^ l.length
  | [], a, n, h => by rw [Lib.decFrom] at h; cases h; simp
  | c :: t, a, n, h => by
    rw [Lib.decFrom, digit_is] at h
    by_cases hc : c.toNat < 48 ∨ 57 < c.toNat
    · rw [if_pos hc] at h; cases h
    · rw [if_neg hc] at h
      have h2 := dec_lt t _ n h
      have h3 : a * 10 + (c.toNat - 48) + 1 ≤ (a + 1) * 10 := by omega
      have h4 := Nat.mul_le_mul_right (10 ^ t.length) h3
      rw [List.length_cons, Nat.pow_succ, Nat.mul_comm (10 ^ t.length) 10, ← Nat.mul_assoc]
      omega
theorem numA_bd (l : List UInt8) : Bd (numA l).1 := by
  have hD := numD_is (signL l) 0 0
  unfold numA Bd
  cases hx : numD (signL l) 0 0 with
  | none => simp
  | some n =>
    rw [hx] at hD
    have hn : n < 1000000 := by
      split at hD
      · rename_i h
        have h1 := dec_lt _ _ _ hD.symm
        have h2 : (signL l).length ≤ 6 := by
          rcases h with h | h
          · rw [h]; exact Nat.zero_le _
          · omega
        have h3 := Nat.pow_le_pow_right (n := 10) (by omega) h2
        omega
      · cases hD
    dsimp only
    split <;> omega
inductive RelU : Um → Dm → Prop where
  | same (k a b : ByteArray) (hk : k ≠ ⟨#[91]⟩ ∧ k ≠ ⟨#[35]⟩ ∧ k ≠ ⟨#[42]⟩) : RelU { md := { kind := k, a := a, b := b } } { kind := k, a := a, b := b }
  | count : RelU { md := { kind := ⟨#[35]⟩ } } { kind := ⟨#[91]⟩, way := 35 }
  | join : RelU { md := { kind := ⟨#[42]⟩ } } { kind := ⟨#[91]⟩, way := 42 }
  | one (f : Int) (hf : Bd f) : RelU { md := { kind := ⟨#[91]⟩, frm := f, upto := f } } { kind := ⟨#[91]⟩, frm := f, way := 110 }
  | two (f t : Int) (hf : Bd f) (ht : Bd t) : RelU { md := { kind := ⟨#[91]⟩, frm := f, upto := t } } { kind := ⟨#[91]⟩, frm := f, upto := t, way := 114 }
theorem in_eq (x : List UInt8) : match choO x with
    | none => (inA x).2 = false
    | some m => (inA x).2 = true ∧ RelU { md := m } (inA x).1 := by
  unfold choO inA
  by_cases h : x = [35] ∨ x = [42]
  · rw [if_pos h, if_pos h]
    refine ⟨rfl, ?_⟩
    rcases h with rfl | rfl
    · exact .count
    · exact .join
  · rw [if_neg h, if_neg h]
    have hd := dots_is x
    unfold Lib.cut
    cases hx : dotsI x with
    | none =>
      rw [hx] at hd
      rw [hd, if_neg (by decide)]
      dsimp only
      rw [if_neg (by simp), num_eq]
      by_cases hn : (numA x).2 = true
      · rw [if_pos hn]; exact ⟨hn, .one _ (numA_bd _)⟩
      · rw [if_neg hn]; simpa using hn
    | some d =>
      rw [hx] at hd
      rw [hd, if_pos (by simp)]
      dsimp only
      rw [if_pos rfl, num_eq, num_eq]
      have e1 : ((d : Int)).toNat = d := by omega
      rw [e1]
      have e2 : ([46, 46] : List UInt8).length = 2 := rfl
      rw [e2]
      by_cases hn : (numA (x.take d)).2 = true
      · rw [if_pos hn]
        by_cases hm : (numA (x.drop (d + 2))).2 = true
        · rw [if_pos hm]; exact ⟨by rw [hn, hm]; rfl, .two _ _ (numA_bd _) (numA_bd _)⟩
        · rw [if_neg hm]; simp at hm; simp [hm]
      · rw [if_neg hn]; simp at hn; simp [hn]
inductive RelR : Ru → Do → Prop where
  | bad (e : Nat) : RelR (.bad e) (.bad (e : Int))
  | ok (u : Um) (m : Dm) (n : Nat) (h : RelU u m) : RelR (.ok u n) (.ok m n)
theorem end_cut : ∀ t : List UInt8, ((Lib.cut t [93]).2.2 = false → endP t = t.length) ∧ ((Lib.cut t [93]).2.2 = true → endP t < t.length ∧ (Lib.cut t [93]).1 = t.take (endP t) ∧ (Lib.cut t [93]).2.1 = t.drop (endP t + 1))
  | [] => by rw [cut_nil]; exact ⟨fun _ => rfl, fun h => by cases h⟩
  | c :: t => by
    obtain ⟨h1, h2⟩ := end_cut t
    rw [cut_cons]
    by_cases h : c = 93
    · rw [if_pos h]
      have : endP (c :: t) = 0 := by unfold endP; rw [List.takeWhile_cons, if_neg (by simp [noEnd, h])]; rfl
      rw [this]
      exact ⟨fun h => by simp at h, fun _ => ⟨by simp, rfl, rfl⟩⟩
    · rw [if_neg h]
      have : endP (c :: t) = endP t + 1 := by unfold endP; rw [List.takeWhile_cons, if_pos (by simp [noEnd, h])]; rfl
      rw [this]
      refine ⟨fun h3 => by rw [h1 h3]; rfl, fun h3 => ?_⟩
      obtain ⟨g1, g2, g3⟩ := h2 h3
      exact ⟨by simp; exact g1, by dsimp only; rw [g2]; rfl, by dsimp only; rw [g3]; rfl⟩
theorem pick_eq (t : List UInt8) : RelR (Ru.of (choR (91 :: t))) (pickA (91 :: t)) := by
  obtain ⟨h1, h2⟩ := end_cut t
  have he : endP (91 :: t) = endP t + 1 := by unfold endP; rw [List.takeWhile_cons, if_pos (by decide)]; rfl
  unfold choR pickA
  rw [he]
  have ed : (91 :: t).drop 1 = t := rfl
  rw [ed]
  cases hc : (Lib.cut t [93]).2.2 with
  | false =>
    rw [if_pos rfl, if_pos (by rw [h1 hc]; rfl)]
    exact .bad 4
  | true =>
    obtain ⟨g1, g2, g3⟩ := h2 hc
    rw [if_neg (by simp), if_neg (by simp; omega), g2, g3]
    have et : ((91 :: t).take (endP t + 1)).drop 1 = t.take (endP t) := by rw [List.take_succ_cons]; rfl
    rw [et]
    have hin := in_eq (t.take (endP t))
    cases ho : choO (t.take (endP t)) with
    | none =>
      rw [ho] at hin
      dsimp only at hin ⊢
      rw [if_pos (.inl hin)]
      exact .bad 12
    | some m =>
      rw [ho] at hin
      dsimp only at hin ⊢
      have hrest : (t.drop (endP t + 1) = [] ∨ (t.drop (endP t + 1)).head? = some 58) ↔ ¬ ∃ c, (91 :: t)[endP t + 1 + 1]? = some c ∧ c ≠ 58 := by
        rw [List.getElem?_cons_succ, List.head?_drop]
        cases hg : t[endP t + 1]? with
        | none =>
          rw [List.getElem?_eq_none_iff] at hg
          refine ⟨fun _ h => (by obtain ⟨c, h, _⟩ := h; cases h), fun _ => .inl (List.drop_eq_nil_of_le hg)⟩
        | some c =>
          have hl := (List.getElem?_eq_some_iff.1 hg).1
          constructor
          · rintro (h | h) ⟨d, hd, hne⟩
            · rw [List.drop_eq_nil_iff] at h; omega
            · rw [h] at hd; exact hne (Option.some.inj hd).symm
          · intro h
            refine .inr ?_
            by_cases h58 : c = 58
            · rw [h58]
            · exact absurd ⟨c, rfl, h58⟩ h
      by_cases hr : t.drop (endP t + 1) = [] ∨ (t.drop (endP t + 1)).head? = some 58
      · rw [if_pos hr, if_neg (fun h => h.elim (fun h => by rw [hin.1] at h; cases h) (hrest.1 hr))]
        have el : (t.take (endP t)).length + 2 = endP t + 1 + 1 := by rw [List.length_take]; omega
        rw [el]
        exact .ok _ _ _ hin.2
      · rw [if_neg hr, if_pos (.inr (by
          rcases Classical.em (∃ c, (91 :: t)[endP t + 1 + 1]? = some c ∧ c ≠ 58) with h | h
          · exact h
          · exact absurd (hrest.2 h) hr))]
        exact .bad 12
theorem eq_cut : ∀ t : List UInt8, match eqI t with
    | some i => Lib.cut t [61] = (t.take i, t.drop (i + 1), true)
    | none => (Lib.cut t [61]).2.2 = false
  | [] => by rw [cut_nil]; rfl
  | c :: t => by
    have ih := eq_cut t
    rw [cut_cons, eqI]
    by_cases h : c = 61
    · rw [if_pos h, if_pos h]; rfl
    · rw [if_neg h, if_neg h]
      cases hx : eqI t with
      | none => rw [hx] at ih; exact ih
      | some i => rw [hx] at ih; dsimp only [Option.map_some] at ih ⊢; rw [ih]; rfl
end Go.Proofs.YtpcpcfnmcfjomaaGreatDoor.DQ
namespace Go.Proofs.YtpcpcfnmcfjomaaGreatDoor
open Go.RowKit Go.Shelf Go.Sort
def DD (ms : List Md) (j : Nat) : Prop := ∃ m ∈ ms, m.ex = some ⟨j, 0, none⟩
theorem Held.rx {lo : Nat} {w : World} {ms : List Md} {us : List Um} (h : Held lo w ms us) {j : Nat} (hd : DD ms j) : False := by
  obtain ⟨m, hm, he⟩ := hd
  rw [h.eq] at hm
  obtain ⟨u, hu, rfl⟩ := List.mem_map.1 hm
  rw [h.non u hu] at he
  cases he
theorem Held.bel {lo : Nat} {w0 w w' : World} {ms : List Md} {us : List Um} (h : Held lo w0 ms us) (hf : X.Fr (DD ms) w w') : Below w.heap.size w w' :=
  ⟨hf.os, hf.tape, hf.output, hf.size, fun j hj => hf.block j hj fun hd => h.rx hd⟩
theorem Held.gz {lo : Nat} {w w' : World} {ms : List Md} {us : List Um} (h : Held lo w ms us) (hf : X.Fr (DD ms) w w') (hg : Gz w) : Gz w' := hg.below (h.bel hf)
def ModsT (w : World) (am : Option Addr) (ms : List Md) : Prop := ∀ k (h : k < ms.length), ∃ g o cur, am = some ⟨g, o, none⟩ ∧ w.heap[g]? = some (.cells cur 45 (0, 0)) ∧ ∀ i u, (ms[k].cells)[i]? = some u → cur[o + k * 12 + i]? = some u
theorem modsTof {base : Nat} {W : World} {a : Option Addr} {n c : Nat} {ms : List Md} (h : W.ownsRow base 45 12 (.slice a n c) ms.length (modsV ms)) : ModsT W a ms := by
  intro k hk
  obtain ⟨hxl, ⟨hv, hn⟩ | ⟨g, cap, cur, hv, hg, hcur, hcap, hcm, hcs, hct⟩⟩ := h
  · omega
  · simp only [Value.slice.injEq] at hv
    refine ⟨g, 0, cur, hv.1, hcur, fun i u hu => ?_⟩
    have hi12 : i < 12 := (Array.getElem?_eq_some_iff.1 hu).1
    have hmv : (modsV ms)[k * 12 + i]? = some u := modsV_get ms k i hk hi12 u hu
    have hlt : k * 12 + i < ms.length * 12 := by
      have : (k + 1) * 12 ≤ ms.length * 12 := Nat.mul_le_mul_right _ hk
      omega
    rw [← hct, List.getElem?_take_of_lt hlt] at hmv
    rw [Nat.zero_add, ← Array.getElem?_toList]; exact hmv
theorem ModsT.below {w w' : World} {am : Option Addr} {ms : List Md} (h : ModsT w am ms) (hb : Below w.heap.size w w') : ModsT w' am ms := by
  intro k hk
  obtain ⟨g, o, cur, h1, h2, h3⟩ := h k hk
  exact ⟨g, o, cur, h1, (hb.block g (Array.getElem?_eq_some_iff.1 h2).1).trans h2, h3⟩
theorem ModsT.fr {w w' : World} {am : Option Addr} {ms ms' : List Md} {lo : Nat} {us : List Um} (h : ModsT w am ms) (hh : Held lo w ms' us) (hf : X.Fr (DD ms') w w') : ModsT w' am ms := h.below (hh.bel hf)
theorem Held.ap {lo base : Nat} {w w' : World} {ms : List Md} {us : List Um} {v : Value} {l : List ByteArray} (h : Held lo w ms us) (k : Nat) (hk : k < ms.length) (hku : k < us.length) (_ : OwnW base w v l) (_ : X.Fr (ApD v ms[k]) w w') (_ : Fits ms[k] us[k] lo w') : Held lo w' ms us := h.any
end Go.Proofs.YtpcpcfnmcfjomaaGreatDoor
