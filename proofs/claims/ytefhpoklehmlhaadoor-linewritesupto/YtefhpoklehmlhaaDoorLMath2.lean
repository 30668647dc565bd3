/-
  What follows of a makefile's lines: they rise, they come back as they were written, and two texts have the lines of both.
-/
import Derived.Test.YtefhpoklehmlhaaDoorLMath
namespace Go.Proofs.YtefhpoklehmlhaaDoor.Ln
open Go

theorem mem_emit {k : Nat} {g : List (List UInt8)} {x : Ln} (h : x ∈ emit k g) : x.at_ = k + 1 ∧ x.text = wholeT g ∧ x.cmd = isCmd g ∧ blank x.text = false := by
  unfold emit at h
  split at h
  · cases h
  · rename_i hb
    simp at h
    subst h
    exact ⟨rfl, rfl, rfl, by simpa using hb⟩
/-- What a line that was read is like. -/
structure Fine (x : Ln) : Prop where
  bare : blank x.text = false
  trim : x.cmd = false → ∃ t, x.text = Lib.trimRightS t [32, 9]
theorem lines_fine (R : List (List UInt8)) : ∀ (k : Nat) (g : List (List UInt8)) (x : Ln), x ∈ linesA k g R → k < x.at_ ∧ Fine x := by
  induction R with
  | nil => intro k g x h; cases h
  | cons r R ih =>
    intro k g x h
    unfold linesA at h
    split at h
    · exact ih _ _ x h
    · rcases List.mem_append.1 h with h | h
      · obtain ⟨h1, h2, h3, h4⟩ := mem_emit h
        refine ⟨by omega, h4, fun hc => ?_⟩
        rw [h3] at hc
        rw [h2]; unfold wholeT
        rw [hc, if_neg (by simp)]
        exact ⟨_, rfl⟩
      · obtain ⟨h1, h2⟩ := ih _ _ x h
        exact ⟨by omega, h2⟩
theorem lines_rise (R : List (List UInt8)) : ∀ (k : Nat) (g : List (List UInt8)), (linesA k g R).Pairwise (fun x y => x.at_ < y.at_) := by
  induction R with
  | nil => intro k g; exact List.Pairwise.nil
  | cons r R ih =>
    intro k g
    unfold linesA
    split
    · exact ih _ _
    · refine List.pairwise_append.2 ⟨?_, ih _ _, fun x hx y hy => ?_⟩
      · unfold emit; split
        · exact List.Pairwise.nil
        · exact List.pairwise_singleton _ _
      · have h1 := (mem_emit hx).1
        have h2 := (lines_fine _ _ _ y hy).1
        omega
theorem blank_ne {t : List UInt8} (h : blank t = false) : t ≠ [] := by
  rintro rfl; cases h
theorem trimR_last {t l : List UInt8} {c : UInt8} (h : Lib.trimRightS t [32, 9] = l ++ [c]) : c ≠ 32 ∧ c ≠ 9 := by
  unfold Lib.trimRightS at h
  have h2 := congrArg List.reverse h
  rw [List.reverse_reverse, List.reverse_append] at h2
  simp only [List.reverse_cons, List.reverse_nil, List.nil_append, List.singleton_append] at h2
  have h3 := List.head?_dropWhile_not (fun b => [32, 9].contains b) t.reverse
  rw [h2] at h3
  simp at h3
  exact ⟨h3.1, h3.2⟩
theorem trimR_self {l : List UInt8} {c : UInt8} (h1 : c ≠ 32) (h2 : c ≠ 9) : Lib.trimRightS (l ++ [c]) [32, 9] = l ++ [c] := by
  simp [Lib.trimRightS, h1, h2]

def hash (t : List UInt8) : List UInt8 := t.flatMap fun c => if c = 35 then [92, 35] else [c]
theorem hash_nil : hash [] = [] := rfl
theorem hash_hit (t : List UInt8) : hash (35 :: t) = 92 :: 35 :: hash t := by simp [hash]
theorem hash_miss (t : List UInt8) {c : UInt8} (h : c ≠ 35) : hash (c :: t) = c :: hash t := by simp [hash, h]
theorem hash_app (a b : List UInt8) : hash (a ++ b) = hash a ++ hash b := by simp [hash]
theorem hash_len (t : List UInt8) : (hash t).length ≤ 2 * t.length := by
  induction t with
  | nil => simp [hash]
  | cons c t ih =>
    by_cases h : c = 35
    · rw [h, hash_hit]; simp only [List.length_cons]; omega
    · rw [hash_miss t h]; simp only [List.length_cons]; omega
theorem hash_no10 {t : List UInt8} (h : ∀ c ∈ t, c ≠ 10) : ∀ c ∈ hash t, c ≠ 10 := by
  induction t with
  | nil => intro c hc; cases hc
  | cons d t ih =>
    have ih' := ih fun c hc => h c (List.mem_cons_of_mem _ hc)
    by_cases hd : d = 35
    · rw [hd, hash_hit]
      intro c hc
      rcases List.mem_cons.1 hc with rfl | hc
      · decide
      · rcases List.mem_cons.1 hc with rfl | hc
        · decide
        · exact ih' c hc
    · rw [hash_miss t hd]
      intro c hc
      rcases List.mem_cons.1 hc with rfl | hc
      · exact h _ (List.mem_cons_self ..)
      · exact ih' c hc
theorem repl_hash (s : List UInt8) : Lib.replaceAll s [35] [92, 35] = hash s := by
  have key : ∀ s : List UInt8, Lib.replaceK [35] [92, 35] (Lib.count s [35]) s = hash s := by
    intro s
    induction s with
    | nil => rfl
    | cons c t ih =>
      have hi : Lib.index (c :: t) [35] = if c = 35 then 0 else if Lib.index t [35] = -1 then -1 else Lib.index t [35] + 1 := by
        conv => lhs; unfold Lib.index
        by_cases h : c = 35
        · subst h; simp
        · have : (35 == c) = false := by simpa using fun e => h e.symm
          simp [List.isPrefixOf, this, h]
      by_cases hc : c = 35
      · rw [if_pos hc] at hi
        rw [Lib.count_hit (i := 0) (by simp) hi, Nat.add_comm, Lib.replaceK_hit _ _ _ _ 0 hi]
        simp only [List.length_singleton, Nat.zero_add, List.drop_succ_cons, List.drop_zero, List.take_zero, List.nil_append]
        rw [ih, hc, hash_hit]; rfl
      · rw [if_neg hc] at hi
        rw [hash_miss t hc]
        rcases Lib.index_spec t [35] with ⟨h1, _⟩ | ⟨i, h1, _⟩
        · rw [h1, if_pos rfl] at hi
          rw [Lib.count_miss hi]
          rw [Lib.count_miss h1] at ih
          rw [← ih]; rfl
        · have hi' : Lib.index (c :: t) [35] = ((i + 1 : Nat) : Int) := by rw [hi, if_neg (by omega), h1]; rfl
          have e1 := Lib.count_hit (s := c :: t) (by simp) hi'
          have e2 := Lib.count_hit (s := t) (by simp) h1
          have e3 : (c :: t).drop (i + 1 + ([35] : List UInt8).length) = t.drop (i + ([35] : List UInt8).length) := by simp [List.drop_succ_cons]
          rw [e3] at e1
          rw [e1, Nat.add_comm, Lib.replaceK_hit _ _ _ _ _ hi', e3]
          rw [e2, Nat.add_comm, Lib.replaceK_hit _ _ _ _ _ h1] at ih
          rw [← ih]; simp
  unfold Lib.replaceAll Lib.replace
  rw [if_neg (by decide)]
  show Lib.replaceK _ _ (Lib.replaceNum s [35] (-1)) s = _
  unfold Lib.replaceNum
  rw [if_pos (.inl (by decide))]
  exact key s

def unhash : List UInt8 → List UInt8
  | [] => []
  | [c] => [c]
  | c :: d :: t => if c = 92 ∧ d = 35 then 35 :: unhash t else c :: unhash (d :: t)
theorem index2 (c d : UInt8) (t : List UInt8) : Lib.index (c :: d :: t) [92, 35] = if c = 92 ∧ d = 35 then 0 else if Lib.index (d :: t) [92, 35] = -1 then -1 else Lib.index (d :: t) [92, 35] + 1 := by
  conv => lhs; unfold Lib.index
  by_cases h : c = 92 ∧ d = 35
  · obtain ⟨rfl, rfl⟩ := h; simp
  · rw [if_neg h, if_neg]
    · simp
    · simp only [List.isPrefixOf_cons_cons, Bool.and_eq_true, beq_iff_eq]
      exact fun e => h ⟨e.1.symm, e.2.1.symm⟩
theorem unhash_none (s : List UInt8) (h : Lib.index s [92, 35] = -1) : unhash s = s := by
  induction s using unhash.induct with
  | case1 => rfl
  | case2 c => rfl
  | case3 c d t hy ih => rw [index2, if_pos hy] at h; cases h
  | case4 c d t hn ih =>
    rw [index2, if_neg hn] at h
    have h1 : Lib.index (d :: t) [92, 35] = -1 := by
      by_cases h1 : Lib.index (d :: t) [92, 35] = -1
      · exact h1
      · rw [if_neg h1] at h
        have := Lib.index_ge (d :: t) [92, 35]
        omega
    rw [unhash, if_neg hn, ih h1]
theorem unhash_some (s : List UInt8) : ∀ i : Nat, Lib.index s [92, 35] = i → unhash s = s.take i ++ 35 :: unhash (s.drop (i + 2)) := by
  induction s using unhash.induct with
  | case1 => intro i h; simp [Lib.index] at h
  | case2 c => intro i h; simp [Lib.index, List.isPrefixOf] at h
  | case3 c d t hy ih =>
    intro i h
    rw [index2, if_pos hy] at h
    have : i = 0 := by omega
    subst this
    rw [unhash, if_pos hy]; rfl
  | case4 c d t hn ih =>
    intro i h
    rw [index2, if_neg hn] at h
    have hge := Lib.index_ge (d :: t) [92, 35]
    by_cases h1 : Lib.index (d :: t) [92, 35] = -1
    · rw [if_pos h1] at h; omega
    · rw [if_neg h1] at h
      obtain ⟨j, hj⟩ : ∃ j : Nat, Lib.index (d :: t) [92, 35] = j := ⟨(Lib.index (d :: t) [92, 35]).toNat, by omega⟩
      have hij : i = j + 1 := by omega
      subst hij
      rw [unhash, if_neg hn, ih j hj]
      simp
theorem repl_unhash (s : List UInt8) : Lib.replaceAll s [92, 35] [35] = unhash s := by
  have key : ∀ (n : Nat) (s : List UInt8), s.length ≤ n → Lib.replaceK [92, 35] [35] (Lib.count s [92, 35]) s = unhash s := by
    intro n
    induction n with
    | zero =>
      intro s hs
      have : s = [] := List.length_eq_zero_iff.1 (by omega)
      subst this; rfl
    | succ n ih =>
      intro s hs
      rcases Lib.index_spec s [92, 35] with ⟨h1, _⟩ | ⟨i, h1, _⟩
      · rw [Lib.count_miss h1, unhash_none s h1]; rfl
      · rw [Lib.count_hit (by simp) h1, Nat.add_comm, Lib.replaceK_hit _ _ _ _ _ h1, unhash_some s i h1]
        have hr := Lib.index_room s [92, 35] (by omega)
        rw [h1] at hr
        simp only [List.length_cons, List.length_nil] at hr ⊢
        rw [ih _ (by rw [List.length_drop]; omega)]
        simp
  unfold Lib.replaceAll Lib.replace
  rw [if_neg (by decide)]
  show Lib.replaceK _ _ (Lib.replaceNum s [92, 35] (-1)) s = _
  unfold Lib.replaceNum
  rw [if_pos (.inl (by decide))]
  exact key _ s (Nat.le_refl _)
theorem unhash_cons {c : UInt8} {s : List UInt8} (h : s.head? ≠ some 35) : unhash (c :: s) = c :: unhash s := by
  cases s with
  | nil => rfl
  | cons d s => rw [unhash, if_neg (fun e => h (by rw [e.2]; rfl))]
theorem hash_head (t : List UInt8) : (hash t).head? ≠ some 35 := by
  cases t with
  | nil => simp [hash]
  | cons c t =>
    by_cases h : c = 35
    · rw [h, hash_hit]; simp
    · rw [hash_miss t h]; simpa using h
theorem unhash_hash (t : List UInt8) : unhash (hash t) = t := by
  induction t with
  | nil => rfl
  | cons c t ih =>
    by_cases h : c = 35
    · rw [h, hash_hit, unhash, if_pos ⟨rfl, rfl⟩, ih]
    · rw [hash_miss t h, unhash_cons (hash_head t), ih]
/-- Whether a stroke stands ahead of a note's sign. -/
def strk : List UInt8 → Bool
  | [] => false
  | [_] => false
  | c :: d :: t => (c == 92 && d == 35) || strk (d :: t)
theorem note_hash (t : List UInt8) : ∀ acc : List UInt8, strk t = false → (t.head? = some 35 → takes acc = false) → noteAt acc (hash t) = acc.length + (hash t).length := by
  induction t with
  | nil => intro acc _ _; rfl
  | cons c t ih =>
    intro acc hs hh
    have hs' : strk t = false := by
      cases t with
      | nil => rfl
      | cons d t => simp only [strk, Bool.or_eq_false_iff] at hs; exact hs.2
    by_cases hc : c = 35
    · subst hc
      have ht := hh rfl
      rw [hash_hit, noteAt, if_neg (fun e => absurd e.1 (by decide)), noteAt, if_neg (fun e => by rw [takes_stroke, ht] at e; cases e.2), ih _ hs' (fun _ => takes_other _ (by decide))]
      simp; omega
    · rw [hash_miss t hc, noteAt, if_neg (fun e => hc e.1), ih _ hs' (fun he => ?_)]
      · simp; omega
      · refine takes_other _ fun e => ?_
        cases t with
        | nil => cases he
        | cons d t =>
          simp at he
          subst he e
          simp [strk] at hs

/-- Lines that come back. -/
structure Good (x : Ln) : Prop where
  bare : blank x.text = false
  last : ∃ l c, x.text = l ++ [c] ∧ c ≠ 92 ∧ (x.cmd = false → c ≠ 32 ∧ c ≠ 9)
  no10 : ∀ c ∈ x.text, c ≠ 10
  strk : x.cmd = false → strk x.text = false
  head : x.cmd = false → x.text.head? ≠ some 9
def rawOf (x : Ln) : List UInt8 := if x.cmd then 9 :: x.text else hash x.text
def writeT (L : List Ln) : List UInt8 := L.flatMap fun x => rawOf x ++ [10]
theorem write_cons (x : Ln) (L : List Ln) : writeT (x :: L) = rawOf x ++ 10 :: writeT L := by simp [writeT]
theorem write_snoc (L : List Ln) (x : Ln) : writeT (L ++ [x]) = writeT L ++ (rawOf x ++ [10]) := by simp [writeT]
theorem raw_no10 {x : Ln} (h : ∀ c ∈ x.text, c ≠ 10) : ∀ c ∈ rawOf x, c ≠ 10 := by
  unfold rawOf
  split
  · intro c hc
    rcases List.mem_cons.1 hc with rfl | hc
    · decide
    · exact h c hc
  · exact hash_no10 h
theorem raw_takes {x : Ln} (h : Good x) : takes (rawOf x) = false := by
  obtain ⟨l, c, h1, h2, _⟩ := h.last
  unfold rawOf
  rw [h1]
  split
  · exact takes_other (9 :: l) h2
  · rw [hash_app]
    by_cases hc : c = 35
    · rw [hc, show hash [35] = [92] ++ [35] from rfl, ← List.append_assoc]
      exact takes_other _ (by decide)
    · rw [hash_miss [] hc]; exact takes_other _ h2
theorem raws_write (L : List Ln) (h : ∀ x ∈ L, ∀ c ∈ x.text, c ≠ 10) : raws (writeT L) = L.map rawOf := by
  induction L with
  | nil => rfl
  | cons x L ih =>
    rw [write_cons, raws_app, raws_plain _ (raw_no10 (h x (List.mem_cons_self ..))), ih fun y hy => h y (List.mem_cons_of_mem _ hy)]
    rfl
theorem emit_good {x : Ln} (h : Good x) (k : Nat) : emit k [rawOf x] = [⟨x.text, k + 1, x.cmd⟩] := by
  have hw : wholeT [rawOf x] = x.text ∧ isCmd [rawOf x] = x.cmd := by
    cases hc : x.cmd with
    | true =>
      have e : rawOf x = 9 :: x.text := by unfold rawOf; rw [hc, if_pos rfl]
      have e2 : isCmd [rawOf x] = true := by rw [e]; simp [isCmd, Lib.hasPrefix]
      refine ⟨?_, e2⟩
      unfold wholeT
      rw [e2, if_pos rfl, e]
      simp [commandT, Lib.trimPrefix, Lib.hasPrefix]
    | false =>
      have e : rawOf x = hash x.text := by unfold rawOf; rw [hc, if_neg (by simp)]
      have e2 : isCmd [rawOf x] = false := by
        rw [e]
        have hh := h.head hc
        cases ht : x.text with
        | nil => simp [isCmd, Lib.hasPrefix, hash]
        | cons d t =>
          rw [ht] at hh
          by_cases hd : d = 35
          · rw [hd, hash_hit]; simp [isCmd, Lib.hasPrefix, List.isPrefixOf]
          · rw [hash_miss t hd]
            simp only [isCmd, Lib.hasPrefix, List.isPrefixOf]
            simp at hh
            simpa using fun e => hh e.symm
      refine ⟨?_, e2⟩
      unfold wholeT
      rw [e2, if_neg (by simp), e]
      show bareT (hash x.text) = _
      unfold bareT
      have hn : note (hash x.text) = (hash x.text).length := by
        have := note_hash x.text [] (h.strk hc) (fun _ => rfl)
        simpa [note] using this
      rw [hn, List.take_length, repl_unhash, unhash_hash]
      obtain ⟨l, c, h1, _, h3⟩ := h.last
      rw [h1]
      exact trimR_self (h3 hc).1 (h3 hc).2
  unfold emit
  rw [hw.1, hw.2, h.bare, if_neg (by simp)]
def num (k : Nat) : List Ln → List Ln
  | [] => []
  | x :: L => ⟨x.text, k + 1, x.cmd⟩ :: num (k + 1) L
theorem num_len (L : List Ln) : ∀ k, (num k L).length = L.length := by
  induction L with
  | nil => intro k; rfl
  | cons x L ih => intro k; simp [num, ih]
theorem num_get (L : List Ln) : ∀ (k i : Nat) (x : Ln), L[i]? = some x → (num k L)[i]? = some ⟨x.text, k + i + 1, x.cmd⟩ := by
  induction L with
  | nil => intro k i x h; simp at h
  | cons y L ih =>
    intro k i x h
    cases i with
    | zero => simp at h; subst h; rfl
    | succ i =>
      have := ih (k + 1) i x (by simpa using h)
      rw [num, List.getElem?_cons_succ, this, show k + 1 + i + 1 = k + (i + 1) + 1 by omega]
theorem lines_good (L : List Ln) : ∀ k, (∀ x ∈ L, Good x) → linesA k [] (L.map rawOf) = num k L := by
  induction L with
  | nil => intro k _; rfl
  | cons x L ih =>
    intro k h
    have hx := h x (List.mem_cons_self ..)
    rw [List.map_cons, linesA, if_neg (fun e => by rw [raw_takes hx] at e; cases e.1), List.nil_append, emit_good hx, ih _ fun y hy => h y (List.mem_cons_of_mem _ hy)]
    rfl
theorem opens_good (L : List Ln) (h : ∀ x ∈ L, Good x) : opens (L.map rawOf) = false := by
  unfold opens
  cases hl : (L.map rawOf).getLast? with
  | none => rfl
  | some r =>
    have := List.mem_of_getLast? hl
    obtain ⟨x, hx, rfl⟩ := List.mem_map.1 this
    exact raw_takes (h x hx)
/-- What is written is read. -/
theorem read_write (L : List Ln) (h : ∀ x ∈ L, Good x) (hl : L.length ≤ 4096) (hz : (writeT L).length ≤ 65536) : readL (writeT L) = ⟨num 0 L, 0, 0⟩ := by
  have hr := raws_write L fun x hx => (h x hx).no10
  rw [readL_ok (by omega) (by rw [hr]; exact opens_good L h) (by rw [hr, lines_good L 0 h, num_len]; exact hl), hr, lines_good L 0 h]

theorem opens_app (A B : List (List UInt8)) : opens (A ++ B) = if B = [] then opens A else opens B := by
  unfold opens
  by_cases hB : B = []
  · rw [if_pos hB, hB, List.append_nil]
  · rw [if_neg hB, List.getLast?_append]
    cases hl : B.getLast? with
    | none => exact absurd (List.getLast?_eq_none_iff.1 hl) hB
    | some r => rfl
/-- Two texts, one behind the other. -/
theorem read_both (s t : List UInt8) (h1 : (readL (s ++ [10])).why = 0) (h2 : (readL t).why = 0) (hl : (readL (s ++ [10])).lines.length + (readL t).lines.length ≤ 4096) (hz : (s ++ [10] ++ t).length ≤ 65536) :
    readL (s ++ [10] ++ t) = ⟨(readL (s ++ [10])).lines ++ (readL t).lines.map (shift ((s ++ [10]).count 10)), 0, 0⟩ := by
  obtain ⟨_, o1, _, e1⟩ := readL_fine h1
  obtain ⟨_, o2, _, e2⟩ := readL_fine h2
  rw [e1, e2] at hl ⊢
  simp only at hl ⊢
  have hr : raws (s ++ [10] ++ t) = raws (s ++ [10]) ++ raws t := by
    rw [List.append_assoc]; exact raws_app s t
  have hln : linesA 0 [] (raws (s ++ [10] ++ t)) = linesA 0 [] (raws (s ++ [10])) ++ (linesA 0 [] (raws t)).map (shift ((s ++ [10]).count 10)) := by
    rw [hr, linesA_app _ _ 0 [] (raws_end_ne s) o1, raws_end_len]
    congr 1
    have := linesA_shift ((s ++ [10]).count 10) (raws t) 0 []
    simpa using this
  rw [readL_ok (by omega) (by rw [hr, opens_app]; split <;> assumption) (by rw [hln]; simpa using hl), hln]
end Go.Proofs.YtefhpoklehmlhaaDoor.Ln
