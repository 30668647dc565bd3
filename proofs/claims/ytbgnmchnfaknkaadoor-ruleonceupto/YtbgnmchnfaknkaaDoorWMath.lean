/-
  Plain mathematics of words: what a byte is to the words around it, the words of a text, its meaning, quoted texts, joined words: no program is named here.
-/
namespace Go.Proofs.YtbgnmchnfaknkaaDoor.K

abbrev Bs := List UInt8
/-- What the next byte hangs on: the quote whose end is awaited (0: none), and whether the byte ahead takes. -/
structure Rd where
  q : UInt8
  t : Bool
def Rd.r0 : Rd := ⟨0, false⟩
def Rd.step (r : Rd) (c : UInt8) : Rd :=
  if r.t = true then ⟨r.q, false⟩
  else if c = 92 ∧ r.q ≠ 39 then ⟨r.q, true⟩
  else if r.q = 0 ∧ (c = 39 ∨ c = 34) then ⟨c, false⟩
  else if r.q = 0 then r
  else if c = r.q then ⟨0, false⟩
  else r
def Rd.kind (r : Rd) (c : UInt8) : Nat :=
  if r.t = true then 1
  else if c = 92 ∧ r.q ≠ 39 then 2
  else if r.q = 0 ∧ (c = 39 ∨ c = 34) then 2
  else if r.q = 0 then 0
  else if c = r.q then 2
  else 1
def isB (c : UInt8) : Bool := c == 32 || c == 9
def Rd.blank (r : Rd) (c : UInt8) : Bool := r.kind c == 0 && isB c
def Rd.opened (r : Rd) : Bool := r.q != 0 || r.t
theorem Rd.opened_iff {r : Rd} : r.opened = false ↔ r = r0 := by
  obtain ⟨q, t⟩ := r
  simp [Rd.opened, Rd.r0]

section cut
variable {σ : Type}
/-- The pieces between what parts: of a text that is gone over byte by byte from a state on. -/
def cut (st : σ → UInt8 → σ) (f : σ → UInt8 → Bool) : σ → Bs → Bs → List Bs
  | _, cur, [] => if cur = [] then [] else [cur]
  | s, cur, c :: t => if f s c = true then (if cur = [] then [] else [cur]) ++ cut st f (st s c) [] t else cut st f (st s c) (cur ++ [c]) t
def glued (st : σ → UInt8 → σ) (f : σ → UInt8 → Bool) : σ → Bs → Prop
  | _, [] => True
  | s, c :: t => f s c = false ∧ glued st f (st s c) t
variable {st : σ → UInt8 → σ} {f : σ → UInt8 → Bool}
theorem cut_nil (s : σ) (cur : Bs) : cut st f s cur [] = if cur = [] then [] else [cur] := by simp [cut]
theorem cut_cons (s : σ) (cur : Bs) (c : UInt8) (t : Bs) : cut st f s cur (c :: t) = if f s c = true then (if cur = [] then [] else [cur]) ++ cut st f (st s c) [] t else cut st f (st s c) (cur ++ [c]) t := by simp [cut]
theorem cut_length (s : σ) (cur l : Bs) : (cut st f s cur l).length ≤ cur.length + l.length := by
  induction l generalizing s cur with
  | nil => rw [cut_nil]; cases cur <;> simp
  | cons c t ih =>
    rw [cut_cons]
    split
    · have := ih (st s c) []
      cases cur <;> simp at this ⊢ <;> omega
    · have := ih (st s c) (cur ++ [c])
      simp at this ⊢; omega
theorem cut_total (s : σ) (cur l : Bs) : ((cut st f s cur l).map List.length).sum ≤ cur.length + l.length := by
  induction l generalizing s cur with
  | nil => rw [cut_nil]; cases cur <;> simp
  | cons c t ih =>
    rw [cut_cons]
    split
    · have := ih (st s c) []
      cases cur <;> simp at this ⊢ <;> omega
    · have := ih (st s c) (cur ++ [c])
      simp at this ⊢; omega
theorem cut_glued (s : σ) (cur x l : Bs) (h : glued st f s x) : cut st f s cur (x ++ l) = cut st f (x.foldl st s) (cur ++ x) l := by
  induction x generalizing s cur with
  | nil => simp
  | cons c t ih =>
    rw [List.cons_append, cut_cons, if_neg (by rw [h.1]; simp), ih _ _ h.2]
    simp
theorem glued_append (s : σ) (x y : Bs) (hx : glued st f s x) (hy : glued st f (x.foldl st s) y) : glued st f s (x ++ y) := by
  induction x generalizing s with
  | nil => exact hy
  | cons c t ih => exact ⟨hx.1, ih _ hx.2 hy⟩
/-- A word: not empty, nothing in it parts, and it ends in the state in which it began. -/
def isWord (st : σ → UInt8 → σ) (f : σ → UInt8 → Bool) (s0 : σ) (w : Bs) : Prop := w ≠ [] ∧ glued st f s0 w ∧ w.foldl st s0 = s0
theorem cut_words (s0 : σ) (hp : ∀ s c, f s c = true → s = s0 ∧ st s c = s0) (s : σ) (cur l : Bs) (hg : glued st f s0 cur) (he : cur.foldl st s0 = s) (hend : l.foldl st s = s0) :
    ∀ w ∈ cut st f s cur l, isWord st f s0 w := by
  induction l generalizing s cur with
  | nil =>
    rw [cut_nil]
    split
    · simp
    · rename_i hne
      intro w hw
      simp at hw
      subst hw
      refine ⟨hne, hg, ?_⟩
      rw [he]; exact hend
  | cons c t ih =>
    rw [cut_cons]
    by_cases hc : f s c = true
    · obtain ⟨h1, h2⟩ := hp s c hc
      rw [if_pos hc]
      intro w hw
      rcases List.mem_append.1 hw with hw | hw
      · split at hw
        · simp at hw
        · rename_i hne
          simp at hw
          subst hw
          exact ⟨hne, hg, by rw [he]; exact h1⟩
      · rw [h2] at hw
        refine ih s0 [] trivial rfl ?_ w hw
        rw [List.foldl_cons, h2] at hend; exact hend
    · rw [if_neg hc]
      refine ih (st s c) (cur ++ [c]) ?_ ?_ hend
      · exact glued_append _ _ _ hg (by rw [he]; exact ⟨by simpa using hc, trivial⟩)
      · rw [List.foldl_append, he]; rfl
theorem cut_one (s0 : σ) (w : Bs) (h : isWord st f s0 w) : cut st f s0 [] w = [w] := by
  have := cut_glued (st := st) (f := f) s0 [] w [] h.2.1
  rw [List.append_nil] at this
  rw [this, cut_nil, List.nil_append, if_neg h.1]
/-- All that are not empty, with one blank between. -/
def joinB : List Bs → Bs
  | [] => []
  | x :: t => match t with
    | [] => x
    | y :: t' => x ++ 32 :: joinB (y :: t')
theorem joinB_cons2 (x y : Bs) (t : List Bs) : joinB (x :: y :: t) = x ++ 32 :: joinB (y :: t) := by simp [joinB]
theorem cut_join (s0 : σ) (hb : f s0 32 = true) (hs : st s0 32 = s0) (ws : List Bs) (hw : ∀ w ∈ ws, isWord st f s0 w) : cut st f s0 [] (joinB ws) = ws := by
  induction ws with
  | nil => simp [joinB, cut_nil]
  | cons x t ih =>
    cases t with
    | nil => simp only [joinB]; exact cut_one s0 x (hw x (by simp))
    | cons y t =>
      have hx := hw x (by simp)
      rw [joinB_cons2, cut_glued _ _ _ _ hx.2.1, hx.2.2, cut_cons, if_pos hb, hs, List.nil_append, if_neg hx.1, ih (fun w h => hw w (by simp [h]))]
      rfl
theorem foldl_join (s0 : σ) (hs : st s0 32 = s0) (ws : List Bs) (hw : ∀ w ∈ ws, w.foldl st s0 = s0) : (joinB ws).foldl st s0 = s0 := by
  induction ws with
  | nil => rfl
  | cons x t ih =>
    cases t with
    | nil => exact hw x (by simp)
    | cons y t =>
      rw [joinB_cons2, List.foldl_append, hw x (by simp), List.foldl_cons, hs]
      exact ih (fun w h => hw w (by simp [h]))
end cut

/-- The words that quotes and strokes hold together. -/
def words (l : Bs) : List Bs := cut Rd.step Rd.blank Rd.r0 [] l
def ends (l : Bs) : Rd := l.foldl Rd.step Rd.r0
/-- The fields between blanks. -/
def stU (_ : Unit) (_ : UInt8) : Unit := ()
def fU (_ : Unit) (c : UInt8) : Bool := isB c
def fields (l : Bs) : List Bs := cut stU fU () [] l
def mean : Rd → Bs → Bs
  | _, [] => []
  | r, c :: t => (if r.kind c = 2 then [] else [c]) ++ mean (r.step c) t
theorem mean_append (r : Rd) (x y : Bs) : mean r (x ++ y) = mean r x ++ mean (x.foldl Rd.step r) y := by
  induction x generalizing r with
  | nil => rfl
  | cons c t ih => simp only [List.cons_append, mean, List.foldl_cons, ih, List.append_assoc]
theorem mean_length (r : Rd) (l : Bs) : (mean r l).length ≤ l.length := by
  induction l generalizing r with
  | nil => simp [mean]
  | cons c t ih =>
    have := ih (r.step c)
    simp only [mean, List.length_append, List.length_cons]
    split <;> simp <;> omega
def plainC (c : UInt8) : Bool := (97 ≤ c && c ≤ 122) || (65 ≤ c && c ≤ 90) || (48 ≤ c && c ≤ 57) || [95, 46, 47, 43, 45, 44, 58, 61, 64, 37].contains c
def esc (c : UInt8) : Bs := if c = 39 then [39, 92, 39, 39] else [c]
def quote (l : Bs) : Bs := if l ≠ [] ∧ l.all plainC = true then l else [39] ++ l.flatMap esc ++ [39]
theorem esc_length (l : Bs) : (l.flatMap esc).length ≤ 4 * l.length := by
  induction l with
  | nil => simp
  | cons c t ih =>
    simp only [List.flatMap_cons, List.length_append, List.length_cons]
    have : (esc c).length ≤ 4 := by unfold esc; split <;> simp
    omega
theorem quote_length (l : Bs) : (quote l).length ≤ 4 * l.length + 2 := by
  have := esc_length l
  unfold quote
  split <;> simp at this ⊢ <;> omega

theorem blank_state (r : Rd) (c : UInt8) (h : r.blank c = true) : r = Rd.r0 ∧ r.step c = Rd.r0 := by
  obtain ⟨q, t⟩ := r
  simp only [Rd.blank, Rd.kind, Bool.and_eq_true, beq_iff_eq, isB, Bool.or_eq_true] at h
  obtain ⟨h1, h2⟩ := h
  cases t with
  | true => simp at h1
  | false =>
    by_cases hq : q = 0
    · subst hq
      refine ⟨rfl, ?_⟩
      rcases h2 with rfl | rfl <;> simp [Rd.step, Rd.r0]
    · exfalso
      revert h1
      repeat' split
      all_goals simp_all
theorem r0_blank : Rd.r0.blank 32 = true := by decide
theorem r0_step : Rd.r0.step 32 = Rd.r0 := by simp [Rd.step, Rd.r0]
theorem r0_tab : Rd.r0.blank 9 = true := by decide
theorem r0_step9 : Rd.r0.step 9 = Rd.r0 := by simp [Rd.step, Rd.r0]
theorem words_are (l : Bs) (h : ends l = Rd.r0) : ∀ w ∈ words l, isWord Rd.step Rd.blank Rd.r0 w :=
  cut_words Rd.r0 blank_state Rd.r0 [] l trivial rfl h
theorem words_again (l : Bs) (h : ends l = Rd.r0) : words (joinB (words l)) = words l :=
  cut_join Rd.r0 r0_blank r0_step _ (words_are l h)
theorem ends_join (l : Bs) (h : ends l = Rd.r0) : ends (joinB (words l)) = Rd.r0 :=
  foldl_join Rd.r0 r0_step _ fun w hw => (words_are l h w hw).2.2
theorem words_one {l w : Bs} (h : ends l = Rd.r0) (hw : w ∈ words l) : words w = [w] ∧ ends w = Rd.r0 :=
  ⟨cut_one Rd.r0 w (words_are l h w hw), (words_are l h w hw).2.2⟩
theorem fields_are (l : Bs) : ∀ w ∈ fields l, isWord stU fU () w :=
  cut_words () (fun _ _ _ => ⟨rfl, rfl⟩) () [] l trivial rfl rfl
theorem fields_again (l : Bs) : fields (joinB (fields l)) = fields l :=
  cut_join () (by decide) rfl _ (fields_are l)
theorem plain_cut (l cur : Bs) (h : ∀ c ∈ l, c ≠ 39 ∧ c ≠ 34 ∧ c ≠ 92) : cut Rd.step Rd.blank Rd.r0 cur l = cut stU fU () cur l ∧ l.foldl Rd.step Rd.r0 = Rd.r0 := by
  induction l generalizing cur with
  | nil => exact ⟨rfl, rfl⟩
  | cons c t ih =>
    obtain ⟨h1, h2, h3⟩ := h c (by simp)
    have hs : Rd.r0.step c = Rd.r0 := by simp [Rd.step, Rd.r0, h1, h2, h3]
    have hb : Rd.r0.blank c = isB c := by simp [Rd.blank, Rd.kind, Rd.r0, h1, h2, h3]
    have ht : ∀ c ∈ t, c ≠ 39 ∧ c ≠ 34 ∧ c ≠ 92 := fun c hc => h c (by simp [hc])
    constructor
    · rw [cut_cons, cut_cons, hs, hb]
      have e : fU () c = isB c := rfl
      rw [e]
      split
      · rw [(ih [] ht).1]
      · exact (ih _ ht).1
    · rw [List.foldl_cons, hs]; exact (ih [] ht).2
theorem plain_words (l : Bs) (h : ∀ c ∈ l, c ≠ 39 ∧ c ≠ 34 ∧ c ≠ 92) : words l = fields l ∧ ends l = Rd.r0 := plain_cut l [] h

/-- In quotes nothing parts, and what is escaped means itself. -/
theorem esc_in (l : Bs) : glued Rd.step Rd.blank ⟨39, false⟩ (l.flatMap esc) ∧ (l.flatMap esc).foldl Rd.step ⟨39, false⟩ = ⟨39, false⟩ ∧ mean ⟨39, false⟩ (l.flatMap esc) = l := by
  induction l with
  | nil => exact ⟨trivial, rfl, rfl⟩
  | cons c t ih =>
    obtain ⟨i1, i2, i3⟩ := ih
    have hc : glued Rd.step Rd.blank ⟨39, false⟩ (esc c) ∧ (esc c).foldl Rd.step ⟨39, false⟩ = ⟨39, false⟩ ∧ mean ⟨39, false⟩ (esc c) = [c] := by
      unfold esc
      split
      · rename_i h; subst h
        refine ⟨?_, ?_, ?_⟩
        · simp [glued, Rd.step, Rd.blank, Rd.kind]
        · simp [Rd.step]
        · simp [mean, Rd.step, Rd.kind]
      · rename_i h
        refine ⟨?_, ?_, ?_⟩
        · simp [glued, Rd.blank, Rd.kind, h]
        · simp [Rd.step, h]
        · simp [mean, Rd.kind, h]
    rw [List.flatMap_cons]
    refine ⟨glued_append _ _ _ hc.1 (by rw [hc.2.1]; exact i1), by rw [List.foldl_append, hc.2.1, i2], ?_⟩
    rw [mean_append, hc.2.2, hc.2.1, i3]; rfl
theorem plainC_ne {c : UInt8} (h : plainC c = true) : c ≠ 39 ∧ c ≠ 34 ∧ c ≠ 92 ∧ isB c = false := by
  revert h
  revert c
  have key : ∀ n : Fin 256, plainC (UInt8.ofNat n.val) = true → UInt8.ofNat n.val ≠ 39 ∧ UInt8.ofNat n.val ≠ 34 ∧ UInt8.ofNat n.val ≠ 92 ∧ isB (UInt8.ofNat n.val) = false := by decide +kernel
  intro c
  have := key ⟨c.toNat, c.toNat_lt⟩
  simpa using this
theorem plain_glued (l : Bs) (h : l.all plainC = true) : glued Rd.step Rd.blank Rd.r0 l ∧ l.foldl Rd.step Rd.r0 = Rd.r0 ∧ mean Rd.r0 l = l := by
  induction l with
  | nil => exact ⟨trivial, rfl, rfl⟩
  | cons c t ih =>
    simp only [List.all_cons, Bool.and_eq_true] at h
    obtain ⟨h1, h2, h3, h4⟩ := plainC_ne h.1
    obtain ⟨i1, i2, i3⟩ := ih h.2
    have hs : Rd.r0.step c = Rd.r0 := by simp [Rd.step, Rd.r0, h1, h2, h3]
    have hk : Rd.r0.kind c = 0 := by simp [Rd.kind, Rd.r0, h1, h2, h3]
    refine ⟨⟨by simp [Rd.blank, h4], by rw [hs]; exact i1⟩, by rw [List.foldl_cons, hs, i2], ?_⟩
    simp only [mean, hk, hs, i3]
    rfl
theorem quote_is (l : Bs) : isWord Rd.step Rd.blank Rd.r0 (quote l) ∧ mean Rd.r0 (quote l) = l := by
  unfold quote
  split
  · rename_i h
    obtain ⟨h1, h2, h3⟩ := plain_glued l h.2
    exact ⟨⟨h.1, h1, h2⟩, h3⟩
  · obtain ⟨i1, i2, i3⟩ := esc_in l
    have e0 : Rd.r0.step 39 = ⟨39, false⟩ := by simp [Rd.step, Rd.r0]
    have e1 : (Rd.mk 39 false).step 39 = Rd.r0 := by simp [Rd.step, Rd.r0]
    refine ⟨⟨by simp, ?_, ?_⟩, ?_⟩
    · rw [List.append_assoc, List.cons_append, List.nil_append]
      refine ⟨by decide, ?_⟩
      rw [e0]
      refine glued_append _ _ _ i1 ?_
      rw [i2]
      exact ⟨by decide, trivial⟩
    · simp only [List.foldl_append, List.foldl_cons, List.foldl_nil, e0, i2, e1]
    · rw [List.append_assoc, mean_append, mean_append, List.foldl_cons, List.foldl_nil, e0, i2, i3]
      simp [mean, Rd.kind, Rd.r0]
theorem ends_quote (l : Bs) : ends (quote l) = Rd.r0 := (quote_is l).1.2.2
theorem words_two (s t : Bs) : words ([32, 32] ++ quote s ++ [9] ++ quote t ++ [32]) = [quote s, quote t] ∧ ends ([32, 32] ++ quote s ++ [9] ++ quote t ++ [32]) = Rd.r0 := by
  obtain ⟨⟨a1, a2, a3⟩, _⟩ := quote_is s
  obtain ⟨⟨b1, b2, b3⟩, _⟩ := quote_is t
  constructor
  · unfold words
    simp only [List.append_assoc]
    rw [List.cons_append, cut_cons, if_pos r0_blank, r0_step, List.cons_append, cut_cons, if_pos r0_blank, r0_step, List.nil_append, if_pos rfl, List.nil_append, List.nil_append, cut_glued _ _ _ _ a2, a3, List.cons_append, cut_cons, if_pos r0_tab, r0_step9,
      List.nil_append, if_neg a1, List.nil_append, cut_glued _ _ _ _ b2, b3, cut_cons, if_pos r0_blank, r0_step, List.nil_append, if_neg b1, cut_nil]
    rfl
  · unfold ends
    simp only [List.foldl_append, List.foldl_cons, List.foldl_nil, r0_step, a3, r0_step9, b3]
end Go.Proofs.YtbgnmchnfaknkaaDoor.K
