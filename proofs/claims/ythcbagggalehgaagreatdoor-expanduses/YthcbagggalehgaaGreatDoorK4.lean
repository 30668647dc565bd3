/-
  Plain mathematics of words: what a byte is to the words around it, the words of a text, its meaning, quoted texts, joined words: no program is named here. What the program's Fields answers. What the program's Join answers.
-/
import Derived.Test.YthcbagggalehgaaGreatDoorK3
import Derived.Test.YthcbagggalehgaaGreatDoorM9
import Derived.Test.YthcbagggalehgaaGreatDoorShelf
import Derived.Maps.AppendAt
namespace Go.Proofs.YthcbagggalehgaaGreatDoor.K

abbrev Bs := List UInt8
/-- What the next byte hangs on: the quote whose end is awaited (0: none), and whether the byte ahead takes. -/
structure Rd where
  q : UInt8
  t : Bool
def Rd.r0 : Rd := ⟨0, false⟩
def Rd.step (r : Rd) (c : UInt8) : Rd :=
  if r.t = true then ⟨r.q, false⟩
  else if c = 92 ∧ r.q ≠ 39 then ⟨r.q, true⟩
  else if r.q = 0 ∧ (c = 39 ∨ c = 34) then ⟨c, false⟩
  else if r.q = 0 then r
  else if c = r.q then ⟨0, false⟩
  else r
def Rd.kind (r : Rd) (c : UInt8) : Nat :=
  if r.t = true then 1
  else if c = 92 ∧ r.q ≠ 39 then 2
  else if r.q = 0 ∧ (c = 39 ∨ c = 34) then 2
  else if r.q = 0 then 0
  else if c = r.q then 2
  else 1
def isB (c : UInt8) : Bool := c == 32 || c == 9
def Rd.blank (r : Rd) (c : UInt8) : Bool := r.kind c == 0 && isB c
def Rd.opened (r : Rd) : Bool := r.q != 0 || r.t
theorem Rd.opened_iff {r : Rd} : r.opened = false ↔ r = r0 := by
  obtain ⟨q, t⟩ := r
  simp [Rd.opened, Rd.r0]

section cut
variable {σ : Type}
/-- The pieces between what parts: of a text that is gone over byte by byte from a state on. -/
def cut (st : σ → UInt8 → σ) (f : σ → UInt8 → Bool) : σ → Bs → Bs → List Bs
  | _, cur, [] => if cur = [] then [] else [cur]
  | s, cur, c :: t => if f s c = true then (if cur = [] then [] else [cur]) ++ cut st f (st s c) [] t else cut st f (st s c) (cur ++ [c]) t
def glued (st : σ → UInt8 → σ) (f : σ → UInt8 → Bool) : σ → Bs → Prop
  | _, [] => True
  | s, c :: t => f s c = false ∧ glued st f (st s c) t
variable {st : σ → UInt8 → σ} {f : σ → UInt8 → Bool}
theorem cut_nil (s : σ) (cur : Bs) : cut st f s cur [] = if cur = [] then [] else [cur] := by simp [cut]
theorem cut_cons (s : σ) (cur : Bs) (c : UInt8) (t : Bs) : cut st f s cur (c :: t) = if f s c = true then (if cur = [] then [] else [cur]) ++ cut st f (st s c) [] t else cut st f (st s c) (cur ++ [c]) t := by simp [cut]
theorem cut_length (s : σ) (cur l : Bs) : (cut st f s cur l).length ≤ cur.length + l.length := by
  induction l generalizing s cur with
  | nil => rw [cut_nil]; cases cur <;> simp
  | cons c t ih =>
    rw [cut_cons]
    split
    · have := ih (st s c) []
      cases cur <;> simp at this ⊢ <;> omega
    · have := ih (st s c) (cur ++ [c])
      simp at this ⊢; omega
theorem cut_total (s : σ) (cur l : Bs) : ((cut st f s cur l).map List.length).sum ≤ cur.length + l.length := by
  induction l generalizing s cur with
  | nil => rw [cut_nil]; cases cur <;> simp
  | cons c t ih =>
    rw [cut_cons]
    split
    · have := ih (st s c) []
      cases cur <;> simp at this ⊢ <;> omega
    · have := ih (st s c) (cur ++ [c])
      simp at this ⊢; omega
theorem cut_glued (s : σ) (cur x l : Bs) (h : glued st f s x) : cut st f s cur (x ++ l) = cut st f (x.foldl st s) (cur ++ x) l := by
  induction x generalizing s cur with
  | nil => simp
  | cons c t ih =>
    rw [List.cons_append, cut_cons, if_neg (by rw [h.1]; simp), ih _ _ h.2]
    simp
theorem glued_append (s : σ) (x y : Bs) (hx : glued st f s x) (hy : glued st f (x.foldl st s) y) : glued st f s (x ++ y) := by
  induction x generalizing s with
  | nil => exact hy
  | cons c t ih => exact ⟨hx.1, ih _ hx.2 hy⟩
/-- A word: not empty, nothing in it parts, and it ends in the state in which it began. -/
def isWord (st : σ → UInt8 → σ) (f : σ → UInt8 → Bool) (s0 : σ) (w : Bs) : Prop := w ≠ [] ∧ glued st f s0 w ∧ w.foldl st s0 = s0
theorem cut_words (s0 : σ) (hp : ∀ s c, f s c = true → s = s0 ∧ st s c = s0) (s : σ) (cur l : Bs) (hg : glued st f s0 cur) (he : cur.foldl st s0 = s) (hend : l.foldl st s = s0) :
    ∀ w ∈ cut st f s cur l, isWord st f s0 w := by
  induction l generalizing s cur with
  | nil =>
    rw [cut_nil]
    split
    · simp
    · rename_i hne
      intro w hw
      simp at hw
      subst hw
      refine ⟨hne, hg, ?_⟩
      rw [he]; exact hend
  | cons c t ih =>
    rw [cut_cons]
    by_cases hc : f s c = true
    · obtain ⟨h1, h2⟩ := hp s c hc
      rw [if_pos hc]
      intro w hw
      rcases List.mem_append.1 hw with hw | hw
      · split at hw
        · simp at hw
        · rename_i hne
          simp at hw
          subst hw
          exact ⟨hne, hg, by rw [he]; exact h1⟩
      · rw [h2] at hw
        refine ih s0 [] trivial rfl ?_ w hw
        rw [List.foldl_cons, h2] at hend; exact hend
    · rw [if_neg hc]
      refine ih (st s c) (cur ++ [c]) ?_ ?_ hend
      · exact glued_append _ _ _ hg (by rw [he]; exact ⟨by simpa using hc, trivial⟩)
      · rw [List.foldl_append, he]; rfl
theorem cut_one (s0 : σ) (w : Bs) (h : isWord st f s0 w) : cut st f s0 [] w = [w] := by
  have := cut_glued (st := st) (f := f) s0 [] w [] h.2.1
  rw [List.append_nil] at this
  rw [this, cut_nil, List.nil_append, if_neg h.1]
/-- All that are not empty, with one blank between. -/
def joinB : List Bs → Bs
  | [] => []
  | x :: t => match t with
    | [] => x
    | y :: t' => x ++ 32 :: joinB (y :: t')
theorem joinB_cons2 (x y : Bs) (t : List Bs) : joinB (x :: y :: t) = x ++ 32 :: joinB (y :: t) := by simp [joinB]
theorem cut_join (s0 : σ) (hb : f s0 32 = true) (hs : st s0 32 = s0) (ws : List Bs) (hw : ∀ w ∈ ws, isWord st f s0 w) : cut st f s0 [] (joinB ws) = ws := by
  induction ws with
  | nil => simp [joinB, cut_nil]
  | cons x t ih =>
    cases t with
    | nil => simp only [joinB]; exact cut_one s0 x (hw x (by simp))
    | cons y t =>
      have hx := hw x (by simp)
      rw [joinB_cons2, cut_glued _ _ _ _ hx.2.1, hx.2.2, cut_cons, if_pos hb, hs, List.nil_append, if_neg hx.1, ih (fun w h => hw w (by simp [h]))]
      rfl
theorem foldl_join (s0 : σ) (hs : st s0 32 = s0) (ws : List Bs) (hw : ∀ w ∈ ws, w.foldl st s0 = s0) : (joinB ws).foldl st s0 = s0 := by
  induction ws with
  | nil => rfl
  | cons x t ih =>
    cases t with
    | nil => exact hw x (by simp)
    | cons y t =>
      rw [joinB_cons2, List.foldl_append, hw x (by simp), List.foldl_cons, hs]
      exact ih (fun w h => hw w (by simp [h]))
end cut

/-- The words that quotes and strokes hold together. -/
def words (l : Bs) : List Bs := cut Rd.step Rd.blank Rd.r0 [] l
def ends (l : Bs) : Rd := l.foldl Rd.step Rd.r0
/-- The fields between blanks. -/
def stU (_ : Unit) (_ : UInt8) : Unit := ()
def fU (_ : Unit) (c : UInt8) : Bool := isB c
def fields (l : Bs) : List Bs := cut stU fU () [] l
def mean : Rd → Bs → Bs
  | _, [] => []
  | r, c :: t => (if r.kind c = 2 then [] else [c]) ++ mean (r.step c) t
theorem mean_append (r : Rd) (x y : Bs) : mean r (x ++ y) = mean r x ++ mean (x.foldl Rd.step r) y := by
  induction x generalizing r with
  | nil => rfl
  | cons c t ih => simp only [List.cons_append, mean, List.foldl_cons, ih, List.append_assoc]
theorem mean_length (r : Rd) (l : Bs) : (mean r l).length ≤ l.length := by
  induction l generalizing r with
  | nil => simp [mean]
  | cons c t ih =>
    have := ih (r.step c)
    simp only [mean, List.length_append, List.length_cons]
    split <;> simp <;> omega
def plainC (c : UInt8) : Bool := (97 ≤ c && c ≤ 122) || (65 ≤ c && c ≤ 90) || (48 ≤ c && c ≤ 57) || [95, 46, 47, 43, 45, 44, 58, 61, 64, 37].contains c
def esc (c : UInt8) : Bs := if c = 39 then [39, 92, 39, 39] else [c]
def quote (l : Bs) : Bs := if l ≠ [] ∧ l.all plainC = true then l else [39] ++ l.flatMap esc ++ [39]
theorem esc_length (l : Bs) : (l.flatMap esc).length ≤ 4 * l.length := by
  induction l with
  | nil => simp
  | cons c t ih =>
    simp only [List.flatMap_cons, List.length_append, List.length_cons]
    have : (esc c).length ≤ 4 := by unfold esc; split <;> simp
    omega
theorem quote_length (l : Bs) : (quote l).length ≤ 4 * l.length + 2 := by
  have := esc_length l
  unfold quote
  split <;> simp at this ⊢ <;> omega

theorem blank_state (r : Rd) (c : UInt8) (h : r.blank c = true) : r = Rd.r0 ∧ r.step c = Rd.r0 := by
  obtain ⟨q, t⟩ := r
  simp only [Rd.blank, Rd.kind, Bool.and_eq_true, beq_iff_eq, isB, Bool.or_eq_true] at h
  obtain ⟨h1, h2⟩ := h
  cases t with
  | true => simp at h1
  | false =>
    by_cases hq : q = 0
    · subst hq
      refine ⟨rfl, ?_⟩
      rcases h2 with rfl | rfl <;> simp [Rd.step, Rd.r0]
    · exfalso
      revert h1
      repeat' split
      all_goals simp_all
theorem r0_blank : Rd.r0.blank 32 = true := by decide
theorem r0_step : Rd.r0.step 32 = Rd.r0 := by simp [Rd.step, Rd.r0]
theorem r0_tab : Rd.r0.blank 9 = true := by decide
theorem r0_step9 : Rd.r0.step 9 = Rd.r0 := by simp [Rd.step, Rd.r0]
theorem words_are (l : Bs) (h : ends l = Rd.r0) : ∀ w ∈ words l, isWord Rd.step Rd.blank Rd.r0 w :=
  cut_words Rd.r0 blank_state Rd.r0 [] l trivial rfl h
theorem words_again (l : Bs) (h : ends l = Rd.r0) : words (joinB (words l)) = words l :=
  cut_join Rd.r0 r0_blank r0_step _ (words_are l h)
theorem ends_join (l : Bs) (h : ends l = Rd.r0) : ends (joinB (words l)) = Rd.r0 :=
  foldl_join Rd.r0 r0_step _ fun w hw => (words_are l h w hw).2.2
theorem words_one {l w : Bs} (h : ends l = Rd.r0) (hw : w ∈ words l) : words w = [w] ∧ ends w = Rd.r0 :=
  ⟨cut_one Rd.r0 w (words_are l h w hw), (words_are l h w hw).2.2⟩
theorem fields_are (l : Bs) : ∀ w ∈ fields l, isWord stU fU () w :=
  cut_words () (fun _ _ _ => ⟨rfl, rfl⟩) () [] l trivial rfl rfl
theorem fields_again (l : Bs) : fields (joinB (fields l)) = fields l :=
  cut_join () (by decide) rfl _ (fields_are l)
theorem plain_cut (l cur : Bs) (h : ∀ c ∈ l, c ≠ 39 ∧ c ≠ 34 ∧ c ≠ 92) : cut Rd.step Rd.blank Rd.r0 cur l = cut stU fU () cur l ∧ l.foldl Rd.step Rd.r0 = Rd.r0 := by
  induction l generalizing cur with
  | nil => exact ⟨rfl, rfl⟩
  | cons c t ih =>
    obtain ⟨h1, h2, h3⟩ := h c (by simp)
    have hs : Rd.r0.step c = Rd.r0 := by simp [Rd.step, Rd.r0, h1, h2, h3]
    have hb : Rd.r0.blank c = isB c := by simp [Rd.blank, Rd.kind, Rd.r0, h1, h2, h3]
    have ht : ∀ c ∈ t, c ≠ 39 ∧ c ≠ 34 ∧ c ≠ 92 := fun c hc => h c (by simp [hc])
    constructor
    · rw [cut_cons, cut_cons, hs, hb]
      have e : fU () c = isB c := rfl
      rw [e]
      split
      · rw [(ih [] ht).1]
      · exact (ih _ ht).1
    · rw [List.foldl_cons, hs]; exact (ih [] ht).2
theorem plain_words (l : Bs) (h : ∀ c ∈ l, c ≠ 39 ∧ c ≠ 34 ∧ c ≠ 92) : words l = fields l ∧ ends l = Rd.r0 := plain_cut l [] h

/-- In quotes nothing parts, and what is escaped means itself. -/
theorem esc_in (l : Bs) : glued Rd.step Rd.blank ⟨39, false⟩ (l.flatMap esc) ∧ (l.flatMap esc).foldl Rd.step ⟨39, false⟩ = ⟨39, false⟩ ∧ mean ⟨39, false⟩ (l.flatMap esc) = l := by
  induction l with
  | nil => exact ⟨trivial, rfl, rfl⟩
  | cons c t ih =>
    obtain ⟨i1, i2, i3⟩ := ih
    have hc : glued Rd.step Rd.blank ⟨39, false⟩ (esc c) ∧ (esc c).foldl Rd.step ⟨39, false⟩ = ⟨39, false⟩ ∧ mean ⟨39, false⟩ (esc c) = [c] := by
      unfold esc
      split
      · rename_i h; subst h
        refine ⟨?_, ?_, ?_⟩
        · simp [glued, Rd.step, Rd.blank, Rd.kind]
        · simp [Rd.step]
        · simp [mean, Rd.step, Rd.kind]
      · rename_i h
        refine ⟨?_, ?_, ?_⟩
        · simp [glued, Rd.blank, Rd.kind, h]
        · simp [Rd.step, h]
        · simp [mean, Rd.kind, h]
    rw [List.flatMap_cons]
    refine ⟨glued_append _ _ _ hc.1 (by rw [hc.2.1]; exact i1), by rw [List.foldl_append, hc.2.1, i2], ?_⟩
    rw [mean_append, hc.2.2, hc.2.1, i3]; rfl
theorem plainC_ne {c : UInt8} (h : plainC c = true) : c ≠ 39 ∧ c ≠ 34 ∧ c ≠ 92 ∧ isB c = false := by
  revert h
  revert c
  have key : ∀ n : Fin 256, plainC (UInt8.ofNat n.val) = true → UInt8.ofNat n.val ≠ 39 ∧ UInt8.ofNat n.val ≠ 34 ∧ UInt8.ofNat n.val ≠ 92 ∧ isB (UInt8.ofNat n.val) = false := by decide +kernel
  intro c
  have := key ⟨c.toNat, c.toNat_lt⟩
  simpa using this
theorem plain_glued (l : Bs) (h : l.all plainC = true) : glued Rd.step Rd.blank Rd.r0 l ∧ l.foldl Rd.step Rd.r0 = Rd.r0 ∧ mean Rd.r0 l = l := by
  induction l with
  | nil => exact ⟨trivial, rfl, rfl⟩
  | cons c t ih =>
    simp only [List.all_cons, Bool.and_eq_true] at h
    obtain ⟨h1, h2, h3, h4⟩ := plainC_ne h.1
    obtain ⟨i1, i2, i3⟩ := ih h.2
    have hs : Rd.r0.step c = Rd.r0 := by simp [Rd.step, Rd.r0, h1, h2, h3]
    have hk : Rd.r0.kind c = 0 := by simp [Rd.kind, Rd.r0, h1, h2, h3]
    refine ⟨⟨by simp [Rd.blank, h4], by rw [hs]; exact i1⟩, by rw [List.foldl_cons, hs, i2], ?_⟩
    simp only [mean, hk, hs, i3]
    rfl
theorem quote_is (l : Bs) : isWord Rd.step Rd.blank Rd.r0 (quote l) ∧ mean Rd.r0 (quote l) = l := by
  unfold quote
  split
  · rename_i h
    obtain ⟨h1, h2, h3⟩ := plain_glued l h.2
    exact ⟨⟨h.1, h1, h2⟩, h3⟩
  · obtain ⟨i1, i2, i3⟩ := esc_in l
    have e0 : Rd.r0.step 39 = ⟨39, false⟩ := by simp [Rd.step, Rd.r0]
    have e1 : (Rd.mk 39 false).step 39 = Rd.r0 := by simp [Rd.step, Rd.r0]
    refine ⟨⟨by simp, ?_, ?_⟩, ?_⟩
    · rw [List.append_assoc, List.cons_append, List.nil_append]
      refine ⟨by decide, ?_⟩
      rw [e0]
      refine glued_append _ _ _ i1 ?_
      rw [i2]
      exact ⟨by decide, trivial⟩
    · simp only [List.foldl_append, List.foldl_cons, List.foldl_nil, e0, i2, e1]
    · rw [List.append_assoc, mean_append, mean_append, List.foldl_cons, List.foldl_nil, e0, i2, i3]
      simp [mean, Rd.kind, Rd.r0]
theorem ends_quote (l : Bs) : ends (quote l) = Rd.r0 := (quote_is l).1.2.2
theorem words_two (s t : Bs) : words ([32, 32] ++ quote s ++ [9] ++ quote t ++ [32]) = [quote s, quote t] ∧ ends ([32, 32] ++ quote s ++ [9] ++ quote t ++ [32]) = Rd.r0 := by
  obtain ⟨⟨a1, a2, a3⟩, _⟩ := quote_is s
  obtain ⟨⟨b1, b2, b3⟩, _⟩ := quote_is t
  constructor
  · unfold words
    simp only [List.append_assoc]
    rw [List.cons_append, cut_cons, if_pos r0_blank, r0_step, List.cons_append, cut_cons, if_pos r0_blank, r0_step, List.nil_append, if_pos rfl, List.nil_append, List.nil_append, cut_glued _ _ _ _ a2, a3, List.cons_append, cut_cons, if_pos r0_tab, r0_step9,
      List.nil_append, if_neg a1, List.nil_append, cut_glued _ _ _ _ b2, b3, cut_cons, if_pos r0_blank, r0_step, List.nil_append, if_neg b1, cut_nil]
    rfl
  · unfold ends
    simp only [List.foldl_append, List.foldl_cons, List.foldl_nil, r0_step, a3, r0_step9, b3]
end Go.Proofs.YthcbagggalehgaaGreatDoor.K
namespace Go.Proofs.YthcbagggalehgaaGreatDoor.WD
open Go.RowKit Go.Shelf

theorem drop_ba (m : ByteArray) (k : Nat) (h : k < m.size) : (bl m).drop k = m[k] :: (bl m).drop (k + 1) := drop_bl m k h
section
variable {σ : Type} (st : σ → UInt8 → σ) (f : σ → UInt8 → Bool) (s0 : σ)
def pcs (s : ByteArray) : List ByteArray := (K.cut st f s0 [] (bl s)).map ba
def At (s : ByteArray) (k bg : Nat) (x : σ) (ws : List ByteArray) : Prop := pcs st f s0 s = ws ++ (K.cut st f x (((bl s).take k).drop bg) ((bl s).drop k)).map ba ∧ x = ((bl s).take k).foldl st s0
variable {st f s0}
theorem At.start (s : ByteArray) : At st f s0 s 0 0 s0 [] := by
  constructor
  · simp [pcs]
  · simp
theorem At.state {s : ByteArray} {k bg : Nat} {x : σ} {ws : List ByteArray} (h : At st f s0 s k bg x ws) (hk : k < s.size) : st x s[k] = ((bl s).take (k + 1)).foldl st s0 := by
  rw [take_snoc s k hk, List.foldl_append, ← h.2]; rfl
theorem At.on {s : ByteArray} {k bg : Nat} {x : σ} {ws : List ByteArray} (h : At st f s0 s k bg x ws) (hk : k < s.size) (hb : bg ≤ k) (hf : f x s[k] = false) : At st f s0 s (k + 1) bg (st x s[k]) ws := by
  refine ⟨?_, h.state hk⟩
  rw [h.1, drop_ba s k hk, K.cut_cons, if_neg (by rw [hf]; simp), take_snoc s k hk, List.drop_append_of_le_length (by simp [bl_length]; omega)]
theorem At.skip {s : ByteArray} {k bg : Nat} {x : σ} {ws : List ByteArray} (h : At st f s0 s k bg x ws) (hk : k < s.size) (hb : ¬ bg < k) (hf : f x s[k] = true) : At st f s0 s (k + 1) (k + 1) (st x s[k]) ws := by
  refine ⟨?_, h.state hk⟩
  have e : ((bl s).take k).drop bg = [] := List.drop_of_length_le (by simp; omega)
  have e2 : ((bl s).take (k + 1)).drop (k + 1) = [] := List.drop_of_length_le (by simp; omega)
  rw [h.1, drop_ba s k hk, K.cut_cons, if_pos hf, e, if_pos rfl, e2, List.nil_append]
theorem At.cutoff {s : ByteArray} {k bg : Nat} {x : σ} {ws : List ByteArray} (h : At st f s0 s k bg x ws) (hk : k < s.size) (hb : bg < k) (hf : f x s[k] = true) : At st f s0 s (k + 1) (k + 1) (st x s[k]) (ws ++ [s.extract bg k]) := by
  refine ⟨?_, h.state hk⟩
  have e : ¬ ((bl s).take k).drop bg = [] := by
    rw [← List.length_eq_zero_iff]; simp [bl_length]; omega
  have e2 : ((bl s).take (k + 1)).drop (k + 1) = [] := List.drop_of_length_le (by simp; omega)
  rw [h.1, drop_ba s k hk, K.cut_cons, if_pos hf, if_neg e, e2, ← bl_extract, List.map_append, List.map_singleton, ba_bl, List.append_assoc]
theorem At.last {s : ByteArray} {bg : Nat} {x : σ} {ws : List ByteArray} (h : At st f s0 s s.size bg x ws) (hb : bg < s.size) : pcs st f s0 s = ws ++ [s.extract bg s.size] ∧ x = (bl s).foldl st s0 := by
  have e : ¬ ((bl s).take s.size).drop bg = [] := by
    rw [← List.length_eq_zero_iff]; simp [bl_length]; omega
  refine ⟨?_, by rw [h.2, take_all]⟩
  rw [h.1, drop_all, K.cut_nil, if_neg e, ← bl_extract, List.map_singleton, ba_bl]
theorem At.done {s : ByteArray} {bg : Nat} {x : σ} {ws : List ByteArray} (h : At st f s0 s s.size bg x ws) (hb : ¬ bg < s.size) : pcs st f s0 s = ws ∧ x = (bl s).foldl st s0 := by
  have e : ((bl s).take s.size).drop bg = [] := List.drop_of_length_le (by simp [bl_length]; omega)
  refine ⟨?_, by rw [h.2, take_all]⟩
  rw [h.1, drop_all, K.cut_nil, e, if_pos rfl]; simp
theorem At.pre {s : ByteArray} {k bg : Nat} {x : σ} {ws : List ByteArray} (h : At st f s0 s k bg x ws) : ws <+: pcs st f s0 s := by rw [h.1]; exact List.prefix_append _ _
end

set_option maxRecDepth 20000 in
set_option maxHeartbeats 400000 in
theorem between_any {σ : Type} (st : σ → UInt8 → σ) (f : σ → UInt8 → Bool) (s0 : σ) (kb kd : Nat) (cb cd : Array Value) (J : σ → List ByteArray → World → Prop) (s : ByteArray) (w : World) (hs : s.size ≤ 140737488355328)
    (eb : ∀ args w, (callFunc kb args).run Tryz.prog w = .ok (.enter kb args) w) (ed : ∀ args w, (callFunc kd args).run Tryz.prog w = .ok (.enter kd args) w)
    (hB : ∀ x ws (c : UInt8) W, J x ws W → Calls Tryz.prog kb (#[.int .u8 c.toNat] ++ cb) W fun e w' => e = .returned (.bool (f x c)) ∧ J (st x c) ws w')
    (hD : ∀ x ws t W, J x ws W → (ws ++ [t]) <+: pcs st f s0 s → Calls Tryz.prog kd (#[.string t] ++ cd) W fun e w' => e = .returned (.tuple #[]) ∧ J x (ws ++ [t]) w')
    (h0 : J s0 [] w) :
    Calls Tryz.prog 105 #[.string s, .func (.func kb) #[] cb, .func (.func kd) #[] cd] w fun e w' => e = .returned (.tuple #[]) ∧ J ((bl s).foldl st s0) (pcs st f s0 s) w' := by
  have HB : Hid (∀ x ws (c : UInt8) W, J x ws W → Calls Tryz.prog kb (#[.int .u8 c.toNat] ++ cb) W fun e w' => e = .returned (.bool (f x c)) ∧ J (st x c) ws w') := hB
  have HD : Hid (∀ x ws t W, J x ws W → (ws ++ [t]) <+: pcs st f s0 s → Calls Tryz.prog kd (#[.string t] ++ cd) W fun e w' => e = .returned (.tuple #[]) ∧ J x (ws ++ [t]) w') := hD
  clear hB hD
  go_enter Tryz.func105, Tryz.ntmps105
  go_wp2
  go_loopw [6, 10] (fun v6 v10 wr => ∃ (k bg : Nat) (x : σ) (ws : List ByteArray), k ≤ s.size ∧ bg ≤ k ∧ v6 = .int .i64 bg ∧ v10 = .int .i64 k ∧ Hid (At st f s0 s k bg x ws) ∧ Hid (J x ws wr))
    (fun _ v10 _ => s.size - (intOf v10).toNat)
  case atStart => exact ⟨0, 0, s0, [], Nat.zero_le _, Nat.le_refl _, rfl, rfl, At.start s, h0⟩
  case round =>
    obtain ⟨k, bg, x, ws, hk, hbg, rfl, rfl, HA, HJ⟩ := hrel
    by_cases hlt : k < s.size
    · have hil : (k : Int) < (s.size : Int) := by omega
      cases hf : f x s[k] with
      | false =>
        have HC : Hid (∀ W, J x ws W → Calls Tryz.prog kb (#[.int .u8 s[k].toNat] ++ cb) W fun e w' => e = .returned (.bool false) ∧ J (st x s[k]) ws w') := fun W h => by
          have := HB.out x ws s[k] W h
          rw [hf] at this; exact this
        have HA1 : Hid (At st f s0 s (k + 1) bg (st x s[k]) ws) := HA.out.on hlt hbg hf
        clear hf
        go_wp2_with (go_at_fn kb; refine (HC.out _ HJ.out).mono ?_; rintro e w1 ⟨rfl, hJ1⟩)
        go_roundw
        case rel => exact ⟨k + 1, bg, _, ws, by omega, by omega, rfl, by go_num, HA1, by assumption⟩
        case measure => simp [intOf]; omega
      | true =>
        have HC : Hid (∀ W, J x ws W → Calls Tryz.prog kb (#[.int .u8 s[k].toNat] ++ cb) W fun e w' => e = .returned (.bool true) ∧ J (st x s[k]) ws w') := fun W h => by
          have := HB.out x ws s[k] W h
          rw [hf] at this; exact this
        by_cases hb : bg < k
        · have hib : (bg : Int) < (k : Int) := by omega
          have hi1 : (bg : Int) ≤ (k : Int) := by omega
          have hi2 : (k : Int) ≤ (s.size : Int) := by omega
          have HA1 : Hid (At st f s0 s (k + 1) (k + 1) (st x s[k]) (ws ++ [s.extract bg k])) := HA.out.cutoff hlt hb hf
          clear hf
          go_wp2_with (first | (go_at_fn kb; refine (HC.out _ HJ.out).mono ?_; rintro e w1 ⟨rfl, hJ1⟩; have HJ1 : Hid _ := hJ1; clear hJ1) | (go_at_fn kd; refine (HD.out (st x s[k]) ws (s.extract bg k) _ (Hid.out ‹_›) (HA1.out.pre)).mono ?_; rintro e w2 ⟨rfl, hJ2⟩; have HJ2 : Hid _ := hJ2; clear hJ2))
          go_roundw
          case rel => exact ⟨k + 1, k + 1, _, _, by omega, Nat.le_refl _, by go_num, by go_num, HA1, by assumption⟩
          case measure => simp [intOf]; omega
        · have hib : ¬ (bg : Int) < (k : Int) := by omega
          have HA1 : Hid (At st f s0 s (k + 1) (k + 1) (st x s[k]) ws) := HA.out.skip hlt hb hf
          clear hf
          go_wp2_with (go_at_fn kb; refine (HC.out _ HJ.out).mono ?_; rintro e w1 ⟨rfl, hJ1⟩)
          go_roundw
          case rel => exact ⟨k + 1, k + 1, _, ws, by omega, Nat.le_refl _, by go_num, by go_num, HA1, by assumption⟩
          case measure => simp [intOf]; omega
    · obtain rfl : k = s.size := by omega
      by_cases hb : bg < s.size
      · have hib : (bg : Int) < (s.size : Int) := by omega
        have hi1 : (bg : Int) ≤ (s.size : Int) := by omega
        have HL : Hid (pcs st f s0 s = ws ++ [s.extract bg s.size] ∧ x = (bl s).foldl st s0) := HA.out.last hb
        have HC : Hid (∀ W, J x ws W → Calls Tryz.prog kd (#[.string (s.extract bg s.size)] ++ cd) W fun e w' => e = .returned (.tuple #[]) ∧ J ((bl s).foldl st s0) (pcs st f s0 s) w') := fun W h => by
          have := HD.out x ws (s.extract bg s.size) W h (by rw [HL.out.1]; exact List.prefix_refl _)
          rw [HL.out.1, ← HL.out.2]; exact this
        go_wp2_with (go_at_fn kd; refine (HC.out _ HJ.out).mono ?_; rintro e w1 ⟨rfl, hJ1⟩)
        go_end0
        exact ⟨rfl, by assumption⟩
      · have hib : ¬ (bg : Int) < (s.size : Int) := by omega
        have HL : Hid (pcs st f s0 s = ws ∧ x = (bl s).foldl st s0) := HA.out.done hb
        go_wp2
        go_end0
        refine ⟨rfl, ?_⟩
        rw [HL.out.1, ← HL.out.2]; exact HJ.out
theorem index_blank (c : UInt8) : ∃ X : Int, Lib.indexByte [32, 9] c = X ∧ (0 ≤ X ↔ K.isB c = true) := by
  refine ⟨_, rfl, ?_⟩
  unfold K.isB
  by_cases h1 : c = 32
  · subst h1; decide
  by_cases h2 : c = 9
  · subst h2; decide
  have g : ∀ x : UInt8, c ≠ x → (x == c) = false := fun x h => by simpa using fun e => h e.symm
  have g' : ∀ x : UInt8, c ≠ x → (c == x) = false := fun x h => by simpa using h
  simp [Lib.indexByte, g 32 h1, g 9 h2, g' 32 h1, g' 9 h2]

/-- What is a blank, asked of a byte alone. -/
theorem blank0_any (c : UInt8) (w : World) :
    Calls Tryz.prog 106 #[.int .u8 c.toNat] w fun e w' => e = .returned (.bool (K.isB c)) ∧ w = w' := by
  obtain ⟨X, hX, hX0⟩ := index_blank c
  have HO : Hid (∀ W, Calls Tryz.prog 98 #[.string ⟨#[32, 9]⟩, .int .u8 c.toNat] W fun e w' => e = .returned (.int .i64 X) ∧ W = w') := by
    intro W
    have h := Tryz.strings_IndexByte ⟨#[32, 9]⟩ c.toNat W
    rw [u8_back] at h
    rw [← hX]; exact h.mono fun e w' h => ⟨h.1, h.2.symm⟩
  clear hX
  cases hb : K.isB c
  · have hx : ¬ 0 ≤ X := by rw [hX0, hb]; simp
    clear hX0 hb
    go_enter Tryz.func106, Tryz.ntmps106
    go_wp2_with fail
    refine (HO.out _).mono ?_
    rintro e w' ⟨rfl, rfl⟩
    go_wp2
    go_ret
    exact ⟨ret_bool (by simpa using hx), rfl⟩
  · have hx : 0 ≤ X := by rw [hX0, hb]
    clear hX0 hb
    go_enter Tryz.func106, Tryz.ntmps106
    go_wp2_with fail
    refine (HO.out _).mono ?_
    rintro e w' ⟨rfl, rfl⟩
    go_wp2
    go_ret
    exact ⟨ret_bool (by simp), rfl⟩
/-- A box that holds a list of texts. -/
structure Lst (base b : Nat) (ws : List ByteArray) (w : World) : Prop where
  ex : ∃ v, w.heap[b]? = some (.cells #[v] 23 (0, 0)) ∧ w.ownsRow base 9 1 v ws.length (ws.map Value.string) ∧ v.ownBlock ≠ some b
/-- One block is written, and memory is made. -/
structure Some1 (b : Nat) (g : Option Nat) (w w' : World) : Prop where
  os : w'.os = w.os
  tape : w'.tape = w.tape
  output : w'.output = w.output
  size : w.heap.size ≤ w'.heap.size
  block : ∀ j, j < w.heap.size → j ≠ b → g ≠ some j → w'.heap[j]? = w.heap[j]?
set_option maxRecDepth 20000 in
set_option maxHeartbeats 400000 in
theorem push_any {base b : Nat} {ws : List ByteArray} {v : Value} (x : ByteArray) (w : World) (hbb : base ≤ w.heap.size) (hlen : ws.length ≤ 4000000) (hblk : w.heap[b]? = some (.cells #[v] 23 (0, 0))) (hrow : w.ownsRow base 9 1 v ws.length (ws.map Value.string)) (hvb : v.ownBlock ≠ some b) :
    Calls Tryz.prog 96 #[.string x, .pointer (some ⟨b, 0, none⟩)] w fun e w' => e = .returned (.tuple #[]) ∧ Lst base b (ws ++ [x]) w' ∧ Some1 b v.ownBlock w w' := by
  obtain ⟨i0, hi, hz0, hz1, hz2⟩ := info_of Ex.infoS
  obtain ⟨n, hn⟩ : ∃ n, n = ws.length := ⟨_, rfl⟩
  have hbl : b < w.heap.size := (Array.getElem?_eq_some_iff.1 hblk).1
  have hsl : ∃ a cap, v = .slice a n cap := by
    rw [hn]
    rcases hrow.2 with ⟨h1, h2⟩ | ⟨g, cap, cur, rfl, _⟩
    · exact ⟨none, 0, by rw [h1, h2]⟩
    · exact ⟨_, _, rfl⟩
  obtain ⟨a, cap, rfl⟩ := hsl
  rw [← hn] at hrow hlen
  have HW : Hid (n = ws.length ∧ w.heap[b]? = some (.cells #[.slice a n cap] 23 (0, 0))) := ⟨hn, hblk⟩
  have c0 : w.cell? ⟨b, 0, none⟩ = some (.slice a n cap) := by simp only [World.cell?, hblk]; rfl
  clear hn hblk
  go_enter Tryz.func96, Tryz.ntmps96
  go_wp2_with (at_builtin; refine wpList_append_own_at _ rfl _ _ 23 rfl base 9 i0 (.string ⟨#[]⟩) 1 16 Tryz.underlying23 hi hz0 hz1 hz2 rfl (by decide) _ _ _ rfl (hrow.alloc _) ⟨w.heap.size, 0, none⟩ 1 1 [.string x] rfl rfl ?c1 ?c2 ?c3 ?c4 ?c5 ?_)
  case c1 =>
    intro j u hj
    match j, hj with
    | 0, hj => simp at hj; subst hj; simp [Addr.add]
  case c2 => intro u hu; simp at hu; subst hu; rfl
  case c3 => unfold maxLen; omega
  case c4 => omega
  case c5 => simp; omega
  intro v0 w3 hown' hgrow _ hloc
  obtain ⟨g', cap', hv0⟩ : ∃ g' cap', v0 = .slice (some ⟨g', 0, none⟩) (n + 1) cap' := by
    rcases hown'.2 with ⟨_, h0⟩ | ⟨g', cap', cur', hv', _⟩
    · omega
    · exact ⟨g', cap', hv'⟩
  subst hv0
  have hb3 : w3.heap[b]? = some (.cells #[.slice a n cap] 23 (0, 0)) := by
    rw [hgrow.block b (by simp; omega) (fun e => hvb e.symm)]; exact (Below.heap_alloc _ _ _ hbl).trans HW.out.2
  have d5 : w3.cell? ⟨b, 0, none⟩ = some (.slice a n cap) := by simp only [World.cell?, hb3]; rfl
  have f5 : w3.frozen? ⟨b, 0, none⟩ = false := by simp [World.frozen?, hb3]
  have hs3 := hgrow.size
  have HT : Hid (Some1 b (Value.slice a n cap).ownBlock w w3) := by
    refine ⟨hgrow.os, hgrow.tape, hgrow.output, by simp at hs3; omega, fun j hj _ hv => ?_⟩
    rw [hgrow.block j (by simp; omega) (fun e => hv e.symm)]; exact Below.heap_alloc _ _ _ hj
  have HO : Hid (w3.ownsRow base 9 1 (.slice (some ⟨g', 0, none⟩) (n + 1) cap') (ws ++ [x]).length ((ws ++ [x]).map Value.string)) := by
    unfold Hid
    rw [List.map_append, List.length_append, ← HW.out.1]
    exact hown'
  have HB : Hid (w3.heap[b]? = some (.cells #[.slice a n cap] 23 (0, 0))) := hb3
  clear hown' hgrow hloc hb3 hs3 hrow c0
  go_wp2
  go_end0
  have hv : (Value.slice (some ⟨g', 0, none⟩) (n + 1) cap').ownBlock ≠ some b := fun e => by
    obtain ⟨cur, hc⟩ := row_type HO.out e
    have := HB.out
    rw [hc] at this; simp at this
  refine ⟨rfl, ⟨_, heap_set HB.out _, row_set HO.out hv _, hv⟩, ⟨HT.out.os, HT.out.tape, HT.out.output, by rw [size_set]; exact HT.out.size, fun j hj hb hg => ?_⟩⟩
  rw [Below.heap_setCell _ _ _ _ hb]; exact HT.out.block j hj hb hg
theorem Some1.below {b n0 : Nat} {g : Option Nat} {w0 w w' : World} (h : Some1 b g w w') (h0 : Below n0 w0 w) (hn : n0 ≤ w.heap.size) (hb : n0 ≤ b) (hg : ∀ j, g = some j → n0 ≤ j) : Below n0 w0 w' :=
  ⟨h.os.trans h0.os, h.tape.trans h0.tape, h.output.trans h0.output, Nat.le_trans h0.size h.size, fun j hj => (h.block j (by omega) (by omega) (fun e => by have := hg j e; omega)).trans (h0.block j hj)⟩
theorem alloc_at (w : World) (o : Obj) : (w.alloc o).heap[w.heap.size]? = some o := by
  unfold World.alloc; exact Array.getElem?_push_size
theorem ef1 : ∀ args w, (callFunc 106 args).run Tryz.prog w = .ok (.enter 106 args) w := enters_of Tryz.func106 (by kernel_rfl) rfl
theorem eF1 : ∀ args w, (callFunc 96 args).run Tryz.prog w = .ok (.enter 96 args) w := enters_of Tryz.func96 (by kernel_rfl) rfl
/-- The fields, as texts. -/
def flds (s : ByteArray) : List ByteArray := (K.fields (bl s)).map ba
theorem pcs_flds (s : ByteArray) : pcs K.stU K.fU () s = flds s := rfl
theorem flds_len (s : ByteArray) : (flds s).length ≤ s.size := by
  have := K.cut_length (st := K.stU) (f := K.fU) () [] (bl s)
  rw [bl_length] at this
  unfold flds K.fields
  simpa using this
set_option maxHeartbeats 400000 in
theorem fields0_any (kd : Nat) (cd : Array Value) (J : List ByteArray → World → Prop) (s : ByteArray) (w : World) (hs : s.size ≤ 140737488355328) (ed : ∀ args w, (callFunc kd args).run Tryz.prog w = .ok (.enter kd args) w)
    (hD : ∀ ws t W, J ws W → (ws ++ [t]) <+: flds s → Calls Tryz.prog kd (#[.string t] ++ cd) W fun e w' => e = .returned (.tuple #[]) ∧ J (ws ++ [t]) w') (h0 : J [] w) :
    Calls Tryz.prog 95 #[.string s, .func (.func kd) #[] cd] w fun e w' => e = .returned (.tuple #[]) ∧ J (flds s) w' := by
  have HB : Hid (Calls Tryz.prog 105 #[.string s, .func (.func 106) #[] #[], .func (.func kd) #[] cd] w fun e w' => e = .returned (.tuple #[]) ∧ J (flds s) w') := by
    refine between_any K.stU K.fU () 106 kd #[] cd (fun _ ws W => J ws W) s w hs ef1 ed ?_ (fun _ ws t W hJ hp => hD ws t W hJ hp) h0
    intro _ ws c W hJ
    exact (blank0_any c W).mono fun e w' ⟨he, hw⟩ => ⟨he, hw ▸ hJ⟩
  clear hD h0
  go_enter Tryz.func95, Tryz.ntmps95
  go_wp2_with (go_at_call 105; refine HB.out.mono ?_; rintro e w1 ⟨rfl, hJ⟩)
  go_end0
  exact ⟨rfl, by assumption⟩
def FJ (n0 : Nat) (w0 : World) (ws : List ByteArray) (W : World) : Prop := Lst (n0 + 1) n0 ws W ∧ Below n0 w0 W ∧ n0 < W.heap.size
theorem fj_push {n0 : Nat} {w0 : World} {ws : List ByteArray} {W : World} (x : ByteArray) (hl : ws.length ≤ 4000000) (h : FJ n0 w0 ws W) :
    Calls Tryz.prog 96 #[.string x, .pointer (some ⟨n0, 0, none⟩)] W fun e w' => e = .returned (.tuple #[]) ∧ FJ n0 w0 (ws ++ [x]) w' := by
  obtain ⟨⟨v, h1, h2, h3⟩, hb, hn⟩ := h
  refine (push_any x W (by omega) hl h1 h2 h3).mono fun e w' ⟨he, hL, hS⟩ => ⟨he, hL, hS.below hb (by omega) (Nat.le_refl _) (fun j hj => ?_), Nat.lt_of_lt_of_le hn hS.size⟩
  have := (h2.lt j hj).1; omega
set_option maxHeartbeats 400000 in
theorem fields_any (s : ByteArray) (w : World) (hs : s.size ≤ 4000000) :
    Calls Tryz.prog 82 #[.string s] w fun e w' => ∃ v, e = .returned v ∧ Words w'.heap.size w' v (flds s) ∧ Below w.heap.size w w' := by
  have HF : Hid (Calls Tryz.prog 95 #[.string s, .func (.func 96) #[] #[.pointer (some ⟨w.heap.size, 0, none⟩)]] (w.alloc (.cells #[.slice none 0 0] 23)) fun e w' => e = .returned (.tuple #[]) ∧ FJ w.heap.size w (flds s) w') := by
    refine fields0_any 96 _ (FJ w.heap.size w) s _ (by omega) eF1 (fun ws t W hJ hp => ?_) ?_
    · have h1 := hp.length_le
      have h2 := flds_len s
      rw [List.length_append] at h1
      exact fj_push t (by omega) hJ
    · refine ⟨⟨.slice none 0 0, ?_, World.ownsRow_nil _ _ _ _, by simp [Value.ownBlock]⟩, (Below.refl _ _).alloc (Nat.le_refl _) _, by simp⟩
      exact alloc_at _ _
  go_enter Tryz.func82, Tryz.ntmps82
  go_wp2_with fail
  refine HF.out.mono ?_
  rintro e w1 ⟨rfl, ⟨v, h1, h2, h3⟩, hb, hn⟩
  have c0 : w1.cell? ⟨w.heap.size, 0, none⟩ = some v := by simp only [World.cell?, h1]; rfl
  have HW : Hid (Words w1.heap.size w1 v (flds s)) := words_of_owns h2 (Nat.le_refl _)
  clear h1 h2 h3
  go_wp2
  go_ret
  exact ⟨_, rfl, HW.out, hb⟩
end Go.Proofs.YthcbagggalehgaaGreatDoor.WD
namespace Go.Proofs.YthcbagggalehgaaGreatDoor.WD
open Go.RowKit Go.Shelf

abbrev E : ByteArray := ⟨#[]⟩
theorem bl_E {x : ByteArray} : bl x = [] ↔ x = E := ⟨fun h => bl_inj h, fun h => by rw [h]; rfl⟩
theorem lib_join (l : List (List UInt8)) : Lib.join l [32] = K.joinB l := by
  induction l with
  | nil => rfl
  | cons x t ih =>
    cases t with
    | nil => exact Lib.join_one x [32]
    | cons y t =>
      rw [K.joinB_cons2, ← ih, Lib.join_cons, Lib.join_cons]; simp [Lib.joinTail]
theorem owns_slice {base : Nat} {w : World} {v : Value} {n : Nat} {xs : List Value} (h : w.ownsRow base 9 1 v n xs) : ∃ a cap, v = .slice a n cap := by
  rcases h.2 with ⟨rfl, rfl⟩ | ⟨g, cap, cur, rfl, _⟩
  · exact ⟨_, _, rfl⟩
  · exact ⟨_, _, rfl⟩
theorem info9 : (Tryz.prog.info? 9).map (fun i => (i.zero, i.size, i.bytes)) = some (some (.string ⟨#[]⟩), 1, 16) := by kernel_rfl

theorem join_own (v : Value) (xs : List ByteArray) (base : Nat) (w : World) (h : w.ownsRow base 9 1 v xs.length (xs.map Value.string)) (hn : xs.length ≤ 3000000) (hl : (K.joinB (xs.map bl)).length ≤ 140737488355328) :
    Calls Tryz.prog 97 #[v, .string ⟨#[32]⟩] w fun e w' => e = .returned (.string (ba (K.joinB (xs.map bl)))) ∧ Below w.heap.size w w' := by
  have hj : Lib.join (xs.map (·.data.toList)) (⟨#[32]⟩ : ByteArray).data.toList = K.joinB (xs.map bl) := lib_join (xs.map bl)
  by_cases hne : xs = []
  · subst hne
    obtain ⟨a, cap, rfl⟩ := owns_slice h
    refine (Tryz.strings_Join_none a cap ⟨#[32]⟩ w).mono ?_
    rintro e w' ⟨rfl, rfl⟩
    exact ⟨rfl, Below.refl _ _⟩
  · obtain ⟨hxl, ⟨hv, hn0⟩ | ⟨g, cap, cur, rfl, hg, hcur, hcap, hcm, hcs, hct⟩⟩ := h
    · exact absurd (List.length_eq_zero_iff.1 hn0) hne
    · have hgl : g < w.heap.size := (Array.getElem?_eq_some_iff.1 hcur).1
      refine (Tryz.strings_Join g 0 cap xs ⟨#[32]⟩ w ?_ hgl (by omega) (by omega) (by rw [hj]; omega)).mono ?_
      · intro j x hx
        obtain ⟨hjl, rfl⟩ := List.getElem?_eq_some_iff.1 hx
        have hjc : cur.toList[j]? = some (.string xs[j]) := by
          have h2 : (cur.toList.take (xs.length * 1))[j]? = (xs.map Value.string)[j]? := by rw [hct]
          rw [List.getElem?_take_of_lt (by omega)] at h2
          rw [h2]; simp [List.getElem?_eq_getElem hjl]
        rw [Nat.zero_add]
        simp only [World.cell?, hcur]
        simpa using hjc
      · rintro e w' ⟨rfl, hb⟩
        exact ⟨by rw [hj]; rfl, hb⟩

def neE (x : ByteArray) : Bool := decide (x ≠ E)
def told (l : List ByteArray) : List ByteArray := l.filter neE
theorem told_snoc (l : List ByteArray) (k : Nat) (h : k < l.length) : told (l.take (k + 1)) = told (l.take k) ++ (if neE l[k] then [l[k]] else []) := by
  unfold told; rw [List.take_succ_eq_append_getElem h, List.filter_append, List.filter_cons, List.filter_nil]
theorem told_len (l : List ByteArray) (k : Nat) : (told (l.take k)).length ≤ l.length := by
  have := List.length_filter_le neE (l.take k)
  unfold told; simp at this; omega
/-- The joined text. -/
def joined (l : List ByteArray) : ByteArray := ba (K.joinB ((told l).map bl))

set_option maxHeartbeats 1600000 in
set_option maxRecDepth 20000 in
theorem join_any (a : Option Addr) (n c : Nat) (l : List ByteArray) (w : World) (hl : n ≤ 2000000) (hjs : (joined l).size ≤ 140737488355328) (hw : Words w.heap.size w (.slice a n c) l) :
    Calls Tryz.prog 83 #[.slice a n c] w fun e w' => e = .returned (.string (joined l)) ∧ Below w.heap.size w w' := by
  obtain ⟨i0, hi, hz0, hz1, hz2⟩ := info_parts info9
  have HW : Hid (n = l.length ∧ Words w.heap.size w (.slice a n c) l) := ⟨hw.len, hw⟩
  obtain ⟨j, hj⟩ : ∃ j, j = joined l := ⟨_, rfl⟩
  have HJ : Hid (∀ v W base, W.ownsRow base 9 1 v (told l).length ((told l).map Value.string) → Calls Tryz.prog 97 #[v, .string ⟨#[32]⟩] W fun e w' => e = .returned (.string j) ∧ Below W.heap.size W w') := by
    intro v W base h
    have h1 : (told l).length ≤ l.length := List.length_filter_le neE l
    have h2 : (K.joinB ((told l).map bl)).length = (joined l).size := by rw [← bl_length]; unfold joined; rw [bl_ba]
    have h3 := hw.len
    have := join_own v (told l) base W h (by omega) (by omega)
    rw [hj]; exact this
  rw [← hj]
  clear hw hjs hj
  go_enter Tryz.func83, Tryz.ntmps83
  go_wp2
  go_loopw [3, 8] (fun v vi wr => ∃ k : Nat, k ≤ n ∧ vi = .int .i64 k ∧ wr.ownsRow w.heap.size 9 1 v (told (l.take k)).length ((told (l.take k)).map Value.string) ∧ Below w.heap.size w wr)
    (fun _ vi _ => n - (intOf vi).toNat)
  case atStart => exact ⟨0, Nat.zero_le _, rfl, World.ownsRow_nil _ _ _ _, Below.refl _ _⟩
  case round =>
    obtain ⟨k, hk, rfl, hown, hb⟩ := hrel
    have hbs := hb.size
    by_cases hlt : k < n
    · have hkl : k < l.length := by rw [← HW.out.1]; exact hlt
      have hfl := told_len l k
      rw [← HW.out.1] at hfl
      have hil : (k : Int) < (n : Int) := by omega
      obtain ⟨b, o, rfl, hbB, hcx0⟩ := HW.out.2.pick k hkl
      obtain ⟨x, hxe⟩ : ∃ x, x = l[k] := ⟨_, rfl⟩
      have hcx : wr.cell? ⟨b, o + k, none⟩ = some (.string x) := by rw [hb.cell (p := ⟨b, o + k, none⟩) hbB, hxe]; exact hcx0
      have HF : Hid (told (l.take (k + 1)) = told (l.take k) ++ (if neE x then [x] else [])) := by
        rw [hxe]; exact told_snoc l k hkl
      clear hxe hcx0
      by_cases hxE : x = E
      · subst hxE
        have HF2 : Hid (told (l.take (k + 1)) = told (l.take k)) := by rw [HF.out]; simp [neE, Hid]
        clear HF
        go_wp2
        go_roundw
        case rel => exact ⟨k + 1, by omega, by go_num, by rw [HF2.out]; exact hown, hb⟩
        case measure => simp [intOf]; omega
      · have HF2 : Hid (told (l.take (k + 1)) = told (l.take k) ++ [x]) := by rw [HF.out]; simp [neE, Hid, hxE]
        have t1 : ¬ x.toList = [] := by rw [Lib.toList_data]; exact fun e => hxE (bl_E.1 e)
        have t1' : x.toList.isEmpty = false := by simpa using t1
        clear HF hxE
        go_wp2_with (at_builtin; refine wpList_append_own _ rfl _ _ 23 rfl w.heap.size 9 i0 (.string ⟨#[]⟩) 1 16 Tryz.underlying23 hi hz0 hz1 hz2 rfl (by decide) _ _ _ rfl (hown.alloc _) ⟨wr.heap.size, 0, none⟩ 1 1 [.string x] rfl rfl ?c1 ?c2 ?c3 ?c4 ?c5 ?_)
        case c1 =>
          intro j u hj
          match j, hj with
          | 0, hj => simp at hj; subst hj; simp [Addr.add]
        case c2 => intro u hu; simp at hu; subst hu; rfl
        case c3 => unfold maxLen; omega
        case c4 => omega
        case c5 => simp; omega
        intro v' w2 hown' hgrow _
        have hb3 : Below w.heap.size w w2 := (hb.alloc hbs _).grown hgrow (by simp; omega) (fun k hk => (hown.lt k hk).1)
        have hown2 : w2.ownsRow w.heap.size 9 1 v' (told (l.take (k + 1))).length ((told (l.take (k + 1))).map Value.string) := by
          rw [HF2.out]; simpa using hown'
        clear hown' hgrow hown hb hcx
        go_wp2
        go_roundw
        case rel => exact ⟨k + 1, by omega, by go_num, hown2, hb3⟩
        case measure => simp [intOf]; omega
    · obtain rfl : k = n := by omega
      have HO : Hid (wr.ownsRow w.heap.size 9 1 u3 (told l).length ((told l).map Value.string)) := by
        have h := hown
        rw [HW.out.1, List.take_length] at h; exact h
      clear hown
      go_wp2_with fail
      refine (HJ.out _ _ _ HO.out).mono ?_
      rintro e w2 ⟨rfl, hb2⟩
      have hb3 := hb.trans (hb2.mono hbs)
      clear hb hb2 HO
      go_wp2
      go_ret
      exact ⟨rfl, hb3⟩
end Go.Proofs.YthcbagggalehgaaGreatDoor.WD
