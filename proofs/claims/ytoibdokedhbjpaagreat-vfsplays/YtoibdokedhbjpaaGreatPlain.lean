/-
  Plain mathematics of paths: their parts, the clean path, what joins and cuts are: no program is named here.
-/
namespace Go.Proofs.YtoibdokedhbjpaaGreat.G

abbrev Bs := List UInt8
def splitL : Bs → List Bs
  | [] => [[]]
  | c :: cs => if c = 47 then [] :: splitL cs else
      match splitL cs with
      | [] => [[c]]
      | h :: t => (c :: h) :: t
def dd : Bs := [46, 46]
def stepL (r : Bool) (k : List Bs) (x : Bs) : List Bs :=
  if x = [] ∨ x = [46] then k
  else if x = dd then
    (if k ≠ [] ∧ k.getLast? ≠ some dd then k.dropLast else if r then k else k ++ [dd])
  else k ++ [x]
def rootedL : Bs → Bool
  | [] => false
  | c :: _ => c == 47
def foldP (r : Bool) (l : List Bs) : List Bs := l.foldl (stepL r) []
def partsL (p : Bs) : List Bs := foldP (rootedL p) (splitL p)
def joinL : List Bs → Bs
  | [] => []
  | x :: t => match t with
    | [] => x
    | y :: t' => x ++ 47 :: joinL (y :: t')
def cleanOf (r : Bool) (k : List Bs) : Bs :=
  if r then 47 :: joinL k else if joinL k = [] then [46] else joinL k
def cleanL (p : Bs) : Bs := cleanOf (rootedL p) (partsL p)

theorem splitL_ne (s : Bs) : splitL s ≠ [] := by
  cases s with
  | nil => simp [splitL]
  | cons c cs =>
    rw [splitL]
    split
    · simp
    · split <;> simp
theorem splitL_cons_ne {c : UInt8} (hc : c ≠ 47) (s : Bs) : ∃ h t, splitL s = h :: t ∧ splitL (c :: s) = (c :: h) :: t := by
  cases hs : splitL s with
  | nil => exact absurd hs (splitL_ne s)
  | cons h t => exact ⟨h, t, rfl, by rw [splitL, if_neg hc, hs]⟩
theorem splitL_cons_eq (s : Bs) : splitL (47 :: s) = [] :: splitL s := by rw [splitL, if_pos rfl]
theorem splitL_append (a b : Bs) : splitL (a ++ 47 :: b) = splitL a ++ splitL b := by
  induction a with
  | nil => rw [List.nil_append, splitL_cons_eq]; rfl
  | cons c a ih =>
    by_cases hc : c = 47
    · subst hc; rw [List.cons_append, splitL_cons_eq, splitL_cons_eq, ih]; rfl
    · obtain ⟨h, t, h1, h2⟩ := splitL_cons_ne hc a
      obtain ⟨h', t', h3, h4⟩ := splitL_cons_ne hc (a ++ 47 :: b)
      rw [List.cons_append, h4, h2]
      rw [ih, h1] at h3
      simp only [List.cons_append, List.cons.injEq] at h3
      rw [← h3.1, ← h3.2]; rfl
theorem splitL_none {a : Bs} (h : 47 ∉ a) : splitL a = [a] := by
  induction a with
  | nil => rfl
  | cons c a ih =>
    simp only [List.mem_cons, not_or] at h
    rw [splitL, if_neg (fun e => h.1 e.symm), ih h.2]
theorem splitL_free (s : Bs) : ∀ x ∈ splitL s, 47 ∉ x := by
  induction s with
  | nil => intro x hx; simp [splitL] at hx; simp [hx]
  | cons c s ih =>
    by_cases hc : c = 47
    · subst hc; rw [splitL_cons_eq]
      intro x hx
      rcases List.mem_cons.1 hx with rfl | hx
      · simp
      · exact ih x hx
    · obtain ⟨h, t, h1, h2⟩ := splitL_cons_ne hc s
      rw [h2]; rw [h1] at ih
      intro x hx
      rcases List.mem_cons.1 hx with rfl | hx
      · have := ih h (by simp)
        simp only [List.mem_cons, not_or]
        exact ⟨fun e => hc e.symm, this⟩
      · exact ih x (by simp [hx])
theorem splitL_length (s : Bs) : (splitL s).length ≤ s.length + 1 := by
  induction s with
  | nil => simp [splitL]
  | cons c s ih =>
    by_cases hc : c = 47
    · subst hc; rw [splitL_cons_eq]; simp; omega
    · obtain ⟨h, t, h1, h2⟩ := splitL_cons_ne hc s
      rw [h2]; rw [h1] at ih; simp at ih ⊢; omega
theorem joinL_cons_ne (x : Bs) {l : List Bs} (h : l ≠ []) : joinL (x :: l) = x ++ 47 :: joinL l := by
  cases l with
  | nil => exact absurd rfl h
  | cons y t => rfl
theorem joinL_one (x : Bs) : joinL [x] = x := rfl
theorem splitL_join (l : List Bs) (h : l ≠ []) (hf : ∀ x ∈ l, 47 ∉ x) : splitL (joinL l) = l := by
  induction l with
  | nil => exact absurd rfl h
  | cons x t ih =>
    by_cases ht : t = []
    · subst ht; rw [joinL_one]; exact splitL_none (hf x (by simp))
    · rw [joinL_cons_ne x ht, splitL_append, splitL_none (hf x (by simp)), ih ht (fun y hy => hf y (by simp [hy]))]
      rfl
theorem join_split (s : Bs) : joinL (splitL s) = s := by
  induction s with
  | nil => rfl
  | cons c s ih =>
    by_cases hc : c = 47
    · subst hc; rw [splitL_cons_eq, joinL_cons_ne _ (splitL_ne s), ih]; rfl
    · obtain ⟨h, t, h1, h2⟩ := splitL_cons_ne hc s
      rw [h2]; rw [h1] at ih
      by_cases ht : t = []
      · subst ht; rw [joinL_one] at ih ⊢; rw [ih]
      · rw [joinL_cons_ne _ ht] at ih ⊢; rw [List.cons_append, ih]
theorem joinL_size {m : Nat} (l : List Bs) : (∀ x ∈ l, x.length ≤ m) → (joinL l).length ≤ l.length * (m + 1) := by
  induction l with
  | nil => intro _; simp [joinL]
  | cons x t ih =>
    intro h
    have h1 := ih (fun y hy => h y (by simp [hy]))
    have h2 := h x (by simp)
    by_cases ht : t = []
    · subst ht; rw [joinL_one]; simp; omega
    · rw [joinL_cons_ne _ ht, List.length_append, List.length_cons, List.length_cons, Nat.succ_mul]; omega

theorem foldP_snoc (r : Bool) (l : List Bs) (x : Bs) : foldP r (l ++ [x]) = stepL r (foldP r l) x := by
  unfold foldP; rw [List.foldl_append]; rfl
theorem step_mem {r : Bool} {k : List Bs} {x y : Bs} (h : y ∈ stepL r k x) : y ∈ k ∨ (y = x ∧ x ≠ [] ∧ x ≠ [46]) := by
  unfold stepL at h
  split at h
  · exact .inl h
  · rename_i hx
    simp only [not_or] at hx
    split at h
    · rename_i hd
      split at h
      · exact .inl (List.dropLast_subset k h)
      · split at h
        · exact .inl h
        · rcases List.mem_append.1 h with h | h
          · exact .inl h
          · simp at h; exact .inr ⟨h.trans hd.symm, hx.1, hx.2⟩
    · rcases List.mem_append.1 h with h | h
      · exact .inl h
      · simp at h; exact .inr ⟨h, hx.1, hx.2⟩
theorem snocInd {P : List Bs → Prop} (h0 : P []) (h1 : ∀ l x, P l → P (l ++ [x])) (l : List Bs) : P l := by
  have : ∀ n (l : List Bs), l.length = n → P l := by
    intro n
    induction n with
    | zero => intro l hl; rw [List.length_eq_zero_iff.1 hl]; exact h0
    | succ n ih =>
      intro l hl
      have hne : l ≠ [] := by intro e; subst e; simp at hl
      have := h1 l.dropLast (l.getLast hne) (ih _ (by simp; omega))
      rwa [List.dropLast_concat_getLast] at this
  exact this _ l rfl
theorem foldP_mem (r : Bool) (l : List Bs) : ∀ y ∈ foldP r l, y ∈ l ∧ y ≠ [] ∧ y ≠ [46] := by
  refine snocInd (P := fun l => ∀ y ∈ foldP r l, y ∈ l ∧ y ≠ [] ∧ y ≠ [46]) ?_ ?_ l
  · intro y hy; simp [foldP] at hy
  · intro l x ih y hy
    rw [foldP_snoc] at hy
    rcases step_mem hy with h | ⟨rfl, h⟩
    · have := ih y h; exact ⟨by simp [this.1], this.2⟩
    · exact ⟨by simp, h⟩
theorem step_length (r : Bool) (k : List Bs) (x : Bs) : (stepL r k x).length ≤ k.length + 1 := by
  unfold stepL
  split
  · omega
  · split
    · split
      · simp; omega
      · split
        · omega
        · simp
    · simp
theorem foldP_length (r : Bool) (l : List Bs) : (foldP r l).length ≤ l.length := by
  refine snocInd (P := fun l => (foldP r l).length ≤ l.length) ?_ ?_ l
  · simp [foldP]
  · intro l x ih
    rw [foldP_snoc]
    have := step_length r (foldP r l) x
    simp; omega
/-- All beginnings stay. -/
def Fix (r : Bool) (k : List Bs) : Prop := ∀ q, q <+: k → foldP r q = q
theorem prefix_snoc {q k : List Bs} {x : Bs} (h : q <+: k ++ [x]) : q <+: k ∨ q = k ++ [x] := by
  obtain ⟨t, ht⟩ := h
  by_cases he : t = []
  · subst he; simp at ht; exact .inr ht
  · refine .inl ⟨t.dropLast, ?_⟩
    have h2 : (q ++ t).dropLast = k := by rw [ht]; simp
    rw [← h2, List.dropLast_append_of_ne_nil he]
theorem fix_step {r : Bool} {k : List Bs} (h : Fix r k) (x : Bs) : Fix r (stepL r k x) := by
  have hk := h k (List.prefix_refl k)
  have key : stepL r k x = k ++ [x] → Fix r (stepL r k x) := by
    intro e
    rw [e]
    intro q hq
    rcases prefix_snoc hq with hq | rfl
    · exact h q hq
    · rw [foldP_snoc, hk, e]
  by_cases hx : x = [] ∨ x = [46]
  · rw [show stepL r k x = k by unfold stepL; rw [if_pos hx]]; exact h
  · by_cases hd : x = dd
    · by_cases hc : k ≠ [] ∧ k.getLast? ≠ some dd
      · rw [show stepL r k x = k.dropLast by unfold stepL; rw [if_neg hx, if_pos hd, if_pos hc]]
        intro q hq
        exact h q (hq.trans (List.dropLast_prefix k))
      · by_cases hr : r = true
        · rw [show stepL r k x = k by unfold stepL; rw [if_neg hx, if_pos hd, if_neg hc, if_pos hr]]; exact h
        · exact key (by unfold stepL; rw [if_neg hx, if_pos hd, if_neg hc, if_neg hr, hd])
    · exact key (by unfold stepL; rw [if_neg hx, if_neg hd])
theorem foldP_fix (r : Bool) (l : List Bs) : Fix r (foldP r l) := by
  refine snocInd (P := fun l => Fix r (foldP r l)) ?_ ?_ l
  · intro q hq
    have : q = [] := List.prefix_nil.1 hq
    subst this; rfl
  · intro l x ih; rw [foldP_snoc]; exact fix_step ih x
theorem foldP_again (r : Bool) (l : List Bs) : foldP r (foldP r l) = foldP r l := foldP_fix r l _ (List.prefix_refl _)
theorem foldP_skip (r : Bool) (x : Bs) (hx : x = [] ∨ x = [46]) (l : List Bs) : foldP r (x :: l) = foldP r l := by
  unfold foldP; rw [List.foldl_cons, show stepL r [] x = [] by unfold stepL; rw [if_pos hx]]

theorem parts_mem {p x : Bs} (h : x ∈ partsL p) : 47 ∉ x ∧ x ≠ [] ∧ x ≠ [46] :=
  ⟨splitL_free p x (foldP_mem _ _ x h).1, (foldP_mem _ _ x h).2⟩
theorem join_empty {l : List Bs} (hl : ∀ x ∈ l, x ≠ []) : joinL l = [] ↔ l = [] := by
  cases l with
  | nil => simp [joinL]
  | cons x t =>
    have hx := hl x (by simp)
    refine ⟨fun h => ?_, fun h => by simp at h⟩
    by_cases ht : t = []
    · subst ht; exact absurd h hx
    · rw [joinL_cons_ne _ ht] at h; simp at h
theorem rooted_append {x : Bs} (h : x ≠ []) (y : Bs) : rootedL (x ++ y) = rootedL x := by
  cases x with
  | nil => exact absurd rfl h
  | cons c x => rfl
theorem rooted_free {x : Bs} (h : 47 ∉ x) : rootedL x = false := by
  cases x with
  | nil => rfl
  | cons c x =>
    simp only [List.mem_cons, not_or] at h
    simp [rootedL]; exact fun e => h.1 e.symm
theorem rooted_join {l : List Bs} (hf : ∀ x ∈ l, 47 ∉ x ∧ x ≠ []) : rootedL (joinL l) = false := by
  cases l with
  | nil => rfl
  | cons x t =>
    have hx := hf x (by simp)
    by_cases ht : t = []
    · subst ht; exact rooted_free hx.1
    · rw [joinL_cons_ne _ ht, rooted_append hx.2]; exact rooted_free hx.1
theorem clean_root (p : Bs) : rootedL (cleanL p) = rootedL p := by
  unfold cleanL cleanOf
  by_cases hr : rootedL p = true
  · rw [if_pos hr, hr]; rfl
  · rw [if_neg hr]
    have hr' : rootedL p = false := by simpa using hr
    rw [hr']
    split
    · rfl
    · exact rooted_join (fun x hx => ⟨(parts_mem hx).1, (parts_mem hx).2.1⟩)
theorem clean_parts (p : Bs) : partsL (cleanL p) = partsL p := by
  have hag : foldP (rootedL p) (partsL p) = partsL p := foldP_again _ _
  conv => lhs; unfold partsL
  rw [clean_root]
  by_cases hp : partsL p = []
  · unfold cleanL cleanOf
    rw [hp]
    cases rootedL p <;> rfl
  · have hj : joinL (partsL p) ≠ [] := fun h => hp ((join_empty (fun x hx => (parts_mem hx).2.1)).1 h)
    have hs : splitL (joinL (partsL p)) = partsL p := splitL_join _ hp (fun x hx => (parts_mem hx).1)
    unfold cleanL cleanOf
    by_cases hr : rootedL p = true
    · rw [if_pos hr, splitL_cons_eq, foldP_skip _ _ (.inl rfl), hs, hag]
    · rw [if_neg hr, if_neg hj, hs, hag]
theorem clean_again (p : Bs) : cleanL (cleanL p) = cleanL p := by
  show cleanOf (rootedL (cleanL p)) (partsL (cleanL p)) = _
  rw [clean_root, clean_parts]; rfl
theorem clean_ne (p : Bs) : cleanL p ≠ [] := by
  unfold cleanL cleanOf
  split
  · simp
  · split
    · simp
    · assumption
theorem joinL_mem_size (l : List Bs) : (joinL l).length ≤ (l.map (fun x => x.length + 1)).sum := by
  induction l with
  | nil => simp [joinL]
  | cons x t ih =>
    by_cases ht : t = []
    · subst ht; rw [joinL_one]; simp
    · rw [joinL_cons_ne _ ht]; simp only [List.length_append, List.length_cons, List.map_cons, List.sum_cons]; omega

/-! Directory and name. -/
theorem back_none {p : Bs} (h : 47 ∉ p) : cleanL ([46] ++ 47 :: p) = cleanL p := by
  have hr : rootedL ([46] ++ 47 :: p) = rootedL p := by rw [rooted_free h]; rfl
  have hp : partsL ([46] ++ 47 :: p) = partsL p := by
    unfold partsL; rw [hr, splitL_append, splitL_none (a := [46]) (by decide)]
    exact foldP_skip _ _ (.inr rfl) _
  unfold cleanL; rw [hr, hp]
theorem back_root (n : Bs) : cleanL ([47] ++ 47 :: n) = cleanL (47 :: n) := by
  have hr : rootedL ([47] ++ 47 :: n) = rootedL (47 :: n) := rfl
  have hp : partsL ([47] ++ 47 :: n) = partsL (47 :: n) := by
    unfold partsL; rw [hr, splitL_append, splitL_cons_eq, splitL_cons_eq]
    show foldP _ ([] :: [] :: splitL n) = _
    rw [foldP_skip _ _ (.inl rfl)]
  unfold cleanL; rw [hr, hp]

/-! Below. -/
def belowL (a b : List Bs) : Bool := decide (b.length ≤ a.length ∧ a.take b.length = b ∧ dd ∉ b ∧ a[b.length]? ≠ some dd)
end Go.Proofs.YtoibdokedhbjpaaGreat.G
