/-
  Plain mathematics of dependency lines: how a line is cut, what rule it is, and how a rule is written; that a rule which was read, written and read again is as it was. No program is named here.
-/
import Derived.Test.YtbgnmchnfaknkaaDoorWMath
namespace Go.Proofs.YtbgnmchnfaknkaaDoor.Q
abbrev Bs := List UInt8

/-- A line parted at its operator: what is ahead, the kind (0: there is none), what is behind. -/
def cutOp : Bs → Bs → Bs × Nat × Bs
  | acc, [] => (acc, 0, [])
  | acc, c :: t => if c = 33 then (acc, 2, t) else if c = 58 then (if t.head? = some 58 then (acc, 3, t.tail) else (acc, 1, t)) else cutOp (acc ++ [c]) t
def isO (c : UInt8) : Bool := [58, 33].contains c
theorem isO_iff (c : UInt8) : isO c = true ↔ c = 58 ∨ c = 33 := by simp [isO]
theorem cutOp_skip (acc x t : Bs) (h : ∀ c ∈ x, isO c = false) : cutOp acc (x ++ t) = cutOp (acc ++ x) t := by
  induction x generalizing acc with
  | nil => simp
  | cons c r ih =>
    have hc := h c (by simp)
    have h1 : c ≠ 33 := fun e => by rw [e] at hc; exact absurd hc (by decide)
    have h2 : c ≠ 58 := fun e => by rw [e] at hc; exact absurd hc (by decide)
    rw [List.cons_append, cutOp, if_neg h1, if_neg h2, ih _ (fun c hc => h c (by simp [hc]))]
    simp
theorem cutOp_none (acc x : Bs) (h : ∀ c ∈ x, isO c = false) : cutOp acc x = (acc ++ x, 0, []) := by
  have := cutOp_skip acc x [] h
  rw [List.append_nil] at this
  rw [this, cutOp]
/-- What stands ahead of an operator has none. -/
theorem cutOp_ahead (acc x : Bs) (h : ∀ c ∈ acc, isO c = false) : ∀ c ∈ (cutOp acc x).1, isO c = false := by
  induction x generalizing acc with
  | nil => exact h
  | cons c r ih =>
    unfold cutOp
    by_cases h1 : c = 33
    · rw [if_pos h1]; exact h
    · rw [if_neg h1]
      by_cases h2 : c = 58
      · rw [if_pos h2]; split <;> exact h
      · rw [if_neg h2]
        refine ih _ fun d hd => ?_
        rcases List.mem_append.1 hd with hd | hd
        · exact h d hd
        · simp at hd; subst hd
          rw [← Bool.not_eq_true, isO_iff]; exact fun e => e.elim h2 h1
theorem cutOp_len (acc x : Bs) : (cutOp acc x).1.length ≤ acc.length + x.length ∧ (cutOp acc x).2.2.length ≤ x.length ∧ (cutOp acc x).2.1 ≤ 3 := by
  induction x generalizing acc with
  | nil => simp [cutOp]
  | cons c r ih =>
    unfold cutOp
    split
    · simp
    · split
      · split
        · simp; omega
        · simp
      · have := ih (acc ++ [c])
        simp at this ⊢; omega
/-- A text parted at its first semicolon. -/
def semi : Bs → Bs → Bs × Bs
  | acc, [] => (acc, [])
  | acc, c :: t => if c = 59 then (acc, t) else semi (acc ++ [c]) t
theorem semi_skip (acc x t : Bs) (h : 59 ∉ x) : semi acc (x ++ t) = semi (acc ++ x) t := by
  induction x generalizing acc with
  | nil => simp
  | cons c r ih =>
    have h1 : c ≠ 59 := fun e => h (by simp [e])
    rw [List.cons_append, semi, if_neg h1, ih _ (fun hm => h (by simp [hm]))]
    simp
theorem semi_none (acc x : Bs) (h : 59 ∉ x) : semi acc x = (acc ++ x, []) := by
  have := semi_skip acc x [] h
  rw [List.append_nil] at this
  rw [this, semi]
theorem semi_ahead (acc x : Bs) (h : 59 ∉ acc) : 59 ∉ (semi acc x).1 := by
  induction x generalizing acc with
  | nil => exact h
  | cons c r ih =>
    unfold semi
    by_cases h1 : c = 59
    · rw [if_pos h1]; exact h
    · rw [if_neg h1]
      refine ih _ fun hm => ?_
      rcases List.mem_append.1 hm with hm | hm
      · exact h hm
      · simp at hm; exact h1 hm.symm
theorem semi_len (acc x : Bs) : (semi acc x).1.length ≤ acc.length + x.length ∧ (semi acc x).2.length ≤ x.length := by
  induction x generalizing acc with
  | nil => simp [semi]
  | cons c r ih =>
    unfold semi
    split
    · simp
    · have := ih (acc ++ [c])
      simp at this ⊢; omega
def B (c : UInt8) : Bool := [32, 9].contains c
theorem B_isB (c : UInt8) : B c = K.isB c := by
  rw [Bool.eq_iff_iff]; simp [B, K.isB]
/-- A text without blanks at its ends. -/
def trimE (x : Bs) : Bs := (x.reverse.dropWhile B).reverse
def trim (x : Bs) : Bs := trimE (x.dropWhile B)
theorem trim_len (x : Bs) : (trim x).length ≤ x.length := by
  unfold trim trimE
  have h1 := (List.dropWhile_suffix B (l := x)).length_le
  have h2 := (List.dropWhile_suffix B (l := (x.dropWhile B).reverse)).length_le
  simp at h1 h2 ⊢; omega
theorem trimE_snoc_hit {c : UInt8} (x : Bs) (h : B c = true) : trimE (x ++ [c]) = trimE x := by
  unfold trimE; rw [List.reverse_append, List.reverse_singleton, List.singleton_append, List.dropWhile_cons_of_pos h]
theorem trimE_snoc_miss {c : UInt8} (x : Bs) (h : B c = false) : trimE (x ++ [c]) = x ++ [c] := by
  unfold trimE; rw [List.reverse_append, List.reverse_singleton, List.singleton_append, List.dropWhile_cons_of_neg (by rw [h]; simp)]; simp
theorem trimE_prefix (x : Bs) : trimE x <+: x := by
  unfold trimE
  have := List.dropWhile_suffix B (l := x.reverse)
  rw [← List.reverse_prefix] at this
  simpa using this
theorem dropWhile_idem (x : Bs) : (x.dropWhile B).dropWhile B = x.dropWhile B := by
  induction x with
  | nil => rfl
  | cons c t ih =>
    by_cases h : B c = true
    · rw [List.dropWhile_cons_of_pos h]; exact ih
    · rw [List.dropWhile_cons_of_neg h, List.dropWhile_cons_of_neg h]
theorem trimE_idem (x : Bs) : trimE (trimE x) = trimE x := by
  unfold trimE; rw [List.reverse_reverse, dropWhile_idem]
/-- What is trimmed, with a blank ahead, is trimmed to itself. -/
theorem head_of_drop {x : Bs} {c : UInt8} {t : Bs} (h : x.dropWhile B = c :: t) : B c = false := by
  induction x with
  | nil => simp at h
  | cons d r ih =>
    by_cases hd : B d = true
    · rw [List.dropWhile_cons_of_pos hd] at h; exact ih h
    · rw [List.dropWhile_cons_of_neg hd] at h
      simp at h; rw [← h.1]; simpa using hd
theorem trim_again (x : Bs) : trim (32 :: trim x) = trim x := by
  have h0 : B 32 = true := by decide
  have e : trim (32 :: trim x) = trim (trim x) := by
    show trimE ((32 :: trim x).dropWhile B) = trimE ((trim x).dropWhile B)
    rw [List.dropWhile_cons_of_pos h0]
  rw [e]
  have h1 : (trim x).dropWhile B = trim x := by
    cases hx : trim x with
    | nil => rfl
    | cons c t =>
      have hp := trimE_prefix (x.dropWhile B)
      have hp2 : (c :: t) <+: x.dropWhile B := by
        have hx2 : trimE (x.dropWhile B) = c :: t := hx
        rw [hx2] at hp; exact hp
      obtain ⟨r, hr⟩ := hp2
      have hc := head_of_drop (x := x) (c := c) (t := t ++ r) (by rw [← hr]; rfl)
      rw [List.dropWhile_cons_of_neg (by rw [hc]; simp)]
  show trimE ((trim x).dropWhile B) = trim x
  rw [h1]
  exact trimE_idem _

/-- A rule. -/
structure Ru where
  targets : List Bs
  kind : Int
  sources : List Bs
  commands : List Bs
  at_ : Int
def Ru.zero : Ru := ⟨[], 0, [], [], 0⟩
def long (x : Bs) : Bool := decide (255 < x.length)
def anyLong (l : List Bs) : Bool := l.any long
def whyL (t s : List Bs) (k : Nat) : Nat :=
  if k = 0 ∨ t = [] ∨ anyLong t = true ∨ anyLong s = true then 14 else if 4096 < t.length ∨ 4096 < s.length then 5 else 0
def cmdsL (c : Bs) : List Bs := if c = [] then [] else [c]
def tgts (s : Bs) : List Bs := K.fields (cutOp [] s).1
def kindL (s : Bs) : Nat := (cutOp [] s).2.1
def srcs (s : Bs) : List Bs := K.fields (semi [] (cutOp [] s).2.2).1
def cmdL (s : Bs) : Bs := trim (semi [] (cutOp [] s).2.2).2
def whyP (s : Bs) : Nat := whyL (tgts s) (srcs s) (kindL s)
def ruP (s : Bs) (at_ : Int) : Ru := if whyP s = 0 then ⟨tgts s, kindL s, srcs s, cmdsL (cmdL s), at_⟩ else Ru.zero
def faultAt (s : Bs) (at_ : Int) : Int := if whyP s = 0 then 0 else at_
/-- A rule's line. -/
def opL (k : Int) : Bs := if k = 2 then [32, 33] else if k = 3 then [32, 58, 58] else [58]
def srcPart (l : List Bs) : Bs := if l = [] then [] else 32 :: K.joinB l
def cmdPart (l : List Bs) : Bs := match l with | [] => [] | c :: _ => 59 :: 32 :: c
def format (r : Ru) : Bs := K.joinB r.targets ++ opL r.kind ++ srcPart r.sources ++ cmdPart r.commands

theorem joinB_mem (l : List Bs) (p : UInt8 → Prop) (h32 : p 32) (h : ∀ x ∈ l, ∀ c ∈ x, p c) : ∀ c ∈ K.joinB l, p c := by
  induction l with
  | nil => intro c hc; simp [K.joinB] at hc
  | cons x t ih =>
    cases t with
    | nil => intro c hc; exact h x (by simp) c (by simpa [K.joinB] using hc)
    | cons y t =>
      intro c hc
      rw [K.joinB_cons2] at hc
      rcases List.mem_append.1 hc with hc | hc
      · exact h x (by simp) c hc
      · rcases List.mem_cons.1 hc with rfl | hc
        · exact h32
        · exact ih (fun x hx => h x (by simp [hx])) c hc
theorem cut_mem (p : UInt8 → Prop) (s : Bs) (cur : Bs) (hc : ∀ c ∈ cur, p c) (h : ∀ c ∈ s, p c) : ∀ x ∈ K.cut K.stU K.fU () cur s, ∀ c ∈ x, p c := by
  induction s generalizing cur with
  | nil =>
    intro x hx
    rw [K.cut_nil] at hx
    split at hx
    · simp at hx
    · simp at hx; subst hx; exact hc
  | cons c t ih =>
    intro x hx
    rw [K.cut_cons] at hx
    split at hx
    · rcases List.mem_append.1 hx with hx | hx
      · split at hx
        · simp at hx
        · simp at hx; subst hx; exact hc
      · exact ih [] (fun c hc => by simp at hc) (fun d hd => h d (by simp [hd])) x hx
    · refine ih (cur ++ [c]) (fun d hd => ?_) (fun d hd => h d (by simp [hd])) x hx
      rcases List.mem_append.1 hd with hd | hd
      · exact hc d hd
      · simp at hd; subst hd; exact h d (by simp)
theorem fields_mem (p : UInt8 → Prop) (s : Bs) (h : ∀ c ∈ s, p c) : ∀ x ∈ K.fields s, ∀ c ∈ x, p c := cut_mem p s [] (fun c hc => by simp at hc) h
theorem fields_blank (l : Bs) : K.fields (32 :: l) = K.fields l := by
  unfold K.fields
  rw [K.cut_cons, if_pos (by decide)]; rfl
theorem fields_join (s : Bs) : K.fields (K.joinB (K.fields s)) = K.fields s := K.fields_again s
theorem cut_snoc_blank (cur s : Bs) : K.cut K.stU K.fU () cur (s ++ [32]) = K.cut K.stU K.fU () cur s := by
  induction s generalizing cur with
  | nil =>
    rw [List.nil_append, K.cut_cons, if_pos (by decide), K.cut_nil, K.cut_nil, if_pos rfl, List.append_nil]
  | cons c t ih =>
    rw [List.cons_append, K.cut_cons, K.cut_cons]
    split
    · rw [show K.stU () c = () from rfl, ih]
    · rw [show K.stU () c = () from rfl, ih]
theorem fields_snoc (s : Bs) : K.fields (s ++ [32]) = K.fields s := cut_snoc_blank [] s

/-- What stands behind the operator of a formatted rule. -/
def behind (r : Ru) : Bs := srcPart r.sources ++ cmdPart r.commands
theorem behind_head (r : Ru) : (behind r).head? ≠ some 58 := by
  unfold behind srcPart cmdPart
  split
  · split <;> simp
  · simp
theorem format_cut (r : Ru) (h : ∀ x ∈ r.targets, ∀ c ∈ x, isO c = false) (hk : r.kind = 1 ∨ r.kind = 2 ∨ r.kind = 3) :
    cutOp [] (format r) = (K.joinB r.targets ++ (if r.kind = 1 then [] else [32]), r.kind.toNat, behind r) := by
  have hj : ∀ c ∈ K.joinB r.targets, isO c = false := joinB_mem _ _ (by decide) h
  have hj2 : ∀ c ∈ K.joinB r.targets ++ [32], isO c = false := fun c hc => by
    rcases List.mem_append.1 hc with hc | hc
    · exact hj c hc
    · simp at hc; subst hc; decide
  have hb := behind_head r
  unfold format
  rw [List.append_assoc (K.joinB r.targets ++ opL r.kind)]
  show cutOp [] (K.joinB r.targets ++ opL r.kind ++ behind r) = _
  rcases hk with hk | hk | hk
  · rw [hk, if_pos rfl]
    show cutOp [] (K.joinB r.targets ++ [58] ++ behind r) = _
    rw [List.append_assoc, cutOp_skip _ _ _ hj, List.singleton_append, cutOp, if_neg (by decide), if_pos rfl, if_neg hb]
    simp
  · rw [hk, if_neg (by decide)]
    show cutOp [] (K.joinB r.targets ++ [32, 33] ++ behind r) = _
    rw [show K.joinB r.targets ++ [32, 33] ++ behind r = (K.joinB r.targets ++ [32]) ++ 33 :: behind r by simp, cutOp_skip _ _ _ hj2, cutOp, if_pos rfl]
    simp
  · rw [hk, if_neg (by decide)]
    show cutOp [] (K.joinB r.targets ++ [32, 58, 58] ++ behind r) = _
    rw [show K.joinB r.targets ++ [32, 58, 58] ++ behind r = (K.joinB r.targets ++ [32]) ++ 58 :: 58 :: behind r by simp, cutOp_skip _ _ _ hj2, cutOp, if_neg (by decide), if_pos rfl, if_pos (by rfl)]
    simp
theorem why_kind {t s : List Bs} {k : Nat} (h : whyL t s k = 0) : k ≠ 0 := by
  intro hk
  unfold whyL at h
  rw [if_pos (.inl hk)] at h
  exact absurd h (by decide)
theorem srcPart_semi (l : List Bs) (h : ∀ x ∈ l, 59 ∉ x) : 59 ∉ srcPart l := by
  unfold srcPart
  split
  · simp
  · intro hm
    rcases List.mem_cons.1 hm with hm | hm
    · exact absurd hm (by decide)
    · exact joinB_mem l (fun c => c ≠ 59) (by decide) (fun x hx c hc e => h x hx (e ▸ hc)) 59 hm rfl
theorem fields_srcPart (s : Bs) : K.fields (srcPart (K.fields s)) = K.fields s := by
  unfold srcPart
  by_cases h : K.fields s = []
  · rw [if_pos h, h]; rfl
  · rw [if_neg h, fields_blank, fields_join]
/-- A rule that was read and written is read as it was. -/
theorem back (s : Bs) (at_ : Int) (h : whyP s = 0) : whyP (format (ruP s at_)) = 0 ∧ ruP (format (ruP s at_)) at_ = ruP s at_ := by
  obtain ⟨r, hr⟩ : ∃ r, r = ruP s at_ := ⟨_, rfl⟩
  have hr2 : r = ⟨tgts s, kindL s, srcs s, cmdsL (cmdL s), at_⟩ := by rw [hr]; unfold ruP; rw [if_pos h]
  rw [← hr]
  have hk3 := (cutOp_len [] s).2.2
  have hk0 : kindL s ≠ 0 := why_kind h
  have hk : r.kind = 1 ∨ r.kind = 2 ∨ r.kind = 3 := by
    rw [hr2]
    show ((kindL s : Nat) : Int) = 1 ∨ _ ∨ _
    have : kindL s ≤ 3 := hk3
    have h0 : kindL s = 1 ∨ kindL s = 2 ∨ kindL s = 3 := by omega
    rcases h0 with h0 | h0 | h0 <;> rw [h0] <;> simp
  have ht : ∀ x ∈ r.targets, ∀ c ∈ x, isO c = false := by
    rw [hr2]
    exact fields_mem _ _ (cutOp_ahead [] s (fun c hc => by simp at hc))
  have hs59 : ∀ x ∈ r.sources, 59 ∉ x := by
    rw [hr2]
    intro x hx hm
    exact fields_mem (fun c => c ≠ 59) _ (fun c hc e => semi_ahead [] (cutOp [] s).2.2 (by simp) (e ▸ hc)) x hx 59 hm rfl
  have hc := format_cut r ht hk
  have e1 : tgts (format r) = tgts s := by
    unfold tgts
    rw [hc, hr2]
    show K.fields (K.joinB (tgts s) ++ _) = _
    split
    · rw [List.append_nil]; exact fields_join _
    · rw [fields_snoc]; exact fields_join _
  have e2 : kindL (format r) = kindL s := by
    unfold kindL
    rw [hc, hr2]
    show (((kindL s : Nat) : Int)).toNat = kindL s
    simp
  have hse : semi [] (behind r) = (srcPart r.sources, if cmdL s = [] then [] else 32 :: cmdL s) := by
    unfold behind
    rw [semi_skip _ _ _ (srcPart_semi _ hs59), List.nil_append, hr2]
    show semi _ (cmdPart (cmdsL (cmdL s))) = _
    unfold cmdsL
    by_cases hce : cmdL s = []
    · rw [if_pos hce, if_pos hce]; rfl
    · rw [if_neg hce, if_neg hce]
      show semi _ (59 :: 32 :: cmdL s) = _
      rw [semi, if_pos rfl]
  have e3 : srcs (format r) = srcs s := by
    unfold srcs
    rw [hc]
    show K.fields (semi [] (behind r)).1 = _
    rw [hse, hr2]
    exact fields_srcPart _
  have e4 : cmdL (format r) = cmdL s := by
    have : cmdL (format r) = trim (semi [] (behind r)).2 := by unfold cmdL; rw [hc]
    rw [this, hse]
    show trim (if cmdL s = [] then [] else 32 :: cmdL s) = _
    by_cases hce : cmdL s = []
    · rw [if_pos hce, hce]; rfl
    · rw [if_neg hce]; exact trim_again _
  have e5 : whyP (format r) = 0 := by unfold whyP; rw [e1, e2, e3]; exact h
  refine ⟨e5, ?_⟩
  unfold ruP
  rw [if_pos e5, e1, e2, e3, e4]
  exact hr2.symm
theorem joinB_len (l : List Bs) : (K.joinB l).length ≤ (l.map List.length).sum + l.length := by
  induction l with
  | nil => simp [K.joinB]
  | cons x t ih =>
    cases t with
    | nil => simp [K.joinB]
    | cons y t => rw [K.joinB_cons2]; simp at ih ⊢; omega
theorem fields_total (s : Bs) : ((K.fields s).map List.length).sum ≤ s.length := by
  have := K.cut_total (st := K.stU) (f := K.fU) () [] s
  unfold K.fields
  simpa using this
theorem fields_count (s : Bs) : (K.fields s).length ≤ s.length := by
  have := K.cut_length (st := K.stU) (f := K.fU) () [] s
  unfold K.fields
  simpa using this
theorem opL_len (k : Int) : (opL k).length ≤ 3 := by
  unfold opL; split
  · simp
  · split <;> simp
theorem sizes (s : Bs) (n : Nat) (h : s.length ≤ n) : ((tgts s).map List.length).sum ≤ n ∧ (tgts s).length ≤ n ∧ ((srcs s).map List.length).sum ≤ n ∧ (srcs s).length ≤ n ∧ (cmdL s).length ≤ n := by
  have h1 := cutOp_len [] s
  have h2 := semi_len [] (cutOp [] s).2.2
  have h3 := trim_len (semi [] (cutOp [] s).2.2).2
  have a := fields_total (cutOp [] s).1
  have b := fields_count (cutOp [] s).1
  have c := fields_total (semi [] (cutOp [] s).2.2).1
  have d := fields_count (semi [] (cutOp [] s).2.2).1
  unfold tgts srcs cmdL
  simp at h1 h2
  omega
theorem format_len (r : Ru) : (format r).length ≤ (r.targets.map List.length).sum + r.targets.length + (r.sources.map List.length).sum + r.sources.length + (cmdPart r.commands).length + 4 := by
  have h1 := joinB_len r.targets
  have h2 := joinB_len r.sources
  have h3 := opL_len r.kind
  have h4 : (srcPart r.sources).length ≤ 1 + (K.joinB r.sources).length := by
    unfold srcPart; split
    · simp
    · simp; omega
  unfold format
  simp only [List.length_append]
  omega
end Go.Proofs.YtbgnmchnfaknkaaDoor.Q
