/-
  A set of variables as four lists of names with their values: what each call of the program answers, and what it leaves, in plain terms.
-/
import Derived.Test.YtjbmmeneejcpbaaVBase
namespace Go.Proofs.Ytjbmmeneejcpbaa
open Go.RowKit Go.Shelf

abbrev E : ByteArray := ⟨#[]⟩
abbrev Sc := List (ByteArray × ByteArray)
namespace Sc
def look (L : Sc) (p : ByteArray) : Option ByteArray := (L.find? fun x => decide (x.1 = p)).map (·.2)
def set : Sc → ByteArray → ByteArray → Sc
  | [], p, e => [(p, e)]
  | x :: r, p, e => if x.1 = p then (p, e) :: r else x :: set r p e
def del (L : Sc) (p : ByteArray) : Sc := L.filter fun x => decide (x.1 ≠ p)
def Uniq (L : Sc) : Prop := L.Pairwise fun x y => x.1 ≠ y.1

theorem look_nil (p : ByteArray) : look [] p = none := rfl
theorem look_cons (x : ByteArray × ByteArray) (L : Sc) (p : ByteArray) : look (x :: L) p = if x.1 = p then some x.2 else look L p := by
  unfold look
  by_cases h : x.1 = p
  · simp [h]
  · simp [h]
theorem look_mem {L : Sc} {p : ByteArray} {e : ByteArray} (h : look L p = some e) : (p, e) ∈ L := by
  induction L with
  | nil => cases h
  | cons x L ih =>
    rw [look_cons] at h
    by_cases hx : x.1 = p
    · rw [if_pos hx] at h; cases h; subst hx; exact List.mem_cons_self ..
    · rw [if_neg hx] at h; exact List.mem_cons_of_mem _ (ih h)
theorem mem_look {L : Sc} (hu : Uniq L) {p : ByteArray} {e : ByteArray} (h : (p, e) ∈ L) : look L p = some e := by
  induction L with
  | nil => cases h
  | cons x L ih =>
    obtain ⟨h1, h2⟩ := List.pairwise_cons.1 hu
    rw [look_cons]
    rcases List.mem_cons.1 h with rfl | h
    · rw [if_pos rfl]
    · rw [if_neg (h1 _ h)]; exact ih h2 h
theorem look_none {L : Sc} {p : ByteArray} (h : look L p = none) : ∀ x ∈ L, x.1 ≠ p := by
  induction L with
  | nil => intro x hx; cases hx
  | cons x L ih =>
    rw [look_cons] at h
    by_cases hx : x.1 = p
    · rw [if_pos hx] at h; cases h
    · rw [if_neg hx] at h
      intro y hy
      rcases List.mem_cons.1 hy with rfl | hy
      · exact hx
      · exact ih h y hy
theorem look_set_same (L : Sc) (p : ByteArray) (e : ByteArray) : look (set L p e) p = some e := by
  induction L with
  | nil => simp [set, look_cons]
  | cons x L ih =>
    unfold set
    by_cases hx : x.1 = p
    · rw [if_pos hx, look_cons, if_pos rfl]
    · rw [if_neg hx, look_cons, if_neg hx, ih]
theorem look_set_other (L : Sc) (p q : ByteArray) (e : ByteArray) (h : q ≠ p) : look (set L p e) q = look L q := by
  induction L with
  | nil => simp [set, look_cons, Ne.symm h, look_nil]
  | cons x L ih =>
    unfold set
    by_cases hx : x.1 = p
    · rw [if_pos hx, look_cons, look_cons, if_neg (Ne.symm h), if_neg (by rw [hx]; exact Ne.symm h)]
    · rw [if_neg hx, look_cons, look_cons, ih]
theorem mem_set {L : Sc} {p : ByteArray} {e : ByteArray} {x : ByteArray × ByteArray} (h : x ∈ set L p e) : x = (p, e) ∨ x ∈ L := by
  induction L with
  | nil => simp [set] at h; exact .inl h
  | cons y L ih =>
    unfold set at h
    by_cases hy : y.1 = p
    · rw [if_pos hy] at h
      rcases List.mem_cons.1 h with h | h
      · exact .inl h
      · exact .inr (List.mem_cons_of_mem _ h)
    · rw [if_neg hy] at h
      rcases List.mem_cons.1 h with rfl | h
      · exact .inr (List.mem_cons_self ..)
      · rcases ih h with h | h
        · exact .inl h
        · exact .inr (List.mem_cons_of_mem _ h)
theorem uniq_set {L : Sc} (h : Uniq L) (p : ByteArray) (e : ByteArray) : Uniq (set L p e) := by
  induction L with
  | nil => exact List.pairwise_cons.2 ⟨(fun _ h => absurd h (by simp)), List.Pairwise.nil⟩
  | cons x L ih =>
    obtain ⟨h1, h2⟩ := List.pairwise_cons.1 h
    unfold set
    by_cases hx : x.1 = p
    · rw [if_pos hx]; exact List.pairwise_cons.2 ⟨fun y hy => by rw [← hx]; exact h1 y hy, h2⟩
    · rw [if_neg hx]
      refine List.pairwise_cons.2 ⟨fun y hy => ?_, ih h2⟩
      rcases mem_set hy with rfl | hy
      · exact hx
      · exact h1 y hy
theorem length_set (L : Sc) (p : ByteArray) (e : ByteArray) : (set L p e).length = if (look L p).isSome then L.length else L.length + 1 := by
  induction L with
  | nil => rfl
  | cons x L ih =>
    unfold set
    rw [look_cons]
    by_cases hx : x.1 = p
    · rw [if_pos hx, if_pos hx]; simp
    · rw [if_neg hx, if_neg hx, List.length_cons, ih]; split <;> simp
theorem look_del_same (L : Sc) (p : ByteArray) : look (del L p) p = none := by
  cases h : look (del L p) p with
  | none => rfl
  | some e =>
    have := (List.mem_filter.1 (look_mem h)).2
    simp at this
theorem look_del_other (L : Sc) (p q : ByteArray) (h : q ≠ p) : look (del L p) q = look L q := by
  induction L with
  | nil => rfl
  | cons x L ih =>
    unfold del at ih ⊢
    rw [List.filter_cons]
    by_cases hx : x.1 = p
    · rw [if_neg (by simp [hx]), ih, look_cons, if_neg (by rw [hx]; exact Ne.symm h)]
    · rw [if_pos (by simp [hx]), look_cons, look_cons, ih]
theorem uniq_del {L : Sc} (h : Uniq L) (p : ByteArray) : Uniq (del L p) := h.filter _
theorem length_del {L : Sc} (h : Uniq L) (p : ByteArray) : (del L p).length + (if (look L p).isSome then 1 else 0) = L.length := by
  induction L with
  | nil => rfl
  | cons x L ih =>
    obtain ⟨h1, h2⟩ := List.pairwise_cons.1 h
    have ih := ih h2
    unfold del at ih ⊢
    rw [List.filter_cons, look_cons]
    by_cases hx : x.1 = p
    · have hn : look L p = none := by
        cases hl : look L p with
        | none => rfl
        | some e => exact absurd hx (h1 _ (look_mem hl))
      rw [hn] at ih
      rw [if_neg (by simp [hx]), if_pos hx]
      simp at ih ⊢; omega
    · rw [if_pos (by simp [hx]), if_neg hx, List.length_cons, List.length_cons]; omega
theorem mem_del {L : Sc} {p : ByteArray} {x : ByteArray × ByteArray} (h : x ∈ del L p) : x ∈ L ∧ x.1 ≠ p := by
  have := List.mem_filter.1 h
  exact ⟨this.1, by simpa using this.2⟩
end Sc

def bad (x : UInt8) : Bool := [32, 9, 10, 36, 58, 61, 123, 125, 40, 41, 35].contains x
def rightB (x : ByteArray) : Bool := decide (1 ≤ x.size) && decide (x.size ≤ 64) && !(bl x).any bad
def isSc (n : Int) : Bool := decide (1 ≤ n) && decide (n ≤ 4)
def blank : ByteArray := ⟨#[32]⟩

abbrev VS := Int → Sc
namespace VS
def none_ : VS := fun _ => []
def upd (s : VS) (n : Int) (L : Sc) : VS := fun k => if k = n then L else s k
def ok (n : Int) (name : ByteArray) : Bool := isSc n && rightB name
def give (s : VS) (n : Int) (name v : ByteArray) : VS × Int :=
  if 65536 < v.size ∨ (((s n).look name).isSome = false ∧ 1024 ≤ (s n).length) then (s, 5) else (s.upd n ((s n).set name v), 0)
def put (s : VS) (n : Int) (name v : ByteArray) : VS × Int := if ok n name then s.give n name v else (s, 1)
def more (s : VS) (n : Int) (name v : ByteArray) : ByteArray := match (s n).look name with | some o => o ++ blank ++ v | none => v
def add (s : VS) (n : Int) (name v : ByteArray) : VS × Int := if ok n name then s.give n name (s.more n name v) else (s, 1)
def get (s : VS) (name : ByteArray) : Option ByteArray :=
  match (s 1).look name with
  | some v => some v
  | none => match (s 2).look name with
    | some v => some v
    | none => match (s 3).look name with
      | some v => some v
      | none => (s 4).look name
def dflt (s : VS) (n : Int) (name v : ByteArray) : VS × Int := if ok n name then (if (s.get name).isSome then (s, 0) else s.give n name v) else (s, 1)
def drop (s : VS) (n : Int) (name : ByteArray) : VS × Int := if isSc n then (if ((s n).look name).isSome then (s.upd n ((s n).del name), 0) else (s, 6)) else (s, 1)
def clear (s : VS) (n : Int) : VS := s.upd n []
def sorted (l : List ByteArray) : List ByteArray := ((l.map bl).mergeSort fun x y => decide (x ≤ y)).map ba
def names (s : VS) (n : Int) : List ByteArray := sorted ((s n).map (·.1))

/-- What every set keeps. -/
structure Ok (s : VS) : Prop where
  uniq : ∀ n, (s n).Uniq
  len : ∀ n, (s n).length ≤ 1024
  name : ∀ n, ∀ x ∈ s n, rightB x.1 = true
  val : ∀ n, ∀ x ∈ s n, x.2.size ≤ 65536
  out : ∀ n, isSc n = false → s n = []

theorem ok_none : Ok none_ := ⟨fun _ => List.Pairwise.nil, fun _ => Nat.zero_le _, fun _ x hx => (by cases hx), fun _ x hx => (by cases hx), fun _ _ => rfl⟩
theorem upd_same (s : VS) (n : Int) (L : Sc) : s.upd n L n = L := by simp [upd]
theorem upd_other (s : VS) {n k : Int} (L : Sc) (h : k ≠ n) : s.upd n L k = s k := by simp [upd, h]
theorem Ok.upd {s : VS} (h : Ok s) {n : Int} (hn : isSc n = true) {L : Sc} (hu : L.Uniq) (hl : L.length ≤ 1024) (hv : ∀ x ∈ L, rightB x.1 = true ∧ x.2.size ≤ 65536) : Ok (s.upd n L) := by
  refine ⟨fun k => ?_, fun k => ?_, fun k => ?_, fun k => ?_, fun k hk => ?_⟩
  · by_cases e : k = n
    · subst e; rw [upd_same]; exact hu
    · rw [upd_other _ _ e]; exact h.uniq k
  · by_cases e : k = n
    · subst e; rw [upd_same]; exact hl
    · rw [upd_other _ _ e]; exact h.len k
  · by_cases e : k = n
    · subst e; rw [upd_same]; exact fun x hx => (hv x hx).1
    · rw [upd_other _ _ e]; exact h.name k
  · by_cases e : k = n
    · subst e; rw [upd_same]; exact fun x hx => (hv x hx).2
    · rw [upd_other _ _ e]; exact h.val k
  · rw [upd_other _ _ (fun e => by subst e; rw [hn] at hk; cases hk)]; exact h.out k hk
theorem look_size {s : VS} (h : Ok s) {n : Int} {q v : ByteArray} (hl : (s n).look q = some v) : v.size ≤ 65536 := h.val n _ (Sc.look_mem hl)
theorem give_ok {s : VS} (h : Ok s) {n : Int} {name : ByteArray} (hk : ok n name = true) (v : ByteArray) : Ok (s.give n name v).1 := by
  unfold give
  unfold ok at hk
  rw [Bool.and_eq_true] at hk
  split
  · exact h
  · rename_i hc
    refine h.upd hk.1 (Sc.uniq_set (h.uniq n) _ _) ?_ ?_
    · rw [Sc.length_set]
      have := h.len n
      split
      · exact this
      · rename_i h2
        have : ¬ 1024 ≤ (s n).length := fun e => hc (.inr ⟨by simpa using h2, e⟩)
        omega
    · intro x hx
      rcases Sc.mem_set hx with rfl | hx
      · exact ⟨hk.2, by have := fun e => hc (.inl e); simp only; omega⟩
      · exact ⟨h.name n x hx, h.val n x hx⟩
theorem put_ok {s : VS} (h : Ok s) (n : Int) (name v : ByteArray) : Ok (s.put n name v).1 := by
  unfold put; split
  · rename_i hk; exact give_ok h hk v
  · exact h
theorem add_ok {s : VS} (h : Ok s) (n : Int) (name v : ByteArray) : Ok (s.add n name v).1 := by
  unfold add; split
  · rename_i hk; exact give_ok h hk _
  · exact h
theorem dflt_ok {s : VS} (h : Ok s) (n : Int) (name v : ByteArray) : Ok (s.dflt n name v).1 := by
  unfold dflt; split
  · rename_i hk
    split
    · exact h
    · exact give_ok h hk v
  · exact h
theorem drop_ok {s : VS} (h : Ok s) (n : Int) (name : ByteArray) : Ok (s.drop n name).1 := by
  unfold drop; split
  · rename_i hk
    split
    · refine h.upd hk (Sc.uniq_del (h.uniq n) _) ?_ fun x hx => ⟨h.name n x (Sc.mem_del hx).1, h.val n x (Sc.mem_del hx).1⟩
      exact Nat.le_trans (List.length_filter_le _ _) (h.len n)
    · exact h
  · exact h
theorem clear_ok {s : VS} (h : Ok s) (n : Int) : Ok (s.clear n) := by
  unfold clear
  by_cases hk : isSc n = true
  · exact h.upd hk List.Pairwise.nil (Nat.zero_le _) fun x hx => by cases hx
  · have : s.upd n [] = s := by
      funext k
      by_cases e : k = n
      · subst e; rw [upd_same, h.out k (by simpa using hk)]
      · rw [upd_other _ _ e]
    rw [this]; exact h
end VS
end Go.Proofs.Ytjbmmeneejcpbaa
