/-
  A store of files as a list of what is there: what each call of the program answers, and what it leaves, in plain terms.
-/
import Derived.Test.YtoibdokedhbjpaaGreatWords
namespace Go.Proofs.YtoibdokedhbjpaaGreat
open Go.RowKit Go.Shelf

structure Ent where
  text : ByteArray
  time : Int
  dir : Bool
abbrev Fs := List (ByteArray × Ent)
structure St where
  room : Int
  now : Int
  L : Fs
  noting : Bool
  notes : List (Int × ByteArray)

namespace Fs
def look (L : Fs) (p : ByteArray) : Option Ent := (L.find? fun x => decide (x.1 = p)).map (·.2)
def set : Fs → ByteArray → Ent → Fs
  | [], p, e => [(p, e)]
  | x :: r, p, e => if x.1 = p then (p, e) :: r else x :: set r p e
def del (L : Fs) (p : ByteArray) : Fs := L.filter fun x => decide (x.1 ≠ p)
def isDir (L : Fs) (p : ByteArray) : Bool := match look L p with | some o => o.dir | none => false
def used (L : Fs) : Nat := (L.map fun x => x.2.text.size).sum
def Uniq (L : Fs) : Prop := L.Pairwise fun x y => x.1 ≠ y.1

theorem look_nil (p : ByteArray) : look [] p = none := rfl
theorem look_cons (x : ByteArray × Ent) (L : Fs) (p : ByteArray) : look (x :: L) p = if x.1 = p then some x.2 else look L p := by
  unfold look
  by_cases h : x.1 = p
  · simp [h]
  · simp [h]
theorem look_mem {L : Fs} {p : ByteArray} {e : Ent} (h : look L p = some e) : (p, e) ∈ L := by
  induction L with
  | nil => cases h
  | cons x L ih =>
    rw [look_cons] at h
    by_cases hx : x.1 = p
    · rw [if_pos hx] at h; cases h; subst hx; exact List.mem_cons_self ..
    · rw [if_neg hx] at h; exact List.mem_cons_of_mem _ (ih h)
theorem mem_look {L : Fs} (hu : Uniq L) {p : ByteArray} {e : Ent} (h : (p, e) ∈ L) : look L p = some e := by
  induction L with
  | nil => cases h
  | cons x L ih =>
    obtain ⟨h1, h2⟩ := List.pairwise_cons.1 hu
    rw [look_cons]
    rcases List.mem_cons.1 h with rfl | h
    · rw [if_pos rfl]
    · rw [if_neg (h1 _ h)]; exact ih h2 h
theorem look_none {L : Fs} {p : ByteArray} (h : look L p = none) : ∀ x ∈ L, x.1 ≠ p := by
  induction L with
  | nil => intro x hx; cases hx
  | cons x L ih =>
    rw [look_cons] at h
    by_cases hx : x.1 = p
    · rw [if_pos hx] at h; cases h
    · rw [if_neg hx] at h
      intro y hy
      rcases List.mem_cons.1 hy with rfl | hy
      · exact hx
      · exact ih h y hy
theorem look_set_same (L : Fs) (p : ByteArray) (e : Ent) : look (set L p e) p = some e := by
  induction L with
  | nil => simp [set, look_cons]
  | cons x L ih =>
    unfold set
    by_cases hx : x.1 = p
    · rw [if_pos hx, look_cons, if_pos rfl]
    · rw [if_neg hx, look_cons, if_neg hx, ih]
theorem look_set_other (L : Fs) (p q : ByteArray) (e : Ent) (h : q ≠ p) : look (set L p e) q = look L q := by
  induction L with
  | nil => simp [set, look_cons, Ne.symm h, look_nil]
  | cons x L ih =>
    unfold set
    by_cases hx : x.1 = p
    · rw [if_pos hx, look_cons, look_cons, if_neg (Ne.symm h), if_neg (by rw [hx]; exact Ne.symm h)]
    · rw [if_neg hx, look_cons, look_cons, ih]
theorem mem_set {L : Fs} {p : ByteArray} {e : Ent} {x : ByteArray × Ent} (h : x ∈ set L p e) : x = (p, e) ∨ x ∈ L := by
  induction L with
  | nil => simp [set] at h; exact .inl h
  | cons y L ih =>
    unfold set at h
    by_cases hy : y.1 = p
    · rw [if_pos hy] at h
      rcases List.mem_cons.1 h with h | h
      · exact .inl h
      · exact .inr (List.mem_cons_of_mem _ h)
    · rw [if_neg hy] at h
      rcases List.mem_cons.1 h with rfl | h
      · exact .inr (List.mem_cons_self ..)
      · rcases ih h with h | h
        · exact .inl h
        · exact .inr (List.mem_cons_of_mem _ h)
theorem uniq_set {L : Fs} (h : Uniq L) (p : ByteArray) (e : Ent) : Uniq (set L p e) := by
  induction L with
  | nil => exact List.pairwise_cons.2 ⟨(fun _ h => absurd h (by simp)), List.Pairwise.nil⟩
  | cons x L ih =>
    obtain ⟨h1, h2⟩ := List.pairwise_cons.1 h
    unfold set
    by_cases hx : x.1 = p
    · rw [if_pos hx]; exact List.pairwise_cons.2 ⟨fun y hy => by rw [← hx]; exact h1 y hy, h2⟩
    · rw [if_neg hx]
      refine List.pairwise_cons.2 ⟨fun y hy => ?_, ih h2⟩
      rcases mem_set hy with rfl | hy
      · exact hx
      · exact h1 y hy
theorem length_set (L : Fs) (p : ByteArray) (e : Ent) : (set L p e).length = if (look L p).isSome then L.length else L.length + 1 := by
  induction L with
  | nil => rfl
  | cons x L ih =>
    unfold set
    rw [look_cons]
    by_cases hx : x.1 = p
    · rw [if_pos hx, if_pos hx]; simp
    · rw [if_neg hx, if_neg hx, List.length_cons, ih]; split <;> simp
theorem used_set (L : Fs) (p : ByteArray) (e : Ent) : used (set L p e) + (match look L p with | some o => o.text.size | none => 0) = used L + e.text.size := by
  induction L with
  | nil => simp [set, used, look_nil]
  | cons x L ih =>
    unfold set
    rw [look_cons]
    by_cases hx : x.1 = p
    · rw [if_pos hx, if_pos hx]; simp only [used, List.map_cons, List.sum_cons]; omega
    · rw [if_neg hx, if_neg hx]; simp only [used, List.map_cons, List.sum_cons] at ih ⊢; omega
theorem used_mem {L : Fs} {x : ByteArray × Ent} (h : x ∈ L) : x.2.text.size ≤ used L := by
  induction L with
  | nil => cases h
  | cons y L ih =>
    simp only [used, List.map_cons, List.sum_cons] at ih ⊢
    rcases List.mem_cons.1 h with rfl | h
    · omega
    · have := ih h; omega
theorem look_del_same (L : Fs) (p : ByteArray) : look (del L p) p = none := by
  cases h : look (del L p) p with
  | none => rfl
  | some e =>
    have := (List.mem_filter.1 (look_mem h)).2
    simp at this
theorem look_del_other (L : Fs) (p q : ByteArray) (h : q ≠ p) : look (del L p) q = look L q := by
  induction L with
  | nil => rfl
  | cons x L ih =>
    unfold del at ih ⊢
    rw [List.filter_cons]
    by_cases hx : x.1 = p
    · rw [if_neg (by simp [hx]), ih, look_cons, if_neg (by rw [hx]; exact Ne.symm h)]
    · rw [if_pos (by simp [hx]), look_cons, look_cons, ih]
theorem uniq_del {L : Fs} (h : Uniq L) (p : ByteArray) : Uniq (del L p) := h.filter _
theorem length_del {L : Fs} (h : Uniq L) (p : ByteArray) : (del L p).length + (if (look L p).isSome then 1 else 0) = L.length := by
  induction L with
  | nil => rfl
  | cons x L ih =>
    obtain ⟨h1, h2⟩ := List.pairwise_cons.1 h
    have ih := ih h2
    unfold del at ih ⊢
    rw [List.filter_cons, look_cons]
    by_cases hx : x.1 = p
    · have hn : look L p = none := by
        cases hl : look L p with
        | none => rfl
        | some e => exact absurd hx (h1 _ (look_mem hl))
      rw [hn] at ih
      rw [if_neg (by simp [hx]), if_pos hx]
      simp at ih ⊢; omega
    · rw [if_pos (by simp [hx]), if_neg hx, List.length_cons, List.length_cons]; omega
theorem used_del {L : Fs} (h : Uniq L) (p : ByteArray) : used (del L p) + (match look L p with | some o => o.text.size | none => 0) = used L := by
  induction L with
  | nil => rfl
  | cons x L ih =>
    obtain ⟨h1, h2⟩ := List.pairwise_cons.1 h
    have ih := ih h2
    unfold del at ih ⊢
    rw [List.filter_cons, look_cons]
    by_cases hx : x.1 = p
    · have hn : look L p = none := by
        cases hl : look L p with
        | none => rfl
        | some e => exact absurd hx (h1 _ (look_mem hl))
      rw [hn] at ih
      rw [if_neg (by simp [hx]), if_pos hx]
      simp only [used, List.map_cons, List.sum_cons] at ih ⊢; omega
    · rw [if_pos (by simp [hx]), if_neg hx]
      simp only [used, List.map_cons, List.sum_cons] at ih ⊢; omega
theorem mem_del {L : Fs} {p : ByteArray} {x : ByteArray × Ent} (h : x ∈ del L p) : x ∈ L ∧ x.1 ≠ p := by
  have := List.mem_filter.1 h
  exact ⟨this.1, by simpa using this.2⟩
end Fs

/-! Paths. -/
abbrev topB : ByteArray := ⟨#[47]⟩
/-- Where a path lies. -/
def cl (p : ByteArray) : ByteArray := ba (G.cleanL (47 :: bl p))
def okp (q : ByteArray) : Bool := (parts q).all fun x => decide (x.size ≤ 255)
def wh (p : ByteArray) : Option ByteArray := if okp (cl p) then some (cl p) else none

namespace G
def wt (k : List Bs) : Nat := (k.map fun x => x.length + 1).sum
theorem wt_append (a b : List Bs) : wt (a ++ b) = wt a + wt b := by simp [wt]
theorem wt_split (s : Bs) : wt (splitL s) = s.length + 1 := by
  induction s with
  | nil => rfl
  | cons c s ih =>
    by_cases hc : c = 47
    · subst hc; rw [splitL_cons_eq]; simp only [wt, List.map_cons, List.sum_cons] at ih ⊢; simp; omega
    · obtain ⟨h, t, h1, h2⟩ := splitL_cons_ne hc s
      rw [h2]; rw [h1] at ih
      simp only [wt, List.map_cons, List.sum_cons, List.length_cons] at ih ⊢; omega
theorem wt_dropLast (k : List Bs) : wt k.dropLast ≤ wt k := by
  induction k with
  | nil => exact Nat.le_refl _
  | cons x k ih =>
    cases k with
    | nil => simp [wt]
    | cons y k => simp only [wt, List.dropLast_cons_cons, List.map_cons, List.sum_cons] at ih ⊢; omega
theorem wt_step (r : Bool) (k : List Bs) (x : Bs) : wt (stepL r k x) ≤ wt k + x.length + 1 := by
  have h1 := wt_dropLast k
  have h2 : wt (k ++ [x]) = wt k + (x.length + 1) := by rw [wt_append]; simp [wt]
  have h3 : wt (k ++ [dd]) = wt k + 3 := by rw [wt_append]; simp [wt, dd]
  unfold stepL
  split
  · omega
  · split
    · rename_i hx
      subst hx
      have hd : dd.length = 2 := rfl
      split
      · omega
      · split <;> omega
    · omega
theorem wt_fold (r : Bool) (l : List Bs) : wt (foldP r l) ≤ wt l := by
  induction l using snocInd with
  | h0 => exact Nat.le_refl _
  | h1 l x ih =>
    have := wt_step r (foldP r l) x
    rw [foldP_snoc, wt_append]
    have h : wt [x] = x.length + 1 := by simp [wt]
    omega
theorem join_wt (l : List Bs) (h : l ≠ []) : (joinL l).length + 1 = wt l := by
  induction l with
  | nil => exact absurd rfl h
  | cons x l ih =>
    by_cases hl : l = []
    · subst hl; simp [joinL_one, wt]
    · rw [joinL_cons_ne x hl]
      have := ih hl
      simp only [wt, List.map_cons, List.sum_cons] at this ⊢
      simp; omega
theorem clean_size (p : Bs) : (cleanL (47 :: p)).length ≤ p.length + 1 := by
  have h1 := wt_fold true (splitL (47 :: p))
  have h2 : wt (splitL (47 :: p)) = p.length + 2 := wt_split (47 :: p)
  have h0 : (splitL (47 :: p)) = [] :: splitL p := splitL_cons_eq p
  have h3 : foldP true (splitL (47 :: p)) = foldP true (splitL p) := by rw [h0]; exact foldP_skip _ _ (.inl rfl) _
  have h4 := wt_fold true (splitL p)
  have h5 := wt_split p
  unfold cleanL cleanOf partsL
  rw [show rootedL (47 :: p) = true from rfl, if_pos rfl, h3]
  by_cases he : foldP true (splitL p) = []
  · rw [he]; simp [joinL]
  · have := join_wt _ he
    simp; omega
theorem clean_slash (p : Bs) : cleanL (47 :: 47 :: p) = cleanL (47 :: p) := by
  unfold cleanL partsL
  rw [show rootedL (47 :: 47 :: p) = true from rfl, show rootedL (47 :: p) = true from rfl, splitL_cons_eq, foldP_skip _ _ (.inl rfl)]
end G

theorem cl_size (p : ByteArray) : (cl p).size ≤ p.size + 1 := by
  have := G.clean_size (bl p)
  rw [bl_length] at this
  unfold cl
  rw [← bl_length, bl_ba]; exact this
theorem bl_cl (p : ByteArray) : bl (cl p) = G.cleanL (47 :: bl p) := bl_ba _
theorem cl_root (p : ByteArray) : ∃ t, bl (cl p) = 47 :: t := by
  rw [bl_cl]
  unfold G.cleanL G.cleanOf
  rw [show G.rootedL (47 :: bl p) = true from rfl, if_pos rfl]
  exact ⟨_, rfl⟩
theorem cl_cl (p : ByteArray) : cl (cl p) = cl p := by
  obtain ⟨t, ht⟩ := cl_root p
  apply bl_inj
  rw [bl_cl, ht, G.clean_slash, ← ht, bl_cl, G.clean_again]
theorem wh_some {p q : ByteArray} (h : wh p = some q) : q = cl p ∧ okp q = true := by
  unfold wh at h
  split at h
  · rename_i h1; cases h; exact ⟨rfl, h1⟩
  · cases h
theorem wh_wh {p q : ByteArray} (h : wh p = some q) : wh q = some q := by
  obtain ⟨rfl, h1⟩ := wh_some h
  unfold wh
  rw [cl_cl, if_pos h1]

/-! The store. -/
namespace St
def text (s : St) (q : ByteArray) : ByteArray := match s.L.look q with | some e => e.text | none => E
def home (s : St) (q : ByteArray) : Int := match s.L.look (dirB q) with | none => 6 | some d => if d.dir then 0 else 8
def note (s : St) (k : Int) (q : ByteArray) : St := if s.noting && decide (s.notes.length < 4096) then { s with notes := s.notes ++ [(k, q)] } else s
def mayPut (s : St) (q : ByteArray) (n : Nat) : Int :=
  if s.home q ≠ 0 then s.home q else
  match s.L.look q with
  | some o => if o.dir then 8 else if 65536 < n then 5 else if s.room < (s.L.used : Int) - o.text.size + n then 9 else 0
  | none => if 65536 < n then 5 else if s.room < (s.L.used : Int) + n then 9 else if 512 ≤ s.L.length then 9 else 0
def put (s : St) (q x : ByteArray) : St × Int :=
  if s.mayPut q x.size ≠ 0 then (s, s.mayPut q x.size)
  else ({ s with now := s.now + 1, L := s.L.set q ⟨x, s.now + 1, false⟩ }.note 2 q, 0)
def write (s : St) (p x : ByteArray) : St × Int := match wh p with | none => (s, 1) | some q => s.put q x
def append (s : St) (p x : ByteArray) : St × Int := match wh p with | none => (s, 1) | some q => s.put q (s.text q ++ x)
def touch (s : St) (p : ByteArray) : St × Int := match wh p with
  | none => (s, 1)
  | some q => if s.L.isDir q then ({ s with now := s.now + 1, L := s.L.set q ⟨E, s.now + 1, true⟩ }, 0) else s.put q (s.text q)
def mkdir (s : St) (p : ByteArray) : St × Int := match wh p with
  | none => (s, 1)
  | some q => if (s.L.look q).isSome then (s, 7) else if s.home q ≠ 0 then (s, s.home q) else if 512 ≤ s.L.length then (s, 9)
    else ({ s with now := s.now + 1, L := s.L.set q ⟨E, s.now + 1, true⟩ }, 0)
def read (s : St) (p : ByteArray) : St × ByteArray × Int := match wh p with
  | none => (s, E, 1)
  | some q => match s.L.look q with
    | none => (s, E, 6)
    | some o => if o.dir then (s, E, 8) else (s.note 1 q, o.text, 0)
def stat (s : St) (p : ByteArray) : Int × Bool × Int := match wh p with
  | none => (0, false, 1)
  | some q => match s.L.look q with
    | none => (0, false, 6)
    | some o => (o.time, o.dir, 0)
/-- What lies in a directory. -/
def inDir (q : ByteArray) (x : ByteArray × Ent) : Bool := decide (x.1 ≠ topB) && decide (dirB x.1 = q)
def kids (s : St) (q : ByteArray) : List ByteArray := (s.L.filter (inDir q)).map fun x => nameB x.1
def remove (s : St) (p : ByteArray) : St × Int := match wh p with
  | none => (s, 1)
  | some q => match s.L.look q with
    | none => (s, 6)
    | some o => if q = topB ∨ (o.dir = true ∧ s.kids q ≠ []) then (s, 9)
      else (if o.dir then { s with now := s.now + 1, L := s.L.del q } else { s with now := s.now + 1, L := s.L.del q }.note 3 q, 0)
def mayMove (s : St) (a c : ByteArray) : Int := match s.L.look a with
  | none => 6
  | some o => if s.home c = 6 then 6 else if o.dir || s.L.isDir c then 8 else s.home c
def move (s : St) (f t : ByteArray) : St × Int := match wh f with
  | none => (s, 1)
  | some a => match wh t with
    | none => (s, 1)
    | some c => if s.mayMove a c ≠ 0 then (s, s.mayMove a c) else if a = c then ({ s with now := s.now + 1 }, 0)
      else (({ s with now := s.now + 1, L := (s.L.set c ⟨s.text a, s.now + 1, false⟩).del a }.note 3 a).note 2 c, 0)
def later (s : St) (n : Int) : St := if n < 0 ∨ 1099511627776 < n ∨ 1152921504606846976 < s.now then s else { s with now := s.now + n }
def sorted (l : List ByteArray) : List ByteArray := ((l.map bl).mergeSort fun x y => decide (x ≤ y)).map ba
def all (s : St) : List ByteArray := sorted ((s.L.filter fun x => !x.2.dir).map (·.1))
def list (s : St) (p : ByteArray) : List ByteArray × Int := match wh p with
  | none => ([], 1)
  | some q => match s.L.look q with
    | none => ([], 6)
    | some o => if o.dir then (sorted (s.kids q), 0) else ([], 8)
def tell (s : St) (b : Bool) : St := { s with noting := b, notes := [] }
def copy (s : St) : St := { s with noting := false, notes := [] }
def new (room : Int) : St := ⟨room, 0, [(topB, ⟨E, 0, true⟩)], false, []⟩

/-- What every store keeps. -/
structure Ok (s : St) : Prop where
  room0 : 0 ≤ s.room
  room1 : s.room ≤ 1048576
  now0 : 0 ≤ s.now
  uniq : s.L.Uniq
  len : s.L.length ≤ 512
  used : (s.L.used : Int) ≤ s.room
  path : ∀ x ∈ s.L, wh x.1 = some x.1 ∧ x.1.size ≤ 1100000
  time : ∀ x ∈ s.L, x.2.time ≤ s.now
  note : s.notes.length ≤ 4096
end St
end Go.Proofs.YtoibdokedhbjpaaGreat
