/-
  What each kind does; apply by kinds; Apply.
-/
import Derived.Test.YthcbagggalehgaaGreatDoorM17
import Derived.Test.YthcbagggalehgaaGreatDoorM14b
namespace Go.Proofs.YthcbagggalehgaaGreatDoor
open Go.RowKit Go.Shelf

def actM (m : Md) : ActF := fun done x _ => some (done, if G.matchB (bl m.a) (bl x) = true then some x else none)
def actN (m : Md) : ActF := fun done x _ => some (done, if G.matchB (bl m.a) (bl x) = true then none else some x)
def actE (m : Md) : ActF := fun done x _ => some (done, some (ba (endedL (bl m.a) (bl m.b) (bl x))))
open Classical in
noncomputable def actS (m : Md) (mks ots : Nat) : ActF := fun done x made =>
  if firstI m.bg m.en (bl m.a) (bl x) < 0 ∨ (done = true ∧ m.on = true) then some (done, some x)
  else if replN m mks ots x + sizeL made ≤ 65536 then some (true, some (replY m x)) else none
theorem does_m (m : Md) (ha : m.a.size ≤ 1000000) : Does m 120 (actM m) := fun base b v made done x W h1 h2 h3 h4 _ _ _ => matching_any base b m v made done x W h1 ha h2 h3 h4
theorem does_n (m : Md) (ha : m.a.size ≤ 1000000) : Does m 121 (actN m) := fun base b v made done x W h1 h2 h3 h4 _ _ _ => other_any base b m v made done x W h1 ha h2 h3 h4
theorem does_e (m : Md) (ha : m.a.size ≤ 1000000) (hb : m.b.size ≤ 1000000) : Does m 130 (actE m) := fun base b v made done x W h1 h2 h3 h4 h5 _ _ => endedSo_any base b m v made done x W h1 ha hb h2 h3 h4 h5
theorem does_s (m : Md) (mks ots : Nat) (ha1 : 1 ≤ m.a.size) (ha : m.a.size ≤ 3000) (hb : m.b.size ≤ 3000) (hmk : m.mks = mks) (hot : m.ots = ots) (hmks : mks ≤ 3000) (hots : ots ≤ 3000) : Does m 122 (actS m mks ots) := fun base b v made done x W h1 h2 h3 h4 h5 h6 h7 => by
  unfold actS
  by_cases hk : firstI m.bg m.en (bl m.a) (bl x) < 0 ∨ (done = true ∧ m.on = true)
  · rw [if_pos hk]
    exact repl_keep base b m v made done x W h1 (by omega) h2 h3 h4 h5 hk
  · rw [if_neg hk]
    by_cases hr : replN m mks ots x + sizeL made ≤ 65536
    · rw [if_pos hr]
      exact repl_go base b m mks ots v made done x W h1 ha1 ha hb hmk hot hmks hots h2 h3 h4 h5 h6 h7 hk hr
    · rw [if_neg hr]
      refine (repl_over base b m mks ots v made done x W h1 ha1 ha hmk hot hmks hots h2 h3 h5 h6 h7 hk hr).mono ?_
      rintro e w' ⟨rfl, hw, hg⟩
      exact ⟨rfl, ⟨v, made, true, hw⟩, hg⟩

/-- Neither too many nor too long. -/
def Few (l : List ByteArray) : Prop := l.length ≤ 4096 ∧ sizeL l ≤ 65536
theorem size_mem {l : List ByteArray} {y : ByteArray} (h : y ∈ l) : y.size ≤ sizeL l := by
  induction l with
  | nil => cases h
  | cons x t ih =>
    simp only [sizeL, List.map_cons, List.sum_cons] at ih ⊢
    rcases List.mem_cons.1 h with rfl | h
    · omega
    · have := ih h; omega
theorem foldA_few (act : ActF) : ∀ (l made : List ByteArray) (done : Bool) (r : List ByteArray), foldA act made done l = some r → sizeL made ≤ 65536 → sizeL r ≤ 65536 ∧ r.length ≤ made.length + l.length
  | [], made, done, r, h, hs => by rw [foldA] at h; cases h; exact ⟨hs, Nat.le_refl _⟩
  | x :: t, made, done, r, h, hs => by
    rw [foldA] at h
    cases hr : act done x made with
    | none => rw [hr] at h; cases h
    | some p =>
      obtain ⟨d, y⟩ := p
      rw [hr] at h
      cases y with
      | none => have := foldA_few act t made d r h hs; simp only [List.length_cons]; omega
      | some y =>
        dsimp only at h
        split at h
        · have := foldA_few act t (made ++ [y]) d r h (by rw [sizeL_snoc]; omega)
          simp only [List.length_append, List.length_cons, List.length_nil] at this ⊢; omega
        · cases h
/-- What a modifier makes of words that are its own to write into. -/
def Applies (m : Md) (g : List ByteArray → Option (List ByteArray)) : Prop :=
  (∀ l r, Few l → g l = some r → Few r) ∧ ∀ base v l w, w.ownsRow base 9 1 v l.length (l.map Value.string) → Few l → Mx w → 0 < base → base ≤ w.heap.size →
  Calls Tryz.prog 104 #[.agg m.cells, v] w fun e w' => Below base w w' ∧ match g l with
    | none => e = .returned (.tuple #[.slice none 0 0, .bool false])
    | some r => ∃ v', e = .returned (.tuple #[v', .bool true]) ∧ w'.ownsRow base 9 1 v' r.length (r.map Value.string)
theorem applies_of {m : Md} {act : ActF}
    (h : ∀ (a : Option Addr) (n c : Nat) (l : List ByteArray) (w : World), Words w.heap.size w (.slice a n c) l → n ≤ 10000 → (∀ y ∈ l, y.size ≤ 1000000) → Mx w → Calls Tryz.prog 104 #[.agg m.cells, .slice a n c] w fun e w' => ApplyPost w (foldA act [] false l) e w') :
    Applies m (foldA act [] false) := by
  refine ⟨fun l r hf hr => ?_, fun base v l w ho hf hm hb hbs => ?_⟩
  · have := foldA_few act l [] false r hr (Nat.zero_le _)
    simp only [List.length_nil, Nat.zero_add] at this
    exact ⟨by have := hf.1; omega, this.1⟩
  · obtain ⟨a, c, rfl⟩ := owns_slice ho
    refine (h a l.length c l w (words_of_owns ho (Nat.le_refl _)) (by have := hf.1; omega) (fun y hy => by have := size_mem hy; have := hf.2; omega) hm).mono ?_
    rintro e w' ⟨h1, h2⟩
    refine ⟨h1.mono hbs, ?_⟩
    cases hr : foldA act [] false l with
    | none => rw [hr] at h2; exact h2
    | some r =>
      rw [hr] at h2
      obtain ⟨v', e1, e2⟩ := h2
      exact ⟨v', e1, owns_base e2 hbs⟩
theorem applies_m (m : Md) (hk : m.kind = ⟨#[77]⟩) (ha : m.a.size ≤ 1000000) : Applies m (foldA (actM m) [] false) :=
  applies_of fun a n c l w h1 h2 h3 h4 => apply_matching m (actM m) (by rw [hk]; simp [fnL]) (does_m m ha) a n c l w h1 h2 h3 h4
theorem applies_n (m : Md) (hk : m.kind = ⟨#[78]⟩) (ha : m.a.size ≤ 1000000) : Applies m (foldA (actN m) [] false) :=
  applies_of fun a n c l w h1 h2 h3 h4 => apply_other m (actN m) (by rw [hk]; simp [fnL]) (does_n m ha) a n c l w h1 h2 h3 h4
theorem applies_e (m : Md) (hk : m.kind = ⟨#[61]⟩) (ha : m.a.size ≤ 1000000) (hb : m.b.size ≤ 1000000) : Applies m (foldA (actE m) [] false) :=
  applies_of fun a n c l w h1 h2 h3 h4 => apply_endedSo m (actE m) (by rw [hk]; simp [fnL]) (does_e m ha hb) a n c l w h1 h2 h3 h4
theorem applies_s (m : Md) (mks ots : Nat) (hk : m.kind = ⟨#[83]⟩) (ha1 : 1 ≤ m.a.size) (ha : m.a.size ≤ 3000) (hb : m.b.size ≤ 3000) (hmk : m.mks = mks) (hot : m.ots = ots) (hmks : mks ≤ 3000) (hots : ots ≤ 3000) : Applies m (foldA (actS m mks ots) [] false) :=
  applies_of fun a n c l w h1 h2 h3 h4 => apply_replaced m (actS m mks ots) (by rw [hk]; simp [fnL]) (does_s m mks ots ha1 ha hb hmk hot hmks hots) a n c l w h1 h2 h3 h4
end Go.Proofs.YthcbagggalehgaaGreatDoor
