/-
  The names in a directory in no order, and all files' paths, rising.
-/
import Derived.Test.YtoibdokedhbjpabRange
namespace Go.Proofs.Ytoibdokedhbjpab
open Go.RowKit Go.Shelf Go.Maps

theorem strs_enc (xs : List ByteArray) : xs.map Value.string = (xs.map bl).map encStr := by
  rw [List.map_map]
  refine List.map_congr_left fun x _ => ?_
  show Value.string x = .string (ba (bl x))
  rw [ba_bl]
theorem sorted_strs (xs : List ByteArray) : (St.sorted xs).map Value.string = ((xs.map bl).mergeSort fun x y => decide (x ≤ y)).map encStr := by
  unfold St.sorted
  rw [List.map_map]
  refine List.map_congr_left fun x _ => ?_
  show Value.string (ba x) = .string ⟨x.toArray⟩
  rfl
theorem sorted_length (xs : List ByteArray) : (St.sorted xs).length = xs.length := by simp [St.sorted, List.length_mergeSort]
theorem sorted_perm (xs : List ByteArray) : (St.sorted xs).Perm xs := by
  unfold St.sorted
  have h := (List.mergeSort_perm (xs.map bl) (fun x y => decide (x ≤ y))).map ba
  rw [List.map_map, show (ba ∘ bl) = id from funext ba_bl, List.map_id] at h
  exact h
theorem sorted_of_perm {a c : List ByteArray} (h : a.Perm c) : St.sorted a = St.sorted c := by
  unfold St.sorted
  rw [mergeSort_of_perm (h.map bl)]

theorem sort_own (v : Value) (xs : List ByteArray) (base : Nat) (w : World) (h : w.ownsRow base 9 1 v xs.length (xs.map Value.string)) (hn : xs.length ≤ 1000000) :
    Calls Try.prog 33 #[v] w fun e w' => e = .returned (.tuple #[]) ∧ w'.ownsRow base 9 1 v xs.length ((St.sorted xs).map Value.string) ∧ w.grownBy w' v.ownBlock := by
  by_cases hne : xs = []
  · subst hne
    obtain ⟨a, cap, rfl⟩ := owns_slice h
    refine (Try.slices_Sort_string_none a cap w).mono ?_
    rintro e w' ⟨rfl, rfl⟩
    exact ⟨rfl, by simpa [St.sorted] using h, ⟨rfl, rfl, rfl, Nat.le_refl _, fun _ _ _ => rfl⟩⟩
  · rcases h.2 with ⟨_, h0⟩ | ⟨g, cap, cur, rfl, hbase, hb, h1, h2, h3, h4⟩
    · exact absurd (List.length_eq_zero_iff.1 h0) hne
    have hl : (xs.map bl).length = xs.length := by simp
    have hH : Go.Sort.Holds encStr w g 0 (xs.map bl).toArray := holds_of_block hb (by rw [hl, ← strs_enc]; simpa using h4)
    have hc := Try.slices_Sort_string g 0 cap (xs.map bl) w hH (Array.getElem?_eq_some_iff.1 hb).1 (by rw [hl]; omega)
    rw [hl] at hc
    refine hc.mono ?_
    rintro e w' ⟨rfl, n, os, rfl⟩
    refine ⟨rfl, ?_, grownBy_sorted _⟩
    have := ownsRow_sorted (w := w) (n := n) (os := os) (ss := xs.map bl) (ts := (xs.map bl).mergeSort fun x y => decide (x ≤ y)) (by simp [List.length_mergeSort]) hbase hb (by rw [hl]; exact h1) h2 h3
    rw [hl, ← sorted_strs] at this
    exact this

/-- The texts gathered so far. -/
def got (f : ByteArray × Ent → Option ByteArray) (L : Fs) : List ByteArray := L.filterMap f
theorem got_step {f : ByteArray × Ent → Option ByteArray} {L : Fs} {left : Lit → Bool} {x : ByteArray} {c : Ent} {ss : List ByteArray} (hu : L.Uniq) (hl : L.look x = some c) (hx : left (keyL x) = true) (h : ss.Perm (got f (doneL L left))) {y : ByteArray} (hf : f (x, c) = some y) :
    (ss ++ [y]).Perm (got f (doneL L (fun z => left z && !z.sameKey (keyL x)))) := by
  have h1 := (done_step hu hl hx).filterMap f
  rw [List.filterMap_cons, hf] at h1
  exact ((List.perm_append_comm (l₁ := ss) (l₂ := [y])).trans (List.Perm.cons y h)).trans h1.symm
theorem got_skip {f : ByteArray × Ent → Option ByteArray} {L : Fs} {left : Lit → Bool} {x : ByteArray} {c : Ent} {ss : List ByteArray} (hu : L.Uniq) (hl : L.look x = some c) (hx : left (keyL x) = true) (h : ss.Perm (got f (doneL L left))) (hf : f (x, c) = none) :
    ss.Perm (got f (doneL L (fun z => left z && !z.sameKey (keyL x)))) := by
  have h1 := (done_step hu hl hx).filterMap f
  rw [List.filterMap_cons, hf] at h1
  exact h.trans h1.symm
theorem got_len (f : ByteArray × Ent → Option ByteArray) (L : Fs) (left : Lit → Bool) {ss : List ByteArray} (h : ss.Perm (got f (doneL L left))) : ss.length ≤ L.length := by
  rw [h.length_eq]
  exact Nat.le_trans (List.length_filterMap_le _ _) (List.length_filter_le _ _)

def fileF (x : ByteArray × Ent) : Option ByteArray := if x.2.dir then none else some x.1
theorem got_files (L : Fs) : got fileF L = (L.filter fun x => !x.2.dir).map (·.1) := by
  induction L with
  | nil => rfl
  | cons x L ih =>
    unfold got at ih ⊢
    rw [List.filterMap_cons, List.filter_cons, ih]
    unfold fileF
    cases x.2.dir <;> rfl

end Go.Proofs.Ytoibdokedhbjpab
