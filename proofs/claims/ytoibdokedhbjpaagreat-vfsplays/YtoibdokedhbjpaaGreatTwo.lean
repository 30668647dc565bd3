/-
  Two stores beside one another; lists of texts beside a store; what refused calls leave.
-/
import Derived.Test.YtoibdokedhbjpaaGreatScript
namespace Go.Proofs.YtoibdokedhbjpaaGreat
open Go.RowKit Go.Shelf Go.Maps

theorem Told.below {base : Nat} {w w' : World} {u : Value} {l : List ByteArray} (h : Told base w u l) (hb : Below w.heap.size w w') : Told base w' u l := owns_below h hb
theorem Told.turn {base0 base b m : Nat} {v v' : Value} {s : St} {w w' : World} {u : Value} {l : List ByteArray} (h : Told base0 w u l) (hS : Store base b m v s w) (ht : Turn b m v v' w w') : Told base0 w' u l := by
  refine ⟨h.1, ?_⟩
  rcases h.2 with h0 | ⟨g, cap, cur, hu, hg, hgg, rest⟩
  · exact .inl h0
  · refine .inr ⟨g, cap, cur, hu, hg, ?_, rest⟩
    rw [ht.block g (Array.getElem?_eq_some_iff.1 hgg).1 (fun e => ?_) (fun e => ?_) (fun e => ?_)]
    · exact hgg
    · have := hS.blk; rw [← e, hgg] at this; simp at this
    · obtain ⟨es, clock, hx⟩ := hS.map.isMap
      rw [← e, hgg] at hx; cases hx
    · obtain ⟨cur', hc⟩ := row_type hS.row e
      rw [hgg] at hc; simp at hc
theorem Told.at {base : Nat} {w : World} {u : Value} {l : List ByteArray} (h : Told base w u l) : ∃ a cap, u = .slice a l.length cap ∧ ∀ i (hi : i < l.length), ∃ g, a = some ⟨g, 0, none⟩ ∧ w.cell? ⟨g, i, none⟩ = some (.string l[i]) := by
  obtain ⟨a, cap, rfl⟩ := owns_slice h
  refine ⟨a, cap, rfl, fun i hi => ?_⟩
  obtain ⟨g, cap', hv, _, _, _, hc⟩ := owns_at h (List.length_pos_iff.1 (Nat.lt_of_le_of_lt (Nat.zero_le _) hi))
  simp only [Value.slice.injEq] at hv
  exact ⟨g, hv.1, hc i hi⟩

structure Two (base b m : Nat) (v : Value) (s : St) (b' m' : Nat) (v' : Value) (s' : St) (w : World) : Prop where
  one : Store base b m v s w
  two : Store base b' m' v' s' w
  bb : b ≠ b'
  mm : m ≠ m'
  vv : ∀ g, v.ownBlock = some g → v'.ownBlock ≠ some g
section
variable {base b m b' m' : Nat} {v v' : Value} {s s' : St} {w w' : World}
theorem Two.left (h : Two base b m v s b' m' v' s' w) {v1 : Value} {s1 : St} (hs : Store base b m v1 s1 w') (ht : Turn b m v v1 w w') : Two base b m v1 s1 b' m' v' s' w' := by
  refine ⟨hs, h.two.other h.one ht (Ne.symm h.bb) (Ne.symm h.mm) (fun g hg e => h.vv g e hg), h.bb, h.mm, fun g hg e => ?_⟩
  rcases ht.own g hg with h1 | h1
  · exact h.vv g h1 e
  · have := (h.two.ltv g e).2; omega
theorem Two.right (h : Two base b m v s b' m' v' s' w) {v1 : Value} {s1 : St} (hs : Store base b' m' v1 s1 w') (ht : Turn b' m' v' v1 w w') : Two base b m v s b' m' v1 s1 w' := by
  refine ⟨h.one.other h.two ht h.bb h.mm h.vv, hs, h.bb, h.mm, fun g hg e => ?_⟩
  rcases ht.own g e with h1 | h1
  · exact h.vv g hg h1
  · have := (h.one.ltv g hg).2; omega
theorem Two.below (h : Two base b m v s b' m' v' s' w) (hb : Below w.heap.size w w') : Two base b m v s b' m' v' s' w' := ⟨h.one.below hb, h.two.below hb, h.bb, h.mm, h.vv⟩
theorem Store.sized (h : Store base b m v s w) : base ≤ w.heap.size := by have := h.lt; have := h.hb; omega
end

theorem cell_in {W : World} {j : Nat} {cs : Array Value} {T : TypeId} (h : W.heap[j]? = some (.cells cs T (0, 0))) (i : Nat) {u : Value} (hu : cs[i]? = some u) : W.cell? ⟨j, i, none⟩ = some u := by
  simp only [World.cell?, h]; exact hu
theorem note_off {s : St} (h : s.noting = false) (k : Int) (q : ByteArray) : s.note k q = s := by unfold St.note; rw [h]; rfl
theorem same_told {B1 B2 : Nat} {W : World} {u1 u2 : Value} {l : List ByteArray} (hl : l.length ≤ 2000000) (h1 : Told B1 W u1 l) (h2 : Told B2 W u2 l) :
    Calls Tryz.prog 20 #[u1, u2] W fun e w' => e = .returned (.bool true) ∧ Below W.heap.size W w' := by
  refine (same_any l u1 u2 W.heap.size W.heap.size W hl (words_of_owns h1 (Nat.le_refl _)) (words_of_owns h2 (Nat.le_refl _))).mono ?_
  rintro e w' ⟨rfl, n, rfl⟩
  exact ⟨rfl, below_drewN (Below.refl _ _) n⟩

/-- A call that is refused turns nothing. -/
theorem act_refused (s : St) (a : Act) (h : (s.act a).2 ≠ 0) : (s.act a).1 = s := by
  have hput : ∀ q x, (s.put q x).2 ≠ 0 → (s.put q x).1 = s := fun q x hh => by
    rcases put_cases s q x with ⟨h1, _⟩ | ⟨h1, _⟩
    · exact h1
    · exact absurd h1 hh
  revert h
  unfold St.act
  split
  · unfold St.write
    split
    · intro _; rfl
    · exact hput _ _
  split
  · unfold St.append
    split
    · intro _; rfl
    · exact hput _ _
  split
  · unfold St.read
    split
    · intro _; rfl
    · split
      · intro _; rfl
      · split
        · intro _; rfl
        · intro hh; exact absurd rfl hh
  split
  · unfold St.remove
    split
    · intro _; rfl
    · split
      · intro _; rfl
      · split
        · intro _; rfl
        · intro hh; exact absurd rfl hh
  split
  · unfold St.move
    split
    · intro _; rfl
    · split
      · intro _; rfl
      · split
        · intro _; rfl
        · split <;> (intro hh; exact absurd rfl hh)
  split
  · unfold St.mkdir
    split
    · intro _; rfl
    · split
      · intro _; rfl
      · split
        · intro _; rfl
        · split
          · intro _; rfl
          · intro hh; exact absurd rfl hh
  split
  · unfold St.touch
    split
    · intro _; rfl
    · split
      · intro hh; exact absurd rfl hh
      · exact hput _ _
  split
  · intro hh; exact absurd rfl hh
  split
  · intro hh; exact absurd rfl hh
  · intro _; rfl

/-- A file's path is one that the store has. -/
theorem all_mem {s : St} {p : ByteArray} (h : p ∈ s.all) : ∃ e, (p, e) ∈ s.L ∧ e.dir = false := by
  have := (sorted_perm _).mem_iff.1 h
  obtain ⟨x, hx, rfl⟩ := List.mem_map.1 this
  obtain ⟨h1, h2⟩ := List.mem_filter.1 hx
  exact ⟨x.2, h1, by simpa using h2⟩
theorem mem_all {s : St} {p : ByteArray} {e : Ent} (h : (p, e) ∈ s.L) (hd : e.dir = false) : p ∈ s.all := by
  refine (sorted_perm _).mem_iff.2 (List.mem_map.2 ⟨(p, e), List.mem_filter.2 ⟨h, by simp [hd]⟩, rfl⟩)
theorem all_len (s : St) : s.all.length ≤ s.L.length := by
  unfold St.all
  rw [sorted_length, List.length_map]
  exact List.length_filter_le _ _
theorem all_eq {s s' : St} (h : s'.L = s.L) : s'.all = s.all := by unfold St.all; rw [h]
theorem read_file {s : St} {p : ByteArray} {e : Ent} (hw : wh p = some p) (hl : s.L.look p = some e) (hd : e.dir = false) : s.read p = (s.note 1 p, e.text, 0) := by
  unfold St.read
  rw [hw]; dsimp only
  rw [hl]; dsimp only
  rw [hd]; rfl
theorem stat_at {s : St} {p : ByteArray} {e : Ent} (hw : wh p = some p) (hl : s.L.look p = some e) : s.stat p = (e.time, e.dir, 0) := by
  unfold St.stat
  rw [hw]; dsimp only
  rw [hl]
end Go.Proofs.YtoibdokedhbjpaaGreat
