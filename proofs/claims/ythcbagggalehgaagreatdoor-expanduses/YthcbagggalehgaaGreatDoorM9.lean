/-
  The work of one modifier: room, keep, matching, other.
-/
import Derived.Test.YthcbagggalehgaaGreatDoorM8
import Derived.Maps.AppendAt
namespace Go.Proofs.YthcbagggalehgaaGreatDoor
open Go.RowKit Go.Shelf

/-- The cells of a work. -/
def wkV (m : Md) (v : Value) (size : Int) (over done : Bool) : Array Value :=
  #[.string m.kind, .string m.a, .string m.b, .bool m.bg, .bool m.en, .pointer m.ex, .bool m.al, .bool m.on, .int .i64 m.mks, .int .i64 m.ots, .int .i64 m.frm, .int .i64 m.upto, v, .int .i64 size, .bool over, .bool done]
def sizeL (l : List ByteArray) : Nat := (l.map ByteArray.size).sum
theorem sizeL_snoc (l : List ByteArray) (x : ByteArray) : sizeL (l ++ [x]) = sizeL l + x.size := by simp [sizeL]
/-- A work in memory: block b, the row of what is made. -/
structure Wk (base b : Nat) (m : Md) (v : Value) (made : List ByteArray) (over done : Bool) (w : World) : Prop where
  blk : w.heap[b]? = some (.cells (wkV m v (sizeL made) over done) 170 (0, 0))
  row : w.ownsRow base 9 1 v made.length (made.map Value.string)
  far : v.ownBlock ≠ some b
  at_ : base ≤ w.heap.size
theorem Wk.cells {base b : Nat} {m : Md} {v : Value} {made : List ByteArray} {over done : Bool} {w : World} (h : Wk base b m v made over done w) :
    (w.cell? ⟨b, 0, none⟩ = some (.string m.kind) ∧ w.cell? ⟨b, 1, none⟩ = some (.string m.a) ∧ w.cell? ⟨b, 2, none⟩ = some (.string m.b) ∧ w.cell? ⟨b, 3, none⟩ = some (.bool m.bg) ∧ w.cell? ⟨b, 4, none⟩ = some (.bool m.en) ∧ w.cell? ⟨b, 6, none⟩ = some (.bool m.al) ∧ w.cell? ⟨b, 7, none⟩ = some (.bool m.on) ∧ w.cell? ⟨b, 8, none⟩ = some (.int .i64 m.mks) ∧ w.cell? ⟨b, 9, none⟩ = some (.int .i64 m.ots)) ∧
    (w.cell? ⟨b, 12, none⟩ = some v ∧ w.cell? ⟨b, 13, none⟩ = some (.int .i64 (sizeL made)) ∧ w.cell? ⟨b, 14, none⟩ = some (.bool over) ∧ w.cell? ⟨b, 15, none⟩ = some (.bool done)) ∧ ∀ i, w.frozen? ⟨b, i, none⟩ = false := by
  refine ⟨?_, ?_, fun i => by simp [World.frozen?, h.blk]⟩
  · simp only [World.cell?, h.blk, wkV]
    exact ⟨rfl, rfl, rfl, rfl, rfl, rfl, rfl, rfl, rfl⟩
  · simp only [World.cell?, h.blk, wkV]
    exact ⟨rfl, rfl, rfl, rfl⟩
theorem Wk.below {base b : Nat} {m : Md} {v : Value} {made : List ByteArray} {over done : Bool} {w w' : World} (h : Wk base b m v made over done w) (hb : Below w.heap.size w w') : Wk base b m v made over done w' := by
  have hlt : b < w.heap.size := (Array.getElem?_eq_some_iff.1 h.blk).1
  exact ⟨(hb.block b hlt).trans h.blk, owns_below h.row hb, h.far, Nat.le_trans h.at_ hb.size⟩
theorem Wk.lt {base b : Nat} {m : Md} {v : Value} {made : List ByteArray} {over done : Bool} {w : World} (h : Wk base b m v made over done w) : b < w.heap.size := (Array.getElem?_eq_some_iff.1 h.blk).1
/-- What a step of a work may write: its block, its row, new memory. -/
structure Went (b : Nat) (v : Value) (w w' : World) : Prop where
  os : w'.os = w.os
  tape : w'.tape = w.tape
  output : w'.output = w.output
  size : w.heap.size ≤ w'.heap.size
  block : ∀ j, j < w.heap.size → j ≠ b → v.ownBlock ≠ some j → w'.heap[j]? = w.heap[j]?
theorem Went.refl (b : Nat) (v : Value) (w : World) : Went b v w w := ⟨rfl, rfl, rfl, Nat.le_refl _, fun _ _ _ _ => rfl⟩
theorem Went.of_below {b : Nat} {v : Value} {w w' : World} (h : Below w.heap.size w w') : Went b v w w' := ⟨h.os, h.tape, h.output, h.size, fun j hj _ _ => h.block j hj⟩
theorem Went.set (b i : Nat) (v : Value) (w : World) (x : Value) : Went b v w (w.setCell ⟨b, i, none⟩ x) := ⟨rfl, rfl, rfl, by rw [size_set]; exact Nat.le_refl _, fun _ _ h _ => Below.heap_setCell _ _ _ _ h⟩
theorem Went.trans {b : Nat} {v v1 : Value} {w w1 w2 : World} (h : Went b v w w1) (h2 : Went b v1 w1 w2) (hv : ∀ j, v1.ownBlock = some j → v.ownBlock = some j ∨ w.heap.size ≤ j) : Went b v w w2 :=
  ⟨h2.os.trans h.os, h2.tape.trans h.tape, h2.output.trans h.output, Nat.le_trans h.size h2.size, fun j hj hb hvj => (h2.block j (Nat.lt_of_lt_of_le hj h.size) hb (fun e => by rcases hv j e with h3 | h3; exact hvj h3; omega)).trans (h.block j hj hb hvj)⟩
theorem Went.same {b : Nat} {v : Value} {w w1 w2 : World} (h : Went b v w w1) (h2 : Went b v w1 w2) : Went b v w w2 := h.trans h2 fun _ h => .inl h
theorem Wk.over' {base b : Nat} {m : Md} {v : Value} {made : List ByteArray} {over done : Bool} {w : World} (h : Wk base b m v made over done w) (o : Bool) : Wk base b m v made o done (w.setCell ⟨b, 14, none⟩ (.bool o)) :=
  ⟨heap_set h.blk _, row_set h.row h.far _, h.far, by rw [size_set]; exact h.at_⟩
theorem Wk.done' {base b : Nat} {m : Md} {v : Value} {made : List ByteArray} {over done : Bool} {w : World} (h : Wk base b m v made over done w) (o : Bool) : Wk base b m v made over o (w.setCell ⟨b, 15, none⟩ (.bool o)) :=
  ⟨heap_set h.blk _, row_set h.row h.far _, h.far, by rw [size_set]; exact h.at_⟩

set_option maxRecDepth 20000 in
set_option maxHeartbeats 1600000 in
theorem room_any (base b : Nat) (m : Md) (v : Value) (made : List ByteArray) (over done : Bool) (n : Int) (w : World) (h : Wk base b m v made over done w) (hs : sizeL made ≤ 65536) :
    Calls Tryz.prog 143 #[.pointer (some ⟨b, 0, none⟩), .int .i64 n] w fun e w' => e = .returned (.bool (decide (n + sizeL made ≤ 65536))) ∧ Wk base b m v made (!decide (n + sizeL made ≤ 65536)) done w' ∧ Went b v w w' := by
  have HW : Hid (Wk base b m v made over done w) := h
  obtain ⟨_, ⟨r12, r13, r14, r15⟩, hfz⟩ := h.cells
  clear h
  obtain ⟨z, hz⟩ : ∃ z, z = sizeL made := ⟨_, rfl⟩
  rw [← hz] at r13 hs ⊢
  have HZ : Hid (z = sizeL made) := hz
  clear hz
  by_cases hle : n + (z : Int) ≤ 65536
  · have t1 : decide ((65536 : Int) - (z : Int) < n) = false := by simp; omega
    rw [decide_eq_true hle]
    go_enter Tryz.func143, Tryz.ntmps143
    go_wp2
    go_ret
    exact ⟨rfl, HW.out.over' false, Went.set b 14 v w _⟩
  · have t1 : decide ((65536 : Int) - (z : Int) < n) = true := by simp; omega
    rw [decide_eq_false hle]
    go_enter Tryz.func143, Tryz.ntmps143
    go_wp2
    go_ret
    exact ⟨rfl, HW.out.over' true, Went.set b 14 v w _⟩

set_option maxRecDepth 20000 in
set_option maxHeartbeats 1600000 in
theorem keep_in (base b : Nat) (m : Md) (v : Value) (made : List ByteArray) (over done : Bool) (x : ByteArray) (w : World) (h : Wk base b m v made over done w) (hs : sizeL made ≤ 65536) (hl : made.length ≤ 100000) (hle : x.size + sizeL made ≤ 65536) :
    Calls Tryz.prog 141 #[.pointer (some ⟨b, 0, none⟩), .string x] w fun e w' => e = .returned (.tuple #[]) ∧
      (∃ v', Wk base b m v' (made ++ [x]) false done w' ∧ (∀ j, v'.ownBlock = some j → v.ownBlock = some j ∨ w.heap.size ≤ j)) ∧ Went b v w w' := by
  obtain ⟨i0, hi, hz0, hz1, hz2⟩ := info_of infoS9
  have hx : x.size ≤ 1000000 := by omega
  have HR : Hid (Calls Tryz.prog 143 #[.pointer (some ⟨b, 0, none⟩), .int .i64 x.size] w fun e w' => e = .returned (.bool (decide ((x.size : Int) + sizeL made ≤ 65536))) ∧ Wk base b m v made (!decide ((x.size : Int) + sizeL made ≤ 65536)) done w' ∧ Went b v w w') := room_any base b m v made over done x.size w h hs
  clear h
  rw [decide_eq_true (by omega)] at HR
  obtain ⟨z, hz⟩ : ∃ z, z = sizeL made := ⟨_, rfl⟩
  have HZ : Hid (z = sizeL made) := hz
  rw [← hz] at hle hs
  clear hz
  go_enter Tryz.func141, Tryz.ntmps141
  go_wp2_with fail
  refine HR.out.mono ?_
  rintro e w1 ⟨rfl, hW1, hg1⟩
  have HW1 : Hid (Wk base b m v made false done w1 ∧ Went b v w w1) := ⟨hW1, hg1⟩
  obtain ⟨_, ⟨r12, r13, r14, r15⟩, hfz⟩ := hW1.cells
  rw [← HZ.out] at r13
  have hrow := hW1.row
  have hbs := hW1.at_
  have hblt := hW1.lt
  have hfar := hW1.far
  have hblk := hW1.blk
  obtain ⟨ln, hln⟩ : ∃ ln, ln = made.length := ⟨_, rfl⟩
  have HLn : Hid (ln = made.length) := hln
  rw [← hln] at hrow hl
  clear hln
  obtain ⟨a4, cap4, hv4⟩ := owns_slice hrow
  subst hv4
  clear hW1 hg1
  have HH : Hid (w1.heap[b]? = some (.cells (wkV m (.slice a4 ln cap4) (sizeL made) false done) 170 (0, 0)) ∧ b < w1.heap.size ∧ (Value.slice a4 ln cap4).ownBlock ≠ some b) := ⟨hblk, hblt, hfar⟩
  clear hblk hblt hfar
  go_wp2_with (at_builtin; refine wpList_append_own_at _ rfl _ _ 23 rfl base 9 i0 (.string ⟨#[]⟩) 1 16 Tryz.underlying23 hi hz0 hz1 hz2 rfl (by decide) _ _ _ rfl (hrow.alloc _) ⟨w1.heap.size, 0, none⟩ 1 1 [.string x] rfl rfl (cell_one_new _ _ _) (by intro u hu; simp at hu; subst hu; rfl) (by unfold maxLen; omega) (by omega) (by simp; omega) ?_)
  intro v' w2 hown' hgrow _ hat
  obtain ⟨a5, c5, hv5⟩ := owns_slice hown'
  subst hv5
  obtain ⟨c1, c2, c3⟩ := HH.out
  have hb2 : w2.heap[b]? = some (.cells (wkV m (.slice a4 ln cap4) (sizeL made) false done) 170 (0, 0)) := by
    rw [hgrow.block b (by simp; omega) (fun e => c3 e.symm), heap_alloc_old _ _ c2]; exact c1
  have hw2 : Went b (.slice a4 ln cap4) w w2 := HW1.out.2.same ⟨hgrow.os, hgrow.tape, hgrow.output, by have := hgrow.size; rw [World.size_alloc] at this; omega, fun j hj _ hv => by
    rw [hgrow.block j (by simp; omega) (fun e => hv e.symm), heap_alloc_old _ _ hj]⟩
  have hf2 : (Value.slice a5 (ln + 1) c5).ownBlock ≠ some b := by
    rcases hat with h1 | h1
    · rw [h1]; exact c3
    · rw [h1]; intro e; simp at e; omega
  have hv2 : ∀ j, (Value.slice a5 (ln + 1) c5).ownBlock = some j → (Value.slice a4 ln cap4).ownBlock = some j ∨ w.heap.size ≤ j := fun j hj => by
    rcases hat with h1 | h1
    · exact .inl (h1.symm.trans hj)
    · rw [h1] at hj; simp at hj; have := HW1.out.2.size; exact .inr (by omega)
  have hsz2 : base ≤ w2.heap.size := by have := hgrow.size; rw [World.size_alloc] at this; omega
  have HZ2 : Hid (((z : Int) + (x.size : Int)) = (sizeL (made ++ [x]) : Nat)) := by unfold Hid; rw [sizeL_snoc, ← HZ.out]; omega
  have HE : Hid (Wk base b m (Value.slice a5 (ln + 1) c5) (made ++ [x]) false done ((w2.setCell ⟨b, 12, none⟩ (Value.slice a5 (ln + 1) c5)).setCell ⟨b, 13, none⟩ (.int .i64 ((z : Int) + (x.size : Int)))) ∧ Went b (.slice a4 ln cap4) w ((w2.setCell ⟨b, 12, none⟩ (Value.slice a5 (ln + 1) c5)).setCell ⟨b, 13, none⟩ (.int .i64 ((z : Int) + (x.size : Int)))) ∧ ∀ j, (Value.slice a5 (ln + 1) c5).ownBlock = some j → (Value.slice a4 ln cap4).ownBlock = some j ∨ w.heap.size ≤ j) := by
    refine ⟨⟨?_, ?_, hf2, by rw [size_set, size_set]; exact hsz2⟩, (hw2.same (Went.set b 12 _ w2 _)).same (Went.set b 13 _ _ _), hv2⟩
    · rw [HZ2.out]; exact heap_set (heap_set hb2 _) _
    · refine row_set (row_set ?_ hf2 _) hf2 _
      have e1 : (made ++ [x]).length = ln + 1 := by rw [List.length_append, ← HLn.out]; rfl
      rw [e1, List.map_append]; exact hown'
  have y12 : w2.cell? ⟨b, 12, none⟩ = some (.slice a4 ln cap4) := by simp [World.cell?, hb2, wkV]
  have y13 : w2.cell? ⟨b, 13, none⟩ = some (.int .i64 z) := by rw [HZ.out]; simp [World.cell?, hb2, wkV]
  have yf : ∀ i, w2.frozen? ⟨b, i, none⟩ = false := fun i => by simp [World.frozen?, hb2]
  clear hown' hgrow hat c1 c2 c3 hb2 hw2 hf2 hv2 hsz2 r12 r13 r14 r15 hfz hrow HW1 HH
  go_wp2
  refine bodyPost_end (v := .tuple #[]) (by simp [results, Tryz.results141, go_sem]) rfl ⟨rfl, ⟨(Value.slice a5 (ln + 1) c5), HE.out.1, HE.out.2.2⟩, HE.out.2.1⟩

set_option maxRecDepth 20000 in
set_option maxHeartbeats 1600000 in
theorem keep_out (base b : Nat) (m : Md) (v : Value) (made : List ByteArray) (over done : Bool) (x : ByteArray) (w : World) (h : Wk base b m v made over done w) (hs : sizeL made ≤ 65536) (hle : ¬ x.size + sizeL made ≤ 65536) :
    Calls Tryz.prog 141 #[.pointer (some ⟨b, 0, none⟩), .string x] w fun e w' => e = .returned (.tuple #[]) ∧ Wk base b m v made true done w' ∧ Went b v w w' := by
  have HR : Hid (Calls Tryz.prog 143 #[.pointer (some ⟨b, 0, none⟩), .int .i64 x.size] w fun e w' => e = .returned (.bool (decide ((x.size : Int) + sizeL made ≤ 65536))) ∧ Wk base b m v made (!decide ((x.size : Int) + sizeL made ≤ 65536)) done w' ∧ Went b v w w') := room_any base b m v made over done x.size w h hs
  clear h
  rw [decide_eq_false (by omega)] at HR
  go_enter Tryz.func141, Tryz.ntmps141
  go_wp2_with fail
  refine HR.out.mono ?_
  rintro e w1 ⟨rfl, hW1, hg1⟩
  go_wp2
  refine bodyPost_end (v := .tuple #[]) (by simp [results, Tryz.results141, go_sem]) rfl ⟨rfl, hW1, hg1⟩

/-- What a step leaves behind: the words made, or that they are too many. -/
def Step (base b : Nat) (m : Md) (v : Value) (made : List ByteArray) (done : Bool) (x : Option ByteArray) (w w' : World) : Prop :=
  (∃ v', (match x with
    | none => Wk base b m v' made false done w'
    | some y => if y.size + sizeL made ≤ 65536 then Wk base b m v' (made ++ [y]) false done w' else Wk base b m v' made true done w') ∧ (∀ j, v'.ownBlock = some j → v.ownBlock = some j ∨ w.heap.size ≤ j)) ∧ Went b v w w'
theorem keep_any (base b : Nat) (m : Md) (v : Value) (made : List ByteArray) (over done : Bool) (x : ByteArray) (w : World) (h : Wk base b m v made over done w) (hs : sizeL made ≤ 65536) (hl : made.length ≤ 100000) :
    Calls Tryz.prog 141 #[.pointer (some ⟨b, 0, none⟩), .string x] w fun e w' => e = .returned (.tuple #[]) ∧ Step base b m v made done (some x) w w' := by
  by_cases hle : x.size + sizeL made ≤ 65536
  · refine (keep_in base b m v made over done x w h hs hl hle).mono ?_
    rintro e w' ⟨rfl, ⟨v', h1, h2⟩, h3⟩
    exact ⟨rfl, ⟨v', by dsimp only; rw [if_pos hle]; exact h1, h2⟩, h3⟩
  · refine (keep_out base b m v made over done x w h hs hle).mono ?_
    rintro e w' ⟨rfl, h1, h3⟩
    exact ⟨rfl, ⟨v, by dsimp only; rw [if_neg hle]; exact h1, fun j hj => .inl hj⟩, h3⟩
theorem Step.of_below {base b : Nat} {m : Md} {v : Value} {made : List ByteArray} {done : Bool} {x : Option ByteArray} {w0 w w' : World} (h : Step base b m v made done x w w') (hb : Below w0.heap.size w0 w) : Step base b m v made done x w0 w' := by
  obtain ⟨⟨v', h1, h2⟩, h3⟩ := h
  refine ⟨⟨v', h1, fun j hj => ?_⟩, (Went.of_below hb).same h3⟩
  have := hb.size
  rcases h2 j hj with h4 | h4
  · exact .inl h4
  · exact .inr (by omega)
end Go.Proofs.YthcbagggalehgaaGreatDoor
