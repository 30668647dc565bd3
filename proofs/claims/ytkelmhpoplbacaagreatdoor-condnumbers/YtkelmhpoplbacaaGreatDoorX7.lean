/-
  A work in memory, and what variable does, given what text does.
-/
import Derived.Test.YtkelmhpoplbacaaGreatDoorX6
import Derived.Test.YtkelmhpoplbacaaGreatDoorShelf
namespace Go.Proofs.YtkelmhpoplbacaaGreatDoor.Ex
open Go.RowKit Go.Shelf

structure WkAt (B bw : Nat) (pv : Value) (fuel : Nat) (vw : Value) (within : List ByteArray) (w : World) : Prop where
  blk : w.heap[bw]? = some (.cells #[pv, .int .i64 (fuel : Int), vw] 203 (0, 0))
  row : w.ownsRow B 9 1 vw within.length (within.map Value.string)
  hb : B ≤ bw
def FD (bw : Nat) (vw : Value) : Nat → Prop := fun j => j = bw ∨ vw.ownBlock = some j
def Moved (vw vw' : Value) (w : World) : Prop := ∀ g, vw'.ownBlock = some g → vw.ownBlock = some g ∨ w.heap.size ≤ g
def ResPost (B bw : Nat) (pv : Value) (within : List ByteArray) (vw : Value) (w : World) (r : Res) (e : Ending) (w' : World) : Prop :=
  match r with
  | .ok u f => e = .returned (.string u) ∧ u.size ≤ 1000000 ∧ f ≤ 10000000 ∧ ∃ vw', WkAt B bw pv f vw' within w' ∧ Fr (FD bw vw) w w' ∧ Moved vw vw' w
  | .err x => e = pan x ∧ Below B w w'
  | .bad => True
section
variable {B bw : Nat} {pv : Value} {fuel : Nat} {vw : Value} {within : List ByteArray} {w w' : World}
theorem WkAt.lt (h : WkAt B bw pv fuel vw within w) : bw < w.heap.size := (Array.getElem?_eq_some_iff.1 h.blk).1
theorem WkAt.low (h : WkAt B bw pv fuel vw within w) : B ≤ w.heap.size := by have := h.lt; have := h.hb; omega
theorem WkAt.nw (h : WkAt B bw pv fuel vw within w) : vw.ownBlock ≠ some bw := row_ne' h.row h.blk (by decide)
theorem WkAt.fd (h : WkAt B bw pv fuel vw within w) : ∀ j, FD bw vw j → B ≤ j := fun j e => by
  rcases e with e | e
  · rw [e]; exact h.hb
  · exact (h.row.lt j e).1
theorem WkAt.below (h : WkAt B bw pv fuel vw within w) (hb : Below w.heap.size w w') : WkAt B bw pv fuel vw within w' :=
  ⟨(hb.block bw h.lt).trans h.blk, owns_below h.row hb, h.hb⟩
theorem WkAt.burn (h : WkAt B bw pv fuel vw within w) (f : Nat) : WkAt B bw pv f vw within (w.setCell ⟨bw, 1, none⟩ (.int .i64 (f : Int))) :=
  ⟨heap_set h.blk _, row_set h.row h.nw _, h.hb⟩
theorem WkAt.fr_low (h : WkAt B bw pv fuel vw within w) (hf : Fr (FD bw vw) w w') : Below B w w' := hf.below h.low h.fd
theorem Moved.refl (vw : Value) (w : World) : Moved vw vw w := fun _ h => .inl h
/-- Two turns, one behind the other. -/
theorem Fr.next {v1 : Value} {w1 w2 : World} (h1 : Fr (FD bw vw) w w1) (hm : Moved vw v1 w) (h2 : Fr (FD bw v1) w1 w2) : Fr (FD bw vw) w w2 :=
  ⟨h2.os.trans h1.os, h2.tape.trans h1.tape, h2.output.trans h1.output, Nat.le_trans h1.size h2.size, fun j hj hD => (h2.block j (Nat.lt_of_lt_of_le hj h1.size) (fun e => hD (by
    rcases e with e | e
    · exact .inl e
    · rcases hm j e with e | e
      · exact .inr e
      · omega))).trans (h1.block j hj hD)⟩
theorem Moved.next {v1 v2 : Value} {w1 : World} (h1 : Moved vw v1 w) (hs : w.heap.size ≤ w1.heap.size) (h2 : Moved v1 v2 w1) : Moved vw v2 w := fun g hg => by
  rcases h2 g hg with h | h
  · exact h1 g h
  · exact .inr (Nat.le_trans hs h)
end
/-- What text does, where it is known. -/
def TextC (B : Nat) (w0 : World) (bw : Nat) (pv : Value) (tx : List ByteArray → Nat → ByteArray → Res) : Prop :=
  ∀ (within : List ByteArray) (fuel : Nat) (s : ByteArray) (vw : Value) (W : World), WkAt B bw pv fuel vw within W → Below B w0 W → s.size ≤ 1000000 → fuel ≤ 10000000 → within.length ≤ 32 → tx within fuel s ≠ .bad →
    Calls Tryz.prog 114 #[pV bw, .string s] W (ResPost B bw pv within vw W (tx within fuel s))
theorem infoS : (Tryz.prog.info? 9).map (fun i => (i.zero, i.size, i.bytes)) = some (some (.string ⟨#[]⟩), 1, 16) := by kernel_rfl
theorem isIn_lib (l : List ByteArray) (x : ByteArray) : Lib.containsS l x = isIn l x := by
  rw [Bool.eq_iff_iff, Lib.containsS_iff]
  unfold isIn
  rw [List.any_eq_true]
  constructor
  · intro h; exact ⟨x, h, by simp⟩
  · rintro ⟨y, h1, h2⟩; simp at h2; subst h2; exact h1
theorem contains_any {B : Nat} {vw : Value} {l : List ByteArray} {w : World} (h : w.ownsRow B 9 1 vw l.length (l.map Value.string)) (x : ByteArray) (hl : l.length ≤ 1000) : Calls Tryz.prog 60 #[vw, .string x] w fun e w' => e = .returned (.bool (isIn l x)) ∧ w = w' := by
  rcases V.row_src h with ⟨h1, h2, _⟩ | ⟨g, cap, hv, _, _, hxl, hc⟩
  · have : l = [] := List.length_eq_zero_iff.1 h2
    subst this h1
    refine (Tryz.slices_Contains_string_empty none 0 x w).mono fun e w' h => ⟨?_, h.2.symm⟩
    rw [h.1]; rfl
  · subst hv
    refine (Tryz.slices_Contains_string g 0 l.length cap l x w (Nat.le_refl _) (by omega) (fun j hj => ?_)).mono fun e w' h => ⟨?_, h.2.symm⟩
    · have := hc j (.string l[j]) (by simp [hj])
      rw [V.add_none] at this
      rw [this]
      simp [List.getD_eq_getElem?_getD, hj]
    · rw [h.1, List.take_of_length_le (Nat.le_refl _), isIn_lib]

/-- A name more. -/
theorem WkAt.push {B bw : Nat} {pv : Value} {fuel : Nat} {vw v2 : Value} {within : List ByteArray} {name : ByteArray} {w w2 : World} (h : WkAt B bw pv fuel vw within w) (hf : Fr (fun j => vw.ownBlock = some j) w w2) (hown : w2.ownsRow B 9 1 v2 (within.length + 1) (within.map Value.string ++ [.string name])) (hm : Moved vw v2 w) :
    WkAt B bw pv fuel v2 (within ++ [name]) (w2.setCell ⟨bw, 2, none⟩ v2) ∧ Fr (FD bw vw) w (w2.setCell ⟨bw, 2, none⟩ v2) ∧ Moved vw v2 w := by
  have hblk := (hf.block bw h.lt h.nw).trans h.blk
  refine ⟨⟨heap_set hblk _, row_set ?_ (row_ne' hown hblk (by decide)) _, h.hb⟩, (hf.mono (fun j _ e => .inr e)).trans (Fr.set bw 2 _ _ (.inl rfl)), hm⟩
  rw [List.length_append, List.length_singleton, List.map_append]; exact hown
/-- A name less. -/
theorem WkAt.pop {B bw : Nat} {pv : Value} {fuel : Nat} {within : List ByteArray} {name : ByteArray} {g cap : Nat} {w : World} (h : WkAt B bw pv fuel (.slice (some ⟨g, 0, none⟩) (within.length + 1) cap) (within ++ [name]) w) : WkAt B bw pv fuel (.slice (some ⟨g, 0, none⟩) within.length cap) within (w.setCell ⟨bw, 2, none⟩ (.slice (some ⟨g, 0, none⟩) within.length cap)) := by
  have hrow := h.row
  rw [List.length_append, List.length_singleton, List.map_append] at hrow
  have := owns_pop hrow (by simp)
  exact ⟨heap_set h.blk _, row_set this h.nw _, h.hb⟩

section
variable {B : Nat} {w0 : World} {bw : Nat} {pv : Value} {tx : List ByteArray → Nat → ByteArray → Res}
set_option maxHeartbeats 800000 in
theorem var_deep (within : List ByteArray) (fuel : Nat) (name v : ByteArray) (vw : Value) (W : World) (h : WkAt B bw pv fuel vw within W) (hl : within.length = 32) :
    Calls Tryz.prog 182 #[pV bw, .string name, .string v] W fun e w' => e = pan 11 ∧ W = w' := by
  obtain ⟨a, c, hv⟩ := V.owns_slice h.row
  rw [hl] at hv
  subst hv
  have c2 : W.cell? ⟨bw, 2, none⟩ = some (.slice a 32 c) := V.cell_in h.blk 2 rfl
  unfold pV pan
  clear h hl
  go_enter Tryz.func182, Tryz.ntmps182
  go_wp2
  exact ⟨rfl, rfl, rfl⟩
set_option maxHeartbeats 800000 in
theorem var_loop (within : List ByteArray) (fuel : Nat) (name v : ByteArray) (vw : Value) (W : World) (h : WkAt B bw pv fuel vw within W) (hl : within.length < 32) (hi : isIn within name = true) :
    Calls Tryz.prog 182 #[pV bw, .string name, .string v] W fun e w' => e = pan 11 ∧ W = w' := by
  have HC : Hid (Calls Tryz.prog 60 #[vw, .string name] W fun e w' => e = .returned (.bool true) ∧ W = w') := by
    have := contains_any h.row name (by omega); rw [hi] at this; exact this
  obtain ⟨a, c, hv⟩ := V.owns_slice h.row
  have c2 : W.cell? ⟨bw, 2, none⟩ = some vw := V.cell_in h.blk 2 rfl
  subst hv
  obtain ⟨n, hn⟩ : ∃ n, n = within.length := ⟨_, rfl⟩
  rw [← hn] at HC c2 hl
  have h1 : ¬ (n : Int) = 32 := by omega
  have h1b : ((n : Int) == 32) = false := by rw [beq_eq_false_iff_ne]; exact h1
  unfold pV pan
  clear h hn hi hl
  go_enter Tryz.func182, Tryz.ntmps182
  go_wp2_with fail
  refine HC.out.mono ?_
  rintro e w' ⟨rfl, rfl⟩
  go_wp2
  exact ⟨rfl, rfl, rfl⟩
set_option maxHeartbeats 800000 in
theorem var_fuel (within : List ByteArray) (fuel : Nat) (name v : ByteArray) (vw : Value) (W : World) (h : WkAt B bw pv fuel vw within W) (hl : within.length < 32) (hi : isIn within name = false) (hf : fuel < v.size) :
    Calls Tryz.prog 182 #[pV bw, .string name, .string v] W fun e w' => e = pan 10 ∧ W = w' := by
  have HC : Hid (Calls Tryz.prog 60 #[vw, .string name] W fun e w' => e = .returned (.bool false) ∧ W = w') := by
    have := contains_any h.row name (by omega); rw [hi] at this; exact this
  have HB : Hid (Calls Tryz.prog 173 #[pV bw, .int .i64 (v.size : Int)] W fun e w' => e = pan 10 ∧ W = w') := burn_err bw _ _ v.size fuel W h.blk hf
  obtain ⟨a, c, hv⟩ := V.owns_slice h.row
  have c2 : W.cell? ⟨bw, 2, none⟩ = some vw := V.cell_in h.blk 2 rfl
  subst hv
  obtain ⟨n, hn⟩ : ∃ n, n = within.length := ⟨_, rfl⟩
  rw [← hn] at HC c2 hl
  have h1 : ¬ (n : Int) = 32 := by omega
  have h1b : ((n : Int) == 32) = false := by rw [beq_eq_false_iff_ne]; exact h1
  unfold pV at HB ⊢
  unfold pan at HB ⊢
  clear h hn hi hl
  go_enter Tryz.func182, Tryz.ntmps182
  go_wp2_with fail
  refine HC.out.mono ?_
  rintro e w' ⟨rfl, rfl⟩
  go_wp2_with fail
  refine HB.out.mono ?_
  rintro e w' ⟨rfl, rfl⟩
  go_wp2
  exact ⟨rfl, rfl, rfl⟩
end
end Go.Proofs.YtkelmhpoplbacaaGreatDoor.Ex
