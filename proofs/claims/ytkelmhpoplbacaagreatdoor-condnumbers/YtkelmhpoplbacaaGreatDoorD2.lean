/-
  The program's reader of conditions in memory; what wrong, begins, rest, begin and take do.
-/
import Derived.Test.YtkelmhpoplbacaaGreatDoorD1
import Derived.Test.YtkelmhpoplbacaaGreatDoorShelf
import Derived.Shelf.Strings.SlTrimAscii
namespace Go.Proofs.YtkelmhpoplbacaaGreatDoor.Cd
open Go.RowKit Go.Shelf Ex

def cdV (s : ByteArray) (a d : Nat) : Array Value := #[.string s, .int .i64 (a : Int), .int .i64 (d : Int)]
/-- The reader lies in block b. -/
def Cr (b : Nat) (s : ByteArray) (a d : Nat) (w : World) : Prop := w.heap[b]? = some (.cells (cdV s a d) 105 (0, 0))
abbrev fV (y n : Int) : Value := .agg #[.int .i64 y, .int .i64 n]
theorem Wt.below {b : Nat} {w w' : World} (h : Below w.heap.size w w') : Wt b w w' := ⟨h.os, h.tape, h.output, h.size, fun j hj _ => h.block j hj⟩
theorem Wt.low {b : Nat} {w w' : World} (h : Wt b w w') (hb : w.heap.size ≤ b) : Below w.heap.size w w' := ⟨h.os, h.tape, h.output, h.size, fun j hj => h.block j hj (by omega)⟩
theorem Wt.then {b : Nat} {w w1 w2 : World} (h : Wt b w w1) (k : Below w1.heap.size w1 w2) : Wt b w w2 := h.trans (Wt.below k)
section
variable {b : Nat} {s : ByteArray} {a d : Nat} {w w' : World}
theorem Cr.c0 (h : Cr b s a d w) : w.cell? ⟨b, 0, none⟩ = some (.string s) := cellb h 0 rfl
theorem Cr.c1 (h : Cr b s a d w) : w.cell? ⟨b, 1, none⟩ = some (.int .i64 (a : Int)) := cellb h 1 rfl
theorem Cr.c2 (h : Cr b s a d w) : w.cell? ⟨b, 2, none⟩ = some (.int .i64 (d : Int)) := cellb h 2 rfl
theorem Cr.fr (h : Cr b s a d w) (i : Nat) : w.frozen? ⟨b, i, none⟩ = false := by
  unfold Cr at h; simp [World.frozen?, h]
theorem Cr.at_ (h : Cr b s a d w) (k : Nat) (z : Int) (hz : z = (k : Int)) : Cr b s k d (w.setCell ⟨b, 1, none⟩ (.int .i64 z)) := by
  subst hz; exact heap_setb h _
theorem Cr.deep_ (h : Cr b s a d w) (k : Nat) (z : Int) (hz : z = (k : Int)) : Cr b s a k (w.setCell ⟨b, 2, none⟩ (.int .i64 z)) := by
  subst hz; exact heap_setb h _
theorem Cr.lt (h : Cr b s a d w) : b < w.heap.size := (Array.getElem?_eq_some_iff.1 h).1
theorem Cr.below (h : Cr b s a d w) (hb : Below w.heap.size w w') : Cr b s a d w' := (hb.block b h.lt).trans h
theorem Cr.on (hb : Below w.heap.size w w') (h : Cr b s a d w) : Cr b s a d w' := h.below hb
theorem Cr.drewN (h : Cr b s a d w) (n : Nat) : Cr b s a d (w.drewN n) := h
theorem Cr.drew (h : Cr b s a d w) : Cr b s a d w.drew := h
theorem Cr.alloc (h : Cr b s a d w) (o : Obj) : Cr b s a d (w.alloc o) := (Below.heap_alloc _ _ _ h.lt).trans h
theorem Cr.set (h : Cr b s a d w) {j i : Nat} (x : Value) (hj : b ≠ j) : Cr b s a d (w.setCell ⟨j, i, none⟩ x) := (Below.heap_setCell _ _ _ _ hj).trans h
theorem Cr.pos (h : Cr b s a d w) : posOf b w = a := by
  unfold posOf; rw [h.c1]; simp
end

theorem wrong_any (p : Int) (w : World) :
    Calls Tryz.prog 34 #[.int .i64 p] w fun e w' => e = .returned (fV 13 p) ∧ Below w.heap.size w w' := by
  go_enter Tryz.func34, Tryz.ntmps34
  go_wp2
  exact bodyPost_ret (v := fV 13 p) (by simp [results, Tryz.results34, go_sem]) rfl ⟨rfl, (Below.refl _ _).alloc (Nat.le_refl _) _⟩
theorem begins_any (p : Int) (w : World) :
    Calls Tryz.prog 131 #[.int .i64 p] w fun e w' => e = .returned (.int .i64 p) ∧ w = w' := by
  go_enter Tryz.func131, Tryz.ntmps131
  go_wp2
  go_ret
  exact ⟨rfl, rfl⟩

theorem isBl_set (x : UInt8) : ([32, 9] : List UInt8).contains x = isBl x := by
  unfold isBl
  simp only [List.contains, List.elem]
  cases (x == 32) <;> cases (x == 9) <;> rfl
theorem dropWhile_len {α : Type} (p : α → Bool) (l : List α) : l.dropWhile p = l.drop (l.takeWhile p).length := by
  have h := List.takeWhile_append_dropWhile (p := p) (l := l)
  have h2 : (l.takeWhile p ++ l.dropWhile p).drop (l.takeWhile p).length = l.dropWhile p := List.drop_left
  rw [h] at h2; exact h2.symm
theorem trim_ext (s : ByteArray) (a : Nat) : (⟨(Lib.trimLeftS (bl (s.extract a s.size)) [32, 9]).toArray⟩ : ByteArray) = s.extract (skipP (bl s) a) s.size := by
  apply bl_inj
  have e : bl (⟨(Lib.trimLeftS (bl (s.extract a s.size)) [32, 9]).toArray⟩ : ByteArray) = Lib.trimLeftS (bl (s.extract a s.size)) [32, 9] := bl_ba _
  rw [e, bl_extract, bl_extract, List.take_of_length_le (by rw [bl_length]; exact Nat.le_refl _)]
  unfold Lib.trimLeftS skipP
  have : (fun x => ([32, 9] : List UInt8).contains x) = isBl := funext isBl_set
  rw [this, dropWhile_len, List.drop_drop]
theorem slf (s : ByteArray) (a : Nat) (h1 : a ≤ s.size) (W : World) : (Instr.slice 9 (.string s) (some (.int .i64 (a : Int))) none none).run Tryz.prog W = .ok (.string (s.extract a s.size)) W := by
  simp [Instr.slice, Instr.sliceBounds, Instr.sliceBound, asIntOf, run_underlying Tryz.underlying9]
  omega
theorem trimLeft_any (s : ByteArray) (W : World) : Calls Tryz.prog 55 #[.string s, .string ⟨#[32, 9]⟩] W fun e w' => e = .returned (.string ⟨(Lib.trimLeftS (bl s) [32, 9]).toArray⟩) ∧ Below W.heap.size W w' :=
  Any.strings_TrimLeft_laid Tryz.lays161 (by kernel_rfl) s ⟨#[32, 9]⟩ W (by show 2 < 4294967281; omega) (ascii_of_all rfl)
theorem trim_any (s : ByteArray) (hs : s.size ≤ 1000000) (W : World) : Calls Tryz.prog 58 #[.string s, .string ⟨#[32, 9]⟩] W fun e w' => e = .returned (.string ⟨(Lib.trimS (bl s) [32, 9]).toArray⟩) ∧ Below W.heap.size W w' :=
  Any.strings_Trim_laid Tryz.lays160 (by kernel_rfl) s ⟨#[32, 9]⟩ W (by omega) (by show 2 < 4294967281; omega) (ascii_of_all rfl)
set_option maxRecDepth 20000 in
set_option maxHeartbeats 1000000 in
theorem rest_any (b : Nat) (s : ByteArray) (hs : s.size ≤ 1000000) (a d : Nat) (ha : a ≤ s.size) (w : World) (h : Cr b s a d w) :
    Calls Tryz.prog 33 #[.pointer (some ⟨b, 0, none⟩)] w fun e w' => e = .returned (.string (s.extract (skipP (bl s) a) s.size)) ∧ Cr b s (skipP (bl s) a) d w' ∧ Wt b w w' := by
  have hk := skip_le ha
  have HT : Hid (∀ W, Calls Tryz.prog 55 #[.string (s.extract a s.size), .string ⟨#[32, 9]⟩] W fun e w' => e = .returned (.string (s.extract (skipP (bl s) a) s.size)) ∧ Below W.heap.size W w') := fun W => by
    have := trimLeft_any (s.extract a s.size) W
    rw [trim_ext] at this; exact this
  have hz : (s.extract (skipP (bl s) a) s.size).size = s.size - skipP (bl s) a := by
    rw [← bl_length, bl_extract, List.length_drop, List.length_take, bl_length]; omega
  obtain ⟨k, hke⟩ : ∃ k, k = skipP (bl s) a := ⟨_, rfl⟩
  rw [← hke] at HT hz hk ⊢
  obtain ⟨u, hu⟩ : ∃ u, u = s.extract k s.size := ⟨_, rfl⟩
  obtain ⟨v, hv⟩ : ∃ v, v = s.extract a s.size := ⟨_, rfl⟩
  have hsl := slf s a ha
  rw [← hu] at HT hz ⊢
  rw [← hv] at HT hsl
  have HC : Hid (Cr b s a d w) := h
  have huz : (s.size : Int) - (u.size : Int) = (k : Int) := by omega
  have hub : u.size ≤ 1000000 := by omega
  clear h hke hu hv hz
  go_enter Tryz.func33, Tryz.ntmps33
  go_wp2_with fail
  go_region_held3 (fun W => W.cell? ⟨b, 0, none⟩ = some (.string s) ∧ W.cell? ⟨b, 1, none⟩ = some (.int .i64 (a : Int))) (first | exact ⟨HC.out.c0, HC.out.c1⟩ | exact ⟨HC.out.drew.c0, HC.out.drew.c1⟩ | exact ⟨(HC.out.drew.below ‹_›).c0, (HC.out.drew.below ‹_›).c1⟩) (first | (go_at_call 55; refine (HT.out _).mono ?_; rintro e w1 ⟨rfl, hb1⟩))
  have H1 : Hid (Cr b s a d w1 ∧ Wt b w w1) := ⟨HC.out.drew.below hb1, (Wt.refl b w).drew.then hb1⟩
  have c0 := H1.out.1.c0
  have f1 := H1.out.1.fr 1
  clear hb1
  go_wp2
  go_ret
  exact ⟨rfl, H1.out.1.at_ k _ rfl, H1.out.2.set _⟩
set_option maxHeartbeats 400000 in
theorem begin_any (b : Nat) (s : ByteArray) (hs : s.size ≤ 1000000) (a d : Nat) (ha : a ≤ s.size) (w : World) (h : Cr b s a d w) :
    Calls Tryz.prog 52 #[.pointer (some ⟨b, 0, none⟩)] w fun e w' => e = .returned (.int .i64 (skipP (bl s) a : Nat)) ∧ Cr b s (skipP (bl s) a) d w' ∧ Wt b w w' := by
  have HR : Hid (Calls Tryz.prog 33 #[.pointer (some ⟨b, 0, none⟩)] w fun e w' => e = .returned (.string (s.extract (skipP (bl s) a) s.size)) ∧ Cr b s (skipP (bl s) a) d w' ∧ Wt b w w') := rest_any b s hs a d ha w h
  generalize skipP (bl s) a = k at HR ⊢
  clear h
  go_enter Tryz.func52, Tryz.ntmps52
  go_wp2_with fail
  refine HR.out.mono ?_
  rintro e w1 ⟨rfl, h1, h2⟩
  have H1 : Hid (Cr b s k d w1 ∧ Wt b w w1) := ⟨h1, h2⟩
  have c1 := h1.c1
  clear h1 h2
  go_wp2
  go_ret
  exact ⟨rfl, H1.out⟩
theorem pre_next (s p : ByteArray) (k : Nat) : Lib.hasPrefix (bl (s.extract k s.size)) (bl p) = (bl p).isPrefixOf ((bl s).drop k) := by
  unfold Lib.hasPrefix
  rw [bl_extract, List.take_of_length_le (by rw [bl_length]; exact Nat.le_refl _)]
set_option maxHeartbeats 400000 in
theorem take_any (b : Nat) (s p : ByteArray) (hs : s.size ≤ 1000000) (hp : p.size ≤ 100) (a d : Nat) (ha : a ≤ s.size) (w : World) (h : Cr b s a d w) :
    Calls Tryz.prog 77 #[.pointer (some ⟨b, 0, none⟩), .string p] w fun e w' => e = .returned (.bool (nextP (bl s) a (bl p)).1) ∧ Cr b s (nextP (bl s) a (bl p)).2 d w' ∧ Wt b w w' := by
  have HR : Hid (Calls Tryz.prog 33 #[.pointer (some ⟨b, 0, none⟩)] w fun e w' => e = .returned (.string (s.extract (skipP (bl s) a) s.size)) ∧ Cr b s (skipP (bl s) a) d w' ∧ Wt b w w') := rest_any b s hs a d ha w h
  have hk := skip_le ha
  unfold nextP
  generalize skipP (bl s) a = k at HR hk ⊢
  have HP : Hid (∀ W, Calls Tryz.prog 103 #[.string (s.extract k s.size), .string p] W fun e w' => e = .returned (.bool ((bl p).isPrefixOf ((bl s).drop k))) ∧ W = w') := fun W => by
    rw [← pre_next]
    exact (Tryz.strings_HasPrefix _ p W).mono fun e w' h => ⟨h.1, h.2.symm⟩
  have hpl : (bl p).length = p.size := bl_length p
  have hk2 : k ≤ 1000000 := by omega
  clear h
  cases hq : (bl p).isPrefixOf ((bl s).drop k)
  · rw [hq] at HP
    simp only [Bool.false_eq_true, if_false]
    clear hq hpl
    go_enter Tryz.func77, Tryz.ntmps77
    go_wp2_with fail
    refine HR.out.mono ?_
    rintro e w1 ⟨rfl, h1, h2⟩
    have H1 : Hid (Cr b s k d w1 ∧ Wt b w w1) := ⟨h1, h2⟩
    clear h1 h2
    go_wp2_with fail
    refine (HP.out _).mono ?_
    rintro e w2 ⟨rfl, rfl⟩
    go_wp2
    go_ret
    exact ⟨rfl, H1.out⟩
  · rw [hq] at HP
    simp only [if_true]
    rw [hpl]
    clear hq hpl
    go_enter Tryz.func77, Tryz.ntmps77
    go_wp2_with fail
    refine HR.out.mono ?_
    rintro e w1 ⟨rfl, h1, h2⟩
    have H1 : Hid (Cr b s k d w1 ∧ Wt b w w1) := ⟨h1, h2⟩
    have c1 := h1.c1
    have f1 := h1.fr 1
    clear h1 h2
    go_wp2_with fail
    refine (HP.out _).mono ?_
    rintro e w2 ⟨rfl, rfl⟩
    go_wp2
    go_ret
    exact ⟨rfl, H1.out.1.at_ (k + p.size) _ (by omega), H1.out.2.set _⟩
end Go.Proofs.YtkelmhpoplbacaaGreatDoor.Cd
