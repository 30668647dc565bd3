/-
  The document's own store in memory: where a path stands in its list, how much is used, where a path's directory is.
-/
import Derived.Test.YtoibdokedhbjpaaGreatRound
import Derived.Test.YtoibdokedhbjpaaGreatWhere
import Derived.Test.YtoibdokedhbjpaaGreatRCuts
import Derived.Test.YtoibdokedhbjpaaGreatTouches
namespace Go.Proofs.YtoibdokedhbjpaaGreat
open Go.RowKit Go.Shelf Go.Maps

def fileV (x : ByteArray × Ent) : List Value := [.string x.1, .string x.2.text, .int .i64 x.2.time, .bool x.2.dir]
def filesV (L : Fs) : List Value := L.flatMap fileV
theorem filesV_len (L : Fs) : (filesV L).length = L.length * 4 := by
  induction L with
  | nil => rfl
  | cons x t ih => unfold filesV at ih ⊢; simp only [List.flatMap_cons, List.length_append, ih, fileV, List.length_cons, List.length_nil]; omega
theorem filesV_app (a c : Fs) : filesV (a ++ c) = filesV a ++ filesV c := by unfold filesV; rw [List.flatMap_append]
theorem filesV_at (L : Fs) (i j : Nat) (h : i < L.length) (hj : j < 4) : (filesV L)[i * 4 + j]? = (fileV L[i])[j]? := by
  induction L generalizing i with
  | nil => exact absurd h (Nat.not_lt_zero _)
  | cons x t ih =>
    have e : filesV (x :: t) = fileV x ++ filesV t := rfl
    rw [e]
    cases i with
    | zero =>
      rw [Nat.zero_mul, Nat.zero_add, List.getElem?_append_left (by simp [fileV]; omega)]; rfl
    | succ i =>
      have := ih i (by simpa using h)
      rw [List.getElem?_append_right (by simp [fileV]; omega)]
      have hl : (fileV x).length = 4 := rfl
      rw [hl, show (i + 1) * 4 + j - 4 = i * 4 + j by omega, this]; rfl

structure RSt (base br : Nat) (vL vN : Value) (s : St) (w : World) : Prop where
  blk : w.heap[br]? = some (.cells #[.int .i64 s.room, .int .i64 s.now, vL, .bool s.noting, vN] 30 (0, 0))
  row : w.ownsRow base 70 4 vL s.L.length (filesV s.L)
  nts : w.ownsRow base 74 2 vN s.notes.length (notesV s.notes)
  hb : base ≤ br
/-- One block alone of the elder ones is written, and memory is made. -/
structure RTurn (br : Nat) (w w' : World) : Prop where
  os : w'.os = w.os
  tape : w'.tape = w.tape
  output : w'.output = w.output
  size : w.heap.size ≤ w'.heap.size
  block : ∀ j, j < w.heap.size → j ≠ br → w'.heap[j]? = w.heap[j]?
theorem RTurn.refl (br : Nat) (w : World) : RTurn br w w := ⟨rfl, rfl, rfl, Nat.le_refl _, fun _ _ _ => rfl⟩
theorem RTurn.trans {br : Nat} {w w' w'' : World} (h : RTurn br w w') (k : RTurn br w' w'') : RTurn br w w'' :=
  ⟨k.os.trans h.os, k.tape.trans h.tape, k.output.trans h.output, Nat.le_trans h.size k.size, fun j hj hb => (k.block j (Nat.lt_of_lt_of_le hj h.size) hb).trans (h.block j hj hb)⟩
theorem RTurn.of_below {br : Nat} {w w' : World} (h : Below w.heap.size w w') : RTurn br w w' := ⟨h.os, h.tape, h.output, h.size, fun j hj _ => h.block j hj⟩
theorem RTurn.set (br i : Nat) (w : World) (x : Value) : RTurn br w (w.setCell ⟨br, i, none⟩ x) :=
  ⟨rfl, rfl, rfl, by rw [size_set]; exact Nat.le_refl _, fun _ _ hb => Below.heap_setCell _ _ _ _ hb⟩
abbrev rptr (b : Nat) : Value := .pointer (some ⟨b, 0, none⟩)
section
variable {base br : Nat} {vL vN : Value} {s : St} {w w' : World}
theorem RSt.lt (h : RSt base br vL vN s w) : br < w.heap.size := (Array.getElem?_eq_some_iff.1 h.blk).1
theorem RSt.sized (h : RSt base br vL vN s w) : base ≤ w.heap.size := by have := h.lt; have := h.hb; omega
theorem RSt.below (h : RSt base br vL vN s w) (hb : Below w.heap.size w w') : RSt base br vL vN s w' :=
  ⟨(hb.block br h.lt).trans h.blk, owns_below h.row hb, owns_below h.nts hb, h.hb⟩
theorem RSt.low (h : RSt base br vL vN s w) (ht : RTurn br w w') : Below base w w' :=
  ⟨ht.os, ht.tape, ht.output, ht.size, fun j hj => ht.block j (by have := h.sized; omega) (by have := h.hb; omega)⟩
theorem RSt.c0 (h : RSt base br vL vN s w) : w.cell? ⟨br, 0, none⟩ = some (.int .i64 s.room) := cell_in h.blk 0 rfl
theorem RSt.c1 (h : RSt base br vL vN s w) : w.cell? ⟨br, 1, none⟩ = some (.int .i64 s.now) := cell_in h.blk 1 rfl
theorem RSt.c2 (h : RSt base br vL vN s w) : w.cell? ⟨br, 2, none⟩ = some vL := cell_in h.blk 2 rfl
theorem RSt.c3 (h : RSt base br vL vN s w) : w.cell? ⟨br, 3, none⟩ = some (.bool s.noting) := cell_in h.blk 3 rfl
theorem RSt.c4 (h : RSt base br vL vN s w) : w.cell? ⟨br, 4, none⟩ = some vN := cell_in h.blk 4 rfl
theorem RSt.fr (h : RSt base br vL vN s w) (i : Nat) : w.frozen? ⟨br, i, none⟩ = false := by simp [World.frozen?, h.blk]
theorem RSt.notL (h : RSt base br vL vN s w) : vL.ownBlock ≠ some br := fun e => by
  obtain ⟨cur, hc⟩ := row_type h.row e
  have := h.blk; rw [hc] at this; simp at this
theorem RSt.notN (h : RSt base br vL vN s w) : vN.ownBlock ≠ some br := fun e => by
  obtain ⟨cur, hc⟩ := row_type h.nts e
  have := h.blk; rw [hc] at this; simp at this
/-- The list as a slice, and its cells. -/
theorem files_slice (h : w.ownsRow base 70 4 vL s.L.length (filesV s.L)) : ∃ a cap, vL = .slice a s.L.length cap ∧ s.L.length ≤ cap ∧ ∀ i (_ : i < s.L.length), ∃ g, a = some ⟨g, 0, none⟩ ∧ g < w.heap.size ∧ ∀ j, j < 4 → w.cell? ⟨g, i * 4 + j, none⟩ = (fileV s.L[i])[j]? := by
  obtain ⟨hxl, ⟨hv, hn⟩ | ⟨g, cap, cur, hv, hg, hcur, hcap, hcm, hcs, hct⟩⟩ := h
  · exact ⟨none, 0, by rw [hv, hn], by omega, fun i hi => by omega⟩
  · refine ⟨some ⟨g, 0, none⟩, cap, hv, hcap, fun i hi => ⟨g, rfl, (Array.getElem?_eq_some_iff.1 hcur).1, fun j hj => ?_⟩⟩
    have h3 : (cur.toList.take (s.L.length * 4))[i * 4 + j]? = (filesV s.L)[i * 4 + j]? := by rw [hct]
    rw [List.getElem?_take_of_lt (by omega), filesV_at s.L i j hi hj] at h3
    rw [← h3]
    simp [World.cell?, hcur]
end

/-- Where a path stands. -/
def AtIs (L : Fs) (p : ByteArray) (r : Int) : Prop := (r = -1 ∧ L.look p = none) ∨ ∃ (i : Nat) (e : Ent), r = i ∧ L[i]? = some (p, e) ∧ L.look p = some e ∧ ∀ j, j < i → ∀ x, L[j]? = some x → x.1 ≠ p
theorem look_at {L : Fs} {p : ByteArray} {e : Ent} {i : Nat} (h : L[i]? = some (p, e)) (hb : ∀ j, j < i → ∀ x, L[j]? = some x → x.1 ≠ p) : L.look p = some e := by
  induction L generalizing i with
  | nil => simp at h
  | cons x t ih =>
    rw [Fs.look_cons]
    cases i with
    | zero => simp at h; rw [h]; simp
    | succ i =>
      rw [if_neg (hb 0 (by omega) x rfl)]
      exact ih (by simpa using h) (fun j hj y hy => hb (j + 1) (by omega) y (by simpa using hy))
theorem look_nowhere {L : Fs} {p : ByteArray} (h : ∀ (j : Nat) (x : ByteArray × Ent), L[j]? = some x → x.1 ≠ p) : L.look p = none := by
  cases hl : L.look p with
  | none => rfl
  | some e =>
    obtain ⟨j, hj⟩ := List.getElem?_of_mem (Fs.look_mem hl)
    exact absurd rfl (h j _ hj)
theorem ba_ne_list {x y : ByteArray} (h : x ≠ y) : ¬ x.toList = y.toList := fun e => h (bl_inj (by unfold bl; rw [← Lib.toList_data, ← Lib.toList_data]; exact e))

set_option maxRecDepth 20000 in
set_option maxHeartbeats 400000 in
theorem rat_any {base br : Nat} {vL vN : Value} {s : St} (p : ByteArray) (w : World) (h : RSt base br vL vN s w) (hl : s.L.length ≤ 1000) :
    Calls Tryz.prog 42 #[rptr br, .string p] w fun e w' => ∃ r, e = .returned (.int .i64 r) ∧ AtIs s.L p r ∧ w = w' := by
  obtain ⟨a, cap, hv, hcap, hc⟩ := files_slice h.row
  have c2 := h.c2
  subst hv
  obtain ⟨n, hn⟩ : ∃ n, n = s.L.length := ⟨_, rfl⟩
  rw [← hn] at hl hcap c2
  have HC : Hid (n = s.L.length ∧ ∀ i (_ : i < s.L.length), ∃ g, a = some ⟨g, 0, none⟩ ∧ g < w.heap.size ∧ ∀ j, j < 4 → w.cell? ⟨g, i * 4 + j, none⟩ = (fileV s.L[i])[j]?) := ⟨hn, hc⟩
  clear hn hc h
  go_enter Tryz.func42, Tryz.ntmps42
  go_wp2
  go_loopw [5] (fun vi wr => ∃ k : Nat, k ≤ n ∧ vi = .int .i64 k ∧ w = wr ∧ Hid (∀ j, j < k → ∀ x, s.L[j]? = some x → x.1 ≠ p)) (fun vi _ => n - (intOf vi).toNat)
  case atStart => exact ⟨0, Nat.zero_le _, rfl, rfl, fun j hj => by omega⟩
  case round =>
    obtain ⟨k, hk, rfl, rfl, HB⟩ := hrel
    by_cases hlt : k < n
    · have hkl : k < s.L.length := by rw [← HC.out.1]; exact hlt
      have hil : (k : Int) < (n : Int) := by omega
      obtain ⟨g, rfl, _, hcg⟩ := HC.out.2 k hkl
      have e0 : w.cell? ⟨g, k * 4, none⟩ = some (.string s.L[k].1) := hcg 0 (by omega)
      obtain ⟨x, hx⟩ : ∃ x, x = s.L[k] := ⟨_, rfl⟩
      rw [← hx] at e0
      have HX : Hid (s.L[k]? = some x) := by rw [hx]; exact List.getElem?_eq_getElem hkl
      obtain ⟨q, e⟩ := x
      dsimp only at e0
      clear hx hcg
      by_cases hq : q = p
      · subst hq
        go_wp2
        go_ret
        exact ⟨_, rfl, .inr ⟨k, e, rfl, HX.out, look_at HX.out HB.out, HB.out⟩, rfl⟩
      · have t0 := ba_ne_list hq
        have t1 : (q.toList == p.toList) = false := by simpa using t0
        have HB1 : Hid (∀ j, j < k + 1 → ∀ x, s.L[j]? = some x → x.1 ≠ p) := fun j hj x hx => by
          by_cases hjk : j = k
          · subst hjk; rw [HX.out] at hx; cases hx; exact hq
          · exact HB.out j (by omega) x hx
        clear hq
        go_wp2
        go_roundw
        case rel => exact ⟨k + 1, by omega, by go_num, trivial, HB1⟩
        case measure => simp [intOf]; omega
    · obtain rfl : k = n := by omega
      go_wp2
      go_ret
      refine ⟨_, rfl, .inl ⟨rfl, look_nowhere fun j x hx => ?_⟩, rfl⟩
      have := (List.getElem?_eq_some_iff.1 hx).1
      exact HB.out j (by rw [HC.out.1]; exact this) x hx

theorem used_take (L : Fs) (k : Nat) (h : k < L.length) : Fs.used (L.take (k + 1)) = Fs.used (L.take k) + L[k].2.text.size := by
  unfold Fs.used; rw [List.take_succ_eq_append_getElem h, List.map_append, List.sum_append]; simp
theorem used_le (L : Fs) (k : Nat) : Fs.used (L.take k) ≤ Fs.used L := by
  have e : Fs.used L = Fs.used (L.take k) + Fs.used (L.drop k) := by
    unfold Fs.used; rw [← List.sum_append, ← List.map_append, List.take_append_drop]
  omega

set_option maxRecDepth 20000 in
set_option maxHeartbeats 400000 in
theorem rused_any {base br : Nat} {vL vN : Value} {s : St} (w : World) (h : RSt base br vL vN s w) (hl : s.L.length ≤ 1000) (hu : s.L.used ≤ 10000000) :
    Calls Tryz.prog 16 #[rptr br] w fun e w' => e = .returned (.int .i64 (s.L.used : Nat)) ∧ w = w' := by
  obtain ⟨a, cap, hv, hcap, hc⟩ := files_slice h.row
  have c2 := h.c2
  subst hv
  obtain ⟨n, hn⟩ : ∃ n, n = s.L.length := ⟨_, rfl⟩
  rw [← hn] at hl hcap c2
  have HC : Hid (n = s.L.length ∧ ∀ i (_ : i < s.L.length), ∃ g, a = some ⟨g, 0, none⟩ ∧ g < w.heap.size ∧ ∀ j, j < 4 → w.cell? ⟨g, i * 4 + j, none⟩ = (fileV s.L[i])[j]?) := ⟨hn, hc⟩
  obtain ⟨us, hus⟩ : ∃ us, us = s.L.used := ⟨_, rfl⟩
  have HU : Hid (us = s.L.used) := hus
  rw [← hus]
  rw [← hus] at hu
  clear hn hc h hus
  go_enter Tryz.func16, Tryz.ntmps16
  go_wp2
  go_loopw [3, 4] (fun vn vi wr => ∃ k m : Nat, k ≤ n ∧ vi = .int .i64 k ∧ vn = .int .i64 m ∧ w = wr ∧ m ≤ us ∧ Hid (m = Fs.used (s.L.take k))) (fun _ vi _ => n - (intOf vi).toNat)
  case atStart => exact ⟨0, 0, Nat.zero_le _, rfl, rfl, rfl, Nat.zero_le _, rfl⟩
  case round =>
    obtain ⟨k, m, hk, rfl, rfl, rfl, hm, HM⟩ := hrel
    by_cases hlt : k < n
    · have hkl : k < s.L.length := by rw [← HC.out.1]; exact hlt
      have hil : (k : Int) < (n : Int) := by omega
      obtain ⟨g, rfl, _, hcg⟩ := HC.out.2 k hkl
      have e1 : w.cell? ⟨g, k * 4 + 1, none⟩ = some (.string s.L[k].2.text) := hcg 1 (by omega)
      have HM1 := used_take s.L k hkl
      have hle := used_le s.L (k + 1)
      rw [← HU.out] at hle
      rw [← HM.out] at HM1
      obtain ⟨x, hx⟩ : ∃ x, x = s.L[k].2.text := ⟨_, rfl⟩
      rw [← hx] at e1 HM1
      have HM2 : Hid (m + x.size = Fs.used (s.L.take (k + 1))) := HM1.symm
      have hmx : m + x.size ≤ us := by rw [HM2.out]; exact hle
      clear hx hcg HM1 hle
      go_wp2
      go_roundw
      case rel => exact ⟨k + 1, m + x.size, by omega, by go_num, by go_num, trivial, hmx, HM2⟩
      case measure => simp [intOf]; omega
    · obtain rfl : k = n := by omega
      have HE : Hid (m = us) := by
        unfold Hid
        rw [HM.out, HC.out.1, List.take_length, HU.out]
      go_wp2
      go_ret
      exact ⟨by have := HE.out; subst this; rfl, rfl⟩
end Go.Proofs.YtoibdokedhbjpaaGreat
