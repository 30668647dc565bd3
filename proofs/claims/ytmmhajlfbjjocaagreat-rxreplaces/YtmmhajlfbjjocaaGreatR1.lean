/-
  The document's own reader: its box, sets of bytes, what is ahead, and faults.
-/
import Derived.Test.YtmmhajlfbjjocaaGreatPAlive
namespace Go.Proofs.YtmmhajlfbjjocaaGreat
open Go.RowKit Go.Shelf RxSem

theorem infoB : (Tryz.prog.info? 4).map (fun i => (i.zero, i.size, i.bytes)) = some (some (.bool false), 1, 1) := by kernel_rfl
def boolC (l : List Bool) : Array Value := (l.map Value.bool).toArray
theorem boolC_get (l : List Bool) (i : Nat) : (boolC l)[i]? = l[i]?.map Value.bool := by simp [boolC]
theorem boolC_set (l : List Bool) (i : Nat) (b : Bool) : (boolC l).setIfInBounds i (.bool b) = boolC (l.set i b) := by
  simp [boolC, List.map_set]
theorem made_bool (n : Nat) : madeCells (Value.bool false).cells n = boolC (List.replicate n false) := by
  simp [madeCells, Value.cells, boolC]
  apply Array.ext
  · simp
  · intro i h1 h2
    simp [Nat.mod_one]
theorem make_bool (w : World) (n : Nat) (hn : n ≤ 1000000) : (Instr.makeSlice 32 (.int .i64 (n : Int)) (.int .i64 (n : Int))).run Tryz.prog w = .ok (.slice (some ⟨w.heap.size, 0, none⟩) n n) (w.alloc (.cells (boolC (List.replicate n false)) 4)) := by
  obtain ⟨i0, hif, hz0, hz1, hz2⟩ := info_parts infoB
  have hmk := run_makeSlice (P := Tryz.prog) w 32 4 i0 (.bool false) Tryz.underlying32 hif hz0 .i64 .i64 (n : Int) (n : Int) (by omega) (by omega) (by rw [hz1]; simp; omega) (by rw [hz2]; omega) (by omega)
  rw [hmk, hz1]
  simp only [Int.toNat_natCast, Nat.mul_one]
  rw [made_bool]
/-- A row of bools. -/
def Br (g : Nat) (l : List Bool) (W : World) : Prop := W.heap[g]? = some (.cells (boolC l) 4 (0, 0))
theorem Br.cell {g : Nat} {l : List Bool} {W : World} (h : Br g l W) (i : Nat) (b : Bool) (hi : l[i]? = some b) : W.cell? ⟨g, i, none⟩ = some (.bool b) := by
  have h1 : W.heap[g]? = some (.cells (boolC l) 4 (0, 0)) := h
  simp only [World.cell?, h1]
  show (boolC l)[i]? = _
  rw [boolC_get, hi]; rfl
theorem Br.below {g : Nat} {l : List Bool} {W W' : World} (h : Br g l W) (hb : Below W.heap.size W W') : Br g l W' := (hb.block g (Array.getElem?_eq_some_iff.1 h).1).trans h
theorem Br.lt {g : Nat} {l : List Bool} {W : World} (h : Br g l W) : g < W.heap.size := (Array.getElem?_eq_some_iff.1 h).1
theorem Br.frozen {g : Nat} {l : List Bool} {W : World} (h : Br g l W) (j : Nat) : W.frozen? ⟨g, j, none⟩ = false := by
  have h1 : W.heap[g]? = some (.cells (boolC l) 4 (0, 0)) := h
  simp [World.frozen?, h1]
theorem Br.put {g : Nat} {l : List Bool} {W : World} (h : Br g l W) (i : Nat) (b : Bool) : Br g (l.set i b) (W.setCell ⟨g, i, none⟩ (.bool b)) := by
  have h1 : W.heap[g]? = some (.cells (boolC l) 4 (0, 0)) := h
  unfold Br
  rw [heap_set h1, boolC_set]
theorem rep_get (n i j : Nat) (a b : Bool) : (List.replicate i a ++ List.replicate (n - i) b)[j]? = if j < i then some a else if j < n then some b else none := by
  rw [List.getElem?_append]
  simp only [List.length_replicate, List.getElem?_replicate]
  split
  · rfl
  · split
    · rw [if_pos (by omega)]
    · rw [if_neg (by omega)]
theorem rep_set (n i : Nat) (a b : Bool) (h : i < n) : (List.replicate i a ++ List.replicate (n - i) b).set i a = List.replicate (i + 1) a ++ List.replicate (n - (i + 1)) b := by
  apply List.ext_getElem?
  intro j
  rw [List.getElem?_set, rep_get, rep_get]
  simp only [List.length_append, List.length_replicate]
  by_cases e : i = j
  · subst e
    rw [if_pos rfl, if_pos (by omega), if_pos (by omega)]
  · rw [if_neg e]
    by_cases h1 : j < i
    · rw [if_pos h1, if_pos (show j < i + 1 by omega)]
    · rw [if_neg h1, if_neg (show ¬ j < i + 1 by omega)]
set_option maxRecDepth 20000 in
set_option maxHeartbeats 400000 in
theorem rbytes_any (al : Bool) (w : World) : Calls Tryz.prog 58 #[.bool al] w fun e w' => e = .returned (.slice (some ⟨w.heap.size, 0, none⟩) 256 256) ∧ Br w.heap.size (List.replicate 256 al) w' ∧ Below w.heap.size w w' := by
  have hmk : (Instr.makeSlice 32 (.int .i64 256) (.int .i64 256)).run Tryz.prog w = .ok (.slice (some ⟨w.heap.size, 0, none⟩) 256 256) (w.alloc (.cells (boolC (List.replicate 256 false)) 4)) := make_bool w 256 (by omega)
  obtain ⟨wa, hwa, hBa, hSa, hka⟩ := one_box w (.cells (boolC (List.replicate 256 false)) 4)
  rw [← hwa] at hmk
  have H0 : Hid (Br w.heap.size (List.replicate 256 false) wa ∧ Below w.heap.size w wa) := ⟨hka, hBa⟩
  clear hwa hka hBa hSa
  go_enter Tryz.func58, Tryz.ntmps58
  go_wp2_with fail
  go_loopw [4] (fun vi wr => ∃ i : Nat, i ≤ 256 ∧ vi = .int .i64 (i : Int) ∧ Hid (Br w.heap.size (List.replicate i al ++ List.replicate (256 - i) false) wr ∧ Below w.heap.size w wr)) (fun vi _ => 256 - (intOf vi).toNat)
  case atStart => exact ⟨0, by omega, rfl, by simpa using H0⟩
  case round =>
    clear H0 hmk
    obtain ⟨i, hi, rfl, HI⟩ := hrel
    by_cases hlt : i < 256
    · have hl2 : (i : Int) < 256 := by omega
      have hbw : w.heap.size < wr.heap.size := HI.out.1.lt
      have fz := HI.out.1.frozen
      have hc := HI.out.1.cell i false (by rw [rep_get, if_neg (by omega), if_pos (by omega)])
      have H2 : Hid (Br w.heap.size (List.replicate (i + 1) al ++ List.replicate (256 - (i + 1)) false) (wr.setCell ⟨w.heap.size, i, none⟩ (.bool al)) ∧ Below w.heap.size w (wr.setCell ⟨w.heap.size, i, none⟩ (.bool al))) := by
        refine ⟨?_, HI.out.2.setCell (Nat.le_refl _) _⟩
        have h := HI.out.1.put i al
        rw [rep_set 256 i al false hlt] at h
        exact h
      go_wp2_with fail
      go_roundw
      case rel => exact ⟨i + 1, by omega, by go_num, H2⟩
      case measure => simp [intOf]; omega
    · have hl2 : ¬ (i : Int) < 256 := by omega
      have HE : Hid (i = 256) := by show i = 256; omega
      go_wp2_with fail
      go_ret
      have h := HI.out
      rw [HE.out] at h
      rw [Nat.sub_self, List.replicate_zero, List.append_nil] at h
      exact ⟨rfl, h.1, h.2⟩
/-- A set's bits. -/
def Bits (l : List Bool) (f : UInt8 → Bool) : Prop := l.length = 256 ∧ ∀ c : UInt8, l[c.toNat]? = some (f c)
theorem bits_rep (al : Bool) : Bits (List.replicate 256 al) (fun _ => al) := ⟨List.length_replicate, fun c => by rw [List.getElem?_replicate, if_pos c.toNat_lt]⟩
theorem Bits.put {l : List Bool} {f : UInt8 → Bool} (h : Bits l f) (c : UInt8) : Bits (l.set c.toNat true) (fun x => f x || x == c) := by
  refine ⟨by simpa using h.1, fun x => ?_⟩
  rw [List.getElem?_set]
  by_cases e : c.toNat = x.toNat
  · have e' : x = c := (u8_eq_iff x c).2 e.symm
    subst e'
    rw [if_pos rfl, if_pos (by rw [h.1]; exact x.toNat_lt)]
    simp
  · have e' : x ≠ c := fun e2 => e (by rw [e2])
    rw [if_neg e, h.2 x]
    simp [e']
/-- Nodes as they lie: a set's, and others without a row. -/
def nodeV (k : Int) (sv kv : Value) : Value := .agg #[.int .i64 k, sv, kv]
theorem node_store {X : World} {B : Nat} {c : Array Value} (x0 x1 x2 : Value) (h : X.heap[B]? = some (.cells c 35 (0, 0))) (hc : c.size = 3) : (((X.setCell ⟨B, 0, none⟩ x0).setCell ⟨B, 1, none⟩ x1).setCell ⟨B, 2, none⟩ x2).heap[B]? = some (.cells #[x0, x1, x2] 35 (0, 0)) := by
  rw [heap_set (heap_set (heap_set h _) _) _]
  obtain ⟨l⟩ := c
  simp only [List.size_toArray] at hc
  match l, hc with
  | [_, _, _], _ => rfl
theorem node_cells {X : World} {B : Nat} {x0 x1 x2 : Value} (h : X.heap[B]? = some (.cells #[x0, x1, x2] 35 (0, 0))) : X.cell? ⟨B, 0, none⟩ = some x0 ∧ X.cell? ⟨B, 1, none⟩ = some x1 ∧ X.cell? ⟨B, 2, none⟩ = some x2 := by
  refine ⟨?_, ?_, ?_⟩ <;> (simp only [World.cell?, h]; rfl)
theorem only3 (X : World) (B : Nat) (x0 x1 x2 : Value) : Only B X (((X.setCell ⟨B, 0, none⟩ x0).setCell ⟨B, 1, none⟩ x1).setCell ⟨B, 2, none⟩ x2) := ((Only.set _ _ _ _).trans (Only.set _ _ _ _)).trans (Only.set _ _ _ _)
set_option maxRecDepth 20000 in
set_option maxHeartbeats 400000 in
theorem rone_any (c : UInt8) (w : World) : Calls Tryz.prog 61 #[.int .u8 (c.toNat : Int)] w fun e w' => ∃ g l, e = .returned (nodeV 1 (.slice (some ⟨g, 0, none⟩) 256 256) (.slice none 0 0)) ∧ w.heap.size ≤ g ∧ Br g l w' ∧ Bits l (fun x => x == c) ∧ Below w.heap.size w w' := by
  obtain ⟨wa, hwa, hBa, hSa, hka⟩ := one_box w (.cells #[.int .i64 0, .slice none 0 0, .slice none 0 0] 35)
  have HB : Hid (Calls Tryz.prog 58 #[.bool false] wa fun e w' => e = .returned (.slice (some ⟨wa.heap.size, 0, none⟩) 256 256) ∧ Br wa.heap.size (List.replicate 256 false) w' ∧ Below wa.heap.size wa w') := rbytes_any false wa
  have hc : c.toNat < 256 := c.toNat_lt
  have hc2 : (c.toNat : Int) < 256 := by omega
  have H0 : Hid (Below w.heap.size w wa ∧ wa.heap.size = w.heap.size + 1 ∧ wa.heap[w.heap.size]? = some (.cells #[.int .i64 0, .slice none 0 0, .slice none 0 0] 35 (0, 0))) := ⟨hBa, hSa, hka⟩
  obtain ⟨g, hg⟩ : ∃ g, g = wa.heap.size := ⟨_, rfl⟩
  have HG : Hid (g = wa.heap.size) := hg
  rw [← hg] at HB
  clear hBa hSa hka hg
  go_enter Tryz.func61, Tryz.ntmps61
  go_wp2_with fail
  rw [← hwa]
  clear hwa
  refine HB.out.mono ?_
  rintro e w1 ⟨rfl, h1, h2⟩
  have fz := h1.frozen
  have hl := h1.lt
  have c0 := h1.cell c.toNat false (by rw [List.getElem?_replicate, if_pos hc])
  obtain ⟨B, hB⟩ : ∃ B, B = w.heap.size := ⟨_, rfl⟩
  have hk1 : w1.heap[B]? = some (.cells #[.int .i64 0, .slice none 0 0, .slice none 0 0] 35 (0, 0)) := by
    rw [hB, h2.block _ (by have := H0.out.2.1; have := HG.out; omega)]; exact H0.out.2.2
  have fB : ∀ j, w1.frozen? ⟨B, j, none⟩ = false := fun j => by simp [World.frozen?, hk1]
  have hBl := (Array.getElem?_eq_some_iff.1 hk1).1
  have hgB : ¬ g = B := by have := H0.out.2.1; have := HG.out; omega
  have hBg : ¬ B = g := fun e => hgB e.symm
  obtain ⟨x0, x1, x2⟩ := node_cells hk1
  have H1 : Hid (Br g (List.replicate 256 false) w1 ∧ Below g wa w1 ∧ B = w.heap.size ∧ w1.heap[B]? = some (.cells #[.int .i64 0, .slice none 0 0, .slice none 0 0] 35 (0, 0))) := ⟨h1, h2, hB, hk1⟩
  rw [← hB]
  clear h1 h2 HB hB hk1
  go_wp2_with fail
  obtain ⟨k1, k2, k3, k4⟩ := H1.out
  obtain ⟨X, hX⟩ : ∃ X, X = w1.setCell ⟨g, c.toNat, none⟩ (.bool true) := ⟨_, rfl⟩
  have hXB : X.heap[B]? = some (.cells #[.int .i64 0, .slice none 0 0, .slice none 0 0] 35 (0, 0)) := by rw [hX, Below.heap_setCell _ _ _ _ hBg]; exact k4
  have hXg : Br g ((List.replicate 256 false).set c.toNat true) X := by rw [hX]; exact k1.put _ _
  have hXo : Only g w1 X := by rw [hX]; exact Only.set _ _ _ _
  rw [← hX]
  have hN := node_store (.int .i64 1) (.slice (some ⟨g, 0, none⟩) 256 256) (.slice none 0 0) hXB rfl
  have hO := only3 X B (.int .i64 1) (.slice (some ⟨g, 0, none⟩) 256 256) (.slice none 0 0)
  generalize (((X.setCell ⟨B, 0, none⟩ (.int .i64 1)).setCell ⟨B, 1, none⟩ (.slice (some ⟨g, 0, none⟩) 256 256)).setCell ⟨B, 2, none⟩ (.slice none 0 0)) = Y at hN hO ⊢
  obtain ⟨r0, r1, r2⟩ := node_cells hN
  refine bodyPost_ret (by simp [results, Tryz.results61, go_sem, r0, r1, r2]; try rfl) rfl ?_
  refine ⟨g, _, rfl, by have := H0.out.2.1; have := HG.out; omega, (hO.block g hgB).trans hXg, ?_, ?_⟩
  · have := (bits_rep false).put c
    simpa using this
  · have h0 := H0.out
    have hg := HG.out
    have hb1 : Below w.heap.size w w1 := h0.1.trans (k2.mono (by omega))
    exact ⟨(hO.os.trans hXo.os).trans hb1.os, (hO.tape.trans hXo.tape).trans hb1.tape, (hO.output.trans hXo.output).trans hb1.output, by rw [hO.size, hXo.size]; exact hb1.size, fun j hj => by rw [hO.block j (by omega), hXo.block j (by omega)]; exact hb1.block j hj⟩
/-- The document's reader: its text, place, open brackets and fault. -/
def Par (b : Nat) (s : ByteArray) (i o : Nat) (y a : Int) (W : World) : Prop := W.heap[b]? = some (.cells #[.string s, .int .i64 (i : Int), .int .i64 (o : Int), .int .i64 y, .int .i64 a] 65 (0, 0))
theorem Par.cell {b : Nat} {s : ByteArray} {i o : Nat} {y a : Int} {W : World} (h : Par b s i o y a W) (j : Nat) : W.cell? ⟨b, j, none⟩ = (#[Value.string s, .int .i64 (i : Int), .int .i64 (o : Int), .int .i64 y, .int .i64 a])[j]? := by
  have h1 : W.heap[b]? = _ := h
  simp only [World.cell?, h1]
  rfl
theorem Par.frozen {b : Nat} {s : ByteArray} {i o : Nat} {y a : Int} {W : World} (h : Par b s i o y a W) (j : Nat) : W.frozen? ⟨b, j, none⟩ = false := by
  have h1 : W.heap[b]? = _ := h
  simp [World.frozen?, h1]
theorem Par.below {b : Nat} {s : ByteArray} {i o : Nat} {y a : Int} {W W' : World} (h : Par b s i o y a W) (hb : Below W.heap.size W W') : Par b s i o y a W' := (hb.block b (Array.getElem?_eq_some_iff.1 h).1).trans h
theorem Par.lt {b : Nat} {s : ByteArray} {i o : Nat} {y a : Int} {W : World} (h : Par b s i o y a W) : b < W.heap.size := (Array.getElem?_eq_some_iff.1 h).1
theorem Par.at {b : Nat} {s : ByteArray} {i o : Nat} {y a : Int} {W : World} (h : Par b s i o y a W) (i' : Nat) (v : Value) (hv : v = .int .i64 (i' : Int)) : Par b s i' o y a (W.setCell ⟨b, 1, none⟩ v) := by
  subst hv
  exact (heap_set h _).trans rfl
theorem Par.open {b : Nat} {s : ByteArray} {i o : Nat} {y a : Int} {W : World} (h : Par b s i o y a W) (o' : Nat) (v : Value) (hv : v = .int .i64 (o' : Int)) : Par b s i o' y a (W.setCell ⟨b, 2, none⟩ v) := by
  subst hv
  exact (heap_set h _).trans rfl
theorem Par.fault {b : Nat} {s : ByteArray} {i o : Nat} {y a : Int} {W : World} (h : Par b s i o y a W) (y' a' : Int) : Par b s i o y' a' ((W.setCell ⟨b, 3, none⟩ (.int .i64 y')).setCell ⟨b, 4, none⟩ (.int .i64 a')) := by
  have h1 : (W.setCell ⟨b, 3, none⟩ (.int .i64 y')).heap[b]? = some (.cells #[.string s, .int .i64 (i : Int), .int .i64 (o : Int), .int .i64 y', .int .i64 a] 65 (0, 0)) := (heap_set h _).trans rfl
  exact (heap_set h1 _).trans rfl
set_option maxRecDepth 20000 in
set_option maxHeartbeats 400000 in
theorem peek_some (b : Nat) (s : ByteArray) (i o : Nat) (a : Int) (w : World) (h : Par b s i o 0 a w) (hi : i < s.size) : Calls Tryz.prog 17 #[.pointer (some ⟨b, 0, none⟩)] w fun e w' => e = .returned (.tuple #[.int .u8 (s[i].toNat : Int), .bool true]) ∧ Par b s i o 0 a w' ∧ Below w.heap.size w w' := by
  have c0 : w.cell? ⟨b, 0, none⟩ = some (.string s) := h.cell 0
  have c1 : w.cell? ⟨b, 1, none⟩ = some (.int .i64 (i : Int)) := h.cell 1
  have c3 : w.cell? ⟨b, 3, none⟩ = some (.int .i64 0) := h.cell 3
  have h1 : (i : Int) < (s.size : Int) := by omega
  have h2 : ¬ (s.size : Int) ≤ (i : Int) := by omega
  have HP : Hid (Par b s i o 0 a w) := h
  clear h
  go_enter Tryz.func17, Tryz.ntmps17
  go_wp2_with fail
  go_quiet (fail)
  go_wp2_with fail
  go_quiet (fail)
  go_wp2_with fail
  refine bodyPost_ret (by simp [results, Tryz.results17, go_sem]; try rfl) rfl ?_
  exact ⟨rfl, HP.out, below_drewN (below_drewN (Below.refl _ _) _) _⟩
set_option maxRecDepth 20000 in
set_option maxHeartbeats 400000 in
theorem peek_none (b : Nat) (s : ByteArray) (i o : Nat) (y a : Int) (w : World) (h : Par b s i o y a w) (hi : s.size ≤ i ∨ y ≠ 0) : Calls Tryz.prog 17 #[.pointer (some ⟨b, 0, none⟩)] w fun e w' => e = .returned (.tuple #[.int .u8 0, .bool false]) ∧ Par b s i o y a w' ∧ Below w.heap.size w w' := by
  have c0 : w.cell? ⟨b, 0, none⟩ = some (.string s) := h.cell 0
  have c1 : w.cell? ⟨b, 1, none⟩ = some (.int .i64 (i : Int)) := h.cell 1
  have c3 : w.cell? ⟨b, 3, none⟩ = some (.int .i64 y) := h.cell 3
  have HP : Hid (Par b s i o y a w) := h
  clear h
  by_cases h1 : s.size ≤ i
  · have h2 : (s.size : Int) ≤ (i : Int) := by omega
    go_enter Tryz.func17, Tryz.ntmps17
    go_wp2_with fail
    go_quiet (fail)
    go_wp2_with fail
    refine bodyPost_ret (by simp [results, Tryz.results17, go_sem]; try rfl) rfl ?_
    exact ⟨rfl, HP.out, below_drewN (Below.refl _ _) _⟩
  · have h2 : ¬ (s.size : Int) ≤ (i : Int) := by omega
    have h3 : y ≠ 0 := by rcases hi with h | h; exact absurd h h1; exact h
    have h4 : (y == 0) = false := by simp [h3]
    have h5 : ¬ y = 0 := h3
    clear hi
    go_enter Tryz.func17, Tryz.ntmps17
    go_wp2_with fail
    go_quiet (fail)
    go_wp2_with fail
    refine bodyPost_ret (by simp [results, Tryz.results17, go_sem]; try rfl) rfl ?_
    exact ⟨rfl, HP.out, below_drewN (Below.refl _ _) _⟩
set_option maxRecDepth 20000 in
set_option maxHeartbeats 400000 in
theorem fails_any (b : Nat) (s : ByteArray) (i o : Nat) (y a e' a' : Int) (w : World) (h : Par b s i o y a w) : Calls Tryz.prog 18 #[.pointer (some ⟨b, 0, none⟩), .int .i64 e', .int .i64 a'] w fun e w' => e = .returned (.tuple #[]) ∧ Par b s i o (if y = 0 then e' else y) (if y = 0 then a' else a) w' ∧ Wrote b w w' := by
  have c3 : w.cell? ⟨b, 3, none⟩ = some (.int .i64 y) := h.cell 3
  have c4 : w.cell? ⟨b, 4, none⟩ = some (.int .i64 a) := h.cell 4
  have fz := h.frozen
  by_cases h0 : y = 0
  · rw [if_pos h0, if_pos h0]
    subst h0
    have HP : Hid (Par b s i o e' a' ((w.setCell ⟨b, 3, none⟩ (.int .i64 e')).setCell ⟨b, 4, none⟩ (.int .i64 a'))) := h.fault e' a'
    clear h
    go_enter Tryz.func18, Tryz.ntmps18
    go_wp2_with fail
    first | go_end0 | refine bodyPost_ret (results_none rfl _ _ _) rfl ?_
    exact ⟨rfl, HP.out, ((Wrote.refl b w).set _).set _⟩
  · rw [if_neg h0, if_neg h0]
    have h1 : (y == 0) = false := by simp [h0]
    have HP : Hid (Par b s i o y a w) := h
    clear h
    go_enter Tryz.func18, Tryz.ntmps18
    go_wp2_with fail
    first | go_end0 | refine bodyPost_ret (results_none rfl _ _ _) rfl ?_
    exact ⟨rfl, HP.out, Wrote.refl _ _⟩
theorem setL_plain {c : UInt8} {first : Bool} {t : List UInt8} (h : ¬ (c = 93 ∧ first = false)) (ht : ∀ d t', t = 45 :: d :: t' → d = 93) (f : UInt8 → Bool) : setL (c :: t) first f = setL t false (fun x => f x || x == c) := by
  cases t with
  | nil => rw [setL_last h, setL_nil]
  | cons a t =>
    by_cases ha : a = 45
    · subst ha
      cases t with
      | nil => rw [setL_dash h, setL_last (by simp)]
      | cons d t =>
        have hd := ht d t rfl
        subst hd
        rw [setL_range h, if_pos rfl]
    · exact setL_byte h ha t f
theorem range_step {l : List Bool} {f : UInt8 → Bool} {a : Nat} {k : Nat} (h : Bits l (fun x => f x || (decide (a ≤ x.toNat) && decide (x.toNat < k)))) (hk : a ≤ k) (hk2 : k < 256) : Bits (l.set k true) (fun x => f x || (decide (a ≤ x.toNat) && decide (x.toNat < k + 1))) := by
  refine ⟨by simpa using h.1, fun x => ?_⟩
  rw [List.getElem?_set]
  by_cases e : k = x.toNat
  · rw [if_pos e, if_pos (by rw [h.1]; exact hk2)]
    simp
    right; omega
  · rw [if_neg e, h.2 x]
    congr 2
    have : (x.toNat < k) ↔ (x.toNat < k + 1) := by omega
    simp only [this]
theorem range_zero {l : List Bool} {f : UInt8 → Bool} {a : Nat} (h : Bits l f) : Bits l (fun x => f x || (decide (a ≤ x.toNat) && decide (x.toNat < a))) := by
  refine ⟨h.1, fun x => ?_⟩
  rw [h.2 x]
  have : (decide (a ≤ x.toNat) && decide (x.toNat < a)) = false := by
    simp
  show some (f x) = some (f x || (decide (a ≤ x.toNat) && decide (x.toNat < a)))
  rw [this, Bool.or_false]
theorem range_done {l : List Bool} {f : UInt8 → Bool} {a c : UInt8} (h : Bits l (fun x => f x || (decide (a.toNat ≤ x.toNat) && decide (x.toNat < c.toNat + 1)))) : Bits l (range f a c) := by
  refine ⟨h.1, fun x => ?_⟩
  rw [h.2 x]
  congr 1
  unfold range
  have e1 : (x.toNat < c.toNat + 1) ↔ x ≤ c := by rw [UInt8.le_iff_toNat_le]; omega
  have e2 : (a.toNat ≤ x.toNat) ↔ a ≤ x := by rw [UInt8.le_iff_toNat_le]
  simp only [e1, e2]
def flipL (l : List Bool) (i : Nat) : List Bool := (l.take i).map (!·) ++ l.drop i
theorem flip_len (l : List Bool) (i : Nat) : (flipL l i).length = l.length := by simp [flipL]; omega
theorem flip_get (l : List Bool) (i : Nat) (hi : i < l.length) : (flipL l i)[i]? = l[i]? := by
  unfold flipL
  rw [List.getElem?_append_right (by simp; omega)]
  simp
  congr 1
  omega
theorem flip_step (l : List Bool) (i : Nat) (b : Bool) (hi : l[i]? = some b) : (flipL l i).set i (!b) = flipL l (i + 1) := by
  have hl := (List.getElem?_eq_some_iff.1 hi).1
  apply List.ext_getElem?
  intro j
  rw [List.getElem?_set]
  have key : ∀ i j, i ≤ l.length → (flipL l i)[j]? = if j < i then l[j]?.map (!·) else l[j]? := by
    intro i j hi
    unfold flipL
    by_cases h : j < i
    · rw [List.getElem?_append_left (by simp; omega), List.getElem?_map, List.getElem?_take_of_lt h, if_pos h]
    · rw [List.getElem?_append_right (by simp; omega), if_neg h]
      simp
      congr 1
      omega
  rw [key (i + 1) j (by omega), key i j (by omega), flip_len]
  by_cases e : i = j
  · subst e
    rw [if_pos rfl, if_pos hl, if_pos (by omega), hi]
    rfl
  · rw [if_neg e]
    by_cases h : j < i
    · rw [if_pos h, if_pos (by omega)]
    · rw [if_neg h, if_neg (by omega)]
theorem flip_bits {l : List Bool} {f : UInt8 → Bool} (h : Bits l f) : Bits (flipL l 256) (fun x => !f x) := by
  refine ⟨by rw [flip_len]; exact h.1, fun x => ?_⟩
  unfold flipL
  rw [List.take_of_length_le (by rw [h.1]; exact Nat.le_refl _), List.drop_of_length_le (by rw [h.1]; exact Nat.le_refl _), List.append_nil, List.getElem?_map, h.2 x]
  rfl
/-- Where the reader stands. -/
def pAt (b : Nat) (W : World) : Nat := match W.cell? ⟨b, 1, none⟩ with
  | some (.int _ x) => x.toNat
  | _ => 0
theorem pAt_eq {b : Nat} {s : ByteArray} {i o : Nat} {y a : Int} {W : World} (h : Par b s i o y a W) : pAt b W = i := by
  have h1 : W.cell? ⟨b, 1, none⟩ = some (.int .i64 (i : Int)) := h.cell 1
  unfold pAt
  rw [h1]
  simp
/-- What reading a set leaves behind. -/
def SetPost (b : Nat) (s : ByteArray) (o : Nat) (w : World) (r : Res) (e : Ending) (w' : World) : Prop := Wrote b w w' ∧ match r with
  | .ok [.set f] rest => ∃ g l, e = .returned (nodeV 1 (.slice (some ⟨g, 0, none⟩) 256 256) (.slice none 0 0)) ∧ w.heap.size ≤ g ∧ Br g l w' ∧ Bits l f ∧ rest.length ≤ s.size ∧ rest = (bl s).drop (s.size - rest.length) ∧ Par b s (s.size - rest.length) o 0 0 w'
  | .ok _ _ => False
  | .bad y left => e = .returned (nodeV 0 (.slice none 0 0) (.slice none 0 0)) ∧ ∃ i, i ≤ s.size ∧ Par b s i o (y : Int) ((s.size - left : Nat) : Int) w'
structure SI (b : Nat) (s : ByteArray) (o j g : Nat) (l : List Bool) (w W : World) : Prop where
  par : Par b s j o 0 0 W
  br : Br g l W
  box : W.heap[w.heap.size]? = some (.cells #[.int .i64 0, .slice none 0 0, .slice none 0 0] 35 (0, 0))
  wr : Wrote b w W
  gw : w.heap.size < g
  bw : b < w.heap.size
theorem SI.below {b : Nat} {s : ByteArray} {o j g : Nat} {l : List Bool} {w W W' : World} (h : SI b s o j g l w W) (hb : Below W.heap.size W W') : SI b s o j g l w W' :=
  ⟨h.par.below hb, h.br.below hb, (hb.block _ (Array.getElem?_eq_some_iff.1 h.box).1).trans h.box, h.wr.trans (Wrote.of_below hb), h.gw, h.bw⟩
theorem SI.drew {b : Nat} {s : ByteArray} {o j g : Nat} {l : List Bool} {w W : World} (h : SI b s o j g l w W) (n : Nat) : SI b s o j g l w (W.drewN n) := h.below (below_drewN (Below.refl _ _) _)
theorem SI.at {b : Nat} {s : ByteArray} {o j g : Nat} {l : List Bool} {w W : World} (h : SI b s o j g l w W) (j' : Nat) (v : Value) (hv : v = .int .i64 (j' : Int)) : SI b s o j' g l w (W.setCell ⟨b, 1, none⟩ v) := by
  have h1 := h.gw
  have h2 := h.bw
  exact ⟨h.par.at j' v hv, (Below.heap_setCell _ _ _ _ (show g ≠ b by omega)).trans h.br, (Below.heap_setCell _ _ _ _ (show w.heap.size ≠ b by omega)).trans h.box, h.wr.set _, h.gw, h.bw⟩
theorem SI.put {b : Nat} {s : ByteArray} {o j g : Nat} {l : List Bool} {w W : World} (h : SI b s o j g l w W) (k : Nat) (x : Bool) : SI b s o j g (l.set k x) w (W.setCell ⟨g, k, none⟩ (.bool x)) := by
  have h1 := h.gw
  have h2 := h.bw
  have o : Only g W (W.setCell ⟨g, k, none⟩ (.bool x)) := Only.set _ _ _ _
  refine ⟨(o.block b (show b ≠ g by omega)).trans h.par, h.br.put k x, (o.block _ (show w.heap.size ≠ g by omega)).trans h.box, ⟨o.os.trans h.wr.os, o.tape.trans h.wr.tape, o.output.trans h.wr.output, by rw [o.size]; exact h.wr.size, fun i hi hb => (o.block i (by omega)).trans (h.wr.block i hi hb)⟩, h.gw, h.bw⟩
theorem box_fin {b : Nat} {s : ByteArray} {j o : Nat} {y a : Int} {w W : World} {c : Array Value} (hP : Par b s j o y a W) (hbox : W.heap[w.heap.size]? = some (.cells c 35 (0, 0))) (hc : c.size = 3) (hw : Wrote b w W) (hb : b < w.heap.size) (x0 x1 x2 : Value) : ∃ Y, Y = (((W.setCell ⟨w.heap.size, 0, none⟩ x0).setCell ⟨w.heap.size, 1, none⟩ x1).setCell ⟨w.heap.size, 2, none⟩ x2) ∧ Y.heap[w.heap.size]? = some (.cells #[x0, x1, x2] 35 (0, 0)) ∧ Par b s j o y a Y ∧ Wrote b w Y ∧ ∀ q, q ≠ w.heap.size → Y.heap[q]? = W.heap[q]? := by
  have o := only3 W w.heap.size x0 x1 x2
  refine ⟨_, rfl, node_store x0 x1 x2 hbox hc, (o.block b (by omega)).trans hP, ⟨o.os.trans hw.os, o.tape.trans hw.tape, o.output.trans hw.output, by rw [o.size]; exact hw.size, fun i hi hb' => (o.block i (by omega)).trans (hw.block i hi hb')⟩, fun q hq => o.block q hq⟩
/-- What is read of a set, and then perhaps turned. -/
def turnR (nt : Bool) (r : (UInt8 → Bool) × List UInt8 ⊕ Nat × Nat) : Res := match r with
  | .inl (f, rest) => .ok [.set fun x => if nt then !f x else f x] rest
  | .inr (w, l) => .bad w l
theorem setR_turn (t : List UInt8) : setR (94 :: t) = turnR true (setL t true fun _ => false) := by
  unfold setR turnR
  simp only [if_pos]
  split <;> simp_all
theorem setR_plain {t : List UInt8} (h : t.head? ≠ some 94) : setR t = turnR false (setL t true fun _ => false) := by
  unfold setR turnR
  split
  · simp at h
  · split <;> simp_all
mutual
/-- A node: its kind, its set and its kids; of blocks that A allows. -/
def NA (W : World) (A : Nat → Prop) : Nd → Int → Value → Value → Prop
  | .none, k, sv, kv => k = 0 ∧ sv = .slice none 0 0 ∧ kv = .slice none 0 0
  | .set f, k, sv, kv => k = 1 ∧ kv = .slice none 0 0 ∧ ∃ g l, sv = .slice (some ⟨g, 0, none⟩) 256 256 ∧ A g ∧ Br g l W ∧ Bits l f
  | .bol, k, sv, kv => k = 2 ∧ sv = .slice none 0 0 ∧ kv = .slice none 0 0
  | .eol, k, sv, kv => k = 3 ∧ sv = .slice none 0 0 ∧ kv = .slice none 0 0
  | .seq l, k, sv, kv => k = 4 ∧ sv = .slice none 0 0 ∧ ((kv = .slice none 0 0 ∧ l = []) ∨ ∃ g cap cur, kv = .slice (some ⟨g, 0, none⟩) l.length cap ∧ A g ∧ W.heap[g]? = some (.cells cur 35 (0, 0)) ∧ NC W A l cur.toList)
  | .alt l, k, sv, kv => k = 5 ∧ sv = .slice none 0 0 ∧ ((kv = .slice none 0 0 ∧ l = []) ∨ ∃ g cap cur, kv = .slice (some ⟨g, 0, none⟩) l.length cap ∧ A g ∧ W.heap[g]? = some (.cells cur 35 (0, 0)) ∧ NC W A l cur.toList)
  | .star n, k, sv, kv => k = 6 ∧ sv = .slice none 0 0 ∧ ∃ g k' sv' kv', kv = .slice (some ⟨g, 0, none⟩) 1 1 ∧ A g ∧ W.heap[g]? = some (.cells #[.int .i64 k', sv', kv'] 35 (0, 0)) ∧ NA W A n k' sv' kv'
  | .plus n, k, sv, kv => k = 7 ∧ sv = .slice none 0 0 ∧ ∃ g k' sv' kv', kv = .slice (some ⟨g, 0, none⟩) 1 1 ∧ A g ∧ W.heap[g]? = some (.cells #[.int .i64 k', sv', kv'] 35 (0, 0)) ∧ NA W A n k' sv' kv'
  | .opt n, k, sv, kv => k = 8 ∧ sv = .slice none 0 0 ∧ ∃ g k' sv' kv', kv = .slice (some ⟨g, 0, none⟩) 1 1 ∧ A g ∧ W.heap[g]? = some (.cells #[.int .i64 k', sv', kv'] 35 (0, 0)) ∧ NA W A n k' sv' kv'
/-- Kids, one behind the other. -/
def NC (W : World) (A : Nat → Prop) : List Nd → List Value → Prop
  | [], _ => True
  | n :: l, cs => ∃ k sv kv rest, cs = .int .i64 k :: sv :: kv :: rest ∧ NA W A n k sv kv ∧ NC W A l rest
end
/-- What lies there lies there still. -/
def Keeps (A A' : Nat → Prop) (W W' : World) : Prop := ∀ j, A j → j < W.heap.size → A' j ∧ W'.heap[j]? = W.heap[j]?
theorem br_keep {A A' : Nat → Prop} {W W' : World} (hk : Keeps A A' W W') {g : Nat} {o : Obj} (ha : A g) (h : W.heap[g]? = some o) : A' g ∧ W'.heap[g]? = some o := by
  have := hk g ha (Array.getElem?_eq_some_iff.1 h).1
  exact ⟨this.1, this.2.trans h⟩
mutual
theorem NA_keep {A A' : Nat → Prop} {W W' : World} (hk : Keeps A A' W W') : (n : Nd) → (k : Int) → (sv kv : Value) → NA W A n k sv kv → NA W' A' n k sv kv
  | .none, k, sv, kv, h => by rw [NA] at h ⊢; exact h
  | .set f, k, sv, kv, h => by
    rw [NA] at h ⊢
    obtain ⟨h1, h2, g, l, h3, h4, h5, h6⟩ := h
    have := br_keep hk h4 h5
    exact ⟨h1, h2, g, l, h3, this.1, this.2, h6⟩
  | .bol, k, sv, kv, h => by rw [NA] at h ⊢; exact h
  | .eol, k, sv, kv, h => by rw [NA] at h ⊢; exact h
  | .seq l, k, sv, kv, h => by
    rw [NA] at h ⊢
    obtain ⟨h1, h2, h3 | ⟨g, cap, cur, h3, h4, h5, h6⟩⟩ := h
    · exact ⟨h1, h2, .inl h3⟩
    · have := br_keep hk h4 h5
      exact ⟨h1, h2, .inr ⟨g, cap, cur, h3, this.1, this.2, NC_keep hk l _ h6⟩⟩
  | .alt l, k, sv, kv, h => by
    rw [NA] at h ⊢
    obtain ⟨h1, h2, h3 | ⟨g, cap, cur, h3, h4, h5, h6⟩⟩ := h
    · exact ⟨h1, h2, .inl h3⟩
    · have := br_keep hk h4 h5
      exact ⟨h1, h2, .inr ⟨g, cap, cur, h3, this.1, this.2, NC_keep hk l _ h6⟩⟩
  | .star n, k, sv, kv, h => by
    rw [NA] at h ⊢
    obtain ⟨h1, h2, g, k', sv', kv', h3, h4, h5, h6⟩ := h
    have := br_keep hk h4 h5
    exact ⟨h1, h2, g, k', sv', kv', h3, this.1, this.2, NA_keep hk n _ _ _ h6⟩
  | .plus n, k, sv, kv, h => by
    rw [NA] at h ⊢
    obtain ⟨h1, h2, g, k', sv', kv', h3, h4, h5, h6⟩ := h
    have := br_keep hk h4 h5
    exact ⟨h1, h2, g, k', sv', kv', h3, this.1, this.2, NA_keep hk n _ _ _ h6⟩
  | .opt n, k, sv, kv, h => by
    rw [NA] at h ⊢
    obtain ⟨h1, h2, g, k', sv', kv', h3, h4, h5, h6⟩ := h
    have := br_keep hk h4 h5
    exact ⟨h1, h2, g, k', sv', kv', h3, this.1, this.2, NA_keep hk n _ _ _ h6⟩
theorem NC_keep {A A' : Nat → Prop} {W W' : World} (hk : Keeps A A' W W') : (l : List Nd) → (cs : List Value) → NC W A l cs → NC W' A' l cs
  | [], _, h => by rw [NC] at h ⊢; exact h
  | n :: l, cs, h => by
    rw [NC] at h ⊢
    obtain ⟨k, sv, kv, rest, h1, h2, h3⟩ := h
    exact ⟨k, sv, kv, rest, h1, NA_keep hk n _ _ _ h2, NC_keep hk l rest h3⟩
end
def IsSl (v : Value) : Prop := ∃ a n c, v = .slice a n c
theorem sl_nil : IsSl (.slice none 0 0) := ⟨_, _, _, rfl⟩
/-- What a call of the reader leaves behind. -/
def PPost (mk : List Nd → Nd) (b : Nat) (s : ByteArray) (o : Nat) (w : World) (r : Res) (e : Ending) (w' : World) : Prop := Wrote b w w' ∧ ∃ k sv kv, e = .returned (nodeV k sv kv) ∧ IsSl sv ∧ IsSl kv ∧ match r with
  | .ok l rest => rest.length ≤ s.size ∧ rest = (bl s).drop (s.size - rest.length) ∧ Par b s (s.size - rest.length) o 0 0 w' ∧ NA w' (fun j => w.heap.size ≤ j) (mk l) k sv kv
  | .bad y left => y ≠ 0 ∧ ∃ i o' : Nat, i ≤ s.size ∧ o' ≤ 17 ∧ Par b s i o' (y : Int) ((s.size - left : Nat) : Int) w'
def hd : List Nd → Nd := fun l => l.headD .none
def RThing (m : Nat) : Prop := ∀ (b : Nat) (s : ByteArray) (i o : Nat) (w : World) (r : Res), Par b s i o 0 0 w → s.size ≤ 1000 → i < s.size → s.size - i ≤ m → o ≤ 16 → P .thing o ((bl s).drop i) r → Calls Tryz.prog 43 #[.pointer (some ⟨b, 0, none⟩)] w (PPost hd b s o w r)
def RWay (m : Nat) : Prop := ∀ (b : Nat) (s : ByteArray) (i o : Nat) (w : World) (r : Res), Par b s i o 0 0 w → s.size ≤ 1000 → i ≤ s.size → s.size - i ≤ m → o ≤ 16 → P .way o ((bl s).drop i) r → Calls Tryz.prog 31 #[.pointer (some ⟨b, 0, none⟩)] w (PPost .seq b s o w r)
def RWays (m : Nat) : Prop := ∀ (b : Nat) (s : ByteArray) (i o : Nat) (w : World) (r : Res), Par b s i o 0 0 w → s.size ≤ 1000 → i ≤ s.size → s.size - i ≤ m → o ≤ 16 → P .ways o ((bl s).drop i) r → Calls Tryz.prog 16 #[.pointer (some ⟨b, 0, none⟩)] w (PPost .alt b s o w r)
end Go.Proofs.YtmmhajlfbjjocaaGreat
