/-
  PBase PSet PRd
-/
import Derived.Test.YtedepknbaakkhabGreatDoorProg
import Derived.Test.YtedepknbaakkhabGreatDoorK16
import Derived.WalkKit
import Derived.WalkSpells
import Derived.WalkLawsBesides
import Derived.Deep.QuietTactic
import Derived.BigQuiet
import Derived.Deep.OwnRows
import Derived.Lib.OthersKept
import Derived.Below
import Derived.Shelf.Abstract
import Derived.Laws.BitsAllLaws
import Derived.Laws.Shifts
import Derived.Deep.RegionHeld3
import Derived.Test.YtedepknbaakkhabGreatDoorK01
namespace Go.Proofs.YtedepknbaakkhabGreatDoor.X
open Go.RowKit Go.Shelf
def Hid (p : Prop) : Prop := p
theorem Hid.out {p : Prop} (h : Hid p) : p := h
def bl (x : ByteArray) : List UInt8 := x.data.toList
theorem bl_length (x : ByteArray) : (bl x).length = x.size := by simp [bl]
theorem ret_bool {a b : Bool} (h : a = b) : Ending.returned (.bool a) = .returned (.bool b) := by rw [h]
theorem u8_eq_iff (a b : UInt8) : a = b ↔ a.toNat = b.toNat := ⟨fun h => by rw [h], UInt8.toNat_inj.mp⟩
theorem u8_back (c : UInt8) : (Int.toNat (c.toNat : Int)).toUInt8 = c := by simp
theorem drop_ba (m : ByteArray) (k : Nat) (h : k < m.size) : (bl m).drop k = m[k] :: (bl m).drop (k + 1) :=
  List.drop_eq_getElem_cons (by simpa [bl] using h)
theorem take_all (s : ByteArray) : (bl s).take s.size = bl s := List.take_of_length_le (by simp [bl])
theorem drop_all (s : ByteArray) : (bl s).drop s.size = [] := List.drop_of_length_le (by simp [bl])
theorem bl_extract (s : ByteArray) (a b : Nat) : bl (s.extract a b) = ((bl s).take b).drop a := by
  simp [bl, List.extract_eq_take_drop, List.drop_take]
theorem bl_get (s : ByteArray) (k : Nat) (h : k < s.size) : (bl s)[k]? = some s[k] := by
  unfold bl; rw [List.getElem?_eq_getElem (by simpa using h)]; rfl
theorem heap_set {w : World} {b i : Nat} {cs : Array Value} {T : TypeId} (h : w.heap[b]? = some (.cells cs T (0, 0))) (x : Value) : (w.setCell ⟨b, i, none⟩ x).heap[b]? = some (.cells (cs.setIfInBounds i x) T (0, 0)) := by
  simp [World.setCell, Array.getElem?_modify, h]
theorem size_set (w : World) (a : Addr) (x : Value) : (w.setCell a x).heap.size = w.heap.size := by simp [World.setCell]
theorem row_set {w : World} {base b : Nat} {v : Value} {e : TypeId} {k n : Nat} {xs : List Value} {i : Nat} (h : w.ownsRow base e k v n xs) (hb : v.ownBlock ≠ some b) (x : Value) : (w.setCell ⟨b, i, none⟩ x).ownsRow base e k v n xs := by
  refine ⟨h.1, ?_⟩
  rcases h.2 with h0 | ⟨g, cap, cur, hv, hg, hgg, rest⟩
  · exact .inl h0
  · refine .inr ⟨g, cap, cur, hv, hg, ?_, rest⟩
    rw [Below.heap_setCell _ _ _ _ (fun e => hb (by rw [hv, e]; rfl))]
    exact hgg
theorem owns_below {base n : Nat} {e : TypeId} {size : Nat} {W W1 : World} {v : Value} {xs : List Value} (h : W.ownsRow base e size v n xs) (hb : Below W.heap.size W W1) : W1.ownsRow base e size v n xs :=
  h.kept (row := none) ⟨hb.os, hb.tape, hb.output, hb.size, fun k hk _ => hb.block k hk⟩ (by by_cases h : v.ownBlock = none; exact Or.inl h; exact Or.inr h)
structure Only (b : Nat) (w w' : World) : Prop where
  os : w'.os = w.os
  tape : w'.tape = w.tape
  output : w'.output = w.output
  size : w'.heap.size = w.heap.size
  block : ∀ j, j ≠ b → w'.heap[j]? = w.heap[j]?
theorem Only.refl (b : Nat) (w : World) : Only b w w := ⟨rfl, rfl, rfl, rfl, fun _ _ => rfl⟩
theorem Only.set (b i : Nat) (w : World) (x : Value) : Only b w (w.setCell ⟨b, i, none⟩ x) :=
  ⟨rfl, rfl, rfl, size_set _ _ _, fun _ hj => Below.heap_setCell _ _ _ _ hj⟩
theorem Only.trans {b : Nat} {w w1 w2 : World} (h : Only b w w1) (h2 : Only b w1 w2) : Only b w w2 :=
  ⟨h2.os.trans h.os, h2.tape.trans h.tape, h2.output.trans h.output, h2.size.trans h.size, fun j hj => (h2.block j hj).trans (h.block j hj)⟩
theorem Only.below {b B : Nat} {w0 w w' : World} (h : Only b w w') (hb : B ≤ b) (h0 : Below B w0 w) : Below B w0 w' :=
  ⟨h.os.trans h0.os, h.tape.trans h0.tape, h.output.trans h0.output, by rw [h.size]; exact h0.size, fun j hj => (h.block j (by omega)).trans (h0.block j hj)⟩
theorem Only.row {w w' : World} {base b : Nat} {v : Value} {e : TypeId} {k n : Nat} {xs : List Value} (ho : Only b w w') (h : w.ownsRow base e k v n xs) (hb : v.ownBlock ≠ some b) : w'.ownsRow base e k v n xs := by
  refine ⟨h.1, ?_⟩
  rcases h.2 with h0 | ⟨g, cap, cur, hv, hg, hgg, rest⟩
  · exact .inl h0
  · refine .inr ⟨g, cap, cur, hv, hg, ?_, rest⟩
    rw [ho.block g (fun e => hb (by rw [hv, e]; rfl))]
    exact hgg
theorem row_type {w : World} {base g : Nat} {v : Value} {e : TypeId} {k n : Nat} {xs : List Value} (h : w.ownsRow base e k v n xs) (hv : v.ownBlock = some g) : ∃ cur, w.heap[g]? = some (.cells cur e (0, 0)) := by
  rcases h.2 with ⟨rfl, _⟩ | ⟨g', cap, cur, rfl, _, hg, _⟩
  · simp [Value.ownBlock] at hv
  · simp [Value.ownBlock] at hv
    subst hv
    exact ⟨cur, hg⟩
end Go.Proofs.YtedepknbaakkhabGreatDoor.X
namespace Go.Proofs.YtedepknbaakkhabGreatDoor.X
open Go.RowKit Go.Shelf
structure W4 where
  a : Nat
  b : Nat
  c : Nat
  d : Nat
def W4.get (x : W4) : Nat → Nat
  | 0 => x.a
  | 1 => x.b
  | 2 => x.c
  | _ => x.d
def W4.Ok (x : W4) : Prop := x.a < 18446744073709551616 ∧ x.b < 18446744073709551616 ∧ x.c < 18446744073709551616 ∧ x.d < 18446744073709551616
def W4.has (x : W4) (c : UInt8) : Bool := (x.get (c.toNat / 64)).testBit (c.toNat % 64)
def setV (x : W4) : Value := .agg #[.int .u64 (x.a : Int), .int .u64 (x.b : Int), .int .u64 (x.c : Int), .int .u64 (x.d : Int)]
theorem and_bit (x i : Nat) : ((x &&& 2 ^ i : Nat) : Int) = 0 ↔ x.testBit i = false := by
  rw [show ((x &&& 2 ^ i : Nat) : Int) = 0 ↔ (x &&& 2 ^ i) = 0 by omega]
  rw [Nat.testBit_eq_decide_div_mod_eq, nat_bit]
  have := Nat.two_pow_pos i
  rcases Nat.mod_two_eq_zero_or_one (x / 2 ^ i) with h | h <;> simp [h] <;> omega
theorem wrap_pow (r : Nat) (hr : r < 64) : IntKind.u64.wrap (2 ^ r) = ((2 ^ r : Nat) : Int) := by
  rw [IntKind.wrap_u64]
  have h : (2 : Nat) ^ r < 2 ^ 64 := Nat.pow_lt_pow_right (by omega) hr
  have e : ((2 : Int) ^ r) = ((2 ^ r : Nat) : Int) := by simp
  rw [e, show (18446744073709551616 : Int) = ((2 ^ 64 : Nat) : Int) by rfl, ← Int.natCast_emod, Nat.mod_eq_of_lt h]
theorem bit_test (y r : Nat) (hy : y < 18446744073709551616) (hr : r < 64) : (bits .and .u64 (y : Int) (IntKind.u64.wrap (2 ^ r)) != 0) = y.testBit r := by
  have h : (2 : Nat) ^ r < 2 ^ 64 := Nat.pow_lt_pow_right (by omega) hr
  rw [wrap_pow r hr, u64_and_nat _ _ hy h]
  have := and_bit y r
  cases hb : y.testBit r with
  | false => rw [this.2 hb]; rfl
  | true =>
    rw [bne_iff_ne]
    intro e
    rw [this.1 e] at hb; cases hb
set_option maxHeartbeats 400000 in
theorem has_any (x : W4) (hx : x.Ok) (c : UInt8) (w : World) : Calls Tryz.prog 181 #[setV x, .int .u8 (c.toNat : Int)] w fun e w' => e = .returned (.bool (x.has c)) ∧ Below w.heap.size w w' := by
  have hc := c.toNat_lt
  have HE : Hid (∀ y, y = x.get (c.toNat / 64) → (bits .and .u64 (y : Int) (IntKind.u64.wrap (2 ^ (c.toNat % 64))) != 0) = x.has c) := by
    intro y hy
    refine (bit_test y _ ?_ (by omega)).trans (by rw [hy]; rfl)
    obtain ⟨h1, h2, h3, h4⟩ := hx
    rw [hy]
    unfold W4.get
    split <;> assumption
  obtain ⟨n, hn⟩ : ∃ n, n = c.toNat := ⟨_, rfl⟩
  unfold setV
  rw [← hn] at hc HE ⊢
  have HN : Hid (n = c.toNat) := hn
  clear hn
  have hc' : n < 256 := hc
  clear hc
  obtain ⟨a, b, d, f⟩ := x
  have hq : n / 64 = 0 ∨ n / 64 = 1 ∨ n / 64 = 2 ∨ n / 64 = 3 := by omega
  rcases hq with hq | hq | hq | hq
  all_goals
    have HE2 := fun y h => HE.out y (by rw [hq]; exact h)
    have HE3 : Hid (_) := HE2 _ rfl
    clear HE2 HE hx
    go_enter Tryz.func181, Tryz.ntmps181
    go_wp2
    go_ret
    exact ⟨ret_bool HE3.out, (Below.refl _ _).alloc (Nat.le_refl _) _⟩
def W4.add (x : W4) (n : Nat) : W4 := match n / 64 with
  | 0 => { x with a := x.a ||| 2 ^ (n % 64) }
  | 1 => { x with b := x.b ||| 2 ^ (n % 64) }
  | 2 => { x with c := x.c ||| 2 ^ (n % 64) }
  | _ => { x with d := x.d ||| 2 ^ (n % 64) }
def W4.addN (x : W4) (lo : Nat) : Nat → W4
  | 0 => x
  | k + 1 => (x.addN lo k).add (lo + k)
theorem or_lt (y r : Nat) (hy : y < 18446744073709551616) (hr : r < 64) : y ||| 2 ^ r < 18446744073709551616 := by
  have h : (2 : Nat) ^ r < 2 ^ 64 := Nat.pow_lt_pow_right (by omega) hr
  exact Nat.or_lt_two_pow (n := 64) hy h
theorem W4.add_ok {x : W4} (h : x.Ok) (n : Nat) : (x.add n).Ok := by
  obtain ⟨h1, h2, h3, h4⟩ := h
  have hr : n % 64 < 64 := Nat.mod_lt _ (by omega)
  unfold W4.add
  split
  · exact ⟨or_lt _ _ h1 hr, h2, h3, h4⟩
  · exact ⟨h1, or_lt _ _ h2 hr, h3, h4⟩
  · exact ⟨h1, h2, or_lt _ _ h3 hr, h4⟩
  · exact ⟨h1, h2, h3, or_lt _ _ h4 hr⟩
theorem W4.add_has (x : W4) (n : Nat) (hn : n < 256) (c : UInt8) : (x.add n).has c = (x.has c || decide (c.toNat = n)) := by
  have hc : c.toNat < 256 := c.toNat_lt
  have key : ∀ y, (y ||| 2 ^ (n % 64)).testBit (c.toNat % 64) = (y.testBit (c.toNat % 64) || decide (n % 64 = c.toNat % 64)) := fun y => by
    rw [Nat.testBit_or, Nat.testBit_two_pow]
  have h4 : n / 64 = 0 ∨ n / 64 = 1 ∨ n / 64 = 2 ∨ n / 64 = 3 := by omega
  have h5 : c.toNat / 64 = 0 ∨ c.toNat / 64 = 1 ∨ c.toNat / 64 = 2 ∨ c.toNat / 64 = 3 := by omega
  unfold W4.has W4.add
  rcases h4 with h4 | h4 | h4 | h4 <;> rcases h5 with h5 | h5 | h5 | h5 <;> rw [h4, h5] <;> simp only [W4.get, key]
  all_goals
    first
    | (congr 1; rw [decide_eq_decide]; omega)
    | (have : ¬ c.toNat = n := by omega
       simp [this])
theorem W4.addN_ok {x : W4} (h : x.Ok) (lo k : Nat) : (x.addN lo k).Ok := by
  induction k with
  | zero => exact h
  | succ k ih => exact W4.add_ok ih _
theorem W4.addN_has (x : W4) (lo k : Nat) (hk : lo + k ≤ 256) (c : UInt8) : (x.addN lo k).has c = (x.has c || decide (lo ≤ c.toNat ∧ c.toNat < lo + k)) := by
  induction k with
  | zero => unfold W4.addN; simp; omega
  | succ k ih =>
    unfold W4.addN
    rw [W4.add_has _ _ (by omega), ih (by omega), Bool.or_assoc]
    congr 1
    rw [← Bool.decide_or, decide_eq_decide]
    omega
theorem or_word (y r : Nat) (hy : y < 18446744073709551616) (hr : r < 64) : bits .or .u64 (y : Int) (IntKind.u64.wrap (2 ^ r)) = ((y ||| 2 ^ r : Nat) : Int) := by
  have h : (2 : Nat) ^ r < 2 ^ 64 := Nat.pow_lt_pow_right (by omega) hr
  rw [wrap_pow r hr, u64_or_nat _ _ hy h]
def cellsW (x : W4) : Array Value := #[.int .u64 (x.a : Int), .int .u64 (x.b : Int), .int .u64 (x.c : Int), .int .u64 (x.d : Int)]
theorem setV_eq (x : W4) : setV x = .agg (cellsW x) := rfl
set_option maxHeartbeats 400000 in
theorem with_any (x : W4) (hx : x.Ok) (lo hi : UInt8) (w : World) : Calls Tryz.prog 171 #[setV x, .int .u8 (lo.toNat : Int), .int .u8 (hi.toNat : Int)] w fun e w' => e = .returned (setV (x.addN lo.toNat (hi.toNat + 1 - lo.toNat))) ∧ Below w.heap.size w w' := by
  obtain ⟨n, hn, hc⟩ : ∃ n, n = lo.toNat ∧ n < 256 := ⟨_, rfl, lo.toNat_lt⟩
  obtain ⟨m, hm, hd⟩ : ∃ m, m = hi.toNat ∧ m < 256 := ⟨_, rfl, hi.toNat_lt⟩
  rw [← hn, ← hm]
  clear hn hm
  rw [setV_eq]
  go_enter Tryz.func171, Tryz.ntmps171
  go_wp2
  go_loopw [7] (fun vc wr => ∃ k : Nat, (n + k ≤ m + 1 ∨ k = 0) ∧ vc = .int .i64 ((n + k : Nat) : Int) ∧ Below w.heap.size w wr ∧ w.heap.size + 2 ≤ wr.heap.size ∧ wr.heap[w.heap.size]? = some (.cells (cellsW (x.addN n k)) 143 (0, 0)) ∧ wr.heap[w.heap.size + 1]? = some (.cells #[.int .u64 0, .int .u64 0, .int .u64 0, .int .u64 0] 143 (0, 0))) (fun vc _ => m + 1 - (intOf vc).toNat)
  case atStart =>
    refine ⟨0, .inr rfl, by go_num, ((Below.refl _ _).alloc (Nat.le_refl _) _).alloc (by simp) _, by simp, ?_, ?_⟩
    · rw [Below.heap_alloc _ _ _ (by simp)]; exact heap_alloc_new _ _
    · have := heap_alloc_new (w.alloc (.cells (cellsW x) 143)) (.cells #[.int .u64 0, .int .u64 0, .int .u64 0, .int .u64 0] 143)
      simpa using this
  case round =>
    obtain ⟨k, hk, rfl, hB, hs, h0, h1⟩ := hrel
    obtain ⟨B, hBe⟩ : ∃ B, B = w.heap.size := ⟨_, rfl⟩
    obtain ⟨y, hy⟩ : ∃ y, y = x.addN n k := ⟨_, rfl⟩
    have HY : Hid (y.Ok ∧ y = x.addN n k) := ⟨by rw [hy]; exact W4.addN_ok hx _ _, hy⟩
    rw [← hy] at h0
    by_cases hlt : n + k ≤ m
    · have hil : ((n + k : Nat) : Int) ≤ (m : Int) := by omega
      have hq : (n + k) / 64 = 0 ∨ (n + k) / 64 = 1 ∨ (n + k) / 64 = 2 ∨ (n + k) / 64 = 3 := by omega
      have h256 : n + k < 256 := by omega
      obtain ⟨j, hj⟩ : ∃ j, j = n + k := ⟨_, rfl⟩
      have HJ : Hid (j = n + k) := hj
      have HH : Hid (Below w.heap.size w wr ∧ w.heap.size + 2 ≤ wr.heap.size ∧ wr.heap[w.heap.size]? = some (.cells (cellsW y) 143 (0, 0)) ∧ wr.heap[w.heap.size + 1]? = some (.cells #[.int .u64 0, .int .u64 0, .int .u64 0, .int .u64 0] 143 (0, 0))) := ⟨hB, hs, h0, h1⟩
      obtain ⟨r, hr, hrj⟩ : ∃ r, r < 64 ∧ r = j % 64 := ⟨_, Nat.mod_lt _ (by omega), rfl⟩
      have q3 : (j : Int).tmod 64 = (r : Int) := by rw [Int.tmod_eq_emod_of_nonneg (by omega)]; omega
      have q4 : (j : Int) % 64 = (r : Int) := by omega
      have q5 : ¬ (r : Int) < 0 := by omega
      have HR : Hid (r = j % 64) := hrj
      clear hrj
      rw [← hj] at hil hq h256 ⊢
      clear hy hj hBe hk hlt h1 hB hs hx hc
      rcases hq with hq | hq | hq | hq
      · have c0 : wr.cell? ⟨w.heap.size, 0, none⟩ = some (.int .u64 (y.a : Int)) := by simp only [World.cell?, h0]; rfl
        have f0 : wr.frozen? ⟨w.heap.size, 0, none⟩ = false := by simp [World.frozen?, h0]
        have q1 : (j : Int) / 64 = 0 := by omega
        have q2 : (j : Int).tdiv 64 = 0 := by rw [Int.tdiv_eq_ediv_of_nonneg (by omega)]; omega
        have q6 : IntKind.i64.wrap 0 = 0 := by decide
        clear h0
        go_wp2
        go_region_with (fail)
        all_goals
          go_wp2
          go_roundw
          case rel =>
            refine ⟨k + 1, .inl (by have := HJ.out; omega), by have := HJ.out; go_num, ((Only.set _ _ _ _).below (Nat.le_refl _) HH.out.1).drew, by show _ ≤ (wr.setCell _ _).heap.size; rw [size_set]; exact HH.out.2.1, ?_, ?_⟩
            · refine (heap_set HH.out.2.2.1 _).trans ?_
              rw [or_word _ _ (HY.out.1.1) hr, HR.out]
              show _ = some (Obj.cells (cellsW ((x.addN n k).add (n + k))) 143 (0, 0))
              rw [← HY.out.2, ← HJ.out]
              unfold W4.add
              rw [hq]
              rfl
            · exact (Below.heap_setCell _ _ _ _ (by simp)).trans HH.out.2.2.2
          case measure => simp [intOf]; omega
      · have c0 : wr.cell? ⟨w.heap.size, 1, none⟩ = some (.int .u64 (y.b : Int)) := by simp only [World.cell?, h0]; rfl
        have f0 : wr.frozen? ⟨w.heap.size, 1, none⟩ = false := by simp [World.frozen?, h0]
        have q1 : (j : Int) / 64 = 1 := by omega
        have q2 : (j : Int).tdiv 64 = 1 := by rw [Int.tdiv_eq_ediv_of_nonneg (by omega)]; omega
        have q6 : IntKind.i64.wrap 1 = 1 := by decide
        clear h0
        go_wp2
        go_region_with (fail)
        all_goals
          go_wp2
          go_roundw
          case rel =>
            refine ⟨k + 1, .inl (by have := HJ.out; omega), by have := HJ.out; go_num, ((Only.set _ _ _ _).below (Nat.le_refl _) HH.out.1).drew, by show _ ≤ (wr.setCell _ _).heap.size; rw [size_set]; exact HH.out.2.1, ?_, ?_⟩
            · refine (heap_set HH.out.2.2.1 _).trans ?_
              rw [or_word _ _ (HY.out.1.2.1) hr, HR.out]
              show _ = some (Obj.cells (cellsW ((x.addN n k).add (n + k))) 143 (0, 0))
              rw [← HY.out.2, ← HJ.out]
              unfold W4.add
              rw [hq]
              rfl
            · exact (Below.heap_setCell _ _ _ _ (by simp)).trans HH.out.2.2.2
          case measure => simp [intOf]; omega
      · have c0 : wr.cell? ⟨w.heap.size, 2, none⟩ = some (.int .u64 (y.c : Int)) := by simp only [World.cell?, h0]; rfl
        have f0 : wr.frozen? ⟨w.heap.size, 2, none⟩ = false := by simp [World.frozen?, h0]
        have q1 : (j : Int) / 64 = 2 := by omega
        have q2 : (j : Int).tdiv 64 = 2 := by rw [Int.tdiv_eq_ediv_of_nonneg (by omega)]; omega
        have q6 : IntKind.i64.wrap 2 = 2 := by decide
        clear h0
        go_wp2
        go_region_with (fail)
        all_goals
          go_wp2
          go_roundw
          case rel =>
            refine ⟨k + 1, .inl (by have := HJ.out; omega), by have := HJ.out; go_num, ((Only.set _ _ _ _).below (Nat.le_refl _) HH.out.1).drew, by show _ ≤ (wr.setCell _ _).heap.size; rw [size_set]; exact HH.out.2.1, ?_, ?_⟩
            · refine (heap_set HH.out.2.2.1 _).trans ?_
              rw [or_word _ _ (HY.out.1.2.2.1) hr, HR.out]
              show _ = some (Obj.cells (cellsW ((x.addN n k).add (n + k))) 143 (0, 0))
              rw [← HY.out.2, ← HJ.out]
              unfold W4.add
              rw [hq]
              rfl
            · exact (Below.heap_setCell _ _ _ _ (by simp)).trans HH.out.2.2.2
          case measure => simp [intOf]; omega
      · have c0 : wr.cell? ⟨w.heap.size, 3, none⟩ = some (.int .u64 (y.d : Int)) := by simp only [World.cell?, h0]; rfl
        have f0 : wr.frozen? ⟨w.heap.size, 3, none⟩ = false := by simp [World.frozen?, h0]
        have q1 : (j : Int) / 64 = 3 := by omega
        have q2 : (j : Int).tdiv 64 = 3 := by rw [Int.tdiv_eq_ediv_of_nonneg (by omega)]; omega
        have q6 : IntKind.i64.wrap 3 = 3 := by decide
        clear h0
        go_wp2
        go_region_with (fail)
        all_goals
          go_wp2
          go_roundw
          case rel =>
            refine ⟨k + 1, .inl (by have := HJ.out; omega), by have := HJ.out; go_num, ((Only.set _ _ _ _).below (Nat.le_refl _) HH.out.1).drew, by show _ ≤ (wr.setCell _ _).heap.size; rw [size_set]; exact HH.out.2.1, ?_, ?_⟩
            · refine (heap_set HH.out.2.2.1 _).trans ?_
              rw [or_word _ _ (HY.out.1.2.2.2) hr, HR.out]
              show _ = some (Obj.cells (cellsW ((x.addN n k).add (n + k))) 143 (0, 0))
              rw [← HY.out.2, ← HJ.out]
              unfold W4.add
              rw [hq]
              rfl
            · exact (Below.heap_setCell _ _ _ _ (by simp)).trans HH.out.2.2.2
          case measure => simp [intOf]; omega
    · have hil : ¬ ((n + k : Nat) : Int) ≤ (m : Int) := by omega
      have hkk : k = m + 1 - n := by omega
      have c0 : wr.cell? ⟨w.heap.size, 0, none⟩ = some (.int .u64 (y.a : Int)) := by simp only [World.cell?, h0]; rfl
      have c1 : wr.cell? ⟨w.heap.size, 1, none⟩ = some (.int .u64 (y.b : Int)) := by simp only [World.cell?, h0]; rfl
      have c2 : wr.cell? ⟨w.heap.size, 2, none⟩ = some (.int .u64 (y.c : Int)) := by simp only [World.cell?, h0]; rfl
      have c3 : wr.cell? ⟨w.heap.size, 3, none⟩ = some (.int .u64 (y.d : Int)) := by simp only [World.cell?, h0]; rfl
      have d0 : ∀ i, i < 4 → wr.cell? ⟨w.heap.size + 1, i, none⟩ = some (.int .u64 0) := fun i hi => by
        simp only [World.cell?, h1]
        match i, hi with
        | 0, _ => rfl
        | 1, _ => rfl
        | 2, _ => rfl
        | 3, _ => rfl
      have f0 : ∀ i, wr.frozen? ⟨w.heap.size + 1, i, none⟩ = false := fun i => by simp [World.frozen?, h1]
      obtain ⟨j, hj⟩ : ∃ j, j = n + k := ⟨_, rfl⟩
      have HK : Hid (k = m + 1 - n) := hkk
      have HH : Hid (Below w.heap.size w wr) := hB
      rw [← hj] at hil ⊢
      have H1 : Hid (wr.heap[w.heap.size + 1]? = _) := h1
      clear hy hj hBe hk hlt h1 hB hs hx hc h0 hkk
      go_wp2
      have hW := heap_set (i := 3) (heap_set (i := 2) (heap_set (i := 1) (heap_set (i := 0) H1.out (.int .u64 (y.a : Int))) (.int .u64 (y.b : Int))) (.int .u64 (y.c : Int))) (.int .u64 (y.d : Int))
      have HB : Hid (Below w.heap.size w ((((wr.setCell ⟨w.heap.size + 1, 0, none⟩ (.int .u64 (y.a : Int))).setCell ⟨w.heap.size + 1, 1, none⟩ (.int .u64 (y.b : Int))).setCell ⟨w.heap.size + 1, 2, none⟩ (.int .u64 (y.c : Int))).setCell ⟨w.heap.size + 1, 3, none⟩ (.int .u64 (y.d : Int)))) :=
        (((((Only.set _ _ _ _).trans (Only.set _ _ _ _)).trans (Only.set _ _ _ _)).trans (Only.set _ _ _ _)).below (by omega) HH.out)
      revert hW HB
      generalize ((((wr.setCell ⟨w.heap.size + 1, 0, none⟩ (.int .u64 (y.a : Int))).setCell ⟨w.heap.size + 1, 1, none⟩ (.int .u64 (y.b : Int))).setCell ⟨w.heap.size + 1, 2, none⟩ (.int .u64 (y.c : Int))).setCell ⟨w.heap.size + 1, 3, none⟩ (.int .u64 (y.d : Int))) = w9
      intro hW HB
      have r0 : w9.cell? ⟨w.heap.size + 1, 0, none⟩ = some (.int .u64 (y.a : Int)) := by simp only [World.cell?, hW]; rfl
      have r1 : w9.cell? ⟨w.heap.size + 1, 1, none⟩ = some (.int .u64 (y.b : Int)) := by simp only [World.cell?, hW]; rfl
      have r2 : w9.cell? ⟨w.heap.size + 1, 2, none⟩ = some (.int .u64 (y.c : Int)) := by simp only [World.cell?, hW]; rfl
      have r3 : w9.cell? ⟨w.heap.size + 1, 3, none⟩ = some (.int .u64 (y.d : Int)) := by simp only [World.cell?, hW]; rfl
      refine bodyPost_ret (by simp [results, Tryz.results171, go_sem, r0, r1, r2, r3]; try rfl) rfl ?_
      exact ⟨by rw [← HK.out, ← HY.out.2]; rfl, HB.out⟩
theorem not_word (y : Nat) (hy : y < 18446744073709551616) : bits .xor .u64 IntKind.u64.max (y : Int) = ((18446744073709551615 - y : Nat) : Int) := by
  have e : IntKind.u64.max = ((18446744073709551615 : Nat) : Int) := by decide
  rw [e, u64_xor_nat _ _ (by omega) hy]
  congr 1
  apply Nat.eq_of_testBit_eq
  intro i
  rw [Nat.testBit_xor, show (18446744073709551615 : Nat) = 2 ^ 64 - 1 by decide, show 2 ^ 64 - 1 - y = 2 ^ 64 - (y + 1) by omega, Nat.testBit_two_pow_sub_one, Nat.testBit_two_pow_sub_succ (x := y) (n := 64) hy]
  cases hi : decide (i < 64) with
  | true => simp
  | false =>
    simp only [Bool.false_xor, Bool.false_and]
    simp only [decide_eq_false_iff_not, Nat.not_lt] at hi
    exact Nat.testBit_lt_two_pow (Nat.lt_of_lt_of_le hy (by rw [show (18446744073709551616 : Nat) = 2 ^ 64 by decide]; exact Nat.pow_le_pow_right (by omega) hi))
set_option maxHeartbeats 400000 in
theorem others_any (x : W4) (hx : x.Ok) (w : World) : Calls Tryz.prog 169 #[setV x] w fun e w' => e = .returned (setV ⟨18446744073709551615 - x.a, 18446744073709551615 - x.b, 18446744073709551615 - x.c, 18446744073709551615 - x.d⟩) ∧ Below w.heap.size w w' := by
  obtain ⟨a, b, c, d⟩ := x
  unfold setV
  have hsg : IntKind.u64.signed = false := rfl
  have HN : Hid (_ ∧ _ ∧ _ ∧ _) := ⟨not_word a hx.1, not_word b hx.2.1, not_word c hx.2.2.1, not_word d hx.2.2.2⟩
  clear hx
  go_enter Tryz.func169, Tryz.ntmps169
  go_wp2
  refine wp_loop_rounds 5 ?_
  rw [rounds_succ]
  go_wp2
  rw [rounds_succ]
  go_wp2
  rw [rounds_succ]
  go_wp2
  rw [rounds_succ]
  go_wp2
  rw [rounds_succ]
  go_wp2
  refine bodyPost_ret (by simp [results, Tryz.results169, go_sem]; try rfl) rfl ?_
  refine ⟨?_, ((Below.refl _ _).alloc (Nat.le_refl _) _).alloc (by simp) _⟩
  rw [HN.out.1, HN.out.2.1, HN.out.2.2.1, HN.out.2.2.2]
end Go.Proofs.YtedepknbaakkhabGreatDoor.X
namespace Go.Proofs.YtedepknbaakkhabGreatDoor.X
open Go.RowKit Go.Shelf RxSem
structure Wrote (b : Nat) (w w' : World) : Prop where
  os : w'.os = w.os
  tape : w'.tape = w.tape
  output : w'.output = w.output
  size : w.heap.size ≤ w'.heap.size
  block : ∀ j, j < w.heap.size → j ≠ b → w'.heap[j]? = w.heap[j]?
theorem Wrote.refl (b : Nat) (w : World) : Wrote b w w := ⟨rfl, rfl, rfl, Nat.le_refl _, fun _ _ _ => rfl⟩
theorem Wrote.trans {b : Nat} {w w1 w2 : World} (h : Wrote b w w1) (h2 : Wrote b w1 w2) : Wrote b w w2 :=
  ⟨h2.os.trans h.os, h2.tape.trans h.tape, h2.output.trans h.output, Nat.le_trans h.size h2.size, fun j hj hb => (h2.block j (Nat.lt_of_lt_of_le hj h.size) hb).trans (h.block j hj hb)⟩
theorem Wrote.of_below {b : Nat} {w w' : World} (h : Below w.heap.size w w') : Wrote b w w' := ⟨h.os, h.tape, h.output, h.size, fun j hj _ => h.block j hj⟩
theorem Wrote.of_only {b : Nat} {w w' : World} (h : Only b w w') : Wrote b w w' := ⟨h.os, h.tape, h.output, by rw [h.size]; exact Nat.le_refl _, fun j _ hb => h.block j hb⟩
theorem Wrote.set {b i : Nat} {w w' : World} (h : Wrote b w w') (x : Value) : Wrote b w (w'.setCell ⟨b, i, none⟩ x) := h.trans (.of_only (.set _ _ _ _))
theorem Wrote.drew {b : Nat} {w w' : World} (h : Wrote b w w') : Wrote b w w'.drew := ⟨h.os, h.tape, h.output, h.size, h.block⟩
theorem Wrote.drewN {b : Nat} {w w' : World} (h : Wrote b w w') (n : Nat) : Wrote b w (w'.drewN n) := ⟨h.os, h.tape, h.output, h.size, h.block⟩
theorem Wrote.alloc {b : Nat} {w w' : World} (h : Wrote b w w') (o : Obj) : Wrote b w (w'.alloc o) := h.trans (.of_below ((Below.refl _ _).alloc (Nat.le_refl _) _))
theorem Wrote.below {b B : Nat} {w w' : World} (h : Wrote b w w') (hb : B ≤ b) (hB : B ≤ w.heap.size) : Below B w w' := ⟨h.os, h.tape, h.output, h.size, fun j hj => h.block j (by omega) (by omega)⟩
structure SV where
  k : Nat
  s : W4
  a : Int
  b : Int
def stepV (x : SV) : Value := .agg #[.int .i64 (x.k : Int), .int .u64 (x.s.a : Int), .int .u64 (x.s.b : Int), .int .u64 (x.s.c : Int), .int .u64 (x.s.d : Int), .int .i64 x.a, .int .i64 x.b]
def stepC (x : SV) : List Value := [.int .i64 (x.k : Int), .int .u64 (x.s.a : Int), .int .u64 (x.s.b : Int), .int .u64 (x.s.c : Int), .int .u64 (x.s.d : Int), .int .i64 x.a, .int .i64 x.b]
def W4.zero : W4 := ⟨0, 0, 0, 0⟩
theorem W4.zero_ok : W4.zero.Ok := ⟨by decide, by decide, by decide, by decide⟩
theorem W4.zero_has (c : UInt8) : W4.zero.has c = false := by
  unfold W4.has W4.zero W4.get
  split <;> simp
def SV.zero : SV := ⟨0, W4.zero, 0, 0⟩
def SV.abs (x : SV) : Stp := match x.k with
  | 0 => .take x.s.has
  | 1 => .first
  | 2 => .last
  | 3 => .fork x.a x.b
  | _ => .done
def SV.Ok (x : SV) : Prop := x.s.Ok ∧ x.k ≤ 4 ∧ (-1000000 ≤ x.a ∧ x.a ≤ 1000000) ∧ (-1000000 ≤ x.b ∧ x.b ≤ 1000000)
def faultV (why : Nat) (at' : Nat) : Value := .agg #[.int .i64 (why : Int), .int .i64 (at' : Int)]
def Rd (b : Nat) (t : ByteArray) (i o : Nat) (ah : Bool) (w : World) : Prop := w.heap[b]? = some (.cells #[.string t, .int .i64 (i : Int), .int .i64 (o : Int), .bool ah] 141 (0, 0))
section
variable {b : Nat} {t : ByteArray} {i o : Nat} {ah : Bool} {w : World}
theorem Rd.lt (h : Rd b t i o ah w) : b < w.heap.size := (Array.getElem?_eq_some_iff.1 h).1
theorem Rd.c0 (h : Rd b t i o ah w) : w.cell? ⟨b, 0, none⟩ = some (.string t) := by simp only [World.cell?, show w.heap[b]? = _ from h]; rfl
theorem Rd.c1 (h : Rd b t i o ah w) : w.cell? ⟨b, 1, none⟩ = some (.int .i64 (i : Int)) := by simp only [World.cell?, show w.heap[b]? = _ from h]; rfl
theorem Rd.c2 (h : Rd b t i o ah w) : w.cell? ⟨b, 2, none⟩ = some (.int .i64 (o : Int)) := by simp only [World.cell?, show w.heap[b]? = _ from h]; rfl
theorem Rd.c3 (h : Rd b t i o ah w) : w.cell? ⟨b, 3, none⟩ = some (.bool ah) := by simp only [World.cell?, show w.heap[b]? = _ from h]; rfl
theorem Rd.fr (h : Rd b t i o ah w) (j : Nat) : w.frozen? ⟨b, j, none⟩ = false := by simp [World.frozen?, show w.heap[b]? = _ from h]
theorem Rd.set1 (h : Rd b t i o ah w) (j : Nat) : Rd b t j o ah (w.setCell ⟨b, 1, none⟩ (.int .i64 (j : Int))) := heap_set h _
theorem Rd.set2 (h : Rd b t i o ah w) (j : Nat) : Rd b t i j ah (w.setCell ⟨b, 2, none⟩ (.int .i64 (j : Int))) := heap_set h _
theorem Rd.set3 (h : Rd b t i o ah w) (j : Bool) : Rd b t i o j (w.setCell ⟨b, 3, none⟩ (.bool j)) := heap_set h _
theorem Rd.below {w' : World} (h : Rd b t i o ah w) (hb : Below w.heap.size w w') : Rd b t i o ah w' := (hb.block b h.lt).trans h
end
def mem : List UInt8 → UInt8 × UInt8 × Nat
  | c :: 45 :: h :: _ => if h = 93 then (c, c, 1) else (c, h, 3)
  | c :: _ => (c, c, 1)
  | [] => (0, 0, 1)
def memV (x : UInt8 × UInt8 × Nat) : Value := .tuple #[.int .u8 (x.1.toNat : Int), .int .u8 (x.2.1.toNat : Int), .int .i64 (x.2.2 : Int)]
theorem u8_lit (c : UInt8) (n : Nat) (hn : n < 256) : c = UInt8.ofNat n ↔ c.toNat = n := by
  rw [u8_eq_iff, UInt8.toNat_ofNat_of_lt' (by omega)]
theorem mem_long (s : ByteArray) (h : 2 < s.size) (h1 : s[1] = 45) (h2 : ¬ s[2] = 93) : mem (bl s) = (s[0], s[2], 3) := by
  have e : bl s = s[0] :: s[1] :: s[2] :: (bl s).drop 3 := by
    have := drop_ba s 0 (by omega)
    rw [List.drop_zero] at this
    rw [this, drop_ba s 1 (by omega), drop_ba s 2 (by omega)]
    simp
  rw [e, h1]
  simp [mem, h2]
theorem mem_short (s : ByteArray) (h0 : 0 < s.size) (h : ∀ (h : 2 < s.size), s[1] = 45 → s[2] = 93) : mem (bl s) = (s[0], s[0], 1) := by
  have e : bl s = s[0] :: (bl s).drop 1 := by
    have := drop_ba s 0 (by omega)
    rw [List.drop_zero] at this
    exact this
  rw [e]
  unfold mem
  split
  · rename_i c d t heq
    simp only [List.cons.injEq] at heq
    have hl : ((bl s).drop 1).length = (45 :: d :: t).length := by rw [heq.2]
    rw [List.length_drop, bl_length] at hl
    simp only [List.length_cons] at hl
    have e1 := drop_ba s 1 (by omega)
    have e2 := drop_ba s 2 (by omega)
    have e3 := heq.2
    rw [e1, e2] at e3
    simp only [List.cons.injEq] at e3
    have := h (by omega) e3.1
    rw [← e3.2.1, this, heq.1]
    rfl
  · rename_i h1 h2
    simp only [List.cons.injEq] at h1 h2
    first | rw [h1.1] | rw [h2.1]
  · rename_i heq; cases heq
set_option maxHeartbeats 400000 in
theorem member_any (s : ByteArray) (hs : 0 < s.size) (hs2 : s.size ≤ 1000000) (w : World) : Calls Tryz.prog 185 #[.string s] w fun e w' => e = .returned (memV (mem (bl s))) ∧ ∃ n, w' = w.drewN n := by
  by_cases h : 2 < s.size
  · by_cases h1 : s[1] = 45
    · by_cases h2 : s[2] = 93
      · have HM : Hid (mem (bl s) = (s[0], s[0], 1)) := mem_short s hs (fun _ _ => h2)
        have k1 : s[1].toNat = 45 := by rw [h1]; rfl
        have k2 : s[2].toNat = 93 := by rw [h2]; rfl
        clear h1 h2
        go_enter Tryz.func185, Tryz.ntmps185
        go_wp2
        go_quiet (fail)
        go_wp2
        refine bodyPost_ret (by simp [results, Tryz.results185, go_sem]; try rfl) rfl ?_
        exact ⟨by rw [HM.out]; rfl, _, rfl⟩
      · have HM : Hid (mem (bl s) = (s[0], s[2], 3)) := mem_long s h h1 h2
        have k1 : s[1].toNat = 45 := by rw [h1]; rfl
        have k2 : ¬ s[2].toNat = 93 := by rw [← u8_lit _ 93 (by omega)]; exact h2
        clear h1 h2
        go_enter Tryz.func185, Tryz.ntmps185
        go_wp2
        go_quiet (fail)
        go_wp2
        refine bodyPost_ret (by simp [results, Tryz.results185, go_sem]; try rfl) rfl ?_
        exact ⟨by rw [HM.out]; rfl, _, rfl⟩
    · have HM : Hid (mem (bl s) = (s[0], s[0], 1)) := mem_short s hs (fun _ h => absurd h h1)
      have k1 : ¬ s[1].toNat = 45 := by rw [← u8_lit _ 45 (by omega)]; exact h1
      clear h1
      go_enter Tryz.func185, Tryz.ntmps185
      go_wp2
      go_quiet (fail)
      go_wp2
      refine bodyPost_ret (by simp [results, Tryz.results185, go_sem]; try rfl) rfl ?_
      exact ⟨by rw [HM.out]; rfl, _, rfl⟩
  · have HM : Hid (mem (bl s) = (s[0], s[0], 1)) := mem_short s hs (fun h2 => absurd h2 h)
    go_enter Tryz.func185, Tryz.ntmps185
    go_wp2
    go_quiet (fail)
    go_wp2
    refine bodyPost_ret (by simp [results, Tryz.results185, go_sem]; try rfl) rfl ?_
    exact ⟨by rw [HM.out]; rfl, _, rfl⟩
set_option maxHeartbeats 400000 in
theorem missing_any {b : Nat} {t : ByteArray} {i o : Nat} {ah : Bool} (w : World) (h : Rd b t i o ah w) : Calls Tryz.prog 115 #[.pointer (some ⟨b, 0, none⟩)] w fun e w' => e = .returned (faultV 4 t.size) ∧ Below w.heap.size w w' := by
  have c0 := h.c0
  have hb := h.lt
  clear h
  go_enter Tryz.func115, Tryz.ntmps115
  go_wp2
  refine bodyPost_ret (by simp [results, Tryz.results115, go_sem]; try rfl) rfl ?_
  exact ⟨rfl, (Below.refl _ _).alloc (Nat.le_refl _) _⟩
theorem setW {T : TypeId} {w : World} {b : Nat} {x : W4} {y : W4} (h : w.heap[b]? = some (.cells (cellsW x) T (0, 0))) : ((((w.setCell ⟨b, 0, none⟩ (.int .u64 (y.a : Int))).setCell ⟨b, 1, none⟩ (.int .u64 (y.b : Int))).setCell ⟨b, 2, none⟩ (.int .u64 (y.c : Int))).setCell ⟨b, 3, none⟩ (.int .u64 (y.d : Int))).heap[b]? = some (.cells (cellsW y) T (0, 0)) :=
  heap_set (i := 3) (heap_set (i := 2) (heap_set (i := 1) (heap_set (i := 0) h (.int .u64 (y.a : Int))) (.int .u64 (y.b : Int))) (.int .u64 (y.c : Int))) (.int .u64 (y.d : Int))
theorem three (w : World) (o1 o2 o3 : Obj) : ∃ W, W = ((w.alloc o1).alloc o2).alloc o3 ∧ Below w.heap.size w W ∧ W.heap.size = w.heap.size + 3 ∧ W.heap[w.heap.size]? = some o1 ∧ W.heap[w.heap.size + 1]? = some o2 ∧ W.heap[w.heap.size + 1 + 1]? = some o3 := by
  refine ⟨_, rfl, (((Below.refl _ _).alloc (Nat.le_refl _) _).alloc (by simp) _).alloc (by simp; omega) _, by simp, ?_, ?_, ?_⟩
  · rw [Below.heap_alloc _ _ _ (by simp; omega), Below.heap_alloc _ _ _ (by simp)]; exact heap_alloc_new _ _
  · rw [Below.heap_alloc _ _ _ (by simp)]
    have := heap_alloc_new (w.alloc o1) o2
    simpa using this
  · have := heap_alloc_new ((w.alloc o1).alloc o2) o3
    simpa using this
theorem Wrote.of {b : Nat} {w W w' : World} (h : Below w.heap.size w W) (h2 : Wrote b W w') : Wrote b w w' := (Wrote.of_below h).trans h2
def atOf (b : Nat) (w : World) : Nat := match w.cell? ⟨b, 1, none⟩ with
  | some (.int _ i) => i.toNat
  | _ => 0
theorem Rd.at {b : Nat} {t : ByteArray} {i o : Nat} {ah : Bool} {w : World} (h : Rd b t i o ah w) : atOf b w = i := by unfold atOf; rw [h.c1]; simp
def W4.not (x : W4) : W4 := ⟨18446744073709551615 - x.a, 18446744073709551615 - x.b, 18446744073709551615 - x.c, 18446744073709551615 - x.d⟩
theorem W4.not_ok (x : W4) : x.not.Ok := by unfold W4.not W4.Ok; dsimp only; omega
theorem W4.not_has (x : W4) (hx : x.Ok) (c : UInt8) : x.not.has c = !x.has c := by
  have key : ∀ y r, y < 18446744073709551616 → r < 64 → (18446744073709551615 - y).testBit r = !y.testBit r := fun y r hy hr => by
    rw [show 18446744073709551615 - y = 2 ^ 64 - (y + 1) by omega, Nat.testBit_two_pow_sub_succ (x := y) (n := 64) hy]
    simp [hr]
  have hr : c.toNat % 64 < 64 := Nat.mod_lt _ (by omega)
  obtain ⟨h1, h2, h3, h4⟩ := hx
  unfold W4.has W4.not W4.get
  split <;> (apply key <;> assumption)
def setRes (nb : Bool) : (UInt8 → Bool) × List UInt8 ⊕ Nat × Nat → (Stp × List UInt8) ⊕ (Nat × Nat)
  | .inl (f, r) => .inl (.take fun x => if nb then !f x else f x, r)
  | .inr x => .inr x
theorem set_not (t : List UInt8) : thingR (91 :: 94 :: t) = setRes true (setL t true fun _ => false) := by
  unfold thingR
  simp only [setR]
  cases hs : setL t true (fun _ => false) with
  | inl x => simp [setRes]
  | inr x => simp [setRes]
theorem set_plain (t : List UInt8) (h : t.head? ≠ some 94) : thingR (91 :: t) = setRes false (setL t true fun _ => false) := by
  have e : setR t = match setL t true (fun _ => false) with | .inl (f, r) => .ok [.set f] r | .inr (w, l) => .bad w l := by
    cases t with
    | nil => rfl
    | cons c t =>
      rw [setR]
      · rfl
      · intro t' heq; simp at heq; exact h (by simp [heq.1])
  unfold thingR
  simp only [e]
  cases hs : setL t true (fun _ => false) with
  | inl x => simp [setRes]
  | inr x => simp [setRes]
def ThingPost (b : Nat) (t : ByteArray) (o : Nat) (ah : Bool) (w : World) (R : (Stp × List UInt8) ⊕ (Nat × Nat)) (e : Ending) (w' : World) : Prop := Wrote b w w' ∧ match R with
  | .inl (x, r) => ∃ v : SV, v.Ok ∧ v.abs = x ∧ e = .returned (.tuple #[stepV v, faultV 0 0]) ∧ ∃ i', Rd b t i' o ah w' ∧ i' ≤ t.size ∧ (bl t).drop i' = r
  | .inr (why, left) => ∃ (v : SV) (i' : Nat), e = .returned (.tuple #[stepV v, faultV why (t.size - left)]) ∧ Rd b t i' o ah w'
theorem quiet_at {P : Program} {f : FuncId} {args : Array Value} {w : World} {k n : Nat} {v : Value} (h : Calls P f args (w.drewN (k + n)) fun e w' => e = .returned v ∧ ∃ m, w' = (w.drewN (k + n)).drewN m) : Calls P f args (w.drewN (k + n)) fun e w'' => e = .returned v ∧ ∃ m, w'' = w.drewN (k + m) :=
  h.mono fun _ _ ⟨he, m, hm⟩ => ⟨he, n + m, by rw [hm, World.drewN_drewN, Nat.add_assoc]⟩
theorem hasPrefix94 (l : List UInt8) : Lib.hasPrefix l [94] = (l.head? == some 94) := by
  cases l with
  | nil => rfl
  | cons c t =>
    simp [Lib.hasPrefix, List.isPrefixOf]
    rw [Bool.eq_iff_iff, beq_iff_eq, beq_iff_eq]; exact eq_comm
theorem drop_get (t : ByteArray) (i : Nat) : (bl t).drop i = bl (t.extract i t.size) := by rw [bl_extract, take_all]
def outW (w1 : World) (B : Nat) (v : SV) (why at' : Nat) : World :=
  ((((((((w1.setCell ⟨B, 0, none⟩ (.int .i64 (v.k : Int))).setCell ⟨B, 1, none⟩ (.int .u64 (v.s.a : Int))).setCell ⟨B, 2, none⟩ (.int .u64 (v.s.b : Int))).setCell ⟨B, 3, none⟩ (.int .u64 (v.s.c : Int))).setCell ⟨B, 4, none⟩ (.int .u64 (v.s.d : Int))).setCell ⟨B, 5, none⟩ (.int .i64 v.a)).setCell ⟨B, 6, none⟩ (.int .i64 v.b)).setCell ⟨B + 1, 0, none⟩ (.int .i64 (why : Int))).setCell ⟨B + 1, 1, none⟩ (.int .i64 (at' : Int))
set_option maxHeartbeats 400000 in
theorem out_cells {w1 : World} {B : Nat} {x0 x1 x2 x3 x4 x5 x6 z0 z1 : Value} (h : w1.heap[B]? = some (.cells #[x0, x1, x2, x3, x4, x5, x6] 146 (0, 0))) (h2 : w1.heap[B + 1]? = some (.cells #[z0, z1] 28 (0, 0))) (v : SV) (why at' : Nat) :
    ∃ w9, w9 = outW w1 B v why at' ∧ w9.cell? ⟨B, 0, none⟩ = some (.int .i64 (v.k : Int)) ∧ w9.cell? ⟨B, 1, none⟩ = some (.int .u64 (v.s.a : Int)) ∧ w9.cell? ⟨B, 2, none⟩ = some (.int .u64 (v.s.b : Int)) ∧ w9.cell? ⟨B, 3, none⟩ = some (.int .u64 (v.s.c : Int)) ∧ w9.cell? ⟨B, 4, none⟩ = some (.int .u64 (v.s.d : Int)) ∧ w9.cell? ⟨B, 5, none⟩ = some (.int .i64 v.a) ∧ w9.cell? ⟨B, 6, none⟩ = some (.int .i64 v.b) ∧ w9.cell? ⟨B + 1, 0, none⟩ = some (.int .i64 (why : Int)) ∧ w9.cell? ⟨B + 1, 1, none⟩ = some (.int .i64 (at' : Int)) ∧
      (w9.os = w1.os ∧ w9.tape = w1.tape ∧ w9.output = w1.output ∧ w9.heap.size = w1.heap.size) ∧ ∀ j, j ≠ B → j ≠ B + 1 → w9.heap[j]? = w1.heap[j]? := by
  have a1 := heap_set (i := 6) (heap_set (i := 5) (heap_set (i := 4) (heap_set (i := 3) (heap_set (i := 2) (heap_set (i := 1) (heap_set (i := 0) h (.int .i64 (v.k : Int))) (.int .u64 (v.s.a : Int))) (.int .u64 (v.s.b : Int))) (.int .u64 (v.s.c : Int))) (.int .u64 (v.s.d : Int))) (.int .i64 v.a)) (.int .i64 v.b)
  have n2 : ∀ (W : World) (i : Nat) (x : Value), (W.setCell ⟨B + 1, i, none⟩ x).heap[B]? = W.heap[B]? := fun W i x => Below.heap_setCell _ _ _ _ (by simp)
  have a2 : (outW w1 B v why at').heap[B]? = some (.cells #[.int .i64 (v.k : Int), .int .u64 (v.s.a : Int), .int .u64 (v.s.b : Int), .int .u64 (v.s.c : Int), .int .u64 (v.s.d : Int), .int .i64 v.a, .int .i64 v.b] 146 (0, 0)) := by
    unfold outW
    rw [n2, n2, a1]
    simp
  have n : ∀ (W : World) (i : Nat) (x : Value), (W.setCell ⟨B, i, none⟩ x).heap[B + 1]? = W.heap[B + 1]? := fun W i x => Below.heap_setCell _ _ _ _ (by simp)
  have b1 : (((((((w1.setCell ⟨B, 0, none⟩ (.int .i64 (v.k : Int))).setCell ⟨B, 1, none⟩ (.int .u64 (v.s.a : Int))).setCell ⟨B, 2, none⟩ (.int .u64 (v.s.b : Int))).setCell ⟨B, 3, none⟩ (.int .u64 (v.s.c : Int))).setCell ⟨B, 4, none⟩ (.int .u64 (v.s.d : Int))).setCell ⟨B, 5, none⟩ (.int .i64 v.a)).setCell ⟨B, 6, none⟩ (.int .i64 v.b)).heap[B + 1]? = some (.cells #[z0, z1] 28 (0, 0)) := by
    rw [n, n, n, n, n, n, n]; exact h2
  have b2 : (outW w1 B v why at').heap[B + 1]? = some (.cells #[.int .i64 (why : Int), .int .i64 (at' : Int)] 28 (0, 0)) := by
    unfold outW
    rw [heap_set (i := 1) (heap_set (i := 0) b1 (.int .i64 (why : Int))) (.int .i64 (at' : Int))]
    simp
  have o1 := ((((((Only.set B 0 w1 (.int .i64 (v.k : Int))).trans (Only.set B 1 _ (.int .u64 (v.s.a : Int)))).trans (Only.set B 2 _ (.int .u64 (v.s.b : Int)))).trans (Only.set B 3 _ (.int .u64 (v.s.c : Int)))).trans (Only.set B 4 _ (.int .u64 (v.s.d : Int)))).trans (Only.set B 5 _ (.int .i64 v.a))).trans (Only.set B 6 _ (.int .i64 v.b))
  have o2 := (Only.set (B + 1) 0 (((((((w1.setCell ⟨B, 0, none⟩ (.int .i64 (v.k : Int))).setCell ⟨B, 1, none⟩ (.int .u64 (v.s.a : Int))).setCell ⟨B, 2, none⟩ (.int .u64 (v.s.b : Int))).setCell ⟨B, 3, none⟩ (.int .u64 (v.s.c : Int))).setCell ⟨B, 4, none⟩ (.int .u64 (v.s.d : Int))).setCell ⟨B, 5, none⟩ (.int .i64 v.a)).setCell ⟨B, 6, none⟩ (.int .i64 v.b)) (.int .i64 (why : Int))).trans (Only.set (B + 1) 1 _ (.int .i64 (at' : Int)))
  have hs : (outW w1 B v why at').heap.size = w1.heap.size := o2.size.trans o1.size
  have ho : ∀ j, j ≠ B → j ≠ B + 1 → (outW w1 B v why at').heap[j]? = w1.heap[j]? := fun j h1 h2 => (o2.block j h2).trans (o1.block j h1)
  have h9 : (outW w1 B v why at').os = w1.os ∧ (outW w1 B v why at').tape = w1.tape ∧ (outW w1 B v why at').output = w1.output := ⟨o2.os.trans o1.os, o2.tape.trans o1.tape, o2.output.trans o1.output⟩
  refine ⟨_, rfl, ?_⟩
  revert a2 b2 hs ho h9
  clear a1 b1 o1 o2 n n2
  generalize outW w1 B v why at' = w9
  intro a2 b2 hs ho h9
  refine ⟨?_, ?_, ?_, ?_, ?_, ?_, ?_, ?_, ?_, ⟨h9.1, h9.2.1, h9.2.2, hs⟩, ho⟩
  · simp only [World.cell?, a2]; rfl
  · simp only [World.cell?, a2]; rfl
  · simp only [World.cell?, a2]; rfl
  · simp only [World.cell?, a2]; rfl
  · simp only [World.cell?, a2]; rfl
  · simp only [World.cell?, a2]; rfl
  · simp only [World.cell?, a2]; rfl
  · simp only [World.cell?, b2]; rfl
  · simp only [World.cell?, b2]; rfl
theorem out_wrote {b B : Nat} {w w1 w9 : World} (h : Wrote b w w1) (hB : w.heap.size ≤ B) (h9 : w9.os = w1.os ∧ w9.tape = w1.tape ∧ w9.output = w1.output ∧ w9.heap.size = w1.heap.size) (hO : ∀ j, j ≠ B → j ≠ B + 1 → w9.heap[j]? = w1.heap[j]?) : Wrote b w w9 :=
  ⟨h9.1.trans h.os, h9.2.1.trans h.tape, h9.2.2.1.trans h.output, by rw [h9.2.2.2]; exact h.size, fun j hj hb => (hO j (by omega) (by omega)).trans (h.block j hj hb)⟩
theorem setL_mem (c : UInt8) (tl : List UInt8) (first : Bool) (f : UInt8 → Bool) (h : ¬ (c = 93 ∧ first = false)) :
    setL (c :: tl) first f = (if (mem (c :: tl)).2.1 < (mem (c :: tl)).1 then .inr (3, tl.length) else setL ((c :: tl).drop (mem (c :: tl)).2.2) false (range f (mem (c :: tl)).1 (mem (c :: tl)).2.1)) ∧ 1 ≤ (mem (c :: tl)).2.2 ∧ (mem (c :: tl)).2.2 ≤ tl.length + 1 := by
  have one : ∀ u : List UInt8, setL u false (fun x => f x || x == c) = setL u false (range f c c) := fun u => by
    congr 1
    funext x
    unfold range
    congr 1
    rw [Bool.eq_iff_iff]
    simp only [beq_iff_eq, Bool.and_eq_true, decide_eq_true_eq]
    constructor
    · rintro rfl; exact ⟨UInt8.le_refl _, UInt8.le_refl _⟩
    · intro hx; exact UInt8.le_antisymm hx.2 hx.1
  have irr : ¬ c < c := UInt8.lt_irrefl c
  cases tl with
  | nil => rw [setL_last h]; simp only [mem, irr, if_false]; refine ⟨?_, by simp, by simp⟩; simp [setL_nil]
  | cons a tl =>
    by_cases ha : a = 45
    · subst ha
      cases tl with
      | nil =>
        rw [setL_dash h]; simp only [mem, irr, if_false]; refine ⟨?_, by simp, by simp⟩
        show _ = setL [45] false _
        rw [setL_last (by simp)]
      | cons d tl =>
        rw [setL_range h]
        by_cases hd : d = 93
        · simp only [mem, hd, if_true, irr, if_false]
          refine ⟨?_, by simp, by simp⟩
          rw [one]; rfl
        · simp only [mem, hd, if_false]
          refine ⟨?_, by simp, by simp⟩
          by_cases hl : d < c
          · rw [if_pos hl, if_pos hl]; simp
          · rw [if_neg hl, if_neg hl]; rfl
    · rw [setL_byte h ha]
      have e : mem (c :: a :: tl) = (c, c, 1) := by
        unfold mem
        split
        · rename_i heq; simp at heq; exact absurd heq.2.1 ha
        · rename_i h1 h2
          simp only [List.cons.injEq] at h1 h2
          first | rw [h1.1] | rw [h2.1]
        · rename_i heq; cases heq
      rw [e]
      simp only [irr, if_false]
      refine ⟨?_, by simp, by simp⟩
      rw [one]; rfl
theorem addN_range (y : W4) (lo hi : UInt8) (h : ¬ hi < lo) : (y.addN lo.toNat (hi.toNat + 1 - lo.toNat)).has = range y.has lo hi := by
  have h1 : lo.toNat ≤ hi.toNat := by rw [UInt8.lt_iff_toNat_lt] at h; omega
  have h2 : hi.toNat < 256 := hi.toNat_lt
  funext c
  rw [W4.addN_has _ _ _ (by omega)]
  unfold range
  congr 1
  rw [← Bool.decide_and, decide_eq_decide, UInt8.le_iff_toNat_le, UInt8.le_iff_toNat_le]
  omega
end Go.Proofs.YtedepknbaakkhabGreatDoor.X
