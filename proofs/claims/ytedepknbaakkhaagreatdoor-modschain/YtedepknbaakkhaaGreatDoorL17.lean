/-
  PBase PSet
-/
import Derived.Test.YtedepknbaakkhaaGreatDoorProg
import Derived.Test.YtedepknbaakkhaaGreatDoorL16
import Derived.WalkKit
import Derived.WalkSpells
import Derived.WalkLawsBesides
import Derived.Deep.QuietTactic
import Derived.BigQuiet
import Derived.Deep.OwnRows
import Derived.Lib.OthersKept
import Derived.Below
import Derived.Shelf.Abstract
import Derived.Laws.BitsAllLaws
import Derived.Laws.Shifts
import Derived.Deep.RegionHeld3
namespace Go.Proofs.YtedepknbaakkhaaGreatDoor.X
open Go.RowKit Go.Shelf
def Hid (p : Prop) : Prop := p
theorem Hid.out {p : Prop} (h : Hid p) : p := h
def bl (x : ByteArray) : List UInt8 := x.data.toList
theorem bl_length (x : ByteArray) : (bl x).length = x.size := by simp [bl]
theorem ret_bool {a b : Bool} (h : a = b) : Ending.returned (.bool a) = .returned (.bool b) := by rw [h]
theorem u8_eq_iff (a b : UInt8) : a = b ↔ a.toNat = b.toNat := ⟨fun h => by rw [h], UInt8.toNat_inj.mp⟩
theorem u8_back (c : UInt8) : (Int.toNat (c.toNat : Int)).toUInt8 = c := by simp
theorem drop_ba (m : ByteArray) (k : Nat) (h : k < m.size) : (bl m).drop k = m[k] :: (bl m).drop (k + 1) :=
  List.drop_eq_getElem_cons (by simpa [bl] using h)
theorem take_all (s : ByteArray) : (bl s).take s.size = bl s := List.take_of_length_le (by simp [bl])
theorem drop_all (s : ByteArray) : (bl s).drop s.size = [] := List.drop_of_length_le (by simp [bl])
theorem bl_extract (s : ByteArray) (a b : Nat) : bl (s.extract a b) = ((bl s).take b).drop a := by
  simp [bl, List.extract_eq_take_drop, List.drop_take]
theorem bl_get (s : ByteArray) (k : Nat) (h : k < s.size) : (bl s)[k]? = some s[k] := by
  unfold bl; rw [List.getElem?_eq_getElem (by simpa using h)]; rfl
theorem heap_set {w : World} {b i : Nat} {cs : Array Value} {T : TypeId} (h : w.heap[b]? = some (.cells cs T (0, 0))) (x : Value) : (w.setCell ⟨b, i, none⟩ x).heap[b]? = some (.cells (cs.setIfInBounds i x) T (0, 0)) := by
  simp [World.setCell, Array.getElem?_modify, h]
theorem size_set (w : World) (a : Addr) (x : Value) : (w.setCell a x).heap.size = w.heap.size := by simp [World.setCell]
theorem row_set {w : World} {base b : Nat} {v : Value} {e : TypeId} {k n : Nat} {xs : List Value} {i : Nat} (h : w.ownsRow base e k v n xs) (hb : v.ownBlock ≠ some b) (x : Value) : (w.setCell ⟨b, i, none⟩ x).ownsRow base e k v n xs := by
  refine ⟨h.1, ?_⟩
  rcases h.2 with h0 | ⟨g, cap, cur, hv, hg, hgg, rest⟩
  · exact .inl h0
  · refine .inr ⟨g, cap, cur, hv, hg, ?_, rest⟩
    rw [Below.heap_setCell _ _ _ _ (fun e => hb (by rw [hv, e]; rfl))]
    exact hgg
theorem owns_below {base n : Nat} {e : TypeId} {size : Nat} {W W1 : World} {v : Value} {xs : List Value} (h : W.ownsRow base e size v n xs) (hb : Below W.heap.size W W1) : W1.ownsRow base e size v n xs :=
  h.kept (row := none) ⟨hb.os, hb.tape, hb.output, hb.size, fun k hk _ => hb.block k hk⟩ (by by_cases h : v.ownBlock = none; exact Or.inl h; exact Or.inr h)
structure Only (b : Nat) (w w' : World) : Prop where
  os : w'.os = w.os
  tape : w'.tape = w.tape
  output : w'.output = w.output
  size : w'.heap.size = w.heap.size
  block : ∀ j, j ≠ b → w'.heap[j]? = w.heap[j]?
theorem Only.refl (b : Nat) (w : World) : Only b w w := ⟨rfl, rfl, rfl, rfl, fun _ _ => rfl⟩
theorem Only.set (b i : Nat) (w : World) (x : Value) : Only b w (w.setCell ⟨b, i, none⟩ x) :=
  ⟨rfl, rfl, rfl, size_set _ _ _, fun _ hj => Below.heap_setCell _ _ _ _ hj⟩
theorem Only.trans {b : Nat} {w w1 w2 : World} (h : Only b w w1) (h2 : Only b w1 w2) : Only b w w2 :=
  ⟨h2.os.trans h.os, h2.tape.trans h.tape, h2.output.trans h.output, h2.size.trans h.size, fun j hj => (h2.block j hj).trans (h.block j hj)⟩
theorem Only.below {b B : Nat} {w0 w w' : World} (h : Only b w w') (hb : B ≤ b) (h0 : Below B w0 w) : Below B w0 w' :=
  ⟨h.os.trans h0.os, h.tape.trans h0.tape, h.output.trans h0.output, by rw [h.size]; exact h0.size, fun j hj => (h.block j (by omega)).trans (h0.block j hj)⟩
theorem Only.row {w w' : World} {base b : Nat} {v : Value} {e : TypeId} {k n : Nat} {xs : List Value} (ho : Only b w w') (h : w.ownsRow base e k v n xs) (hb : v.ownBlock ≠ some b) : w'.ownsRow base e k v n xs := by
  refine ⟨h.1, ?_⟩
  rcases h.2 with h0 | ⟨g, cap, cur, hv, hg, hgg, rest⟩
  · exact .inl h0
  · refine .inr ⟨g, cap, cur, hv, hg, ?_, rest⟩
    rw [ho.block g (fun e => hb (by rw [hv, e]; rfl))]
    exact hgg
theorem row_type {w : World} {base g : Nat} {v : Value} {e : TypeId} {k n : Nat} {xs : List Value} (h : w.ownsRow base e k v n xs) (hv : v.ownBlock = some g) : ∃ cur, w.heap[g]? = some (.cells cur e (0, 0)) := by
  rcases h.2 with ⟨rfl, _⟩ | ⟨g', cap, cur, rfl, _, hg, _⟩
  · simp [Value.ownBlock] at hv
  · simp [Value.ownBlock] at hv
    subst hv
    exact ⟨cur, hg⟩
end Go.Proofs.YtedepknbaakkhaaGreatDoor.X
namespace Go.Proofs.YtedepknbaakkhaaGreatDoor.X
open Go.RowKit Go.Shelf
structure W4 where
  a : Nat
  b : Nat
  c : Nat
  d : Nat
def W4.get (x : W4) : Nat → Nat
  | 0 => x.a
  | 1 => x.b
  | 2 => x.c
  | _ => x.d
def W4.Ok (x : W4) : Prop := x.a < 18446744073709551616 ∧ x.b < 18446744073709551616 ∧ x.c < 18446744073709551616 ∧ x.d < 18446744073709551616
def W4.has (x : W4) (c : UInt8) : Bool := (x.get (c.toNat / 64)).testBit (c.toNat % 64)
def setV (x : W4) : Value := .agg #[.int .u64 (x.a : Int), .int .u64 (x.b : Int), .int .u64 (x.c : Int), .int .u64 (x.d : Int)]
theorem and_bit (x i : Nat) : ((x &&& 2 ^ i : Nat) : Int) = 0 ↔ x.testBit i = false := by
  rw [show ((x &&& 2 ^ i : Nat) : Int) = 0 ↔ (x &&& 2 ^ i) = 0 by omega]
  rw [Nat.testBit_eq_decide_div_mod_eq, nat_bit]
  have := Nat.two_pow_pos i
  rcases Nat.mod_two_eq_zero_or_one (x / 2 ^ i) with h | h <;> simp [h] <;> omega
theorem wrap_pow (r : Nat) (hr : r < 64) : IntKind.u64.wrap (2 ^ r) = ((2 ^ r : Nat) : Int) := by
  rw [IntKind.wrap_u64]
  have h : (2 : Nat) ^ r < 2 ^ 64 := Nat.pow_lt_pow_right (by omega) hr
  have e : ((2 : Int) ^ r) = ((2 ^ r : Nat) : Int) := by simp
  rw [e, show (18446744073709551616 : Int) = ((2 ^ 64 : Nat) : Int) by rfl, ← Int.natCast_emod, Nat.mod_eq_of_lt h]
theorem bit_test (y r : Nat) (hy : y < 18446744073709551616) (hr : r < 64) : (bits .and .u64 (y : Int) (IntKind.u64.wrap (2 ^ r)) != 0) = y.testBit r := by
  have h : (2 : Nat) ^ r < 2 ^ 64 := Nat.pow_lt_pow_right (by omega) hr
  rw [wrap_pow r hr, u64_and_nat _ _ hy h]
  have := and_bit y r
  cases hb : y.testBit r with
  | false => rw [this.2 hb]; rfl
  | true =>
    rw [bne_iff_ne]
    intro e
    rw [this.1 e] at hb; cases hb
set_option maxHeartbeats 400000 in
theorem has_any (x : W4) (hx : x.Ok) (c : UInt8) (w : World) : Calls Tryz.prog 239 #[setV x, .int .u8 (c.toNat : Int)] w fun e w' => e = .returned (.bool (x.has c)) ∧ Below w.heap.size w w' := by
  have hc := c.toNat_lt
  have HE : Hid (∀ y, y = x.get (c.toNat / 64) → (bits .and .u64 (y : Int) (IntKind.u64.wrap (2 ^ (c.toNat % 64))) != 0) = x.has c) := by
    intro y hy
    refine (bit_test y _ ?_ (by omega)).trans (by rw [hy]; rfl)
    obtain ⟨h1, h2, h3, h4⟩ := hx
    rw [hy]
    unfold W4.get
    split <;> assumption
  obtain ⟨n, hn⟩ : ∃ n, n = c.toNat := ⟨_, rfl⟩
  unfold setV
  rw [← hn] at hc HE ⊢
  have HN : Hid (n = c.toNat) := hn
  clear hn
  have hc' : n < 256 := hc
  clear hc
  obtain ⟨a, b, d, f⟩ := x
  have hq : n / 64 = 0 ∨ n / 64 = 1 ∨ n / 64 = 2 ∨ n / 64 = 3 := by omega
  rcases hq with hq | hq | hq | hq
  all_goals
    have HE2 := fun y h => HE.out y (by rw [hq]; exact h)
    have HE3 : Hid (_) := HE2 _ rfl
    clear HE2 HE hx
    go_enter Tryz.func239, Tryz.ntmps239
    go_wp2
    go_ret
    exact ⟨ret_bool HE3.out, (Below.refl _ _).alloc (Nat.le_refl _) _⟩
def W4.add (x : W4) (n : Nat) : W4 := match n / 64 with
  | 0 => { x with a := x.a ||| 2 ^ (n % 64) }
  | 1 => { x with b := x.b ||| 2 ^ (n % 64) }
  | 2 => { x with c := x.c ||| 2 ^ (n % 64) }
  | _ => { x with d := x.d ||| 2 ^ (n % 64) }
def W4.addN (x : W4) (lo : Nat) : Nat → W4
  | 0 => x
  | k + 1 => (x.addN lo k).add (lo + k)
theorem or_lt (y r : Nat) (hy : y < 18446744073709551616) (hr : r < 64) : y ||| 2 ^ r < 18446744073709551616 := by
  have h : (2 : Nat) ^ r < 2 ^ 64 := Nat.pow_lt_pow_right (by omega) hr
  exact Nat.or_lt_two_pow (n := 64) hy h
theorem W4.add_ok {x : W4} (h : x.Ok) (n : Nat) : (x.add n).Ok := by
  obtain ⟨h1, h2, h3, h4⟩ := h
  have hr : n % 64 < 64 := Nat.mod_lt _ (by omega)
  unfold W4.add
  split
  · exact ⟨or_lt _ _ h1 hr, h2, h3, h4⟩
  · exact ⟨h1, or_lt _ _ h2 hr, h3, h4⟩
  · exact ⟨h1, h2, or_lt _ _ h3 hr, h4⟩
  · exact ⟨h1, h2, h3, or_lt _ _ h4 hr⟩
theorem W4.add_has (x : W4) (n : Nat) (hn : n < 256) (c : UInt8) : (x.add n).has c = (x.has c || decide (c.toNat = n)) := by
  have hc : c.toNat < 256 := c.toNat_lt
  have key : ∀ y, (y ||| 2 ^ (n % 64)).testBit (c.toNat % 64) = (y.testBit (c.toNat % 64) || decide (n % 64 = c.toNat % 64)) := fun y => by
    rw [Nat.testBit_or, Nat.testBit_two_pow]
  have h4 : n / 64 = 0 ∨ n / 64 = 1 ∨ n / 64 = 2 ∨ n / 64 = 3 := by omega
  have h5 : c.toNat / 64 = 0 ∨ c.toNat / 64 = 1 ∨ c.toNat / 64 = 2 ∨ c.toNat / 64 = 3 := by omega
  unfold W4.has W4.add
  rcases h4 with h4 | h4 | h4 | h4 <;> rcases h5 with h5 | h5 | h5 | h5 <;> rw [h4, h5] <;> simp only [W4.get, key]
  all_goals
    first
    | (congr 1; rw [decide_eq_decide]; omega)
    | (have : ¬ c.toNat = n := by omega
       simp [this])
theorem W4.addN_ok {x : W4} (h : x.Ok) (lo k : Nat) : (x.addN lo k).Ok := by
  induction k with
  | zero => exact h
  | succ k ih => exact W4.add_ok ih _
theorem W4.addN_has (x : W4) (lo k : Nat) (hk : lo + k ≤ 256) (c : UInt8) : (x.addN lo k).has c = (x.has c || decide (lo ≤ c.toNat ∧ c.toNat < lo + k)) := by
  induction k with
  | zero => unfold W4.addN; simp; omega
  | succ k ih =>
    unfold W4.addN
    rw [W4.add_has _ _ (by omega), ih (by omega), Bool.or_assoc]
    congr 1
    rw [← Bool.decide_or, decide_eq_decide]
    omega
theorem or_word (y r : Nat) (hy : y < 18446744073709551616) (hr : r < 64) : bits .or .u64 (y : Int) (IntKind.u64.wrap (2 ^ r)) = ((y ||| 2 ^ r : Nat) : Int) := by
  have h : (2 : Nat) ^ r < 2 ^ 64 := Nat.pow_lt_pow_right (by omega) hr
  rw [wrap_pow r hr, u64_or_nat _ _ hy h]
def cellsW (x : W4) : Array Value := #[.int .u64 (x.a : Int), .int .u64 (x.b : Int), .int .u64 (x.c : Int), .int .u64 (x.d : Int)]
theorem setV_eq (x : W4) : setV x = .agg (cellsW x) := rfl
set_option maxHeartbeats 400000 in
theorem with_any (x : W4) (hx : x.Ok) (lo hi : UInt8) (w : World) : Calls Tryz.prog 229 #[setV x, .int .u8 (lo.toNat : Int), .int .u8 (hi.toNat : Int)] w fun e w' => e = .returned (setV (x.addN lo.toNat (hi.toNat + 1 - lo.toNat))) ∧ Below w.heap.size w w' := by
  obtain ⟨n, hn, hc⟩ : ∃ n, n = lo.toNat ∧ n < 256 := ⟨_, rfl, lo.toNat_lt⟩
  obtain ⟨m, hm, hd⟩ : ∃ m, m = hi.toNat ∧ m < 256 := ⟨_, rfl, hi.toNat_lt⟩
  rw [← hn, ← hm]
  clear hn hm
  rw [setV_eq]
  go_enter Tryz.func229, Tryz.ntmps229
  go_wp2
  go_loopw [7] (fun vc wr => ∃ k : Nat, (n + k ≤ m + 1 ∨ k = 0) ∧ vc = .int .i64 ((n + k : Nat) : Int) ∧ Below w.heap.size w wr ∧ w.heap.size + 2 ≤ wr.heap.size ∧ wr.heap[w.heap.size]? = some (.cells (cellsW (x.addN n k)) 187 (0, 0)) ∧ wr.heap[w.heap.size + 1]? = some (.cells #[.int .u64 0, .int .u64 0, .int .u64 0, .int .u64 0] 187 (0, 0))) (fun vc _ => m + 1 - (intOf vc).toNat)
  case atStart =>
    refine ⟨0, .inr rfl, by go_num, ((Below.refl _ _).alloc (Nat.le_refl _) _).alloc (by simp) _, by simp, ?_, ?_⟩
    · rw [Below.heap_alloc _ _ _ (by simp)]; exact heap_alloc_new _ _
    · have := heap_alloc_new (w.alloc (.cells (cellsW x) 187)) (.cells #[.int .u64 0, .int .u64 0, .int .u64 0, .int .u64 0] 187)
      simpa using this
  case round =>
    obtain ⟨k, hk, rfl, hB, hs, h0, h1⟩ := hrel
    obtain ⟨B, hBe⟩ : ∃ B, B = w.heap.size := ⟨_, rfl⟩
    obtain ⟨y, hy⟩ : ∃ y, y = x.addN n k := ⟨_, rfl⟩
    have HY : Hid (y.Ok ∧ y = x.addN n k) := ⟨by rw [hy]; exact W4.addN_ok hx _ _, hy⟩
    rw [← hy] at h0
    by_cases hlt : n + k ≤ m
    · have hil : ((n + k : Nat) : Int) ≤ (m : Int) := by omega
      have hq : (n + k) / 64 = 0 ∨ (n + k) / 64 = 1 ∨ (n + k) / 64 = 2 ∨ (n + k) / 64 = 3 := by omega
      have h256 : n + k < 256 := by omega
      obtain ⟨j, hj⟩ : ∃ j, j = n + k := ⟨_, rfl⟩
      have HJ : Hid (j = n + k) := hj
      have HH : Hid (Below w.heap.size w wr ∧ w.heap.size + 2 ≤ wr.heap.size ∧ wr.heap[w.heap.size]? = some (.cells (cellsW y) 187 (0, 0)) ∧ wr.heap[w.heap.size + 1]? = some (.cells #[.int .u64 0, .int .u64 0, .int .u64 0, .int .u64 0] 187 (0, 0))) := ⟨hB, hs, h0, h1⟩
      obtain ⟨r, hr, hrj⟩ : ∃ r, r < 64 ∧ r = j % 64 := ⟨_, Nat.mod_lt _ (by omega), rfl⟩
      have q3 : (j : Int).tmod 64 = (r : Int) := by rw [Int.tmod_eq_emod_of_nonneg (by omega)]; omega
      have q4 : (j : Int) % 64 = (r : Int) := by omega
      have q5 : ¬ (r : Int) < 0 := by omega
      have HR : Hid (r = j % 64) := hrj
      clear hrj
      rw [← hj] at hil hq h256 ⊢
      clear hy hj hBe hk hlt h1 hB hs hx hc
      rcases hq with hq | hq | hq | hq
      · have c0 : wr.cell? ⟨w.heap.size, 0, none⟩ = some (.int .u64 (y.a : Int)) := by simp only [World.cell?, h0]; rfl
        have f0 : wr.frozen? ⟨w.heap.size, 0, none⟩ = false := by simp [World.frozen?, h0]
        have q1 : (j : Int) / 64 = 0 := by omega
        have q2 : (j : Int).tdiv 64 = 0 := by rw [Int.tdiv_eq_ediv_of_nonneg (by omega)]; omega
        have q6 : IntKind.i64.wrap 0 = 0 := by decide
        clear h0
        go_wp2
        go_region_with (fail)
        all_goals
          go_wp2
          go_roundw
          case rel =>
            refine ⟨k + 1, .inl (by have := HJ.out; omega), by have := HJ.out; go_num, ((Only.set _ _ _ _).below (Nat.le_refl _) HH.out.1).drew, by show _ ≤ (wr.setCell _ _).heap.size; rw [size_set]; exact HH.out.2.1, ?_, ?_⟩
            · refine (heap_set HH.out.2.2.1 _).trans ?_
              rw [or_word _ _ (HY.out.1.1) hr, HR.out]
              show _ = some (Obj.cells (cellsW ((x.addN n k).add (n + k))) 187 (0, 0))
              rw [← HY.out.2, ← HJ.out]
              unfold W4.add
              rw [hq]
              rfl
            · exact (Below.heap_setCell _ _ _ _ (by simp)).trans HH.out.2.2.2
          case measure => simp [intOf]; omega
      · have c0 : wr.cell? ⟨w.heap.size, 1, none⟩ = some (.int .u64 (y.b : Int)) := by simp only [World.cell?, h0]; rfl
        have f0 : wr.frozen? ⟨w.heap.size, 1, none⟩ = false := by simp [World.frozen?, h0]
        have q1 : (j : Int) / 64 = 1 := by omega
        have q2 : (j : Int).tdiv 64 = 1 := by rw [Int.tdiv_eq_ediv_of_nonneg (by omega)]; omega
        have q6 : IntKind.i64.wrap 1 = 1 := by decide
        clear h0
        go_wp2
        go_region_with (fail)
        all_goals
          go_wp2
          go_roundw
          case rel =>
            refine ⟨k + 1, .inl (by have := HJ.out; omega), by have := HJ.out; go_num, ((Only.set _ _ _ _).below (Nat.le_refl _) HH.out.1).drew, by show _ ≤ (wr.setCell _ _).heap.size; rw [size_set]; exact HH.out.2.1, ?_, ?_⟩
            · refine (heap_set HH.out.2.2.1 _).trans ?_
              rw [or_word _ _ (HY.out.1.2.1) hr, HR.out]
              show _ = some (Obj.cells (cellsW ((x.addN n k).add (n + k))) 187 (0, 0))
              rw [← HY.out.2, ← HJ.out]
              unfold W4.add
              rw [hq]
              rfl
            · exact (Below.heap_setCell _ _ _ _ (by simp)).trans HH.out.2.2.2
          case measure => simp [intOf]; omega
      · have c0 : wr.cell? ⟨w.heap.size, 2, none⟩ = some (.int .u64 (y.c : Int)) := by simp only [World.cell?, h0]; rfl
        have f0 : wr.frozen? ⟨w.heap.size, 2, none⟩ = false := by simp [World.frozen?, h0]
        have q1 : (j : Int) / 64 = 2 := by omega
        have q2 : (j : Int).tdiv 64 = 2 := by rw [Int.tdiv_eq_ediv_of_nonneg (by omega)]; omega
        have q6 : IntKind.i64.wrap 2 = 2 := by decide
        clear h0
        go_wp2
        go_region_with (fail)
        all_goals
          go_wp2
          go_roundw
          case rel =>
            refine ⟨k + 1, .inl (by have := HJ.out; omega), by have := HJ.out; go_num, ((Only.set _ _ _ _).below (Nat.le_refl _) HH.out.1).drew, by show _ ≤ (wr.setCell _ _).heap.size; rw [size_set]; exact HH.out.2.1, ?_, ?_⟩
            · refine (heap_set HH.out.2.2.1 _).trans ?_
              rw [or_word _ _ (HY.out.1.2.2.1) hr, HR.out]
              show _ = some (Obj.cells (cellsW ((x.addN n k).add (n + k))) 187 (0, 0))
              rw [← HY.out.2, ← HJ.out]
              unfold W4.add
              rw [hq]
              rfl
            · exact (Below.heap_setCell _ _ _ _ (by simp)).trans HH.out.2.2.2
          case measure => simp [intOf]; omega
      · have c0 : wr.cell? ⟨w.heap.size, 3, none⟩ = some (.int .u64 (y.d : Int)) := by simp only [World.cell?, h0]; rfl
        have f0 : wr.frozen? ⟨w.heap.size, 3, none⟩ = false := by simp [World.frozen?, h0]
        have q1 : (j : Int) / 64 = 3 := by omega
        have q2 : (j : Int).tdiv 64 = 3 := by rw [Int.tdiv_eq_ediv_of_nonneg (by omega)]; omega
        have q6 : IntKind.i64.wrap 3 = 3 := by decide
        clear h0
        go_wp2
        go_region_with (fail)
        all_goals
          go_wp2
          go_roundw
          case rel =>
            refine ⟨k + 1, .inl (by have := HJ.out; omega), by have := HJ.out; go_num, ((Only.set _ _ _ _).below (Nat.le_refl _) HH.out.1).drew, by show _ ≤ (wr.setCell _ _).heap.size; rw [size_set]; exact HH.out.2.1, ?_, ?_⟩
            · refine (heap_set HH.out.2.2.1 _).trans ?_
              rw [or_word _ _ (HY.out.1.2.2.2) hr, HR.out]
              show _ = some (Obj.cells (cellsW ((x.addN n k).add (n + k))) 187 (0, 0))
              rw [← HY.out.2, ← HJ.out]
              unfold W4.add
              rw [hq]
              rfl
            · exact (Below.heap_setCell _ _ _ _ (by simp)).trans HH.out.2.2.2
          case measure => simp [intOf]; omega
    · have hil : ¬ ((n + k : Nat) : Int) ≤ (m : Int) := by omega
      have hkk : k = m + 1 - n := by omega
      have c0 : wr.cell? ⟨w.heap.size, 0, none⟩ = some (.int .u64 (y.a : Int)) := by simp only [World.cell?, h0]; rfl
      have c1 : wr.cell? ⟨w.heap.size, 1, none⟩ = some (.int .u64 (y.b : Int)) := by simp only [World.cell?, h0]; rfl
      have c2 : wr.cell? ⟨w.heap.size, 2, none⟩ = some (.int .u64 (y.c : Int)) := by simp only [World.cell?, h0]; rfl
      have c3 : wr.cell? ⟨w.heap.size, 3, none⟩ = some (.int .u64 (y.d : Int)) := by simp only [World.cell?, h0]; rfl
      have d0 : ∀ i, i < 4 → wr.cell? ⟨w.heap.size + 1, i, none⟩ = some (.int .u64 0) := fun i hi => by
        simp only [World.cell?, h1]
        match i, hi with
        | 0, _ => rfl
        | 1, _ => rfl
        | 2, _ => rfl
        | 3, _ => rfl
      have f0 : ∀ i, wr.frozen? ⟨w.heap.size + 1, i, none⟩ = false := fun i => by simp [World.frozen?, h1]
      obtain ⟨j, hj⟩ : ∃ j, j = n + k := ⟨_, rfl⟩
      have HK : Hid (k = m + 1 - n) := hkk
      have HH : Hid (Below w.heap.size w wr) := hB
      rw [← hj] at hil ⊢
      have H1 : Hid (wr.heap[w.heap.size + 1]? = _) := h1
      clear hy hj hBe hk hlt h1 hB hs hx hc h0 hkk
      go_wp2
      have hW := heap_set (i := 3) (heap_set (i := 2) (heap_set (i := 1) (heap_set (i := 0) H1.out (.int .u64 (y.a : Int))) (.int .u64 (y.b : Int))) (.int .u64 (y.c : Int))) (.int .u64 (y.d : Int))
      have HB : Hid (Below w.heap.size w ((((wr.setCell ⟨w.heap.size + 1, 0, none⟩ (.int .u64 (y.a : Int))).setCell ⟨w.heap.size + 1, 1, none⟩ (.int .u64 (y.b : Int))).setCell ⟨w.heap.size + 1, 2, none⟩ (.int .u64 (y.c : Int))).setCell ⟨w.heap.size + 1, 3, none⟩ (.int .u64 (y.d : Int)))) :=
        (((((Only.set _ _ _ _).trans (Only.set _ _ _ _)).trans (Only.set _ _ _ _)).trans (Only.set _ _ _ _)).below (by omega) HH.out)
      revert hW HB
      generalize ((((wr.setCell ⟨w.heap.size + 1, 0, none⟩ (.int .u64 (y.a : Int))).setCell ⟨w.heap.size + 1, 1, none⟩ (.int .u64 (y.b : Int))).setCell ⟨w.heap.size + 1, 2, none⟩ (.int .u64 (y.c : Int))).setCell ⟨w.heap.size + 1, 3, none⟩ (.int .u64 (y.d : Int))) = w9
      intro hW HB
      have r0 : w9.cell? ⟨w.heap.size + 1, 0, none⟩ = some (.int .u64 (y.a : Int)) := by simp only [World.cell?, hW]; rfl
      have r1 : w9.cell? ⟨w.heap.size + 1, 1, none⟩ = some (.int .u64 (y.b : Int)) := by simp only [World.cell?, hW]; rfl
      have r2 : w9.cell? ⟨w.heap.size + 1, 2, none⟩ = some (.int .u64 (y.c : Int)) := by simp only [World.cell?, hW]; rfl
      have r3 : w9.cell? ⟨w.heap.size + 1, 3, none⟩ = some (.int .u64 (y.d : Int)) := by simp only [World.cell?, hW]; rfl
      refine bodyPost_ret (by simp [results, Tryz.results229, go_sem, r0, r1, r2, r3]; try rfl) rfl ?_
      exact ⟨by rw [← HK.out, ← HY.out.2]; rfl, HB.out⟩
theorem not_word (y : Nat) (hy : y < 18446744073709551616) : bits .xor .u64 IntKind.u64.max (y : Int) = ((18446744073709551615 - y : Nat) : Int) := by
  have e : IntKind.u64.max = ((18446744073709551615 : Nat) : Int) := by decide
  rw [e, u64_xor_nat _ _ (by omega) hy]
  congr 1
  apply Nat.eq_of_testBit_eq
  intro i
  rw [Nat.testBit_xor, show (18446744073709551615 : Nat) = 2 ^ 64 - 1 by decide, show 2 ^ 64 - 1 - y = 2 ^ 64 - (y + 1) by omega, Nat.testBit_two_pow_sub_one, Nat.testBit_two_pow_sub_succ (x := y) (n := 64) hy]
  cases hi : decide (i < 64) with
  | true => simp
  | false =>
    simp only [Bool.false_xor, Bool.false_and]
    simp only [decide_eq_false_iff_not, Nat.not_lt] at hi
    exact Nat.testBit_lt_two_pow (Nat.lt_of_lt_of_le hy (by rw [show (18446744073709551616 : Nat) = 2 ^ 64 by decide]; exact Nat.pow_le_pow_right (by omega) hi))
set_option maxHeartbeats 400000 in
theorem others_any (x : W4) (hx : x.Ok) (w : World) : Calls Tryz.prog 227 #[setV x] w fun e w' => e = .returned (setV ⟨18446744073709551615 - x.a, 18446744073709551615 - x.b, 18446744073709551615 - x.c, 18446744073709551615 - x.d⟩) ∧ Below w.heap.size w w' := by
  obtain ⟨a, b, c, d⟩ := x
  unfold setV
  have hsg : IntKind.u64.signed = false := rfl
  have HN : Hid (_ ∧ _ ∧ _ ∧ _) := ⟨not_word a hx.1, not_word b hx.2.1, not_word c hx.2.2.1, not_word d hx.2.2.2⟩
  clear hx
  go_enter Tryz.func227, Tryz.ntmps227
  go_wp2
  refine wp_loop_rounds 5 ?_
  rw [rounds_succ]
  go_wp2
  rw [rounds_succ]
  go_wp2
  rw [rounds_succ]
  go_wp2
  rw [rounds_succ]
  go_wp2
  rw [rounds_succ]
  go_wp2
  refine bodyPost_ret (by simp [results, Tryz.results227, go_sem]; try rfl) rfl ?_
  refine ⟨?_, ((Below.refl _ _).alloc (Nat.le_refl _) _).alloc (by simp) _⟩
  rw [HN.out.1, HN.out.2.1, HN.out.2.2.1, HN.out.2.2.2]
end Go.Proofs.YtedepknbaakkhaaGreatDoor.X
