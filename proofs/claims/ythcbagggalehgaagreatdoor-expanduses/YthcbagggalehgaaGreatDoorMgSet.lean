/-
  What the program's set answers: where a set's members begin and end, just as the plain pattern's head says; memory is as it was but for what it makes itself.
-/
import Derived.Test.YthcbagggalehgaaGreatDoorMgHolds
import Derived.Test.YthcbagggalehgaaGreatDoorShelf
namespace Go.Proofs.YthcbagggalehgaaGreatDoor
open Go.RowKit

/-- The number that the program keeps beside a pattern tells where no closing bracket comes any more. -/
def LastOk (T : ByteArray) (L : Int) : Prop := ∀ f : Nat, L ≤ f ↔ G.idx 93 (T.data.toList.drop (f + 1)) = none

theorem indexByte_idx (c : UInt8) : ∀ l : List UInt8, Lib.indexByte l c = match G.idx c l with | some k => (k : Int) | none => -1 := by
  intro l
  induction l with
  | nil => rfl
  | cons b l ih =>
    unfold Lib.indexByte G.idx
    by_cases hb : (b == c) = true
    · rw [if_pos hb, if_pos hb]; rfl
    · rw [if_neg hb, if_neg hb, ih]
      cases h : G.idx c l with
      | none => rfl
      | some k =>
        have : ((k : Int) == -1) = false := by rw [← Bool.not_eq_true, beq_iff_eq]; omega
        simp only [this, Option.map_some]; rfl
theorem index_at (T : ByteArray) (f k : Nat) (h : G.idx 93 (T.data.toList.drop f) = some k) : Lib.indexByte (List.take (T.size - f) (List.drop f T.data.toList)) 93 = (k : Int) := by
  rw [List.take_of_length_le (by simp), indexByte_idx, h]
theorem idx_lt (c : UInt8) : ∀ (l : List UInt8) (k : Nat), G.idx c l = some k → k < l.length := by
  intro l
  induction l with
  | nil => intro k h; simp [G.idx] at h
  | cons b l ih =>
    intro k h
    unfold G.idx at h
    by_cases hb : (b == c) = true
    · rw [if_pos hb] at h; simp at h; simp; omega
    · rw [if_neg hb] at h
      cases hi : G.idx c l with
      | none => rw [hi] at h; simp at h
      | some j => rw [hi] at h; simp at h; have := ih j hi; simp; omega

set_option maxHeartbeats 400000 in
theorem set_none_plain (T : ByteArray) (L : Int) (a : Nat) (w : World) (hs : T.size ≤ 1000000) (h1 : a + 1 < T.size) (hn1 : ((T[a + 1].toNat : Int) == 33) = false) (hn2 : ((T[a + 1].toNat : Int) == 94) = false) (hl : L ≤ (a : Int) + 1) :
    Calls Tryz.prog 220 #[.agg #[.string T, .int .i64 L], .int .i64 a] w fun e w' =>
      e = .returned (.tuple #[.int .i64 0, .int .i64 0, .bool false]) ∧ Below w.heap.size w w' := by
  have hi : (a : Int) + 1 < (T.size : Int) := by omega
  go_enter Tryz.func220, Tryz.ntmps220
  go_wp2
  go_ret3
  exact ⟨rfl, (Below.refl _ _).alloc (Nat.le_refl _) _⟩

set_option maxHeartbeats 400000 in
theorem set_none_neg (T : ByteArray) (L : Int) (a : Nat) (w : World) (hs : T.size ≤ 1000000) (h1 : a + 1 < T.size) (hn : ((T[a + 1].toNat : Int) == 33 || (T[a + 1].toNat : Int) == 94) = true) (hl : L ≤ (a : Int) + 2) :
    Calls Tryz.prog 220 #[.agg #[.string T, .int .i64 L], .int .i64 a] w fun e w' =>
      e = .returned (.tuple #[.int .i64 0, .int .i64 0, .bool false]) ∧ Below w.heap.size w w' := by
  have hi : (a : Int) + 1 < (T.size : Int) := by omega
  have hl' : L ≤ (a : Int) + 1 + 1 := by omega
  cases h3 : ((T[a + 1].toNat : Int) == 33)
  all_goals
    have h4 : ((T[a + 1].toNat : Int) == 33 || (T[a + 1].toNat : Int) == 94) = true := hn
    rw [h3] at h4
    simp only [Bool.true_or, Bool.false_or] at h4
    clear hn
    go_enter Tryz.func220, Tryz.ntmps220
    go_wp2
    go_ret3
    exact ⟨rfl, (Below.refl _ _).alloc (Nat.le_refl _) _⟩

set_option maxHeartbeats 400000 in
theorem set_none_short (T : ByteArray) (L : Int) (a : Nat) (w : World) (hs : T.size ≤ 1000000) (h0 : a < T.size) (h1 : ¬ a + 1 < T.size) (hl : L ≤ (a : Int) + 1) :
    Calls Tryz.prog 220 #[.agg #[.string T, .int .i64 L], .int .i64 a] w fun e w' =>
      e = .returned (.tuple #[.int .i64 0, .int .i64 0, .bool false]) ∧ Below w.heap.size w w' := by
  have hi : ¬ (a : Int) + 1 < (T.size : Int) := by omega
  go_enter Tryz.func220, Tryz.ntmps220
  go_wp2
  go_ret3
  exact ⟨rfl, (Below.refl _ _).alloc (Nat.le_refl _) _⟩

theorem ret_set {x y x' y' : Int} {b : Bool} (h1 : x = x') (h2 : y = y') : Ending.returned (.tuple #[.int .i64 x, .int .i64 y, .bool b]) = .returned (.tuple #[.int .i64 x', .int .i64 y', .bool b]) := by rw [h1, h2]

set_option maxHeartbeats 400000 in
theorem set_some_plain (T : ByteArray) (L : Int) (a k : Nat) (w : World) (hs : T.size ≤ 1000000) (h1 : a + 1 < T.size) (hn1 : ((T[a + 1].toNat : Int) == 33) = false) (hn2 : ((T[a + 1].toNat : Int) == 94) = false) (hl : (a : Int) + 1 < L) (hk : G.idx 93 (T.data.toList.drop (a + 2)) = some k) :
    Calls Tryz.prog 220 #[.agg #[.string T, .int .i64 L], .int .i64 a] w fun e w' =>
      e = .returned (.tuple #[.int .i64 (a + 1), .int .i64 (a + 1 + k + 1), .bool false]) ∧ Below w.heap.size w w' := by
  have hi : (a : Int) + 1 < (T.size : Int) := by omega
  have hx := index_at T (a + 1 + 1) k hk
  have hkl := idx_lt _ _ _ hk
  have hkb : k ≤ 1000000 := by simp at hkl; omega
  clear hkl hk
  go_enter Tryz.func220, Tryz.ntmps220
  go_wp2_with (go_at_call 98; refine (Tryz.strings_IndexByte _ _ _).mono ?_; rintro e w' ⟨rfl, rfl⟩)
  go_ret3
  exact ⟨ret_set rfl (by omega), (Below.refl _ _).alloc (Nat.le_refl _) _⟩

set_option maxHeartbeats 400000 in
theorem set_some_neg (T : ByteArray) (L : Int) (a k : Nat) (w : World) (hs : T.size ≤ 1000000) (h1 : a + 1 < T.size) (hn : ((T[a + 1].toNat : Int) == 33 || (T[a + 1].toNat : Int) == 94) = true) (hl : (a : Int) + 2 < L) (hk : G.idx 93 (T.data.toList.drop (a + 3)) = some k) :
    Calls Tryz.prog 220 #[.agg #[.string T, .int .i64 L], .int .i64 a] w fun e w' =>
      e = .returned (.tuple #[.int .i64 (a + 2), .int .i64 (a + 2 + k + 1), .bool true]) ∧ Below w.heap.size w w' := by
  have hi : (a : Int) + 1 < (T.size : Int) := by omega
  have hl' : (a : Int) + 1 + 1 < L := by omega
  have hx := index_at T (a + 1 + 1 + 1) k hk
  have hkl := idx_lt _ _ _ hk
  have hkb : k ≤ 1000000 := by simp at hkl; omega
  have hT3 : a + 3 < T.size := by simp at hkl; omega
  clear hkl hk
  cases h3 : ((T[a + 1].toNat : Int) == 33)
  all_goals
    have h4 : ((T[a + 1].toNat : Int) == 33 || (T[a + 1].toNat : Int) == 94) = true := hn
    rw [h3] at h4
    simp only [Bool.true_or, Bool.false_or] at h4
    clear hn
    go_enter Tryz.func220, Tryz.ntmps220
    go_wp2_with (go_at_call 98; refine (Tryz.strings_IndexByte _ _ _).mono ?_; rintro e w' ⟨rfl, rfl⟩)
    go_ret3
    exact ⟨ret_set (by omega) (by omega), (Below.refl _ _).alloc (Nat.le_refl _) _⟩

theorem neg_eq (T : ByteArray) (a : Nat) (h1 : a + 1 < T.size) : G.negOf (T.data.toList.drop (a + 1)) = ((T[a + 1].toNat : Int) == 33 || (T[a + 1].toNat : Int) == 94) := by
  rw [drop_ba T (a + 1) h1]
  show (T[a + 1] == 33 || T[a + 1] == 94) = _
  rw [← u8_beq _ 33 33 rfl, ← u8_beq _ 94 94 rfl]; rfl

theorem close_eq (T : ByteArray) (a : Nat) : G.closeOf (T.data.toList.drop (a + 1)) = G.idx 93 (T.data.toList.drop (a + 1 + (if G.negOf (T.data.toList.drop (a + 1)) then 1 else 0) + 1)) := by
  unfold G.closeOf G.memOf
  split <;> simp [List.drop_drop]

/-- No set begins at place a. -/
theorem set_none (T : ByteArray) (L : Int) (a : Nat) (w : World) (hs : T.size ≤ 1000000) (ha : a < T.size) (hL : LastOk T L) (hc : G.closeOf (T.data.toList.drop (a + 1)) = none) :
    Calls Tryz.prog 220 #[.agg #[.string T, .int .i64 L], .int .i64 a] w fun e w' =>
      e = .returned (.tuple #[.int .i64 0, .int .i64 0, .bool false]) ∧ Below w.heap.size w w' := by
  rw [close_eq] at hc
  have hl := (hL _).2 hc
  by_cases h1 : a + 1 < T.size
  · cases hn : ((T[a + 1].toNat : Int) == 33 || (T[a + 1].toNat : Int) == 94)
    · have hn' := neg_eq T a h1
      rw [hn] at hn'; rw [hn'] at hl
      rw [Bool.or_eq_false_iff] at hn
      exact set_none_plain T L a w hs h1 hn.1 hn.2 (by simpa using hl)
    · have hn' := neg_eq T a h1
      rw [hn] at hn'; rw [hn'] at hl
      exact set_none_neg T L a w hs h1 hn (by simp at hl; omega)
  · have hn' : G.negOf (T.data.toList.drop (a + 1)) = false := by rw [List.drop_of_length_le (by simp; omega)]; rfl
    rw [hn'] at hl
    exact set_none_short T L a w hs ha h1 (by simpa using hl)

/-- A set begins at place a. -/
theorem set_some (T : ByteArray) (L : Int) (a k : Nat) (w : World) (hs : T.size ≤ 1000000) (ha : a < T.size) (hL : LastOk T L) (hc : G.closeOf (T.data.toList.drop (a + 1)) = some k) :
    Calls Tryz.prog 220 #[.agg #[.string T, .int .i64 L], .int .i64 a] w fun e w' =>
      e = .returned (.tuple #[.int .i64 ((a + 1 + (if G.negOf (T.data.toList.drop (a + 1)) then 1 else 0) : Nat) : Int), .int .i64 ((a + 1 + (if G.negOf (T.data.toList.drop (a + 1)) then 1 else 0) + k + 1 : Nat) : Int), .bool (G.negOf (T.data.toList.drop (a + 1)))]) ∧ Below w.heap.size w w' := by
  rw [close_eq] at hc
  have hlt := idx_lt _ _ _ hc
  have hl := (not_congr (hL (a + 1 + (if G.negOf (T.data.toList.drop (a + 1)) then 1 else 0)))).2 (by rw [hc]; simp)
  have h1 : a + 1 < T.size := by simp at hlt; omega
  cases hn : ((T[a + 1].toNat : Int) == 33 || (T[a + 1].toNat : Int) == 94)
  · have hn' := neg_eq T a h1
    rw [hn] at hn'; rw [hn'] at hl hc ⊢
    rw [Bool.or_eq_false_iff] at hn
    refine (set_some_plain T L a k w hs h1 hn.1 hn.2 (by simp at hl; omega) (by simpa using hc)).mono fun e w' ⟨he, hw⟩ => ⟨?_, hw⟩
    rw [he]; exact ret_set (by simp) (by simp)
  · have hn' := neg_eq T a h1
    rw [hn] at hn'; rw [hn'] at hl hc ⊢
    refine (set_some_neg T L a k w hs h1 hn (by simp at hl; omega) (by simpa using hc)).mono fun e w' ⟨he, hw⟩ => ⟨?_, hw⟩
    rw [he]; exact ret_set (by simp; omega) (by simp; omega)
end Go.Proofs.YthcbagggalehgaaGreatDoor
