/-
  What the program's one answers: where the next part of the pattern begins, and whether the part stands for a byte: just as the plain pattern's head says.
-/
import Derived.Test.YthcbagggalehgaaGreatDoorMgSet
namespace Go.Proofs.YthcbagggalehgaaGreatDoor
open Go.RowKit

theorem bcell {W w1 : World} (hb : Below W.heap.size W w1) : (∀ b o, b < W.heap.size → w1.cell? ⟨b, o, none⟩ = W.cell? ⟨b, o, none⟩) ∧ (∀ b o, b < W.heap.size → w1.frozen? ⟨b, o, none⟩ = W.frozen? ⟨b, o, none⟩) :=
  ⟨fun b o h => hb.cell (p := ⟨b, o, none⟩) h, fun b o h => hb.frozen (p := ⟨b, o, none⟩) h⟩

theorem ret_one {x x' : Int} {b b' : Bool} (h1 : x = x') (h2 : b = b') : Ending.returned (.tuple #[.int .i64 x, .bool b]) = .returned (.tuple #[.int .i64 x', .bool b']) := by rw [h1, h2]

/-- What one answers, as a value. -/
def oneV (T : ByteArray) (a : Nat) (c : UInt8) : Value := .tuple #[.int .i64 ((a + G.headN (T.data.toList.drop a) : Nat) : Int), .bool (G.headF (T.data.toList.drop a) c)]

theorem one_ret (T : ByteArray) (a : Nat) (c : UInt8) (x : Int) (b : Bool) (h1 : x = ((a + G.headN (T.data.toList.drop a) : Nat) : Int)) (h2 : b = G.headF (T.data.toList.drop a) c) : Ending.returned (.tuple #[.int .i64 x, .bool b]) = .returned (oneV T a c) := by
  unfold oneV; rw [h1, h2]

section heads
variable (T : ByteArray) (a : Nat) (c : UInt8) (ha : a < T.size)
theorem ne_of {x y : UInt8} {n : Nat} (hn : y.toNat = n) (h : ((x.toNat : Int) == (n : Int)) = false) : (x == y) = false := by rw [← u8_beq x y n hn]; exact h
theorem eq_of {x y : UInt8} {n : Nat} (hn : y.toNat = n) (h : ((x.toNat : Int) == (n : Int)) = true) : x = y := by
  have := u8_beq x y n hn; rw [h] at this; exact (beq_iff_eq.mp this.symm)
theorem head_any (h : ((T[a].toNat : Int) == 63) = true) : G.headN (T.data.toList.drop a) = 1 ∧ G.headF (T.data.toList.drop a) c = true := by
  rw [drop_ba T a ha, eq_of (y := 63) (n := 63) rfl h]; exact ⟨by simp [G.headN], by simp [G.headF]⟩
theorem head_bs (h : ((T[a].toNat : Int) == 92) = true) (h1 : a + 1 < T.size) : G.headN (T.data.toList.drop a) = 2 ∧ G.headF (T.data.toList.drop a) c = (T[a + 1] == c) := by
  rw [drop_ba T a ha, eq_of (y := 92) (n := 92) rfl h, drop_ba T (a + 1) h1]; exact ⟨by simp [G.headN], by simp [G.headF]⟩
theorem head_bs_end (h : ((T[a].toNat : Int) == 92) = true) (h1 : ¬ a + 1 < T.size) : G.headN (T.data.toList.drop a) = 1 ∧ G.headF (T.data.toList.drop a) c = (T[a] == c) := by
  rw [drop_ba T a ha, eq_of (y := 92) (n := 92) rfl h, List.drop_of_length_le (by simp; omega)]; exact ⟨by simp [G.headN], by simp [G.headF]⟩
theorem head_set_none (h : ((T[a].toNat : Int) == 91) = true) (hc : G.closeOf (T.data.toList.drop (a + 1)) = none) : G.headN (T.data.toList.drop a) = 1 ∧ G.headF (T.data.toList.drop a) c = (T[a] == c) := by
  rw [drop_ba T a ha, eq_of (y := 91) (n := 91) rfl h]; exact ⟨by simp [G.headN, hc], by simp [G.headF, hc]⟩
theorem head_set (k : Nat) (h : ((T[a].toNat : Int) == 91) = true) (hc : G.closeOf (T.data.toList.drop (a + 1)) = some k) :
    G.headN (T.data.toList.drop a) = (if G.negOf (T.data.toList.drop (a + 1)) then 1 else 0) + k + 3 ∧ G.headF (T.data.toList.drop a) c = (G.holdsM c ((G.memOf (T.data.toList.drop (a + 1))).take (k + 1)) != G.negOf (T.data.toList.drop (a + 1))) := by
  rw [drop_ba T a ha, eq_of (y := 91) (n := 91) rfl h]; exact ⟨by simp [G.headN, hc], by simp [G.headF, hc]⟩
theorem head_plain (h1 : ((T[a].toNat : Int) == 63) = false) (h2 : ((T[a].toNat : Int) == 92) = false) (h3 : ((T[a].toNat : Int) == 91) = false) : G.headN (T.data.toList.drop a) = 1 ∧ G.headF (T.data.toList.drop a) c = (T[a] == c) := by
  have g1 := ne_of (y := 63) (n := 63) rfl h1
  have g2 := ne_of (y := 92) (n := 92) rfl h2
  have g3 := ne_of (y := 91) (n := 91) rfl h3
  rw [drop_ba T a ha]; exact ⟨by simp only [G.headN, g2, g3]; simp, by simp only [G.headF, g1, g2, g3]; simp⟩
end heads

theorem beq_int (x c : UInt8) : ((x.toNat : Int) == (c.toNat : Int)) = (x == c) := u8_beq x c _ rfl

set_option maxHeartbeats 400000 in
theorem one_end (T : ByteArray) (L : Int) (c : UInt8) (w : World) :
    Calls Tryz.prog 195 #[.agg #[.string T, .int .i64 L], .int .i64 T.size, .int .u8 c.toNat] w fun e w' => e = .returned (.tuple #[.int .i64 T.size, .bool false]) ∧ Below w.heap.size w w' := by
  go_enter Tryz.func195, Tryz.ntmps195
  go_wp2
  go_ret2
  exact ⟨rfl, (Below.refl _ _).alloc (Nat.le_refl _) _⟩

set_option maxHeartbeats 400000 in
theorem one_any (T : ByteArray) (L : Int) (a : Nat) (c : UInt8) (w : World) (hs : T.size ≤ 1000000) (ha : a < T.size) (h1 : ((T[a].toNat : Int) == 63) = true) :
    Calls Tryz.prog 195 #[.agg #[.string T, .int .i64 L], .int .i64 a, .int .u8 c.toNat] w fun e w' => e = .returned (oneV T a c) ∧ Below w.heap.size w w' := by
  have hi : (a : Int) < (T.size : Int) := by omega
  have hne : ((a : Int) == (T.size : Int)) = false := by rw [← Bool.not_eq_true, beq_iff_eq]; omega
  obtain ⟨e1, e2⟩ := head_any T a c ha h1
  have HF : Hid (G.headN (T.data.toList.drop a) = 1 ∧ G.headF (T.data.toList.drop a) c = true) := ⟨e1, e2⟩
  clear e1 e2
  go_enter Tryz.func195, Tryz.ntmps195
  go_wp2
  go_ret2
  exact ⟨one_ret _ _ _ _ _ (by rw [HF.out.1]; simp) HF.out.2.symm, (Below.refl _ _).alloc (Nat.le_refl _) _⟩

set_option maxHeartbeats 400000 in
theorem one_plain (T : ByteArray) (L : Int) (a : Nat) (c : UInt8) (w : World) (hs : T.size ≤ 1000000) (ha : a < T.size) (h1 : ((T[a].toNat : Int) == 63) = false) (h2 : ((T[a].toNat : Int) == 92) = false) (h3 : ((T[a].toNat : Int) == 91) = false) :
    Calls Tryz.prog 195 #[.agg #[.string T, .int .i64 L], .int .i64 a, .int .u8 c.toNat] w fun e w' => e = .returned (oneV T a c) ∧ Below w.heap.size w w' := by
  have hi : (a : Int) < (T.size : Int) := by omega
  have hne : ((a : Int) == (T.size : Int)) = false := by rw [← Bool.not_eq_true, beq_iff_eq]; omega
  obtain ⟨e1, e2⟩ := head_plain T a c ha h1 h2 h3
  have HF : Hid (G.headN (T.data.toList.drop a) = 1 ∧ G.headF (T.data.toList.drop a) c = (T[a] == c)) := ⟨e1, e2⟩
  clear e1 e2
  go_enter Tryz.func195, Tryz.ntmps195
  go_wp2
  go_quiet (fail)
  go_wp2
  go_ret2
  exact ⟨one_ret _ _ _ _ _ (by rw [HF.out.1]; simp) (by rw [HF.out.2]; exact beq_int _ _), below_drewN ((Below.refl _ _).alloc (Nat.le_refl _) _) _⟩

set_option maxHeartbeats 400000 in
theorem one_bs (T : ByteArray) (L : Int) (a : Nat) (c : UInt8) (w : World) (hs : T.size ≤ 1000000) (ha : a < T.size) (h1 : ((T[a].toNat : Int) == 63) = false) (h2 : ((T[a].toNat : Int) == 92) = true) (h3 : a + 1 < T.size) :
    Calls Tryz.prog 195 #[.agg #[.string T, .int .i64 L], .int .i64 a, .int .u8 c.toNat] w fun e w' => e = .returned (oneV T a c) ∧ Below w.heap.size w w' := by
  have hi : (a : Int) < (T.size : Int) := by omega
  have hi3 : (a : Int) + 1 < (T.size : Int) := by omega
  have hi4 : 0 ≤ (a : Int) + 1 ∧ (a : Int) + 1 < (T.size : Int) := by omega
  have hne : ((a : Int) == (T.size : Int)) = false := by rw [← Bool.not_eq_true, beq_iff_eq]; omega
  obtain ⟨e1, e2⟩ := head_bs T a c ha h2 h3
  have HF : Hid (G.headN (T.data.toList.drop a) = 2 ∧ G.headF (T.data.toList.drop a) c = (T[a + 1] == c)) := ⟨e1, e2⟩
  clear e1 e2
  go_enter Tryz.func195, Tryz.ntmps195
  go_wp2
  go_quiet (fail)
  go_wp2
  go_ret2
  exact ⟨one_ret _ _ _ _ _ (by rw [HF.out.1]; simp; omega) (by rw [HF.out.2]; exact beq_int _ _), below_drewN ((Below.refl _ _).alloc (Nat.le_refl _) _) _⟩

set_option maxHeartbeats 400000 in
theorem one_bs_end (T : ByteArray) (L : Int) (a : Nat) (c : UInt8) (w : World) (hs : T.size ≤ 1000000) (ha : a < T.size) (h1 : ((T[a].toNat : Int) == 63) = false) (h2 : ((T[a].toNat : Int) == 92) = true) (h3 : ¬ a + 1 < T.size) :
    Calls Tryz.prog 195 #[.agg #[.string T, .int .i64 L], .int .i64 a, .int .u8 c.toNat] w fun e w' => e = .returned (oneV T a c) ∧ Below w.heap.size w w' := by
  have hi : (a : Int) < (T.size : Int) := by omega
  have hi3 : ¬ (a : Int) + 1 < (T.size : Int) := by omega
  have hne : ((a : Int) == (T.size : Int)) = false := by rw [← Bool.not_eq_true, beq_iff_eq]; omega
  obtain ⟨e1, e2⟩ := head_bs_end T a c ha h2 h3
  have HF : Hid (G.headN (T.data.toList.drop a) = 1 ∧ G.headF (T.data.toList.drop a) c = (T[a] == c)) := ⟨e1, e2⟩
  clear e1 e2
  go_enter Tryz.func195, Tryz.ntmps195
  go_wp2
  go_quiet (fail)
  go_wp2
  go_ret2
  exact ⟨one_ret _ _ _ _ _ (by rw [HF.out.1]; simp) (by rw [HF.out.2]; exact beq_int _ _), below_drewN ((Below.refl _ _).alloc (Nat.le_refl _) _) _⟩

set_option maxHeartbeats 400000 in
theorem one_set_none (T : ByteArray) (L : Int) (a : Nat) (c : UInt8) (w : World) (hs : T.size ≤ 1000000) (ha : a < T.size) (hL : LastOk T L) (h1 : ((T[a].toNat : Int) == 63) = false) (h2 : ((T[a].toNat : Int) == 92) = false) (h3 : ((T[a].toNat : Int) == 91) = true) (hc : G.closeOf (T.data.toList.drop (a + 1)) = none) :
    Calls Tryz.prog 195 #[.agg #[.string T, .int .i64 L], .int .i64 a, .int .u8 c.toNat] w fun e w' => e = .returned (oneV T a c) ∧ Below w.heap.size w w' := by
  have hi : (a : Int) < (T.size : Int) := by omega
  have hne : ((a : Int) == (T.size : Int)) = false := by rw [← Bool.not_eq_true, beq_iff_eq]; omega
  obtain ⟨e1, e2⟩ := head_set_none T a c ha h3 hc
  have HF : Hid (G.headN (T.data.toList.drop a) = 1 ∧ G.headF (T.data.toList.drop a) c = (T[a] == c)) := ⟨e1, e2⟩
  have HC : Hid (LastOk T L ∧ G.closeOf (T.data.toList.drop (a + 1)) = none) := ⟨hL, hc⟩
  clear e1 e2 hL hc
  go_enter Tryz.func195, Tryz.ntmps195
  go_wp2_with fail
  refine (set_none T L a _ hs ha HC.out.1 HC.out.2).mono ?_
  rintro e w1 ⟨rfl, hb⟩
  obtain ⟨hc1, hf1⟩ := bcell hb
  have hx : w1.cell? ⟨w.heap.size, 0, none⟩ = some (.string T) := by rw [hc1 _ _ (by simp)]; simp
  clear hc1 hf1
  go_wp2
  go_quiet (fail)
  go_wp2
  go_ret2
  exact ⟨one_ret _ _ _ _ _ (by rw [HF.out.1]; simp) (by rw [HF.out.2]; exact beq_int _ _), below_drewN (((Below.refl _ _).alloc (Nat.le_refl _) _).trans (hb.mono (by simp))) _⟩

theorem mem_eq (T : ByteArray) (a k : Nat) : ((T.extract (a + 1 + (if G.negOf (T.data.toList.drop (a + 1)) then 1 else 0)) (a + 1 + (if G.negOf (T.data.toList.drop (a + 1)) then 1 else 0) + k + 1)).data.toList) = (G.memOf (T.data.toList.drop (a + 1))).take (k + 1) := by
  rw [Lib.extract_data]
  unfold G.memOf
  generalize G.negOf (T.data.toList.drop (a + 1)) = n
  cases n
  · simp; congr 1; omega
  · simp; congr 1; omega

set_option maxHeartbeats 400000 in
theorem one_set (T : ByteArray) (L : Int) (a k : Nat) (c : UInt8) (w : World) (hs : T.size ≤ 1000000) (ha : a < T.size) (hL : LastOk T L) (h1 : ((T[a].toNat : Int) == 63) = false) (h2 : ((T[a].toNat : Int) == 92) = false) (h3 : ((T[a].toNat : Int) == 91) = true) (hc : G.closeOf (T.data.toList.drop (a + 1)) = some k) :
    Calls Tryz.prog 195 #[.agg #[.string T, .int .i64 L], .int .i64 a, .int .u8 c.toNat] w fun e w' => e = .returned (oneV T a c) ∧ Below w.heap.size w w' := by
  have hi : (a : Int) < (T.size : Int) := by omega
  have hne : ((a : Int) == (T.size : Int)) = false := by rw [← Bool.not_eq_true, beq_iff_eq]; omega
  obtain ⟨e1, e2⟩ := head_set T a c ha k h3 hc
  have hset := set_some T L a k (w.alloc (.cells #[.string T, .int .i64 L] 209)) hs ha hL hc
  have hmem := mem_eq T a k
  have hlt := idx_lt _ _ _ ((close_eq T a) ▸ hc)
  obtain ⟨m, hm⟩ : ∃ m : Nat, m = a + 1 + (if G.negOf (T.data.toList.drop (a + 1)) then 1 else 0) := ⟨_, rfl⟩
  obtain ⟨ng, hng⟩ : ∃ ng : Bool, ng = G.negOf (T.data.toList.drop (a + 1)) := ⟨_, rfl⟩
  have e1' : ((a + G.headN (T.data.toList.drop a) : Nat) : Int) = (m : Int) + k + 1 + 1 := by rw [e1, hm]; omega
  rw [← hm] at hset hmem
  rw [← hng] at hset
  rw [← hmem, ← hng] at e2
  rw [← hm] at hlt
  have hmk : m + k + 1 < T.size := by simp at hlt; omega
  have hm1 : a + 1 ≤ m := by omega
  have HF : Hid (((a + G.headN (T.data.toList.drop a) : Nat) : Int) = (m : Int) + k + 1 + 1 ∧ G.headF (T.data.toList.drop a) c = (G.holdsM c (T.extract m (m + k + 1)).data.toList != ng)) := ⟨e1', e2⟩
  have HSE : Hid (Calls Tryz.prog 220 #[.agg #[.string T, .int .i64 L], .int .i64 a] (w.alloc (.cells #[.string T, .int .i64 L] 209)) fun e w' =>
      e = .returned (.tuple #[.int .i64 (m : Int), .int .i64 ((m + k + 1 : Nat) : Int), .bool ng]) ∧ Below (w.alloc (.cells #[.string T, .int .i64 L] 209)).heap.size (w.alloc (.cells #[.string T, .int .i64 L] 209)) w') := hset
  clear e1 e2 hL hc hset hmem hlt hm hng e1'
  go_enter Tryz.func195, Tryz.ntmps195
  go_wp2_with fail
  refine HSE.out.mono ?_
  rintro e w1 ⟨rfl, hb⟩
  obtain ⟨hc1, hf1⟩ := bcell hb
  have hx : w1.cell? ⟨w.heap.size, 0, none⟩ = some (.string T) := by rw [hc1 _ _ (by simp)]; simp
  clear hc1 hf1
  go_wp2_with fail
  refine (holds_any (T.extract m (m + k + 1)) c _ (by simp; omega)).mono ?_
  rintro e w2 ⟨rfl, n, rfl⟩
  go_wp2
  go_ret2
  exact ⟨one_ret _ _ _ _ _ HF.out.1.symm (by rw [HF.out.2, Lib.extract_data]; simp [bne]), below_drewN (((Below.refl _ _).alloc (Nat.le_refl _) _).trans (hb.mono (by simp))) _⟩

/-- Where the next part begins, and whether the part at place a stands for the byte. -/
theorem one_spec (T : ByteArray) (L : Int) (a : Nat) (c : UInt8) (w : World) (hs : T.size ≤ 1000000) (ha : a < T.size) (hL : LastOk T L) :
    Calls Tryz.prog 195 #[.agg #[.string T, .int .i64 L], .int .i64 a, .int .u8 c.toNat] w fun e w' => e = .returned (oneV T a c) ∧ Below w.heap.size w w' := by
  cases h1 : ((T[a].toNat : Int) == 63)
  · cases h2 : ((T[a].toNat : Int) == 92)
    · cases h3 : ((T[a].toNat : Int) == 91)
      · exact one_plain T L a c w hs ha h1 h2 h3
      · cases hc : G.closeOf (T.data.toList.drop (a + 1)) with
        | none => exact one_set_none T L a c w hs ha hL h1 h2 h3 hc
        | some k => exact one_set T L a k c w hs ha hL h1 h2 h3 hc
    · by_cases h3 : a + 1 < T.size
      · exact one_bs T L a c w hs ha h1 h2 h3
      · exact one_bs_end T L a c w hs ha h1 h2 h3
  · exact one_any T L a c w hs ha h1

theorem headN_fits (T : ByteArray) (a : Nat) (ha : a < T.size) : a + G.headN (T.data.toList.drop a) ≤ T.size := by
  rw [drop_ba T a ha]
  simp only [G.headN]
  split
  · split
    · omega
    · rename_i hr; have hr' : T.data.toList.drop (a + 1) ≠ [] := by intro h; rw [h] at hr; simp at hr
      have := List.length_pos_iff.mpr hr'; simp at this; omega
  · split
    · cases hc : G.closeOf (T.data.toList.drop (a + 1)) with
      | none => simp only; omega
      | some k =>
        simp only
        have hlt := idx_lt _ _ _ ((close_eq T a) ▸ hc)
        simp at hlt; omega
    · omega
end Go.Proofs.YthcbagggalehgaaGreatDoor
