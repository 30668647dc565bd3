/-
  MgOne MgMatch MgRead MgRefOne
-/
import Derived.Test.YtpcpcfnmcfjomaaGreatDoorK02
namespace Go.Proofs.YtpcpcfnmcfjomaaGreatDoor
open Go.RowKit
theorem bcell {W w1 : World} (hb : Below W.heap.size W w1) : (∀ b o, b < W.heap.size → w1.cell? ⟨b, o, none⟩ = W.cell? ⟨b, o, none⟩) ∧ (∀ b o, b < W.heap.size → w1.frozen? ⟨b, o, none⟩ = W.frozen? ⟨b, o, none⟩) :=
  ⟨fun b o h => hb.cell (p := ⟨b, o, none⟩) h, fun b o h => hb.frozen (p := ⟨b, o, none⟩) h⟩
def oneV (T : ByteArray) (a : Nat) (c : UInt8) : Value := .tuple #[.int .i64 ((a + G.headN (T.data.toList.drop a) : Nat) : Int), .bool (G.headF (T.data.toList.drop a) c)]
theorem one_ret (T : ByteArray) (a : Nat) (c : UInt8) (x : Int) (b : Bool) (h1 : x = ((a + G.headN (T.data.toList.drop a) : Nat) : Int)) (h2 : b = G.headF (T.data.toList.drop a) c) : Ending.returned (.tuple #[.int .i64 x, .bool b]) = .returned (oneV T a c) := by
  unfold oneV; rw [h1, h2]
section heads
variable (T : ByteArray) (a : Nat) (c : UInt8) (ha : a < T.size)
theorem ne_of {x y : UInt8} {n : Nat} (hn : y.toNat = n) (h : ((x.toNat : Int) == (n : Int)) = false) : (x == y) = false := by rw [← u8_beq x y n hn]; exact h
theorem eq_of {x y : UInt8} {n : Nat} (hn : y.toNat = n) (h : ((x.toNat : Int) == (n : Int)) = true) : x = y := by
  have := u8_beq x y n hn; rw [h] at this; exact (beq_iff_eq.mp this.symm)
theorem head_any (h : ((T[a].toNat : Int) == 63) = true) : G.headN (T.data.toList.drop a) = 1 ∧ G.headF (T.data.toList.drop a) c = true := by
  rw [drop_ba T a ha, eq_of (y := 63) (n := 63) rfl h]; exact ⟨by simp [G.headN], by simp [G.headF]⟩
theorem head_bs (h : ((T[a].toNat : Int) == 92) = true) (h1 : a + 1 < T.size) : G.headN (T.data.toList.drop a) = 2 ∧ G.headF (T.data.toList.drop a) c = (T[a + 1] == c) := by
  rw [drop_ba T a ha, eq_of (y := 92) (n := 92) rfl h, drop_ba T (a + 1) h1]; exact ⟨by simp [G.headN], by simp [G.headF]⟩
theorem head_bs_end (h : ((T[a].toNat : Int) == 92) = true) (h1 : ¬ a + 1 < T.size) : G.headN (T.data.toList.drop a) = 1 ∧ G.headF (T.data.toList.drop a) c = (T[a] == c) := by
  rw [drop_ba T a ha, eq_of (y := 92) (n := 92) rfl h, List.drop_of_length_le (by simp; omega)]; exact ⟨by simp [G.headN], by simp [G.headF]⟩
theorem head_set_none (h : ((T[a].toNat : Int) == 91) = true) (hc : G.closeOf (T.data.toList.drop (a + 1)) = none) : G.headN (T.data.toList.drop a) = 1 ∧ G.headF (T.data.toList.drop a) c = (T[a] == c) := by
  rw [drop_ba T a ha, eq_of (y := 91) (n := 91) rfl h]; exact ⟨by simp [G.headN, hc], by simp [G.headF, hc]⟩
theorem head_set (k : Nat) (h : ((T[a].toNat : Int) == 91) = true) (hc : G.closeOf (T.data.toList.drop (a + 1)) = some k) :
    G.headN (T.data.toList.drop a) = (if G.negOf (T.data.toList.drop (a + 1)) then 1 else 0) + k + 3 ∧ G.headF (T.data.toList.drop a) c = (G.holdsM c ((G.memOf (T.data.toList.drop (a + 1))).take (k + 1)) != G.negOf (T.data.toList.drop (a + 1))) := by
  rw [drop_ba T a ha, eq_of (y := 91) (n := 91) rfl h]; exact ⟨by simp [G.headN, hc], by simp [G.headF, hc]⟩
theorem head_plain (h1 : ((T[a].toNat : Int) == 63) = false) (h2 : ((T[a].toNat : Int) == 92) = false) (h3 : ((T[a].toNat : Int) == 91) = false) : G.headN (T.data.toList.drop a) = 1 ∧ G.headF (T.data.toList.drop a) c = (T[a] == c) := by
  have g1 := ne_of (y := 63) (n := 63) rfl h1
  have g2 := ne_of (y := 92) (n := 92) rfl h2
  have g3 := ne_of (y := 91) (n := 91) rfl h3
  rw [drop_ba T a ha]; exact ⟨by simp only [G.headN, g2, g3]; simp, by simp only [G.headF, g1, g2, g3]; simp⟩
end heads
theorem beq_int (x c : UInt8) : ((x.toNat : Int) == (c.toNat : Int)) = (x == c) := u8_beq x c _ rfl
set_option maxHeartbeats 400000 in
theorem one_end (T : ByteArray) (L : Int) (c : UInt8) (w : World) :
    Calls Tryz.prog 175 #[.agg #[.string T, .int .i64 L], .int .i64 T.size, .int .u8 c.toNat] w fun e w' => e = .returned (.tuple #[.int .i64 T.size, .bool false]) ∧ Below w.heap.size w w' := by
  go_enter Tryz.func175, Tryz.ntmps175
  go_wp2
  go_ret2
  exact ⟨rfl, (Below.refl _ _).alloc (Nat.le_refl _) _⟩
set_option maxHeartbeats 400000 in
theorem one_any (T : ByteArray) (L : Int) (a : Nat) (c : UInt8) (w : World) (hs : T.size ≤ 1000000) (ha : a < T.size) (h1 : ((T[a].toNat : Int) == 63) = true) :
    Calls Tryz.prog 175 #[.agg #[.string T, .int .i64 L], .int .i64 a, .int .u8 c.toNat] w fun e w' => e = .returned (oneV T a c) ∧ Below w.heap.size w w' := by
  have hi : (a : Int) < (T.size : Int) := by omega
  have hne : ((a : Int) == (T.size : Int)) = false := by rw [← Bool.not_eq_true, beq_iff_eq]; omega
  obtain ⟨e1, e2⟩ := head_any T a c ha h1
  have HF : Hid (G.headN (T.data.toList.drop a) = 1 ∧ G.headF (T.data.toList.drop a) c = true) := ⟨e1, e2⟩
  clear e1 e2
  go_enter Tryz.func175, Tryz.ntmps175
  go_wp2
  go_ret2
  exact ⟨one_ret _ _ _ _ _ (by rw [HF.out.1]; simp) HF.out.2.symm, (Below.refl _ _).alloc (Nat.le_refl _) _⟩
set_option maxHeartbeats 400000 in
theorem one_plain (T : ByteArray) (L : Int) (a : Nat) (c : UInt8) (w : World) (hs : T.size ≤ 1000000) (ha : a < T.size) (h1 : ((T[a].toNat : Int) == 63) = false) (h2 : ((T[a].toNat : Int) == 92) = false) (h3 : ((T[a].toNat : Int) == 91) = false) :
    Calls Tryz.prog 175 #[.agg #[.string T, .int .i64 L], .int .i64 a, .int .u8 c.toNat] w fun e w' => e = .returned (oneV T a c) ∧ Below w.heap.size w w' := by
  have hi : (a : Int) < (T.size : Int) := by omega
  have hne : ((a : Int) == (T.size : Int)) = false := by rw [← Bool.not_eq_true, beq_iff_eq]; omega
  obtain ⟨e1, e2⟩ := head_plain T a c ha h1 h2 h3
  have HF : Hid (G.headN (T.data.toList.drop a) = 1 ∧ G.headF (T.data.toList.drop a) c = (T[a] == c)) := ⟨e1, e2⟩
  clear e1 e2
  go_enter Tryz.func175, Tryz.ntmps175
  go_wp2
  go_quiet (fail)
  go_wp2
  go_ret2
  exact ⟨one_ret _ _ _ _ _ (by rw [HF.out.1]; simp) (by rw [HF.out.2]; exact beq_int _ _), below_drewN ((Below.refl _ _).alloc (Nat.le_refl _) _) _⟩
set_option maxHeartbeats 400000 in
theorem one_bs (T : ByteArray) (L : Int) (a : Nat) (c : UInt8) (w : World) (hs : T.size ≤ 1000000) (ha : a < T.size) (h1 : ((T[a].toNat : Int) == 63) = false) (h2 : ((T[a].toNat : Int) == 92) = true) (h3 : a + 1 < T.size) :
    Calls Tryz.prog 175 #[.agg #[.string T, .int .i64 L], .int .i64 a, .int .u8 c.toNat] w fun e w' => e = .returned (oneV T a c) ∧ Below w.heap.size w w' := by
  have hi : (a : Int) < (T.size : Int) := by omega
  have hi3 : (a : Int) + 1 < (T.size : Int) := by omega
  have hi4 : 0 ≤ (a : Int) + 1 ∧ (a : Int) + 1 < (T.size : Int) := by omega
  have hne : ((a : Int) == (T.size : Int)) = false := by rw [← Bool.not_eq_true, beq_iff_eq]; omega
  obtain ⟨e1, e2⟩ := head_bs T a c ha h2 h3
  have HF : Hid (G.headN (T.data.toList.drop a) = 2 ∧ G.headF (T.data.toList.drop a) c = (T[a + 1] == c)) := ⟨e1, e2⟩
  clear e1 e2
  go_enter Tryz.func175, Tryz.ntmps175
  go_wp2
  go_quiet (fail)
  go_wp2
  go_ret2
  exact ⟨one_ret _ _ _ _ _ (by rw [HF.out.1]; simp; omega) (by rw [HF.out.2]; exact beq_int _ _), below_drewN ((Below.refl _ _).alloc (Nat.le_refl _) _) _⟩
set_option maxHeartbeats 400000 in
theorem one_bs_end (T : ByteArray) (L : Int) (a : Nat) (c : UInt8) (w : World) (hs : T.size ≤ 1000000) (ha : a < T.size) (h1 : ((T[a].toNat : Int) == 63) = false) (h2 : ((T[a].toNat : Int) == 92) = true) (h3 : ¬ a + 1 < T.size) :
    Calls Tryz.prog 175 #[.agg #[.string T, .int .i64 L], .int .i64 a, .int .u8 c.toNat] w fun e w' => e = .returned (oneV T a c) ∧ Below w.heap.size w w' := by
  have hi : (a : Int) < (T.size : Int) := by omega
  have hi3 : ¬ (a : Int) + 1 < (T.size : Int) := by omega
  have hne : ((a : Int) == (T.size : Int)) = false := by rw [← Bool.not_eq_true, beq_iff_eq]; omega
  obtain ⟨e1, e2⟩ := head_bs_end T a c ha h2 h3
  have HF : Hid (G.headN (T.data.toList.drop a) = 1 ∧ G.headF (T.data.toList.drop a) c = (T[a] == c)) := ⟨e1, e2⟩
  clear e1 e2
  go_enter Tryz.func175, Tryz.ntmps175
  go_wp2
  go_quiet (fail)
  go_wp2
  go_ret2
  exact ⟨one_ret _ _ _ _ _ (by rw [HF.out.1]; simp) (by rw [HF.out.2]; exact beq_int _ _), below_drewN ((Below.refl _ _).alloc (Nat.le_refl _) _) _⟩
set_option maxHeartbeats 400000 in
theorem one_set_none (T : ByteArray) (L : Int) (a : Nat) (c : UInt8) (w : World) (hs : T.size ≤ 1000000) (ha : a < T.size) (hL : LastOk T L) (h1 : ((T[a].toNat : Int) == 63) = false) (h2 : ((T[a].toNat : Int) == 92) = false) (h3 : ((T[a].toNat : Int) == 91) = true) (hc : G.closeOf (T.data.toList.drop (a + 1)) = none) :
    Calls Tryz.prog 175 #[.agg #[.string T, .int .i64 L], .int .i64 a, .int .u8 c.toNat] w fun e w' => e = .returned (oneV T a c) ∧ Below w.heap.size w w' := by
  have hi : (a : Int) < (T.size : Int) := by omega
  have hne : ((a : Int) == (T.size : Int)) = false := by rw [← Bool.not_eq_true, beq_iff_eq]; omega
  obtain ⟨e1, e2⟩ := head_set_none T a c ha h3 hc
  have HF : Hid (G.headN (T.data.toList.drop a) = 1 ∧ G.headF (T.data.toList.drop a) c = (T[a] == c)) := ⟨e1, e2⟩
  have HC : Hid (LastOk T L ∧ G.closeOf (T.data.toList.drop (a + 1)) = none) := ⟨hL, hc⟩
  clear e1 e2 hL hc
  go_enter Tryz.func175, Tryz.ntmps175
  go_wp2_with fail
  refine (set_none T L a _ hs ha HC.out.1 HC.out.2).mono ?_
  rintro e w1 ⟨rfl, hb⟩
  obtain ⟨hc1, hf1⟩ := bcell hb
  have hx : w1.cell? ⟨w.heap.size, 0, none⟩ = some (.string T) := by rw [hc1 _ _ (by simp)]; simp
  clear hc1 hf1
  go_wp2
  go_quiet (fail)
  go_wp2
  go_ret2
  exact ⟨one_ret _ _ _ _ _ (by rw [HF.out.1]; simp) (by rw [HF.out.2]; exact beq_int _ _), below_drewN (((Below.refl _ _).alloc (Nat.le_refl _) _).trans (hb.mono (by simp))) _⟩
theorem mem_eq (T : ByteArray) (a k : Nat) : ((T.extract (a + 1 + (if G.negOf (T.data.toList.drop (a + 1)) then 1 else 0)) (a + 1 + (if G.negOf (T.data.toList.drop (a + 1)) then 1 else 0) + k + 1)).data.toList) = (G.memOf (T.data.toList.drop (a + 1))).take (k + 1) := by
  rw [Lib.extract_data]
  unfold G.memOf
  generalize G.negOf (T.data.toList.drop (a + 1)) = n
  cases n
  · simp; congr 1; omega
  · simp; congr 1; omega
set_option maxHeartbeats 400000 in
theorem one_set (T : ByteArray) (L : Int) (a k : Nat) (c : UInt8) (w : World) (hs : T.size ≤ 1000000) (ha : a < T.size) (hL : LastOk T L) (h1 : ((T[a].toNat : Int) == 63) = false) (h2 : ((T[a].toNat : Int) == 92) = false) (h3 : ((T[a].toNat : Int) == 91) = true) (hc : G.closeOf (T.data.toList.drop (a + 1)) = some k) :
    Calls Tryz.prog 175 #[.agg #[.string T, .int .i64 L], .int .i64 a, .int .u8 c.toNat] w fun e w' => e = .returned (oneV T a c) ∧ Below w.heap.size w w' := by
  have hi : (a : Int) < (T.size : Int) := by omega
  have hne : ((a : Int) == (T.size : Int)) = false := by rw [← Bool.not_eq_true, beq_iff_eq]; omega
  obtain ⟨e1, e2⟩ := head_set T a c ha k h3 hc
  have hset := set_some T L a k (w.alloc (.cells #[.string T, .int .i64 L] 158)) hs ha hL hc
  have hmem := mem_eq T a k
  have hlt := idx_lt _ _ _ ((close_eq T a) ▸ hc)
  obtain ⟨m, hm⟩ : ∃ m : Nat, m = a + 1 + (if G.negOf (T.data.toList.drop (a + 1)) then 1 else 0) := ⟨_, rfl⟩
  obtain ⟨ng, hng⟩ : ∃ ng : Bool, ng = G.negOf (T.data.toList.drop (a + 1)) := ⟨_, rfl⟩
  have e1' : ((a + G.headN (T.data.toList.drop a) : Nat) : Int) = (m : Int) + k + 1 + 1 := by rw [e1, hm]; omega
  rw [← hm] at hset hmem
  rw [← hng] at hset
  rw [← hmem, ← hng] at e2
  rw [← hm] at hlt
  have hmk : m + k + 1 < T.size := by simp at hlt; omega
  have hm1 : a + 1 ≤ m := by omega
  have HF : Hid (((a + G.headN (T.data.toList.drop a) : Nat) : Int) = (m : Int) + k + 1 + 1 ∧ G.headF (T.data.toList.drop a) c = (G.holdsM c (T.extract m (m + k + 1)).data.toList != ng)) := ⟨e1', e2⟩
  have HSE : Hid (Calls Tryz.prog 205 #[.agg #[.string T, .int .i64 L], .int .i64 a] (w.alloc (.cells #[.string T, .int .i64 L] 158)) fun e w' =>
      e = .returned (.tuple #[.int .i64 (m : Int), .int .i64 ((m + k + 1 : Nat) : Int), .bool ng]) ∧ Below (w.alloc (.cells #[.string T, .int .i64 L] 158)).heap.size (w.alloc (.cells #[.string T, .int .i64 L] 158)) w') := hset
  clear e1 e2 hL hc hset hmem hlt hm hng e1'
  go_enter Tryz.func175, Tryz.ntmps175
  go_wp2_with fail
  refine HSE.out.mono ?_
  rintro e w1 ⟨rfl, hb⟩
  obtain ⟨hc1, hf1⟩ := bcell hb
  have hx : w1.cell? ⟨w.heap.size, 0, none⟩ = some (.string T) := by rw [hc1 _ _ (by simp)]; simp
  clear hc1 hf1
  go_wp2_with fail
  refine (holds_any (T.extract m (m + k + 1)) c _ (by simp; omega)).mono ?_
  rintro e w2 ⟨rfl, n, rfl⟩
  go_wp2
  go_ret2
  exact ⟨one_ret _ _ _ _ _ HF.out.1.symm (by rw [HF.out.2, Lib.extract_data]; simp [bne]), below_drewN (((Below.refl _ _).alloc (Nat.le_refl _) _).trans (hb.mono (by simp))) _⟩
theorem one_spec (T : ByteArray) (L : Int) (a : Nat) (c : UInt8) (w : World) (hs : T.size ≤ 1000000) (ha : a < T.size) (hL : LastOk T L) :
    Calls Tryz.prog 175 #[.agg #[.string T, .int .i64 L], .int .i64 a, .int .u8 c.toNat] w fun e w' => e = .returned (oneV T a c) ∧ Below w.heap.size w w' := by
  cases h1 : ((T[a].toNat : Int) == 63)
  · cases h2 : ((T[a].toNat : Int) == 92)
    · cases h3 : ((T[a].toNat : Int) == 91)
      · exact one_plain T L a c w hs ha h1 h2 h3
      · cases hc : G.closeOf (T.data.toList.drop (a + 1)) with
        | none => exact one_set_none T L a c w hs ha hL h1 h2 h3 hc
        | some k => exact one_set T L a k c w hs ha hL h1 h2 h3 hc
    · by_cases h3 : a + 1 < T.size
      · exact one_bs T L a c w hs ha h1 h2 h3
      · exact one_bs_end T L a c w hs ha h1 h2 h3
  · exact one_any T L a c w hs ha h1
theorem headN_fits (T : ByteArray) (a : Nat) (ha : a < T.size) : a + G.headN (T.data.toList.drop a) ≤ T.size := by
  rw [drop_ba T a ha]
  simp only [G.headN]
  split
  · split
    · omega
    · rename_i hr; have hr' : T.data.toList.drop (a + 1) ≠ [] := by intro h; rw [h] at hr; simp at hr
      have := List.length_pos_iff.mpr hr'; simp at this; omega
  · split
    · cases hc : G.closeOf (T.data.toList.drop (a + 1)) with
      | none => simp only; omega
      | some k =>
        simp only
        have hlt := idx_lt _ _ _ ((close_eq T a) ▸ hc)
        simp at hlt; omega
    · omega
end Go.Proofs.YtpcpcfnmcfjomaaGreatDoor
namespace Go.Proofs.YtpcpcfnmcfjomaaGreatDoor
open Go.RowKit
def agI : Option Nat → Int
  | none => -1
  | some g => g
def mu (n t s a i f : Nat) : Nat := (s - f) * n + ((t - a) + (s - i))
theorem mu_lt {n t s a i f a' i' f' : Nat} (h : f' = f ∧ (t - a') + (s - i') < (t - a) + (s - i) ∨ f < f' ∧ f < s ∧ (t - a') + (s - i') < n) : mu n t s a' i' f' < mu n t s a i f := by
  unfold mu
  rcases h with ⟨rfl, h⟩ | ⟨h1, h2, h3⟩
  · omega
  · have e : (s - f') * n + n ≤ (s - f) * n := by
      have : (s - f' + 1) * n ≤ (s - f) * n := Nat.mul_le_mul_right n (by omega)
      rw [Nat.add_mul] at this; omega
    omega
theorem below_on {B : Nat} {w0 wr w1 wx : World} (hb : Below B w0 wr) (hB : B ≤ wr.heap.size) (hx : Below B wr wx) (hb1 : Below wx.heap.size wx w1) (he : wr.heap.size ≤ wx.heap.size) : Below B w0 w1 :=
  (hb.trans hx).trans (hb1.mono (Nat.le_trans hB he))
theorem below_out {w w1 : World} {o : Obj} (h : Below (w.heap.size + 1) (w.alloc o) w1) : Below w.heap.size w w1 :=
  ((Below.refl _ _).alloc (Nat.le_refl _) _).trans (h.mono (by omega))
theorem trim_all (l : List UInt8) : (Lib.trimLeftB l 42).isEmpty = l.all (· == 42) := by
  unfold Lib.trimLeftB
  induction l with
  | nil => rfl
  | cons c r ih =>
    cases h : (c == 42) with
    | true => rw [List.dropWhile_cons, if_pos h, ih]; simp [h]
    | false => rw [List.dropWhile_cons, if_neg (by simp [h])]; simp [h]
set_option maxHeartbeats 1600000 in
theorem matches_any (T s : ByteArray) (L : Int) (w : World) (hs : T.size ≤ 1000000) (hss : s.size ≤ 1000000) (hL : LastOk T L) :
    Calls Tryz.prog 131 #[.agg #[.string T, .int .i64 L], .string s] w fun e w' => e = .returned (.bool (G.matchB T.data.toList s.data.toList)) ∧ Below w.heap.size w w' := by
  have HL : Hid (LastOk T L) := hL
  clear hL
  go_enter Tryz.func131, Tryz.ntmps131
  go_wp2
  go_loopw [5, 6, 7, 8] (fun va vi vg vf wr => ∃ (a i f : Nat) (ag : Option Nat), va = .int .i64 a ∧ vi = .int .i64 i ∧ vg = .int .i64 (agI ag) ∧ vf = .int .i64 f ∧ a ≤ T.size ∧ i ≤ s.size ∧ f ≤ i ∧ Hid (G.Inv T.data.toList s.data.toList (G.matchB T.data.toList s.data.toList) a i ag f) ∧ Below (w.heap.size + 1) (w.alloc (.cells #[.string T, .int .i64 L] 158)) wr)
    (fun va vi _ vf _ => mu (T.size + s.size + 2) T.size s.size (intOf va).toNat (intOf vi).toNat (intOf vf).toNat)
  case atStart => exact ⟨0, 0, 0, none, rfl, rfl, rfl, rfl, Nat.zero_le _, Nat.zero_le _, Nat.zero_le _, G.inv_start _ _, Below.refl _ _⟩
  case round =>
    obtain ⟨a, i, f, ag, rfl, rfl, rfl, rfl, ha, hi, hf, HI, hb⟩ := hrel
    have hx0 : wr.cell? ⟨w.heap.size, 0, none⟩ = some (.string T) := by rw [hb.cell (p := ⟨w.heap.size, 0, none⟩) (by simp)]; simp
    have hx1 : wr.cell? ⟨w.heap.size, 1, none⟩ = some (.int .i64 L) := by rw [hb.cell (p := ⟨w.heap.size, 1, none⟩) (by simp)]; simp
    have hbs := hb.size
    by_cases hlt : i < s.size
    · have hil : (i : Int) < (s.size : Int) := by omega
      by_cases hat : a < T.size
      · have hatl : (a : Int) < (T.size : Int) := by omega
        cases hstar : ((T[a].toNat : Int) == 42)
        · have hn42 : (T.data.toList[a]'(by simpa using hat) == 42) = false := by rw [← u8_beq _ 42 42 rfl]; exact hstar
          obtain ⟨nx, hnx⟩ : ∃ nx : Nat, nx = a + G.headN (T.data.toList.drop a) := ⟨_, rfl⟩
          obtain ⟨ok, hok⟩ : ∃ ok : Bool, ok = G.headF (T.data.toList.drop a) s[i] := ⟨_, rfl⟩
          have HO : Hid (∀ W, Calls Tryz.prog 175 #[.agg #[.string T, .int .i64 L], .int .i64 a, .int .u8 s[i].toNat] W fun e w' => e = .returned (.tuple #[.int .i64 nx, .bool ok]) ∧ Below W.heap.size W w') := by
            intro W; rw [hnx, hok]; exact one_spec T L a s[i] W hs hat HL.out
          have hfit := headN_fits T a hat
          rw [← hnx] at hfit
          have hnx1 : a < nx := by have := G.headN_pos T[a] (T.data.toList.drop (a + 1)); rw [← drop_ba T a hat] at this; omega
          cases ok
          · cases ag with
            | none =>
              have HR : Hid (G.matchB T.data.toList s.data.toList = false) := G.inv_fail_none HI.out (by simpa using hlt) (Or.inr ⟨by simpa using hat, hn42, hok.symm⟩)
              clear hnx hok HI hn42
              go_wp2
              go_region_with (go_at_call 175; refine (HO.out _).mono ?_; rintro e w1 ⟨rfl, hb1⟩)
              all_goals
                go_wp2
                go_ret
                exact ⟨ret_bool HR.out.symm, below_out (below_on hb (by simp at hbs; omega) (Below.refl _ _).drew hb1 (Nat.le_refl _))⟩
            | some g =>
              have HN : Hid (G.Inv T.data.toList s.data.toList (G.matchB T.data.toList s.data.toList) g (f + 1) (some g) (f + 1)) := G.inv_fail_some HI.out (by simpa using hlt) (Or.inr ⟨by simpa using hat, hn42, hok.symm⟩)
              have hg : g ≤ T.size := by have := HN.out.1; simpa using this
              have hag : agI (some g) = (g : Int) := rfl
              clear hnx hok hn42 HI
              go_wp2
              go_region_with (go_at_call 175; refine (HO.out _).mono ?_; rintro e w1 ⟨rfl, hb1⟩)
              all_goals
                go_wp2
                go_roundw
                case rel => exact ⟨g, f + 1, f + 1, some g, by go_num, by go_num, by go_num, by go_num, hg, by omega, by omega, HN, below_on hb (by simp at hbs; omega) (Below.refl _ _).drew hb1 (Nat.le_refl _)⟩
                case measure => simp only [intOf]; refine mu_lt ?_; simp <;> omega
          · have HX : Hid (nx = a + G.headN (T.data.toList.drop a) ∧ true = G.headF (T.data.toList.drop a) s[i] ∧ (T.data.toList[a]'(by simpa using hat) == 42) = false) := ⟨hnx, hok, hn42⟩
            clear hnx hok hn42
            go_wp2
            go_region_with (go_at_call 175; refine (HO.out _).mono ?_; rintro e w1 ⟨rfl, hb1⟩)
            all_goals
              go_wp2
              go_roundw
              case rel =>
                refine ⟨nx, i + 1, f, ag, rfl, by go_num, rfl, rfl, hfit, by omega, by omega, ?_, below_on hb (by simp at hbs; omega) (Below.refl _ _).drew hb1 (Nat.le_refl _)⟩
                show G.Inv _ _ _ _ _ _ _
                have h := HX.out
                rw [h.1]
                exact G.inv_one HI.out (by simpa using hat) h.2.2 (by simpa using hlt) h.2.1.symm (by rw [← h.1]; simpa using hfit)
              case measure => simp only [intOf]; refine mu_lt ?_; simp <;> omega
        · have h42 : T.data.toList[a]'(by simpa using hat) = 42 := eq_of (x := T[a]) (y := 42) (n := 42) rfl hstar
          have HN : Hid (G.Inv T.data.toList s.data.toList (G.matchB T.data.toList s.data.toList) (a + 1) i (some (a + 1)) i) := G.inv_star HI.out (by simpa using hat) h42
          clear h42
          go_wp2
          go_roundw
          case rel => exact ⟨a + 1, i, i, some (a + 1), by go_num, rfl, by simp [agI], rfl, by omega, by omega, by omega, HN, hb⟩
          case measure => simp only [intOf]; refine mu_lt ?_; by_cases hfi : f = i <;> simp <;> omega
      · obtain rfl : a = T.size := by omega
        have HO : Hid (∀ W, Calls Tryz.prog 175 #[.agg #[.string T, .int .i64 L], .int .i64 T.size, .int .u8 s[i].toNat] W fun e w' => e = .returned (.tuple #[.int .i64 T.size, .bool false]) ∧ Below W.heap.size W w') := fun W => one_end T L s[i] W
        cases ag with
        | none =>
          have HR : Hid (G.matchB T.data.toList s.data.toList = false) := G.inv_fail_none HI.out (by simpa using hlt) (Or.inl (by simp))
          clear HI
          go_wp2
          go_region_with (go_at_call 175; refine (HO.out _).mono ?_; rintro e w1 ⟨rfl, hb1⟩)
          all_goals
            go_wp2
            go_ret
            exact ⟨ret_bool HR.out.symm, below_out (below_on hb (by simp at hbs; omega) (Below.refl _ _).drew hb1 (Nat.le_refl _))⟩
        | some g =>
          have HN : Hid (G.Inv T.data.toList s.data.toList (G.matchB T.data.toList s.data.toList) g (f + 1) (some g) (f + 1)) := G.inv_fail_some HI.out (by simpa using hlt) (Or.inl (by simp))
          have hg : g ≤ T.size := by have := HN.out.1; simpa using this
          have hag : agI (some g) = (g : Int) := rfl
          clear HI
          go_wp2
          go_region_with (go_at_call 175; refine (HO.out _).mono ?_; rintro e w1 ⟨rfl, hb1⟩)
          all_goals
            go_wp2
            go_roundw
            case rel => exact ⟨g, f + 1, f + 1, some g, by go_num, by go_num, by go_num, by go_num, hg, by omega, by omega, HN, below_on hb (by simp at hbs; omega) (Below.refl _ _).drew hb1 (Nat.le_refl _)⟩
            case measure => simp only [intOf]; refine mu_lt ?_; simp <;> omega
    · obtain rfl : i = s.size := by omega
      have HR : Hid (G.matchB T.data.toList s.data.toList = (T.data.toList.drop a).all (· == 42)) := by
        have h := HI.out
        rw [show s.size = s.data.toList.length by simp] at h
        exact G.inv_end h
      go_wp2_with (go_at_call 176; refine (Tryz.strings_TrimLeft_one (T.extract a T.size) 42 (by decide) _).mono ?_; rintro e w' ⟨rfl, rfl⟩)
      go_ret
      refine ⟨ret_bool ?_, below_out hb⟩
      rw [HR.out, trim_all, List.take_of_length_le (by simp)]
end Go.Proofs.YtpcpcfnmcfjomaaGreatDoor
namespace Go.Proofs.YtpcpcfnmcfjomaaGreatDoor
open Go.RowKit
theorem idx_none (c : UInt8) : ∀ l : List UInt8, G.idx c l = none ↔ ∀ x ∈ l, x ≠ c := by
  intro l
  induction l with
  | nil => simp [G.idx]
  | cons b l ih =>
    unfold G.idx
    by_cases hb : b = c
    · subst hb; simp
    · have : (b == c) = false := by simpa using hb
      simp [this, ih, hb]
theorem last_ok (T : ByteArray) : LastOk T (Lib.lastIndexByte T 93) := by
  intro f
  rw [idx_none]
  have hat : ∀ j, (hj : j < T.size) → (((T.data[j]!).toNat : Int) ≠ 93 ↔ T[j] ≠ 93) := by
    intro j hj
    have e : T.data[j]! = T[j] := by rw [getElem!_pos T.data j hj]; rfl
    rw [e]
    have := u8_beq T[j] 93 93 rfl
    constructor
    · intro h h2; rw [h2] at h; exact h rfl
    · intro h h2; apply h; rw [u8_eq_iff]; show T[j].toNat = 93; omega
  rcases Lib.lastIndexByte_spec T 93 with ⟨e, hn⟩ | ⟨i, hi, e, hc, hn⟩
  · rw [e]
    refine ⟨fun _ x hx => ?_, fun _ => by omega⟩
    obtain ⟨j, hj, rfl⟩ := List.getElem_of_mem hx
    simp at hj
    rw [List.getElem_drop]
    exact (hat (f + 1 + j) (by omega)).1 (hn _ (by omega))
  · rw [e]
    constructor
    · intro h x hx
      obtain ⟨j, hj, rfl⟩ := List.getElem_of_mem hx
      simp at hj
      rw [List.getElem_drop]
      exact (hat (f + 1 + j) (by omega)).1 (hn _ (by omega) (by omega))
    · intro h
      apply Int.not_lt.mp
      intro hlt
      have hf : f < i := by omega
      have hm : T[i] ∈ T.data.toList.drop (f + 1) := by
        obtain ⟨d, rfl⟩ : ∃ d, i = f + 1 + d := ⟨i - (f + 1), by omega⟩
        have : (T.data.toList.drop (f + 1))[d]'(by simp; omega) = T[f + 1 + d] := List.getElem_drop ..
        rw [← this]; exact List.getElem_mem _
      have h9 := h _ hm
      exact ((hat i hi).2 h9) hc
set_option maxHeartbeats 400000 in
theorem read_any (T : ByteArray) (w : World) (hs : T.size ≤ 1000000) :
    Calls Tryz.prog 130 #[.string T] w fun e w' => e = .returned (.agg #[.string T, .int .i64 (Lib.lastIndexByte T 93)]) ∧ Below w.heap.size w w' := by
  obtain ⟨L, hL⟩ : ∃ L, L = Lib.lastIndexByte T 93 := ⟨_, rfl⟩
  have HO : Hid (∀ W, Calls Tryz.prog 140 #[.string T, .int .u8 93] W fun e w' => e = .returned (.int .i64 L) ∧ w' = W) := by
    intro W; rw [hL]; exact Tryz.strings_LastIndexByte T 93 (by omega) W
  rw [← hL]
  clear hL hs
  go_enter Tryz.func130, Tryz.ntmps130
  go_wp2_with (go_at_call 140; refine (HO.out _).mono ?_; rintro e w' ⟨rfl, rfl⟩)
  refine bodyPost_ret (v := .agg #[.string T, .int .i64 L]) (by simp [results, Tryz.results130, go_sem]) rfl ⟨rfl, ?_⟩
  exact (Below.refl _ _).alloc (Nat.le_refl _) _
set_option maxHeartbeats 400000 in
theorem match_any (T s : ByteArray) (w : World) (hs : T.size ≤ 1000000) (hss : s.size ≤ 1000000) :
    Calls Tryz.prog 88 #[.string T, .string s] w fun e w' => e = .returned (.bool (G.matchB T.data.toList s.data.toList)) ∧ Below w.heap.size w w' := by
  obtain ⟨b, hb⟩ : ∃ b, b = G.matchB T.data.toList s.data.toList := ⟨_, rfl⟩
  obtain ⟨L, hL⟩ : ∃ L, L = Lib.lastIndexByte T 93 := ⟨_, rfl⟩
  have HR : Hid (∀ W, Calls Tryz.prog 130 #[.string T] W fun e w' => e = .returned (.agg #[.string T, .int .i64 L]) ∧ Below W.heap.size W w') := by
    intro W; rw [hL]; exact read_any T W hs
  have HM : Hid (∀ W, Calls Tryz.prog 131 #[.agg #[.string T, .int .i64 L], .string s] W fun e w' => e = .returned (.bool b) ∧ Below W.heap.size W w') := by
    intro W; rw [hb]; exact matches_any T s L W hs hss (hL ▸ last_ok T)
  rw [← hb]
  clear hL hs hss hb
  go_enter Tryz.func88, Tryz.ntmps88
  go_wp2_with fail
  refine (HR.out _).mono ?_
  rintro e w1 ⟨rfl, hb1⟩
  go_wp2_with fail
  refine (HM.out _).mono ?_
  rintro e w2 ⟨rfl, hb2⟩
  go_wp2
  go_ret
  exact ⟨rfl, hb1.trans (hb2.mono hb1.size)⟩
end Go.Proofs.YtpcpcfnmcfjomaaGreatDoor
namespace Go.Proofs.YtpcpcfnmcfjomaaGreatDoor.GR
open Go.RowKit
theorem ret_int {k : IntKind} {a b : Int} (h : a = b) : Ending.returned (.int k a) = .returned (.int k b) := by rw [h]
theorem idx_step (p : ByteArray) (k : Nat) (h : k < p.size) (hc : ((p[k].toNat : Int) == 93) = false) : G.idx 93 (p.data.toList.drop k) = (G.idx 93 (p.data.toList.drop (k + 1))).map (· + 1) := by
  rw [drop_ba p k h, G.idx, if_neg]
  rw [← u8_beq _ 93 93 rfl]; simpa using hc
theorem idx_hit (p : ByteArray) (k : Nat) (h : k < p.size) (hc : ((p[k].toNat : Int) == 93) = true) : G.idx 93 (p.data.toList.drop k) = some 0 := by
  rw [drop_ba p k h, G.idx, if_pos]
  rw [← u8_beq _ 93 93 rfl]; exact hc
theorem idx_out (p : ByteArray) (k : Nat) (h : ¬ k < p.size) : G.idx 93 (p.data.toList.drop k) = none := by
  rw [List.drop_of_length_le (by simp; omega)]; rfl
def fromI (b : Nat) (o : Option Nat) : Int := match o with | some k => (b : Int) + k + 1 | none => -1
theorem from_step (p : ByteArray) (k : Nat) (h : k < p.size) (hc : ((p[k].toNat : Int) == 93) = false) : fromI k (G.idx 93 (p.data.toList.drop k)) = fromI (k + 1) (G.idx 93 (p.data.toList.drop (k + 1))) := by
  rw [idx_step p k h hc]
  cases G.idx 93 (p.data.toList.drop (k + 1)) with
  | none => rfl
  | some j => simp only [fromI, Option.map_some]; omega
set_option maxHeartbeats 800000 in
theorem refset_two (p : ByteArray) (w : World) (hs : p.size ≤ 1000000) (h0 : 0 < p.size) (hn : ∀ h : 1 < p.size, ((p[1].toNat : Int) == 33) = false ∧ ((p[1].toNat : Int) == 94) = false) :
    Calls Tryz.prog 159 #[.string p] w fun e w' => e = .returned (.int .i64 (fromI 2 (G.idx 93 (p.data.toList.drop 2)))) ∧ w' = w := by
  by_cases h1 : 1 < p.size
  · have hi1 : (1 : Int) < (p.size : Int) := by omega
    obtain ⟨h3, h4⟩ := hn h1
    clear hn
    go_enter Tryz.func159, Tryz.ntmps159
    go_wp2
    go_loop [4] (fun vk => ∃ k : Nat, 2 ≤ k ∧ k ≤ 1000002 ∧ vk = .int .i64 k ∧ Hid (fromI k (G.idx 93 (p.data.toList.drop k)) = fromI 2 (G.idx 93 (p.data.toList.drop 2)))) (fun vk => p.size - (intOf vk).toNat)
    case atStart => exact ⟨2, by omega, by omega, rfl, rfl⟩
    case round =>
      obtain ⟨k, hk1, hk2, rfl, HR⟩ := hrel
      by_cases hlt : k < p.size
      · have hil : (k : Int) < (p.size : Int) := by omega
        cases hc : ((p[k].toNat : Int) == 93)
        · go_wp2
          go_round
          case rel => exact ⟨k + 1, by omega, by omega, by go_num, (from_step p k hlt hc).symm.trans HR.out⟩
          case measure => simp [intOf]; omega
        · go_wp2
          go_ret
          exact ⟨ret_int (by rw [← HR.out, idx_hit p k hlt hc]; simp [fromI]), rfl⟩
      · go_wp2
        go_ret
        exact ⟨ret_int (by rw [← HR.out, idx_out p k hlt]; rfl), rfl⟩
  · have hi1 : ¬ (1 : Int) < (p.size : Int) := by omega
    clear hn
    go_enter Tryz.func159, Tryz.ntmps159
    go_wp2
    go_loop [4] (fun vk => ∃ k : Nat, 2 ≤ k ∧ k ≤ 1000002 ∧ vk = .int .i64 k ∧ Hid (fromI k (G.idx 93 (p.data.toList.drop k)) = fromI 2 (G.idx 93 (p.data.toList.drop 2)))) (fun vk => p.size - (intOf vk).toNat)
    case atStart => exact ⟨2, by omega, by omega, rfl, rfl⟩
    case round =>
      obtain ⟨k, hk1, hk2, rfl, HR⟩ := hrel
      by_cases hlt : k < p.size
      · have hil : (k : Int) < (p.size : Int) := by omega
        cases hc : ((p[k].toNat : Int) == 93)
        · go_wp2
          go_round
          case rel => exact ⟨k + 1, by omega, by omega, by go_num, (from_step p k hlt hc).symm.trans HR.out⟩
          case measure => simp [intOf]; omega
        · go_wp2
          go_ret
          exact ⟨ret_int (by rw [← HR.out, idx_hit p k hlt hc]; simp [fromI]), rfl⟩
      · go_wp2
        go_ret
        exact ⟨ret_int (by rw [← HR.out, idx_out p k hlt]; rfl), rfl⟩
set_option maxHeartbeats 800000 in
theorem refset_three (p : ByteArray) (w : World) (hs : p.size ≤ 1000000) (h1 : 1 < p.size) (hn : ((p[1].toNat : Int) == 33 || (p[1].toNat : Int) == 94) = true) :
    Calls Tryz.prog 159 #[.string p] w fun e w' => e = .returned (.int .i64 (fromI 3 (G.idx 93 (p.data.toList.drop 3)))) ∧ w' = w := by
  have hi1 : (1 : Int) < (p.size : Int) := by omega
  cases h3 : ((p[1].toNat : Int) == 33)
  all_goals
    have h4 : ((p[1].toNat : Int) == 33 || (p[1].toNat : Int) == 94) = true := hn
    rw [h3] at h4
    simp only [Bool.true_or, Bool.false_or] at h4
    clear hn
    go_enter Tryz.func159, Tryz.ntmps159
    go_wp2
    go_loop [4] (fun vk => ∃ k : Nat, 3 ≤ k ∧ k ≤ 1000002 ∧ vk = .int .i64 k ∧ Hid (fromI k (G.idx 93 (p.data.toList.drop k)) = fromI 3 (G.idx 93 (p.data.toList.drop 3)))) (fun vk => p.size - (intOf vk).toNat)
    case atStart => exact ⟨3, by omega, by omega, rfl, rfl⟩
    case round =>
      obtain ⟨k, hk1, hk2, rfl, HR⟩ := hrel
      by_cases hlt : k < p.size
      · have hil : (k : Int) < (p.size : Int) := by omega
        cases hc : ((p[k].toNat : Int) == 93)
        · go_wp2
          go_round
          case rel => exact ⟨k + 1, by omega, by omega, by go_num, (from_step p k hlt hc).symm.trans HR.out⟩
          case measure => simp [intOf]; omega
        · go_wp2
          go_ret
          exact ⟨ret_int (by rw [← HR.out, idx_hit p k hlt hc]; simp [fromI]), rfl⟩
      · go_wp2
        go_ret
        exact ⟨ret_int (by rw [← HR.out, idx_out p k hlt]; rfl), rfl⟩
theorem refset_any (p : ByteArray) (w : World) (hs : p.size ≤ 1000000) (h0 : 0 < p.size) :
    Calls Tryz.prog 159 #[.string p] w fun e w' => e = .returned (.int .i64 (fromI (1 + (if G.negOf (p.data.toList.drop 1) then 1 else 0) + 1) (G.closeOf (p.data.toList.drop 1)))) ∧ w' = w := by
  have hcl := close_eq p 0
  simp only [Nat.zero_add] at hcl
  rw [hcl]
  by_cases h1 : 1 < p.size
  · have hne := neg_eq p 0 (by omega)
    simp only [Nat.zero_add] at hne
    cases h3 : ((p[1].toNat : Int) == 33 || (p[1].toNat : Int) == 94)
    · rw [h3] at hne
      rw [hne]
      rw [Bool.or_eq_false_iff] at h3
      exact refset_two p w hs h0 (fun _ => h3)
    · rw [h3] at hne
      rw [hne]
      exact refset_three p w hs h1 h3
  · have hne : G.negOf (p.data.toList.drop 1) = false := by rw [List.drop_of_length_le (by simp; omega)]; rfl
    rw [hne]
    exact refset_two p w hs h0 (fun h => absurd h h1)
end Go.Proofs.YtpcpcfnmcfjomaaGreatDoor.GR
