/-
  PMark
-/
import Derived.Test.YtedepknbaakkhabGreatDoorK19
set_option maxRecDepth 20000
namespace Go.Proofs.YtedepknbaakkhabGreatDoor.X
open Go.RowKit Go.Shelf RxSem
def MarkPost (b : Nat) (t : ByteArray) (i : Nat) (c : UInt8) (w : World) (R : Nat ⊕ (Nat × Bool)) (e : Ending) (w' : World) : Prop := Wrote b w w' ∧ match R with
  | .inl why => e = .returned (.tuple #[signV ⟨0, SV.zero⟩, faultV why i])
  | .inr (o', a') => e = .returned (.tuple #[signV ⟨c, SV.zero⟩, faultV 0 0]) ∧ Rd b t (i + 1) o' a' w'
set_option maxHeartbeats 400000 in
theorem mark_41 {b : Nat} {t : ByteArray} {i o : Nat} {ah : Bool} (w : World) (h : Rd b t i (o + 1) ah w) (ht : t.size ≤ 1000000) (hi : i < t.size) (ho : o + 1 ≤ 16) : Calls Tryz.prog 147 #[.pointer (some ⟨b, 0, none⟩), .int .u8 41] w (MarkPost b t i 41 w (.inr (o, true))) := by
  have hb := h.lt
  obtain ⟨W0, hW, hB, hS, k1, k2⟩ := two w (.cells #[.int .u8 0, .int .i64 0, .int .u64 0, .int .u64 0, .int .u64 0, .int .u64 0, .int .i64 0, .int .i64 0] 148) (.cells #[.int .i64 0, .int .i64 0] 28)
  have HI : Hid (∀ W, Calls Tryz.prog 142 #[.string ⟨#[42, 43, 63]⟩, .int .u8 41] W fun e w' => e = .returned (.int .i64 (-1)) ∧ w' = W) := fun W => Tryz.strings_IndexByte ⟨#[42, 43, 63]⟩ 41 W
  have h0 := h.below hB
  have c1 := h0.c1
  have c2 := h0.c2
  have c3 := h0.c3
  have fr := h0.fr
  have b0 : ¬ b = w.heap.size := by omega
  have b1 : ¬ b = w.heap.size + 1 := by omega
  have s0 : W0.cell? ⟨w.heap.size, 0, none⟩ = some (.int .u8 0) := by simp only [World.cell?, k1]; rfl
  have s1 : W0.cell? ⟨w.heap.size, 1, none⟩ = some (.int .i64 0) := by simp only [World.cell?, k1]; rfl
  have s2 : W0.cell? ⟨w.heap.size, 2, none⟩ = some (.int .u64 0) := by simp only [World.cell?, k1]; rfl
  have s3 : W0.cell? ⟨w.heap.size, 3, none⟩ = some (.int .u64 0) := by simp only [World.cell?, k1]; rfl
  have s4 : W0.cell? ⟨w.heap.size, 4, none⟩ = some (.int .u64 0) := by simp only [World.cell?, k1]; rfl
  have s5 : W0.cell? ⟨w.heap.size, 5, none⟩ = some (.int .u64 0) := by simp only [World.cell?, k1]; rfl
  have s6 : W0.cell? ⟨w.heap.size, 6, none⟩ = some (.int .i64 0) := by simp only [World.cell?, k1]; rfl
  have s7 : W0.cell? ⟨w.heap.size, 7, none⟩ = some (.int .i64 0) := by simp only [World.cell?, k1]; rfl
  have sf : ∀ j, W0.frozen? ⟨w.heap.size, j, none⟩ = false := fun j => by simp [World.frozen?, k1]
  have t0 : W0.cell? ⟨w.heap.size + 1, 0, none⟩ = some (.int .i64 0) := by simp only [World.cell?, k2]; rfl
  have t1 : W0.cell? ⟨w.heap.size + 1, 1, none⟩ = some (.int .i64 0) := by simp only [World.cell?, k2]; rfl
  have tf : ∀ j, W0.frozen? ⟨w.heap.size + 1, j, none⟩ = false := fun j => by simp [World.frozen?, k2]
  have HW : Hid (Below w.heap.size w W0 ∧ Rd b t i (o + 1) ah W0) := ⟨hB, h0⟩
  have o1 : ¬ ((o + 1 : Nat) : Int) = 0 := by omega
  clear h h0 hB hS k1 k2
  go_enter Tryz.func147, Tryz.ntmps147
  go_wp2_with fail
  rw [← hW]
  clear hW
  go_wp2_with fail
  refine (HI.out _).mono ?_
  rintro e w1 ⟨rfl, rfl⟩
  go_wp2_with fail
  refine bodyPost_ret (by simp [results, Tryz.results147, go_sem, s0, s1, s2, s3, s4, s5, s6, s7, t0, t1]; try rfl) rfl ?_
  exact ⟨Wrote.only (Wrote.only ((((Wrote.of_below HW.out.1).set _).set _).set _) (Nat.le_refl _) (puts_only w.heap.size [.int .u8 41, .int .i64 0, .int .u64 0, .int .u64 0, .int .u64 0, .int .u64 0, .int .i64 0, .int .i64 0] 0 _)) (by omega) (puts_only (w.heap.size + 1) [.int .i64 0, .int .i64 0] 0 _), rfl, ((puts_only (w.heap.size + 1) [.int .i64 0, .int .i64 0] 0 _).block b b1).trans (((puts_only w.heap.size [.int .u8 41, .int .i64 0, .int .u64 0, .int .u64 0, .int .u64 0, .int .u64 0, .int .i64 0, .int .i64 0] 0 _).block b b0).trans ((((HW.out.2).set2 o).set3 true).set1 (i + 1)))⟩
set_option maxHeartbeats 400000 in
theorem mark_41no {b : Nat} {t : ByteArray} {i : Nat} {ah : Bool} (w : World) (h : Rd b t i 0 ah w) : Calls Tryz.prog 147 #[.pointer (some ⟨b, 0, none⟩), .int .u8 41] w (MarkPost b t i 41 w (.inl 3)) := by
  have hb := h.lt
  obtain ⟨W0, hW, hB, hS, k1, k2⟩ := two w (.cells #[.int .u8 0, .int .i64 0, .int .u64 0, .int .u64 0, .int .u64 0, .int .u64 0, .int .i64 0, .int .i64 0] 148) (.cells #[.int .i64 0, .int .i64 0] 28)
  have HI : Hid (∀ W, Calls Tryz.prog 142 #[.string ⟨#[42, 43, 63]⟩, .int .u8 41] W fun e w' => e = .returned (.int .i64 (-1)) ∧ w' = W) := fun W => Tryz.strings_IndexByte ⟨#[42, 43, 63]⟩ 41 W
  have h0 := h.below hB
  have c1 := h0.c1
  have c2 := h0.c2
  have c3 := h0.c3
  have fr := h0.fr
  have b0 : ¬ b = w.heap.size := by omega
  have b1 : ¬ b = w.heap.size + 1 := by omega
  have s0 : W0.cell? ⟨w.heap.size, 0, none⟩ = some (.int .u8 0) := by simp only [World.cell?, k1]; rfl
  have s1 : W0.cell? ⟨w.heap.size, 1, none⟩ = some (.int .i64 0) := by simp only [World.cell?, k1]; rfl
  have s2 : W0.cell? ⟨w.heap.size, 2, none⟩ = some (.int .u64 0) := by simp only [World.cell?, k1]; rfl
  have s3 : W0.cell? ⟨w.heap.size, 3, none⟩ = some (.int .u64 0) := by simp only [World.cell?, k1]; rfl
  have s4 : W0.cell? ⟨w.heap.size, 4, none⟩ = some (.int .u64 0) := by simp only [World.cell?, k1]; rfl
  have s5 : W0.cell? ⟨w.heap.size, 5, none⟩ = some (.int .u64 0) := by simp only [World.cell?, k1]; rfl
  have s6 : W0.cell? ⟨w.heap.size, 6, none⟩ = some (.int .i64 0) := by simp only [World.cell?, k1]; rfl
  have s7 : W0.cell? ⟨w.heap.size, 7, none⟩ = some (.int .i64 0) := by simp only [World.cell?, k1]; rfl
  have sf : ∀ j, W0.frozen? ⟨w.heap.size, j, none⟩ = false := fun j => by simp [World.frozen?, k1]
  have t0 : W0.cell? ⟨w.heap.size + 1, 0, none⟩ = some (.int .i64 0) := by simp only [World.cell?, k2]; rfl
  have t1 : W0.cell? ⟨w.heap.size + 1, 1, none⟩ = some (.int .i64 0) := by simp only [World.cell?, k2]; rfl
  have tf : ∀ j, W0.frozen? ⟨w.heap.size + 1, j, none⟩ = false := fun j => by simp [World.frozen?, k2]
  have HW : Hid (Below w.heap.size w W0 ∧ Rd b t i 0 ah W0) := ⟨hB, h0⟩
  clear h h0 hB hS k1 k2
  go_enter Tryz.func147, Tryz.ntmps147
  go_wp2_with fail
  rw [← hW]
  clear hW
  go_wp2_with fail
  refine (HI.out _).mono ?_
  rintro e w1 ⟨rfl, rfl⟩
  go_wp2_with fail
  go_region_with (fail)
  all_goals
    go_wp2_with fail
    refine bodyPost_ret (by simp [results, Tryz.results147, go_sem, s0, s1, s2, s3, s4, s5, s6, s7, t0, t1]; try rfl) rfl ?_
    exact ⟨(Wrote.only (Wrote.only (Wrote.of_below HW.out.1) (Nat.le_refl _) (puts_only w.heap.size [.int .u8 0, .int .i64 0, .int .u64 0, .int .u64 0, .int .u64 0, .int .u64 0, .int .i64 0, .int .i64 0] 0 _)) (by omega) (puts_only (w.heap.size + 1) [.int .i64 3, .int .i64 (i : Int)] 0 _)).drew, rfl⟩
set_option maxHeartbeats 400000 in
theorem mark_40 {b : Nat} {t : ByteArray} {i o : Nat} {ah : Bool} (w : World) (h : Rd b t i o ah w) (ht : t.size ≤ 1000000) (hi : i < t.size) (ho : o < 16) : Calls Tryz.prog 147 #[.pointer (some ⟨b, 0, none⟩), .int .u8 40] w (MarkPost b t i 40 w (.inr ((o + 1), false))) := by
  have hb := h.lt
  obtain ⟨W0, hW, hB, hS, k1, k2⟩ := two w (.cells #[.int .u8 0, .int .i64 0, .int .u64 0, .int .u64 0, .int .u64 0, .int .u64 0, .int .i64 0, .int .i64 0] 148) (.cells #[.int .i64 0, .int .i64 0] 28)
  have HI : Hid (∀ W, Calls Tryz.prog 142 #[.string ⟨#[42, 43, 63]⟩, .int .u8 40] W fun e w' => e = .returned (.int .i64 (-1)) ∧ w' = W) := fun W => Tryz.strings_IndexByte ⟨#[42, 43, 63]⟩ 40 W
  have h0 := h.below hB
  have c1 := h0.c1
  have c2 := h0.c2
  have c3 := h0.c3
  have fr := h0.fr
  have b0 : ¬ b = w.heap.size := by omega
  have b1 : ¬ b = w.heap.size + 1 := by omega
  have s0 : W0.cell? ⟨w.heap.size, 0, none⟩ = some (.int .u8 0) := by simp only [World.cell?, k1]; rfl
  have s1 : W0.cell? ⟨w.heap.size, 1, none⟩ = some (.int .i64 0) := by simp only [World.cell?, k1]; rfl
  have s2 : W0.cell? ⟨w.heap.size, 2, none⟩ = some (.int .u64 0) := by simp only [World.cell?, k1]; rfl
  have s3 : W0.cell? ⟨w.heap.size, 3, none⟩ = some (.int .u64 0) := by simp only [World.cell?, k1]; rfl
  have s4 : W0.cell? ⟨w.heap.size, 4, none⟩ = some (.int .u64 0) := by simp only [World.cell?, k1]; rfl
  have s5 : W0.cell? ⟨w.heap.size, 5, none⟩ = some (.int .u64 0) := by simp only [World.cell?, k1]; rfl
  have s6 : W0.cell? ⟨w.heap.size, 6, none⟩ = some (.int .i64 0) := by simp only [World.cell?, k1]; rfl
  have s7 : W0.cell? ⟨w.heap.size, 7, none⟩ = some (.int .i64 0) := by simp only [World.cell?, k1]; rfl
  have sf : ∀ j, W0.frozen? ⟨w.heap.size, j, none⟩ = false := fun j => by simp [World.frozen?, k1]
  have t0 : W0.cell? ⟨w.heap.size + 1, 0, none⟩ = some (.int .i64 0) := by simp only [World.cell?, k2]; rfl
  have t1 : W0.cell? ⟨w.heap.size + 1, 1, none⟩ = some (.int .i64 0) := by simp only [World.cell?, k2]; rfl
  have tf : ∀ j, W0.frozen? ⟨w.heap.size + 1, j, none⟩ = false := fun j => by simp [World.frozen?, k2]
  have HW : Hid (Below w.heap.size w W0 ∧ Rd b t i o ah W0) := ⟨hB, h0⟩
  have o1 : ¬ (o : Int) = 16 := by omega
  clear h h0 hB hS k1 k2
  go_enter Tryz.func147, Tryz.ntmps147
  go_wp2_with fail
  rw [← hW]
  clear hW
  go_wp2_with fail
  refine (HI.out _).mono ?_
  rintro e w1 ⟨rfl, rfl⟩
  go_wp2_with fail
  refine bodyPost_ret (by simp [results, Tryz.results147, go_sem, s0, s1, s2, s3, s4, s5, s6, s7, t0, t1]; try rfl) rfl ?_
  exact ⟨Wrote.only (Wrote.only ((((Wrote.of_below HW.out.1).set _).set _).set _) (Nat.le_refl _) (puts_only w.heap.size [.int .u8 40, .int .i64 0, .int .u64 0, .int .u64 0, .int .u64 0, .int .u64 0, .int .i64 0, .int .i64 0] 0 _)) (by omega) (puts_only (w.heap.size + 1) [.int .i64 0, .int .i64 0] 0 _), rfl, ((puts_only (w.heap.size + 1) [.int .i64 0, .int .i64 0] 0 _).block b b1).trans (((puts_only w.heap.size [.int .u8 40, .int .i64 0, .int .u64 0, .int .u64 0, .int .u64 0, .int .u64 0, .int .i64 0, .int .i64 0] 0 _).block b b0).trans ((((HW.out.2).set2 (o + 1)).set3 false).set1 (i + 1)))⟩
set_option maxHeartbeats 400000 in
theorem mark_40no {b : Nat} {t : ByteArray} {i : Nat} {ah : Bool} (w : World) (h : Rd b t i 16 ah w) : Calls Tryz.prog 147 #[.pointer (some ⟨b, 0, none⟩), .int .u8 40] w (MarkPost b t i 40 w (.inl 5)) := by
  have hb := h.lt
  obtain ⟨W0, hW, hB, hS, k1, k2⟩ := two w (.cells #[.int .u8 0, .int .i64 0, .int .u64 0, .int .u64 0, .int .u64 0, .int .u64 0, .int .i64 0, .int .i64 0] 148) (.cells #[.int .i64 0, .int .i64 0] 28)
  have HI : Hid (∀ W, Calls Tryz.prog 142 #[.string ⟨#[42, 43, 63]⟩, .int .u8 40] W fun e w' => e = .returned (.int .i64 (-1)) ∧ w' = W) := fun W => Tryz.strings_IndexByte ⟨#[42, 43, 63]⟩ 40 W
  have h0 := h.below hB
  have c1 := h0.c1
  have c2 := h0.c2
  have c3 := h0.c3
  have fr := h0.fr
  have b0 : ¬ b = w.heap.size := by omega
  have b1 : ¬ b = w.heap.size + 1 := by omega
  have s0 : W0.cell? ⟨w.heap.size, 0, none⟩ = some (.int .u8 0) := by simp only [World.cell?, k1]; rfl
  have s1 : W0.cell? ⟨w.heap.size, 1, none⟩ = some (.int .i64 0) := by simp only [World.cell?, k1]; rfl
  have s2 : W0.cell? ⟨w.heap.size, 2, none⟩ = some (.int .u64 0) := by simp only [World.cell?, k1]; rfl
  have s3 : W0.cell? ⟨w.heap.size, 3, none⟩ = some (.int .u64 0) := by simp only [World.cell?, k1]; rfl
  have s4 : W0.cell? ⟨w.heap.size, 4, none⟩ = some (.int .u64 0) := by simp only [World.cell?, k1]; rfl
  have s5 : W0.cell? ⟨w.heap.size, 5, none⟩ = some (.int .u64 0) := by simp only [World.cell?, k1]; rfl
  have s6 : W0.cell? ⟨w.heap.size, 6, none⟩ = some (.int .i64 0) := by simp only [World.cell?, k1]; rfl
  have s7 : W0.cell? ⟨w.heap.size, 7, none⟩ = some (.int .i64 0) := by simp only [World.cell?, k1]; rfl
  have sf : ∀ j, W0.frozen? ⟨w.heap.size, j, none⟩ = false := fun j => by simp [World.frozen?, k1]
  have t0 : W0.cell? ⟨w.heap.size + 1, 0, none⟩ = some (.int .i64 0) := by simp only [World.cell?, k2]; rfl
  have t1 : W0.cell? ⟨w.heap.size + 1, 1, none⟩ = some (.int .i64 0) := by simp only [World.cell?, k2]; rfl
  have tf : ∀ j, W0.frozen? ⟨w.heap.size + 1, j, none⟩ = false := fun j => by simp [World.frozen?, k2]
  have HW : Hid (Below w.heap.size w W0 ∧ Rd b t i 16 ah W0) := ⟨hB, h0⟩
  clear h h0 hB hS k1 k2
  go_enter Tryz.func147, Tryz.ntmps147
  go_wp2_with fail
  rw [← hW]
  clear hW
  go_wp2_with fail
  refine (HI.out _).mono ?_
  rintro e w1 ⟨rfl, rfl⟩
  go_wp2_with fail
  go_region_with (fail)
  all_goals
    go_wp2_with fail
    refine bodyPost_ret (by simp [results, Tryz.results147, go_sem, s0, s1, s2, s3, s4, s5, s6, s7, t0, t1]; try rfl) rfl ?_
    exact ⟨(Wrote.only (Wrote.only (Wrote.of_below HW.out.1) (Nat.le_refl _) (puts_only w.heap.size [.int .u8 0, .int .i64 0, .int .u64 0, .int .u64 0, .int .u64 0, .int .u64 0, .int .i64 0, .int .i64 0] 0 _)) (by omega) (puts_only (w.heap.size + 1) [.int .i64 5, .int .i64 (i : Int)] 0 _)).drew, rfl⟩
set_option maxHeartbeats 400000 in
theorem mark_124 {b : Nat} {t : ByteArray} {i o : Nat} {ah : Bool} (w : World) (h : Rd b t i o ah w) (ht : t.size ≤ 1000000) (hi : i < t.size) : Calls Tryz.prog 147 #[.pointer (some ⟨b, 0, none⟩), .int .u8 124] w (MarkPost b t i 124 w (.inr (o, false))) := by
  have hb := h.lt
  obtain ⟨W0, hW, hB, hS, k1, k2⟩ := two w (.cells #[.int .u8 0, .int .i64 0, .int .u64 0, .int .u64 0, .int .u64 0, .int .u64 0, .int .i64 0, .int .i64 0] 148) (.cells #[.int .i64 0, .int .i64 0] 28)
  have HI : Hid (∀ W, Calls Tryz.prog 142 #[.string ⟨#[42, 43, 63]⟩, .int .u8 124] W fun e w' => e = .returned (.int .i64 (-1)) ∧ w' = W) := fun W => Tryz.strings_IndexByte ⟨#[42, 43, 63]⟩ 124 W
  have h0 := h.below hB
  have c1 := h0.c1
  have c2 := h0.c2
  have c3 := h0.c3
  have fr := h0.fr
  have b0 : ¬ b = w.heap.size := by omega
  have b1 : ¬ b = w.heap.size + 1 := by omega
  have s0 : W0.cell? ⟨w.heap.size, 0, none⟩ = some (.int .u8 0) := by simp only [World.cell?, k1]; rfl
  have s1 : W0.cell? ⟨w.heap.size, 1, none⟩ = some (.int .i64 0) := by simp only [World.cell?, k1]; rfl
  have s2 : W0.cell? ⟨w.heap.size, 2, none⟩ = some (.int .u64 0) := by simp only [World.cell?, k1]; rfl
  have s3 : W0.cell? ⟨w.heap.size, 3, none⟩ = some (.int .u64 0) := by simp only [World.cell?, k1]; rfl
  have s4 : W0.cell? ⟨w.heap.size, 4, none⟩ = some (.int .u64 0) := by simp only [World.cell?, k1]; rfl
  have s5 : W0.cell? ⟨w.heap.size, 5, none⟩ = some (.int .u64 0) := by simp only [World.cell?, k1]; rfl
  have s6 : W0.cell? ⟨w.heap.size, 6, none⟩ = some (.int .i64 0) := by simp only [World.cell?, k1]; rfl
  have s7 : W0.cell? ⟨w.heap.size, 7, none⟩ = some (.int .i64 0) := by simp only [World.cell?, k1]; rfl
  have sf : ∀ j, W0.frozen? ⟨w.heap.size, j, none⟩ = false := fun j => by simp [World.frozen?, k1]
  have t0 : W0.cell? ⟨w.heap.size + 1, 0, none⟩ = some (.int .i64 0) := by simp only [World.cell?, k2]; rfl
  have t1 : W0.cell? ⟨w.heap.size + 1, 1, none⟩ = some (.int .i64 0) := by simp only [World.cell?, k2]; rfl
  have tf : ∀ j, W0.frozen? ⟨w.heap.size + 1, j, none⟩ = false := fun j => by simp [World.frozen?, k2]
  have HW : Hid (Below w.heap.size w W0 ∧ Rd b t i o ah W0) := ⟨hB, h0⟩
  clear h h0 hB hS k1 k2
  go_enter Tryz.func147, Tryz.ntmps147
  go_wp2_with fail
  rw [← hW]
  clear hW
  go_wp2_with fail
  refine (HI.out _).mono ?_
  rintro e w1 ⟨rfl, rfl⟩
  go_wp2_with fail
  refine bodyPost_ret (by simp [results, Tryz.results147, go_sem, s0, s1, s2, s3, s4, s5, s6, s7, t0, t1]; try rfl) rfl ?_
  exact ⟨Wrote.only (Wrote.only (((Wrote.of_below HW.out.1).set _).set _) (Nat.le_refl _) (puts_only w.heap.size [.int .u8 124, .int .i64 0, .int .u64 0, .int .u64 0, .int .u64 0, .int .u64 0, .int .i64 0, .int .i64 0] 0 _)) (by omega) (puts_only (w.heap.size + 1) [.int .i64 0, .int .i64 0] 0 _), rfl, ((puts_only (w.heap.size + 1) [.int .i64 0, .int .i64 0] 0 _).block b b1).trans (((puts_only w.heap.size [.int .u8 124, .int .i64 0, .int .u64 0, .int .u64 0, .int .u64 0, .int .u64 0, .int .i64 0, .int .i64 0] 0 _).block b b0).trans (((HW.out.2).set3 false).set1 (i + 1)))⟩
set_option maxHeartbeats 400000 in
theorem mark_42 {b : Nat} {t : ByteArray} {i o : Nat} (w : World) (h : Rd b t i o true w) (ht : t.size ≤ 1000000) (hi : i < t.size) : Calls Tryz.prog 147 #[.pointer (some ⟨b, 0, none⟩), .int .u8 42] w (MarkPost b t i 42 w (.inr (o, false))) := by
  have hb := h.lt
  obtain ⟨W0, hW, hB, hS, k1, k2⟩ := two w (.cells #[.int .u8 0, .int .i64 0, .int .u64 0, .int .u64 0, .int .u64 0, .int .u64 0, .int .i64 0, .int .i64 0] 148) (.cells #[.int .i64 0, .int .i64 0] 28)
  have HI : Hid (∀ W, Calls Tryz.prog 142 #[.string ⟨#[42, 43, 63]⟩, .int .u8 42] W fun e w' => e = .returned (.int .i64 (0)) ∧ w' = W) := fun W => Tryz.strings_IndexByte ⟨#[42, 43, 63]⟩ 42 W
  have h0 := h.below hB
  have c1 := h0.c1
  have c2 := h0.c2
  have c3 := h0.c3
  have fr := h0.fr
  have b0 : ¬ b = w.heap.size := by omega
  have b1 : ¬ b = w.heap.size + 1 := by omega
  have s0 : W0.cell? ⟨w.heap.size, 0, none⟩ = some (.int .u8 0) := by simp only [World.cell?, k1]; rfl
  have s1 : W0.cell? ⟨w.heap.size, 1, none⟩ = some (.int .i64 0) := by simp only [World.cell?, k1]; rfl
  have s2 : W0.cell? ⟨w.heap.size, 2, none⟩ = some (.int .u64 0) := by simp only [World.cell?, k1]; rfl
  have s3 : W0.cell? ⟨w.heap.size, 3, none⟩ = some (.int .u64 0) := by simp only [World.cell?, k1]; rfl
  have s4 : W0.cell? ⟨w.heap.size, 4, none⟩ = some (.int .u64 0) := by simp only [World.cell?, k1]; rfl
  have s5 : W0.cell? ⟨w.heap.size, 5, none⟩ = some (.int .u64 0) := by simp only [World.cell?, k1]; rfl
  have s6 : W0.cell? ⟨w.heap.size, 6, none⟩ = some (.int .i64 0) := by simp only [World.cell?, k1]; rfl
  have s7 : W0.cell? ⟨w.heap.size, 7, none⟩ = some (.int .i64 0) := by simp only [World.cell?, k1]; rfl
  have sf : ∀ j, W0.frozen? ⟨w.heap.size, j, none⟩ = false := fun j => by simp [World.frozen?, k1]
  have t0 : W0.cell? ⟨w.heap.size + 1, 0, none⟩ = some (.int .i64 0) := by simp only [World.cell?, k2]; rfl
  have t1 : W0.cell? ⟨w.heap.size + 1, 1, none⟩ = some (.int .i64 0) := by simp only [World.cell?, k2]; rfl
  have tf : ∀ j, W0.frozen? ⟨w.heap.size + 1, j, none⟩ = false := fun j => by simp [World.frozen?, k2]
  have HW : Hid (Below w.heap.size w W0 ∧ Rd b t i o true W0) := ⟨hB, h0⟩
  clear h h0 hB hS k1 k2
  go_enter Tryz.func147, Tryz.ntmps147
  go_wp2_with fail
  rw [← hW]
  clear hW
  go_wp2_with fail
  refine (HI.out _).mono ?_
  rintro e w1 ⟨rfl, rfl⟩
  go_wp2_with fail
  refine bodyPost_ret (by simp [results, Tryz.results147, go_sem, s0, s1, s2, s3, s4, s5, s6, s7, t0, t1]; try rfl) rfl ?_
  exact ⟨Wrote.only (Wrote.only (((Wrote.of_below HW.out.1).set _).set _) (Nat.le_refl _) (puts_only w.heap.size [.int .u8 42, .int .i64 0, .int .u64 0, .int .u64 0, .int .u64 0, .int .u64 0, .int .i64 0, .int .i64 0] 0 _)) (by omega) (puts_only (w.heap.size + 1) [.int .i64 0, .int .i64 0] 0 _), rfl, ((puts_only (w.heap.size + 1) [.int .i64 0, .int .i64 0] 0 _).block b b1).trans (((puts_only w.heap.size [.int .u8 42, .int .i64 0, .int .u64 0, .int .u64 0, .int .u64 0, .int .u64 0, .int .i64 0, .int .i64 0] 0 _).block b b0).trans (((HW.out.2).set3 false).set1 (i + 1)))⟩
set_option maxHeartbeats 400000 in
theorem mark_42no {b : Nat} {t : ByteArray} {i o : Nat} (w : World) (h : Rd b t i o false w) : Calls Tryz.prog 147 #[.pointer (some ⟨b, 0, none⟩), .int .u8 42] w (MarkPost b t i 42 w (.inl 3)) := by
  have hb := h.lt
  obtain ⟨W0, hW, hB, hS, k1, k2⟩ := two w (.cells #[.int .u8 0, .int .i64 0, .int .u64 0, .int .u64 0, .int .u64 0, .int .u64 0, .int .i64 0, .int .i64 0] 148) (.cells #[.int .i64 0, .int .i64 0] 28)
  have HI : Hid (∀ W, Calls Tryz.prog 142 #[.string ⟨#[42, 43, 63]⟩, .int .u8 42] W fun e w' => e = .returned (.int .i64 (0)) ∧ w' = W) := fun W => Tryz.strings_IndexByte ⟨#[42, 43, 63]⟩ 42 W
  have h0 := h.below hB
  have c1 := h0.c1
  have c2 := h0.c2
  have c3 := h0.c3
  have fr := h0.fr
  have b0 : ¬ b = w.heap.size := by omega
  have b1 : ¬ b = w.heap.size + 1 := by omega
  have s0 : W0.cell? ⟨w.heap.size, 0, none⟩ = some (.int .u8 0) := by simp only [World.cell?, k1]; rfl
  have s1 : W0.cell? ⟨w.heap.size, 1, none⟩ = some (.int .i64 0) := by simp only [World.cell?, k1]; rfl
  have s2 : W0.cell? ⟨w.heap.size, 2, none⟩ = some (.int .u64 0) := by simp only [World.cell?, k1]; rfl
  have s3 : W0.cell? ⟨w.heap.size, 3, none⟩ = some (.int .u64 0) := by simp only [World.cell?, k1]; rfl
  have s4 : W0.cell? ⟨w.heap.size, 4, none⟩ = some (.int .u64 0) := by simp only [World.cell?, k1]; rfl
  have s5 : W0.cell? ⟨w.heap.size, 5, none⟩ = some (.int .u64 0) := by simp only [World.cell?, k1]; rfl
  have s6 : W0.cell? ⟨w.heap.size, 6, none⟩ = some (.int .i64 0) := by simp only [World.cell?, k1]; rfl
  have s7 : W0.cell? ⟨w.heap.size, 7, none⟩ = some (.int .i64 0) := by simp only [World.cell?, k1]; rfl
  have sf : ∀ j, W0.frozen? ⟨w.heap.size, j, none⟩ = false := fun j => by simp [World.frozen?, k1]
  have t0 : W0.cell? ⟨w.heap.size + 1, 0, none⟩ = some (.int .i64 0) := by simp only [World.cell?, k2]; rfl
  have t1 : W0.cell? ⟨w.heap.size + 1, 1, none⟩ = some (.int .i64 0) := by simp only [World.cell?, k2]; rfl
  have tf : ∀ j, W0.frozen? ⟨w.heap.size + 1, j, none⟩ = false := fun j => by simp [World.frozen?, k2]
  have HW : Hid (Below w.heap.size w W0 ∧ Rd b t i o false W0) := ⟨hB, h0⟩
  clear h h0 hB hS k1 k2
  go_enter Tryz.func147, Tryz.ntmps147
  go_wp2_with fail
  rw [← hW]
  clear hW
  go_wp2_with fail
  refine (HI.out _).mono ?_
  rintro e w1 ⟨rfl, rfl⟩
  go_wp2_with fail
  go_region_with (fail)
  all_goals
    go_wp2_with fail
    refine bodyPost_ret (by simp [results, Tryz.results147, go_sem, s0, s1, s2, s3, s4, s5, s6, s7, t0, t1]; try rfl) rfl ?_
    exact ⟨(Wrote.only (Wrote.only (Wrote.of_below HW.out.1) (Nat.le_refl _) (puts_only w.heap.size [.int .u8 0, .int .i64 0, .int .u64 0, .int .u64 0, .int .u64 0, .int .u64 0, .int .i64 0, .int .i64 0] 0 _)) (by omega) (puts_only (w.heap.size + 1) [.int .i64 3, .int .i64 (i : Int)] 0 _)).drew, rfl⟩
set_option maxHeartbeats 400000 in
theorem mark_43 {b : Nat} {t : ByteArray} {i o : Nat} (w : World) (h : Rd b t i o true w) (ht : t.size ≤ 1000000) (hi : i < t.size) : Calls Tryz.prog 147 #[.pointer (some ⟨b, 0, none⟩), .int .u8 43] w (MarkPost b t i 43 w (.inr (o, false))) := by
  have hb := h.lt
  obtain ⟨W0, hW, hB, hS, k1, k2⟩ := two w (.cells #[.int .u8 0, .int .i64 0, .int .u64 0, .int .u64 0, .int .u64 0, .int .u64 0, .int .i64 0, .int .i64 0] 148) (.cells #[.int .i64 0, .int .i64 0] 28)
  have HI : Hid (∀ W, Calls Tryz.prog 142 #[.string ⟨#[42, 43, 63]⟩, .int .u8 43] W fun e w' => e = .returned (.int .i64 (1)) ∧ w' = W) := fun W => Tryz.strings_IndexByte ⟨#[42, 43, 63]⟩ 43 W
  have h0 := h.below hB
  have c1 := h0.c1
  have c2 := h0.c2
  have c3 := h0.c3
  have fr := h0.fr
  have b0 : ¬ b = w.heap.size := by omega
  have b1 : ¬ b = w.heap.size + 1 := by omega
  have s0 : W0.cell? ⟨w.heap.size, 0, none⟩ = some (.int .u8 0) := by simp only [World.cell?, k1]; rfl
  have s1 : W0.cell? ⟨w.heap.size, 1, none⟩ = some (.int .i64 0) := by simp only [World.cell?, k1]; rfl
  have s2 : W0.cell? ⟨w.heap.size, 2, none⟩ = some (.int .u64 0) := by simp only [World.cell?, k1]; rfl
  have s3 : W0.cell? ⟨w.heap.size, 3, none⟩ = some (.int .u64 0) := by simp only [World.cell?, k1]; rfl
  have s4 : W0.cell? ⟨w.heap.size, 4, none⟩ = some (.int .u64 0) := by simp only [World.cell?, k1]; rfl
  have s5 : W0.cell? ⟨w.heap.size, 5, none⟩ = some (.int .u64 0) := by simp only [World.cell?, k1]; rfl
  have s6 : W0.cell? ⟨w.heap.size, 6, none⟩ = some (.int .i64 0) := by simp only [World.cell?, k1]; rfl
  have s7 : W0.cell? ⟨w.heap.size, 7, none⟩ = some (.int .i64 0) := by simp only [World.cell?, k1]; rfl
  have sf : ∀ j, W0.frozen? ⟨w.heap.size, j, none⟩ = false := fun j => by simp [World.frozen?, k1]
  have t0 : W0.cell? ⟨w.heap.size + 1, 0, none⟩ = some (.int .i64 0) := by simp only [World.cell?, k2]; rfl
  have t1 : W0.cell? ⟨w.heap.size + 1, 1, none⟩ = some (.int .i64 0) := by simp only [World.cell?, k2]; rfl
  have tf : ∀ j, W0.frozen? ⟨w.heap.size + 1, j, none⟩ = false := fun j => by simp [World.frozen?, k2]
  have HW : Hid (Below w.heap.size w W0 ∧ Rd b t i o true W0) := ⟨hB, h0⟩
  clear h h0 hB hS k1 k2
  go_enter Tryz.func147, Tryz.ntmps147
  go_wp2_with fail
  rw [← hW]
  clear hW
  go_wp2_with fail
  refine (HI.out _).mono ?_
  rintro e w1 ⟨rfl, rfl⟩
  go_wp2_with fail
  refine bodyPost_ret (by simp [results, Tryz.results147, go_sem, s0, s1, s2, s3, s4, s5, s6, s7, t0, t1]; try rfl) rfl ?_
  exact ⟨Wrote.only (Wrote.only (((Wrote.of_below HW.out.1).set _).set _) (Nat.le_refl _) (puts_only w.heap.size [.int .u8 43, .int .i64 0, .int .u64 0, .int .u64 0, .int .u64 0, .int .u64 0, .int .i64 0, .int .i64 0] 0 _)) (by omega) (puts_only (w.heap.size + 1) [.int .i64 0, .int .i64 0] 0 _), rfl, ((puts_only (w.heap.size + 1) [.int .i64 0, .int .i64 0] 0 _).block b b1).trans (((puts_only w.heap.size [.int .u8 43, .int .i64 0, .int .u64 0, .int .u64 0, .int .u64 0, .int .u64 0, .int .i64 0, .int .i64 0] 0 _).block b b0).trans (((HW.out.2).set3 false).set1 (i + 1)))⟩
set_option maxHeartbeats 400000 in
theorem mark_43no {b : Nat} {t : ByteArray} {i o : Nat} (w : World) (h : Rd b t i o false w) : Calls Tryz.prog 147 #[.pointer (some ⟨b, 0, none⟩), .int .u8 43] w (MarkPost b t i 43 w (.inl 3)) := by
  have hb := h.lt
  obtain ⟨W0, hW, hB, hS, k1, k2⟩ := two w (.cells #[.int .u8 0, .int .i64 0, .int .u64 0, .int .u64 0, .int .u64 0, .int .u64 0, .int .i64 0, .int .i64 0] 148) (.cells #[.int .i64 0, .int .i64 0] 28)
  have HI : Hid (∀ W, Calls Tryz.prog 142 #[.string ⟨#[42, 43, 63]⟩, .int .u8 43] W fun e w' => e = .returned (.int .i64 (1)) ∧ w' = W) := fun W => Tryz.strings_IndexByte ⟨#[42, 43, 63]⟩ 43 W
  have h0 := h.below hB
  have c1 := h0.c1
  have c2 := h0.c2
  have c3 := h0.c3
  have fr := h0.fr
  have b0 : ¬ b = w.heap.size := by omega
  have b1 : ¬ b = w.heap.size + 1 := by omega
  have s0 : W0.cell? ⟨w.heap.size, 0, none⟩ = some (.int .u8 0) := by simp only [World.cell?, k1]; rfl
  have s1 : W0.cell? ⟨w.heap.size, 1, none⟩ = some (.int .i64 0) := by simp only [World.cell?, k1]; rfl
  have s2 : W0.cell? ⟨w.heap.size, 2, none⟩ = some (.int .u64 0) := by simp only [World.cell?, k1]; rfl
  have s3 : W0.cell? ⟨w.heap.size, 3, none⟩ = some (.int .u64 0) := by simp only [World.cell?, k1]; rfl
  have s4 : W0.cell? ⟨w.heap.size, 4, none⟩ = some (.int .u64 0) := by simp only [World.cell?, k1]; rfl
  have s5 : W0.cell? ⟨w.heap.size, 5, none⟩ = some (.int .u64 0) := by simp only [World.cell?, k1]; rfl
  have s6 : W0.cell? ⟨w.heap.size, 6, none⟩ = some (.int .i64 0) := by simp only [World.cell?, k1]; rfl
  have s7 : W0.cell? ⟨w.heap.size, 7, none⟩ = some (.int .i64 0) := by simp only [World.cell?, k1]; rfl
  have sf : ∀ j, W0.frozen? ⟨w.heap.size, j, none⟩ = false := fun j => by simp [World.frozen?, k1]
  have t0 : W0.cell? ⟨w.heap.size + 1, 0, none⟩ = some (.int .i64 0) := by simp only [World.cell?, k2]; rfl
  have t1 : W0.cell? ⟨w.heap.size + 1, 1, none⟩ = some (.int .i64 0) := by simp only [World.cell?, k2]; rfl
  have tf : ∀ j, W0.frozen? ⟨w.heap.size + 1, j, none⟩ = false := fun j => by simp [World.frozen?, k2]
  have HW : Hid (Below w.heap.size w W0 ∧ Rd b t i o false W0) := ⟨hB, h0⟩
  clear h h0 hB hS k1 k2
  go_enter Tryz.func147, Tryz.ntmps147
  go_wp2_with fail
  rw [← hW]
  clear hW
  go_wp2_with fail
  refine (HI.out _).mono ?_
  rintro e w1 ⟨rfl, rfl⟩
  go_wp2_with fail
  go_region_with (fail)
  all_goals
    go_wp2_with fail
    refine bodyPost_ret (by simp [results, Tryz.results147, go_sem, s0, s1, s2, s3, s4, s5, s6, s7, t0, t1]; try rfl) rfl ?_
    exact ⟨(Wrote.only (Wrote.only (Wrote.of_below HW.out.1) (Nat.le_refl _) (puts_only w.heap.size [.int .u8 0, .int .i64 0, .int .u64 0, .int .u64 0, .int .u64 0, .int .u64 0, .int .i64 0, .int .i64 0] 0 _)) (by omega) (puts_only (w.heap.size + 1) [.int .i64 3, .int .i64 (i : Int)] 0 _)).drew, rfl⟩
set_option maxHeartbeats 400000 in
theorem mark_63 {b : Nat} {t : ByteArray} {i o : Nat} (w : World) (h : Rd b t i o true w) (ht : t.size ≤ 1000000) (hi : i < t.size) : Calls Tryz.prog 147 #[.pointer (some ⟨b, 0, none⟩), .int .u8 63] w (MarkPost b t i 63 w (.inr (o, false))) := by
  have hb := h.lt
  obtain ⟨W0, hW, hB, hS, k1, k2⟩ := two w (.cells #[.int .u8 0, .int .i64 0, .int .u64 0, .int .u64 0, .int .u64 0, .int .u64 0, .int .i64 0, .int .i64 0] 148) (.cells #[.int .i64 0, .int .i64 0] 28)
  have HI : Hid (∀ W, Calls Tryz.prog 142 #[.string ⟨#[42, 43, 63]⟩, .int .u8 63] W fun e w' => e = .returned (.int .i64 (2)) ∧ w' = W) := fun W => Tryz.strings_IndexByte ⟨#[42, 43, 63]⟩ 63 W
  have h0 := h.below hB
  have c1 := h0.c1
  have c2 := h0.c2
  have c3 := h0.c3
  have fr := h0.fr
  have b0 : ¬ b = w.heap.size := by omega
  have b1 : ¬ b = w.heap.size + 1 := by omega
  have s0 : W0.cell? ⟨w.heap.size, 0, none⟩ = some (.int .u8 0) := by simp only [World.cell?, k1]; rfl
  have s1 : W0.cell? ⟨w.heap.size, 1, none⟩ = some (.int .i64 0) := by simp only [World.cell?, k1]; rfl
  have s2 : W0.cell? ⟨w.heap.size, 2, none⟩ = some (.int .u64 0) := by simp only [World.cell?, k1]; rfl
  have s3 : W0.cell? ⟨w.heap.size, 3, none⟩ = some (.int .u64 0) := by simp only [World.cell?, k1]; rfl
  have s4 : W0.cell? ⟨w.heap.size, 4, none⟩ = some (.int .u64 0) := by simp only [World.cell?, k1]; rfl
  have s5 : W0.cell? ⟨w.heap.size, 5, none⟩ = some (.int .u64 0) := by simp only [World.cell?, k1]; rfl
  have s6 : W0.cell? ⟨w.heap.size, 6, none⟩ = some (.int .i64 0) := by simp only [World.cell?, k1]; rfl
  have s7 : W0.cell? ⟨w.heap.size, 7, none⟩ = some (.int .i64 0) := by simp only [World.cell?, k1]; rfl
  have sf : ∀ j, W0.frozen? ⟨w.heap.size, j, none⟩ = false := fun j => by simp [World.frozen?, k1]
  have t0 : W0.cell? ⟨w.heap.size + 1, 0, none⟩ = some (.int .i64 0) := by simp only [World.cell?, k2]; rfl
  have t1 : W0.cell? ⟨w.heap.size + 1, 1, none⟩ = some (.int .i64 0) := by simp only [World.cell?, k2]; rfl
  have tf : ∀ j, W0.frozen? ⟨w.heap.size + 1, j, none⟩ = false := fun j => by simp [World.frozen?, k2]
  have HW : Hid (Below w.heap.size w W0 ∧ Rd b t i o true W0) := ⟨hB, h0⟩
  clear h h0 hB hS k1 k2
  go_enter Tryz.func147, Tryz.ntmps147
  go_wp2_with fail
  rw [← hW]
  clear hW
  go_wp2_with fail
  refine (HI.out _).mono ?_
  rintro e w1 ⟨rfl, rfl⟩
  go_wp2_with fail
  refine bodyPost_ret (by simp [results, Tryz.results147, go_sem, s0, s1, s2, s3, s4, s5, s6, s7, t0, t1]; try rfl) rfl ?_
  exact ⟨Wrote.only (Wrote.only (((Wrote.of_below HW.out.1).set _).set _) (Nat.le_refl _) (puts_only w.heap.size [.int .u8 63, .int .i64 0, .int .u64 0, .int .u64 0, .int .u64 0, .int .u64 0, .int .i64 0, .int .i64 0] 0 _)) (by omega) (puts_only (w.heap.size + 1) [.int .i64 0, .int .i64 0] 0 _), rfl, ((puts_only (w.heap.size + 1) [.int .i64 0, .int .i64 0] 0 _).block b b1).trans (((puts_only w.heap.size [.int .u8 63, .int .i64 0, .int .u64 0, .int .u64 0, .int .u64 0, .int .u64 0, .int .i64 0, .int .i64 0] 0 _).block b b0).trans (((HW.out.2).set3 false).set1 (i + 1)))⟩
set_option maxHeartbeats 400000 in
theorem mark_63no {b : Nat} {t : ByteArray} {i o : Nat} (w : World) (h : Rd b t i o false w) : Calls Tryz.prog 147 #[.pointer (some ⟨b, 0, none⟩), .int .u8 63] w (MarkPost b t i 63 w (.inl 3)) := by
  have hb := h.lt
  obtain ⟨W0, hW, hB, hS, k1, k2⟩ := two w (.cells #[.int .u8 0, .int .i64 0, .int .u64 0, .int .u64 0, .int .u64 0, .int .u64 0, .int .i64 0, .int .i64 0] 148) (.cells #[.int .i64 0, .int .i64 0] 28)
  have HI : Hid (∀ W, Calls Tryz.prog 142 #[.string ⟨#[42, 43, 63]⟩, .int .u8 63] W fun e w' => e = .returned (.int .i64 (2)) ∧ w' = W) := fun W => Tryz.strings_IndexByte ⟨#[42, 43, 63]⟩ 63 W
  have h0 := h.below hB
  have c1 := h0.c1
  have c2 := h0.c2
  have c3 := h0.c3
  have fr := h0.fr
  have b0 : ¬ b = w.heap.size := by omega
  have b1 : ¬ b = w.heap.size + 1 := by omega
  have s0 : W0.cell? ⟨w.heap.size, 0, none⟩ = some (.int .u8 0) := by simp only [World.cell?, k1]; rfl
  have s1 : W0.cell? ⟨w.heap.size, 1, none⟩ = some (.int .i64 0) := by simp only [World.cell?, k1]; rfl
  have s2 : W0.cell? ⟨w.heap.size, 2, none⟩ = some (.int .u64 0) := by simp only [World.cell?, k1]; rfl
  have s3 : W0.cell? ⟨w.heap.size, 3, none⟩ = some (.int .u64 0) := by simp only [World.cell?, k1]; rfl
  have s4 : W0.cell? ⟨w.heap.size, 4, none⟩ = some (.int .u64 0) := by simp only [World.cell?, k1]; rfl
  have s5 : W0.cell? ⟨w.heap.size, 5, none⟩ = some (.int .u64 0) := by simp only [World.cell?, k1]; rfl
  have s6 : W0.cell? ⟨w.heap.size, 6, none⟩ = some (.int .i64 0) := by simp only [World.cell?, k1]; rfl
  have s7 : W0.cell? ⟨w.heap.size, 7, none⟩ = some (.int .i64 0) := by simp only [World.cell?, k1]; rfl
  have sf : ∀ j, W0.frozen? ⟨w.heap.size, j, none⟩ = false := fun j => by simp [World.frozen?, k1]
  have t0 : W0.cell? ⟨w.heap.size + 1, 0, none⟩ = some (.int .i64 0) := by simp only [World.cell?, k2]; rfl
  have t1 : W0.cell? ⟨w.heap.size + 1, 1, none⟩ = some (.int .i64 0) := by simp only [World.cell?, k2]; rfl
  have tf : ∀ j, W0.frozen? ⟨w.heap.size + 1, j, none⟩ = false := fun j => by simp [World.frozen?, k2]
  have HW : Hid (Below w.heap.size w W0 ∧ Rd b t i o false W0) := ⟨hB, h0⟩
  clear h h0 hB hS k1 k2
  go_enter Tryz.func147, Tryz.ntmps147
  go_wp2_with fail
  rw [← hW]
  clear hW
  go_wp2_with fail
  refine (HI.out _).mono ?_
  rintro e w1 ⟨rfl, rfl⟩
  go_wp2_with fail
  go_region_with (fail)
  all_goals
    go_wp2_with fail
    refine bodyPost_ret (by simp [results, Tryz.results147, go_sem, s0, s1, s2, s3, s4, s5, s6, s7, t0, t1]; try rfl) rfl ?_
    exact ⟨(Wrote.only (Wrote.only (Wrote.of_below HW.out.1) (Nat.le_refl _) (puts_only w.heap.size [.int .u8 0, .int .i64 0, .int .u64 0, .int .u64 0, .int .u64 0, .int .u64 0, .int .i64 0, .int .i64 0] 0 _)) (by omega) (puts_only (w.heap.size + 1) [.int .i64 3, .int .i64 (i : Int)] 0 _)).drew, rfl⟩
theorem mark_any {b : Nat} {t : ByteArray} {i o : Nat} {ah : Bool} (c : UInt8) (hc : isMark c = true) (w : World) (h : Rd b t i o ah w) (ht : t.size ≤ 1000000) (hi : i < t.size) (ho : o ≤ 16) : Calls Tryz.prog 147 #[.pointer (some ⟨b, 0, none⟩), .int .u8 (c.toNat : Int)] w (MarkPost b t i c w (markR o ah c)) := by
  unfold isMark at hc
  simp only [Bool.or_eq_true, beq_iff_eq] at hc
  rcases hc with ((((rfl | rfl) | rfl) | rfl) | rfl) | rfl
  · cases ah with
    | true => exact mark_42 w h ht hi
    | false => exact mark_42no w h
  · cases ah with
    | true => exact mark_43 w h ht hi
    | false => exact mark_43no w h
  · cases ah with
    | true => exact mark_63 w h ht hi
    | false => exact mark_63no w h
  · have e : markR o ah 124 = .inr (o, false) := by unfold markR; simp [RxSem.rep]
    rw [e]; exact mark_124 w h ht hi
  · by_cases h16 : o = 16
    · subst h16
      have e : markR 16 ah 40 = .inl 5 := by unfold markR; simp [RxSem.rep]
      rw [e]; exact mark_40no w h
    · have e : markR o ah 40 = .inr (o + 1, false) := by unfold markR; simp [RxSem.rep, h16]
      rw [e]; exact mark_40 w h ht hi (by omega)
  · cases o with
    | zero =>
      have e : markR 0 ah 41 = .inl 3 := by unfold markR; simp [RxSem.rep]
      rw [e]; exact mark_41no w h
    | succ o =>
      have e : markR (o + 1) ah 41 = .inr (o, true) := by unfold markR; simp [RxSem.rep]
      rw [e]; exact mark_41 w h ht hi ho
end Go.Proofs.YtedepknbaakkhabGreatDoor.X
