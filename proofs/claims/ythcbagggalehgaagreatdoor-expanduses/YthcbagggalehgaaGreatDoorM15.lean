/-
  toWord; few.
-/
import Derived.Test.YthcbagggalehgaaGreatDoorM14
namespace Go.Proofs.YthcbagggalehgaaGreatDoor
open Go.RowKit Go.Shelf

/-- What is done to each word, by kinds. -/
def fnL : List (ByteArray × Nat) := [(⟨#[77]⟩, 120), (⟨#[78]⟩, 121), (⟨#[83]⟩, 122), (⟨#[67]⟩, 123), (⟨#[84]⟩, 124), (⟨#[72]⟩, 125), (⟨#[69]⟩, 126), (⟨#[82]⟩, 127), (⟨#[116, 108]⟩, 128), (⟨#[116, 117]⟩, 129), (⟨#[61]⟩, 130)]
def allL : List ByteArray := [⟨#[79]⟩, ⟨#[79, 114]⟩, ⟨#[117]⟩, ⟨#[114]⟩, ⟨#[81]⟩, ⟨#[35]⟩, ⟨#[42]⟩, ⟨#[91]⟩]
set_option maxRecDepth 20000 in
set_option maxHeartbeats 1600000 in
theorem toWord_fn (b : Nat) (kd : ByteArray) (f : Nat) (hm : (kd, f) ∈ fnL) (w : World) (h : w.cell? ⟨b, 0, none⟩ = some (.string kd)) :
    Calls Tryz.prog 112 #[.pointer (some ⟨b, 0, none⟩)] w fun e w' => e = .returned (.func (Fn.func f) #[.pointer (some ⟨b, 0, none⟩)] #[]) ∧ w = w' := by
  unfold fnL at hm
  simp only [List.mem_cons, List.not_mem_nil, or_false, Prod.mk.injEq] at hm
  rcases hm with ⟨rfl, rfl⟩ | ⟨rfl, rfl⟩ | ⟨rfl, rfl⟩ | ⟨rfl, rfl⟩ | ⟨rfl, rfl⟩ | ⟨rfl, rfl⟩ | ⟨rfl, rfl⟩ | ⟨rfl, rfl⟩ | ⟨rfl, rfl⟩ | ⟨rfl, rfl⟩ | ⟨rfl, rfl⟩
  all_goals
    go_enter Tryz.func112, Tryz.ntmps112
    go_wp2
    go_ret
    exact ⟨rfl, rfl⟩
set_option maxRecDepth 20000 in
set_option maxHeartbeats 1600000 in
theorem toWord_nil (b : Nat) (kd : ByteArray) (hm : kd ∈ allL) (w : World) (h : w.cell? ⟨b, 0, none⟩ = some (.string kd)) :
    Calls Tryz.prog 112 #[.pointer (some ⟨b, 0, none⟩)] w fun e w' => e = .returned .nilFunc ∧ w = w' := by
  unfold allL at hm
  simp only [List.mem_cons, List.not_mem_nil, or_false] at hm
  rcases hm with rfl | rfl | rfl | rfl | rfl | rfl | rfl | rfl
  all_goals
    go_enter Tryz.func112, Tryz.ntmps112
    go_wp2
    go_ret
    exact ⟨rfl, rfl⟩
theorem sizeL_take (l : List ByteArray) (k : Nat) (hk : k < l.length) : sizeL (l.take (k + 1)) = sizeL (l.take k) + l[k].size := by
  rw [List.take_succ_eq_append_getElem hk, sizeL_snoc]
theorem sizeL_le (l : List ByteArray) (B : Nat) (h : ∀ y ∈ l, y.size ≤ B) : sizeL l ≤ l.length * B := by
  induction l with
  | nil => simp [sizeL]
  | cons x t ih =>
    have h1 := ih fun y hy => h y (List.mem_cons_of_mem _ hy)
    have h2 := h x (List.mem_cons_self)
    simp only [sizeL, List.map_cons, List.sum_cons, List.length_cons, Nat.succ_mul] at h1 ⊢
    omega
set_option maxRecDepth 20000 in
set_option maxHeartbeats 1600000 in
theorem few_any (a : Option Addr) (n c : Nat) (l : List ByteArray) (B : Nat) (w : World) (h : Words B w (.slice a n c) l) (hn : n ≤ 1000000) (hs : ∀ y ∈ l, y.size ≤ 1000000) :
    Calls Tryz.prog 102 #[.slice a n c] w fun e w' => e = .returned (.bool (decide (n ≤ 4096 ∧ sizeL l ≤ 65536))) ∧ w = w' := by
  have hnl := h.len
  have HW : Hid (Words B w (.slice a n c) l ∧ n = l.length) := ⟨h, hnl⟩
  have HS : Hid (∀ k, sizeL (l.take k) ≤ 1000000000000) := fun k => by
    have := sizeL_le (l.take k) 1000000 (fun y hy => hs y (List.mem_of_mem_take hy))
    have h2 : (l.take k).length ≤ 1000000 := by rw [List.length_take]; omega
    have := Nat.mul_le_mul_right 1000000 h2
    omega
  obtain ⟨R, hR⟩ : ∃ R, R = decide (n ≤ 4096 ∧ sizeL l ≤ 65536) := ⟨_, rfl⟩
  rw [← hR]
  have HR : Hid (R = decide (n ≤ 4096 ∧ sizeL l ≤ 65536)) := hR
  clear h hnl hs hR
  go_enter Tryz.func102, Tryz.ntmps102
  go_wp2
  go_loopw [3, 8] (fun v3 vi wr => ∃ k z : Nat, k ≤ n ∧ vi = .int .i64 k ∧ v3 = .int .i64 z ∧ z ≤ 1000000000000 ∧ Hid (z = sizeL (l.take k)) ∧ w = wr) (fun _ vi _ => n - (intOf vi).toNat)
  case atStart => exact ⟨0, 0, Nat.zero_le _, rfl, rfl, Nat.zero_le _, rfl, rfl⟩
  case round =>
    obtain ⟨k, z, hk, rfl, rfl, hz, HZ, rfl⟩ := hrel
    by_cases hlt : k < n
    · have hil : (k : Int) < (n : Int) := by omega
      have hkl : k < l.length := by rw [← HW.out.2]; exact hlt
      obtain ⟨b0, o0, ha, _, e1⟩ := HW.out.1.pick k hkl
      subst ha
      obtain ⟨x, hx⟩ : ∃ x, x = l[k] := ⟨_, rfl⟩
      rw [← hx] at e1
      have HZ2 : Hid (z + x.size = sizeL (l.take (k + 1))) := by unfold Hid; rw [sizeL_take l k hkl, HZ.out, hx]
      have hz2 : z + x.size ≤ 1000000000000 := by rw [HZ2.out]; exact HS.out _
      clear hx hkl
      go_wp2
      go_roundw
      case rel => exact ⟨k + 1, z + x.size, by omega, by go_num, by go_num, hz2, HZ2, trivial⟩
      case measure => simp [intOf]; omega
    · obtain rfl : k = n := by omega
      have HE : Hid (z = sizeL l) := by unfold Hid; rw [HZ.out, HW.out.2, List.take_length]
      by_cases h1 : k ≤ 4096
      · by_cases h2 : z ≤ 65536
        · have t1 : (k : Int) ≤ 4096 := by omega
          have t2 : (z : Int) ≤ 65536 := by omega
          have HR2 : Hid (R = true) := HR.out.trans (decide_eq_true ⟨h1, by rw [← HE.out]; exact h2⟩)
          clear HR
          go_wp2
          go_ret
          exact ⟨by rw [HR2.out]; rfl, rfl⟩
        · have t1 : (k : Int) ≤ 4096 := by omega
          have t2 : decide ((z : Int) ≤ 65536) = false := by simp; omega
          have HR2 : Hid (R = false) := HR.out.trans (decide_eq_false (fun e => h2 (by rw [HE.out]; exact e.2)))
          clear HR
          go_wp2
          go_ret
          exact ⟨by rw [HR2.out]; rfl, rfl⟩
      · have t1 : decide ((k : Int) ≤ 4096) = false := by simp; omega
        have HR2 : Hid (R = false) := HR.out.trans (decide_eq_false (fun e => h1 e.1))
        clear HR
        go_wp2
        go_ret
        exact ⟨by rw [HR2.out]; rfl, rfl⟩
end Go.Proofs.YthcbagggalehgaaGreatDoor
