/-
  far.
-/
import Derived.Test.YtedepknbaakkhaaGreatDoorM25
namespace Go.Proofs.YtedepknbaakkhaaGreatDoor
open Go.RowKit Go.Shelf Go.Sort

def longL (l : List ByteArray) : Bool := l.any fun y => decide (60 < y.size)
set_option maxRecDepth 20000 in
set_option maxHeartbeats 1600000 in
theorem far_long (s : ByteArray) (a : Option Addr) (n c : Nat) (w : World) (hs : s.size ≤ 300) (hn : 200 < n) : Calls Tryz.prog 9 #[.string s, .slice a n c] w fun e w' => e = .returned (.bool true) ∧ w = w' := by
  have t1 : ¬ (300 : Int) < (s.size : Int) := by omega
  have t2 : (200 : Int) < (n : Int) := by omega
  have t3 : decide ((300 : Int) < (s.size : Int)) = false := by simp; omega
  have t4 : decide ((200 : Int) < (n : Int)) = true := by simp; omega
  go_enter Tryz.func9, Tryz.ntmps9
  go_wp2
  go_ret
  exact ⟨rfl, rfl⟩
set_option maxRecDepth 20000 in
set_option maxHeartbeats 1600000 in
theorem far_short (s : ByteArray) (a : Option Addr) (n c : Nat) (l : List ByteArray) (w : World) (hw : Words w.heap.size w (.slice a n c) l) (hs : s.size ≤ 300) (hn : n ≤ 200) : Calls Tryz.prog 9 #[.string s, .slice a n c] w fun e w' => e = .returned (.bool (longL l)) ∧ w = w' := by
  have t1 : ¬ (300 : Int) < (s.size : Int) := by omega
  have t2 : ¬ (200 : Int) < (n : Int) := by omega
  have t3 : decide ((300 : Int) < (s.size : Int)) = false := by simp; omega
  have t4 : decide ((200 : Int) < (n : Int)) = false := by simp; omega
  obtain ⟨R, hR⟩ : ∃ R, R = longL l := ⟨_, rfl⟩
  rw [← hR]
  have HR : Hid (R = longL l) := hR
  have HW : Hid (Words w.heap.size w (.slice a n c) l ∧ n = l.length) := ⟨hw, hw.len⟩
  clear hw hR
  go_enter Tryz.func9, Tryz.ntmps9
  go_wp2
  go_loopw [17] (fun vi wr => ∃ k : Nat, k ≤ n ∧ vi = .int .i64 k ∧ Hid (R = longL (l.drop k)) ∧ w = wr) (fun vi _ => n - (intOf vi).toNat)
  case atStart => exact ⟨0, Nat.zero_le _, rfl, HR, rfl⟩
  case round =>
    obtain ⟨k, hk, rfl, HZ, rfl⟩ := hrel
    by_cases hlt : k < n
    · have hil : (k : Int) < (n : Int) := by omega
      have hkl : k < l.length := by rw [← HW.out.2]; exact hlt
      obtain ⟨b0, o0, ha, _, e1⟩ := HW.out.1.pick k hkl
      subst ha
      obtain ⟨x, hx⟩ : ∃ x, x = l[k] := ⟨_, rfl⟩
      rw [← hx] at e1
      have HZ2 : Hid (R = (decide (60 < x.size) || longL (l.drop (k + 1)))) := by
        unfold Hid; rw [HZ.out, List.drop_eq_getElem_cons hkl, ← hx]; rfl
      clear hx hkl HZ
      by_cases h60 : 60 < x.size
      · have u1 : (60 : Int) < (x.size : Int) := by omega
        have HR2 : Hid (R = true) := by unfold Hid; rw [HZ2.out, decide_eq_true h60]; rfl
        clear HZ2
        go_wp2
        go_ret
        exact ⟨by rw [HR2.out]; rfl, rfl⟩
      · have u1 : ¬ (60 : Int) < (x.size : Int) := by omega
        have HR2 : Hid (R = longL (l.drop (k + 1))) := by unfold Hid; rw [HZ2.out, decide_eq_false h60]; rfl
        clear HZ2
        go_wp2
        go_roundw
        case rel => exact ⟨k + 1, by omega, by go_num, HR2, trivial⟩
        case measure => simp [intOf]; omega
    · obtain rfl : k = n := by omega
      have HR2 : Hid (R = false) := by unfold Hid; rw [HZ.out, HW.out.2, List.drop_length]; rfl
      clear HZ
      go_wp2
      go_ret
      exact ⟨by rw [HR2.out]; rfl, rfl⟩
theorem few_of {l : List ByteArray} (h1 : l.length ≤ 200) (h2 : longL l = false) : Few l := by
  have h3 : ∀ y ∈ l, y.size ≤ 60 := fun y hy => by
    unfold longL at h2
    rw [List.any_eq_false] at h2
    have := h2 y hy
    simp at this; omega
  have h4 := sizeL_le l 60 h3
  have h5 := Nat.mul_le_mul_right 60 h1
  exact ⟨by omega, by omega⟩
end Go.Proofs.YtedepknbaakkhaaGreatDoor
