/-
  Which byte parts; read of S; of a plain word.
-/
import Derived.Test.YthcbagggalehgaaGreatDoorM4
namespace Go.Proofs.YthcbagggalehgaaGreatDoor
open Go.RowKit Go.Shelf

/-- A byte that may part. -/
def partsB (c : UInt8) : Bool := decide (¬ (97 ≤ c.toNat ∧ c.toNat ≤ 122) ∧ ¬ (65 ≤ c.toNat ∧ c.toNat ≤ 90) ∧ ¬ (48 ≤ c.toNat ∧ c.toNat ≤ 57) ∧ c.toNat ≠ 32 ∧ c.toNat ≠ 9 ∧ c.toNat ≠ 92)

set_option maxRecDepth 20000 in
set_option maxHeartbeats 3200000 in
theorem parts_any (c : UInt8) (cn : Int) (w : World) (hc : cn = (c.toNat : Int)) : Calls Tryz.prog 108 #[.int .u8 cn] w fun e w' => e = .returned (.bool (partsB c)) ∧ w = w' := by
  obtain ⟨R, hR⟩ : ∃ R, R = partsB c := ⟨_, rfl⟩
  rw [← hR]
  have h255 := c.toNat_lt
  have HRR : Hid (R = decide (¬ (97 ≤ cn ∧ cn ≤ 122) ∧ ¬ (65 ≤ cn ∧ cn ≤ 90) ∧ ¬ (48 ≤ cn ∧ cn ≤ 57) ∧ cn ≠ 32 ∧ cn ≠ 9 ∧ cn ≠ 92)) := by
    unfold Hid; rw [hR]; unfold partsB; rw [hc, decide_eq_decide]; omega
  have h0 : 0 ≤ cn := by omega
  have h1 : cn ≤ 255 := by omega
  clear hc hR h255
  go_enter Tryz.func108, Tryz.ntmps108
  have hall : (0 ≤ cn ∧ cn ≤ 8) ∨ cn = 9 ∨ (10 ≤ cn ∧ cn ≤ 31) ∨ cn = 32 ∨ (33 ≤ cn ∧ cn ≤ 47) ∨ (48 ≤ cn ∧ cn ≤ 57) ∨ (58 ≤ cn ∧ cn ≤ 64) ∨ (65 ≤ cn ∧ cn ≤ 90) ∨ cn = 91 ∨ cn = 92 ∨ (93 ≤ cn ∧ cn ≤ 96) ∨ (97 ≤ cn ∧ cn ≤ 122) ∨ (123 ≤ cn ∧ cn ≤ 255) := by omega
  rcases hall with h | h | h | h | h | h | h | h | h | h | h | h | h
  · have g97 : ¬ (97 : Int) ≤ cn := by omega
    have g122 : cn ≤ (122 : Int) := by omega
    have g65 : ¬ (65 : Int) ≤ cn := by omega
    have g90 : cn ≤ (90 : Int) := by omega
    have g48 : ¬ (48 : Int) ≤ cn := by omega
    have g57 : cn ≤ (57 : Int) := by omega
    have e32 : (cn != 32) = true := by rw [bne_iff_ne]; omega
    have e9 : (cn != 9) = true := by rw [bne_iff_ne]; omega
    have e92 : (cn != 92) = true := by rw [bne_iff_ne]; omega
    have HR : Hid (R = true) := HRR.out.trans (by simp only [decide_eq_true_eq]; omega)
    clear HRR h
    go_wp2
    go_ret
    exact ⟨by rw [HR.out]; rfl, rfl⟩
  · have g97 : ¬ (97 : Int) ≤ cn := by omega
    have g122 : cn ≤ (122 : Int) := by omega
    have g65 : ¬ (65 : Int) ≤ cn := by omega
    have g90 : cn ≤ (90 : Int) := by omega
    have g48 : ¬ (48 : Int) ≤ cn := by omega
    have g57 : cn ≤ (57 : Int) := by omega
    have e32 : (cn != 32) = true := by rw [bne_iff_ne]; omega
    have e9 : (cn != 9) = false := by rw [bne_eq_false_iff_eq]; omega
    have e92 : (cn != 92) = true := by rw [bne_iff_ne]; omega
    have HR : Hid (R = false) := HRR.out.trans (by simp only [decide_eq_false_iff_not]; omega)
    clear HRR h
    go_wp2
    go_ret
    exact ⟨by rw [HR.out]; rfl, rfl⟩
  · have g97 : ¬ (97 : Int) ≤ cn := by omega
    have g122 : cn ≤ (122 : Int) := by omega
    have g65 : ¬ (65 : Int) ≤ cn := by omega
    have g90 : cn ≤ (90 : Int) := by omega
    have g48 : ¬ (48 : Int) ≤ cn := by omega
    have g57 : cn ≤ (57 : Int) := by omega
    have e32 : (cn != 32) = true := by rw [bne_iff_ne]; omega
    have e9 : (cn != 9) = true := by rw [bne_iff_ne]; omega
    have e92 : (cn != 92) = true := by rw [bne_iff_ne]; omega
    have HR : Hid (R = true) := HRR.out.trans (by simp only [decide_eq_true_eq]; omega)
    clear HRR h
    go_wp2
    go_ret
    exact ⟨by rw [HR.out]; rfl, rfl⟩
  · have g97 : ¬ (97 : Int) ≤ cn := by omega
    have g122 : cn ≤ (122 : Int) := by omega
    have g65 : ¬ (65 : Int) ≤ cn := by omega
    have g90 : cn ≤ (90 : Int) := by omega
    have g48 : ¬ (48 : Int) ≤ cn := by omega
    have g57 : cn ≤ (57 : Int) := by omega
    have e32 : (cn != 32) = false := by rw [bne_eq_false_iff_eq]; omega
    have e9 : (cn != 9) = true := by rw [bne_iff_ne]; omega
    have e92 : (cn != 92) = true := by rw [bne_iff_ne]; omega
    have HR : Hid (R = false) := HRR.out.trans (by simp only [decide_eq_false_iff_not]; omega)
    clear HRR h
    go_wp2
    go_ret
    exact ⟨by rw [HR.out]; rfl, rfl⟩
  · have g97 : ¬ (97 : Int) ≤ cn := by omega
    have g122 : cn ≤ (122 : Int) := by omega
    have g65 : ¬ (65 : Int) ≤ cn := by omega
    have g90 : cn ≤ (90 : Int) := by omega
    have g48 : ¬ (48 : Int) ≤ cn := by omega
    have g57 : cn ≤ (57 : Int) := by omega
    have e32 : (cn != 32) = true := by rw [bne_iff_ne]; omega
    have e9 : (cn != 9) = true := by rw [bne_iff_ne]; omega
    have e92 : (cn != 92) = true := by rw [bne_iff_ne]; omega
    have HR : Hid (R = true) := HRR.out.trans (by simp only [decide_eq_true_eq]; omega)
    clear HRR h
    go_wp2
    go_ret
    exact ⟨by rw [HR.out]; rfl, rfl⟩
  · have g97 : ¬ (97 : Int) ≤ cn := by omega
    have g122 : cn ≤ (122 : Int) := by omega
    have g65 : ¬ (65 : Int) ≤ cn := by omega
    have g90 : cn ≤ (90 : Int) := by omega
    have g48 : (48 : Int) ≤ cn := by omega
    have g57 : cn ≤ (57 : Int) := by omega
    have e32 : (cn != 32) = true := by rw [bne_iff_ne]; omega
    have e9 : (cn != 9) = true := by rw [bne_iff_ne]; omega
    have e92 : (cn != 92) = true := by rw [bne_iff_ne]; omega
    have HR : Hid (R = false) := HRR.out.trans (by simp only [decide_eq_false_iff_not]; omega)
    clear HRR h
    go_wp2
    go_ret
    exact ⟨by rw [HR.out]; rfl, rfl⟩
  · have g97 : ¬ (97 : Int) ≤ cn := by omega
    have g122 : cn ≤ (122 : Int) := by omega
    have g65 : ¬ (65 : Int) ≤ cn := by omega
    have g90 : cn ≤ (90 : Int) := by omega
    have g48 : (48 : Int) ≤ cn := by omega
    have g57 : ¬ cn ≤ (57 : Int) := by omega
    have e32 : (cn != 32) = true := by rw [bne_iff_ne]; omega
    have e9 : (cn != 9) = true := by rw [bne_iff_ne]; omega
    have e92 : (cn != 92) = true := by rw [bne_iff_ne]; omega
    have HR : Hid (R = true) := HRR.out.trans (by simp only [decide_eq_true_eq]; omega)
    clear HRR h
    go_wp2
    go_ret
    exact ⟨by rw [HR.out]; rfl, rfl⟩
  · have g97 : ¬ (97 : Int) ≤ cn := by omega
    have g122 : cn ≤ (122 : Int) := by omega
    have g65 : (65 : Int) ≤ cn := by omega
    have g90 : cn ≤ (90 : Int) := by omega
    have g48 : (48 : Int) ≤ cn := by omega
    have g57 : ¬ cn ≤ (57 : Int) := by omega
    have e32 : (cn != 32) = true := by rw [bne_iff_ne]; omega
    have e9 : (cn != 9) = true := by rw [bne_iff_ne]; omega
    have e92 : (cn != 92) = true := by rw [bne_iff_ne]; omega
    have HR : Hid (R = false) := HRR.out.trans (by simp only [decide_eq_false_iff_not]; omega)
    clear HRR h
    go_wp2
    go_ret
    exact ⟨by rw [HR.out]; rfl, rfl⟩
  · have g97 : ¬ (97 : Int) ≤ cn := by omega
    have g122 : cn ≤ (122 : Int) := by omega
    have g65 : (65 : Int) ≤ cn := by omega
    have g90 : ¬ cn ≤ (90 : Int) := by omega
    have g48 : (48 : Int) ≤ cn := by omega
    have g57 : ¬ cn ≤ (57 : Int) := by omega
    have e32 : (cn != 32) = true := by rw [bne_iff_ne]; omega
    have e9 : (cn != 9) = true := by rw [bne_iff_ne]; omega
    have e92 : (cn != 92) = true := by rw [bne_iff_ne]; omega
    have HR : Hid (R = true) := HRR.out.trans (by simp only [decide_eq_true_eq]; omega)
    clear HRR h
    go_wp2
    go_ret
    exact ⟨by rw [HR.out]; rfl, rfl⟩
  · have g97 : ¬ (97 : Int) ≤ cn := by omega
    have g122 : cn ≤ (122 : Int) := by omega
    have g65 : (65 : Int) ≤ cn := by omega
    have g90 : ¬ cn ≤ (90 : Int) := by omega
    have g48 : (48 : Int) ≤ cn := by omega
    have g57 : ¬ cn ≤ (57 : Int) := by omega
    have e32 : (cn != 32) = true := by rw [bne_iff_ne]; omega
    have e9 : (cn != 9) = true := by rw [bne_iff_ne]; omega
    have e92 : (cn != 92) = false := by rw [bne_eq_false_iff_eq]; omega
    have HR : Hid (R = false) := HRR.out.trans (by simp only [decide_eq_false_iff_not]; omega)
    clear HRR h
    go_wp2
    go_ret
    exact ⟨by rw [HR.out]; rfl, rfl⟩
  · have g97 : ¬ (97 : Int) ≤ cn := by omega
    have g122 : cn ≤ (122 : Int) := by omega
    have g65 : (65 : Int) ≤ cn := by omega
    have g90 : ¬ cn ≤ (90 : Int) := by omega
    have g48 : (48 : Int) ≤ cn := by omega
    have g57 : ¬ cn ≤ (57 : Int) := by omega
    have e32 : (cn != 32) = true := by rw [bne_iff_ne]; omega
    have e9 : (cn != 9) = true := by rw [bne_iff_ne]; omega
    have e92 : (cn != 92) = true := by rw [bne_iff_ne]; omega
    have HR : Hid (R = true) := HRR.out.trans (by simp only [decide_eq_true_eq]; omega)
    clear HRR h
    go_wp2
    go_ret
    exact ⟨by rw [HR.out]; rfl, rfl⟩
  · have g97 : (97 : Int) ≤ cn := by omega
    have g122 : cn ≤ (122 : Int) := by omega
    have g65 : (65 : Int) ≤ cn := by omega
    have g90 : ¬ cn ≤ (90 : Int) := by omega
    have g48 : (48 : Int) ≤ cn := by omega
    have g57 : ¬ cn ≤ (57 : Int) := by omega
    have e32 : (cn != 32) = true := by rw [bne_iff_ne]; omega
    have e9 : (cn != 9) = true := by rw [bne_iff_ne]; omega
    have e92 : (cn != 92) = true := by rw [bne_iff_ne]; omega
    have HR : Hid (R = false) := HRR.out.trans (by simp only [decide_eq_false_iff_not]; omega)
    clear HRR h
    go_wp2
    go_ret
    exact ⟨by rw [HR.out]; rfl, rfl⟩
  · have g97 : (97 : Int) ≤ cn := by omega
    have g122 : ¬ cn ≤ (122 : Int) := by omega
    have g65 : (65 : Int) ≤ cn := by omega
    have g90 : ¬ cn ≤ (90 : Int) := by omega
    have g48 : (48 : Int) ≤ cn := by omega
    have g57 : ¬ cn ≤ (57 : Int) := by omega
    have e32 : (cn != 32) = true := by rw [bne_iff_ne]; omega
    have e9 : (cn != 9) = true := by rw [bne_iff_ne]; omega
    have e92 : (cn != 92) = true := by rw [bne_iff_ne]; omega
    have HR : Hid (R = true) := HRR.out.trans (by simp only [decide_eq_true_eq]; omega)
    clear HRR h
    go_wp2
    go_ret
    exact ⟨by rw [HR.out]; rfl, rfl⟩
end Go.Proofs.YthcbagggalehgaaGreatDoor
