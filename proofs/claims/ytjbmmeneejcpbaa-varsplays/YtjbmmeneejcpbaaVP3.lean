/-
  The document's Right.
-/
import Derived.Test.YtjbmmeneejcpbaaVP2
namespace Go.Proofs.Ytjbmmeneejcpbaa
open Go.RowKit Go.Shelf Go.Maps

theorem conv_tn (w : World) : (convert 49 9 (.slice (some ⟨w.heap.size, 0, none⟩) 2 2)).run Try.prog (w.alloc (.cells #[.int .u8 9, .int .u8 10] 5)) = .ok (.string ⟨#[9, 10]⟩) (w.alloc (.cells #[.int .u8 9, .int .u8 10] 5)) := by
  have hblk := heap_alloc_new w (.cells #[.int .u8 9, .int .u8 10] 5)
  refine run_convert_bytes_back _ 49 9 5 ⟨w.heap.size, 0, none⟩ 2 [9, 10] Try.underlying49 Try.underlying5 Try.underlying9 fun i hi => ?_
  have hi3 : i < 2 := hi
  rw [add_none]
  have h3 : i = 0 ∨ i = 1 := by omega
  rcases h3 with rfl | rfl
  · rw [cell_in hblk 0 rfl]; rfl
  · rw [cell_in hblk 1 rfl]; rfl
theorem ch_get (x : UInt8) : bad x = true ↔ ∃ (k : Nat) (h : k < CH.size), CH[k]'h = x := by
  have e : bad x = CH.data.toList.contains x := rfl
  rw [e, List.contains_iff_mem]
  constructor
  · intro h
    obtain ⟨k, hk, he⟩ := List.getElem_of_mem h
    exact ⟨k, by simpa using hk, he⟩
  · rintro ⟨k, hk, rfl⟩
    exact List.getElem_mem (by simpa using hk)

set_option maxRecDepth 20000 in
set_option maxHeartbeats 2000000 in
theorem rright_any (s : ByteArray) (w : World) (hs : s.size ≤ 140737488355328) :
    Calls Try.prog 11 #[.string s] w fun e w' => e = .returned (.bool (rightB s)) ∧ Below w.heap.size w w' := by
  have hcv := conv_tn w
  have h11 : CH.size = 11 := rfl
  have hch : ⟨#[32]⟩ ++ ⟨#[9, 10]⟩ ++ ⟨#[36, 58, 61, 123, 125, 40, 41, 35]⟩ = CH := rfl
  have hb0 : Below w.heap.size w (w.alloc (.cells #[.int .u8 9, .int .u8 10] 5)) := (Below.refl _ _).alloc (Nat.le_refl _) _
  go_enter Try.func11, Try.ntmps11
  go_wp2
  obtain ⟨W0, hW0⟩ : ∃ W0, W0 = w.alloc (.cells #[.int .u8 9, .int .u8 10] 5) := ⟨_, rfl⟩
  rw [← hW0] at hb0 ⊢
  clear hW0 hcv hch
  go_loopw [4, 5] (fun vi _ wr => ∃ k : Nat, k ≤ s.size ∧ vi = .int .i64 k ∧ Hid (∀ j, j < k → (hj : j < s.size) → bad s[j] = false) ∧ Below w.heap.size w wr)
    (fun vi _ _ => s.size - (intOf vi).toNat)
  case atStart => exact ⟨0, Nat.zero_le _, rfl, fun j hj => by omega, hb0⟩
  case round =>
    obtain ⟨k, hk, rfl, HB, hb⟩ := hrel
    clear hb0
    by_cases hlt : k < s.size
    · have hil : (k : Int) < (s.size : Int) := by omega
      go_wp2
      go_loopw [5] (fun vi wr2 => ∃ z : Nat, z ≤ 11 ∧ vi = .int .i64 z ∧ Hid (∀ j, j < z → (hj : j < CH.size) → CH[j] ≠ s[k]) ∧ Below w.heap.size w wr2)
        (fun vi _ => 11 - (intOf vi).toNat)
      case atStart => exact ⟨0, Nat.zero_le _, rfl, fun j hj => by omega, hb⟩
      case round =>
        obtain ⟨z, hz, rfl, HZ, hb2⟩ := hrel
        clear hb
        by_cases hzl : z < 11
        · have hzs : z < CH.size := hzl
          have hzi : (z : Int) < (CH.size : Int) := by omega
          have hz11 : (z : Int) < 11 := by omega
          by_cases hx : CH[z] = s[k]
          · have HE : Hid (rightB s = false) := by
              have hbad : bad s[k] = true := (ch_get _).2 ⟨z, hzs, hx⟩
              have : (bl s).any bad = true := anySp_true s k hlt hbad
              unfold Hid rightB; rw [this]; simp
            have hxv : ((s[k].toNat : Int) == (CH[z].toNat : Int)) = true := by rw [hx]; simp
            clear hx HZ HB
            go_wp2_with fail
            go_quiet (fail)
            go_wp2
            go_ret
            exact ⟨ret_bool HE.out.symm, below_drewN hb2 _⟩
          · have hxv : ((s[k].toNat : Int) == (CH[z].toNat : Int)) = false := by
              rw [← Bool.not_eq_true, beq_iff_eq]; intro e; apply hx; rw [u8_eq_iff]; omega
            have HZ1 : Hid (∀ j, j < z + 1 → (hj : j < CH.size) → CH[j] ≠ s[k]) := fun j hj hjs => by
              by_cases hjz : j = z
              · subst hjz; exact hx
              · exact HZ.out j (by omega) hjs
            clear hx HZ
            go_wp2_with fail
            go_quiet (fail)
            have hb3 : Below w.heap.size w (wr.drewN nq) := below_drewN hb2 _
            generalize wr.drewN nq = w5 at hb3 ⊢
            go_wp2
            go_roundw
            case rel => exact ⟨z + 1, by omega, by go_num, HZ1, hb3⟩
            case measure => simp [intOf]; omega
        · have hz11 : ¬ (z : Int) < 11 := by omega
          have HB1 : Hid (∀ j, j < k + 1 → (hj : j < s.size) → bad s[j] = false) := fun j hj hjs => by
            by_cases hjk : j = k
            · subst hjk
              rw [← Bool.not_eq_true, ch_get]
              rintro ⟨i, hi, e⟩
              exact HZ.out i (by omega) hi e
            · exact HB.out j (by omega) hjs
          clear HZ HB
          go_wp2
          go_roundw
          case rel => exact ⟨k + 1, by omega, by go_num, HB1, hb2⟩
          case measure => simp [intOf]; omega
    · have hil : ¬ (k : Int) < (s.size : Int) := by omega
      have HE : Hid (rightB s = (decide (1 ≤ s.size) && decide (s.size ≤ 64))) := by
        have : (bl s).any bad = false := anySp_false s (fun j hj => HB.out j (by omega) hj)
        unfold Hid rightB; rw [this]; simp
      clear HB
      by_cases h1 : 1 ≤ s.size
      · have h1i : (1 : Int) ≤ (s.size : Int) := by omega
        by_cases h64 : s.size ≤ 64
        · have h64i : (s.size : Int) ≤ 64 := by omega
          go_wp2
          go_ret
          exact ⟨ret_bool (by rw [HE.out]; simp [h1, h64]), hb⟩
        · have h64i : ¬ (s.size : Int) ≤ 64 := by omega
          go_wp2
          go_ret
          exact ⟨ret_bool (by rw [HE.out]; simp [h64]), hb⟩
      · have h1i : ¬ (1 : Int) ≤ (s.size : Int) := by omega
        go_wp2
        go_ret
        exact ⟨ret_bool (by rw [HE.out]; simp [h1]), hb⟩
end Go.Proofs.Ytjbmmeneejcpbaa
