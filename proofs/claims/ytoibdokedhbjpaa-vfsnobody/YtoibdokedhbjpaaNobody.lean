/-
  A store that nobody made answers an error, and has nothing: the law's function answers true.
-/
import Derived.Test.YtoibdokedhbjpaaAlive
import Derived.Test.YtoibdokedhbjpaaNo
namespace Go.Proofs.Ytoibdokedhbjpaa
open Go.RowKit Go.Shelf Go.Maps

theorem cell_at {W : World} {j : Nat} {cs : Array Value} {T : TypeId} (h : W.heap[j]? = some (.cells cs T (0, 0))) (i : Nat) {u : Value} (hu : cs[i]? = some u) : W.cell? ⟨j, i, none⟩ = some u := by
  simp only [World.cell?, h]; exact hu
abbrev actV (k : Int) (p q t : ByteArray) (n : Int) : Value := .agg #[.int .u8 k, .string p, .string q, .string t, .int .i64 n]

set_option maxRecDepth 50000 in
set_option maxHeartbeats 4000000 in
theorem nobody_any (k : Int) (p q t : ByteArray) (n : Int) (w : World) :
    Calls Try.prog 7 #[actV k p q t n] w fun e w' => e = .returned (.bool true) ∧ Below w.heap.size w w' := by
  have HA : Hid (∀ W, Calls Try.prog 10 #[] W fun e w' => e = .returned (.bool true) ∧ Below W.heap.size W w') := fun W => alive_any W
  go_enter Try.func7, Try.ntmps7
  go_wp2
  obtain ⟨W, hW⟩ : ∃ W, W = ((w.alloc (.cells #[.int .u8 k, .string p, .string q, .string t, .int .i64 n] 24)).alloc (.cells #[.bool false, .int .i64 0, .int .i64 0, .map none, .bool false, .slice none 0 0] 56)).alloc (.cells #[.pointer none, .pointer (some ⟨w.heap.size + 1, 0, none⟩)] 25) := ⟨_, rfl⟩
  rw [← hW]
  have k0 : W.heap[w.heap.size]? = some (.cells #[.int .u8 k, .string p, .string q, .string t, .int .i64 n] 24 (0, 0)) := by
    rw [hW, Below.heap_alloc _ _ _ (by simp; omega), Below.heap_alloc _ _ _ (by simp)]; exact heap_alloc_new w _
  have k1 : W.heap[w.heap.size + 1]? = some (.cells #[.bool false, .int .i64 0, .int .i64 0, .map none, .bool false, .slice none 0 0] 56 (0, 0)) := by
    rw [hW, Below.heap_alloc _ _ _ (by simp)]
    have := heap_alloc_new (w.alloc (.cells #[.int .u8 k, .string p, .string q, .string t, .int .i64 n] 24)) (.cells #[.bool false, .int .i64 0, .int .i64 0, .map none, .bool false, .slice none 0 0] 56)
    rwa [World.size_alloc] at this
  have k2 : W.heap[w.heap.size + 1 + 1]? = some (.cells #[.pointer none, .pointer (some ⟨w.heap.size + 1, 0, none⟩)] 25 (0, 0)) := by
    have := heap_alloc_new ((w.alloc (.cells #[.int .u8 k, .string p, .string q, .string t, .int .i64 n] 24)).alloc (.cells #[.bool false, .int .i64 0, .int .i64 0, .map none, .bool false, .slice none 0 0] 56)) (.cells #[.pointer none, .pointer (some ⟨w.heap.size + 1, 0, none⟩)] 25)
    rw [World.size_alloc, World.size_alloc] at this
    rw [hW]; exact this
  have c1 : W.cell? ⟨w.heap.size, 1, none⟩ = some (.string p) := cell_at k0 1 rfl
  have c2 : W.cell? ⟨w.heap.size, 2, none⟩ = some (.string q) := cell_at k0 2 rfl
  have c3 : W.cell? ⟨w.heap.size, 3, none⟩ = some (.string t) := cell_at k0 3 rfl
  have d0 : W.cell? ⟨w.heap.size + 1 + 1, 0, none⟩ = some (.pointer none) := cell_at k2 0 rfl
  have d1 : W.cell? ⟨w.heap.size + 1 + 1, 1, none⟩ = some (.pointer (some ⟨w.heap.size + 1, 0, none⟩)) := cell_at k2 1 rfl
  have hm : W.cell? ⟨w.heap.size + 1, 0, none⟩ = some (.bool false) := cell_at k1 0 rfl
  have HB : Hid (Below w.heap.size w W) := by rw [hW]; exact (((Below.refl _ w).alloc (Nat.le_refl _) _).alloc (by simp) _).alloc (by simp; omega) _
  have HC : Hid (∀ j, j < 2 → ∃ a, W.cell? ⟨w.heap.size + 1 + 1, j, none⟩ = some (.pointer a) ∧ NoSt (.pointer a) W) := fun j hj => by
    match j, hj with
    | 0, _ => exact ⟨_, d0, .inl rfl⟩
    | 1, _ => exact ⟨_, d1, .inr ⟨_, rfl, hm⟩⟩
  clear hW d0 d1 hm k0 k1 k2
  go_loopw [16] (fun vi wr => ∃ j : Nat, j ≤ 2 ∧ vi = .int .i64 j ∧ wr = W) (fun vi _ => 2 - (intOf vi).toNat)
  case atStart => exact ⟨0, by omega, rfl, rfl⟩
  case round =>
    obtain ⟨j, hj, rfl, rfl⟩ := hrel
    by_cases hlt : j < 2
    · have hil : (j : Int) < 2 := by omega
      obtain ⟨a, hc, hno⟩ := HC.out j hlt
      have HN : Hid (NoSt (.pointer a) wr) := hno
      clear hno
      go_wp2_with (first
        | (go_at_call 18; refine (read_no _ _ _ HN.out).mono ?_; rintro e w' ⟨rfl, rfl⟩)
        | (go_at_call 20; refine (stat_no _ _ _ HN.out).mono ?_; rintro e w' ⟨rfl, rfl⟩)
        | (go_at_call 22; refine (list_no _ _ _ HN.out).mono ?_; rintro e w' ⟨rfl, rfl⟩)
        | (go_at_call 23; refine (later_no _ _ _ HN.out).mono ?_; rintro e w' ⟨rfl, rfl⟩)
        | (go_at_call 13; refine (write_no _ _ _ _ HN.out).mono ?_; rintro e w' ⟨rfl, rfl⟩)
        | (go_at_call 24; refine (append_no _ _ _ _ HN.out).mono ?_; rintro e w' ⟨rfl, rfl⟩)
        | (go_at_call 25; refine (remove_no _ _ _ HN.out).mono ?_; rintro e w' ⟨rfl, rfl⟩)
        | (go_at_call 26; refine (move_no _ _ _ _ HN.out).mono ?_; rintro e w' ⟨rfl, rfl⟩)
        | (go_at_call 27; refine (mkdir_no _ _ _ HN.out).mono ?_; rintro e w' ⟨rfl, rfl⟩)
        | (go_at_call 28; refine (touch_no _ _ _ HN.out).mono ?_; rintro e w' ⟨rfl, rfl⟩)
        | (go_at_call 15; refine (all_no _ _ HN.out).mono ?_; rintro e w' ⟨rfl, rfl⟩)
        | (go_at_call 17; refine (used_no _ _ HN.out).mono ?_; rintro e w' ⟨rfl, rfl⟩)
        | (go_at_call 16; refine (clock_no _ _ HN.out).mono ?_; rintro e w' ⟨rfl, rfl⟩)
        | (go_at_call 21; refine (notes_no _ _ _ HN.out).mono ?_; rintro e w' ⟨rfl, rfl⟩)
        | (go_at_call 12; refine (copy_no _ _ HN.out).mono ?_; rintro e w' ⟨rfl, rfl⟩))
      go_roundw
      case rel => exact ⟨j + 1, by omega, by go_num, trivial⟩
      case measure => simp [intOf]; omega
    · obtain rfl : j = 2 := by omega
      go_wp2_with fail
      refine (HA.out _).mono ?_
      rintro e w5 ⟨rfl, hb5⟩
      have HE : Hid (Below w.heap.size w w5) := HB.out.trans (hb5.mono HB.out.size)
      clear hb5
      go_wp2
      go_ret
      exact ⟨rfl, HE.out⟩
end Go.Proofs.Ytoibdokedhbjpaa
