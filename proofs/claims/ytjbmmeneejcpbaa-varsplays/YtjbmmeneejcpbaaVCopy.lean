/-
  What Copy answers.
-/
import Derived.Test.YtjbmmeneejcpbaaVNames
import Derived.Shelf.SlMaps.Clone
namespace Go.Proofs.Ytjbmmeneejcpbaa
open Go.RowKit Go.Shelf Go.Maps

set_option maxRecDepth 20000 in
set_option maxHeartbeats 1000000 in
theorem clone_any (b : Nat) (es : Array MapEntry) (clock : Nat) (w : World) (hb : w.heap[b]? = some (.map es clock)) :
    Calls Try.prog 44 #[.map (some b)] w fun e w' => e = .returned (.map (some w.heap.size)) ∧ w' = w.alloc (.map es clock) := by
  have hq := fun w => run_eql_map_nil_sl (P := Try.prog) w 52 _ _ (some b) Try.underlying52
  go_enter Try.func44, Try.ntmps44
  go_wp2
  rw [run_callFunc_extern Try.func51 (by kernel_rfl) (by kernel_rfl) (by kernel_rfl) (e := Extern.MapsClone.clone) (by kernel_rfl), run_maps_clone_sl w 52 hb]
  simp only [Result.andThen]
  rw [Oper.upon_value]
  go_wp2
  rw [run_typeAssert_map_sl _ 52 20 _ _ _ Try.underlying52]
  simp only [Result.andThen]
  rw [Oper.upon_value]
  go_wp2
  go_ret
  exact ⟨rfl, rfl⟩

theorem index0 (a c d e : Option Nat) (W : World) : (Instr.index 53 (.agg #[.map a, .map c, .map d, .map e]) (.int .i64 0)).run Try.prog W = .ok (.map a) W := by
  simp [Instr.index, run_underlying Try.underlying53, Result.andThen, go_sem]
theorem index1 (a c d e : Option Nat) (W : World) : (Instr.index 53 (.agg #[.map a, .map c, .map d, .map e]) (.int .i64 1)).run Try.prog W = .ok (.map c) W := by
  simp [Instr.index, run_underlying Try.underlying53, Result.andThen, go_sem]
theorem index2 (a c d e : Option Nat) (W : World) : (Instr.index 53 (.agg #[.map a, .map c, .map d, .map e]) (.int .i64 2)).run Try.prog W = .ok (.map d) W := by
  simp [Instr.index, run_underlying Try.underlying53, Result.andThen, go_sem]
theorem index3 (a c d e : Option Nat) (W : World) : (Instr.index 53 (.agg #[.map a, .map c, .map d, .map e]) (.int .i64 3)).run Try.prog W = .ok (.map e) W := by
  simp [Instr.index, run_underlying Try.underlying53, Result.andThen, go_sem]
section
variable {base b : Nat} {m : Int → Nat} {s : VS}

theorem Files.twin {w : World} {k : Nat} {L : Sc} (h : Files w k L) : ∃ es clock, w.heap[k]? = some (.map es clock) ∧ ∀ (W : World) (j : Nat), W.heap[j]? = some (.map es clock) → Files W j L := by
  obtain ⟨D, ⟨es, clock, hb, r⟩, hR⟩ := h
  exact ⟨es, clock, hb, fun W j hj => ⟨D, ⟨es, clock, hj, r⟩, hR⟩⟩

set_option maxRecDepth 20000 in
set_option maxHeartbeats 2000000 in
theorem copy_any (w : World) (h : VSet base b m s w) :
    Calls Try.prog 25 #[ptr b] w fun e w' => e = .returned (ptr w.heap.size) ∧ VSet w.heap.size w.heap.size (newM w.heap.size) s w' ∧ Below w.heap.size w w' := by
  have HR : Hid (Calls Try.prog 40 #[ptr b] w fun e w' => e = .returned (.bool true) ∧ w = w') := ready_any w h
  have c1 := h.c1
  have c2 := h.c2
  have c3 := h.c3
  have c4 := h.c4
  have hbl := h.lt
  have hok := h.ok
  have HT : Hid (∀ j : Nat, j < 4 → ∃ es clock, w.heap[m (j + 1)]? = some (.map es clock) ∧ m (j + 1) < w.heap.size ∧ ∀ (W : World) (i : Nat), W.heap[i]? = some (.map es clock) → Files W i (s (j + 1))) := fun j hj => by
    have hn : isSc ((j : Int) + 1) = true := by unfold isSc; simp; omega
    obtain ⟨es, clock, h1, h2⟩ := (h.map _ hn).twin
    exact ⟨es, clock, h1, h.ltm hn, h2⟩
  clear h
  have i0 := index0
  have i1 := index1
  have i2 := index2
  have i3 := index3
  go_enter Try.func25, Try.ntmps25
  go_wp2_with fail
  refine HR.out.mono ?_
  rintro e w' ⟨rfl, rfl⟩
  go_wp2
  go_loopw [15] (fun v wr => ∃ k : Nat, k ≤ 4 ∧ v = .int .i64 k ∧ wr.heap[w.heap.size]? = some (.cells (newCells w.heap.size k) 55 (0, 0)) ∧ Hid (∀ j, j < k → Files wr (w.heap.size + 1 + j) (s (j + 1))) ∧ wr.heap.size = w.heap.size + 1 + k ∧ Below w.heap.size w wr)
    (fun v _ => (4 - intOf v).toNat)
  case atStart => exact ⟨0, by omega, rfl, heap_alloc_new w _, fun j hj => absurd hj (Nat.not_lt_zero _), by simp, (Below.refl _ _).alloc (Nat.le_refl _) _⟩
  case round =>
    obtain ⟨k, hk, rfl, hblk, HM, hsz, hb⟩ := hrel
    by_cases h4 : k = 4
    · subst h4
      have HE : Hid (VSet w.heap.size w.heap.size (newM w.heap.size) s wr) := by
        refine ⟨by rw [hblk, new_cells], fun n hn => ?_, fun i j hi hj hne => ?_, Nat.le_refl _, fun n hn => by unfold newM; omega, hok⟩
        · rcases isSc_cases hn with rfl | rfl | rfl | rfl
          · exact HM.out 0 (by omega)
          · exact HM.out 1 (by omega)
          · exact HM.out 2 (by omega)
          · exact HM.out 3 (by omega)
        · unfold newM
          have hi' := isSc_cases hi
          have hj' := isSc_cases hj
          omega
      clear hblk HM hsz
      go_wp2
      go_ret
      exact ⟨rfl, HE.out, hb⟩
    · obtain ⟨es, clock, hmb, hml, HF⟩ := HT.out k (by omega)
      have hcell : wr.cell? ⟨w.heap.size, 1 + k, none⟩ = some (.map none) := by
        simp only [World.cell?, hblk]
        have : k = 0 ∨ k = 1 ∨ k = 2 ∨ k = 3 := by omega
        rcases this with rfl | rfl | rfl | rfl <;> rfl
      have hfz : wr.frozen? ⟨w.heap.size, 1 + k, none⟩ = false := by simp [World.frozen?, hblk]
      have HN : Hid ((newCells w.heap.size k).setIfInBounds (1 + k) (.map (some (w.heap.size + 1 + k))) = newCells w.heap.size (k + 1)) := by
        have : k = 0 ∨ k = 1 ∨ k = 2 ∨ k = 3 := by omega
        rcases this with rfl | rfl | rfl | rfl <;> rfl
      have HC : Hid (∀ (M : Nat) (W : World), M = m (k + 1) → (∀ j, j < w.heap.size → W.heap[j]? = wr.heap[j]?) → Calls Try.prog 44 #[.map (some M)] W fun e w' => e = .returned (.map (some W.heap.size)) ∧ w' = W.alloc (.map es clock)) := by
        rintro M W rfl hW
        exact clone_any _ es clock W ((hW _ hml).trans ((hb.block _ hml).trans hmb))
      have HG : Hid (∀ W1 : World, W1 = wr.setCell ⟨w.heap.size, 1 + k, none⟩ (.map (some (w.heap.size + 1 + k))) → (W1.alloc (.map es clock)).heap[w.heap.size]? = some (.cells (newCells w.heap.size (k + 1)) 55 (0, 0)) ∧ (∀ j, j < k + 1 → Files (W1.alloc (.map es clock)) (w.heap.size + 1 + j) (s (j + 1))) ∧ (W1.alloc (.map es clock)).heap.size = w.heap.size + 1 + (k + 1) ∧ Below w.heap.size w (W1.alloc (.map es clock))) := by
        intro W1 hW1
        have hW1b : W1.heap[w.heap.size]? = some (.cells (newCells w.heap.size (k + 1)) 55 (0, 0)) := by rw [hW1, heap_set hblk, HN.out]
        have hW1s : W1.heap.size = w.heap.size + 1 + k := by rw [hW1, size_set, hsz]
        refine ⟨?_, fun j hj => ?_, ?_, ?_⟩
        · rw [Below.heap_alloc W1 _ _ (by omega)]; exact hW1b
        · by_cases hjk : j = k
          · subst hjk; exact HF _ _ (by rw [← hW1s]; exact heap_alloc_new W1 _)
          · exact (HM.out j (by omega)).of_block (by rw [Below.heap_alloc W1 _ _ (by omega), hW1, Below.heap_setCell _ _ _ _ (by simp; omega)])
        · rw [World.size_alloc, hW1s]; omega
        · have hb1 : Below w.heap.size w W1 := by rw [hW1]; exact hb.setCell (by simp) _
          exact hb1.alloc hb1.size _
      have hk4 : k = 0 ∨ k = 1 ∨ k = 2 ∨ k = 3 := by omega
      clear hk h4 hmb hml HF HM HN hblk HT
      rcases hk4 with rfl | rfl | rfl | rfl
      all_goals
        simp only [Nat.reduceAdd, Nat.add_zero] at hcell hfz
        go_wp2_with fail
        go_wp2_with fail
        go_region_held3 (fun _ => True)
          (trivial)
          (first | (go_at_call 44; refine (HC.out _ _ (by rfl) (fun _ _ => by rfl)).mono ?_; rintro e w3 ⟨rfl, rfl⟩))
        go_wp2
        go_roundw
        case rel =>
          obtain ⟨a1, a2, a3, a4⟩ := HG.out _ rfl
          exact ⟨_, by decide, rfl, a1, a2, a3, a4.drew⟩
        case measure => simp [intOf]
end
end Go.Proofs.Ytjbmmeneejcpbaa
