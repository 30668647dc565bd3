/-
  What New makes.
-/
import Derived.Test.YtkelmhpoplbacaaGreatDoorU4
namespace Go.Proofs.YtkelmhpoplbacaaGreatDoor.V
open Go.RowKit Go.Shelf Go.Maps

theorem Rep.none : Rep (.map []) [] := ⟨List.Pairwise.nil, rfl, fun _ => rfl, fun _ _ _ h => by cases h⟩
theorem Files.empty {w : World} {m clock : Nat} (hb : w.heap[m]? = some (.map #[] clock)) : Files w m [] :=
  ⟨.map [], ⟨#[], clock, hb, ⟨by simp, MapKept.stamped_empty clock, by simp⟩, Nat.le_refl _, rfl⟩, Rep.none⟩

def newC (B k j : Nat) : Value := if j < k then .map (some (B + 1 + j)) else .map none
def newCells (B k : Nat) : Array Value := #[.bool true, newC B k 0, newC B k 1, newC B k 2, newC B k 3]
def newM (B : Nat) (n : Int) : Nat := B + n.toNat
theorem new_cells (B : Nat) : newCells B 4 = cellsOf (newM B) := rfl

set_option maxRecDepth 20000 in
set_option maxHeartbeats 1000000 in
theorem new_any (w : World) :
    Calls Tryz.prog 8 #[] w fun e w' => e = .returned (ptr w.heap.size) ∧ VSet w.heap.size w.heap.size (newM w.heap.size) VS.none_ w' ∧ Below w.heap.size w w' := by
  have hmm := @run_makeMap Tryz.prog
  go_enter Tryz.func8, Tryz.ntmps8
  go_wp2
  go_loopw [5] (fun v wr => ∃ k : Nat, k ≤ 4 ∧ v = .int .i64 k ∧ wr.heap[w.heap.size]? = some (.cells (newCells w.heap.size k) 74 (0, 0)) ∧ Hid (∀ j, j < k → wr.heap[w.heap.size + 1 + j]? = some (.map #[] 0)) ∧ wr.heap.size = w.heap.size + 1 + k ∧ Below w.heap.size w wr)
    (fun v _ => (4 - intOf v).toNat)
  case atStart => exact ⟨0, by omega, rfl, heap_alloc_new w _, fun j hj => absurd hj (Nat.not_lt_zero _), by simp, (Below.refl _ _).alloc (Nat.le_refl _) _⟩
  case round =>
    obtain ⟨k, hk, rfl, hblk, HM, hsz, hb⟩ := hrel
    by_cases h4 : k = 4
    · subst h4
      have HE : Hid (VSet w.heap.size w.heap.size (newM w.heap.size) VS.none_ wr) := by
        refine ⟨by rw [hblk, new_cells], fun n hn => ?_, fun i j hi hj hne => ?_, Nat.le_refl _, fun n hn => by unfold newM; omega, VS.ok_none⟩
        · refine Files.empty (clock := 0) ?_
          rcases isSc_cases hn with rfl | rfl | rfl | rfl
          · exact HM.out 0 (by omega)
          · exact HM.out 1 (by omega)
          · exact HM.out 2 (by omega)
          · exact HM.out 3 (by omega)
        · unfold newM
          have hi' := isSc_cases hi
          have hj' := isSc_cases hj
          omega
      clear hblk HM hsz
      go_wp2
      go_ret
      exact ⟨rfl, HE.out, hb⟩
    · obtain ⟨B, hB⟩ : ∃ B, B = w.heap.size := ⟨_, rfl⟩
      have hcell : wr.cell? ⟨w.heap.size, 1 + k, none⟩ = some (.map none) := by
        simp only [World.cell?, hblk]
        have : k = 0 ∨ k = 1 ∨ k = 2 ∨ k = 3 := by omega
        rcases this with rfl | rfl | rfl | rfl <;> rfl
      have hfz : wr.frozen? ⟨w.heap.size, 1 + k, none⟩ = false := by simp [World.frozen?, hblk]
      have HN : Hid ((newCells w.heap.size k).setIfInBounds (1 + k) (.map (some (w.heap.size + 1 + k))) = newCells w.heap.size (k + 1)) := by
        have : k = 0 ∨ k = 1 ∨ k = 2 ∨ k = 3 := by omega
        rcases this with rfl | rfl | rfl | rfl <;> rfl
      obtain ⟨W1, hW1⟩ : ∃ W1, W1 = wr.setCell ⟨w.heap.size, 1 + k, none⟩ (.map (some (w.heap.size + 1 + k))) := ⟨_, rfl⟩
      have hW1b : W1.heap[w.heap.size]? = some (.cells (newCells w.heap.size (k + 1)) 74 (0, 0)) := by rw [hW1, heap_set hblk, HN.out]
      have hW1s : W1.heap.size = w.heap.size + 1 + k := by rw [hW1, size_set, hsz]
      have HG : Hid ((W1.alloc (.map #[] 0)).heap[w.heap.size]? = some (.cells (newCells w.heap.size (k + 1)) 74 (0, 0)) ∧ (∀ j, j < k + 1 → (W1.alloc (.map #[] 0)).heap[w.heap.size + 1 + j]? = some (.map #[] 0)) ∧ (W1.alloc (.map #[] 0)).heap.size = w.heap.size + 1 + (k + 1) ∧ Below w.heap.size w (W1.alloc (.map #[] 0))) := by
        refine ⟨?_, fun j hj => ?_, ?_, ?_⟩
        · rw [Below.heap_alloc W1 _ _ (by omega)]; exact hW1b
        · by_cases hjk : j = k
          · subst hjk; rw [← hW1s]; exact heap_alloc_new W1 _
          · rw [Below.heap_alloc W1 _ _ (by omega), hW1, Below.heap_setCell _ _ _ _ (by simp; omega)]; exact HM.out j (by omega)
        · rw [World.size_alloc, hW1s]; omega
        · have hb1 : Below w.heap.size w W1 := by rw [hW1]; exact hb.setCell (by simp) _
          exact hb1.alloc hb1.size _
      rw [hW1] at HG
      clear hblk HM HN hW1b hW1s hW1 W1
      have hk4 : k = 0 ∨ k = 1 ∨ k = 2 ∨ k = 3 := by omega
      clear hk h4
      rcases hk4 with rfl | rfl | rfl | rfl
      all_goals
        simp only [Nat.reduceAdd, Nat.add_zero] at hcell hfz
        go_wp2
        go_roundw
        case rel =>
          obtain ⟨a1, a2, a3, a4⟩ := HG.out
          exact ⟨_, by decide, rfl, a1, a2, a3, a4⟩
        case measure => simp [intOf]

section
variable {base b : Nat} {m : Int → Nat} {s : VS}

end
end Go.Proofs.YtkelmhpoplbacaaGreatDoor.V
