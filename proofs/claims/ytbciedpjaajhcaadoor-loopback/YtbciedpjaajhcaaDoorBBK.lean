/-
  What the law's blocks answers.
-/
import Derived.Test.YtbciedpjaajhcaaDoorBPL
import Derived.Deep.RegionHeld3
namespace Go.Proofs.YtbciedpjaajhcaaDoor
open Go.RowKit Go.Shelf

abbrev lnW (t : ByteArray) (a : Int) (c : Bool) : Value := .agg #[.string t, .int .i64 a, .bool c]
set_option maxRecDepth 20000 in
set_option maxHeartbeats 400000 in
theorem oneW_any (t : ByteArray) (a : Int) (c : Bool) (w : World) : Calls Tryd.prog 20 #[.agg #[.string t, .int .i64 a, .bool c]] w fun e w' => e = .returned (.agg #[.string t, .int .i64 a, .bool c]) ∧ Below w.heap.size w w' := by
  have hb : Below w.heap.size w ((w.alloc (.cells #[.string t, .int .i64 a, .bool c] 43)).alloc (.cells #[.string t, .int .i64 a, .bool c] 38)) := ((Below.refl _ _).alloc (Nat.le_refl _) _).alloc (by simp) _
  have HB : Hid _ := hb
  clear hb
  go_enter Tryd.func20, Tryd.ntmps20
  go_wp2_with fail
  refine bodyPost_ret (v := lnW t a c) (by simp [results, Tryd.results20, go_sem]; try rfl) rfl ?_
  exact ⟨rfl, HB.out⟩

/-- What blocks answers of what lies within a block. -/
def BlocksC (r : Nat) : Prop := ∀ (v : Value) (ts : List Nd) (W : World) (left : Nat), Kd W v ts r → loadN ts ≤ 4000000 → r ≤ left → left ≤ 1000 → Calls Tryd.prog 11 #[v, .int .i64 (left : Int)] W fun e w' => ∃ v', e = .returned v' ∧ Kd w' v' ts r ∧ (v = nilS → v' = nilS) ∧ Below W.heap.size W w'

set_option maxRecDepth 20000 in
set_option maxHeartbeats 800000 in
theorem blocks_nil (w : World) (left : Nat) (_h : left ≤ 1000) : Calls Tryd.prog 11 #[nilS, .int .i64 (left : Int)] w fun e w' => e = .returned nilS ∧ w = w' := by
  go_enter Tryd.func11, Tryd.ntmps11
  go_wp2
  go_loopw [5, 13] (fun v vi wr => v = nilS ∧ vi = .int .i64 0 ∧ w = wr) (fun _ _ _ => 0)
  case atStart => exact ⟨rfl, rfl, rfl⟩
  case round =>
    obtain ⟨rfl, rfl, rfl⟩ := hrel
    go_wp2
    go_ret
    exact ⟨rfl, rfl⟩
theorem blocks_zero : BlocksC 0 := by
  rintro v ts W left ⟨rfl, rfl⟩ _ _ hl
  exact (blocks_nil W left hl).mono fun e w' h => ⟨nilS, h.1, ⟨rfl, rfl⟩, fun _ => rfl, by rw [← h.2]; exact Below.refl _ _⟩
end Go.Proofs.YtbciedpjaajhcaaDoor
