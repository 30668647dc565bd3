/-
  What the small calls on a set answer: whether it was made, whether a number is a scope's, a scope's map, and a name's value.
-/
import Derived.Test.YtjbmmeneejcpbaaVSet
import Derived.Deep.RegionHeld3
namespace Go.Proofs.Ytjbmmeneejcpbaa
open Go.RowKit Go.Shelf Go.Maps

set_option maxHeartbeats 400000 in
theorem ready_any {base b : Nat} {m : Int → Nat} {s : VS} (w : World) (h : VSet base b m s w) :
    Calls Try.prog 40 #[ptr b] w fun e w' => e = .returned (.bool true) ∧ w = w' := by
  have c0 := h.c0
  clear h
  go_enter Try.func40, Try.ntmps40
  go_wp2
  go_ret
  exact ⟨rfl, rfl⟩

set_option maxHeartbeats 400000 in
theorem isScope_any (n : Int) (w : World) :
    Calls Try.prog 41 #[.int .i64 n] w fun e w' => e = .returned (.bool (isSc n)) ∧ w = w' := by
  by_cases h1 : 1 ≤ n
  · by_cases h2 : n ≤ 4
    · have HR : Hid (isSc n = true) := by unfold Hid isSc; simp [h1, h2]
      go_enter Try.func41, Try.ntmps41
      go_wp2
      go_ret
      exact ⟨ret_bool HR.out.symm, rfl⟩
    · have HR : Hid (isSc n = false) := by unfold Hid isSc; simp [h2]
      go_enter Try.func41, Try.ntmps41
      go_wp2
      go_ret
      exact ⟨ret_bool HR.out.symm, rfl⟩
  · have HR : Hid (isSc n = false) := by unfold Hid isSc; simp [h1]
    go_enter Try.func41, Try.ntmps41
    go_wp2
    go_ret
    exact ⟨ret_bool HR.out.symm, rfl⟩

theorem ret_map {a b : Option Nat} (h : a = b) : Ending.returned (.map a) = .returned (.map b) := by rw [h]
theorem ret_int {a b : Int} (h : a = b) : Ending.returned (.int .i64 a) = .returned (.int .i64 b) := by rw [h]
def mapAt (m : Int → Nat) (n : Int) : Option Nat := if isSc n then some (m n) else none

set_option maxHeartbeats 400000 in
theorem all_any {base b : Nat} {m : Int → Nat} {s : VS} (n : Int) (w : World) (h : VSet base b m s w) :
    Calls Try.prog 36 #[ptr b, .int .i64 n] w fun e w' => e = .returned (.map (mapAt m n)) ∧ w = w' := by
  have HR : Hid (Calls Try.prog 40 #[ptr b] w fun e w' => e = .returned (.bool true) ∧ w = w') := ready_any w h
  have HS : Hid (Calls Try.prog 41 #[.int .i64 n] w fun e w' => e = .returned (.bool (isSc n)) ∧ w = w') := isScope_any n w
  have c1 := h.c1
  have c2 := h.c2
  have c3 := h.c3
  have c4 := h.c4
  clear h
  cases hn : isSc n
  · have HM : Hid (mapAt m n = none) := by unfold Hid mapAt; rw [hn]; rfl
    rw [hn] at HS
    clear hn
    go_enter Try.func36, Try.ntmps36
    go_wp2_with fail
    refine HR.out.mono ?_
    rintro e w' ⟨rfl, rfl⟩
    go_wp2_with fail
    refine HS.out.mono ?_
    rintro e w' ⟨rfl, rfl⟩
    go_wp2
    go_ret
    exact ⟨ret_map HM.out.symm, rfl⟩
  · have HM : Hid (mapAt m n = some (m n)) := by unfold Hid mapAt; rw [hn]; rfl
    rw [hn] at HS
    rcases isSc_cases hn with rfl | rfl | rfl | rfl
    all_goals
      clear hn
      go_enter Try.func36, Try.ntmps36
      go_wp2_with fail
      refine HR.out.mono ?_
      rintro e w' ⟨rfl, rfl⟩
      go_wp2_with fail
      refine HS.out.mono ?_
      rintro e w' ⟨rfl, rfl⟩
      go_wp2
      go_ret
      exact ⟨ret_map HM.out.symm, rfl⟩


/-- A name's value, and whether it has one. -/
def optV (o : Option ByteArray) : Value := .tuple #[.string (o.getD E), .bool o.isSome]
theorem sees {base b : Nat} {m : Int → Nat} {s : VS} {w : World} (h : VSet base b m s w) (n : Int) {q : ByteArray} (hq : q.size ≤ 140737488355328) (W : World) (hB : Below w.heap.size w W) :
    (Instr.lookup 52 (.map (mapAt m n)) (.string q) true).run Try.prog W = .ok (.tuple #[entV (((s n).look q).getD E), .bool ((s n).look q).isSome]) W := by
  unfold mapAt
  cases hn : isSc n
  · rw [if_neg (by simp), see_nil hq, h.ok.out n hn]; rfl
  · rw [if_pos rfl]; exact (h.map n hn).see hq W (hB.block _ (h.ltm hn))

set_option maxHeartbeats 400000 in
theorem in_any {base b : Nat} {m : Int → Nat} {s : VS} (n : Int) (q : ByteArray) (w : World) (h : VSet base b m s w) (hq : q.size ≤ 140737488355328) :
    Calls Try.prog 18 #[ptr b, .int .i64 n, .string q] w fun e w' => e = .returned (optV ((s n).look q)) ∧ Below w.heap.size w w' := by
  have HA : Hid (Calls Try.prog 36 #[ptr b, .int .i64 n] w fun e w' => e = .returned (.map (mapAt m n)) ∧ w = w') := all_any n w h
  have HL := sees h n hq w (Below.refl _ _)
  obtain ⟨M, hM⟩ : ∃ M, M = mapAt m n := ⟨_, rfl⟩
  rw [← hM] at HA HL
  unfold optV
  obtain ⟨v, hv⟩ : ∃ v, v = ((s n).look q).getD E := ⟨_, rfl⟩
  obtain ⟨t, ht⟩ : ∃ t, t = ((s n).look q).isSome := ⟨_, rfl⟩
  rw [← hv, ← ht] at HL ⊢
  clear hM hv ht h
  go_enter Try.func18, Try.ntmps18
  go_wp2_with fail
  refine HA.out.mono ?_
  rintro e w' ⟨rfl, rfl⟩
  go_wp2
  go_ret2
  exact ⟨rfl, (Below.refl _ _).alloc (Nat.le_refl _) _⟩
end Go.Proofs.Ytjbmmeneejcpbaa
