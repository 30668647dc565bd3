/-
  What the small calls on a store answer: whether it was made, its clock's tick, and why nothing may lie at a place.
-/
import Derived.Test.YtoibdokedhbjpaaGreatStore
import Derived.Laws.LoneSync
import Derived.Deep.RegionHeld3
import Derived.RegionTactic
import Derived.RegionCalls
import Derived.ChangeAlike
import Derived.BigRegion
namespace Go.Proofs.YtoibdokedhbjpaaGreat
open Go.RowKit Go.Shelf Go.Maps

abbrev ptr (b : Nat) : Value := .pointer (some ⟨b, 0, none⟩)

set_option maxHeartbeats 400000 in
theorem ready_any {base b m : Nat} {v : Value} {s : St} (w : World) (h : Store base b m v s w) :
    Calls Tryz.prog 27 #[ptr b] w fun e w' => e = .returned (.bool true) ∧ w' = w := by
  have c0 := h.c0
  clear h
  go_enter Tryz.func27, Tryz.ntmps27
  go_wp2
  go_ret
  exact ⟨rfl, rfl⟩

theorem add64 (args : World) {b i : Nat} {x y : Int} (hc : args.cell? ⟨b, i, none⟩ = some (.int .i64 x)) (hz : args.frozen? ⟨b, i, none⟩ = false) (h0 : -9223372036854775808 ≤ x + y) (h1 : x + y < 9223372036854775808) :
    (callFunc 71 #[.pointer (some ⟨b, i, none⟩), .int .i64 y]).run Tryz.prog args = .ok (.value (.int .i64 (x + y))) (args.setCell ⟨b, i, none⟩ (.int .i64 (x + y))) :=
  run_call_add Tryz.func71 (by kernel_rfl) (by kernel_rfl) (by kernel_rfl) .i64 (by kernel_rfl) hc hz (by simp [go_sem, IntKind.wrap_i64]; omega)
theorem load64 (w : World) {b i : Nat} {x : Int} (hc : w.cell? ⟨b, i, none⟩ = some (.int .i64 x)) :
    (callFunc 64 #[.pointer (some ⟨b, i, none⟩)]).run Tryz.prog w = .ok (.value (.int .i64 x)) w :=
  run_call_load Tryz.func64 (by kernel_rfl) (by kernel_rfl) (by kernel_rfl) .i64 (by kernel_rfl) hc

set_option maxHeartbeats 400000 in
theorem aadd_any {b i : Nat} {x y : Int} (w : World) (hc : w.cell? ⟨b, i, none⟩ = some (.int .i64 x)) (hz : w.frozen? ⟨b, i, none⟩ = false) (h0 : -9223372036854775808 ≤ x + y) (h1 : x + y < 9223372036854775808) :
    Calls Tryz.prog 55 #[.pointer (some ⟨b, i, none⟩), .int .i64 y] w fun e w' => e = .returned (.int .i64 (x + y)) ∧ w' = w.setCell ⟨b, i, none⟩ (.int .i64 (x + y)) := by
  have ha := add64 w hc hz h0 h1
  go_enter Tryz.func55, Tryz.ntmps55
  go_wp2
  go_ret
  exact ⟨rfl, rfl⟩
set_option maxHeartbeats 400000 in
theorem aload_any {b i : Nat} {x : Int} (w : World) (hc : w.cell? ⟨b, i, none⟩ = some (.int .i64 x)) :
    Calls Tryz.prog 43 #[.pointer (some ⟨b, i, none⟩)] w fun e w' => e = .returned (.int .i64 x) ∧ w' = w := by
  have ha := load64 w hc
  go_enter Tryz.func43, Tryz.ntmps43
  go_wp2
  go_ret
  exact ⟨rfl, rfl⟩

set_option maxHeartbeats 400000 in
theorem tick_any {base b m : Nat} {v : Value} {s : St} (w : World) (h : Store base b m v s w) (hn : s.now ≤ 2000000000000000000) :
    Calls Tryz.prog 52 #[ptr b] w fun e w' => e = .returned (.int .i64 (s.now + 1)) ∧ w' = w.setCell ⟨b, 2, none⟩ (.int .i64 (s.now + 1)) := by
  have c2 := h.c2
  have h0 := h.ok.now0
  have HA : Hid (Calls Tryz.prog 55 #[.pointer (some ⟨b, 2, none⟩), .int .i64 1] w fun e w' => e = .returned (.int .i64 (s.now + 1)) ∧ w' = w.setCell ⟨b, 2, none⟩ (.int .i64 (s.now + 1))) := aadd_any w c2 (h.frozen 2) (by omega) (by omega)
  clear h c2
  go_enter Tryz.func52, Tryz.ntmps52
  go_wp2_with fail
  refine HA.out.mono ?_
  rintro e w' ⟨rfl, rfl⟩
  go_wp2
  go_ret
  exact ⟨rfl, rfl⟩

theorem zeroEnt (w : World) : (zeroValue 60).run Tryz.prog w = .ok (entV noE) w := Tryz.zeroValue60 w
theorem Files.see {w : World} {m : Nat} {L : Fs} (h : Files w m L) {q : ByteArray} (hq : q.size ≤ 140737488355328) (W : World) (hW : W.heap[m]? = w.heap[m]?) :
    (Instr.lookup 61 (.map (some m)) (.string q) true).run Tryz.prog W = .ok (.tuple #[entV (gotE L q), .bool (L.look q).isSome]) W := by
  obtain ⟨D, hown, hR⟩ := h.of_block hW
  obtain ⟨v, ps, hrun, hv⟩ := hown.look_ok keyed9 Tryz.underlying61 (zeroEnt W) (entR_mk noE) (Go.WideMaps.keyOf_string_mk (P := Tryz.prog) Tryz.underlying9 (s := q) (by unfold maxLen; omega))
  obtain ⟨e, rfl, he⟩ := entR_inv hv
  have h2 : D.atKey (keyL q) (entD noE) = entD e := congrArg Prod.fst he
  rw [hR.got] at h2
  rw [hrun, ← entD_inj h2]
  rw [show Maps.has D (Lit.string q.data.toList) = _ from hR.look q]
end Go.Proofs.YtoibdokedhbjpaaGreat
