/-
  Why nothing may lie at a place.
-/
import Derived.Test.YtoibdokedhbjpaaGreatSmall
namespace Go.Proofs.YtoibdokedhbjpaaGreat
open Go.RowKit Go.Shelf Go.Maps

/-- What a world that has only grown shows of a store's map at a path. -/
theorem sees {base b m : Nat} {v : Value} {s : St} {w : World} (h : Store base b m v s w) {q : ByteArray} (hq : q.size ≤ 140737488355328) {r : Value} (hr : r = .tuple #[entV (gotE s.L q), .bool (s.L.look q).isSome]) (W : World) (hB : Below w.heap.size w W) :
    Below w.heap.size w W ∧ W.cell? ⟨b, 3, none⟩ = some (.map (some m)) ∧ (Instr.lookup 61 (.map (some m)) (.string q) true).run Tryz.prog W = .ok r W := by
  subst hr
  exact ⟨hB, (hB.cell (p := ⟨b, 3, none⟩) h.lt).trans h.c3, h.map.see hq W (hB.block m h.ltm)⟩

set_option maxHeartbeats 400000 in
theorem mayLie_any {base b m : Nat} {v : Value} {s : St} (q : ByteArray) (w : World) (h : Store base b m v s w) (hq : q.size ≤ 1100000) :
    Calls Tryz.prog 54 #[ptr b, .string q] w fun e w' => e = .returned (.int .i64 (s.home q)) ∧ Below w.heap.size w w' := by
  have hds : (dirB q).size ≤ 140737488355328 := by
    unfold dirB; split
    · decide
    · split
      · decide
      · simp; omega
  have HD : Hid (∀ W, Calls Tryz.prog 65 #[.string q] W fun e w' => e = .returned (.string (dirB q)) ∧ w' = W) := fun W => dir_any q W (by omega)
  obtain ⟨d, hd⟩ : ∃ d, d = dirB q := ⟨_, rfl⟩
  rw [← hd] at HD hds
  obtain ⟨e0, he0⟩ : ∃ e0, e0 = gotE s.L d := ⟨_, rfl⟩
  obtain ⟨t0, ht0⟩ : ∃ t0, t0 = (s.L.look d).isSome := ⟨_, rfl⟩
  have HS : Hid (∀ W, Below w.heap.size w W → Below w.heap.size w W ∧ W.cell? ⟨b, 3, none⟩ = some (.map (some m)) ∧ (Instr.lookup 61 (.map (some m)) (.string d) true).run Tryz.prog W = .ok (.tuple #[.agg #[.string e0.text, .int .i64 e0.time, .bool e0.dir], .bool t0]) W) :=
    fun W hB => sees h hds (by rw [he0, ht0]; rfl) W hB
  have HH : Hid (s.home q = if t0 then (if e0.dir then 0 else 8) else 6) := by
    unfold Hid St.home
    rw [← hd, he0, ht0]
    unfold gotE
    cases s.L.look d <;> rfl
  have hbl := h.lt
  clear hd he0 ht0 h hds
  obtain ⟨tx, tm, td⟩ := e0
  go_enter Tryz.func54, Tryz.ntmps54
  go_wp2_with fail
  go_region_held3 (fun W => Below w.heap.size w W ∧ W.cell? ⟨b, 3, none⟩ = some (.map (some m)) ∧ (Instr.lookup 61 (.map (some m)) (.string d) true).run Tryz.prog W = .ok (.tuple #[.agg #[.string tx, .int .i64 tm, .bool td], .bool t0]) W)
    (exact HS.out _ (by first | exact (Below.refl _ _).drew | exact ((Below.refl _ _).alloc (Nat.le_refl _) _).drew)) (first | (go_at_call 65; refine (HD.out _).mono ?_; rintro e w' ⟨rfl, rfl⟩))
  all_goals
    cases t0 <;> cases td
    all_goals
      go_wp2
      go_ret
      exact ⟨ret_int HH.out.symm, ((Below.refl _ _).alloc (Nat.le_refl _) _).drew⟩
end Go.Proofs.YtoibdokedhbjpaaGreat
