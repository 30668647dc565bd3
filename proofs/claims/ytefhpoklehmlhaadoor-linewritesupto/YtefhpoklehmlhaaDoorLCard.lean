/-
  Lists of texts and of marks as parameters.
-/
import Derived.Test.YtefhpoklehmlhaaDoorLWorld
import Derived.Test.YtefhpoklehmlhaaDoorL17
import Derived.SliceStrings
import Derived.Deep.Grids
namespace Go.Proofs.YtefhpoklehmlhaaDoor
open Go.ChangeShapes Go.WideShapes Go.ChangeAt Go.RowKit
open Go.WideMaps Go.WideElems

theorem cells9 : Tryd.prog.cellsOf 9 = 1 := by kernel_rfl
theorem cells4 : Tryd.prog.cellsOf 4 = 1 := by kernel_rfl
theorem cell_here {W : World} {a : Addr} {v : Value} (h : W.cell? a = some v) : a.block < W.heap.size ∧ a.spot = none := by
  unfold World.cell? at h
  cases hb : W.heap[a.block]? with
  | none => rw [hb] at h; simp at h
  | some o =>
    refine ⟨(Array.getElem?_eq_some_iff.1 hb).1, ?_⟩
    rw [hb] at h
    cases o <;> simp at h
    exact h.1
theorem addr_plain {W : World} {a : Addr} {v : Value} {i : Nat} (h : W.cell? (a.add i) = some v) (h0 : a.spot = none) : ∃ b o, a = ⟨b, o, none⟩ ∧ b < W.heap.size ∧ W.cell? ⟨b, o + i, none⟩ = some v := by
  obtain ⟨b, o, sp⟩ := a
  simp only at h0
  subst h0
  have h1 := (cell_here h).1
  rw [add_none] at h h1
  exact ⟨b, o, rfl, h1, h⟩
/-- A list of texts as a parameter. -/
theorem words_of {H : Type} {enc : TypeId × Value → H} {W : World} {fuel a0 len cap} {x : DataW H × List MemPlace} (h : DataW.trod enc Tryd.prog W 0 (fun _ => true) true fuel 35 [.slice a0 len cap] = some x) :
    ∃ l : List ByteArray, len ≤ 9223372036854775807 ∧ (∀ y ∈ l, y.size ≤ 9223372036854775807) ∧ Words W.heap.size W (.slice a0 len cap) l := by
  have hml : maxLen = 9223372036854775807 := by decide
  rcases open_strings Tryd.underlying35 Tryd.underlying9 cells9 h with ⟨hcs, _⟩ | ⟨a, len', cap', ss, hcs, _, hl, hm, hz, _, hcell, hws⟩
  · simp only [List.cons.injEq, Value.slice.injEq, and_true] at hcs
    obtain ⟨rfl, rfl, rfl⟩ := hcs
    exact ⟨[], by omega, by simp, none, 0, 0, rfl, rfl, Nat.le_refl _, fun i hi => by simp at hi⟩
  · simp only [List.cons.injEq, Value.slice.injEq, and_true] at hcs
    obtain ⟨rfl, rfl, rfl⟩ := hcs
    have hzz : ss.length = cap := by simpa using hz
    have hlen : (ss.take len).length = len := by simp; omega
    refine ⟨ss.take len, by omega, fun y hy => by rw [← hml]; exact hws y (List.mem_of_mem_take hy), some a, len, cap, rfl, hlen.symm, hl, fun i hi => ?_⟩
    have hc := hcell i (by omega)
    have hg : ss.getD i ByteArray.empty = (ss.take len)[i] := by
      rw [List.getElem_take, List.getD_eq_getElem?_getD, List.getElem?_eq_getElem (by omega)]; rfl
    rw [hg] at hc
    have h0 : a.spot = none := by
      have h0 := (cell_here (hcell 0 (by omega))).2
      simpa [Addr.add] using h0
    obtain ⟨b, o, rfl, h1, h2⟩ := addr_plain hc h0
    exact ⟨b, o, rfl, h1, h2⟩
/-- A list of marks as a parameter. -/
theorem marks_of {H : Type} {enc : TypeId × Value → H} {W : World} {fuel a0 len cap} {x : DataW H × List MemPlace} (h : DataW.trod enc Tryd.prog W 0 (fun _ => true) true fuel 36 [.slice a0 len cap] = some x) :
    ∃ l : List Bool, len ≤ 9223372036854775807 ∧ Marks W.heap.size W (.slice a0 len cap) l := by
  have hml : maxLen = 9223372036854775807 := by decide
  rcases Go.Deep.open_bools Tryd.underlying36 Tryd.underlying4 cells4 h with ⟨hcs, _⟩ | ⟨a, len', cap', B, hcs, _, hl, hm, _, hcell⟩
  · simp only [List.cons.injEq, Value.slice.injEq, and_true] at hcs
    obtain ⟨rfl, rfl, rfl⟩ := hcs
    exact ⟨[], by omega, none, 0, 0, rfl, rfl, Nat.le_refl _, fun i x hi => by simp at hi⟩
  · simp only [List.cons.injEq, Value.slice.injEq, and_true] at hcs
    obtain ⟨rfl, rfl, rfl⟩ := hcs
    refine ⟨(List.range len).map B, by omega, some a, len, cap, rfl, by simp, hl, fun i x hi => ?_⟩
    have hil : i < len := by have := (List.getElem?_eq_some_iff.1 hi).1; simpa using this
    have hxb : x = B i := by
      rw [List.getElem?_map, List.getElem?_range hil] at hi
      exact (Option.some.inj hi).symm
    have hc := hcell i (by omega)
    rw [← hxb] at hc
    have h0 : a.spot = none := by
      have h0 := (cell_here (hcell 0 (by omega))).2
      simpa [Addr.add] using h0
    obtain ⟨b, o, rfl, h1, h2⟩ := addr_plain hc h0
    exact ⟨b, o, rfl, h1, h2⟩
end Go.Proofs.YtefhpoklehmlhaaDoor
