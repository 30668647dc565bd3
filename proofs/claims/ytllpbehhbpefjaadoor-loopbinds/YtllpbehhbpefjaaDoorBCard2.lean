/-
  A list of lines as a parameter.
-/
import Derived.Test.YtllpbehhbpefjaaDoorBCard
import Derived.Deep.Slices
import Derived.Lib.SmallJoins
namespace Go.Proofs.YtllpbehhbpefjaaDoor
open Go.ChangeShapes Go.WideShapes Go.ChangeAt Go.RowKit
open Go.WideMaps Go.WideElems

theorem cells9 : Tryd.prog.cellsOf 9 = 1 := by kernel_rfl
theorem cells4 : Tryd.prog.cellsOf 4 = 1 := by kernel_rfl
theorem cell_here {W : World} {a : Addr} {v : Value} (h : W.cell? a = some v) : a.block < W.heap.size ∧ a.spot = none := by
  unfold World.cell? at h
  cases hb : W.heap[a.block]? with
  | none => rw [hb] at h; simp at h
  | some o =>
    refine ⟨(Array.getElem?_eq_some_iff.1 hb).1, ?_⟩
    rw [hb] at h
    cases o <;> simp at h
    exact h.1
theorem cellsL : Tryd.prog.cellsOf 37 = 3 := by kernel_rfl
theorem cellsF3 : Tryd.prog.cellsOf 3 = 1 := by kernel_rfl
def Lz.dat {H : Type} (x : Lz) : DataW H := .agg [.lit (.string x.text.data.toList), .lit (.int .i64 x.at_), .lit (.bool x.cmd)]
theorem three {α : Type} {l : List α} (h : l.length = 3) : ∃ a b c, l = [a, b, c] := by
  match l, h with
  | [a, b, c], _ => exact ⟨a, b, c, rfl⟩
set_option maxRecDepth 20000 in
theorem line_of {H : Type} {enc : TypeId × Value → H} {W : World} {base : Nat} {sp : Nat → Bool} {held : Bool} {n : Nat} {cs : List Value} {x : DataW H × List MemPlace} (h : DataW.trod enc Tryd.prog W base sp held n 37 cs = some x) :
    ∃ a : Lz, cs = lzC a ∧ x.1 = a.dat ∧ a.text.size ≤ 9223372036854775807 := by
  obtain ⟨xs, m, _, rfl, hl, hlen, hf⟩ := DataW.trod_struct Tryd.underlying37 h
  rw [cellsL] at hl
  obtain ⟨c0, c1, c2, rfl⟩ := three hl
  have e0 : DataW.trod enc Tryd.prog W base sp held m 9 (([c0, c1, c2].drop 0).take (Tryd.prog.cellsOf 9)) = xs[0]? := hf 0 _ rfl
  rw [cells9] at e0
  have e1 : DataW.trod enc Tryd.prog W base sp held m 3 (([c0, c1, c2].drop 1).take (Tryd.prog.cellsOf 3)) = xs[1]? := hf 1 _ rfl
  rw [cellsF3] at e1
  have e2 : DataW.trod enc Tryd.prog W base sp held m 4 (([c0, c1, c2].drop 2).take (Tryd.prog.cellsOf 4)) = xs[2]? := hf 2 _ rfl
  rw [cells4] at e2
  simp only [List.drop_zero, List.drop_succ_cons, List.take_succ_cons, List.take_zero] at e0 e1 e2
  have hx : ∀ i, i < 3 → ∃ y, xs[i]? = some y := fun i hi => ⟨_, List.getElem?_eq_getElem (by rw [hlen]; exact hi)⟩
  obtain ⟨y0, h0⟩ := hx 0 (by omega)
  obtain ⟨y1, h1⟩ := hx 1 (by omega)
  obtain ⟨y2, h2⟩ := hx 2 (by omega)
  have hml : maxLen = 9223372036854775807 := by decide
  obtain ⟨t, t1, rfl, t4⟩ := DataW.trod_string Tryd.underlying9 (e0.trans h0)
  obtain ⟨n', n1, rfl, n2⟩ := DataW.trod_int Tryd.underlying3 (e1.trans h1)
  obtain ⟨b, b1, b2⟩ := DataW.trod_bool Tryd.underlying4 (e2.trans h2)
  subst b2
  have hxs : xs = [(.lit (.string t.data.toList), []), (.lit (.int .i64 n'), []), (.lit (.bool b), [])] := by
    obtain ⟨a0, a1, a2, rfl⟩ := three (show xs.length = 3 from hlen)
    simp at h0 h1 h2
    rw [h0, h1, h2]
  refine ⟨⟨t, n', b⟩, ?_, ?_, by rw [← hml]; exact t4⟩
  · simp only [List.cons.injEq, and_true] at t1 n1 b1
    rw [t1, n1, b1]; rfl
  · rw [hxs]; rfl
set_option maxRecDepth 20000 in
theorem lines_of {H : Type} {enc : TypeId × Value → H} {W : World} {base : Nat} {v : Value} {d : DataW H} {ps : List MemPlace} (hval : Value.okWide Tryd.prog W .any base 22 v) (h : DataW.Trod enc Tryd.prog W 0 (fun _ => true) true 22 v d ps) :
    ∃ l : List Lz, LZ W.heap.size W v l ∧ l.length ≤ 9223372036854775807 ∧ ∀ x ∈ l, x.text.size ≤ 9223372036854775807 := by
  have hml : maxLen = 9223372036854775807 := by decide
  obtain ⟨a0, len, cap, rfl⟩ := WideShapes.okWide_slice Tryd.underlying22 hval
  obtain ⟨fuel, hf⟩ := h
  rcases Go.Deep.open_slice Tryd.underlying22 hf with ⟨hcs, _⟩ | ⟨a, len', cap', m, n, D, Pl, hcs, _, hl, hcm, hm, hx, hcell⟩
  · have e1 : Value.slice a0 len cap = .slice none 0 0 := by simpa [Value.cells] using hcs
    simp only [Value.slice.injEq] at e1
    obtain ⟨rfl, rfl, rfl⟩ := e1
    exact ⟨[], ⟨none, 0, 0, rfl, rfl, Nat.le_refl _, fun i x hi => by simp at hi⟩, by simp, by simp⟩
  · have e1 : Value.slice a0 len cap = .slice (some a) len' cap' := by simpa [Value.cells] using hcs
    simp only [Value.slice.injEq] at e1
    obtain ⟨rfl, rfl, rfl⟩ := e1
    simp only [if_true] at hm
    subst hm
    rw [cellsL] at hcell
    have key : ∀ i, i < m → ∃ x : Lz, x.text.size ≤ 9223372036854775807 ∧ W.cells? 0 (a.add (i * 3)) 3 = some (lzC x) := fun i hi => by
      obtain ⟨cs', h1, h2⟩ := hcell i hi
      obtain ⟨x, rfl, hx1, hx2⟩ := line_of h2
      exact ⟨x, hx2, h1⟩
    have inh : Inhabited Lz := ⟨⟨⟨#[]⟩, 0, false⟩⟩
    obtain ⟨V, hV⟩ := Go.Deep.choose_lt (α := Lz) (p := fun i x => x.text.size ≤ 9223372036854775807 ∧ W.cells? 0 (a.add (i * 3)) 3 = some (lzC x)) key
    refine ⟨(List.range len).map V, ⟨some a, len, m, rfl, by simp, hl, fun i x hi => ?_⟩, ?_, ?_⟩
    · have hi' : i < len := by have := (List.getElem?_eq_some_iff.1 hi).1; simpa using this
      have hxv : x = V i := by
        rw [List.getElem?_map, List.getElem?_range hi'] at hi
        exact (Option.some.inj hi).symm
      obtain ⟨_, hc⟩ := hV i (by omega)
      obtain ⟨_, _, hcc⟩ := World.cells?_some hc
      obtain ⟨_, hc0⟩ := hV 0 (by omega)
      obtain ⟨_, _, hcc0⟩ := World.cells?_some hc0
      have hfirst : W.cell? (a.add 0) = some (.string (V 0).text) := by
        have := hcc0 0 (by omega)
        rw [Nat.zero_mul] at this
        exact this
      obtain ⟨b, o, sp⟩ := a
      have hsp : sp = none := by
        have h0 := (cell_here hfirst).2
        simpa [Addr.add] using h0
      have hbl : b < W.heap.size := by
        have h0 := (cell_here hfirst).1
        simpa [Addr.add] using h0
      subst hsp
      rw [hxv]
      have g0 := hcc 0 (by omega)
      have g1 := hcc 1 (by omega)
      have g2 := hcc 2 (by omega)
      rw [add_none, add_none] at g0 g1 g2
      exact ⟨b, o, rfl, hbl, g0, g1, g2⟩
    · rw [List.length_map, List.length_range]; omega
    · intro x hx
      obtain ⟨i, hi, rfl⟩ := List.mem_map.1 hx
      exact (hV i (by have := List.mem_range.1 hi; omega)).1
end Go.Proofs.YtllpbehhbpefjaaDoor
