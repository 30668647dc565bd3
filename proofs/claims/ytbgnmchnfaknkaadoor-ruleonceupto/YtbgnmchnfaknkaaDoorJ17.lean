/-
  A list of rules as a parameter.
-/
import Derived.Test.YtbgnmchnfaknkaaDoorJ16
import Derived.Test.YtbgnmchnfaknkaaDoorKW
import Derived.SliceStrings
import Derived.Deep.Slices
import Derived.Lib.SmallJoins
namespace Go.Proofs.YtbgnmchnfaknkaaDoor
open Go.ChangeShapes Go.WideShapes Go.ChangeAt Go.RowKit
open Go.WideMaps Go.WideElems

theorem cells9 : Tryd.prog.cellsOf 9 = 1 := by kernel_rfl
theorem cells3 : Tryd.prog.cellsOf 3 = 1 := by kernel_rfl
theorem cellsSl : Tryd.prog.cellsOf 22 = 1 := by kernel_rfl
theorem cellsR : Tryd.prog.cellsOf 24 = 5 := by kernel_rfl
theorem cell_here {W : World} {a : Addr} {v : Value} (h : W.cell? a = some v) : a.block < W.heap.size ∧ a.spot = none := by
  unfold World.cell? at h
  cases hb : W.heap[a.block]? with
  | none => rw [hb] at h; simp at h
  | some o =>
    refine ⟨(Array.getElem?_eq_some_iff.1 hb).1, ?_⟩
    rw [hb] at h
    cases o <;> simp at h
    exact h.1
theorem addr_plain {W : World} {a : Addr} {v : Value} {i : Nat} (h : W.cell? (a.add i) = some v) (h0 : a.spot = none) : ∃ b o, a = ⟨b, o, none⟩ ∧ b < W.heap.size ∧ W.cell? ⟨b, o + i, none⟩ = some v := by
  obtain ⟨b, o, sp⟩ := a
  simp only at h0
  subst h0
  have h1 := (cell_here h).1
  rw [add_none] at h h1
  exact ⟨b, o, rfl, h1, h⟩
def wz (l : List (List UInt8)) : Nat := (l.map fun s => s.length + 1).sum
theorem wz_cons (x : List UInt8) (l : List (List UInt8)) : wz (x :: l) = x.length + 1 + wz l := by simp [wz]
theorem wz_len (l : List (List UInt8)) : l.length ≤ wz l := by
  induction l with
  | nil => exact Nat.le_refl _
  | cons x l ih => rw [wz_cons, List.length_cons]; omega
theorem wz_mem {l : List (List UInt8)} {x : List UInt8} (h : x ∈ l) : x.length ≤ wz l := by
  induction l with
  | nil => simp at h
  | cons y l ih =>
    rw [wz_cons]
    rcases List.mem_cons.1 h with rfl | h
    · omega
    · have := ih h; omega
theorem bulk_strs {H : Type} (l : List ByteArray) : Rows.uptoBulkAll (strs (H := H) l) = wz (l.map bl) := by
  induction l with
  | nil => rfl
  | cons x l ih =>
    have e : Rows.uptoBulkAll (strs (H := H) (x :: l)) = (x.data.toList.length + 1) + Rows.uptoBulkAll (strs (H := H) l) := rfl
    rw [e, ih, List.map_cons, wz_cons]; rfl
/-- A list of texts within. -/
theorem words_in {H : Type} {enc : TypeId × Value → H} {W : World} {fuel : Nat} {cs : List Value} {x : DataW H × List MemPlace} (h : DataW.trod enc Tryd.prog W 0 (fun _ => true) true fuel 22 cs = some x) :
    ∃ (v : Value) (l : List (List UInt8)), cs = [v] ∧ Words W.heap.size W v (l.map ba) ∧ wz l ≤ Rows.uptoBulk x.1 := by
  rcases open_strings Tryd.underlying22 Tryd.underlying9 cells9 h with ⟨hcs, _⟩ | ⟨a, len, cap, ss, hcs, _, hl, hm, hz, hx, hcell, hws⟩
  · exact ⟨_, [], hcs, ⟨none, 0, 0, rfl, rfl, Nat.le_refl _, fun i hi => by simp at hi⟩, Nat.zero_le _⟩
  · have hzz : ss.length = cap := by simpa using hz
    have hlen : (ss.take len).length = len := by simp; omega
    refine ⟨_, (ss.take len).map bl, hcs, ?_, ?_⟩
    · have e : ((ss.take len).map bl).map ba = ss.take len := by
        rw [List.map_map]
        exact (List.map_congr_left fun x _ => ba_bl x).trans (List.map_id _)
      rw [e]
      refine ⟨some a, len, cap, rfl, hlen.symm, hl, fun i hi => ?_⟩
      have hc := hcell i (by omega)
      have hg : ss.getD i ByteArray.empty = (ss.take len)[i] := by
        rw [List.getElem_take, List.getD_eq_getElem?_getD, List.getElem?_eq_getElem (by omega)]; rfl
      rw [hg] at hc
      have h0 : a.spot = none := by
        have h0 := (cell_here (hcell 0 (by omega))).2
        simpa [Addr.add] using h0
      obtain ⟨b, o, rfl, h1, h2⟩ := addr_plain hc h0
      exact ⟨b, o, rfl, h1, h2⟩
    · rw [hx]
      show _ ≤ Rows.uptoBulkAll (strs (ss.take len)) + _ + 1
      rw [bulk_strs]; omega
def rz (r : Q.Ru) : Nat := wz r.targets + wz r.sources + wz r.commands
/-- What lies in a rule's five cells. -/
def RIn (W : World) (r : Q.Ru) (cs : List Value) : Prop :=
  ∃ vt vs vc, cs = [vt, .int .i64 r.kind, vs, vc, .int .i64 r.at_] ∧ Words W.heap.size W vt (r.targets.map ba) ∧ Words W.heap.size W vs (r.sources.map ba) ∧ Words W.heap.size W vc (r.commands.map ba)
theorem five {α : Type} {l : List α} (h : l.length = 5) : ∃ a b c d e, l = [a, b, c, d, e] := by
  match l, h with
  | [a, b, c, d, e], _ => exact ⟨a, b, c, d, e, rfl⟩
set_option maxRecDepth 20000 in
theorem rule_of {H : Type} {enc : TypeId × Value → H} {W : World} {n : Nat} {cs : List Value} {x : DataW H × List MemPlace} (h : DataW.trod enc Tryd.prog W 0 (fun _ => true) true n 24 cs = some x) :
    ∃ r : Q.Ru, RIn W r cs ∧ rz r + 1 ≤ Rows.uptoBulk x.1 := by
  obtain ⟨xs, m, _, rfl, hl, hlen, hf⟩ := DataW.trod_struct Tryd.underlying24 h
  rw [cellsR] at hl
  obtain ⟨c0, c1, c2, c3, c4, rfl⟩ := five hl
  have e0 : DataW.trod enc Tryd.prog W 0 (fun _ => true) true m 22 (([c0, c1, c2, c3, c4].drop 0).take (Tryd.prog.cellsOf 22)) = xs[0]? := hf 0 _ rfl
  have e1 : DataW.trod enc Tryd.prog W 0 (fun _ => true) true m 3 (([c0, c1, c2, c3, c4].drop 1).take (Tryd.prog.cellsOf 3)) = xs[1]? := hf 1 _ rfl
  have e2 : DataW.trod enc Tryd.prog W 0 (fun _ => true) true m 22 (([c0, c1, c2, c3, c4].drop 2).take (Tryd.prog.cellsOf 22)) = xs[2]? := hf 2 _ rfl
  have e3 : DataW.trod enc Tryd.prog W 0 (fun _ => true) true m 22 (([c0, c1, c2, c3, c4].drop 3).take (Tryd.prog.cellsOf 22)) = xs[3]? := hf 3 _ rfl
  have e4 : DataW.trod enc Tryd.prog W 0 (fun _ => true) true m 3 (([c0, c1, c2, c3, c4].drop 4).take (Tryd.prog.cellsOf 3)) = xs[4]? := hf 4 _ rfl
  rw [cellsSl] at e0 e2 e3
  rw [cells3] at e1 e4
  simp only [List.drop_zero, List.drop_succ_cons, List.take_succ_cons, List.take_zero] at e0 e1 e2 e3 e4
  obtain ⟨y0, y1, y2, y3, y4, rfl⟩ := five (show xs.length = 5 from hlen)
  simp only [List.getElem?_cons_zero, List.getElem?_cons_succ] at e0 e1 e2 e3 e4
  obtain ⟨v0, l0, h0, w0, z0⟩ := words_in e0
  obtain ⟨v2, l2, h2, w2, z2⟩ := words_in e2
  obtain ⟨v3, l3, h3, w3, z3⟩ := words_in e3
  obtain ⟨n1, h1, g1, _⟩ := DataW.trod_int Tryd.underlying3 e1
  obtain ⟨n4, h4, g4, _⟩ := DataW.trod_int Tryd.underlying3 e4
  simp only [List.cons.injEq, and_true] at h0 h2 h3 h1 h4 g1 g4
  subst h0; subst h2; subst h3
  refine ⟨⟨l0, n1, l2, l3, n4⟩, ⟨c0, c2, c3, ?_, w0, w2, w3⟩, ?_⟩
  · simp only [List.cons.injEq, and_true, true_and]
    first | exact ⟨g1, g4⟩ | exact ⟨h1, h4⟩
  · show rz ⟨l0, n1, l2, l3, n4⟩ + 1 ≤ (Rows.uptoBulk y0.1 + (Rows.uptoBulk y1.1 + (Rows.uptoBulk y2.1 + (Rows.uptoBulk y3.1 + (Rows.uptoBulk y4.1 + 0))))) + 1
    unfold rz
    show wz l0 + wz l2 + wz l3 + 1 ≤ _
    omega
def RZ (l : List Q.Ru) : Nat := (l.map fun r => rz r + 1).sum
theorem RZ_len (l : List Q.Ru) : l.length ≤ RZ l := by
  induction l with
  | nil => exact Nat.le_refl _
  | cons x l ih =>
    have e : RZ (x :: l) = rz x + 1 + RZ l := by simp [RZ]
    rw [e, List.length_cons]; omega
theorem RZ_mem {l : List Q.Ru} {r : Q.Ru} (h : r ∈ l) : rz r ≤ RZ l := by
  induction l with
  | nil => simp at h
  | cons y l ih =>
    have e : RZ (y :: l) = rz y + 1 + RZ l := by simp [RZ]
    rw [e]
    rcases List.mem_cons.1 h with rfl | h
    · omega
    · have := ih h; omega
theorem RZ_bulk {H : Type} (V : Nat → Q.Ru) (D : Nat → DataW H) : ∀ L : List Nat, (∀ i ∈ L, rz (V i) + 1 ≤ Rows.uptoBulk (D i)) → RZ (L.map V) ≤ Rows.uptoBulkAll (L.map D)
  | [], _ => Nat.le_refl _
  | i :: L, h => by
    have h1 := RZ_bulk V D L fun j hj => h j (by simp [hj])
    have h2 := h i (by simp)
    have e : RZ ((i :: L).map V) = rz (V i) + 1 + RZ (L.map V) := by simp [RZ]
    have e2 : Rows.uptoBulkAll ((i :: L).map D) = Rows.uptoBulk (D i) + Rows.uptoBulkAll (L.map D) := rfl
    rw [e, e2]; omega
theorem RZ_par {l : List Q.Ru} (h : RZ l ≤ 1048576) : Par l := by
  have each : ∀ r ∈ l, rz r ≤ 1048576 := fun r hr => Nat.le_trans (RZ_mem hr) h
  refine ⟨by have := RZ_len l; omega, fun r hr => ?_, fun r hr => ⟨?_, ?_⟩, fun r hr t ht => ?_⟩
  · have h1 := each r hr; have h2 := wz_len r.targets; unfold rz at h1; omega
  · have h1 := each r hr; have h2 := wz_len r.sources; unfold rz at h1; omega
  · have h1 := each r hr; have h2 := wz_len r.commands; unfold rz at h1; omega
  · have h1 := each r hr; have h2 := wz_mem ht; unfold rz at h1; omega

set_option maxRecDepth 20000 in
theorem rules_of {H : Type} {enc : TypeId × Value → H} {W : World} {base : Nat} {v : Value} {d : DataW H} {ps : List MemPlace} (hval : Value.okWide Tryd.prog W .any base 34 v) (h : DataW.Trod enc Tryd.prog W 0 (fun _ => true) true 34 v d ps) :
    ∃ l : List Q.Ru, RLst W.heap.size W v l ∧ RZ l ≤ Rows.uptoBulk d := by
  obtain ⟨a0, len, cap, rfl⟩ := WideShapes.okWide_slice Tryd.underlying34 hval
  obtain ⟨fuel, hf⟩ := h
  rcases Go.Deep.open_slice Tryd.underlying34 hf with ⟨hcs, _⟩ | ⟨a, len', cap', m, n, D, Pl, hcs, _, hl, _, hm, hx, hcell⟩
  · have e1 : Value.slice a0 len cap = .slice none 0 0 := by simpa [Value.cells] using hcs
    simp only [Value.slice.injEq] at e1
    obtain ⟨rfl, rfl, rfl⟩ := e1
    exact ⟨[], ⟨none, 0, 0, rfl, rfl, Nat.le_refl _, fun i x hi => by simp at hi⟩, Nat.zero_le _⟩
  · have e1 : Value.slice a0 len cap = .slice (some a) len' cap' := by simpa [Value.cells] using hcs
    simp only [Value.slice.injEq] at e1
    obtain ⟨rfl, rfl, rfl⟩ := e1
    simp only [if_true] at hm
    subst hm
    rw [cellsR] at hcell
    have hd : d = .slice ((List.range len).map D) ((List.range (m - len)).map fun j => D (len + j)) := congrArg Prod.fst hx
    have key : ∀ i, i < m → ∃ x : Q.Ru, rz x + 1 ≤ Rows.uptoBulk (D i) ∧ ∃ cs', W.cells? 0 (a.add (i * 5)) 5 = some cs' ∧ RIn W x cs' := fun i hi => by
      obtain ⟨cs', h1, h2⟩ := hcell i hi
      obtain ⟨x, hx1, hx2⟩ := rule_of h2
      exact ⟨x, hx2, cs', h1, hx1⟩
    have inh : Inhabited Q.Ru := ⟨⟨[], 0, [], [], 0⟩⟩
    obtain ⟨V, hV⟩ := Go.Deep.choose_lt (α := Q.Ru) (p := fun i x => rz x + 1 ≤ Rows.uptoBulk (D i) ∧ ∃ cs', W.cells? 0 (a.add (i * 5)) 5 = some cs' ∧ RIn W x cs') key
    refine ⟨(List.range len).map V, ⟨some a, len, m, rfl, by simp, hl, fun i x hi => ?_⟩, ?_⟩
    · have hi' : i < len := by have := (List.getElem?_eq_some_iff.1 hi).1; simpa using this
      have hxv : x = V i := by
        rw [List.getElem?_map, List.getElem?_range hi'] at hi
        exact (Option.some.inj hi).symm
      obtain ⟨_, cs1, hc, vt, vs, vc, rfl, w0, w1, w2⟩ := hV i (by omega)
      obtain ⟨_, _, hcc⟩ := World.cells?_some hc
      obtain ⟨_, cs2, hc0, vt0, _, _, rfl, _⟩ := hV 0 (by omega)
      obtain ⟨_, _, hcc0⟩ := World.cells?_some hc0
      have hfirst : W.cell? (a.add 0) = some vt0 := by
        have := hcc0 0 (by omega)
        rw [Nat.zero_mul] at this
        exact this
      obtain ⟨b, o, sp⟩ := a
      have hsp : sp = none := by
        have h0 := (cell_here hfirst).2
        simpa [Addr.add] using h0
      have hbl : b < W.heap.size := by
        have h0 := (cell_here hfirst).1
        simpa [Addr.add] using h0
      subst hsp
      rw [hxv]
      have g0 := hcc 0 (by omega)
      have g1 := hcc 1 (by omega)
      have g2 := hcc 2 (by omega)
      have g3 := hcc 3 (by omega)
      have g4 := hcc 4 (by omega)
      rw [add_none, add_none] at g0 g1 g2 g3 g4
      exact ⟨b, o, vt, vs, vc, rfl, hbl, g0, g1, g2, g3, g4, w0, w1, w2⟩
    · rw [hd]
      show RZ _ ≤ Rows.uptoBulkAll ((List.range len).map D) + _ + 1
      have := RZ_bulk V D (List.range len) fun i hi => (hV i (by have := List.mem_range.1 hi; omega)).1
      omega
end Go.Proofs.YtbgnmchnfaknkaaDoor
