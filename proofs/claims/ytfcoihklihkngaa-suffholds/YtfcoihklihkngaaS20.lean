/-
  The laws' parameters: a table, texts, two lists of texts.
-/
import Derived.Test.YtfcoihklihkngaaS12
import Derived.Test.YtfcoihklihkngaaRows
import Derived.WalkKit
import Derived.ProofKit
import Derived.OpenShut
import Derived.SizedLaws
import Derived.SliceStrings
import Derived.Deep.Slices
import Derived.Lib.SmallJoins
namespace Go.Proofs.Ytfcoihklihkngaa
open Go.ChangeShapes Go.WideShapes Go.ChangeAt Go.RowKit
open Go.WideMaps Go.WideElems

theorem cellsSl : Try.prog.cellsOf 22 = 1 := by kernel_rfl
theorem cellsWy : Try.prog.cellsOf 23 = 1 := by kernel_rfl
theorem cellsW : Try.prog.cellsOf 48 = 2 := by kernel_rfl
theorem bytes9 : Try.prog.bytesOf 9 = 16 := by kernel_rfl
theorem bytesW : Try.prog.bytesOf 48 = 32 := by kernel_rfl
theorem cellsTb : Try.prog.cellsOf 25 = 2 := by kernel_rfl
theorem cell_here {W : World} {a : Addr} {v : Value} (h : W.cell? a = some v) : a.block < W.heap.size ∧ a.spot = none := by
  unfold World.cell? at h
  cases hb : W.heap[a.block]? with
  | none => rw [hb] at h; simp at h
  | some o =>
    refine ⟨(Array.getElem?_eq_some_iff.1 hb).1, ?_⟩
    rw [hb] at h
    cases o <;> simp at h
    exact h.1
theorem addr_plain {W : World} {a : Addr} {v : Value} {i : Nat} (h : W.cell? (a.add i) = some v) (h0 : a.spot = none) : ∃ b o, a = ⟨b, o, none⟩ ∧ b < W.heap.size ∧ W.cell? ⟨b, o + i, none⟩ = some v := by
  obtain ⟨b, o, sp⟩ := a
  simp only at h0
  subst h0
  have h1 := (cell_here h).1
  rw [add_none] at h h1
  exact ⟨b, o, rfl, h1, h⟩
theorem sized_in {H : Type} {P : Program} {ts : List TypeId} {ds : List (DataW H)} (h : (DataW.weightsEach P ts ds).all (· ≤ reachBytes) = true) {j : Nat} {t : TypeId} {d : DataW H} (ht : ts[j]? = some t) (hd : ds[j]? = some d) (x : Nat) (hx : x ∈ DataW.weights P t d) : x ≤ reachBytes := by
  have := List.all_eq_true.1 h _ (DataW.weights_mem_each ht hd x hx)
  simpa using this
theorem strs_len {H : Type} (l : List ByteArray) : (strs (H := H) l).length = l.length := by
  unfold strs; simp
/-- A list of texts within. -/
theorem words_in {H : Type} {enc : TypeId × Value → H} {W : World} {fuel : Nat} {cs : List Value} {x : DataW H × List MemPlace} (h : DataW.trod enc Try.prog W 0 (fun _ => true) true fuel 22 cs = some x) (hs : ∀ y ∈ DataW.weights Try.prog 22 x.1, y ≤ reachBytes) :
    ∃ (v : Value) (l : List (List UInt8)), cs = [v] ∧ Words W.heap.size W v (l.map ba) ∧ l.length ≤ 100000000000000 ∧ ∀ t ∈ l, t.length ≤ 9223372036854775807 := by
  rcases open_strings Try.underlying22 Try.underlying9 cells9 h with ⟨hcs, _⟩ | ⟨a, len, cap, ss, hcs, _, hl, hm, hz, hx, hcell, hws⟩
  · exact ⟨_, [], hcs, ⟨none, 0, 0, rfl, rfl, Nat.le_refl _, fun i hi => by simp at hi⟩, Nat.zero_le _, fun t ht => by simp at ht⟩
  · have hzz : ss.length = cap := by simpa using hz
    have hlen : (ss.take len).length = len := by simp; omega
    have hr := reachBytes_lt
    have hw := hs (((strs (H := H) (ss.take len)).length + (strs (H := H) (ss.drop len)).length) * Try.prog.bytesOf 9) (by
      rw [hx]; unfold DataW.weights; rw [Try.underlying22]; exact List.mem_cons_self ..)
    rw [strs_len, strs_len, bytes9, List.length_take, List.length_drop] at hw
    refine ⟨_, (ss.take len).map bl, hcs, ?_, by rw [List.length_map, hlen]; omega, ?_⟩
    · have e : ((ss.take len).map bl).map ba = ss.take len := by
        rw [List.map_map]
        exact (List.map_congr_left fun x _ => ba_bl x).trans (List.map_id _)
      rw [e]
      refine ⟨some a, len, cap, rfl, hlen.symm, hl, fun i hi => ?_⟩
      have hc := hcell i (by omega)
      have hg : ss.getD i ByteArray.empty = (ss.take len)[i] := by
        rw [List.getElem_take, List.getD_eq_getElem?_getD, List.getElem?_eq_getElem (by omega)]; rfl
      rw [hg] at hc
      have h0 : a.spot = none := by
        have h0 := (cell_here (hcell 0 (by omega))).2
        simpa [Addr.add] using h0
      obtain ⟨b, o, rfl, h1, h2⟩ := addr_plain hc h0
      exact ⟨b, o, rfl, h1, h2⟩
    · intro t ht
      obtain ⟨s, hs1, rfl⟩ := List.mem_map.1 ht
      have := hws s (List.mem_of_mem_take hs1)
      rw [bl_length]; unfold maxLen at this; omega

theorem two {α : Type} {l : List α} (h : l.length = 2) : ∃ a b, l = [a, b] := by
  match l, h with
  | [a, b], _ => exact ⟨a, b, rfl⟩
/-- A way within. -/
theorem way_of {H : Type} {enc : TypeId × Value → H} {W : World} {n : Nat} {cs : List Value} {x : DataW H × List MemPlace} (h : DataW.trod enc Try.prog W 0 (fun _ => true) true n 48 cs = some x) :
    ∃ u : S.Way, cs = [.string (ba u.1), .string (ba u.2)] := by
  obtain ⟨xs, m, _, rfl, hl, hlen, hf⟩ := DataW.trod_array Try.underlying48 h
  rw [cellsW] at hl
  obtain ⟨c0, c1, rfl⟩ := two hl
  have e0 := hf 0 (by omega)
  have e1 := hf 1 (by omega)
  rw [cells9] at e0 e1
  simp only [Nat.zero_mul, Nat.one_mul, List.drop_zero, List.drop_succ_cons, List.take_succ_cons, List.take_zero] at e0 e1
  obtain ⟨y0, y1, rfl⟩ := two hlen
  simp only [List.getElem?_cons_zero, List.getElem?_cons_succ] at e0 e1
  obtain ⟨s0, h0, _, _⟩ := DataW.trod_string Try.underlying9 e0
  obtain ⟨s1, h1, _, _⟩ := DataW.trod_string Try.underlying9 e1
  simp only [List.cons.injEq, and_true] at h0 h1
  subst h0; subst h1
  exact ⟨(bl s0, bl s1), by rw [ba_bl, ba_bl]⟩
theorem ways_in {H : Type} {enc : TypeId × Value → H} {W : World} {fuel : Nat} {cs : List Value} {x : DataW H × List MemPlace} (h : DataW.trod enc Try.prog W 0 (fun _ => true) true fuel 23 cs = some x) (hs : ∀ y ∈ DataW.weights Try.prog 23 x.1, y ≤ reachBytes) :
    ∃ (v : Value) (L : List S.Way), cs = [v] ∧ Wy W.heap.size W v L ∧ L.length ≤ 100000000000000 := by
  rcases Go.Deep.open_slice Try.underlying23 h with ⟨hcs, _⟩ | ⟨a, len, cap, m, n, D, Pl, hcs, _, hl, _, hm, hx, hcell⟩
  · exact ⟨_, [], hcs, ⟨none, 0, 0, rfl, rfl, Nat.le_refl _, fun i x hi => by simp at hi⟩, Nat.zero_le _⟩
  · simp only [if_true] at hm
    subst hm
    rw [cellsW] at hcell
    have hd : x.1 = .slice ((List.range len).map D) ((List.range (m - len)).map fun j => D (len + j)) := congrArg Prod.fst hx
    have key : ∀ i, i < m → ∃ u : S.Way, W.cells? 0 (a.add (i * 2)) 2 = some [.string (ba u.1), .string (ba u.2)] := fun i hi => by
      obtain ⟨cs', h1, h2⟩ := hcell i hi
      obtain ⟨u, rfl⟩ := way_of h2
      exact ⟨u, h1⟩
    have inh : Inhabited S.Way := ⟨([], [])⟩
    obtain ⟨V, hV⟩ := Go.Deep.choose_lt (α := S.Way) (p := fun i u => W.cells? 0 (a.add (i * 2)) 2 = some [.string (ba u.1), .string (ba u.2)]) key
    have hr := reachBytes_lt
    have hw := hs ((((List.range len).map D).length + ((List.range (m - len)).map fun j => D (len + j)).length) * Try.prog.bytesOf 48) (by
      rw [hd]; unfold DataW.weights; rw [Try.underlying23]; exact List.mem_cons_self ..)
    rw [bytesW] at hw
    simp at hw
    refine ⟨_, (List.range len).map V, hcs, ⟨some a, len, m, rfl, by simp, hl, fun i u hi => ?_⟩, by simp; omega⟩
    have hi' : i < len := by have := (List.getElem?_eq_some_iff.1 hi).1; simpa using this
    have hxv : u = V i := by
      rw [List.getElem?_map, List.getElem?_range hi'] at hi
      exact (Option.some.inj hi).symm
    obtain ⟨_, _, hcc⟩ := World.cells?_some (hV i (by omega))
    obtain ⟨_, _, hcc0⟩ := World.cells?_some (hV 0 (by omega))
    have hfirst : W.cell? (a.add 0) = some (.string (ba (V 0).1)) := by
      have := hcc0 0 (by omega)
      rw [Nat.zero_mul] at this
      exact this
    obtain ⟨b, o, sp⟩ := a
    have hsp : sp = none := by
      have h0 := (cell_here hfirst).2
      simpa [Addr.add] using h0
    have hbl : b < W.heap.size := by
      have h0 := (cell_here hfirst).1
      simpa [Addr.add] using h0
    subst hsp
    rw [hxv]
    have g0 := hcc 0 (by omega)
    have g1 := hcc 1 (by omega)
    rw [add_none, add_none] at g0 g1
    exact ⟨b, o, rfl, hbl, g0, g1⟩
/-- A table as a parameter. -/
theorem table_of {H : Type} {enc : TypeId × Value → H} {W : World} {base : Nat} {v : Value} {d : DataW H} {ps : List MemPlace} (hval : Value.okWide Try.prog W .any base 25 v) (h : DataW.Trod enc Try.prog W 0 (fun _ => true) true 25 v d ps) (hs : ∀ x ∈ DataW.weights Try.prog 25 d, x ≤ reachBytes) :
    ∃ (vs vw : Value) (Sf : List S.Tx) (L : List S.Way), v = .agg #[vs, vw] ∧ Tb W.heap.size W vs vw Sf L := by
  obtain ⟨ca, rfl, _, _⟩ : ∃ cs, v = .agg cs ∧ cs.size = Try.prog.cellsOf 25 ∧ Row.okWide Try.prog W .any base 25 cs := by
    unfold Value.okWide at hval
    rw [Try.underlying25] at hval
    exact hval
  obtain ⟨fuel, hf⟩ := h
  obtain ⟨xs, m, _, ex, hl, hlen, hfe⟩ := DataW.trod_struct Try.underlying25 hf
  rw [cellsTb] at hl
  obtain ⟨c0, c1, hc⟩ := two hl
  have hlen2 : xs.length = 2 := hlen
  obtain ⟨y0, y1, rfl⟩ := two hlen2
  have e0 : DataW.trod enc Try.prog W 0 (fun _ => true) true m 22 (((Value.agg ca).cells.toList.drop 0).take (Try.prog.cellsOf 22)) = [y0, y1][0]? := hfe 0 _ rfl
  have e1 : DataW.trod enc Try.prog W 0 (fun _ => true) true m 23 (((Value.agg ca).cells.toList.drop 1).take (Try.prog.cellsOf 23)) = [y0, y1][1]? := hfe 1 _ rfl
  rw [hc, cellsSl] at e0
  rw [hc, cellsWy] at e1
  simp only [List.drop_zero, List.drop_succ_cons, List.take_succ_cons, List.take_zero, List.getElem?_cons_zero, List.getElem?_cons_succ] at e0 e1
  have hd : d = .agg [y0.1, y1.1] := congrArg Prod.fst ex
  rw [hd] at hs
  have hwt : ∀ z, z ∈ DataW.weights Try.prog 22 y0.1 ∨ z ∈ DataW.weights Try.prog 23 y1.1 → z ≤ reachBytes := fun z hz => hs z (by
    unfold DataW.weights
    rw [Try.underlying25]
    show z ∈ DataW.weights Try.prog 22 y0.1 ++ (DataW.weights Try.prog 23 y1.1 ++ [])
    rw [List.append_nil, List.mem_append]; exact hz)
  obtain ⟨v0, l0, h0, w0, z0, _⟩ := words_in e0 fun z hz => hwt z (.inl hz)
  obtain ⟨v1, l1, h1, w1, z1⟩ := ways_in e1 fun z hz => hwt z (.inr hz)
  simp only [List.cons.injEq, and_true] at h0 h1
  subst h0; subst h1
  refine ⟨c0, c1, l0, l1, ?_, w0, w1, Nat.le_refl _, z0, z1⟩
  have h1 : ca.toList = [c0, c1] := by simpa [Value.cells] using hc
  rw [← Array.toArray_toList (xs := ca), h1]
/-- A list of texts as a parameter. -/
theorem words_of {H : Type} {enc : TypeId × Value → H} {W : World} {base : Nat} {v : Value} {d : DataW H} {ps : List MemPlace} (hval : Value.okWide Try.prog W .any base 22 v) (h : DataW.Trod enc Try.prog W 0 (fun _ => true) true 22 v d ps) (hs : ∀ x ∈ DataW.weights Try.prog 22 d, x ≤ reachBytes) :
    ∃ l : List S.Tx, Words W.heap.size W v (l.map ba) ∧ l.length ≤ 100000000000000 ∧ ∀ t ∈ l, t.length ≤ 9223372036854775807 := by
  obtain ⟨a0, len, cap, rfl⟩ := WideShapes.okWide_slice Try.underlying22 hval
  obtain ⟨fuel, hf⟩ := h
  obtain ⟨v, l, h1, h2, h3, h4⟩ := words_in hf hs
  have e : Value.slice a0 len cap = v := by simpa [Value.cells] using h1
  rw [e]
  exact ⟨l, h2, h3, h4⟩
/-- Two lists of texts as a parameter. -/
theorem two_of {H : Type} {enc : TypeId × Value → H} {W : World} {base : Nat} {v : Value} {d : DataW H} {ps : List MemPlace} (hval : Value.okWide Try.prog W .any base 35 v) (h : DataW.Trod enc Try.prog W 0 (fun _ => true) true 35 v d ps) (hs : ∀ x ∈ DataW.weights Try.prog 35 d, x ≤ reachBytes) :
    ∃ (v0 v1 : Value) (A B : List S.Tx), v = .agg #[v0, v1] ∧ Words W.heap.size W v0 (A.map ba) ∧ Words W.heap.size W v1 (B.map ba) ∧ A.length ≤ 100000000000000 ∧ B.length ≤ 100000000000000 ∧ (∀ t ∈ A, t.length ≤ 9223372036854775807) ∧ ∀ t ∈ B, t.length ≤ 9223372036854775807 := by
  obtain ⟨ca, rfl, _, _⟩ : ∃ cs, v = .agg cs ∧ cs.size = Try.prog.cellsOf 35 ∧ Row.okWide Try.prog W .any base 35 cs := by
    unfold Value.okWide at hval
    rw [Try.underlying35] at hval
    exact hval
  obtain ⟨fuel, hf⟩ := h
  obtain ⟨xs, m, _, ex, hl, hlen, hfe⟩ := DataW.trod_array Try.underlying35 hf
  have hc2 : Try.prog.cellsOf 35 = 2 := by kernel_rfl
  rw [hc2] at hl
  obtain ⟨c0, c1, hc⟩ := two hl
  obtain ⟨y0, y1, rfl⟩ := two hlen
  have e0 := hfe 0 (by omega)
  have e1 := hfe 1 (by omega)
  rw [hc, cellsSl] at e0 e1
  simp only [Nat.zero_mul, Nat.one_mul, List.drop_zero, List.drop_succ_cons, List.take_succ_cons, List.take_zero, List.getElem?_cons_zero, List.getElem?_cons_succ] at e0 e1
  have hd : d = .agg [y0.1, y1.1] := congrArg Prod.fst ex
  rw [hd] at hs
  have hwt : ∀ z, z ∈ DataW.weights Try.prog 22 y0.1 ∨ z ∈ DataW.weights Try.prog 22 y1.1 → z ≤ reachBytes := fun z hz => hs z (by
    unfold DataW.weights
    rw [Try.underlying35]
    show z ∈ DataW.weights Try.prog 22 y0.1 ++ (DataW.weights Try.prog 22 y1.1 ++ [])
    rw [List.append_nil, List.mem_append]; exact hz)
  obtain ⟨v0, l0, h0, w0, z0, q0⟩ := words_in e0 fun z hz => hwt z (.inl hz)
  obtain ⟨v1, l1, h1, w1, z1, q1⟩ := words_in e1 fun z hz => hwt z (.inr hz)
  simp only [List.cons.injEq, and_true] at h0 h1
  subst h0; subst h1
  refine ⟨c0, c1, l0, l1, ?_, w0, w1, z0, z1, q0, q1⟩
  have h1 : ca.toList = [c0, c1] := by simpa [Value.cells] using hc
  rw [← Array.toArray_toList (xs := ca), h1]
end Go.Proofs.Ytfcoihklihkngaa
