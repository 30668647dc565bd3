/-
  A script and a call among a law's arguments: what they hold, and how long their texts are.
-/
import Derived.Test.YtoibdokedhbjpaaGreatActs
import Derived.Test.YtoibdokedhbjpaaGreatWords
namespace Go.Proofs.YtoibdokedhbjpaaGreat
open Go.RowKit Go.Shelf

theorem sized_in {H : Type} {P : Program} {ts : List TypeId} {ds : List (DataW H)} (h : (DataW.weightsEach P ts ds).all (· ≤ reachBytes) = true) {j : Nat} {t : TypeId} {d : DataW H} (ht : ts[j]? = some t) (hd : ds[j]? = some d) (x : Nat) (hx : x ∈ DataW.weights P t d) : x ≤ reachBytes := by
  have := List.all_eq_true.1 h _ (DataW.weights_mem_each ht hd x hx)
  simpa using this
set_option maxRecDepth 20000 in
theorem weights_act {H : Type} (a : Act) : DataW.weights (H := H) Tryz.prog 36 a.dat = [(bl a.p).length, (bl a.q).length, (bl a.t).length] := by
  unfold Act.dat DataW.weights
  rw [Tryz.underlying36]
  rfl
theorem weights_all_mem {H : Type} {P : Program} {e : TypeId} {l : List (DataW H)} {d : DataW H} (hd : d ∈ l) {x : Nat} (hx : x ∈ DataW.weights P e d) : x ∈ DataW.weightsAll P e l := by
  induction l with
  | nil => cases hd
  | cons y l ih =>
    unfold DataW.weightsAll
    rcases List.mem_cons.1 hd with rfl | hd
    · exact List.mem_append_left _ hx
    · exact List.mem_append_right _ (ih hd)

set_option maxRecDepth 20000 in
theorem act_arg {H : Type} {enc : TypeId × Value → H} {W : World} {base base' : Nat} {sp : Nat → Bool} {held : Bool} {v : Value} {d : DataW H} {ps : List MemPlace} (hval : Value.okWide Tryz.prog W .any base 36 v) (h : DataW.Trod enc Tryz.prog W base' sp held 36 v d ps) (hs : ∀ x ∈ DataW.weights Tryz.prog 36 d, x ≤ reachBytes) :
    ∃ a : Act, v = .agg #[.int .u8 a.kind, .string a.p, .string a.q, .string a.t, .int .i64 a.n] ∧ a.Ok ∧ a.p.size ≤ 140737488355328 ∧ a.q.size ≤ 140737488355328 ∧ a.t.size ≤ 140737488355328 := by
  obtain ⟨cs, rfl, _, _⟩ : ∃ cs, v = .agg cs ∧ cs.size = Tryz.prog.cellsOf 36 ∧ Row.okWide Tryz.prog W .any base 36 cs := by
    unfold Value.okWide at hval
    rw [Tryz.underlying36] at hval
    exact hval
  obtain ⟨fuel, hf⟩ := h
  obtain ⟨a, ha, hd, hok⟩ := act_of hf
  have hd' : d = a.dat := hd
  rw [hd', weights_act] at hs
  have hr := reachBytes_lt
  have s1 := hs (bl a.p).length (by simp)
  have s2 := hs (bl a.q).length (by simp)
  have s3 := hs (bl a.t).length (by simp)
  rw [bl_length] at s1 s2 s3
  refine ⟨a, ?_, hok, by omega, by omega, by omega⟩
  have h1 : cs.toList = a.cells := by simpa [Value.cells] using ha
  rw [← Array.toArray_toList (xs := cs), h1]; rfl

theorem add_none (b o k : Nat) : (⟨b, o, none⟩ : Addr).add k = ⟨b, o + k, none⟩ := by
  unfold Addr.add; split
  · rename_i h; subst h; rfl
  · rfl

set_option maxRecDepth 20000 in
theorem script_of2 {H : Type} {enc : TypeId × Value → H} {W : World} {base : Nat} {v : Value} {d : DataW H} {ps : List MemPlace} (hval : Value.okWide Tryz.prog W .any base 22 v) (h : DataW.Trod enc Tryz.prog W 0 (fun _ => true) true 22 v d ps) (hs : ∀ x ∈ DataW.weights Tryz.prog 22 d, x ≤ reachBytes) :
    ∃ (l : List Act) (a : Option Addr) (n c : Nat), v = .slice a n c ∧ n ≤ 140737488355328 ∧ n ≤ c ∧ Acts W.heap.size W (.slice a n c) l ∧ ∀ x ∈ l, x.Ok ∧ x.t.size ≤ 140737488355328 := by
  obtain ⟨a0, len, cap, rfl⟩ := WideShapes.okWide_slice Tryz.underlying22 hval
  obtain ⟨fuel, hf⟩ := h
  have hr := reachBytes_lt
  rcases Go.Deep.open_slice Tryz.underlying22 hf with ⟨hcs, _⟩ | ⟨a, len', cap', m, n, D, Pl, hcs, _, hl, _, hm, hx, hcell⟩
  · have e1 : Value.slice a0 len cap = .slice none 0 0 := by simpa [Value.cells] using hcs
    simp only [Value.slice.injEq] at e1
    obtain ⟨rfl, rfl, rfl⟩ := e1
    exact ⟨[], none, 0, 0, rfl, Nat.zero_le _, Nat.le_refl _, ⟨none, 0, 0, rfl, rfl, fun i hi => absurd hi (Nat.not_lt_zero _)⟩, fun x hx => by cases hx⟩
  · have e1 : Value.slice a0 len cap = .slice (some a) len' cap' := by simpa [Value.cells] using hcs
    simp only [Value.slice.injEq] at e1
    obtain ⟨rfl, rfl, rfl⟩ := e1
    simp only [if_true] at hm
    subst hm
    rw [cellsAct] at hcell
    have hd : d = .slice ((List.range len).map D) ((List.range (m - len)).map fun j => D (len + j)) := congrArg Prod.fst hx
    have key : ∀ i, i < m → ∃ x : Act, D i = x.dat ∧ x.Ok ∧ W.cells? 0 (a.add (i * 5)) 5 = some x.cells := fun i hi => by
      obtain ⟨cs', h1, h2⟩ := hcell i hi
      obtain ⟨x, rfl, hx1, hx2⟩ := act_of h2
      exact ⟨x, hx1, hx2, h1⟩
    have inh : Inhabited Act := ⟨⟨0, ⟨#[]⟩, ⟨#[]⟩, ⟨#[]⟩, 0⟩⟩
    obtain ⟨V, hV⟩ := Go.Deep.choose_lt (α := Act) (p := fun i x => D i = x.dat ∧ x.Ok ∧ W.cells? 0 (a.add (i * 5)) 5 = some x.cells) key
    have hlen : len ≤ 140737488355328 := by
      have h1 := hs ((((List.range len).map D).length + ((List.range (m - len)).map fun j => D (len + j)).length) * Tryz.prog.bytesOf 36) (by
        rw [hd]; unfold DataW.weights; rw [Tryz.underlying22]; exact List.mem_cons_self ..)
      rw [bytesAct] at h1
      simp at h1
      omega
    refine ⟨(List.range len).map V, some a, len, m, rfl, hlen, hl, ⟨some a, len, m, rfl, by simp, fun i hi => ?_⟩, fun x hx => ?_⟩
    · have hi' : i < len := by simpa using hi
      obtain ⟨_, _, hc⟩ := hV i (by omega)
      obtain ⟨_, _, hcc⟩ := World.cells?_some hc
      obtain ⟨_, _, hc0⟩ := hV 0 (by omega)
      obtain ⟨_, _, hcc0⟩ := World.cells?_some hc0
      have hfirst : W.cell? (a.add 0) = some (.int .u8 (V 0).kind) := by
        have := hcc0 0 (by omega)
        rw [Nat.zero_mul] at this
        exact this
      obtain ⟨b, o, sp⟩ := a
      have hsp : sp = none := by
        have h0 := (cell_here hfirst).2
        simpa [Addr.add] using h0
      have hbl : b < W.heap.size := by
        have h0 := (cell_here hfirst).1
        simpa [Addr.add] using h0
      subst hsp
      refine ⟨b, o, rfl, hbl, fun j u hu => ?_⟩
      have hg : ((List.range len).map V)[i] = V i := by simp
      rw [hg] at hu
      have hj : j < 5 := by
        have := (List.getElem?_eq_some_iff.1 hu).1
        simpa [Act.cells] using this
      have := hcc j hj
      rw [add_none, add_none, hu] at this
      exact this
    · obtain ⟨i, hi, rfl⟩ := List.mem_map.1 hx
      have hi' : i < len := by simpa using hi
      obtain ⟨hDi, hok, _⟩ := hV i (by omega)
      refine ⟨hok, ?_⟩
      have h1 := hs (bl (V i).t).length (by
        rw [hd]; unfold DataW.weights; rw [Tryz.underlying22]
        refine List.mem_cons_of_mem _ (List.mem_append_left _ (weights_all_mem (d := D i) (List.mem_map.2 ⟨i, hi, rfl⟩) ?_))
        rw [hDi, weights_act]; simp)
      rw [bl_length] at h1
      omega
set_option maxRecDepth 20000 in
theorem script_of {H : Type} {enc : TypeId × Value → H} {W : World} {base : Nat} {v : Value} {d : DataW H} {ps : List MemPlace} (hval : Value.okWide Tryz.prog W .any base 22 v) (h : DataW.Trod enc Tryz.prog W 0 (fun _ => true) true 22 v d ps) (hs : ∀ x ∈ DataW.weights Tryz.prog 22 d, x ≤ reachBytes) :
    ∃ (l : List Act) (a : Option Addr) (n c : Nat), v = .slice a n c ∧ n ≤ 140737488355328 ∧ Acts W.heap.size W (.slice a n c) l ∧ ∀ x ∈ l, x.Ok ∧ x.t.size ≤ 140737488355328 := by
  obtain ⟨l, a, n, c, h1, h2, _, h3, h4⟩ := script_of2 hval h hs
  exact ⟨l, a, n, c, h1, h2, h3, h4⟩
end Go.Proofs.YtoibdokedhbjpaaGreat
