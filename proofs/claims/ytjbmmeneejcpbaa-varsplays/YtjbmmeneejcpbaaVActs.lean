/-
  A call of a script, and a script, as they lie in memory.
-/
import Derived.WalkKit
import Derived.ProofKit
import Derived.OpenShut
import Derived.SizedLaws
import Derived.Deep.Slices
import Derived.Test.YtjbmmeneejcpbaaVCopy
namespace Go.Proofs.Ytjbmmeneejcpbaa
open Go.RowKit Go.Shelf

structure Act where
  kind : Int
  n : Int
  q : ByteArray
  t : ByteArray
def Act.cells (a : Act) : List Value := [.int .u8 a.kind, .int .i64 a.n, .string a.q, .string a.t]
structure Act.Ok (a : Act) : Prop where
  k0 : 0 ≤ a.kind
  k1 : a.kind ≤ 255
  n0 : -9223372036854775808 ≤ a.n
  n1 : a.n ≤ 9223372036854775807
def Act.dat {H : Type} (a : Act) : DataW H := .agg [.lit (.int .u8 a.kind), .lit (.int .i64 a.n), .lit (.string (bl a.q)), .lit (.string (bl a.t))]

theorem cellsAct : Try.prog.cellsOf 32 = 4 := by kernel_rfl
theorem bytesAct : Try.prog.bytesOf 32 = 48 := by kernel_rfl
theorem cellsF5 : Try.prog.cellsOf 5 = 1 := by kernel_rfl
theorem cellsF9 : Try.prog.cellsOf 9 = 1 := by kernel_rfl
theorem cellsF3 : Try.prog.cellsOf 3 = 1 := by kernel_rfl

theorem four {α : Type} {l : List α} (h : l.length = 4) : ∃ a b c d, l = [a, b, c, d] := by
  match l, h with
  | [a, b, c, d], _ => exact ⟨a, b, c, d, rfl⟩

set_option maxRecDepth 20000 in
theorem act_of {H : Type} {enc : TypeId × Value → H} {W : World} {base : Nat} {sp : Nat → Bool} {held : Bool} {n : Nat} {cs : List Value} {x : DataW H × List MemPlace} (h : DataW.trod enc Try.prog W base sp held n 32 cs = some x) :
    ∃ a : Act, cs = a.cells ∧ x.1 = a.dat ∧ a.Ok := by
  obtain ⟨xs, m, _, rfl, hl, hlen, hf⟩ := DataW.trod_struct Try.underlying32 h
  rw [cellsAct] at hl
  obtain ⟨c0, c1, c2, c3, rfl⟩ := four hl
  have e0 : DataW.trod enc Try.prog W base sp held m 5 (([c0, c1, c2, c3].drop 0).take (Try.prog.cellsOf 5)) = xs[0]? := hf 0 _ rfl
  rw [cellsF5] at e0
  have e1 : DataW.trod enc Try.prog W base sp held m 3 (([c0, c1, c2, c3].drop 1).take (Try.prog.cellsOf 3)) = xs[1]? := hf 1 _ rfl
  rw [cellsF3] at e1
  have e2 : DataW.trod enc Try.prog W base sp held m 9 (([c0, c1, c2, c3].drop 2).take (Try.prog.cellsOf 9)) = xs[2]? := hf 2 _ rfl
  rw [cellsF9] at e2
  have e3 : DataW.trod enc Try.prog W base sp held m 9 (([c0, c1, c2, c3].drop 3).take (Try.prog.cellsOf 9)) = xs[3]? := hf 3 _ rfl
  rw [cellsF9] at e3
  simp only [List.drop_zero, List.drop_succ_cons, List.take_succ_cons, List.take_zero] at e0 e1 e2 e3
  have hx : ∀ i, i < 4 → ∃ y, xs[i]? = some y := fun i hi => ⟨_, List.getElem?_eq_getElem (by rw [hlen]; exact hi)⟩
  obtain ⟨y0, h0⟩ := hx 0 (by omega)
  obtain ⟨y1, h1⟩ := hx 1 (by omega)
  obtain ⟨y2, h2⟩ := hx 2 (by omega)
  obtain ⟨y3, h3⟩ := hx 3 (by omega)
  obtain ⟨k, k1, rfl, k2⟩ := DataW.trod_int Try.underlying5 (e0.trans h0)
  obtain ⟨n', n1, rfl, n2⟩ := DataW.trod_int Try.underlying3 (e1.trans h1)
  obtain ⟨q, q1, rfl, _⟩ := DataW.trod_string Try.underlying9 (e2.trans h2)
  obtain ⟨t, t1, rfl, _⟩ := DataW.trod_string Try.underlying9 (e3.trans h3)
  have hxs : xs = [(.lit (.int .u8 k), []), (.lit (.int .i64 n'), []), (.lit (.string q.data.toList), []), (.lit (.string t.data.toList), [])] := by
    obtain ⟨a0, a1, a2, a3, rfl⟩ := four (show xs.length = 4 from hlen)
    simp at h0 h1 h2 h3
    rw [h0, h1, h2, h3]
  refine ⟨⟨k, n', q, t⟩, ?_, ?_, ?_⟩
  · simp only [List.cons.injEq, and_true] at k1 q1 t1 n1
    rw [k1, q1, t1, n1]; rfl
  · rw [hxs]; rfl
  · have b1 := bounds_u8 k2
    have b2 := bounds_i64 n2
    exact ⟨b1.1, b1.2, b2.1, b2.2⟩

/-- A script in memory. -/
def Acts (B : Nat) (W : World) (v : Value) (l : List Act) : Prop :=
  ∃ a n c, v = .slice a n c ∧ n = l.length ∧ ∀ i (h : i < l.length), ∃ b o, a = some ⟨b, o, none⟩ ∧ b < B ∧ ∀ j u, (l[i].cells)[j]? = some u → W.cell? ⟨b, o + i * 4 + j, none⟩ = some u
theorem Acts.below {B : Nat} {W W1 : World} {v : Value} {l : List Act} (h : Acts B W v l) (hb : Below B W W1) : Acts B W1 v l := by
  obtain ⟨a, n, c, h1, h2, h3⟩ := h
  refine ⟨a, n, c, h1, h2, fun i hi => ?_⟩
  obtain ⟨b, o, e1, e2, e3⟩ := h3 i hi
  exact ⟨b, o, e1, e2, fun j u hu => (hb.cell (p := ⟨b, o + i * 4 + j, none⟩) e2).trans (e3 j u hu)⟩
theorem Acts.len {B : Nat} {W : World} {a : Option Addr} {n c : Nat} {l : List Act} (h : Acts B W (.slice a n c) l) : n = l.length := by
  obtain ⟨a', n', c', e1, e2, e3⟩ := h
  simp only [Value.slice.injEq] at e1
  exact e1.2.1.trans e2
theorem Acts.pick {B : Nat} {W : World} {a : Option Addr} {n c : Nat} {l : List Act} (h : Acts B W (.slice a n c) l) (i : Nat) (hi : i < l.length) :
    ∃ b o, a = some ⟨b, o, none⟩ ∧ b < B ∧ W.cell? ⟨b, o + i * 4, none⟩ = some (.int .u8 l[i].kind) ∧ W.cell? ⟨b, o + i * 4 + 1, none⟩ = some (.int .i64 l[i].n) ∧ W.cell? ⟨b, o + i * 4 + 2, none⟩ = some (.string l[i].q) ∧
      W.cell? ⟨b, o + i * 4 + 3, none⟩ = some (.string l[i].t) := by
  obtain ⟨a', n', c', e1, e2, e3⟩ := h
  simp only [Value.slice.injEq] at e1
  obtain ⟨b, o, f1, f2, f3⟩ := e3 i hi
  exact ⟨b, o, e1.1.trans f1, f2, f3 0 _ rfl, f3 1 _ rfl, f3 2 _ rfl, f3 3 _ rfl⟩

theorem cell_here {W : World} {a : Addr} {v : Value} (h : W.cell? a = some v) : a.block < W.heap.size ∧ a.spot = none := by
  unfold World.cell? at h
  cases hb : W.heap[a.block]? with
  | none => rw [hb] at h; simp at h
  | some o =>
    refine ⟨(Array.getElem?_eq_some_iff.1 hb).1, ?_⟩
    rw [hb] at h
    cases o <;> simp at h
    exact h.1
theorem sized_in {H : Type} {P : Program} {ts : List TypeId} {ds : List (DataW H)} (h : (DataW.weightsEach P ts ds).all (· ≤ reachBytes) = true) {j : Nat} {t : TypeId} {d : DataW H} (ht : ts[j]? = some t) (hd : ds[j]? = some d) (x : Nat) (hx : x ∈ DataW.weights P t d) : x ≤ reachBytes := by
  have := List.all_eq_true.1 h _ (DataW.weights_mem_each ht hd x hx)
  simpa using this
set_option maxRecDepth 20000 in
theorem weights_act {H : Type} (a : Act) : DataW.weights (H := H) Try.prog 32 a.dat = [(bl a.q).length, (bl a.t).length] := by
  unfold Act.dat DataW.weights
  rw [Try.underlying32]
  rfl
theorem weights_all_mem {H : Type} {P : Program} {e : TypeId} {l : List (DataW H)} {d : DataW H} (hd : d ∈ l) {x : Nat} (hx : x ∈ DataW.weights P e d) : x ∈ DataW.weightsAll P e l := by
  induction l with
  | nil => cases hd
  | cons y l ih =>
    unfold DataW.weightsAll
    rcases List.mem_cons.1 hd with rfl | hd
    · exact List.mem_append_left _ hx
    · exact List.mem_append_right _ (ih hd)

set_option maxRecDepth 20000 in
theorem act_arg {H : Type} {enc : TypeId × Value → H} {W : World} {base base' : Nat} {sp : Nat → Bool} {held : Bool} {v : Value} {d : DataW H} {ps : List MemPlace} (hval : Value.okWide Try.prog W .any base 32 v) (h : DataW.Trod enc Try.prog W base' sp held 32 v d ps) (hs : ∀ x ∈ DataW.weights Try.prog 32 d, x ≤ reachBytes) :
    ∃ a : Act, v = .agg #[.int .u8 a.kind, .int .i64 a.n, .string a.q, .string a.t] ∧ a.Ok ∧ a.q.size ≤ 140737488355328 ∧ a.t.size ≤ 140737488355328 := by
  obtain ⟨cs, rfl, _, _⟩ : ∃ cs, v = .agg cs ∧ cs.size = Try.prog.cellsOf 32 ∧ Row.okWide Try.prog W .any base 32 cs := by
    unfold Value.okWide at hval
    rw [Try.underlying32] at hval
    exact hval
  obtain ⟨fuel, hf⟩ := h
  obtain ⟨a, ha, hd, hok⟩ := act_of hf
  have hd' : d = a.dat := hd
  rw [hd', weights_act] at hs
  have hr := reachBytes_lt
  have s2 := hs (bl a.q).length (by simp)
  have s3 := hs (bl a.t).length (by simp)
  rw [bl_length] at s2 s3
  refine ⟨a, ?_, hok, by omega, by omega⟩
  have h1 : cs.toList = a.cells := by simpa [Value.cells] using ha
  rw [← Array.toArray_toList (xs := cs), h1]; rfl

theorem add_none (b o k : Nat) : (⟨b, o, none⟩ : Addr).add k = ⟨b, o + k, none⟩ := by
  unfold Addr.add; split
  · rename_i h; subst h; rfl
  · rfl

set_option maxRecDepth 20000 in
theorem script_of2 {H : Type} {enc : TypeId × Value → H} {W : World} {base : Nat} {v : Value} {d : DataW H} {ps : List MemPlace} (hval : Value.okWide Try.prog W .any base 22 v) (h : DataW.Trod enc Try.prog W 0 (fun _ => true) true 22 v d ps) (hs : ∀ x ∈ DataW.weights Try.prog 22 d, x ≤ reachBytes) :
    ∃ (l : List Act) (a : Option Addr) (n c : Nat), v = .slice a n c ∧ n ≤ 140737488355328 ∧ n ≤ c ∧ Acts W.heap.size W (.slice a n c) l ∧ ∀ x ∈ l, x.Ok ∧ x.q.size ≤ 140737488355328 ∧ x.t.size ≤ 140737488355328 := by
  obtain ⟨a0, len, cap, rfl⟩ := WideShapes.okWide_slice Try.underlying22 hval
  obtain ⟨fuel, hf⟩ := h
  have hr := reachBytes_lt
  rcases Go.Deep.open_slice Try.underlying22 hf with ⟨hcs, _⟩ | ⟨a, len', cap', m, n, D, Pl, hcs, _, hl, _, hm, hx, hcell⟩
  · have e1 : Value.slice a0 len cap = .slice none 0 0 := by simpa [Value.cells] using hcs
    simp only [Value.slice.injEq] at e1
    obtain ⟨rfl, rfl, rfl⟩ := e1
    exact ⟨[], none, 0, 0, rfl, Nat.zero_le _, Nat.le_refl _, ⟨none, 0, 0, rfl, rfl, fun i hi => absurd hi (Nat.not_lt_zero _)⟩, fun x hx => by cases hx⟩
  · have e1 : Value.slice a0 len cap = .slice (some a) len' cap' := by simpa [Value.cells] using hcs
    simp only [Value.slice.injEq] at e1
    obtain ⟨rfl, rfl, rfl⟩ := e1
    simp only [if_true] at hm
    subst hm
    rw [cellsAct] at hcell
    have hd : d = .slice ((List.range len).map D) ((List.range (m - len)).map fun j => D (len + j)) := congrArg Prod.fst hx
    have key : ∀ i, i < m → ∃ x : Act, D i = x.dat ∧ x.Ok ∧ W.cells? 0 (a.add (i * 4)) 4 = some x.cells := fun i hi => by
      obtain ⟨cs', h1, h2⟩ := hcell i hi
      obtain ⟨x, rfl, hx1, hx2⟩ := act_of h2
      exact ⟨x, hx1, hx2, h1⟩
    have inh : Inhabited Act := ⟨⟨0, 0, ⟨#[]⟩, ⟨#[]⟩⟩⟩
    obtain ⟨V, hV⟩ := Go.Deep.choose_lt (α := Act) (p := fun i x => D i = x.dat ∧ x.Ok ∧ W.cells? 0 (a.add (i * 4)) 4 = some x.cells) key
    have hlen : len ≤ 140737488355328 := by
      have h1 := hs ((((List.range len).map D).length + ((List.range (m - len)).map fun j => D (len + j)).length) * Try.prog.bytesOf 32) (by
        rw [hd]; unfold DataW.weights; rw [Try.underlying22]; exact List.mem_cons_self ..)
      rw [bytesAct] at h1
      simp at h1
      omega
    refine ⟨(List.range len).map V, some a, len, m, rfl, hlen, hl, ⟨some a, len, m, rfl, by simp, fun i hi => ?_⟩, fun x hx => ?_⟩
    · have hi' : i < len := by simpa using hi
      obtain ⟨_, _, hc⟩ := hV i (by omega)
      obtain ⟨_, _, hcc⟩ := World.cells?_some hc
      obtain ⟨_, _, hc0⟩ := hV 0 (by omega)
      obtain ⟨_, _, hcc0⟩ := World.cells?_some hc0
      have hfirst : W.cell? (a.add 0) = some (.int .u8 (V 0).kind) := by
        have := hcc0 0 (by omega)
        rw [Nat.zero_mul] at this
        exact this
      obtain ⟨b, o, sp⟩ := a
      have hsp : sp = none := by
        have h0 := (cell_here hfirst).2
        simpa [Addr.add] using h0
      have hbl : b < W.heap.size := by
        have h0 := (cell_here hfirst).1
        simpa [Addr.add] using h0
      subst hsp
      refine ⟨b, o, rfl, hbl, fun j u hu => ?_⟩
      have hg : ((List.range len).map V)[i] = V i := by simp
      rw [hg] at hu
      have hj : j < 4 := by
        have := (List.getElem?_eq_some_iff.1 hu).1
        simpa [Act.cells] using this
      have := hcc j hj
      rw [add_none, add_none, hu] at this
      exact this
    · obtain ⟨i, hi, rfl⟩ := List.mem_map.1 hx
      have hi' : i < len := by simpa using hi
      obtain ⟨hDi, hok, _⟩ := hV i (by omega)
      have h1 := hs (bl (V i).t).length (by
        rw [hd]; unfold DataW.weights; rw [Try.underlying22]
        refine List.mem_cons_of_mem _ (List.mem_append_left _ (weights_all_mem (d := D i) (List.mem_map.2 ⟨i, hi, rfl⟩) ?_))
        rw [hDi, weights_act]; simp)
      have h2 := hs (bl (V i).q).length (by
        rw [hd]; unfold DataW.weights; rw [Try.underlying22]
        refine List.mem_cons_of_mem _ (List.mem_append_left _ (weights_all_mem (d := D i) (List.mem_map.2 ⟨i, hi, rfl⟩) ?_))
        rw [hDi, weights_act]; simp)
      rw [bl_length] at h1 h2
      exact ⟨hok, by omega, by omega⟩
set_option maxRecDepth 20000 in
theorem script_of {H : Type} {enc : TypeId × Value → H} {W : World} {base : Nat} {v : Value} {d : DataW H} {ps : List MemPlace} (hval : Value.okWide Try.prog W .any base 22 v) (h : DataW.Trod enc Try.prog W 0 (fun _ => true) true 22 v d ps) (hs : ∀ x ∈ DataW.weights Try.prog 22 d, x ≤ reachBytes) :
    ∃ (l : List Act) (a : Option Addr) (n c : Nat), v = .slice a n c ∧ n ≤ 140737488355328 ∧ Acts W.heap.size W (.slice a n c) l ∧ ∀ x ∈ l, x.Ok ∧ x.q.size ≤ 140737488355328 ∧ x.t.size ≤ 140737488355328 := by
  obtain ⟨l, a, n, c, h1, h2, _, h3, h4⟩ := script_of2 hval h hs
  exact ⟨l, a, n, c, h1, h2, h3, h4⟩
end Go.Proofs.Ytjbmmeneejcpbaa
