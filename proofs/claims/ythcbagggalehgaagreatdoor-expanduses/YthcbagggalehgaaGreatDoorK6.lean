/-
  A world that bears the library's tables and errors as the program's text lays them; what every start of this seat's statements gives; a list of variables as an argument. ExpandQuoted is true at every text, list of variables and fuel, and leaves them as they were: a quoted text means itself, and takes no fuel. Its conditions: the library's tables and errors hold what the program's text lays (the card ties them); of the pruned copy of the project.
-/
import Derived.Test.YthcbagggalehgaaGreatDoorCards
import Derived.Test.YthcbagggalehgaaGreatDoorTie
import Derived.WalkKit
import Derived.ProofKit
import Derived.OpenShut
import Derived.Deep.DeepHandedRow
import Derived.Deep.DeepLaidRun
import Derived.Lib.LaidTab
import Derived.SizedLaws
import Derived.Shelf.Vars
import Derived.Deep.Slices
import Derived.Test.YthcbagggalehgaaGreatDoorK3
import Derived.Test.YthcbagggalehgaaGreatDoorK5
namespace Go.Proofs.YthcbagggalehgaaGreatDoor.Ex
open Go.ChangeShapes Go.WideShapes Go.ChangeAt Go.RowKit

theorem own : ownKnob Tryz.prog.godebug = none := by kernel_rfl
theorem laidOut : laidOutB Tryz.prog = true := by kernel_rfl

def lv : DataW Unit → Value
  | .lit (.int k n) => .int k n
  | _ => .int .u8 0
def flat1 : DataW Unit → List Value
  | .agg ps => ps.map lv
  | _ => []
def flat2 : DataW Unit → List Value
  | .agg ps => ps.flatMap flat1
  | _ => []
def laysCells (l : List Value) : Obj → Obj
  | .cells _ t frozen => .cells l.toArray t frozen
  | o => o
/-- The tables and the errors laid into a world. -/
def withTables (w : World) : World :=
  { w with heap := ((((((((w.heap.modify 1 (laysCells (flat1 Go.Pinned.utf8First))).modify 2 (laysCells (flat2 Rows.laid_unicode_utf8_acceptRanges))).modify 3 (laysCells (flat1 Rows.laid_internal_strconv_uint64pow10))).modify 4 (laysCells [.iface 301 (.pointer (some ⟨w.heap.size, 0, none⟩))])).modify 5 (laysCells [.iface 301 (.pointer (some ⟨w.heap.size + 1, 0, none⟩))])).modify 6 (laysCells (flat1 Rows.laid_math_bits_deBruijn32tab))).modify 7 (laysCells (flat1 Rows.laid_math_bits_deBruijn64tab))).push (.cells #[.string ⟨#[105, 110, 118, 97, 108, 105, 100, 32, 115, 121, 110, 116, 97, 120]⟩] 303 (0, 0))).push (.cells #[.string ⟨#[118, 97, 108, 117, 101, 32, 111, 117, 116, 32, 111, 102, 32, 114, 97, 110, 103, 101]⟩] 303 (0, 0)) }

/-- The list that every row of this seat bears. -/
theorem laid_met (os : Os) (args : Array Value) : laidMet Tryz.prog Rows.expandQuotedRow.laid ((withTables (World.holding Tryz.prog os ⟨#[], #[], []⟩)).forCall (fun _ _ => 0) ⟨#[], args, []⟩).memory :=
  laidMet_of_run3 8 (by kernel_rfl) (by kernel_rfl) (by kernel_rfl)

/-- MaxLen's cell holds a number, whatever the start. -/
theorem mx_of {W : World} (h : W.ShapedOpen Tryz.prog) : Mx W :=
  cell_of_shapedOpen_int (t := 3) (zero := #[.int .i64 0]) (k := .i64) h (by decide +kernel) (by kernel_rfl) rfl (by kernel_rfl) (by kernel_rfl) Tryz.underlying3

theorem cellsVar : Tryz.prog.cellsOf 48 = 2 := by kernel_rfl
theorem bytesVar : Tryz.prog.bytesOf 48 = 32 := by kernel_rfl
theorem cellsF9 : Tryz.prog.cellsOf 9 = 1 := by kernel_rfl
theorem twoL {α : Type} {l : List α} (h : l.length = 2) : ∃ a b, l = [a, b] := by
  match l, h with
  | [a, b], _ => exact ⟨a, b, rfl⟩
def varDat {H : Type} (x : ByteArray × ByteArray) : DataW H := .agg [.lit (.string (bl x.1)), .lit (.string (bl x.2))]
set_option maxRecDepth 20000 in
theorem var_of {H : Type} {enc : TypeId × Value → H} {W : World} {base : Nat} {sp : Nat → Bool} {held : Bool} {n : Nat} {cs : List Value} {x : DataW H × List MemPlace} (h : DataW.trod enc Tryz.prog W base sp held n 48 cs = some x) :
    ∃ a : ByteArray × ByteArray, cs = [.string a.1, .string a.2] ∧ x.1 = varDat a := by
  obtain ⟨xs, m, _, rfl, hl, hlen, hf⟩ := DataW.trod_struct Tryz.underlying48 h
  rw [cellsVar] at hl
  obtain ⟨c0, c1, rfl⟩ := twoL hl
  have e0 : DataW.trod enc Tryz.prog W base sp held m 9 (([c0, c1].drop 0).take (Tryz.prog.cellsOf 9)) = xs[0]? := hf 0 _ rfl
  rw [cellsF9] at e0
  have e1 : DataW.trod enc Tryz.prog W base sp held m 9 (([c0, c1].drop 1).take (Tryz.prog.cellsOf 9)) = xs[1]? := hf 1 _ rfl
  rw [cellsF9] at e1
  simp only [List.drop_zero, List.drop_succ_cons, List.take_succ_cons, List.take_zero] at e0 e1
  have hx : ∀ i, i < 2 → ∃ y, xs[i]? = some y := fun i hi => ⟨_, List.getElem?_eq_getElem (by rw [hlen]; exact hi)⟩
  obtain ⟨y0, h0⟩ := hx 0 (by omega)
  obtain ⟨y1, h1⟩ := hx 1 (by omega)
  obtain ⟨q, q1, rfl, _⟩ := DataW.trod_string Tryz.underlying9 (e0.trans h0)
  obtain ⟨t, t1, rfl, _⟩ := DataW.trod_string Tryz.underlying9 (e1.trans h1)
  have hxs : xs = [(.lit (.string q.data.toList), []), (.lit (.string t.data.toList), [])] := by
    obtain ⟨a0, a1, rfl⟩ := twoL (show xs.length = 2 from hlen)
    simp at h0 h1
    rw [h0, h1]
  refine ⟨(q, t), ?_, ?_⟩
  · simp only [List.cons.injEq, and_true] at q1 t1
    rw [q1, t1]
  · rw [hxs]; rfl
theorem cell_here {W : World} {a : Addr} {v : Value} (h : W.cell? a = some v) : a.block < W.heap.size ∧ a.spot = none := by
  unfold World.cell? at h
  cases hb : W.heap[a.block]? with
  | none => rw [hb] at h; simp at h
  | some o =>
    refine ⟨(Array.getElem?_eq_some_iff.1 hb).1, ?_⟩
    rw [hb] at h
    cases o <;> simp at h
    exact h.1
theorem sized_in {H : Type} {P : Program} {ts : List TypeId} {ds : List (DataW H)} (h : (DataW.weightsEach P ts ds).all (· ≤ reachBytes) = true) {j : Nat} {t : TypeId} {d : DataW H} (ht : ts[j]? = some t) (hd : ds[j]? = some d) (x : Nat) (hx : x ∈ DataW.weights P t d) : x ≤ reachBytes := by
  have := List.all_eq_true.1 h _ (DataW.weights_mem_each ht hd x hx)
  simpa using this
set_option maxRecDepth 20000 in
theorem weights_var {H : Type} (a : ByteArray × ByteArray) : DataW.weights (H := H) Tryz.prog 48 (varDat a) = [(bl a.1).length, (bl a.2).length] := by
  unfold varDat DataW.weights
  rw [Tryz.underlying48]
  rfl
theorem weights_all_mem {H : Type} {P : Program} {e : TypeId} {l : List (DataW H)} {d : DataW H} (hd : d ∈ l) {x : Nat} (hx : x ∈ DataW.weights P e d) : x ∈ DataW.weightsAll P e l := by
  induction l with
  | nil => cases hd
  | cons y l ih =>
    unfold DataW.weightsAll
    rcases List.mem_cons.1 hd with rfl | hd
    · exact List.mem_append_left _ hx
    · exact List.mem_append_right _ (ih hd)
set_option maxRecDepth 20000 in
theorem vars_of {H : Type} {enc : TypeId × Value → H} {W : World} {base : Nat} {v : Value} {d : DataW H} {ps : List MemPlace} (hval : Value.okWide Tryz.prog W .any base 33 v) (h : DataW.Trod enc Tryz.prog W 0 (fun _ => true) true 33 v d ps) (hs : ∀ x ∈ DataW.weights Tryz.prog 33 d, x ≤ reachBytes) :
    ∃ (l : Vr2) (a : Option Addr) (n c : Nat), v = .slice a n c ∧ n ≤ 140737488355328 ∧ n ≤ c ∧ VarsAt W.heap.size W (.slice a n c) l ∧ ∀ x ∈ l, x.1.size ≤ 140737488355328 ∧ x.2.size ≤ 140737488355328 := by
  obtain ⟨a0, len, cap, rfl⟩ := WideShapes.okWide_slice Tryz.underlying33 hval
  obtain ⟨fuel, hf⟩ := h
  have hr := reachBytes_lt
  rcases Go.Deep.open_slice Tryz.underlying33 hf with ⟨hcs, _⟩ | ⟨a, len', cap', m, n, D, Pl, hcs, _, hl, _, hm, hx, hcell⟩
  · have e1 : Value.slice a0 len cap = .slice none 0 0 := by simpa [Value.cells] using hcs
    simp only [Value.slice.injEq] at e1
    obtain ⟨rfl, rfl, rfl⟩ := e1
    exact ⟨[], none, 0, 0, rfl, Nat.zero_le _, Nat.le_refl _, ⟨none, 0, 0, rfl, rfl, fun i hi => absurd hi (Nat.not_lt_zero _)⟩, fun x hx => by cases hx⟩
  · have e1 : Value.slice a0 len cap = .slice (some a) len' cap' := by simpa [Value.cells] using hcs
    simp only [Value.slice.injEq] at e1
    obtain ⟨rfl, rfl, rfl⟩ := e1
    simp only [if_true] at hm
    subst hm
    rw [cellsVar] at hcell
    have hd : d = .slice ((List.range len).map D) ((List.range (m - len)).map fun j => D (len + j)) := congrArg Prod.fst hx
    have key : ∀ i, i < m → ∃ x : ByteArray × ByteArray, D i = varDat x ∧ W.cells? 0 (a.add (i * 2)) 2 = some [.string x.1, .string x.2] := fun i hi => by
      obtain ⟨cs', h1, h2⟩ := hcell i hi
      obtain ⟨x, rfl, hx1⟩ := var_of h2
      exact ⟨x, hx1, h1⟩
    have inh : Inhabited (ByteArray × ByteArray) := ⟨(⟨#[]⟩, ⟨#[]⟩)⟩
    obtain ⟨U, hV⟩ := Go.Deep.choose_lt (α := ByteArray × ByteArray) (p := fun i x => D i = varDat x ∧ W.cells? 0 (a.add (i * 2)) 2 = some [.string x.1, .string x.2]) key
    have hlen : len ≤ 140737488355328 := by
      have h1 := hs ((((List.range len).map D).length + ((List.range (m - len)).map fun j => D (len + j)).length) * Tryz.prog.bytesOf 48) (by
        rw [hd]; unfold DataW.weights; rw [Tryz.underlying33]; exact List.mem_cons_self ..)
      rw [bytesVar] at h1
      simp at h1
      omega
    refine ⟨(List.range len).map U, some a, len, m, rfl, hlen, hl, ⟨some a, len, m, rfl, by simp, fun i hi => ?_⟩, fun x hx => ?_⟩
    · have hi' : i < len := by simpa using hi
      obtain ⟨_, hc⟩ := hV i (by omega)
      obtain ⟨_, _, hcc⟩ := World.cells?_some hc
      obtain ⟨_, hc0⟩ := hV 0 (by omega)
      obtain ⟨_, _, hcc0⟩ := World.cells?_some hc0
      have hfirst : W.cell? (a.add 0) = some (.string (U 0).1) := by
        have := hcc0 0 (by omega)
        rw [Nat.zero_mul] at this
        exact this
      obtain ⟨b, o, sp⟩ := a
      have hsp : sp = none := by
        have h0 := (cell_here hfirst).2
        simpa [Addr.add] using h0
      have hbl : b < W.heap.size := by
        have h0 := (cell_here hfirst).1
        simpa [Addr.add] using h0
      subst hsp
      have hg : ((List.range len).map U)[i] = U i := by simp
      refine ⟨b, o, rfl, hbl, ?_, ?_⟩
      · have := hcc 0 (by omega)
        rw [V.add_none, V.add_none] at this
        rw [hg]; exact this
      · have := hcc 1 (by omega)
        rw [V.add_none, V.add_none] at this
        rw [hg]; exact this
    · obtain ⟨i, hi, rfl⟩ := List.mem_map.1 hx
      have hi' : i < len := by simpa using hi
      obtain ⟨hDi, _⟩ := hV i (by omega)
      have h1 := hs (bl (U i).2).length (by
        rw [hd]; unfold DataW.weights; rw [Tryz.underlying33]
        refine List.mem_cons_of_mem _ (List.mem_append_left _ (weights_all_mem (d := D i) (List.mem_map.2 ⟨i, hi, rfl⟩) ?_))
        rw [hDi, weights_var]; simp)
      have h2 := hs (bl (U i).1).length (by
        rw [hd]; unfold DataW.weights; rw [Tryz.underlying33]
        refine List.mem_cons_of_mem _ (List.mem_append_left _ (weights_all_mem (d := D i) (List.mem_map.2 ⟨i, hi, rfl⟩) ?_))
        rw [hDi, weights_var]; simp)
      rw [bl_length] at h1 h2
      exact ⟨by omega, by omega⟩
end Go.Proofs.YthcbagggalehgaaGreatDoor.Ex
namespace Go.Proofs.YthcbagggalehgaaGreatDoor.Qtd
open Go.ChangeShapes Go.WideShapes Go.ChangeAt Go.RowKit
open Go.WideMaps Go.WideElems
open Go.ChangeMaps (open_string shut_string)
open Ex

set_option maxRecDepth 100000 in
theorem contract (H : Type) (enc : TypeId × Value → H) (W : World) (base : Nat) (args : Array Value) (ds gs : List (DataW H)) (before : List MemPlace)
    (hval : ∀ (j : Nat) t v, Tryz.f4.params[j]? = some t → args[j]? = some v → Value.okWide Tryz.prog W .any base t v)
    (hW : DataW.Whole enc Tryz.prog Tryz.f4.params.toList Rows.expandQuotedSpec.vars false W args.toList ds gs before)
    (hsz : (DataW.weightsEach Tryz.prog (Tryz.f4.params.toList ++ Rows.expandQuotedSpec.plain.varTypes Tryz.prog) (ds ++ gs)).all (· ≤ reachBytes) = true)
    (hM : Mx W) :
    Calls Tryz.prog 4 args W fun e W' => ∃ v, e = .returned v ∧ Rows.expandQuotedSpec.post enc Tryz.prog Tryz.f4 false true false false W args v W' := by
  have hW' := hW
  obtain ⟨p, q, hA0, hV, rfl, hfz, hnd⟩ := hW
  have hA : DataW.TrodAll enc Tryz.prog W 0 (fun _ => true) true Tryz.f4.params.toList args.toList ds p := hA0
  rw [Tryz.params4] at hA hval hsz
  obtain ⟨v0, v1, v2, d0, d1, d2, p0, p1, p2, rfl, rfl, rfl, h0, h1, h2⟩ := trodAll_three hA
  obtain ⟨rfl, rfl⟩ := trodVars_none hV
  obtain ⟨x0, rfl, rfl, rfl, wx0⟩ := open_string Tryz.underlying9 (hval 0 9 v0 rfl rfl) h0
  have hlt : ∀ x ∈ p1, x.block < W.heap.size := fun x hx => hW'.lt x (by simp [hx])
  have hsk := h1
  obtain ⟨l1, a1, n1, c1, rfl, hn1, hc1, hvars1, hfine1⟩ := vars_of (hval 1 33 v1 rfl rfl) h1 (fun x hx => sized_in hsz (j := 1) rfl rfl x hx)
  obtain ⟨i2, rfl, rfl, rfl, wi2⟩ := open_int Tryz.underlying34 (hval 2 34 v2 rfl rfl) h2
  have hb2 := bounds_u16 wi2
  obtain ⟨fu, rfl⟩ : ∃ fu : Nat, i2 = (fu : Int) := ⟨i2.toNat, by omega⟩
  clear hA0
  refine (quoted_law x0 a1 n1 c1 l1 fu (by omega) W hM hn1 hvars1 hfine1).mono fun e W' ⟨he, hb⟩ => ?_
  subst he
  exact ⟨_, rfl, _, _, _, [], [] ++ (p1 ++ []), [], hW', trodAll_mk1 (shut_bool Tryz.underlying4 true), trodAll_mk3 (shut_string Tryz.underlying9 wx0) (Below.trod laidOut (by kernel_rfl) (of_decide_eq_true (by kernel_rfl)) hsk hb hlt) (shut_int Tryz.underlying34 wi2), rfl, hb.frame _, fun h => by cases h⟩

theorem reads (os : Os) {H : Type} (enc : TypeId × Value → H) : ∃ places, DataW.whole enc Tryz.prog ((withTables (World.holding Tryz.prog os ⟨#[], #[], []⟩)).forCall (fun _ _ => 0) ⟨#[], #[.string ⟨#[]⟩, .slice none 0 0, .int .u16 0], []⟩).memory Tryz.f4.params.toList Rows.expandQuotedSpec.vars false #[Value.string ⟨#[]⟩, Value.slice none 0 0, Value.int .u16 0].toList 8 = some ([.lit (.string []), .nil, .lit (.int .u16 0)], [], places) :=
  ⟨[], by kernel_rfl⟩

set_option maxRecDepth 100000 in
theorem lifted (os : Os) (started : os.Started) (H : Type) (enc : TypeId × Value → H) (F : Stop.Interp) :
    ReturnsInHanded {} Tryz.checked os 4 .any ((OpenSpec.ofChange Rows.expandQuotedSpec).preRow enc Tryz.prog Tryz.f4 Rows.expandQuotedRow.domain false Rows.expandQuotedRow.laid) (((OpenSpec.ofChange Rows.expandQuotedSpec).at F).post enc Tryz.prog Tryz.f4 false true false false) := by
  obtain ⟨places, hx⟩ := reads os enc
  refine returnsInHanded_of_row (C := Tryz.checked) (s := OpenSpec.ofChange Rows.expandQuotedSpec) own started (by kernel_rfl) Tryz.func4
    (witness_row_at (enc := enc) (C := Tryz.checked) false (withTables (World.holding Tryz.prog os ⟨#[], #[], []⟩)) #[.string ⟨#[]⟩, .slice none 0 0, .int .u16 0] rfl (by kernel_rfl) (by kernel_rfl) (by kernel_rfl)
      (OpenSpec.preRow_of_cond 8 hx (by kernel_rfl) (fun k hk => by cases hk) (by kernel_rfl) (laid_met os _))) ?_
  intro W base args ds gs before hval hW _ _ hsz _ hsh _
  exact contract H enc W base args ds gs before hval hW hsz (mx_of hsh)

end Go.Proofs.YthcbagggalehgaaGreatDoor.Qtd
