/-
  A world that bears the tables and errors as the program text lays them; CondNumbers at every two numbers, run by run.
-/
import Derived.Test.YtkelmhpoplbacaaGreatDoorCards
import Derived.Test.YtkelmhpoplbacaaGreatDoorTie
import Derived.WalkKit
import Derived.ProofKit
import Derived.OpenShut
import Derived.Deep.DeepHandedRow
import Derived.Deep.DeepLaidRun
import Derived.SizedLaws
import Derived.Shelf.Vars
import Derived.Stop.LaidErr
import Derived.FnData
import Derived.Test.YtkelmhpoplbacaaGreatDoorGH
namespace Go.Proofs.YtkelmhpoplbacaaGreatDoor
open Go.ChangeShapes Go.WideShapes Go.ChangeAt Go.RowKit

theorem own : ownKnob Tryz.prog.godebug = none := by kernel_rfl
theorem laidOut : laidOutB Tryz.prog = true := by kernel_rfl

def lv : DataW Unit → Value
  | .lit (.int k n) => .int k n
  | .lit (.string s) => .string ⟨s.toArray⟩
  | _ => .int .u8 0
def flat1 : DataW Unit → List Value
  | .agg ps => ps.map lv
  | _ => []
def flat2 : DataW Unit → List Value
  | .agg ps => ps.flatMap flat1
  | _ => []
def laysCells (l : List Value) : Obj → Obj
  | .cells _ t frozen => .cells l.toArray t frozen
  | o => o
def errText (d : DataW Unit) : ByteArray := match d with
  | .iface _ (.ptr (.agg [.lit (.string l)])) => ⟨l.toArray⟩
  | _ => ⟨#[]⟩
/-- The tables and the errors laid into a world. -/
def withTables (w : World) : World :=
  { w with heap := ((((((((((((w.heap.modify 0 (laysCells [.iface 270 (.pointer (some ⟨w.heap.size, 0, none⟩))])).modify 6 (laysCells [.iface 270 (.pointer (some ⟨w.heap.size + 1, 0, none⟩))])).modify 7 (laysCells (flat1 Rows.laid_internal_strconv_uint64pow10))).modify 3 (laysCells (flat1 Go.Pinned.utf8First))).modify 4 (laysCells (flat2 Rows.laid_unicode_utf8_acceptRanges))).modify 8 (laysCells (flat1 Rows.laid_math_bits_deBruijn32tab))).modify 9 (laysCells (flat1 Rows.laid_math_bits_deBruijn64tab))).modify 2 (laysCells (flat1 Rows.laid_bobstay_cond_words))).modify 1 (laysCells (flat1 Rows.laid_bobstay_cond_signs))).push (.cells #[.string (errText Rows.laid_strconv_ErrRange)] 272 (0, 0))).push (.cells #[.string (errText Rows.laid_strconv_ErrSyntax)] 272 (0, 0)))) }
/-- The list that the row of this seat bears. -/
theorem laid_met (os : Os) (args : Array Value) : laidMet Tryz.prog Rows.condNumbersRow.laid ((withTables (World.holding Tryz.prog os ⟨#[], #[], []⟩)).forCall (fun _ _ => 0) ⟨#[], args, []⟩).memory :=
  laidMet_of_run3 8 (by kernel_rfl) (by kernel_rfl) (by kernel_rfl)

theorem laid_plain {W : World} (h : laidMetH Tryz.prog Rows.condNumbersRow.laid W) : laidMet Tryz.prog Rows.condNumbersRow.laid W := by
  have e : (Rows.condNumbersRow.laid.filter fun x => x.2.handleName?.isSome) = [] := by kernel_rfl
  unfold laidMetH at h
  rw [e] at h
  exact h
theorem laid_list : Rows.condNumbersRow.laid = ("math/bits.deBruijn32tab", Rows.laid_math_bits_deBruijn32tab) :: ("math/bits.deBruijn64tab", Rows.laid_math_bits_deBruijn64tab) :: ("internal/strconv.uint64pow10", Rows.laid_internal_strconv_uint64pow10) :: ("unicode/utf8.acceptRanges", Rows.laid_unicode_utf8_acceptRanges) :: ("strconv.ErrRange", .iface "*errors.errorString" (.ptr (.agg [.lit (.string [118, 97, 108, 117, 101, 32, 111, 117, 116, 32, 111, 102, 32, 114, 97, 110, 103, 101])]))) :: ("strconv.ErrSyntax", Rows.laid_strconv_ErrSyntax) :: ("bobstay/cond.words", Rows.laid_bobstay_cond_words) :: ("bobstay/cond.signs", Rows.laid_bobstay_cond_signs) :: [("unicode/utf8.first", Rows.laid_unicode_utf8_first)] := by kernel_rfl
theorem starE : "*" ++ "errors.errorString" = "*errors.errorString" := by decide
theorem er_of {W : World} (h : laidMet Tryz.prog Rows.condNumbersRow.laid W) : ∃ a, N.Er a W := by
  have h1 := h
  rw [laid_list] at h1
  have glob0 : Tryz.prog.globalNamed "strconv.ErrRange" = some 0 := by kernel_rfl
  obtain ⟨a, s, h2, _⟩ := laid_sentinel (g := 0) (ti := (Tryz.prog.globals[0]!).type) (tp := 270) (te := 272) (ts := 9) (ms := (match Tryz.prog.underlying (Tryz.prog.globals[0]!).type with | some (.interface ms) => ms | _ => #[])) (f := (match Tryz.prog.underlying 272 with | some (.struct fs) => fs[0]! | _ => default)) h1.tail.tail.tail.tail glob0 (by kernel_rfl) (by kernel_rfl) (fun u hu => typeName_ptr_named (nm := "errors.errorString") (by rw [starE]; kernel_rfl) (by kernel_rfl) (by decide) u (by rw [starE]; exact hu)) (by kernel_rfl) (by kernel_rfl) (by kernel_rfl) (by kernel_rfl) (by kernel_rfl) (by kernel_rfl) (by kernel_rfl)
  exact ⟨a, by unfold N.Er; simpa using World.var?_cell glob0 h2 0⟩
/-- Six texts that read as laid ones are these texts. -/
theorem six_of {H : Type} {enc : TypeId × Value → H} {W : World} {base : Nat} {sp : Nat → Bool} {held : Bool} {fuel : Nat} {cs : List Value} {zs : List (List UInt8)} (hz : zs.length = 6) {q : List MemPlace} (h : DataW.trod enc Tryz.prog W base sp held fuel 218 cs = some (.agg (zs.map fun z => .lit (.string z)), q)) : ∀ (i : Nat) (hi : i < 6), cs[i]? = some (.string ⟨(zs[i]'(by omega)).toArray⟩) := by
  intro i hi
  obtain ⟨xs, m, _, ex, hcl, hl, hel⟩ := DataW.trod_array Tryz.underlying218 h
  have hc9 : Tryz.prog.cellsOf 9 = 1 := by kernel_rfl
  have hx : (xs.map (·.1)) = zs.map fun z => (DataW.lit (.string z) : DataW H) := by
    have := congrArg Prod.fst ex
    simpa using this.symm
  have hxi : i < xs.length := by omega
  have he := hel i hi
  rw [hc9, Nat.mul_one, List.getElem?_eq_getElem hxi] at he
  obtain ⟨s, h1, h2, _⟩ := DataW.trod_string Tryz.underlying9 he
  have h3 : (xs.map (·.1))[i]? = some (DataW.lit (.string s.data.toList) : DataW H) := by
    rw [List.getElem?_map, List.getElem?_eq_getElem hxi, h2]; rfl
  rw [hx, List.getElem?_map, List.getElem?_eq_getElem (by omega)] at h3
  simp only [Option.map_some, Option.some.injEq, DataW.lit.injEq, Lit.string.injEq] at h3
  have h4 : cs[i]? = some (.string s) := by
    have := congrArg (·[0]?) h1
    simpa [List.getElem?_take, List.getElem?_drop] using this
  rw [h4, h3]
theorem words_of {W : World} {name : String} {g : Nat} {zs : List (List UInt8)} (hz : zs.length = 6) {rest : List (String × DataW Unit)} (hg : Tryz.prog.globalNamed name = some g) (hty : (Tryz.prog.globals[g]?).map (·.type) = some 218) (h : laidMet Tryz.prog ((name, .agg (zs.map fun z => .lit (.string z))) :: rest) W) : ∀ (i : Nat) (hi : i < 6), W.cell? ⟨g, i, none⟩ = some (.string ⟨(zs[i]'(by omega)).toArray⟩) := by
  intro i hi
  obtain ⟨ps, ⟨g', t', cs, fuel, p, q, hg', ht', hvar, hd, _, _⟩, _⟩ := h
  obtain rfl := Option.some.inj (hg.symm.trans hg')
  obtain rfl := Option.some.inj (hty.symm.trans ht')
  have h1 := World.var?_cell hg hvar i
  rw [h1]
  have := six_of hz hd i hi
  simpa using this
theorem gd_of {W : World} (h : laidMetH Tryz.prog Rows.condNumbersRow.laid W) : ∃ a, Cd.Gd a W := by
  have h1 := laid_plain h
  obtain ⟨a, ha⟩ := er_of h1
  rw [laid_list] at h1
  have hw := words_of (name := "bobstay/cond.words") (g := 2) (zs := [[100, 101, 102, 105, 110, 101, 100], [101, 109, 112, 116, 121], [109, 97, 107, 101], [116, 97, 114, 103, 101, 116], [99, 111, 109, 109, 97, 110, 100, 115], [101, 120, 105, 115, 116, 115]]) rfl (by kernel_rfl) (by kernel_rfl) h1.tail.tail.tail.tail.tail.tail
  have hs := words_of (name := "bobstay/cond.signs") (g := 1) (zs := [[61, 61], [33, 61], [60, 61], [62, 61], [60], [62]]) rfl (by kernel_rfl) (by kernel_rfl) h1.tail.tail.tail.tail.tail.tail.tail
  have low : ∀ {g : Nat} {v : Value}, W.cell? ⟨g, 0, none⟩ = some v → g < W.heap.size := fun {g v} hc => by
    unfold World.cell? at hc
    cases hb : W.heap[g]? with
    | none => simp [hb] at hc
    | some o => exact (Array.getElem?_eq_some_iff.1 hb).1
  refine ⟨a, ⟨fun i hi => ?_, fun i hi => ?_, low (hw 0 (by omega)), low (hs 0 (by omega))⟩, ha⟩
  · match i, hi with
    | 0, h => exact hw 0 h
    | 1, h => exact hw 1 h
    | 2, h => exact hw 2 h
    | 3, h => exact hw 3 h
    | 4, h => exact hw 4 h
    | 5, h => exact hw 5 h
  · match i, hi with
    | 0, h => exact hs 0 h
    | 1, h => exact hs 1 h
    | 2, h => exact hs 2 h
    | 3, h => exact hs 3 h
    | 4, h => exact hs 4 h
    | 5, h => exact hs 5 h
end Go.Proofs.YtkelmhpoplbacaaGreatDoor
namespace Go.Proofs.YtkelmhpoplbacaaGreatDoor.CondNumbersC
open Go.ChangeShapes Go.WideShapes Go.ChangeAt Go.RowKit
open Go.WideMaps Go.WideElems
open Go.ChangeMaps (open_string shut_string)

set_option maxRecDepth 100000 in
theorem contract (H : Type) (enc : TypeId × Value → H) (W : World) (base : Nat) (args : Array Value) (ds gs : List (DataW H)) (before : List MemPlace)
    (hval : ∀ (j : Nat) t v, Tryz.f3.params[j]? = some t → args[j]? = some v → Value.okWide Tryz.prog W .any base t v)
    (hW : DataW.Whole enc Tryz.prog Tryz.f3.params.toList Rows.condNumbersSpec.vars false W args.toList ds gs before)
    (hsz : (DataW.weightsEach Tryz.prog (Tryz.f3.params.toList ++ Rows.condNumbersSpec.plain.varTypes Tryz.prog) (ds ++ gs)).all (· ≤ reachBytes) = true) (hGw : ∃ a, Cd.Gd a W) :
    Calls Tryz.prog 3 args W fun e W' => ∃ v, e = .returned v ∧ Rows.condNumbersSpec.post enc Tryz.prog Tryz.f3 false true false false W args v W' := by
  have hW' := hW
  obtain ⟨p, q, hA0, hV, rfl, hfz, hnd⟩ := hW
  have hA : DataW.TrodAll enc Tryz.prog W 0 (fun _ => true) true Tryz.f3.params.toList args.toList ds p := hA0
  rw [Tryz.params3] at hA hval
  obtain ⟨v0, v1, d0, d1, p0, p1, rfl, rfl, rfl, h0, h1⟩ := trodAll_two hA
  obtain ⟨rfl, rfl⟩ := trodVars_none hV
  obtain ⟨x0, rfl, rfl, rfl, wx0⟩ := open_int Tryz.underlying3 (hval 0 3 v0 rfl rfl) h0
  obtain ⟨x1, rfl, rfl, rfl, wx1⟩ := open_int Tryz.underlying3 (hval 1 3 v1 rfl rfl) h1
  clear hA0
  simp only [List.append_nil] at hW'
  obtain ⟨a, hG⟩ := hGw
  refine (Cd.numbers_law x0 x1 a W hG).mono fun e W' ⟨he, hb⟩ => ?_
  subst he
  exact ⟨_, rfl, _, _, _, [], [], [], hW', trodAll_mk1 (shut_bool Tryz.underlying4 true), trodAll_mk2 (shut_int Tryz.underlying3 wx0) (shut_int Tryz.underlying3 wx1), rfl, hb.frame _, fun h => by cases h⟩

theorem reads (os : Os) {H : Type} (enc : TypeId × Value → H) : ∃ places, DataW.whole enc Tryz.prog ((withTables (World.holding Tryz.prog os ⟨#[], #[], []⟩)).forCall (fun _ _ => 0) ⟨#[], #[.int .i64 0, .int .i64 0], []⟩).memory Tryz.f3.params.toList Rows.condNumbersSpec.vars false #[Value.int .i64 0, Value.int .i64 0].toList 8 = some ([.lit (.int .i64 0), .lit (.int .i64 0)], [], places) :=
  ⟨[], by kernel_rfl⟩

set_option maxRecDepth 100000 in
theorem lifted (os : Os) (started : os.Started) (H : Type) (enc : TypeId × Value → H) (F : Stop.Interp) :
    ReturnsInHanded {} Tryz.checked os 3 .any ((OpenSpec.ofChange Rows.condNumbersSpec).preRow enc Tryz.prog Tryz.f3 Rows.condNumbersRow.domain false Rows.condNumbersRow.laid) (((OpenSpec.ofChange Rows.condNumbersSpec).at F).post enc Tryz.prog Tryz.f3 false true false false) := by
  obtain ⟨places, hx⟩ := reads os enc
  refine returnsInHanded_of_row (C := Tryz.checked) (s := OpenSpec.ofChange Rows.condNumbersSpec) own started (by kernel_rfl) Tryz.func3
    (witness_row_at (enc := enc) (C := Tryz.checked) false (withTables (World.holding Tryz.prog os ⟨#[], #[], []⟩)) #[.int .i64 0, .int .i64 0] rfl (by kernel_rfl) (by kernel_rfl) (by kernel_rfl)
      (OpenSpec.preRow_of_cond 8 hx (by kernel_rfl) (fun k hk => by cases hk) (by kernel_rfl) (laid_met os _))) ?_
  intro W base args ds gs before hval hW _ _ hsz hl hsh _
  exact contract H enc W base args ds gs before hval hW hsz (gd_of hl)
end Go.Proofs.YtkelmhpoplbacaaGreatDoor.CondNumbersC
