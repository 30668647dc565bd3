/-
  ModsApply is true at any text and any words, and leaves them as they were: what all modifiers of a text make of words is what the parsed ones make, one after the other.
-/
import Derived.Test.YtedepknbaakkhabGreatDoorMWy
import Derived.Test.YtedepknbaakkhabGreatDoorMB6
import Derived.SliceStrings
namespace Go.Proofs.YtedepknbaakkhabGreatDoor.Apl
open Go.ChangeShapes Go.WideShapes Go.ChangeAt Go.RowKit
open Go.WideMaps Go.WideElems
open Go.ChangeMaps (open_string shut_string)

theorem cells9 : Tryz.prog.cellsOf 9 = 1 := by kernel_rfl
theorem cell_here {W : World} {a : Addr} {v : Value} (h : W.cell? a = some v) : a.block < W.heap.size ∧ a.spot = none := by
  unfold World.cell? at h
  cases hb : W.heap[a.block]? with
  | none => rw [hb] at h; simp at h
  | some o =>
    refine ⟨(Array.getElem?_eq_some_iff.1 hb).1, ?_⟩
    rw [hb] at h
    cases o <;> simp at h
    exact h.1
theorem words_nil {W : World} {a0 : Option Addr} {len cap : Nat} (h : Value.slice a0 len cap = .slice none 0 0) : len = ([] : List ByteArray).length ∧ Words W.heap.size W (.slice a0 len cap) [] := by
  simp only [Value.slice.injEq] at h
  obtain ⟨rfl, rfl, rfl⟩ := h
  exact ⟨rfl, none, 0, 0, rfl, rfl, fun i hi => by simp at hi⟩
theorem words_some {W : World} {a0 : Option Addr} {len cap : Nat} {a : Addr} {len' cap' : Nat} {ss : List ByteArray} (h : Value.slice a0 len cap = .slice (some a) len' cap') (hl : len' ≤ cap') (hz : ss.length = cap')
    (hcell : ∀ i, i < ss.length → W.cell? (a.add i) = some (.string (ss.getD i ByteArray.empty))) : len = (ss.take len').length ∧ Words W.heap.size W (.slice a0 len cap) (ss.take len') := by
  simp only [Value.slice.injEq] at h
  obtain ⟨rfl, rfl, rfl⟩ := h
  have hlen : (ss.take len).length = len := by simp; omega
  refine ⟨hlen.symm, some a, len, cap, rfl, hlen.symm, fun i hi => ?_⟩
  have hi' : i < len := by omega
  have hc := hcell i (by omega)
  have hg : ss.getD i ByteArray.empty = (ss.take len)[i] := by
    rw [List.getElem_take, List.getD_eq_getElem?_getD, List.getElem?_eq_getElem (by omega)]; rfl
  rw [hg] at hc
  have h1 := (cell_here hc).1
  obtain ⟨b, o, sp⟩ := a
  have hsp : sp = none := by
    have h0 := (cell_here (hcell 0 (by omega))).2
    simpa [Addr.add] using h0
  subst hsp
  refine ⟨b, o, rfl, ?_, ?_⟩
  · by_cases h0 : i = 0
    · subst h0; simpa [Addr.add] using h1
    · simpa [Addr.add, h0] using h1
  · by_cases h0 : i = 0
    · subst h0; simpa [Addr.add] using hc
    · simpa [Addr.add, h0] using hc

set_option maxRecDepth 100000 in
theorem contract (H : Type) (enc : TypeId × Value → H) (W : World) (base : Nat) (args : Array Value) (ds gs : List (DataW H)) (before : List MemPlace)
    (hval : ∀ (j : Nat) t v, Tryz.f3.params[j]? = some t → args[j]? = some v → Value.okWide Tryz.prog W .any base t v)
    (hW : DataW.Whole enc Tryz.prog Tryz.f3.params.toList Rows.modsApplySpec.vars false W args.toList ds gs before)
    (hG : Gz W) (hE : Ey W) :
    Calls Tryz.prog 3 args W fun e W' => ∃ v, e = .returned v ∧ Rows.modsApplySpec.post enc Tryz.prog Tryz.f3 false true false false W args v W' := by
  have hW' := hW
  obtain ⟨p, q, hA0, hV, rfl, hfz, hnd⟩ := hW
  have hA : DataW.TrodAll enc Tryz.prog W 0 (fun _ => true) true Tryz.f3.params.toList args.toList ds p := hA0
  rw [Tryz.params3] at hA hval
  obtain ⟨v0, v1, d0, d1, p0, p1, rfl, rfl, rfl, h0, h1⟩ := trodAll_two hA
  obtain ⟨rfl, rfl⟩ := trodVars_none hV
  obtain ⟨x0, rfl, rfl, rfl, wx0⟩ := open_string Tryz.underlying9 (hval 0 9 v0 rfl rfl) h0
  have hsk := h1
  have hlt : ∀ x ∈ p1, x.block < W.heap.size := fun x hx => hW'.lt x (by simp [hx])
  obtain ⟨a0, len, cap, rfl⟩ := okWide_slice Tryz.underlying22 (hval 1 22 v1 rfl rfl)
  obtain ⟨fuel, hf⟩ := h1
  clear hA0
  have fin : (∃ l : List ByteArray, Words W.heap.size W (.slice a0 len cap) l ∧ (a0 = none → cap = 0)) → Calls Tryz.prog 3 #[.string x0, .slice a0 len cap] W fun e W' => ∃ v, e = .returned v ∧ Rows.modsApplySpec.post enc Tryz.prog Tryz.f3 false true false false W #[.string x0, .slice a0 len cap] v W' := by
    rintro ⟨l, hw, hc0⟩
    refine (ap_law x0 a0 len cap l W hw hc0 hG hE).mono fun e W' ⟨he, hb⟩ => ?_
    subst he
    exact ⟨_, rfl, _, _, _, [], p1, [], hW', trodAll_mk1 (shut_bool Tryz.underlying4 true), trodAll_mk2 (shut_string Tryz.underlying9 wx0) (Below.trod laidOut (by kernel_rfl) (of_decide_eq_true (by kernel_rfl)) hsk hb hlt), rfl, hb.frame _, fun h => by cases h⟩
  rcases open_strings Tryz.underlying22 Tryz.underlying9 cells9 hf with ⟨hcs, hx⟩ | ⟨a, len', cap', ss, hcs, _, hl, hm, hz, hx, hcell, hws⟩
  · obtain ⟨_, e2⟩ := words_nil (W := W) (show Value.slice a0 len cap = .slice none 0 0 by simpa [Value.cells] using hcs)
    exact fin ⟨[], e2, fun _ => (Value.slice.inj (show Value.slice a0 len cap = .slice none 0 0 by simpa [Value.cells] using hcs)).2.2⟩
  · have hzz : ss.length = cap' := by simpa using hz
    obtain ⟨_, e2⟩ := words_some (W := W) (show Value.slice a0 len cap = .slice (some a) len' cap' by simpa [Value.cells] using hcs) hl hzz hcell
    exact fin ⟨ss.take len', e2, fun h => nomatch (h.symm.trans (Value.slice.inj (show Value.slice a0 len cap = .slice (some a) len' cap' by simpa [Value.cells] using hcs)).1)⟩

theorem reads (os : Os) {H : Type} (enc : TypeId × Value → H) : ∃ places, DataW.whole enc Tryz.prog ((withTables (World.holding Tryz.prog os ⟨#[], #[], []⟩)).forCall (fun _ _ => 0) ⟨#[], #[.string ⟨#[]⟩, .slice none 0 0], []⟩).memory Tryz.f3.params.toList Rows.modsApplySpec.vars false #[Value.string ⟨#[]⟩, Value.slice none 0 0].toList 8 = some ([.lit (.string []), .nil], [], places) :=
  ⟨[], by kernel_rfl⟩

set_option maxRecDepth 100000 in
theorem lifted (os : Os) (started : os.Started) (H : Type) (enc : TypeId × Value → H) (F : Stop.Interp) :
    ReturnsInHanded {} Tryz.checked os 3 .any ((OpenSpec.ofChange Rows.modsApplySpec).preRow enc Tryz.prog Tryz.f3 Rows.modsApplyRow.domain false Rows.modsApplyRow.laid) (((OpenSpec.ofChange Rows.modsApplySpec).at F).post enc Tryz.prog Tryz.f3 false true false false) := by
  obtain ⟨places, hx⟩ := reads os enc
  refine returnsInHanded_of_row (C := Tryz.checked) (s := OpenSpec.ofChange Rows.modsApplySpec) own started (by kernel_rfl) Tryz.func3
    (witness_row_at (enc := enc) (C := Tryz.checked) false (withTables (World.holding Tryz.prog os ⟨#[], #[], []⟩)) #[.string ⟨#[]⟩, .slice none 0 0] rfl (by kernel_rfl) (by kernel_rfl) (by kernel_rfl)
      (OpenSpec.preRow_of_cond 8 hx (by kernel_rfl) (fun k hk => by cases hk) (by kernel_rfl) (laid_met os _))) ?_
  intro W base args ds gs before hval hW _ _ _ hl hsh _
  exact contract H enc W base args ds gs before hval hW ⟨mx_of hsh, tz_of hl⟩ (ey_of hl)

theorem said : Rows.ModsApplySaid :=
  OpenClaim.holds_of_cond 3 Tryz.f3 rfl rfl rfl rfl rfl rfl rfl ⟨rfl, rfl, rfl, rfl, rfl⟩ rfl rfl rfl rfl rfl (by kernel_rfl) Tryz.func3 (by kernel_rfl)
    (of_decide_eq_true (by kernel_rfl)) (by unfold Func.isWrapper; first | (rw [if_pos (by decide +kernel)]; kernel_rfl) | (rw [if_neg (by decide +kernel)]; exact ⟨rfl, rfl⟩))
    (fun os started H enc _ F => by rw [OpenClaim.pre_eq_preRow]; exact lifted os started H enc F)

theorem plain (f : FuncId) (fn : Func) (hf : Tryz.pinned.checked.prog.funcNamed "bobstay/bobstaylaw06.ModsApply" = some f) (hfn : Tryz.pinned.checked.prog.funcs[f]? = some fn) :
    true = Tryz.pinned.checked.prog.looks [] ∧ ∀ (j : Nat) t, fn.params[j]? = some t → Tryz.pinned.checked.prog.wantsStandIn t = false := by
  obtain rfl : f = 3 := Option.some.inj ((show Tryz.prog.funcNamed "bobstay/bobstaylaw06.ModsApply" = some 3 by kernel_rfl).symm.trans hf) |>.symm
  obtain rfl : fn = Tryz.f3 := (Option.some.inj (Tryz.func3.symm.trans hfn)).symm
  refine ⟨by kernel_rfl, fun j t ht => ?_⟩
  rw [Tryz.params3] at ht
  have hm := Array.mem_of_getElem? ht
  simp at hm
  rcases hm with rfl | rfl
  · exact (show Tryz.prog.wantsStandIn 9 = false by kernel_rfl)
  · exact (show Tryz.prog.wantsStandIn 22 = false by kernel_rfl)

theorem card : Rows.ModsApplyCardSaid :=
  Claim7.holds_tied_plain_at .later [] _ _ _ _ said (fun _ h => by cases h) (by kernel_rfl) (fun _ h => by cases h) modsApply_row_tie rfl ⟨rfl, rfl⟩ (by kernel_rfl) rfl plain (by kernel_rfl)
end Go.Proofs.YtedepknbaakkhabGreatDoor.Apl
namespace Go.Proofs.YtedepknbaakkhabGreatDoor
theorem modsApply_card : Rows.ModsApplyCardSaid := Apl.card
end Go.Proofs.YtedepknbaakkhabGreatDoor
