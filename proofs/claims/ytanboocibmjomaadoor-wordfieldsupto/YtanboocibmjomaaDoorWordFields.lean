/-
  WordFields is true at every text and every list of texts that together have at most 2^20 values and letters, and leaves them as they were: the fields of any text, how many there are, and any words joined, are the document's. Its conditions: the library's two utf8 tables hold what the program's text lays (the card ties them); of the pruned copy of the project.
-/
import Derived.Test.YtanboocibmjomaaDoorWorld
import Derived.Test.YtanboocibmjomaaDoorLaws
import Derived.Test.YtanboocibmjomaaDoorAgain
import Derived.SliceStrings
namespace Go.Proofs.YtanboocibmjomaaDoor.Fie
open Go.ChangeShapes Go.WideShapes Go.ChangeAt Go.RowKit
open Go.WideMaps Go.WideElems
open Go.ChangeMaps (open_string shut_string)

theorem cells9 : Tryd.prog.cellsOf 9 = 1 := by kernel_rfl
theorem strs_len {H : Type} (l : List ByteArray) : (strs (H := H) l).length = l.length := by simp [strs]
theorem bulk_strs {H : Type} (l : List ByteArray) : Rows.uptoBulkAll (strs (H := H) l) = (l.map ByteArray.size).sum + l.length := by
  induction l with
  | nil => rfl
  | cons x t ih =>
    have e : Rows.uptoBulkAll (strs (H := H) (x :: t)) = x.data.toList.length + 1 + Rows.uptoBulkAll (strs (H := H) t) := rfl
    rw [e, ih]
    have := bl_length x
    unfold bl at this
    simp only [List.map_cons, List.sum_cons, List.length_cons]
    omega
theorem told_sum (l : List ByteArray) : (((told l).map bl).map List.length).sum + ((told l).map bl).length ≤ (l.map ByteArray.size).sum + l.length := by
  induction l with
  | nil => simp [told]
  | cons x t ih =>
    have hx := bl_length x
    unfold told at ih ⊢
    rw [List.filter_cons]
    split
    · simp only [List.map_cons, List.sum_cons, List.length_cons] at ih ⊢; omega
    · simp only [List.map_cons, List.sum_cons, List.length_cons] at ih ⊢; omega
theorem joined_le (l : List ByteArray) : (joined l).size ≤ (l.map ByteArray.size).sum + l.length := by
  unfold joined
  rw [ba_size]
  exact Nat.le_trans (joinB_len _) (told_sum l)

theorem contract (H : Type) (enc : TypeId × Value → H) (W : World) (base : Nat) (args : Array Value) (ds gs : List (DataW H)) (before : List MemPlace)
    (hval : ∀ (j : Nat) t v, Tryd.f5.params[j]? = some t → args[j]? = some v → Value.okWide Tryd.prog W .any base t v)
    (hW : DataW.Whole enc Tryd.prog Tryd.f5.params.toList Rows.wordFieldsSpec.vars false W args.toList ds gs before)
    (hk : Rows.uptoSmall H (ds ++ gs) = true)
    (hM : Mx W) :
    Calls Tryd.prog 5 args W fun e W' => ∃ v, e = .returned v ∧ Rows.wordFieldsSpec.post enc Tryd.prog Tryd.f5 false true false false W args v W' := by
  have hW' := hW
  obtain ⟨p, q, hA0, hV, rfl, hfz, hnd⟩ := hW
  have hA : DataW.TrodAll enc Tryd.prog W 0 (fun _ => true) true Tryd.f5.params.toList args.toList ds p := hA0
  rw [Tryd.params5] at hA hval
  obtain ⟨v0, v1, d0, d1, p0, p1, rfl, rfl, rfl, h0, h1⟩ := trodAll_two hA
  obtain ⟨rfl, rfl⟩ := trodVars_none hV
  obtain ⟨x0, rfl, rfl, rfl, wx0⟩ := open_string Tryd.underlying9 (hval 0 9 v0 rfl rfl) h0
  have h1k := h1
  have hlt : ∀ x ∈ p1, x.block < W.heap.size := fun x hx => hW'.lt x (by simp [hx])
  obtain ⟨a0, len, cap, rfl⟩ := okWide_slice Tryd.underlying22 (hval 1 22 v1 rfl rfl)
  obtain ⟨fuel, hf⟩ := h1
  have hb := of_decide_eq_true hk
  simp only [Rows.uptoBulkAll, Rows.uptoBulk, List.cons_append, List.nil_append] at hb
  have hx0 : x0.size ≤ 1100000 := by have := bl_length x0; unfold bl at this; omega
  clear hA0
  have fin : (∃ l : List ByteArray, (l.map ByteArray.size).sum + l.length ≤ 1048576 ∧ len = l.length ∧ Words W.heap.size W (.slice a0 len cap) l) → Calls Tryd.prog 5 #[.string x0, .slice a0 len cap] W fun e W' => ∃ v, e = .returned v ∧ Rows.wordFieldsSpec.post enc Tryd.prog Tryd.f5 false true false false W #[.string x0, .slice a0 len cap] v W' := by
    rintro ⟨l, hn, hln, hw⟩
    have hj := joined_le l
    refine (fields_law x0 a0 len cap l W hx0 (by omega) (by omega) hw hM).mono fun e W' ⟨he, hb⟩ => ?_
    subst he
    exact ⟨_, rfl, _, _, _, [], p1, [], hW', trodAll_mk1 (shut_bool Tryd.underlying4 true), trodAll_mk2 (shut_string Tryd.underlying9 wx0) (Below.trod laidOut (by kernel_rfl) (of_decide_eq_true (by kernel_rfl)) h1k hb hlt), rfl, hb.frame _, fun h => by cases h⟩
  rcases open_strings Tryd.underlying22 Tryd.underlying9 cells9 hf with ⟨hcs, hx⟩ | ⟨a, len', cap', ss, hcs, _, hl, hm, hz, hx, hcell, hws⟩
  · obtain ⟨e1, e2⟩ := words_nil (W := W) (show Value.slice a0 len cap = .slice none 0 0 by simpa [Value.cells] using hcs)
    exact fin ⟨[], by simp, e1, e2⟩
  · have hd : d1 = .slice (strs (ss.take len')) (strs (ss.drop len')) := by
      simp only [Prod.mk.injEq] at hx; exact hx.1
    have hzz : ss.length = cap' := by simpa using hz
    obtain ⟨e1, e2⟩ := words_some (W := W) (show Value.slice a0 len cap = .slice (some a) len' cap' by simpa [Value.cells] using hcs) hl hzz hcell
    refine fin ⟨ss.take len', ?_, e1, e2⟩
    rw [hd] at hb
    simp only [Rows.uptoBulk] at hb
    rw [bulk_strs, bulk_strs] at hb
    omega

theorem reads (os : Os) {H : Type} (enc : TypeId × Value → H) : ∃ places, DataW.whole enc Tryd.prog ((withTables (World.holding Tryd.prog os ⟨#[], #[], []⟩)).forCall (fun _ _ => 0) ⟨#[], #[.string ⟨#[]⟩, .slice none 0 0], []⟩).memory Tryd.f5.params.toList Rows.wordFieldsSpec.vars false #[Value.string ⟨#[]⟩, Value.slice none 0 0].toList 8 = some ([.lit (.string []), .nil], [], places) :=
  ⟨[], by kernel_rfl⟩

set_option maxRecDepth 100000 in
theorem lifted (os : Os) (started : os.Started) (H : Type) (enc : TypeId × Value → H) (F : Stop.Interp) :
    ReturnsInHanded {} Tryd.checked os 5 .any ((Rows.OpenSpec.upto Rows.wordFieldsSpec).preRow enc Tryd.prog Tryd.f5 Rows.wordFieldsUptoRow.domain false Rows.wordFieldsUptoRow.laid) (((Rows.OpenSpec.upto Rows.wordFieldsSpec).at F).post enc Tryd.prog Tryd.f5 false true false false) := by
  obtain ⟨places, hx⟩ := reads os enc
  refine returnsInHanded_of_row (C := Tryd.checked) (s := Rows.OpenSpec.upto Rows.wordFieldsSpec) own started (by kernel_rfl) Tryd.func5
    (witness_row_at (enc := enc) (C := Tryd.checked) false (withTables (World.holding Tryd.prog os ⟨#[], #[], []⟩)) #[.string ⟨#[]⟩, .slice none 0 0] rfl (by kernel_rfl) (by kernel_rfl) (by kernel_rfl)
      (OpenSpec.preRow_of_cond 8 hx (by kernel_rfl) (fun k hk => by cases hk; kernel_rfl) (by kernel_rfl) (laid_met os _))) ?_
  intro W base args ds gs before hval hW _ hcond _ _ hsh _
  exact contract H enc W base args ds gs before hval hW (hcond _ rfl) (mx_of hsh)

theorem said : Rows.WordFieldsUptoSaid :=
  OpenClaim.holds_of_cond 5 Tryd.f5 rfl rfl rfl rfl rfl rfl rfl ⟨rfl, rfl, rfl, rfl, rfl⟩ rfl rfl rfl rfl rfl (by kernel_rfl) Tryd.func5 (by kernel_rfl)
    (of_decide_eq_true (by kernel_rfl)) (by unfold Func.isWrapper; first | (rw [if_pos (by decide +kernel)]; kernel_rfl) | (rw [if_neg (by decide +kernel)]; exact ⟨rfl, rfl⟩))
    (fun os started H enc _ F => by rw [OpenClaim.pre_eq_preRow]; exact lifted os started H enc F)

theorem plain (f : FuncId) (fn : Func) (hf : Tryd.pinned.checked.prog.funcNamed "bobstay/bobstaylaw04.WordFields" = some f) (hfn : Tryd.pinned.checked.prog.funcs[f]? = some fn) :
    false = Tryd.pinned.checked.prog.looks [] ∧ ∀ (j : Nat) t, fn.params[j]? = some t → Tryd.pinned.checked.prog.wantsStandIn t = false := by
  obtain rfl : f = 5 := Option.some.inj ((show Tryd.prog.funcNamed "bobstay/bobstaylaw04.WordFields" = some 5 by kernel_rfl).symm.trans hf) |>.symm
  obtain rfl : fn = Tryd.f5 := (Option.some.inj (Tryd.func5.symm.trans hfn)).symm
  refine ⟨by kernel_rfl, fun j t ht => ?_⟩
  rw [Tryd.params5] at ht
  have hm := Array.mem_of_getElem? ht
  simp at hm
  rcases hm with rfl | rfl
  · exact (show Tryd.prog.wantsStandIn 9 = false by kernel_rfl)
  · exact (show Tryd.prog.wantsStandIn 22 = false by kernel_rfl)

theorem card : Rows.WordFieldsUptoCardSaid :=
  Claim7.holds_tied_plain_at .later [] _ _ _ _ said (fun _ h => by cases h) (by kernel_rfl) (fun _ h => by cases h) wordFieldsUpto_row_tie rfl ⟨rfl, rfl⟩ (by kernel_rfl) rfl plain (by kernel_rfl)
end Go.Proofs.YtanboocibmjomaaDoor.Fie
namespace Go.Proofs.YtanboocibmjomaaDoor
theorem wordFieldsUpto_card : Rows.WordFieldsUptoCardSaid := Fie.card
end Go.Proofs.YtanboocibmjomaaDoor
