/-
  RxReplaces is true at every expression, text, and text that is put in place of matches (of the first one, or of all), and leaves them as they were: what is replaced, and what is quoted, is the document's. No condition; of the pruned copy of the project.
-/
import Derived.Test.YtmmhajlfbjjocaaGreatRows
import Derived.WalkKit
import Derived.ProofKit
import Derived.OpenShut
import Derived.SizedLaws
import Derived.Lib.SmallJoins
import Derived.Test.YtmmhajlfbjjocaaGreatSG
namespace Go.Proofs.YtmmhajlfbjjocaaGreat.Rpl
open Go.ChangeShapes Go.WideShapes Go.ChangeAt Go.RowKit
open Go.WideMaps Go.WideElems Go.Joins
open Go.ChangeMaps (open_string shut_string)

theorem own : ownKnob Tryz.prog.godebug = none := by kernel_rfl
theorem cellsT : Tryz.prog.cellsOf 23 = 3 := by kernel_rfl
set_option maxRecDepth 100000 in
theorem lifted (os : Os) (started : os.Started) (H : Type) (enc : TypeId × Value → H) :
    ReturnsInHanded {} Tryz.checked os 3 .any (Rows.rxReplacesSpec.pre6 enc Tryz.prog Tryz.f3 Rows.rxReplacesRow.domain false) (Rows.rxReplacesSpec.post enc Tryz.prog Tryz.f3 false true false false) := by
  refine returnsInHanded_of_change_sized (C := Tryz.checked) own started (by kernel_rfl) Tryz.func3
    (ChangeSpec.witness6 (enc := enc) (C := Tryz.checked) false ⟨#[], #[.string ⟨#[]⟩, .agg #[.string ⟨#[]⟩, .string ⟨#[]⟩, .bool false]], []⟩ 8 (by kernel_rfl) (by kernel_rfl) (by kernel_rfl) (by kernel_rfl)) ?_
  intro W base args ds gs before hval0 hW _ hsz0 _
  clear hsz0
  have hval : ∀ (j : Nat) t v, Tryz.f3.params[j]? = some t → args[j]? = some v → Value.okWide Tryz.prog W .any base t v := hval0
  have hW' := hW
  obtain ⟨p, q, hA0, hV, rfl, _, _⟩ := hW
  have hA : DataW.TrodAll enc Tryz.prog W 0 (fun _ => true) true Tryz.f3.params.toList args.toList ds p := hA0
  rw [Tryz.params3] at hA hval
  obtain ⟨v0, v1, d0, d1, p0, p1, rfl, rfl, rfl, h0, h1⟩ := trodAll_two hA
  obtain ⟨rfl, rfl⟩ := trodVars_none hV
  obtain ⟨x0, rfl, rfl, rfl, wx0⟩ := open_string Tryz.underlying9 (hval 0 9 v0 rfl rfl) h0
  obtain ⟨c0, c1, c2, y0, y1, y2, m, rfl, rfl, rfl, hy0, hy1, hy2⟩ := open_agg3 Tryz.underlying23 (by kernel_rfl) cellsT (hval 1 23 v1 rfl rfl) h1
  obtain ⟨s, e0, rfl, ws⟩ := DataW.trod_string Tryz.underlying9 hy0
  obtain ⟨y, e1, rfl, wy⟩ := DataW.trod_string Tryz.underlying9 hy1
  obtain ⟨al, e2, rfl⟩ := DataW.trod_bool Tryz.underlying4 hy2
  simp at e0 e1 e2
  subst e0 e1 e2
  clear hA0 hval0
  simp only [List.append_nil] at hW'
  have z0 : x0.size ≤ 9223372036854775807 := wx0
  have z1 : s.size ≤ 9223372036854775807 := ws
  have z2 : y.size ≤ 9223372036854775807 := wy
  refine (replaces_law x0 s y al W z0 z1 z2).mono fun e W' ⟨he, hb⟩ => ?_
  subst he
  have st : DataW.Trod enc Tryz.prog W' 0 (fun b => decide (b < W.heap.size)) true 23 (.agg #[.string s, .string y, .bool al]) (.agg [.lit (.string s.data.toList), .lit (.string y.data.toList), .lit (.bool al)]) [] :=
    shut_agg3 (y0 := (.lit (.string s.data.toList), [])) (y1 := (.lit (.string y.data.toList), [])) (y2 := (.lit (.bool al), [])) Tryz.underlying23 (by kernel_rfl) cellsT ⟨1, by simp [DataW.trod, Tryz.underlying9, ws]⟩ ⟨1, by simp [DataW.trod, Tryz.underlying9, wy]⟩ ⟨1, by simp [DataW.trod, Tryz.underlying4]⟩
  exact ⟨_, rfl, _, _, _, [], [], [], hW', trodAll_mk1 (shut_bool Tryz.underlying4 true), trodAll_mk2 (shut_string Tryz.underlying9 wx0) st, rfl, hb.frame _, fun h => by cases h⟩

theorem said : Rows.RxReplacesSaid :=
  OpenClaim.holds_of_wide 3 Tryz.f3 rfl rfl rfl rfl rfl rfl rfl ⟨rfl, rfl, rfl, rfl, rfl⟩ rfl rfl rfl rfl rfl (by kernel_rfl) Tryz.func3 (by kernel_rfl)
    (of_decide_eq_true (by kernel_rfl)) (by unfold Func.isWrapper; first | (rw [if_pos (by decide +kernel)]; kernel_rfl) | (rw [if_neg (by decide +kernel)]; exact ⟨rfl, rfl⟩))
    (fun os started H enc _ => lifted os started H enc)
end Go.Proofs.YtmmhajlfbjjocaaGreat.Rpl
namespace Go.Proofs.YtmmhajlfbjjocaaGreat
theorem rxReplaces_said : Rows.RxReplacesSaid := Rpl.said
end Go.Proofs.YtmmhajlfbjjocaaGreat
