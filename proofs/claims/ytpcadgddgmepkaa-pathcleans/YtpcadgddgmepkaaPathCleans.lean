/-
  PathCleans is true at every path and every list of paths, however long, and leaves them as they were: the program's clean path, its parts, and the joined paths are those of the document's own functions. No condition; of the pruned copy of the project.
-/
import Derived.Test.YtpcadgddgmepkaaRows
import Derived.WalkKit
import Derived.ProofKit
import Derived.OpenShut
import Derived.SizedLaws
import Derived.SliceStrings
import Derived.Test.YtpcadgddgmepkaaRefC
namespace Go.Proofs.Ytpcadgddgmepkaa.Cleans
open Go.ChangeShapes Go.WideShapes Go.ChangeAt Go.RowKit
open Go.WideMaps Go.WideElems
open Go.ChangeMaps (open_string shut_string)

theorem own : ownKnob Try.prog.godebug = none := by kernel_rfl
theorem laidOut : laidOutB Try.prog = true := by kernel_rfl
theorem cells9 : Try.prog.cellsOf 9 = 1 := by kernel_rfl
theorem bytes9 : Try.prog.bytesOf 9 = 16 := by kernel_rfl
theorem strs_len {H : Type} (l : List ByteArray) : (strs (H := H) l).length = l.length := by simp [strs]
set_option maxRecDepth 100000 in
theorem lifted (os : Os) (started : os.Started) (H : Type) (enc : TypeId × Value → H) :
    ReturnsInHanded {} Try.checked os 3 .any (Rows.pathCleansSpec.pre6 enc Try.prog Try.f3 Rows.pathCleansRow.domain false) (Rows.pathCleansSpec.post enc Try.prog Try.f3 false true false false) := by
  refine returnsInHanded_of_change_sized (C := Try.checked) own started (by kernel_rfl) Try.func3
    (ChangeSpec.witness6 (enc := enc) (C := Try.checked) false ⟨#[], #[.string ⟨#[]⟩, .slice none 0 0], []⟩ 8 (by kernel_rfl) (by kernel_rfl) (by kernel_rfl) (by kernel_rfl)) ?_
  intro W base args ds gs before hval0 hW _ hsz0 _
  have hsz : (DataW.weightsEach Try.prog (Try.f3.params.toList ++ Rows.pathCleansSpec.plain.varTypes Try.prog) (ds ++ gs)).all (· ≤ reachBytes) = true := hsz0
  clear hsz0
  have hval : ∀ (j : Nat) t v, Try.f3.params[j]? = some t → args[j]? = some v → Value.okWide Try.prog W .any base t v := hval0
  have hW' := hW
  obtain ⟨p, q, hA0, hV, rfl, _, _⟩ := hW
  have hA : DataW.TrodAll enc Try.prog W 0 (fun _ => true) true Try.f3.params.toList args.toList ds p := hA0
  rw [Try.params3] at hA hval hsz
  obtain ⟨v0, v1, d0, d1, p0, p1, rfl, rfl, rfl, h0, h1⟩ := trodAll_two hA
  obtain ⟨rfl, rfl⟩ := trodVars_none hV
  obtain ⟨x0, rfl, rfl, rfl, wx0⟩ := open_string Try.underlying9 (hval 0 9 v0 rfl rfl) h0
  have h1k := h1
  have hlt : ∀ x ∈ p1, x.block < W.heap.size := fun x hx => hW'.lt x (by simp [hx])
  obtain ⟨a0, len, cap, rfl⟩ := okWide_slice Try.underlying22 (hval 1 22 v1 rfl rfl)
  obtain ⟨fuel, hf⟩ := h1
  clear hA0
  have fin : (∃ l : List ByteArray, len ≤ 140737488355328 ∧ Words W.heap.size W (.slice a0 len cap) l) → Calls Try.prog 3 #[.string x0, .slice a0 len cap] W fun e W' => ∃ v, e = .returned v ∧ Rows.pathCleansSpec.post enc Try.prog Try.f3 false true false false W #[.string x0, .slice a0 len cap] v W' := by
    rintro ⟨l, hn, hw⟩
    refine (cleans_law x0 a0 len cap l W hn hw).mono fun e W' ⟨he, hb⟩ => ?_
    subst he
    exact ⟨_, rfl, _, _, _, [], p1, [], hW', trodAll_mk1 (shut_bool Try.underlying4 true), trodAll_mk2 (shut_string Try.underlying9 wx0) (Below.trod laidOut (by kernel_rfl) (of_decide_eq_true (by kernel_rfl)) h1k hb hlt), rfl, hb.frame _, fun h => by cases h⟩
  rcases open_strings Try.underlying22 Try.underlying9 cells9 hf with ⟨hcs, hx⟩ | ⟨a, len', cap', ss, hcs, _, hl, hm, hz, hx, hcell, hws⟩
  · obtain ⟨e1, e2⟩ := words_nil (W := W) (show Value.slice a0 len cap = .slice none 0 0 by simpa [Value.cells] using hcs)
    exact fin ⟨[], by rw [e1]; exact Nat.zero_le _, e2⟩
  · have hd : d1 = .slice (strs (ss.take len')) (strs (ss.drop len')) := by
      simp only [Prod.mk.injEq] at hx; exact hx.1
    have hs := sized_slice hsz (j := 1) (t := 22) (e := 9) (elems := strs (ss.take len')) (spare := strs (ss.drop len')) rfl (by rw [hd]; rfl) Try.underlying22
    rw [strs_len, strs_len, bytes9, List.length_take, List.length_drop] at hs
    have hr := reachBytes_lt
    have hzz : ss.length = cap' := by simpa using hz
    obtain ⟨e1, e2⟩ := words_some (W := W) (show Value.slice a0 len cap = .slice (some a) len' cap' by simpa [Value.cells] using hcs) hl hzz hcell
    refine fin ⟨ss.take len', ?_, e2⟩
    rw [e1, List.length_take]; omega

theorem said : Rows.PathCleansSaid :=
  OpenClaim.holds_of_wide 3 Try.f3 rfl rfl rfl rfl rfl rfl rfl ⟨rfl, rfl, rfl, rfl, rfl⟩ rfl rfl rfl rfl rfl (by kernel_rfl) Try.func3 (by kernel_rfl)
    (of_decide_eq_true (by kernel_rfl)) (by unfold Func.isWrapper; first | (rw [if_pos (by decide +kernel)]; kernel_rfl) | (rw [if_neg (by decide +kernel)]; exact ⟨rfl, rfl⟩))
    (fun os started H enc _ => lifted os started H enc)
end Go.Proofs.Ytpcadgddgmepkaa.Cleans
namespace Go.Proofs.Ytpcadgddgmepkaa
theorem pathCleans_said : Rows.PathCleansSaid := Cleans.said
end Go.Proofs.Ytpcadgddgmepkaa
