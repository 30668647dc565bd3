/-
  VfsReads is true at every room, every script and every call whose values and letters are together at most 2^20, and leaves them as they were: what is written is read, and no other file turns. Of the pruned copy of the project.
-/
import Derived.Test.YtoibdokedhbjpaaRows
import Derived.WalkKit
import Derived.ProofKit
import Derived.OpenShut
import Derived.SizedLaws
import Derived.Deep.Slices
import Derived.Deep.CondSized
import Derived.Test.YtoibdokedhbjpaaReads
import Derived.Test.YtoibdokedhbjpaaArgs
namespace Go.Proofs.Ytoibdokedhbjpaa.Rea
open Go.ChangeShapes Go.WideShapes Go.ChangeAt Go.RowKit
open Go.WideMaps Go.WideElems

theorem own : ownKnob Try.prog.godebug = none := by kernel_rfl
theorem laidOut : laidOutB Try.prog = true := by kernel_rfl
set_option maxRecDepth 20000 in
theorem act_dat {H : Type} {enc : TypeId × Value → H} {W : World} {base base' : Nat} {sp : Nat → Bool} {held : Bool} {v : Value} {d : DataW H} {ps : List MemPlace} (hval : Value.okWide Try.prog W .any base 24 v) (h : DataW.Trod enc Try.prog W base' sp held 24 v d ps) (hs : ∀ x ∈ DataW.weights Try.prog 24 d, x ≤ reachBytes) :
    ∃ a : Act, v = .agg #[.int .u8 a.kind, .string a.p, .string a.q, .string a.t, .int .i64 a.n] ∧ d = a.dat ∧ a.t.size ≤ 140737488355328 := by
  obtain ⟨cs, rfl, _, _⟩ : ∃ cs, v = .agg cs ∧ cs.size = Try.prog.cellsOf 24 ∧ Row.okWide Try.prog W .any base 24 cs := by
    unfold Value.okWide at hval
    rw [Try.underlying24] at hval
    exact hval
  obtain ⟨fuel, hf⟩ := h
  obtain ⟨a, ha, hd, hok⟩ := act_of hf
  have hd' : d = a.dat := hd
  rw [hd', weights_act] at hs
  have hr := reachBytes_lt
  have s3 := hs (bl a.t).length (by simp)
  rw [bl_length] at s3
  refine ⟨a, ?_, hd', by omega⟩
  have h1 : cs.toList = a.cells := by simpa [Value.cells] using ha
  rw [← Array.toArray_toList (xs := cs), h1]; rfl

set_option maxRecDepth 100000 in
theorem lifted (os : Os) (started : os.Started) (H : Type) (enc : TypeId × Value → H) (F : Stop.Interp) :
    ReturnsInHanded {} Try.checked os 3 .any ((Rows.OpenSpec.upto Rows.vfsReadsSpec).pre6 enc Try.prog Try.f3 Rows.vfsReadsUptoRow.domain false) (((Rows.OpenSpec.upto Rows.vfsReadsSpec).at F).post enc Try.prog Try.f3 false true false false) := by
  refine returnsInHanded_of_cond_sized (C := Try.checked) (s := Rows.OpenSpec.upto Rows.vfsReadsSpec) (k := Rows.uptoSmall) rfl own started (by kernel_rfl) Try.func3
    (OpenSpec.witness (enc := enc) (C := Try.checked) (s := Rows.OpenSpec.upto Rows.vfsReadsSpec) (k := Rows.uptoSmall) rfl false ⟨#[], #[.int .i64 0, .slice none 0 0, .agg #[.int .u8 0, .string ⟨#[]⟩, .string ⟨#[]⟩, .string ⟨#[]⟩, .int .i64 0]], []⟩ 8 (by kernel_rfl) (by kernel_rfl) (by kernel_rfl)
      (x := ([.lit (.int .i64 0), .nil, .agg [.lit (.int .u8 0), .lit (.string []), .lit (.string []), .lit (.string []), .lit (.int .i64 0)]], [], [])) (by kernel_rfl) rfl (by kernel_rfl)) ?_
  intro W base args ds gs before hval0 hW _ hk hsz0 _
  have hsz : (DataW.weightsEach Try.prog (Try.f3.params.toList ++ (Rows.OpenSpec.upto Rows.vfsReadsSpec).bare.plain.varTypes Try.prog) (ds ++ gs)).all (· ≤ reachBytes) = true := hsz0
  clear hsz0
  have hval : ∀ (j : Nat) t v, Try.f3.params[j]? = some t → args[j]? = some v → Value.okWide Try.prog W .any base t v := hval0
  have hW' := hW
  obtain ⟨p, q, hA0, hV, rfl, _, _⟩ := hW
  have hA : DataW.TrodAll enc Try.prog W 0 (fun _ => true) true Try.f3.params.toList args.toList ds p := hA0
  rw [Try.params3] at hA hval hsz
  obtain ⟨v0, v1, v2, d0, d1, d2, p0, p1, p2, rfl, rfl, rfl, h0, h1, h2⟩ := trodAll_three hA
  obtain ⟨rfl, rfl⟩ := trodVars_none hV
  have hlt : ∀ x ∈ p0 ++ p1 ++ p2, x.block < W.heap.size := fun x hx => hW'.lt x (by simpa using hx)
  obtain ⟨room, rfl, rfl, rfl, _⟩ := open_int Try.underlying3 (hval 0 3 v0 rfl rfl) h0
  have h1k := h1
  have h2k := h2
  obtain ⟨l, a, n, c, rfl, hn, hacts, hfine⟩ := script_of (hval 1 22 v1 rfl rfl) h1 (fun x hx => sized_in hsz (j := 1) rfl rfl x hx)
  obtain ⟨k, rfl, hd2, hs⟩ := act_dat (hval 2 24 v2 rfl rfl) h2 (fun x hx => sized_in hsz (j := 2) rfl rfl x hx)
  have hps : k.p.size ≤ 1048577 := by
    have hb := of_decide_eq_true hk
    rw [hd2] at hb
    simp only [Rows.uptoBulkAll, Rows.uptoBulk, Act.dat, List.append_nil] at hb
    rw [bl_length] at hb
    omega
  clear hA0 hval0
  simp only [List.append_nil] at hW'
  refine (reads_law room a n c l k.kind k.p k.q k.t k.n W hn hacts hfine hps hs).mono fun e W' ⟨he, hb⟩ => ?_
  subst he
  exact ⟨_, rfl, _, _, _, [], [] ++ (p1 ++ p2), [], hW', trodAll_mk1 (shut_bool Try.underlying4 true), trodAll_mk3 (shut_int Try.underlying3 (by assumption)) (Below.trod laidOut (by kernel_rfl) (of_decide_eq_true (by kernel_rfl)) h1k hb (fun x hx => hlt x (by simp [hx]))) (Below.trod laidOut (by kernel_rfl) (of_decide_eq_true (by kernel_rfl)) h2k hb (fun x hx => hlt x (by simp [hx]))), rfl, hb.frame _, fun h => by cases h⟩

theorem said : Rows.VfsReadsUptoSaid :=
  OpenClaim.holds_of_cond 3 Try.f3 rfl rfl rfl rfl rfl rfl rfl ⟨rfl, rfl, rfl, rfl, rfl⟩ rfl rfl rfl rfl rfl (by kernel_rfl) Try.func3 (by kernel_rfl)
    (of_decide_eq_true (by kernel_rfl)) (by unfold Func.isWrapper; first | (rw [if_pos (by decide +kernel)]; kernel_rfl) | (rw [if_neg (by decide +kernel)]; exact ⟨rfl, rfl⟩))
    (fun os started H enc _ F => lifted os started H enc F)
end Go.Proofs.Ytoibdokedhbjpaa.Rea
namespace Go.Proofs.Ytoibdokedhbjpaa
theorem vfsReads_upto : Rows.VfsReadsUptoSaid := Rea.said
end Go.Proofs.Ytoibdokedhbjpaa
