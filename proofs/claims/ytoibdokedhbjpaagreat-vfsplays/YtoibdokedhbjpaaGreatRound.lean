/-
  One round of a script.
-/
import Derived.Test.YtoibdokedhbjpaaGreatTwo
namespace Go.Proofs.YtoibdokedhbjpaaGreat
open Go.RowKit Go.Shelf Go.Maps

/-- What a script's calls may be. -/
def Fine (l : List Act) : Prop := ∀ x ∈ l, x.Ok ∧ x.t.size ≤ 140737488355328

/-- One round of a script: the next call, and what it leaves. -/
theorem round_any {base b m : Nat} {v : Value} {s0 : St} {l : List Act} (hl : longL l = false) (hf : Fine l) (h0 : s0.now ≤ 1000000000000000000) (k : Nat) (hk : k < l.length) (w : World) (h : Store base b m v (s0.run (l.take k)) w) :
    Calls Tryz.prog 11 #[ptr b, .agg #[.int .u8 l[k].kind, .string l[k].p, .string l[k].q, .string l[k].t, .int .i64 l[k].n]] w fun e w' => (∃ r, e = .returned (.int .i64 r)) ∧ ∃ v', Store base b m v' (s0.run (l.take (k + 1))) w' ∧ Turn b m v v' w w' := by
  obtain ⟨h6, hs⟩ := longL_no hl
  have hx := hs l[k] (List.getElem_mem hk)
  have hn := run_now s0 (l.take k)
  have hlen : (l.take k).length ≤ 600 := by rw [List.length_take]; omega
  refine (does_any l[k] w h (hf _ (List.getElem_mem hk)).1 (by omega) (by omega) (hf _ (List.getElem_mem hk)).2 (by omega)).mono ?_
  rintro e w' ⟨rfl, v', hst, ht⟩
  rw [run_succ s0 l k hk]
  exact ⟨⟨_, rfl⟩, v', hst, ht⟩

end Go.Proofs.YtoibdokedhbjpaaGreat
