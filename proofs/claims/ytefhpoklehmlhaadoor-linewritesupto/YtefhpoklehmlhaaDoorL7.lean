/-
  LineRise: numbers rise, no line is empty, and none that is no command ends with a blank.
-/
import Derived.Test.YtefhpoklehmlhaaDoorL6
import Derived.Test.YtefhpoklehmlhaaDoorLMath2
namespace Go.Proofs.YtefhpoklehmlhaaDoor
open Go.RowKit Go.Shelf

set_option maxRecDepth 20000 in
theorem neqFa (x y : Int) (w : World) : Sem.run Tryd.prog (binOp .neq 25 (.agg #[.int .i64 x, .int .i64 y]) (.agg #[.int .i64 0, .int .i64 0])) w = .ok (.bool (!(x == 0 && y == 0))) w := by
  rw [run_neq_struct, run_equalIn_agg w 9999 25 _ _ (by kernel_rfl) (by kernel_rfl)]
  simp only [Program.fieldsOf, Tryd.underlying25]
  have p1 : ∀ (x y : Int) (w : World), (part 23 #[.int .i64 x, .int .i64 y] 0).run Tryd.prog w = .ok (.int .i64 x) w := fun x y w => by kernel_rfl
  have p3 : ∀ (x y : Int) (w : World), (part 3 #[.int .i64 x, .int .i64 y] 1).run Tryd.prog w = .ok (.int .i64 y) w := fun x y w => by kernel_rfl
  have q1 := run_equalIn_int (P := Tryd.prog) w 9998 23 .i64 .i64 x 0 Tryd.underlying23
  have q3 := run_equalIn_int (P := Tryd.prog) w 9998 3 .i64 .i64 y 0 Tryd.underlying3
  generalize (x == 0) = u at q1 ⊢
  generalize (y == 0) = v at q3 ⊢
  simp only [Op.eqFields, Sem.run_bind, Sem.run_ite, p1, p3, Result.andThen_ok, q1, q3]
  cases u <;> cases v <;> simp
theorem neqFyes {y n : Nat} (h : y ≠ 0) (w : World) : Sem.run Tryd.prog (binOp .neq 25 (.agg #[.int .i64 (y : Int), .int .i64 (n : Int)]) (.agg #[.int .i64 0, .int .i64 0])) w = .ok (.bool true) w := by
  rw [neqFa]
  have : ((y : Int) == 0) = false := by simpa using h
  rw [this]; rfl
theorem neqFno (w : World) : Sem.run Tryd.prog (binOp .neq 25 (.agg #[.int .i64 0, .int .i64 0]) (.agg #[.int .i64 0, .int .i64 0])) w = .ok (.bool false) w := by
  rw [neqFa]; rfl

/-- What stands in memory behind a Read: no fault, or one. -/
def SplitPost (rd : Ln.Rd) (w : World) (e : Ending) (w' : World) : Prop := Below w.heap.size w w' ∧
  ((rd.why ≠ 0 ∧ ∃ a c, e = .returned (.tuple #[.slice a 0 c, .agg #[.int .i64 (rd.why : Nat), .int .i64 (rd.at_ : Nat)]])) ∨
   (rd.why = 0 ∧ ∃ a c, e = .returned (.tuple #[.slice a rd.lines.length c, .agg #[.int .i64 0, .int .i64 0]]) ∧ LZ w'.heap.size w' (.slice a rd.lines.length c) (rd.lines.map lz) ∧ rd.lines.length ≤ c ∧ rd.lines.length ≤ 4096))
theorem read_split (s : ByteArray) (w : World) (hs : s.size ≤ 9223372036854775807) (hm : Mx w) :
    Calls Tryd.prog 9 #[.string s] w (SplitPost (Ln.readL (bl s)) w) :=
  (read_any s w hs hm).mono fun e w' ⟨v, h1, h2, h3⟩ => by
    refine ⟨h3, ?_⟩
    by_cases hw : (Ln.readL (bl s)).why = 0
    · obtain ⟨_, _, h6, h7⟩ := Ln.readL_fine hw
      right
      refine ⟨hw, ?_⟩
      have hz : LZ w'.heap.size w' v ((Ln.readL (bl s)).lines.map lz) := by
        rw [lnsV_lz] at h2
        exact lz_of_owns (l := (Ln.readL (bl s)).lines.map lz) (by rw [List.length_map]; exact h2) (Nat.le_refl _)
      obtain ⟨a, c, rfl, hc⟩ := hz.slice
      rw [List.length_map] at h1 hz hc
      refine ⟨a, c, ?_, hz, hc, by rw [h7]; exact h6⟩
      rw [h1, hw]
      have : (Ln.readL (bl s)).at_ = 0 := by rw [h7]
      rw [this]; rfl
    · left
      refine ⟨hw, ?_⟩
      have hl := Ln.readL_fault hw
      rw [hl] at h2
      rcases h2.2 with ⟨rfl, _⟩ | ⟨g, cap, cur, rfl, hg, _⟩
      · exact ⟨_, _, h1⟩
      · exact ⟨_, _, h1⟩
end Go.Proofs.YtefhpoklehmlhaaDoor
