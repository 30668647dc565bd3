/-
  LineBoth: what stands in memory behind a Read, said in three ways; parts of a list; numbers' bounds.
-/
import Derived.Test.YtefhpoklehmlhaaDoorL8
import Derived.Test.YtefhpoklehmlhaaDoorL10
namespace Go.Proofs.YtefhpoklehmlhaaDoor
open Go.RowKit Go.Shelf

theorem read_bad (s : ByteArray) (w : World) (hs : s.size ≤ 9223372036854775807) (hm : Mx w) (h : (Ln.readL (bl s)).why ≠ 0) :
    Calls Tryd.prog 9 #[.string s] w fun e w' => ∃ a c, e = .returned (.tuple #[.slice a 0 c, .agg #[.int .i64 ((Ln.readL (bl s)).why : Nat), .int .i64 ((Ln.readL (bl s)).at_ : Nat)]]) ∧ Below w.heap.size w w' :=
  (read_split s w hs hm).mono fun e w' hp => by
    obtain ⟨hb, ⟨_, a, c, h1⟩ | ⟨h0, _⟩⟩ := hp
    · exact ⟨a, c, h1, hb⟩
    · exact absurd h0 h
theorem read_good (s : ByteArray) (w : World) (hs : s.size ≤ 9223372036854775807) (hm : Mx w) (h : (Ln.readL (bl s)).why = 0) :
    Calls Tryd.prog 9 #[.string s] w fun e w' => ∃ a c, e = .returned (.tuple #[.slice a (Ln.readL (bl s)).lines.length c, .agg #[.int .i64 0, .int .i64 0]]) ∧ LZ w'.heap.size w' (.slice a (Ln.readL (bl s)).lines.length c) ((Ln.readL (bl s)).lines.map lz) ∧ (Ln.readL (bl s)).lines.length ≤ c ∧ Below w.heap.size w w' :=
  (read_split s w hs hm).mono fun e w' hp => by
    obtain ⟨hb, ⟨h0, _⟩ | ⟨_, a, c, h1, h2, h3, _⟩⟩ := hp
    · exact absurd h h0
    · exact ⟨a, c, h1, h2, h3, hb⟩
theorem read_some (s : ByteArray) (w : World) (hs : s.size ≤ 9223372036854775807) (hm : Mx w) :
    Calls Tryd.prog 9 #[.string s] w fun e w' => ∃ a m c y n, e = .returned (.tuple #[.slice a m c, .agg #[.int .i64 y, .int .i64 n]]) ∧ Below w.heap.size w w' :=
  (read_split s w hs hm).mono fun e w' hp => by
    obtain ⟨hb, ⟨_, a, c, h1⟩ | ⟨_, a, c, h1, _⟩⟩ := hp
    · exact ⟨_, _, _, _, _, h1, hb⟩
    · exact ⟨_, _, _, _, _, h1, hb⟩
theorem lines_at (R : List (List UInt8)) : ∀ (k : Nat) (g : List (List UInt8)) (x : Ln.Ln), x ∈ Ln.linesA k g R → x.at_ ≤ k + g.length + R.length := by
  induction R with
  | nil => intro k g x h; cases h
  | cons r R ih =>
    intro k g x h
    unfold Ln.linesA at h
    split at h
    · have := ih _ _ x h
      simp at this ⊢; omega
    · rcases List.mem_append.1 h with h | h
      · have := (Ln.mem_emit h).1
        simp; omega
      · have := ih _ _ x h
        simp at this ⊢; omega
theorem read_at {s : ByteArray} (h : (Ln.readL (bl s)).why = 0) {i : Nat} {x : Ln.Ln} (hx : (Ln.readL (bl s)).lines[i]? = some x) : x.at_ ≤ 70000 := by
  obtain ⟨h1, _, _, h4⟩ := Ln.readL_fine h
  rw [h4] at hx
  have := lines_at _ _ _ x (List.mem_of_getElem? hx)
  have h5 := (Ln.raws_len (bl s)).2
  simp at this; omega
theorem LZ.pre {B : Nat} {W : World} {a : Option Addr} {n c : Nat} {l : List Lz} (h : LZ B W (.slice a n c) l) {m : Nat} (hm : m ≤ n) : LZ B W (.slice a m c) (l.take m) := by
  obtain ⟨a', n', c', h1, h2, h4, h3⟩ := h
  simp only [Value.slice.injEq] at h1
  obtain ⟨rfl, rfl, rfl⟩ := h1
  refine ⟨_, _, _, rfl, by simp; omega, by omega, fun i x hi => ?_⟩
  have him : i < m := by have := (List.getElem?_eq_some_iff.1 hi).1; simp at this; omega
  rw [List.getElem?_take_of_lt him] at hi
  exact h3 i x hi
theorem count_take (s : ByteArray) (k : Nat) (h : k < s.size) : ((bl s).take (k + 1)).count 10 = ((bl s).take k).count 10 + if s[k] = 10 then 1 else 0 := by
  rw [take_snoc s k h, List.count_append]
  by_cases hc : s[k] = 10
  · simp [hc]
  · simp [hc]
end Go.Proofs.YtefhpoklehmlhaaDoor
