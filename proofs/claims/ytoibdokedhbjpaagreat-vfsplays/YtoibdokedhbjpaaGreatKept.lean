/-
  Lists of texts in memory, and the parts that are kept of a path's pieces.
-/
import Derived.Test.YtoibdokedhbjpaaGreatIter
import Derived.Maps.AppendAt
import Derived.Deep.OwnRows
import Derived.Lib.OthersKept
namespace Go.Proofs.YtoibdokedhbjpaaGreat
open Go.RowKit Go.Shelf

theorem ret_bool {a b : Bool} (h : a = b) : Ending.returned (.bool a) = .returned (.bool b) := by rw [h]
theorem ret_str {a b : ByteArray} (h : a = b) : Ending.returned (.string a) = .returned (.string b) := by rw [h]

abbrev E : ByteArray := ⟨#[]⟩
abbrev dotB : ByteArray := ⟨#[46]⟩
abbrev ddB : ByteArray := ⟨#[46, 46]⟩
theorem bl_E {x : ByteArray} : bl x = [] ↔ x = E := ⟨fun h => bl_inj h, fun h => by rw [h]; rfl⟩
theorem bl_dot {x : ByteArray} : bl x = [46] ↔ x = dotB := ⟨fun h => bl_inj h, fun h => by rw [h]; rfl⟩
theorem bl_dd {x : ByteArray} : bl x = G.dd ↔ x = ddB := ⟨fun h => bl_inj h, fun h => by rw [h]; rfl⟩
theorem ba_inj {x y : List UInt8} (h : ba x = ba y) : x = y := by rw [← bl_ba x, ← bl_ba y, h]
theorem ba_dd : ba G.dd = ddB := rfl

/-- The parts kept of the pieces that have come. -/
def kept (r : Bool) (pre : List ByteArray) : List ByteArray := (G.foldP r (pre.map bl)).map ba
theorem kept_nil (r : Bool) : kept r [] = [] := rfl
theorem kept_snoc (r : Bool) (pre : List ByteArray) (x : ByteArray) : kept r (pre ++ [x]) = (G.stepL r (G.foldP r (pre.map bl)) (bl x)).map ba := by
  unfold kept; rw [List.map_append, List.map_singleton, G.foldP_snoc]
theorem kept_skip (r : Bool) (pre : List ByteArray) {x : ByteArray} (h : x = E ∨ x = dotB) : kept r (pre ++ [x]) = kept r pre := by
  have hb : bl x = [] ∨ bl x = [46] := by
    rcases h with h | h
    · exact .inl (bl_E.2 h)
    · exact .inr (bl_dot.2 h)
  rw [kept_snoc]; unfold G.stepL; rw [if_pos hb]; rfl
theorem kept_push (r : Bool) (pre : List ByteArray) {x : ByteArray} (h1 : x ≠ E) (h2 : x ≠ dotB) (h3 : x ≠ ddB) : kept r (pre ++ [x]) = kept r pre ++ [x] := by
  rw [kept_snoc]; unfold G.stepL
  rw [if_neg (by rw [bl_E, bl_dot]; simp [h1, h2]), if_neg (by rw [bl_dd]; exact h3), List.map_append, List.map_singleton, ba_bl]; rfl
theorem last_map (l : List G.Bs) : (l.map ba).getLast? = some ddB ↔ l.getLast? = some G.dd := by
  rw [List.getLast?_map]
  constructor
  · intro h
    obtain ⟨a, h1, h2⟩ := Option.map_eq_some_iff.1 h
    rw [h1, ba_inj (h2.trans ba_dd.symm)]
  · intro h; rw [h]; rfl
theorem dd_step : ¬ (G.dd = [] ∨ G.dd = [46]) := by decide
theorem kept_pop (r : Bool) (pre : List ByteArray) (h1 : kept r pre ≠ []) (h2 : (kept r pre).getLast? ≠ some ddB) : kept r (pre ++ [ddB]) = (kept r pre).dropLast := by
  rw [kept_snoc]; unfold G.stepL
  rw [show bl ddB = G.dd from rfl, if_neg dd_step, if_pos rfl, if_pos, List.map_dropLast]; rfl
  refine ⟨fun e => h1 (by unfold kept; rw [e]; rfl), fun e => h2 ((last_map _).2 e)⟩
theorem kept_upr (pre : List ByteArray) (h : kept true pre = [] ∨ (kept true pre).getLast? = some ddB) : kept true (pre ++ [ddB]) = kept true pre := by
  rw [kept_snoc]; unfold G.stepL
  rw [show bl ddB = G.dd from rfl, if_neg dd_step, if_pos rfl, if_neg, if_pos rfl]; rfl
  rintro ⟨h1, h2⟩
  rcases h with h | h
  · exact h1 (by unfold kept at h; simpa using h)
  · exact h2 ((last_map _).1 h)
theorem kept_up (pre : List ByteArray) (h : kept false pre = [] ∨ (kept false pre).getLast? = some ddB) : kept false (pre ++ [ddB]) = kept false pre ++ [ddB] := by
  rw [kept_snoc]; unfold G.stepL
  rw [show bl ddB = G.dd from rfl, if_neg dd_step, if_pos rfl, if_neg, if_neg (by decide), List.map_append]; rfl
  rintro ⟨h1, h2⟩
  rcases h with h | h
  · exact h1 (by unfold kept at h; simpa using h)
  · exact h2 ((last_map _).1 h)
theorem kept_len (r : Bool) (pre : List ByteArray) : (kept r pre).length ≤ pre.length := by
  unfold kept; rw [List.length_map]
  have := G.foldP_length r (pre.map bl)
  simpa using this
/-- A path's parts, as texts. -/
def parts (p : ByteArray) : List ByteArray := (G.partsL (bl p)).map ba
theorem kept_parts (p : ByteArray) : kept (G.rootedL (bl p)) (pieces p) = parts p := by
  unfold kept parts pieces G.partsL
  rw [List.map_map]
  congr 2
  rw [show (bl ∘ ba) = id from funext bl_ba, List.map_id]
theorem pieces_len (p : ByteArray) : (pieces p).length ≤ p.size + 1 := by
  have := G.splitL_length (bl p)
  rw [bl_length] at this
  unfold pieces; simpa using this
theorem parts_len (p : ByteArray) : (parts p).length ≤ p.size + 1 := by
  have h1 := kept_len (G.rootedL (bl p)) (pieces p)
  rw [kept_parts] at h1
  have h2 := pieces_len p
  omega

/-! Rows. -/
theorem owns_slice {base : Nat} {e : TypeId} {W : World} {v : Value} {n : Nat} {xs : List Value} (h : W.ownsRow base e 1 v n xs) : ∃ a cap, v = .slice a n cap := by
  rcases h.2 with ⟨rfl, rfl⟩ | ⟨g, cap, cur, rfl, _⟩
  · exact ⟨_, _, rfl⟩
  · exact ⟨_, _, rfl⟩
theorem owns_at {base : Nat} {e : TypeId} {W : World} {v : Value} {xs : List ByteArray} (h : W.ownsRow base e 1 v xs.length (xs.map Value.string)) (hne : xs ≠ []) :
    ∃ g cap, v = .slice (some ⟨g, 0, none⟩) xs.length cap ∧ base ≤ g ∧ g < W.heap.size ∧ xs.length ≤ cap ∧ ∀ i (hi : i < xs.length), W.cell? ⟨g, i, none⟩ = some (.string xs[i]) := by
  obtain ⟨hxl, ⟨hv, hn⟩ | ⟨g, cap, cur, hv, hg, hcur, hcap, hcm, hcs, hct⟩⟩ := h
  · exact absurd (List.length_eq_zero_iff.1 hn) hne
  · refine ⟨g, cap, hv, hg, (Array.getElem?_eq_some_iff.1 hcur).1, hcap, fun i hi => ?_⟩
    have hjc : cur.toList[i]? = some (.string xs[i]) := by
      have h2 : (cur.toList.take (xs.length * 1))[i]? = (xs.map Value.string)[i]? := by rw [hct]
      rw [List.getElem?_take_of_lt (by omega)] at h2
      rw [h2]; simp [List.getElem?_eq_getElem hi]
    simp only [World.cell?, hcur]
    simpa using hjc
theorem owns_pop {base : Nat} {e : TypeId} {W : World} {g cap n m : Nat} {xs : List Value} (h : W.ownsRow base e 1 (.slice (some ⟨g, 0, none⟩) n cap) n xs) (hm : m ≤ n) : W.ownsRow base e 1 (.slice (some ⟨g, 0, none⟩) m cap) m (xs.take m) := by
  obtain ⟨hxl, ⟨hv, hn⟩ | ⟨g', cap', cur, hv, hg, hcur, hcap, hcm, hcs, hct⟩⟩ := h
  · cases hv
  · simp only [Value.slice.injEq, Option.some.injEq, Addr.mk.injEq, and_true, true_and] at hv
    obtain ⟨rfl, rfl⟩ := hv
    refine ⟨by simp; omega, .inr ⟨g, cap, cur, rfl, hg, hcur, by omega, hcm, hcs, ?_⟩⟩
    rw [← hct, List.take_take, Nat.min_eq_left (by omega)]; simp
end Go.Proofs.YtoibdokedhbjpaaGreat
