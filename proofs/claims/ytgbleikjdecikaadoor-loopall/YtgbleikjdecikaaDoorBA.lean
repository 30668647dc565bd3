/-
  What alive answers.
-/
import Derived.Test.YtgbleikjdecikaaDoorBY
import Derived.Test.YtgbleikjdecikaaDoorBB5
namespace Go.Proofs.YtgbleikjdecikaaDoor
open Go.RowKit Go.Shelf
open Ex (useN Fr)

abbrev t1 : ByteArray := ⟨#[46, 102, 111, 114, 32, 105, 32, 105, 110, 32, 97, 32, 98]⟩
abbrev t2 : ByteArray := ⟨#[36, 105, 46, 111, 58, 32, 36, 105, 46, 99]⟩
abbrev t3 : ByteArray := ⟨#[46, 101, 110, 100, 102, 111, 114]⟩
def aliveZ : List Lz := [⟨t1, 1, false⟩, ⟨t2, 2, false⟩, ⟨t3, 3, false⟩]
theorem alive_build : buildL aliveZ = .good [.fr ⟨t1, 1, false⟩ [⟨#[105]⟩] ⟨#[97, 32, 98]⟩ [.pl ⟨t2, 2, false⟩]] := by kernel_rfl
theorem alive_bind : bindZ ⟨#[105]⟩ ⟨#[97]⟩ ⟨t2, 2, false⟩ = ⟨⟨#[97, 46, 111, 58, 32, 97, 46, 99]⟩, 2, false⟩ := by kernel_rfl
theorem neq00 (W : World) : Sem.run Tryd.prog (binOp .neq 28 (.agg #[.int .i64 0, .int .i64 0]) (.agg #[.int .i64 0, .int .i64 0])) W = .ok (.bool false) W := by kernel_rfl
/-- A row of one. -/
theorem row_one {H : Nat → Prop} {w : World} {r : Nat} {v : Value} {t : Nd} (h : NdsAt H w r v [t]) : ∃ g c cs, v = .slice (some ⟨g, 0, none⟩) 1 c ∧ 1 ≤ c ∧ g < w.heap.size ∧ NdAt H w r cs t ∧ ∀ j u, cs[j]? = some u → w.cell? ⟨g, j, none⟩ = some u := by
  obtain ⟨css, h1, h2⟩ := h
  cases h2 with
  | cons h3 h4 =>
    cases h4
    rcases h1 with ⟨_, h⟩ | ⟨g, c, hv, hc, hgl, _, hcell⟩
    · cases h
    · refine ⟨g, c, _, hv, hc, hgl, h3, fun j u hj => ?_⟩
      have := (hcell 0 _ rfl).2 j u hj
      rw [Nat.zero_mul, Nat.zero_add] at this; exact this
set_option maxRecDepth 20000 in
set_option maxHeartbeats 1600000 in
theorem alive_any (w : World) (hm : Mx w) : Calls Tryd.prog 6 #[] w fun e w' => e = .returned (.bool true) ∧ Below w.heap.size w w' := by
  obtain ⟨w1, hw1⟩ : ∃ w1, w1 = w.alloc (.cells #[.string t1, .int .i64 1, .bool false, .string t2, .int .i64 2, .bool false, .string t3, .int .i64 3, .bool false] 43) := ⟨_, rfl⟩
  have hb1 : Below w.heap.size w w1 := by rw [hw1]; exact (Below.refl _ _).alloc (Nat.le_refl _) _
  have hs1 : w.heap.size < w1.heap.size := by rw [hw1]; simp
  have z1 : w1.heap[w.heap.size]? = some (.cells #[.string t1, .int .i64 1, .bool false, .string t2, .int .i64 2, .bool false, .string t3, .int .i64 3, .bool false] 43 (0, 0)) := by rw [hw1]; exact alloc_last _ _
  have HB : Hid (Calls Tryd.prog 7 #[.slice (some ⟨w.heap.size, 0, none⟩) 3 3] w1 (BuildPost aliveZ w1)) := by
    refine build_any _ aliveZ w1 (by decide) (fun x hx => ?_) ⟨some ⟨w.heap.size, 0, none⟩, 3, 3, rfl, rfl, by decide, fun i x hi => ⟨w.heap.size, 0, rfl, hs1, ?_⟩⟩
    · simp only [aliveZ, List.mem_cons, List.not_mem_nil, or_false] at hx
      rcases hx with rfl | rfl | rfl <;> decide
    · match i, hi with
      | 0, hi => cases hi; exact ⟨cell_in z1 0 rfl, cell_in z1 1 rfl, cell_in z1 2 rfl⟩
      | 1, hi => cases hi; exact ⟨cell_in z1 3 rfl, cell_in z1 4 rfl, cell_in z1 5 rfl⟩
      | 2, hi => cases hi; exact ⟨cell_in z1 6 rfl, cell_in z1 7 rfl, cell_in z1 8 rfl⟩
      | i + 3, hi => simp [aliveZ] at hi
  have HBI : Hid (∀ W, Below w1.heap.size w1 W → Calls Tryd.prog 15 #[.slice (some ⟨w.heap.size, 3, none⟩) 1 2, .string ⟨#[105]⟩, .string ⟨#[97]⟩] W fun e w' => ∃ g c, e = .returned (.slice (some ⟨g, 0, none⟩) 1 c) ∧ w'.cell? ⟨g, 0, none⟩ = some (.string ⟨#[97, 46, 111, 58, 32, 97, 46, 99]⟩) ∧ Below w.heap.size w w') := fun W hW => by
    have hbW : Below w.heap.size w W := hb1.trans (hW.mono hb1.size)
    have zW := (hW.block _ hs1).trans z1
    have hlz : LZ W.heap.size W (.slice (some ⟨w.heap.size, 3, none⟩) 1 2) [⟨t2, 2, false⟩] := ⟨_, 1, 2, rfl, rfl, by decide, fun i x hi => ⟨w.heap.size, 3, rfl, (Array.getElem?_eq_some_iff.1 zW).1, by
      match i, hi with
      | 0, hi => cases hi; exact ⟨cell_in zW 3 rfl, cell_in zW 4 rfl, cell_in zW 5 rfl⟩
      | i + 1, hi => simp at hi⟩⟩
    refine (bind_any _ [⟨t2, 2, false⟩] ⟨#[105]⟩ ⟨#[97]⟩ W (hm.below hbW hm.pos) (by decide) (by decide) (by decide) (fun x hx => ?_) hlz).mono fun e w' ⟨v', h1, h2, h3⟩ => ?_
    · simp only [List.mem_cons, List.not_mem_nil, or_false] at hx
      subst hx; decide
    · obtain ⟨g, c, cur, hv, _, _, hcur, hi⟩ := row_arr (n := 0) h2
      refine ⟨g, c, by rw [h1, hv], cell_in hcur 0 (hi 0 _ ?_), hbW.trans (h3.mono hbW.size)⟩
      show (lzsV [bindZ ⟨#[105]⟩ ⟨#[97]⟩ ⟨t2, 2, false⟩])[0]? = _
      rw [alive_bind]; rfl
  have HE := neq00
  have HB1 : Hid (Below w.heap.size w w1 ∧ w.heap.size < w1.heap.size) := ⟨hb1, hs1⟩
  clear hm hb1 hs1 z1
  go_enter Tryd.func6, Tryd.ntmps6
  go_wp2_with fail
  rw [← hw1]
  clear hw1
  refine HB.out.mono ?_
  intro e w2 h2
  unfold BuildPost at h2
  rw [alive_build] at h2
  obtain ⟨v, rfl, h2, h3⟩ := h2
  obtain ⟨g, c, cs, rfl, hc, hgl, hnd, hcell⟩ := row_one h2
  obtain ⟨vN, vK, rfl, hN, hK⟩ := nd_fr (r := 31) hnd
  obtain ⟨g2, c2, cs2, rfl, hc2, _, _, _⟩ := row_one hK
  have c0 : w2.cell? ⟨g, 0, none⟩ = some (.int .i64 3) := hcell 0 _ rfl
  have c6 : w2.cell? ⟨g, 6, none⟩ = some (.string ⟨#[97, 32, 98]⟩) := hcell 6 _ rfl
  have c7 : w2.cell? ⟨g, 7, none⟩ = some (.slice (some ⟨g2, 0, none⟩) 1 c2) := hcell 7 _ rfl
  have HB3 : Hid (Below w1.heap.size w1 (w2.alloc (.cells #[.int .i64 0, .int .i64 0] 28))) := h3.alloc h3.size _
  clear h2 h3 hnd hcell hN hK
  go_wp2_with fail
  refine (HBI.out _ HB3.out).mono ?_
  rintro e w3 ⟨g3, c3, rfl, h3, h4⟩
  have H4 : Hid (Below w.heap.size w w3) := h4
  clear h4
  go_wp2
  go_ret
  exact ⟨rfl, H4.out⟩
end Go.Proofs.YtgbleikjdecikaaDoor
