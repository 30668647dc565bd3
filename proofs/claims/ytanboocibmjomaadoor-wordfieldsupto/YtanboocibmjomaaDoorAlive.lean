/-
  alive is true.
-/
import Derived.Test.YtanboocibmjomaaDoorSplitF
import Derived.Test.YtanboocibmjomaaDoorMeanF
import Derived.Test.YtanboocibmjomaaDoorQuoteF
import Derived.Test.YtanboocibmjomaaDoorJoinF
namespace Go.Proofs.YtanboocibmjomaaDoor
open Go.RowKit Go.Shelf

/-- The library's variable MaxLen holds a number. -/
def Mx (w : World) : Prop := ∃ m, w.cell? ⟨0, 0, none⟩ = some (.int .i64 m)
theorem Mx.pos {w : World} (h : Mx w) : 0 < w.heap.size := by obtain ⟨m, h⟩ := h; exact (cell_here h).1
theorem Mx.below {w w' : World} {B : Nat} (h : Mx w) (hb : Below B w w') (hB : 0 < B) : Mx w' := by
  obtain ⟨m, h⟩ := h
  exact ⟨m, by rw [hb.cell (p := ⟨0, 0, none⟩) hB]; exact h⟩

theorem split_ok (s : ByteArray) (w : World) (hs : s.size ≤ 140737488355328) :
    Calls Tryd.prog 9 #[.string s] w fun e w' => ∃ a c, e = .returned (.tuple #[.slice a (splitW s).length c, .int .i64 (splitE s : Nat)]) ∧ Words w'.heap.size w' (.slice a (splitW s).length c) (splitW s) ∧ Below w.heap.size w w' :=
  (split_any s w hs).mono fun e w' ⟨v, he, hw, hb⟩ => by
    obtain ⟨a, n, c, rfl, hn, h⟩ := hw
    subst hn
    exact ⟨a, c, he, ⟨a, _, c, rfl, rfl, h⟩, hb⟩
theorem quote_ok (s : ByteArray) (w : World) (hs : s.size ≤ 2000000) (hM : Mx w) :
    Calls Tryd.prog 15 #[.string s] w fun e w' => e = .returned (.string (ba (K.quote (bl s)))) ∧ Below w.heap.size w w' := by
  obtain ⟨m, hm⟩ := hM
  exact quote_any s m w hs hm

set_option maxRecDepth 20000 in
set_option maxHeartbeats 400000 in
theorem alive_any (w : World) (hM : Mx w) :
    Calls Tryd.prog 14 #[] w fun e w' => e = .returned (.bool true) ∧ Below w.heap.size w w' := by
  have H1 : Hid (∀ W, Calls Tryd.prog 9 #[.string ⟨#[97, 32, 39, 98, 32, 99, 39, 92, 32, 100]⟩] W fun e w' => ∃ a c, e = .returned (.tuple #[.slice a 2 c, .int .i64 0]) ∧ Below W.heap.size W w') := by
    intro W
    refine (split_ok ⟨#[97, 32, 39, 98, 32, 99, 39, 92, 32, 100]⟩ W (by decide)).mono ?_
    rintro e w' ⟨a, c, rfl, _, hb⟩
    have e1 : (splitW ⟨#[97, 32, 39, 98, 32, 99, 39, 92, 32, 100]⟩).length = 2 := by decide +kernel
    have e2 : splitE ⟨#[97, 32, 39, 98, 32, 99, 39, 92, 32, 100]⟩ = 0 := by decide +kernel
    exact ⟨a, c, by rw [e1, e2]; rfl, hb⟩
  have H2 : Hid (∀ W, Calls Tryd.prog 11 #[.string ⟨#[39, 98, 32, 99, 39, 92, 32, 100]⟩] W fun e w' => e = .returned (.tuple #[.string ⟨#[98, 32, 99, 32, 100]⟩, .int .i64 0]) ∧ Below W.heap.size W w') := by
    intro W
    refine (mean_any _ W (by decide)).mono ?_
    rintro e w' ⟨rfl, hb⟩
    have e1 : meanT ⟨#[39, 98, 32, 99, 39, 92, 32, 100]⟩ = ⟨#[98, 32, 99, 32, 100]⟩ := by decide +kernel
    have e2 : meanE ⟨#[39, 98, 32, 99, 39, 92, 32, 100]⟩ = 0 := by decide +kernel
    exact ⟨by rw [e1, e2]; rfl, hb⟩
  have H3 : Hid (∀ W, Mx W → Calls Tryd.prog 15 #[.string ⟨#[105, 116, 39, 115]⟩] W fun e w' => e = .returned (.string ⟨#[39, 105, 116, 39, 92, 39, 39, 115, 39]⟩) ∧ Below W.heap.size W w') := by
    intro W h
    refine (quote_ok _ W (by decide) h).mono ?_
    rintro e w' ⟨rfl, hb⟩
    have e1 : ba (K.quote (bl ⟨#[105, 116, 39, 115]⟩)) = ⟨#[39, 105, 116, 39, 92, 39, 39, 115, 39]⟩ := by decide +kernel
    exact ⟨by rw [e1], hb⟩
  have H4 : Hid (∀ W, Calls Tryd.prog 20 #[.slice (some ⟨W.heap.size, 0, none⟩) 3 3] (W.alloc (.cells #[.string ⟨#[97]⟩, .string ⟨#[]⟩, .string ⟨#[98]⟩] 9)) fun e w' => e = .returned (.string ⟨#[97, 32, 98]⟩) ∧ Below W.heap.size W w') := by
    intro W
    have e1 : joined [⟨#[97]⟩, ⟨#[]⟩, ⟨#[98]⟩] = ⟨#[97, 32, 98]⟩ := by decide +kernel
    have hw : Words (W.alloc (.cells #[.string ⟨#[97]⟩, .string ⟨#[]⟩, .string ⟨#[98]⟩] 9)).heap.size (W.alloc (.cells #[.string ⟨#[97]⟩, .string ⟨#[]⟩, .string ⟨#[98]⟩] 9)) (.slice (some ⟨W.heap.size, 0, none⟩) 3 3) [⟨#[97]⟩, ⟨#[]⟩, ⟨#[98]⟩] := by
      refine ⟨_, _, _, rfl, rfl, fun i hi => ⟨W.heap.size, 0, rfl, by simp, ?_⟩⟩
      simp only [World.cell?, alloc_at]
      match i, hi with
      | 0, _ => rfl
      | 1, _ => rfl
      | 2, _ => rfl
    refine (join_any _ _ _ _ _ (by decide) (by rw [e1]; decide) hw).mono ?_
    rintro e w' ⟨rfl, hb⟩
    exact ⟨by rw [e1], ((Below.refl _ _).alloc (Nat.le_refl _) _).trans (hb.mono (by simp))⟩
  have HM : Hid (Mx w) := hM
  clear hM
  go_enter Tryd.func14, Tryd.ntmps14
  go_wp2_with fail
  refine (H1.out _).mono ?_
  rintro e w1 ⟨a, c, rfl, hb1⟩
  go_wp2_with fail
  refine (H2.out _).mono ?_
  rintro e w2 ⟨rfl, hb2⟩
  have hb12 := hb1.trans (hb2.mono hb1.size)
  clear hb1 hb2
  have HM2 : Hid (Mx w2) := HM.out.below hb12 HM.out.pos
  go_wp2_with fail
  refine (H3.out _ HM2.out).mono ?_
  rintro e w3 ⟨rfl, hb3⟩
  have hb13 := hb12.trans (hb3.mono hb12.size)
  clear hb12 hb3
  go_wp2_with fail
  refine (H4.out _).mono ?_
  rintro e w4 ⟨rfl, hb4⟩
  have hb14 := hb13.trans (hb4.mono hb13.size)
  clear hb13 hb4
  go_wp2
  go_ret
  exact ⟨rfl, hb14⟩
end Go.Proofs.YtanboocibmjomaaDoor
