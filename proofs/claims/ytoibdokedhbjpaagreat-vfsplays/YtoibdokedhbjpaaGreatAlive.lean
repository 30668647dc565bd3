/-
  A touched file is younger: the trial that every statement makes answers true.
-/
import Derived.Test.YtoibdokedhbjpaaGreatMethC
namespace Go.Proofs.YtoibdokedhbjpaaGreat
open Go.RowKit Go.Shelf Go.Maps

namespace Al
def a0 : St := St.new 100
def ea : Ent := ⟨⟨#[120]⟩, 1, false⟩
def a1 : St := ⟨100, 1, [(topB, ⟨E, 0, true⟩), (⟨#[47, 97]⟩, ⟨⟨#[120]⟩, 1, false⟩)], false, []⟩
def a2 : St := ⟨100, 2, [(topB, ⟨E, 0, true⟩), (⟨#[47, 97]⟩, ⟨⟨#[120]⟩, 1, false⟩), (⟨#[47, 98]⟩, ⟨⟨#[121]⟩, 2, false⟩)], false, []⟩
def a3 : St := ⟨100, 3, [(topB, ⟨E, 0, true⟩), (⟨#[47, 97]⟩, ⟨⟨#[120]⟩, 3, false⟩), (⟨#[47, 98]⟩, ⟨⟨#[121]⟩, 2, false⟩)], false, []⟩
theorem h1 : a0.write ⟨#[97]⟩ ⟨#[120]⟩ = (a1, 0) := by kernel_rfl
theorem h2 : a1.write ⟨#[98]⟩ ⟨#[121]⟩ = (a2, 0) := by kernel_rfl
theorem h3 : a2.touch ⟨#[97]⟩ = (a3, 0) := by kernel_rfl
theorem h4 : a3.stat ⟨#[47, 97]⟩ = (3, false, 0) := by kernel_rfl
theorem h5 : a3.stat ⟨#[98]⟩ = (2, false, 0) := by kernel_rfl
theorem h6 : a3.read ⟨#[97]⟩ = (a3, ⟨#[120]⟩, 0) := by kernel_rfl
end Al

set_option maxRecDepth 20000 in
set_option maxHeartbeats 1000000 in
theorem alive_any (w : World) : Calls Tryz.prog 6 #[] w fun e w' => e = .returned (.bool true) ∧ Below w.heap.size w w' := by
  have HN : Hid (Calls Tryz.prog 4 #[.int .i64 100] w fun e w' => ∃ b, e = .returned (.tuple #[ptr b, .int .i64 0]) ∧ Store w.heap.size b w.heap.size (.slice none 0 0) Al.a0 w' ∧ Below w.heap.size w w') := new_any 100 w (by decide) (by decide)
  have H1 : Hid (∀ b m v W, Store w.heap.size b m v Al.a0 W → Calls Tryz.prog 25 #[ptr b, .string ⟨#[97]⟩, .string ⟨#[120]⟩] W fun e w' => e = .returned (.int .i64 0) ∧ ∃ v', Store w.heap.size b m v' Al.a1 w' ∧ Below w.heap.size W w') := fun b m v W h => by
    refine (write_any _ _ W h (by decide) (by decide) (by decide)).mono ?_
    rintro e w' ⟨rfl, v', hs, ht⟩
    rw [Al.h1] at hs ⊢
    exact ⟨rfl, v', hs, h.low ht⟩
  have H2 : Hid (∀ b m v W, Store w.heap.size b m v Al.a1 W → Calls Tryz.prog 25 #[ptr b, .string ⟨#[98]⟩, .string ⟨#[121]⟩] W fun e w' => e = .returned (.int .i64 0) ∧ ∃ v', Store w.heap.size b m v' Al.a2 w' ∧ Below w.heap.size W w') := fun b m v W h => by
    refine (write_any _ _ W h (by decide) (by decide) (by decide)).mono ?_
    rintro e w' ⟨rfl, v', hs, ht⟩
    rw [Al.h2] at hs ⊢
    exact ⟨rfl, v', hs, h.low ht⟩
  have H3 : Hid (∀ b m v W, Store w.heap.size b m v Al.a2 W → Calls Tryz.prog 26 #[ptr b, .string ⟨#[97]⟩] W fun e w' => e = .returned (.int .i64 0) ∧ ∃ v', Store w.heap.size b m v' Al.a3 w' ∧ Below w.heap.size W w') := fun b m v W h => by
    refine (touch_any _ W h (by decide) (by decide)).mono ?_
    rintro e w' ⟨rfl, v', hs, ht⟩
    rw [Al.h3] at hs ⊢
    exact ⟨rfl, v', hs, h.low ht⟩
  have H4 : Hid (∀ b m v W, Store w.heap.size b m v Al.a3 W → Calls Tryz.prog 13 #[ptr b, .string ⟨#[47, 97]⟩] W fun e w' => e = .returned (.tuple #[.int .i64 3, .bool false, .int .i64 0]) ∧ Store w.heap.size b m v Al.a3 w' ∧ Below w.heap.size W w') := fun b m v W h => by
    refine (stat_any _ W h (by decide)).mono ?_
    rintro e w' ⟨rfl, hb⟩
    rw [Al.h4]
    exact ⟨rfl, h.below hb, hb.mono (by have := h.lt; have := h.hb; omega)⟩
  have H5 : Hid (∀ b m v W, Store w.heap.size b m v Al.a3 W → Calls Tryz.prog 13 #[ptr b, .string ⟨#[98]⟩] W fun e w' => e = .returned (.tuple #[.int .i64 2, .bool false, .int .i64 0]) ∧ Store w.heap.size b m v Al.a3 w' ∧ Below w.heap.size W w') := fun b m v W h => by
    refine (stat_any _ W h (by decide)).mono ?_
    rintro e w' ⟨rfl, hb⟩
    rw [Al.h5]
    exact ⟨rfl, h.below hb, hb.mono (by have := h.lt; have := h.hb; omega)⟩
  have H6 : Hid (∀ b m v W, Store w.heap.size b m v Al.a3 W → Calls Tryz.prog 23 #[ptr b, .string ⟨#[97]⟩] W fun e w' => e = .returned (.tuple #[.string ⟨#[120]⟩, .int .i64 0]) ∧ Below w.heap.size W w') := fun b m v W h => by
    refine (read_any _ W h (by decide)).mono ?_
    rintro e w' ⟨rfl, v', hs, ht⟩
    rw [Al.h6]
    exact ⟨rfl, h.low ht⟩
  go_enter Tryz.func6, Tryz.ntmps6
  go_wp2_with fail
  refine HN.out.mono ?_
  rintro e w1 ⟨b, rfl, hs1, hb1⟩
  have S1 : Hid (Store w.heap.size b w.heap.size (.slice none 0 0) Al.a0 w1) := hs1
  clear hs1
  go_wp2_with fail
  refine (H1.out _ _ _ _ S1.out).mono ?_
  rintro e w2 ⟨rfl, v2, hs2, hb2⟩
  have S2 : Hid (Store w.heap.size b w.heap.size v2 Al.a1 w2 ∧ Below w.heap.size w w2) := ⟨hs2, hb1.trans hb2⟩
  clear hs2 hb1 hb2 S1
  go_wp2_with fail
  refine (H2.out _ _ _ _ S2.out.1).mono ?_
  rintro e w3 ⟨rfl, v3, hs3, hb3⟩
  have S3 : Hid (Store w.heap.size b w.heap.size v3 Al.a2 w3 ∧ Below w.heap.size w w3) := ⟨hs3, S2.out.2.trans hb3⟩
  clear hs3 hb3 S2
  go_wp2_with fail
  refine (H3.out _ _ _ _ S3.out.1).mono ?_
  rintro e w4 ⟨rfl, v4, hs4, hb4⟩
  have S4 : Hid (Store w.heap.size b w.heap.size v4 Al.a3 w4 ∧ Below w.heap.size w w4) := ⟨hs4, S3.out.2.trans hb4⟩
  clear hs4 hb4 S3
  go_wp2_with fail
  refine (H4.out _ _ _ _ S4.out.1).mono ?_
  rintro e w5 ⟨rfl, hs5, hb5⟩
  have S5 : Hid (Store w.heap.size b w.heap.size v4 Al.a3 w5 ∧ Below w.heap.size w w5) := ⟨hs5, S4.out.2.trans hb5⟩
  clear hs5 hb5 S4
  go_wp2_with fail
  refine (H5.out _ _ _ _ S5.out.1).mono ?_
  rintro e w6 ⟨rfl, hs6, hb6⟩
  have S6 : Hid (Store w.heap.size b w.heap.size v4 Al.a3 w6 ∧ Below w.heap.size w w6) := ⟨hs6, S5.out.2.trans hb6⟩
  clear hs6 hb6 S5
  go_wp2_with fail
  refine (H6.out _ _ _ _ S6.out.1).mono ?_
  rintro e w7 ⟨rfl, hb7⟩
  have S7 : Hid (Below w.heap.size w w7) := S6.out.2.trans hb7
  clear hb7 S6
  go_wp2
  go_ret
  exact ⟨rfl, S7.out⟩
end Go.Proofs.YtoibdokedhbjpaaGreat
