/-
  The law's own question whether anything is found at all.
-/
import Derived.Test.YtmmhajlfbjjocaaGreatPRepl
import Derived.Test.YtmmhajlfbjjocaaGreatRxLaw
namespace Go.Proofs.YtmmhajlfbjjocaaGreat
open Go.RowKit Go.Shelf RxSem

theorem headOf_some {K : List (Nat × Nat)} {p e : Nat} (h : K.head? = some (p, e)) : headOf K = (p, e, true) := by
  cases K with
  | nil => cases h
  | cons x K => simp at h; subst h; rfl
set_option maxRecDepth 20000 in
set_option maxHeartbeats 600000 in
theorem alive_any (w : World) : Calls Tryz.prog 5 #[] w fun e w' => e = .returned (.bool true) ∧ Below w.heap.size w w' := by
  have HA : Hid (∀ W, Calls Tryz.prog 6 #[.string ⟨#[97, 124, 97, 98]⟩] W (MadePost ⟨#[97, 124, 97, 98]⟩ W (.inl ndA))) := fun W => compile_made ⟨#[97, 124, 97, 98]⟩ _ compA W
  have HB : Hid (∀ W, Calls Tryz.prog 6 #[.string ⟨#[98, 43]⟩] W (MadePost ⟨#[98, 43]⟩ W (.inl ndB))) := fun W => compile_made ⟨#[98, 43]⟩ _ compB W
  have HF : Hid (∀ b t W, Made b t ndA W → Calls Tryz.prog 12 #[.pointer (some ⟨b, 0, none⟩), .string ⟨#[120, 97, 98]⟩, .int .i64 0] W fun e w' => e = .returned (.tuple #[.int .i64 1, .int .i64 3, .bool true]) ∧ Made b t ndA w' ∧ Wrote b W w') := fun b t W h => by
    refine (find_any steps_any b t ⟨#[120, 97, 98]⟩ ndA 0 W h (by decide) (by decide)).mono ?_
    rintro e w' ⟨K, h1, h2, h3, h4, h5⟩
    have h6 := headOf_some (headA (h2 (Nat.zero_le _)))
    rw [h6] at h1
    exact ⟨h1, h4, h5⟩
  have HR : Hid (∀ b t W, Made b t ndB W → Calls Tryz.prog 8 #[.pointer (some ⟨b, 0, none⟩), .string ⟨#[97, 98, 98, 99]⟩, .string ⟨#[60, 38, 62]⟩, .bool false] W fun e w' => e = .returned (.string ⟨#[97, 60, 98, 98, 62, 99]⟩) ∧ Made b t ndB w' ∧ Wrote b W w') := fun b t W h => by
    refine (replace_any steps_any b t ⟨#[97, 98, 98, 99]⟩ ⟨#[60, 38, 62]⟩ ndB false W h (by decide) (by decide)).mono ?_
    rintro e w' ⟨K, h1, h2, h4, h5⟩
    have h6 := headB h2
    have h7 : chosenOf false K = [(1, 3)] := by
      cases K with
      | nil => cases h6
      | cons x K => simp at h6; subst h6; rfl
    rw [h7] at h1
    exact ⟨h1, h4, h5⟩
  have HI : Hid (∀ b t W, Made b t ndB W → Calls Tryz.prog 13 #[.pointer (some ⟨b, 0, none⟩), .string ⟨#[98, 98]⟩] W fun e w' => e = .returned (.bool true) ∧ Made b t ndB w' ∧ Wrote b W w') := fun b t W h => by
    refine (is_any steps_any b t ⟨#[98, 98]⟩ ndB W h (by decide)).mono ?_
    rintro e w' ⟨⟨o, h1, h2⟩, h4, h5⟩
    have h6 : o = true := h2.2 isB
    rw [h6] at h1
    exact ⟨h1, h4, h5⟩
  have HT : Hid (∀ b t W, Made b t ndB W → Calls Tryz.prog 14 #[.pointer (some ⟨b, 0, none⟩)] W fun e w' => e = .returned (.string t) ∧ w' = W) := fun b t W h => text_any b t ndB W h
  go_enter Tryz.func5, Tryz.ntmps5
  go_wp2_with fail
  refine (HA.out _).mono ?_
  rintro e w1 ⟨hB1, b1, rfl, hl1, hm1⟩
  have H1 : Hid (Below w.heap.size w w1 ∧ w.heap.size ≤ b1 ∧ Made b1 ⟨#[97, 124, 97, 98]⟩ ndA w1) := ⟨hB1, hl1, hm1⟩
  clear hB1 hl1 hm1 HA
  simp only [faultV]
  go_wp2_with fail
  obtain ⟨wa, hwa, hBa, hSa, hka⟩ := one_box w1 (.cells #[.int .i64 0, .int .i64 0] 29)
  rw [← hwa]
  clear hwa
  refine (HB.out _).mono ?_
  rintro e w2 ⟨hB2, b2, rfl, hl2, hm2⟩
  obtain ⟨x1, hx1⟩ : ∃ x1, x1 = w1.heap.size := ⟨_, rfl⟩
  obtain ⟨wb, hwb, hBb, hSb, hkb⟩ := one_box w2 (.cells #[.int .i64 0, .int .i64 0] 29)
  have h2a : w2.heap[x1]? = some (.cells #[.int .i64 0, .int .i64 0] 29 (0, 0)) := by rw [hx1, hB2.block _ (by omega)]; exact hka
  have h2b : wb.heap[x1]? = some (.cells #[.int .i64 0, .int .i64 0] 29 (0, 0)) := by rw [hBb.block x1 (Array.getElem?_eq_some_iff.1 h2a).1]; exact h2a
  have h2c : wb.heap[w2.heap.size]? = some (.cells #[.int .i64 0, .int .i64 0] 29 (0, 0)) := hkb
  have a0 : wb.cell? ⟨x1, 0, none⟩ = some (.int .i64 0) := by simp only [World.cell?, h2b]; rfl
  have a1 : wb.cell? ⟨x1, 1, none⟩ = some (.int .i64 0) := by simp only [World.cell?, h2b]; rfl
  have c0 : wb.cell? ⟨w2.heap.size, 0, none⟩ = some (.int .i64 0) := by simp only [World.cell?, h2c]; rfl
  have c1 : wb.cell? ⟨w2.heap.size, 1, none⟩ = some (.int .i64 0) := by simp only [World.cell?, h2c]; rfl
  have H2 : Hid (Below w.heap.size w wb ∧ w.heap.size ≤ b1 ∧ w.heap.size ≤ b2 ∧ b1 ≠ b2 ∧ Made b1 ⟨#[97, 124, 97, 98]⟩ ndA wb ∧ Made b2 ⟨#[98, 43]⟩ ndB wb) := by
    obtain ⟨g1, g2, g3⟩ := H1.out
    have g4 := g3.below hBa
    have hlt := g4.lt
    have hs1 := g1.size
    refine ⟨(g1.trans (hBa.mono hs1)).trans ((hB2.mono (by omega)).trans (hBb.mono (by have := hB2.size; omega))), g2, by omega, by omega, (g4.below hB2).below hBb, hm2.below hBb⟩
  rw [← hx1]
  clear hx1 hB2 hl2 hm2 hBb hSb hkb h2a h2b h2c hBa hSa hka H1 HB
  simp only [faultV]
  rw [hwb] at a0 a1 c0 c1
  go_wp2_with fail
  rw [← hwb] at a0 a1 c0 c1 ⊢
  clear hwb
  obtain ⟨g1, g2, g3, g4, g5, g6⟩ := H2.out
  refine (HF.out b1 _ wb g5).mono ?_
  rintro e w3 ⟨rfl, h1, h2⟩
  have H3 : Hid (Below w.heap.size w w3 ∧ w.heap.size ≤ b2 ∧ Made b2 ⟨#[98, 43]⟩ ndB w3) := ⟨g1.trans (h2.below g2 g1.size), g3, g6.wrote h2 (fun e => g4 e.symm) g5.cells⟩
  clear g1 g2 g3 g4 g5 g6 h1 h2 H2 a0 a1 c0 c1 HF
  go_wp2_with fail
  obtain ⟨g1, g2, g3⟩ := H3.out
  refine (HR.out b2 _ w3 g3).mono ?_
  rintro e w4 ⟨rfl, h1, h2⟩
  have H4 : Hid (Below w.heap.size w w4 ∧ w.heap.size ≤ b2 ∧ Made b2 ⟨#[98, 43]⟩ ndB w4) := ⟨g1.trans (h2.below g2 g1.size), g2, h1⟩
  clear g1 g2 g3 h1 h2 H3 HR
  go_wp2_with fail
  obtain ⟨g1, g2, g3⟩ := H4.out
  refine (HI.out b2 _ w4 g3).mono ?_
  rintro e w5 ⟨rfl, h1, h2⟩
  have H5 : Hid (Below w.heap.size w w5 ∧ w.heap.size ≤ b2 ∧ Made b2 ⟨#[98, 43]⟩ ndB w5) := ⟨g1.trans (h2.below g2 g1.size), g2, h1⟩
  clear g1 g2 g3 h1 h2 H4 HI
  go_wp2_with fail
  obtain ⟨g1, g2, g3⟩ := H5.out
  refine (HT.out b2 _ w5 g3).mono ?_
  rintro e w6 ⟨rfl, rfl⟩
  clear g1 g2 g3
  go_wp2_with fail
  go_ret
  exact ⟨rfl, H5.out.1⟩
end Go.Proofs.YtmmhajlfbjjocaaGreat
