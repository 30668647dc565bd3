/-
  What newBinding and text answer.
-/
import Derived.Test.YtgbleikjdecikaaDoorBB2
import Derived.Lib.IndexLaws
namespace Go.Proofs.YtgbleikjdecikaaDoor
open Go.RowKit Go.Shelf
open Ex (useN Fr)

theorem app_size (a b : ByteArray) : (a ++ b).size = a.size + b.size := by rw [← bl_length, bl_app, List.length_append, bl_length, bl_length]
theorem useA_size (n : ByteArray) : (useA n).size = n.size + 3 := by unfold useA; rw [app_size, app_size]; show 2 + n.size + 1 = _; omega
theorem useB_size (n : ByteArray) : (useB n).size = n.size + 3 := by unfold useB; rw [app_size, app_size]; show 2 + n.size + 1 = _; omega
theorem useC_size (n : ByteArray) : (useC n).size = n.size + 1 := by unfold useC; rw [app_size]; show 1 + n.size = _; omega
/-- The cells of a result that is a struct of two. -/
theorem box2' {w : World} {b : Nat} {a0 a1 : Value} {T : TypeId} (h : w.heap[b]? = some (.cells #[a0, a1] T (0, 0))) (x y : Value) :
    (w.setCell ⟨b, 0, none⟩ x).cell? ⟨b, 0, none⟩ = some x ∧ ((w.setCell ⟨b, 0, none⟩ x).setCell ⟨b, 1, none⟩ y).cell? ⟨b, 1, none⟩ = some y := by
  have h1 := heap_set (i := 0) h x
  have h2 := heap_set (i := 1) h1 y
  exact ⟨cell_in h1 0 rfl, cell_in h2 1 rfl⟩
theorem below_set2' {w w1 : World} {B b : Nat} (h : Below B w w1) (hb : B ≤ b) (x y : Value) : Below B w ((w1.setCell ⟨b, 0, none⟩ x).setCell ⟨b, 1, none⟩ y) :=
  (h.setCell (p := ⟨b, 0, none⟩) hb x).setCell (p := ⟨b, 1, none⟩) hb y
/-- A binding in block bb with its uses, the result's block r below it. -/
def BN (w : World) (r bb : Nat) (q : ByteArray) (U : List ByteArray) (W : World) : Prop :=
  ∃ vU, W.heap[bb]? = some (.cells #[vU, .string q] 70 (0, 0)) ∧ W.ownsRow (bb + 1) 9 1 vU U.length (U.map Value.string) ∧ Below w.heap.size w W ∧ W.heap[r]? = some (.cells #[.slice none 0 0, .string ⟨#[]⟩] 70 (0, 0)) ∧ w.heap.size ≤ r ∧ r < bb
theorem BN.take {w : World} {r bb : Nat} {q : ByteArray} {U : List ByteArray} {W : World} (h : BN w r bb q U W) (c : ByteArray) (hc : c.size ≤ 1000000) (hU : U.length ≤ 1000) :
    Calls Tryd.prog 38 #[.pointer (some ⟨bb, 0, none⟩), .string c] W fun e w' => e = .returned (.tuple #[]) ∧ BN w r bb q (takeU c U) w' := by
  obtain ⟨vU, h1, h2, h3, h4, h5, h6⟩ := h
  exact (take_any bb vU U q c W h1 h2 hc hU).mono fun e w' ⟨p1, vU', p2, p3, p4⟩ => ⟨p1, vU', p2, p3, h3.trans (p4.mono (by omega)), (p4.block r h6).trans h4, h5, h6⟩
set_option maxRecDepth 20000 in
set_option maxHeartbeats 1600000 in
theorem newB_any (name value : ByteArray) (w : World) (hm : Mx w) (hn : name.size ≤ 900000) (hv : value.size ≤ 1000000) :
    Calls Tryd.prog 23 #[.string name, .string value] w fun e w' => ∃ vU, e = .returned (.agg #[vU, .string (ba (quoteD (bl value)))]) ∧ Words w'.heap.size w' vU (usesB name) ∧ Below w.heap.size w w' := by
  obtain ⟨q, hq⟩ : ∃ q, q = ba (quoteD (bl value)) := ⟨_, rfl⟩
  obtain ⟨w1, hw1⟩ : ∃ w1, w1 = w.alloc (.cells #[.slice none 0 0, .string ⟨#[]⟩] 70) := ⟨_, rfl⟩
  have hb1 : Below w.heap.size w w1 := by rw [hw1]; exact (Below.refl _ _).alloc (Nat.le_refl _) _
  have z1 : w1.heap[w.heap.size]? = some (.cells #[.slice none 0 0, .string ⟨#[]⟩] 70 (0, 0)) := by rw [hw1]; exact alloc_last _ _
  have HQ : Hid (Calls Tryd.prog 37 #[.string value] w1 fun e w' => e = .returned (.string q) ∧ Below w1.heap.size w1 w') := by
    rw [hq]; exact quote_any value w1 (hm.below hb1 hm.pos) hv
  rw [← hq]
  clear hq hm
  have HZ : Hid (∀ W, Below w1.heap.size w1 W → BN w w.heap.size W.heap.size q [] (W.alloc (.cells #[.slice none 0 0, .string q] 70))) := fun W hW => by
    have hl : w.heap.size < w1.heap.size := (Array.getElem?_eq_some_iff.1 z1).1
    have hs := hW.size
    refine ⟨.slice none 0 0, alloc_last _ _, owns_nil _ _ _ _, (hb1.trans (hW.mono hb1.size)).alloc (by omega) _, ?_, Nat.le_refl _, by omega⟩
    rw [Below.heap_alloc _ _ _ (by omega), hW.block _ hl]; exact z1
  obtain ⟨cA, hcA⟩ : ∃ cA, cA = useA name := ⟨_, rfl⟩
  obtain ⟨cB, hcB⟩ : ∃ cB, cB = useB name := ⟨_, rfl⟩
  obtain ⟨cC, hcC⟩ : ∃ cC, cC = useC name := ⟨_, rfl⟩
  have sA : cA.size ≤ 1000000 := by rw [hcA, useA_size]; omega
  have sB : cB.size ≤ 1000000 := by rw [hcB, useB_size]; omega
  have sC : cC.size ≤ 1000000 := by rw [hcC, useC_size]; omega
  have hA : (⟨#[36, 123]⟩ : ByteArray) ++ name ++ ⟨#[125]⟩ = cA := hcA.symm
  have hB : (⟨#[36, 40]⟩ : ByteArray) ++ name ++ ⟨#[41]⟩ = cB := hcB.symm
  have hC : (⟨#[36]⟩ : ByteArray) ++ name = cC := hcC.symm
  have HUB : Hid (usesB name = if name.size = 1 ∧ ¬ name = kDol then takeU cC (takeU cB (takeU cA [])) else takeU cB (takeU cA [])) := by unfold Hid usesB; rw [hcA, hcB, hcC]
  have HT1 : Hid (∀ W bb, BN w w.heap.size bb q [] W → Calls Tryd.prog 38 #[.pointer (some ⟨bb, 0, none⟩), .string cA] W fun e w' => e = .returned (.tuple #[]) ∧ BN w w.heap.size bb q (takeU cA []) w') := fun W bb h => h.take cA sA (by simp)
  have l1 : (takeU cA []).length ≤ 1 := mem_take cA []
  have l2 : (takeU cB (takeU cA [])).length ≤ 2 := by have := mem_take cB (takeU cA []); omega
  have HT2 : Hid (∀ W bb, BN w w.heap.size bb q (takeU cA []) W → Calls Tryd.prog 38 #[.pointer (some ⟨bb, 0, none⟩), .string cB] W fun e w' => e = .returned (.tuple #[]) ∧ BN w w.heap.size bb q (takeU cB (takeU cA [])) w') := fun W bb h => h.take cB sB (by omega)
  have HT3 : Hid (∀ W bb, BN w w.heap.size bb q (takeU cB (takeU cA [])) W → Calls Tryd.prog 38 #[.pointer (some ⟨bb, 0, none⟩), .string cC] W fun e w' => e = .returned (.tuple #[]) ∧ BN w w.heap.size bb q (takeU cC (takeU cB (takeU cA []))) w') := fun W bb h => h.take cC sC (by omega)
  have HEND : Hid (∀ (W : World) (bb : Nat) (U : List ByteArray), BN w w.heap.size bb q U W → ∃ vU, IsS vU ∧ W.cell? ⟨bb, 0, none⟩ = some vU ∧ W.cell? ⟨bb, 1, none⟩ = some (.string q) ∧ W.cell? ⟨w.heap.size, 0, none⟩ = some (.slice none 0 0) ∧ W.cell? ⟨w.heap.size, 1, none⟩ = some (.string ⟨#[]⟩) ∧ W.frozen? ⟨w.heap.size, 0, none⟩ = false ∧ W.frozen? ⟨w.heap.size, 1, none⟩ = false ∧ ((W.setCell ⟨w.heap.size, 0, none⟩ vU).cell? ⟨w.heap.size, 0, none⟩ = some vU ∧ ((W.setCell ⟨w.heap.size, 0, none⟩ vU).setCell ⟨w.heap.size, 1, none⟩ (.string q)).cell? ⟨w.heap.size, 1, none⟩ = some (.string q)) ∧ Words ((W.setCell ⟨w.heap.size, 0, none⟩ vU).setCell ⟨w.heap.size, 1, none⟩ (.string q)).heap.size ((W.setCell ⟨w.heap.size, 0, none⟩ vU).setCell ⟨w.heap.size, 1, none⟩ (.string q)) vU U ∧ Below w.heap.size w ((W.setCell ⟨w.heap.size, 0, none⟩ vU).setCell ⟨w.heap.size, 1, none⟩ (.string q))) := fun W bb U h => by
    obtain ⟨vU, h1, h2, h3, h4, h5, h6⟩ := h
    have hne : vU.ownBlock ≠ some w.heap.size := fun e => by have := (h2.lt _ e).1; omega
    refine ⟨vU, by obtain ⟨a, c, e⟩ := V.owns_slice h2; exact ⟨a, _, c, e⟩, cell_in h1 0 rfl, cell_in h1 1 rfl, cell_in h4 0 rfl, cell_in h4 1 rfl, by simp [World.frozen?, h4], by simp [World.frozen?, h4], box2' h4 _ _, words_of_owns (row_set (row_set h2 hne _) hne _) (Nat.le_refl _), below_set2' h3 (Nat.le_refl _) _ _⟩
  clear hcA hcB hcC sA sB sC z1 hb1
  by_cases h1 : name.size = 1
  · have h1i : (name.size : Int) = 1 := by omega
    by_cases hd : name = kDol
    · have HU2 : Hid (usesB name = takeU cB (takeU cA [])) := by unfold Hid; rw [HUB.out, if_neg (fun h => h.2 hd)]
      rw [HU2.out]
      subst hd
      clear h1 h1i
      go_enter Tryd.func23, Tryd.ntmps23
      go_wp2_with fail
      rw [← hw1]
      clear hw1
      refine HQ.out.mono ?_
      rintro e w2 ⟨rfl, h2⟩
      have HB2 : Hid _ := HZ.out w2 h2
      clear h2
      go_wp2_with fail
      refine (HT1.out _ _ HB2.out).mono ?_
      rintro e w4 ⟨rfl, h4⟩
      have H4 : Hid _ := h4
      clear h4
      go_wp2_with fail
      refine (HT2.out _ _ H4.out).mono ?_
      rintro e w5 ⟨rfl, h5⟩
      have H5 : Hid _ := h5
      clear h5
      obtain ⟨vU, ⟨ua, un, uc, rfl⟩, d0, d1, r0, r1, f0, f1, hbx, hwd, hbl⟩ := HEND.out _ _ _ H5.out
      have HX : Hid _ := (⟨hbx, hwd, hbl⟩ : _ ∧ _ ∧ _)
      clear hbx hwd hbl
      go_wp2_with fail
      obtain ⟨⟨j0, j1⟩, hwd, hbl⟩ := HX.out
      refine bodyPost_ret (v := .agg #[.slice ua un uc, .string q]) (by simp [results, Tryd.results23, go_sem, j0, j1]; try rfl) rfl ?_
      exact ⟨_, rfl, hwd, hbl⟩
    · have HU2 : Hid (usesB name = takeU cC (takeU cB (takeU cA []))) := by unfold Hid; rw [HUB.out, if_pos ⟨h1, hd⟩]
      rw [HU2.out]
      obtain ⟨s1, s2⟩ := ne_list hd
      clear hd
      go_enter Tryd.func23, Tryd.ntmps23
      go_wp2_with fail
      rw [← hw1]
      clear hw1
      refine HQ.out.mono ?_
      rintro e w2 ⟨rfl, h2⟩
      have HB2 : Hid _ := HZ.out w2 h2
      clear h2
      go_wp2_with fail
      refine (HT1.out _ _ HB2.out).mono ?_
      rintro e w4 ⟨rfl, h4⟩
      have H4 : Hid _ := h4
      clear h4
      go_wp2_with fail
      refine (HT2.out _ _ H4.out).mono ?_
      rintro e w5 ⟨rfl, h5⟩
      have H5 : Hid _ := h5
      clear h5
      go_wp2_with fail
      refine (HT3.out _ _ H5.out).mono ?_
      rintro e w6 ⟨rfl, h6⟩
      have H6 : Hid _ := h6
      clear h6
      obtain ⟨vU, ⟨ua, un, uc, rfl⟩, d0, d1, r0, r1, f0, f1, hbx, hwd, hbl⟩ := HEND.out _ _ _ H6.out
      have HX : Hid _ := (⟨hbx, hwd, hbl⟩ : _ ∧ _ ∧ _)
      clear hbx hwd hbl
      go_wp2_with fail
      obtain ⟨⟨j0, j1⟩, hwd, hbl⟩ := HX.out
      refine bodyPost_ret (v := .agg #[.slice ua un uc, .string q]) (by simp [results, Tryd.results23, go_sem, j0, j1]; try rfl) rfl ?_
      exact ⟨_, rfl, hwd, hbl⟩
  · have h1i : ¬ (name.size : Int) = 1 := by omega
    have h1b : ((name.size : Int) == 1) = false := by simpa using h1i
    have HU2 : Hid (usesB name = takeU cB (takeU cA [])) := by unfold Hid; rw [HUB.out, if_neg (fun h => h1 h.1)]
    rw [HU2.out]
    go_enter Tryd.func23, Tryd.ntmps23
    go_wp2_with fail
    rw [← hw1]
    clear hw1
    refine HQ.out.mono ?_
    rintro e w2 ⟨rfl, h2⟩
    have HB2 : Hid _ := HZ.out w2 h2
    clear h2
    go_wp2_with fail
    refine (HT1.out _ _ HB2.out).mono ?_
    rintro e w4 ⟨rfl, h4⟩
    have H4 : Hid _ := h4
    clear h4
    go_wp2_with fail
    refine (HT2.out _ _ H4.out).mono ?_
    rintro e w5 ⟨rfl, h5⟩
    have H5 : Hid _ := h5
    clear h5
    obtain ⟨vU, ⟨ua, un, uc, rfl⟩, d0, d1, r0, r1, f0, f1, hbx, hwd, hbl⟩ := HEND.out _ _ _ H5.out
    have HX : Hid _ := (⟨hbx, hwd, hbl⟩ : _ ∧ _ ∧ _)
    clear hbx hwd hbl
    go_wp2_with fail
    obtain ⟨⟨j0, j1⟩, hwd, hbl⟩ := HX.out
    refine bodyPost_ret (v := .agg #[.slice ua un uc, .string q]) (by simp [results, Tryd.results23, go_sem, j0, j1]; try rfl) rfl ?_
    exact ⟨_, rfl, hwd, hbl⟩
end Go.Proofs.YtgbleikjdecikaaDoor
