/-
  What the program's Parse answers.
-/
import Derived.Test.YtbgnmchnfaknkaaDoorK9
namespace Go.Proofs.YtbgnmchnfaknkaaDoor
open Go.RowKit Go.Shelf

theorem words_one {w : World} (x : ByteArray) {b : Nat} (h : w.heap[b]? = some (.cells #[.string x] 9 (0, 0))) (hb : b < w.heap.size) : Words w.heap.size w (.slice (some ⟨b, 0, none⟩) 1 1) [x] :=
  ⟨some ⟨b, 0, none⟩, 1, 1, rfl, rfl, Nat.le_refl _, fun i hi => ⟨b, 0, rfl, hb, by
    have : i = 0 := by simpa using hi
    subst this
    exact cell_in h 0 rfl⟩⟩
theorem words_set {B : Nat} {W : World} {v : Value} {l : List ByteArray} (h : Words B W v l) {r i : Nat} {cs : Array Value} {T : TypeId} (hr : W.heap[r]? = some (.cells cs T (0, 0))) (hc : cs.toList.any isStr = false) (x : Value) : Words B (W.setCell ⟨r, i, none⟩ x) v l := by
  obtain ⟨a, n, c, e1, e2, e3, e4⟩ := h
  refine ⟨a, n, c, e1, e2, e3, fun j hj => ?_⟩
  obtain ⟨b, o, f1, f2, f3⟩ := e4 j hj
  refine ⟨b, o, f1, f2, ?_⟩
  have g1 : b ≠ r := fun e => no_string hr hc (e ▸ f3)
  rw [← f3]
  unfold World.cell?
  rw [Below.heap_setCell _ _ _ _ (by exact g1)]
theorem PI.set {w W : World} (h : PI w W) {r i : Nat} (hr : w.heap.size + 2 ≤ r) (x : Value) : PI w (W.setCell ⟨r, i, none⟩ x) := by
  refine ⟨h.bel.setCell (p := ⟨r, i, none⟩) (by show w.heap.size ≤ r; omega) x, ?_, ?_, ?_, ?_⟩
  · rw [Below.heap_setCell _ _ _ _ (by show w.heap.size ≠ r; omega)]; exact h.r
  · rw [Below.heap_setCell _ _ _ _ (by show w.heap.size + 1 ≠ r; omega)]; exact h.f
  · obtain ⟨m, hm⟩ := h.mx
    refine ⟨m, ?_⟩
    rw [← hm]
    unfold World.cell?
    rw [Below.heap_setCell _ _ _ _ (by
      show 0 ≠ r
      omega)]
  · rw [size_set]; exact h.two
/-- What is left to do behind the reading of a rule into the box r. -/
theorem ru_yes (s : ByteArray) (at_ : Int) (h : Q.whyP (bl s) = 0) : Q.ruP (bl s) at_ = ⟨Q.tgts (bl s), Q.kindL (bl s), Q.srcs (bl s), Q.cmdsL (Q.cmdL (bl s)), at_⟩ ∧ Q.faultAt (bl s) at_ = 0 := by
  unfold Q.ruP Q.faultAt; rw [if_pos h, if_pos h]; exact ⟨rfl, rfl⟩
theorem ru_no (s : ByteArray) (at_ : Int) (h : ¬ Q.whyP (bl s) = 0) : Q.ruP (bl s) at_ = Q.Ru.zero ∧ Q.faultAt (bl s) at_ = at_ := by
  unfold Q.ruP Q.faultAt; rw [if_neg h, if_neg h]; exact ⟨rfl, rfl⟩

set_option maxRecDepth 20000 in
set_option maxHeartbeats 2000000 in
theorem parse_any (s : ByteArray) (at_ : Int) (w : World) (hs : s.size ≤ 4000000) (hm : Mx w) :
    Calls Tryd.prog 7 #[.string s, .int .i64 at_] w (ParsePost s at_ w) := by
  have hl1 := Q.cutOp_len [] (bl s)
  have hl2 := Q.semi_len [] (Q.cutOp [] (bl s)).2.2
  have hsz := Q.sizes (bl s) 4000000 (by rw [bl_length]; exact hs)
  rw [bl_length] at hl1
  simp only [List.length_nil, Nat.zero_add] at hl1 hl2
  have HC1 : Hid (∀ W, Calls Tryd.prog 16 #[.string s] W fun e w' => e = .returned (.tuple #[.string (ba (Q.cutOp [] (bl s)).1), .int .i64 (Q.kindL (bl s) : Nat), .string (ba (Q.cutOp [] (bl s)).2.2)]) ∧ Below W.heap.size W w') := fun W => cutop_any s W hs
  have HC2 : Hid (∀ W, Mx W → Calls Tryd.prog 17 #[.string (ba (Q.cutOp [] (bl s)).2.2), .string ⟨#[59]⟩] W fun e w' => (∃ f, e = .returned (.tuple #[.string (ba (Q.semi [] (Q.cutOp [] (bl s)).2.2).1), .string (ba (Q.semi [] (Q.cutOp [] (bl s)).2.2).2), .bool f])) ∧ Below W.heap.size W w') := fun W hM => by
    have := scut_any (ba (Q.cutOp [] (bl s)).2.2) W (by rw [ba_size]; omega) hM
    rw [bl_ba] at this; exact this
  have HF1 : Hid (∀ W, Calls Tryd.prog 18 #[.string (ba (Q.cutOp [] (bl s)).1)] W fun e w' => ∃ v, e = .returned v ∧ Words w'.heap.size w' v ((Q.tgts (bl s)).map ba) ∧ Below W.heap.size W w') := fun W => by
    have := WD.fields_any (ba (Q.cutOp [] (bl s)).1) W (by rw [ba_size]; omega)
    unfold WD.flds at this; rw [bl_ba] at this; exact this
  have HF2 : Hid (∀ W, Calls Tryd.prog 18 #[.string (ba (Q.semi [] (Q.cutOp [] (bl s)).2.2).1)] W fun e w' => ∃ v, e = .returned v ∧ Words w'.heap.size w' v ((Q.srcs (bl s)).map ba) ∧ Below W.heap.size W w') := fun W => by
    have := WD.fields_any (ba (Q.semi [] (Q.cutOp [] (bl s)).2.2).1) W (by rw [ba_size]; omega)
    unfold WD.flds at this; rw [bl_ba] at this; exact this
  have HTr : Hid (∀ W, Calls Tryd.prog 19 #[.string (ba (Q.semi [] (Q.cutOp [] (bl s)).2.2).2), .string ⟨#[32, 9]⟩] W fun e w' => e = .returned (.string (ba (Q.cmdL (bl s)))) ∧ Below W.heap.size W w') := fun W => by
    have := strim_any (ba (Q.semi [] (Q.cutOp [] (bl s)).2.2).2) W (by rw [ba_size]; omega)
    rw [bl_ba] at this; exact this
  have HWr : Hid (∀ vt vs vc W, Words W.heap.size W vt ((Q.tgts (bl s)).map ba) → Words W.heap.size W vs ((Q.srcs (bl s)).map ba) → Calls Tryd.prog 20 #[.agg #[vt, .int .i64 (Q.kindL (bl s) : Nat), vs, vc, .int .i64 at_]] W fun e w' => e = .returned (.int .i64 (Q.whyP (bl s) : Nat)) ∧ Below W.heap.size W w') := fun vt vs vc W h1 h2 =>
    wrong_any (Q.tgts (bl s)) (Q.srcs (bl s)) (Q.kindL (bl s)) vt vs vc at_ W hl1.2.2 (by omega) (by omega) h1 h2
  have HM : Hid (Mx w) := hm
  have HK : Hid (Q.kindL (bl s) ≤ 3) := hl1.2.2
  clear hl1 hl2 hsz hm
  obtain ⟨xa, hxa⟩ : ∃ x, x = ba (Q.cutOp [] (bl s)).1 := ⟨_, rfl⟩
  obtain ⟨xb, hxb⟩ : ∃ x, x = ba (Q.cutOp [] (bl s)).2.2 := ⟨_, rfl⟩
  obtain ⟨xc, hxc⟩ : ∃ x, x = ba (Q.semi [] (Q.cutOp [] (bl s)).2.2).1 := ⟨_, rfl⟩
  obtain ⟨xd, hxd⟩ : ∃ x, x = ba (Q.semi [] (Q.cutOp [] (bl s)).2.2).2 := ⟨_, rfl⟩
  obtain ⟨xe, hxe⟩ : ∃ x, x = ba (Q.cmdL (bl s)) := ⟨_, rfl⟩
  obtain ⟨k, hk⟩ : ∃ k, k = Q.kindL (bl s) := ⟨_, rfl⟩
  obtain ⟨y, hy⟩ : ∃ y, y = Q.whyP (bl s) := ⟨_, rfl⟩
  rw [← hxa, ← hxb, ← hk] at HC1
  rw [← hxb, ← hxc, ← hxd] at HC2
  rw [← hxa] at HF1
  rw [← hxc] at HF2
  rw [← hxd, ← hxe] at HTr
  rw [← hk, ← hy] at HWr
  rw [← hk] at HK
  have HQ : Hid (k = Q.kindL (bl s) ∧ y = Q.whyP (bl s) ∧ bl xe = Q.cmdL (bl s)) := ⟨hk, hy, by rw [hxe, bl_ba]⟩
  clear hxa hxb hxc hxd hxe hk hy
  go_enter Tryd.func7, Tryd.ntmps7
  go_wp2_with fail
  refine (HC1.out _).mono ?_
  rintro e w1 ⟨rfl, h1⟩
  have P1 : Hid (PI w w1) := (PI.start HM.out).below h1
  clear h1
  go_wp2_with fail
  refine (HC2.out _ P1.out.mx).mono ?_
  rintro e w2 ⟨⟨f, rfl⟩, h2⟩
  have P2 : Hid (PI w w2) := P1.out.below h2
  clear h2 P1
  go_wp2_with fail
  refine (HF1.out _).mono ?_
  rintro e w3 ⟨vt, rfl, hw3, h3⟩
  have P3 : Hid (PI w w3 ∧ Words w3.heap.size w3 vt ((Q.tgts (bl s)).map ba)) := ⟨P2.out.below h3, hw3⟩
  obtain ⟨ta, tn, tc, rfl⟩ : ∃ a n c, vt = .slice a n c := by obtain ⟨a, n, c, h, _⟩ := hw3; exact ⟨a, n, c, h⟩
  clear h3 P2 hw3
  go_wp2_with fail
  refine (HF2.out _).mono ?_
  rintro e w4 ⟨vs, rfl, hw4, h4⟩
  have P4 : Hid (PI w w4 ∧ Words w4.heap.size w4 (.slice ta tn tc) ((Q.tgts (bl s)).map ba) ∧ Words w4.heap.size w4 vs ((Q.srcs (bl s)).map ba)) := ⟨P3.out.1.below h4, (P3.out.2.below h4).mono h4.size, hw4⟩
  obtain ⟨sa, sn, sc, rfl⟩ : ∃ a n c, vs = .slice a n c := by obtain ⟨a, n, c, h, _⟩ := hw4; exact ⟨a, n, c, h⟩
  clear h4 P3 hw4
  go_wp2_with fail
  refine (HTr.out _).mono ?_
  rintro e w5 ⟨rfl, h5⟩
  have hbx := box_kept h5
  have h45 : Below w4.heap.size w4 w5 := below_trans (below_alloc1 _ _) h5 (by simp)
  have P5 : Hid (PI w w5 ∧ Words w5.heap.size w5 (.slice ta tn tc) ((Q.tgts (bl s)).map ba) ∧ Words w5.heap.size w5 (.slice sa sn sc) ((Q.srcs (bl s)).map ba) ∧ w5.heap[w4.heap.size]? = some (.cells #[.slice ta tn tc, .int .i64 (k : Int), .slice sa sn sc, .slice none 0 0, .int .i64 at_] 24 (0, 0)) ∧ w.heap.size + 2 ≤ w4.heap.size) := ⟨P4.out.1.below h45, (P4.out.2.1.below h45).mono h45.size, (P4.out.2.2.below h45).mono h45.size, hbx, P4.out.1.two⟩
  clear h5 h45 hbx P4
  obtain ⟨r, hr⟩ : ∃ r, r = w4.heap.size := ⟨_, rfl⟩
  rw [← hr] at P5 ⊢
  clear hr HC1 HC2 HF1 HF2 HTr
  by_cases hc : Q.cmdL (bl s) = []
  · have hxe0 : xe = E := bl_inj (by rw [HQ.out.2.2, hc]; rfl)
    subst hxe0
    have HCm : Hid (Words w5.heap.size w5 (.slice none 0 0) ((Q.cmdsL (Q.cmdL (bl s))).map ba)) := by
      unfold Hid Q.cmdsL; rw [if_pos hc]; exact words_nil _ _
    clear hc
    have d0 := cell_in P5.out.2.2.2.1 0 rfl
    have d1 := cell_in P5.out.2.2.2.1 1 rfl
    have d2 := cell_in P5.out.2.2.2.1 2 rfl
    have d3 := cell_in P5.out.2.2.2.1 3 rfl
    have d4 := cell_in P5.out.2.2.2.1 4 rfl
    go_wp2_with fail
    refine (HWr.out _ _ _ _ P5.out.2.1 P5.out.2.2.1).mono ?_
    rintro e w6 ⟨rfl, h6⟩
    have P6 : Hid (PI w w6 ∧ RuV w6.heap.size w6 (.agg #[.slice ta tn tc, .int .i64 (k : Int), .slice sa sn sc, .slice none 0 0, .int .i64 at_]) ⟨Q.tgts (bl s), (k : Int), Q.srcs (bl s), Q.cmdsL (Q.cmdL (bl s)), at_⟩ ∧ w6.heap[r]? = some (.cells #[.slice ta tn tc, .int .i64 (k : Int), .slice sa sn sc, .slice none 0 0, .int .i64 at_] 24 (0, 0))) := by
      have hlt : r < w5.heap.size := (Array.getElem?_eq_some_iff.1 P5.out.2.2.2.1).1
      exact ⟨P5.out.1.below h6, ⟨_, _, _, rfl, (P5.out.2.1.below h6).mono h6.size, (P5.out.2.2.1.below h6).mono h6.size, (HCm.out.below h6).mono h6.size⟩, (h6.block r hlt).trans P5.out.2.2.2.1⟩
    clear h6 d0 d1 d2 d3 d4
    have r0 := cell_in P6.out.1.r 0 rfl
    have r1 := cell_in P6.out.1.r 1 rfl
    have r2 := cell_in P6.out.1.r 2 rfl
    have r3 := cell_in P6.out.1.r 3 rfl
    have r4 := cell_in P6.out.1.r 4 rfl
    have f0 := cell_in P6.out.1.f 0 rfl
    have f1 := cell_in P6.out.1.f 1 rfl
    have z0 : w6.frozen? ⟨w.heap.size, 0, none⟩ = false := by simp [World.frozen?, P6.out.1.r]
    have z1 : w6.frozen? ⟨w.heap.size, 1, none⟩ = false := by simp [World.frozen?, P6.out.1.r]
    have z2 : w6.frozen? ⟨w.heap.size, 2, none⟩ = false := by simp [World.frozen?, P6.out.1.r]
    have z3 : w6.frozen? ⟨w.heap.size, 3, none⟩ = false := by simp [World.frozen?, P6.out.1.r]
    have z4 : w6.frozen? ⟨w.heap.size, 4, none⟩ = false := by simp [World.frozen?, P6.out.1.r]
    have y0 : w6.frozen? ⟨w.heap.size + 1, 0, none⟩ = false := by simp [World.frozen?, P6.out.1.f]
    have y1 : w6.frozen? ⟨w.heap.size + 1, 1, none⟩ = false := by simp [World.frozen?, P6.out.1.f]
    by_cases hy : y = 0
    · subst hy
      have HE := ru_yes s at_ HQ.out.2.1.symm
      have d0 := cell_in P6.out.2.2 0 rfl
      have d1 := cell_in P6.out.2.2 1 rfl
      have d2 := cell_in P6.out.2.2 2 rfl
      have d3 := cell_in P6.out.2.2 3 rfl
      have d4 := cell_in P6.out.2.2 4 rfl
      have HE2 : Hid (Q.ruP (bl s) at_ = ⟨Q.tgts (bl s), (k : Int), Q.srcs (bl s), Q.cmdsL (Q.cmdL (bl s)), at_⟩ ∧ Q.faultAt (bl s) at_ = 0) := by rw [HQ.out.1]; exact HE
      clear HE
      go_wp2_with fail
      change bodyPost Tryd.prog _ _ _ _ (out7 w6 w.heap.size (.slice ta tn tc) (.int .i64 (k : Int)) (.slice sa sn sc) (.slice none 0 0) (.int .i64 at_) (.int .i64 0) (.int .i64 0))
      have q7 := out7_heap (.slice ta tn tc) (.int .i64 (k : Int)) (.slice sa sn sc) (.slice none 0 0) (.int .i64 at_) (.int .i64 0) (.int .i64 0) P6.out.1.r P6.out.1.f
      have HR : Hid (Below w.heap.size w (out7 w6 w.heap.size (.slice ta tn tc) (.int .i64 (k : Int)) (.slice sa sn sc) (.slice none 0 0) (.int .i64 at_) (.int .i64 0) (.int .i64 0)) ∧ RuV (out7 w6 w.heap.size (.slice ta tn tc) (.int .i64 (k : Int)) (.slice sa sn sc) (.slice none 0 0) (.int .i64 at_) (.int .i64 0) (.int .i64 0)).heap.size (out7 w6 w.heap.size (.slice ta tn tc) (.int .i64 (k : Int)) (.slice sa sn sc) (.slice none 0 0) (.int .i64 at_) (.int .i64 0) (.int .i64 0)) (.agg #[.slice ta tn tc, .int .i64 (k : Int), .slice sa sn sc, (.slice none 0 0), .int .i64 at_]) ⟨Q.tgts (bl s), (k : Int), Q.srcs (bl s), Q.cmdsL (Q.cmdL (bl s)), at_⟩) :=
        ⟨out7_below _ _ _ _ _ _ _ P6.out.1, P6.out.2.1.out7 _ _ _ _ _ _ _ P6.out.1 (Nat.le_refl _)⟩
      generalize out7 w6 w.heap.size (.slice ta tn tc) (.int .i64 (k : Int)) (.slice sa sn sc) (.slice none 0 0) (.int .i64 at_) (.int .i64 0) (.int .i64 0) = w7 at q7 HR ⊢
      have c0 := cell_in q7.1 0 rfl
      have c1 := cell_in q7.1 1 rfl
      have c2 := cell_in q7.1 2 rfl
      have c3 := cell_in q7.1 3 rfl
      have c4 := cell_in q7.1 4 rfl
      have e0 := cell_in q7.2.1 0 rfl
      have e1 := cell_in q7.2.1 1 rfl
      refine bodyPost_ret (v := .tuple #[.agg #[.slice ta tn tc, .int .i64 (k : Int), .slice sa sn sc, (.slice none 0 0), .int .i64 at_], .agg #[.int .i64 0, .int .i64 0]]) (by simp [results, Tryd.results7, go_sem, c0, c1, c2, c3, c4, e0, e1]; try rfl) rfl ?_
      refine ⟨.agg #[.slice ta tn tc, .int .i64 (k : Int), .slice sa sn sc, (.slice none 0 0), .int .i64 at_], ?_, ?_, HR.out.1⟩
      · rw [HE2.out.2, ← HQ.out.2.1]; rfl
      · rw [HE2.out.1]; exact HR.out.2
    · have hyi : ¬ (y : Int) = 0 := by omega
      have hyb : ((y : Int) == 0) = false := by simpa using hyi
      have HE : Hid (Q.ruP (bl s) at_ = Q.Ru.zero ∧ Q.faultAt (bl s) at_ = at_) := ru_no s at_ (by rw [← HQ.out.2.1]; exact hy)
      clear hy
      go_wp2_with fail
      change bodyPost Tryd.prog _ _ _ _ (out7 w6 w.heap.size (.slice none 0 0) (.int .i64 0) (.slice none 0 0) (.slice none 0 0) (.int .i64 0) (.int .i64 (y : Int)) (.int .i64 at_))
      have q7 := out7_heap (.slice none 0 0) (.int .i64 0) (.slice none 0 0) (.slice none 0 0) (.int .i64 0) (.int .i64 (y : Int)) (.int .i64 at_) P6.out.1.r P6.out.1.f
      have HR : Hid (Below w.heap.size w (out7 w6 w.heap.size (.slice none 0 0) (.int .i64 0) (.slice none 0 0) (.slice none 0 0) (.int .i64 0) (.int .i64 (y : Int)) (.int .i64 at_))) := out7_below _ _ _ _ _ _ _ P6.out.1
      generalize out7 w6 w.heap.size (.slice none 0 0) (.int .i64 0) (.slice none 0 0) (.slice none 0 0) (.int .i64 0) (.int .i64 (y : Int)) (.int .i64 at_) = w7 at q7 HR ⊢
      have c0 := cell_in q7.1 0 rfl
      have c1 := cell_in q7.1 1 rfl
      have c2 := cell_in q7.1 2 rfl
      have c3 := cell_in q7.1 3 rfl
      have c4 := cell_in q7.1 4 rfl
      have e0 := cell_in q7.2.1 0 rfl
      have e1 := cell_in q7.2.1 1 rfl
      refine bodyPost_ret (v := .tuple #[.agg #[.slice none 0 0, .int .i64 0, .slice none 0 0, .slice none 0 0, .int .i64 0], .agg #[.int .i64 (y : Int), .int .i64 at_]]) (by simp [results, Tryd.results7, go_sem, c0, c1, c2, c3, c4, e0, e1]; try rfl) rfl ?_
      refine ⟨.agg #[.slice none 0 0, .int .i64 0, .slice none 0 0, .slice none 0 0, .int .i64 0], ?_, ?_, HR.out⟩
      · rw [HE.out.2, ← HQ.out.2.1]
      · rw [HE.out.1]; exact RuV.zero _ _
  · have t1 : ¬ xe.toList = [] := by rw [Lib.toList_data]; show ¬ bl xe = []; rw [HQ.out.2.2]; exact hc
    have t2 : xe.toList.isEmpty = false := nonempty (by rw [HQ.out.2.2]; exact hc)
    have HCm : Hid ((Q.cmdsL (Q.cmdL (bl s))).map ba = [xe]) := by
      unfold Hid Q.cmdsL; rw [if_neg hc, ← HQ.out.2.2, List.map_cons, ba_bl]; rfl
    clear hc
    have d0 := cell_in P5.out.2.2.2.1 0 rfl
    have d1 := cell_in P5.out.2.2.2.1 1 rfl
    have d2 := cell_in P5.out.2.2.2.1 2 rfl
    have d3 := cell_in P5.out.2.2.2.1 3 rfl
    have d4 := cell_in P5.out.2.2.2.1 4 rfl
    have g3 : w5.frozen? ⟨r, 3, none⟩ = false := by simp [World.frozen?, P5.out.2.2.2.1]
    have hrl : r < w5.heap.size := (Array.getElem?_eq_some_iff.1 P5.out.2.2.2.1).1
    go_wp2_with fail
    have HX : Hid (PI w ((w5.setCell ⟨r, 3, none⟩ (.slice (some ⟨w5.heap.size, 0, none⟩) 1 1)).alloc (.cells #[.string xe] 9)) ∧ Words w5.heap.size ((w5.setCell ⟨r, 3, none⟩ (.slice (some ⟨w5.heap.size, 0, none⟩) 1 1)).alloc (.cells #[.string xe] 9)) (.slice ta tn tc) ((Q.tgts (bl s)).map ba) ∧ Words w5.heap.size ((w5.setCell ⟨r, 3, none⟩ (.slice (some ⟨w5.heap.size, 0, none⟩) 1 1)).alloc (.cells #[.string xe] 9)) (.slice sa sn sc) ((Q.srcs (bl s)).map ba)
        ∧ ((w5.setCell ⟨r, 3, none⟩ (.slice (some ⟨w5.heap.size, 0, none⟩) 1 1)).alloc (.cells #[.string xe] 9)).heap[r]? = some (.cells #[.slice ta tn tc, .int .i64 (k : Int), .slice sa sn sc, .slice (some ⟨w5.heap.size, 0, none⟩) 1 1, .int .i64 at_] 24 (0, 0))
        ∧ ((w5.setCell ⟨r, 3, none⟩ (.slice (some ⟨w5.heap.size, 0, none⟩) 1 1)).alloc (.cells #[.string xe] 9)).heap[w5.heap.size]? = some (.cells #[.string xe] 9 (0, 0)) ∧ ((w5.setCell ⟨r, 3, none⟩ (.slice (some ⟨w5.heap.size, 0, none⟩) 1 1)).alloc (.cells #[.string xe] 9)).heap.size = w5.heap.size + 1) := by
      have hzs := size_set w5 ⟨r, 3, none⟩ (.slice (some ⟨w5.heap.size, 0, none⟩) 1 1)
      have hba := below_alloc1 (w5.setCell ⟨r, 3, none⟩ (.slice (some ⟨w5.heap.size, 0, none⟩) 1 1)) (.cells #[.string xe] 9)
      have hba5 := hba
      rw [hzs] at hba5
      refine ⟨(P5.out.1.set P5.out.2.2.2.2 _).below hba, (words_set P5.out.2.1 P5.out.2.2.2.1 rfl _).below hba5, (words_set P5.out.2.2.1 P5.out.2.2.2.1 rfl _).below hba5, ?_, ?_, by simp⟩
      · rw [Below.heap_alloc _ _ _ (by rw [hzs]; exact hrl)]
        exact heap_set (i := 3) P5.out.2.2.2.1 _
      · have := WD.alloc_at (w5.setCell ⟨r, 3, none⟩ (.slice (some ⟨w5.heap.size, 0, none⟩) 1 1)) (.cells #[.string xe] 9)
        rw [hzs] at this; exact this
    generalize (w5.setCell ⟨r, 3, none⟩ (.slice (some ⟨w5.heap.size, 0, none⟩) 1 1)).alloc (.cells #[.string xe] 9) = w55 at HX ⊢
    have hz5 := HX.out.2.2.2.2.2
    have HW5 : Hid (Words w55.heap.size w55 (.slice ta tn tc) ((Q.tgts (bl s)).map ba) ∧ Words w55.heap.size w55 (.slice sa sn sc) ((Q.srcs (bl s)).map ba) ∧ Words w55.heap.size w55 (.slice (some ⟨w5.heap.size, 0, none⟩) 1 1) ((Q.cmdsL (Q.cmdL (bl s))).map ba)) := ⟨HX.out.2.1.mono (by omega), HX.out.2.2.1.mono (by omega), by rw [HCm.out]; exact words_one xe HX.out.2.2.2.2.1 (by omega)⟩
    clear hz5 hrl g3 d0 d1 d2 d3 d4
    generalize w5.heap.size = q at HX HW5 ⊢
    refine (HWr.out _ _ _ _ HW5.out.1 HW5.out.2.1).mono ?_
    rintro e w6 ⟨rfl, h6⟩
    have P6 : Hid (PI w w6 ∧ RuV w6.heap.size w6 (.agg #[.slice ta tn tc, .int .i64 (k : Int), .slice sa sn sc, .slice (some ⟨q, 0, none⟩) 1 1, .int .i64 at_]) ⟨Q.tgts (bl s), (k : Int), Q.srcs (bl s), Q.cmdsL (Q.cmdL (bl s)), at_⟩ ∧ w6.heap[r]? = some (.cells #[.slice ta tn tc, .int .i64 (k : Int), .slice sa sn sc, .slice (some ⟨q, 0, none⟩) 1 1, .int .i64 at_] 24 (0, 0))) := by
      have hlt : r < w55.heap.size := (Array.getElem?_eq_some_iff.1 HX.out.2.2.2.1).1
      exact ⟨HX.out.1.below h6, ⟨_, _, _, rfl, (HW5.out.1.below h6).mono h6.size, (HW5.out.2.1.below h6).mono h6.size, (HW5.out.2.2.below h6).mono h6.size⟩, (h6.block r hlt).trans HX.out.2.2.2.1⟩
    clear h6 HX HW5
    have r0 := cell_in P6.out.1.r 0 rfl
    have r1 := cell_in P6.out.1.r 1 rfl
    have r2 := cell_in P6.out.1.r 2 rfl
    have r3 := cell_in P6.out.1.r 3 rfl
    have r4 := cell_in P6.out.1.r 4 rfl
    have f0 := cell_in P6.out.1.f 0 rfl
    have f1 := cell_in P6.out.1.f 1 rfl
    have z0 : w6.frozen? ⟨w.heap.size, 0, none⟩ = false := by simp [World.frozen?, P6.out.1.r]
    have z1 : w6.frozen? ⟨w.heap.size, 1, none⟩ = false := by simp [World.frozen?, P6.out.1.r]
    have z2 : w6.frozen? ⟨w.heap.size, 2, none⟩ = false := by simp [World.frozen?, P6.out.1.r]
    have z3 : w6.frozen? ⟨w.heap.size, 3, none⟩ = false := by simp [World.frozen?, P6.out.1.r]
    have z4 : w6.frozen? ⟨w.heap.size, 4, none⟩ = false := by simp [World.frozen?, P6.out.1.r]
    have y0 : w6.frozen? ⟨w.heap.size + 1, 0, none⟩ = false := by simp [World.frozen?, P6.out.1.f]
    have y1 : w6.frozen? ⟨w.heap.size + 1, 1, none⟩ = false := by simp [World.frozen?, P6.out.1.f]
    by_cases hy : y = 0
    · subst hy
      have HE := ru_yes s at_ HQ.out.2.1.symm
      have d0 := cell_in P6.out.2.2 0 rfl
      have d1 := cell_in P6.out.2.2 1 rfl
      have d2 := cell_in P6.out.2.2 2 rfl
      have d3 := cell_in P6.out.2.2 3 rfl
      have d4 := cell_in P6.out.2.2 4 rfl
      have HE2 : Hid (Q.ruP (bl s) at_ = ⟨Q.tgts (bl s), (k : Int), Q.srcs (bl s), Q.cmdsL (Q.cmdL (bl s)), at_⟩ ∧ Q.faultAt (bl s) at_ = 0) := by rw [HQ.out.1]; exact HE
      clear HE
      go_wp2_with fail
      change bodyPost Tryd.prog _ _ _ _ (out7 w6 w.heap.size (.slice ta tn tc) (.int .i64 (k : Int)) (.slice sa sn sc) (.slice (some ⟨q, 0, none⟩) 1 1) (.int .i64 at_) (.int .i64 0) (.int .i64 0))
      have q7 := out7_heap (.slice ta tn tc) (.int .i64 (k : Int)) (.slice sa sn sc) (.slice (some ⟨q, 0, none⟩) 1 1) (.int .i64 at_) (.int .i64 0) (.int .i64 0) P6.out.1.r P6.out.1.f
      have HR : Hid (Below w.heap.size w (out7 w6 w.heap.size (.slice ta tn tc) (.int .i64 (k : Int)) (.slice sa sn sc) (.slice (some ⟨q, 0, none⟩) 1 1) (.int .i64 at_) (.int .i64 0) (.int .i64 0)) ∧ RuV (out7 w6 w.heap.size (.slice ta tn tc) (.int .i64 (k : Int)) (.slice sa sn sc) (.slice (some ⟨q, 0, none⟩) 1 1) (.int .i64 at_) (.int .i64 0) (.int .i64 0)).heap.size (out7 w6 w.heap.size (.slice ta tn tc) (.int .i64 (k : Int)) (.slice sa sn sc) (.slice (some ⟨q, 0, none⟩) 1 1) (.int .i64 at_) (.int .i64 0) (.int .i64 0)) (.agg #[.slice ta tn tc, .int .i64 (k : Int), .slice sa sn sc, (.slice (some ⟨q, 0, none⟩) 1 1), .int .i64 at_]) ⟨Q.tgts (bl s), (k : Int), Q.srcs (bl s), Q.cmdsL (Q.cmdL (bl s)), at_⟩) :=
        ⟨out7_below _ _ _ _ _ _ _ P6.out.1, P6.out.2.1.out7 _ _ _ _ _ _ _ P6.out.1 (Nat.le_refl _)⟩
      generalize out7 w6 w.heap.size (.slice ta tn tc) (.int .i64 (k : Int)) (.slice sa sn sc) (.slice (some ⟨q, 0, none⟩) 1 1) (.int .i64 at_) (.int .i64 0) (.int .i64 0) = w7 at q7 HR ⊢
      have c0 := cell_in q7.1 0 rfl
      have c1 := cell_in q7.1 1 rfl
      have c2 := cell_in q7.1 2 rfl
      have c3 := cell_in q7.1 3 rfl
      have c4 := cell_in q7.1 4 rfl
      have e0 := cell_in q7.2.1 0 rfl
      have e1 := cell_in q7.2.1 1 rfl
      refine bodyPost_ret (v := .tuple #[.agg #[.slice ta tn tc, .int .i64 (k : Int), .slice sa sn sc, (.slice (some ⟨q, 0, none⟩) 1 1), .int .i64 at_], .agg #[.int .i64 0, .int .i64 0]]) (by simp [results, Tryd.results7, go_sem, c0, c1, c2, c3, c4, e0, e1]; try rfl) rfl ?_
      refine ⟨.agg #[.slice ta tn tc, .int .i64 (k : Int), .slice sa sn sc, (.slice (some ⟨q, 0, none⟩) 1 1), .int .i64 at_], ?_, ?_, HR.out.1⟩
      · rw [HE2.out.2, ← HQ.out.2.1]; rfl
      · rw [HE2.out.1]; exact HR.out.2
    · have hyi : ¬ (y : Int) = 0 := by omega
      have hyb : ((y : Int) == 0) = false := by simpa using hyi
      have HE : Hid (Q.ruP (bl s) at_ = Q.Ru.zero ∧ Q.faultAt (bl s) at_ = at_) := ru_no s at_ (by rw [← HQ.out.2.1]; exact hy)
      clear hy
      go_wp2_with fail
      change bodyPost Tryd.prog _ _ _ _ (out7 w6 w.heap.size (.slice none 0 0) (.int .i64 0) (.slice none 0 0) (.slice none 0 0) (.int .i64 0) (.int .i64 (y : Int)) (.int .i64 at_))
      have q7 := out7_heap (.slice none 0 0) (.int .i64 0) (.slice none 0 0) (.slice none 0 0) (.int .i64 0) (.int .i64 (y : Int)) (.int .i64 at_) P6.out.1.r P6.out.1.f
      have HR : Hid (Below w.heap.size w (out7 w6 w.heap.size (.slice none 0 0) (.int .i64 0) (.slice none 0 0) (.slice none 0 0) (.int .i64 0) (.int .i64 (y : Int)) (.int .i64 at_))) := out7_below _ _ _ _ _ _ _ P6.out.1
      generalize out7 w6 w.heap.size (.slice none 0 0) (.int .i64 0) (.slice none 0 0) (.slice none 0 0) (.int .i64 0) (.int .i64 (y : Int)) (.int .i64 at_) = w7 at q7 HR ⊢
      have c0 := cell_in q7.1 0 rfl
      have c1 := cell_in q7.1 1 rfl
      have c2 := cell_in q7.1 2 rfl
      have c3 := cell_in q7.1 3 rfl
      have c4 := cell_in q7.1 4 rfl
      have e0 := cell_in q7.2.1 0 rfl
      have e1 := cell_in q7.2.1 1 rfl
      refine bodyPost_ret (v := .tuple #[.agg #[.slice none 0 0, .int .i64 0, .slice none 0 0, .slice none 0 0, .int .i64 0], .agg #[.int .i64 (y : Int), .int .i64 at_]]) (by simp [results, Tryd.results7, go_sem, c0, c1, c2, c3, c4, e0, e1]; try rfl) rfl ?_
      refine ⟨.agg #[.slice none 0 0, .int .i64 0, .slice none 0 0, .slice none 0 0, .int .i64 0], ?_, ?_, HR.out⟩
      · rw [HE.out.2, ← HQ.out.2.1]
      · rw [HE.out.1]; exact RuV.zero _ _
end Go.Proofs.YtbgnmchnfaknkaaDoor
