/-
  What whole answers.
-/
import Derived.Test.YtefhpoklehmlhaaDoorL3b
namespace Go.Proofs.YtefhpoklehmlhaaDoor
open Go.RowKit Go.Shelf

theorem Words.cons {B : Nat} {W : World} {v : Value} {r : List UInt8} {R : List (List UInt8)} (h : Words B W v ((r :: R).map ba)) : ∃ b o c, v = .slice (some ⟨b, o, none⟩) (R.length + 1) c ∧ b < B ∧ R.length + 1 ≤ c ∧ W.cell? ⟨b, o, none⟩ = some (.string (ba r)) := by
  obtain ⟨b, o, c, h1, h2, h3, h4⟩ := h.at (by simp)
  refine ⟨b, o, c, by simpa using h1, h2, by simpa using h3, ?_⟩
  have := h4 0 (by simp)
  simpa using this

theorem heap_set {w : World} {b i : Nat} {cs : Array Value} {T : TypeId} (h : w.heap[b]? = some (.cells cs T (0, 0))) (x : Value) : (w.setCell ⟨b, i, none⟩ x).heap[b]? = some (.cells (cs.setIfInBounds i x) T (0, 0)) := by
  simp [World.setCell, Array.getElem?_modify, h]
theorem box3 {w : World} {b : Nat} {a0 a1 a2 : Value} {T : TypeId} (h : w.heap[b]? = some (.cells #[a0, a1, a2] T (0, 0))) (x y z : Value) :
    (w.setCell ⟨b, 0, none⟩ x).cell? ⟨b, 0, none⟩ = some x ∧ ((w.setCell ⟨b, 0, none⟩ x).setCell ⟨b, 1, none⟩ y).cell? ⟨b, 1, none⟩ = some y ∧ (((w.setCell ⟨b, 0, none⟩ x).setCell ⟨b, 1, none⟩ y).setCell ⟨b, 2, none⟩ z).cell? ⟨b, 2, none⟩ = some z ∧ (((w.setCell ⟨b, 0, none⟩ x).setCell ⟨b, 1, none⟩ y).setCell ⟨b, 2, none⟩ z).heap[b]? = some (.cells #[x, y, z] T (0, 0)) := by
  have h1 := heap_set (i := 0) h x
  have h2 := heap_set (i := 1) h1 y
  have h3 := heap_set (i := 2) h2 z
  exact ⟨cell_in h1 0 rfl, cell_in h2 1 rfl, cell_in h3 2 rfl, h3⟩
theorem below_set3 {w w1 : World} {B b : Nat} (h : Below B w w1) (hb : B ≤ b) (x y z : Value) : Below B w (((w1.setCell ⟨b, 0, none⟩ x).setCell ⟨b, 1, none⟩ y).setCell ⟨b, 2, none⟩ z) :=
  ((h.setCell (p := ⟨b, 0, none⟩) hb x).setCell (p := ⟨b, 1, none⟩) hb y).setCell (p := ⟨b, 2, none⟩) hb z
theorem box_kept {w w1 : World} {cs : Array Value} {T : TypeId} (h : Below (w.alloc (.cells cs T)).heap.size (w.alloc (.cells cs T)) w1) : w1.heap[w.heap.size]? = some (.cells cs T (0, 0)) := by
  rw [h.block w.heap.size (by simp)]
  show (w.heap.push _)[w.heap.size]? = _
  simp

set_option maxRecDepth 20000 in
set_option maxHeartbeats 400000 in
theorem whole_any (R : List (List UInt8)) (v : Value) (w : World) (hne : R ≠ []) (hz : wt R ≤ 1000000) (hm : Mx w) (hW : Words w.heap.size w v (R.map ba)) :
    Calls Tryd.prog 24 #[v] w fun e w' => e = .returned (.agg #[.string (ba (Ln.wholeT R)), .int .i64 0, .bool (Ln.isCmd R)]) ∧ Below w.heap.size w w' := by
  obtain ⟨r, R', rfl⟩ := List.exists_cons_of_ne_nil hne
  obtain ⟨b, o, c, hv, hb, hc, hcell⟩ := hW.cons
  have HA : Hid (∀ W, Below w.heap.size w W → Calls Tryd.prog 41 #[v] W fun e w' => e = .returned (.string (ba (Ln.commandT (r :: R')))) ∧ Below W.heap.size W w') := fun W hB => command_any (r :: R') v W (by simp) hz ((hW.below hB).mono hB.size)
  have HJ : Hid (∀ W, Below w.heap.size w W → Calls Tryd.prog 43 #[v] W fun e w' => e = .returned (.string (ba (Ln.joinT true (r :: R')))) ∧ Below W.heap.size W w') := fun W hB => joined_any (r :: R') v W (by simp) hz ((hW.below hB).mono hB.size)
  have HN : Hid (∀ W, Mx W → Calls Tryd.prog 42 #[.string (ba (Ln.joinT true (r :: R')))] W fun e w' => e = .returned (.string (ba (Ln.bareT (Ln.joinT true (r :: R'))))) ∧ Below W.heap.size W w') := fun W hM => by
    have := withoutNote_any (ba (Ln.joinT true (r :: R'))) W (by have := join_len true (r :: R'); rw [ba_size]; omega) hM
    rwa [bl_ba] at this
  have HM : Hid (Mx w) := hm
  obtain ⟨x, hx⟩ : ∃ x, x = ba r := ⟨_, rfl⟩
  rw [← hx] at hcell
  have HP : Hid (∀ W, Calls Tryd.prog 40 #[.string x, .string ⟨#[9]⟩] W fun e w' => e = .returned (.bool (Ln.isCmd (r :: R'))) ∧ W = w') := fun W =>
    (Tryd.strings_HasPrefix x ⟨#[9]⟩ W).mono fun e w' h => ⟨by rw [h.1, hx]; simp [ba, Ln.isCmd], h.2.symm⟩
  have hl : R'.length + 1 ≤ 1000000 := by have := wt_len (r :: R'); simp at this; omega
  obtain ⟨n, hn⟩ : ∃ n, n = R'.length := ⟨_, rfl⟩
  rw [← hn] at hc hv hl
  subst hv
  clear hW hm hx hn hz
  cases hcm : Ln.isCmd (r :: R') with
  | true =>
    have HE : Hid (Ln.wholeT (r :: R') = Ln.commandT (r :: R')) := by unfold Hid Ln.wholeT; rw [hcm, if_pos rfl]
    rw [hcm] at HP
    clear hcm HJ HN
    go_enter Tryd.func24, Tryd.ntmps24
    go_wp2_with fail
    refine (HP.out _).mono ?_
    rintro e w0 ⟨rfl, rfl⟩
    go_wp2_with fail
    refine (HA.out _ ((Below.refl _ _).alloc (Nat.le_refl _) _)).mono ?_
    rintro e w1 ⟨rfl, h1⟩
    have hb1 := box_kept h1
    have H1 : Hid (Below w.heap.size w w1 ∧ w1.heap[w.heap.size]? = some (.cells #[.string ⟨#[]⟩, .int .i64 0, .bool false] 30 (0, 0))) := ⟨below_trans ((Below.refl _ _).alloc (Nat.le_refl _) _) h1 (by simp), hb1⟩
    have c0 := cell_in hb1 0 rfl
    have c1 := cell_in hb1 1 rfl
    have c2 := cell_in hb1 2 rfl
    have f0 : w1.frozen? ⟨w.heap.size, 0, none⟩ = false := by simp [World.frozen?, hb1]
    have f1 : w1.frozen? ⟨w.heap.size, 1, none⟩ = false := by simp [World.frozen?, hb1]
    have f2 : w1.frozen? ⟨w.heap.size, 2, none⟩ = false := by simp [World.frozen?, hb1]
    clear h1 hb1
    obtain ⟨g0, g1, g2, _⟩ := box3 H1.out.2 (.string (ba (Ln.commandT (r :: R')))) (.int .i64 0) (.bool true)
    go_wp2_with fail
    refine bodyPost_ret (v := .agg #[.string (ba (Ln.commandT (r :: R'))), .int .i64 0, .bool true]) (by simp [results, Tryd.results24, go_sem, g0, g1, g2]; try rfl) rfl ?_
    exact ⟨by rw [HE.out], below_set3 H1.out.1 (Nat.le_refl _) _ _ _⟩
  | false =>
    have HE : Hid (Ln.wholeT (r :: R') = Ln.bareT (Ln.joinT true (r :: R'))) := by unfold Hid Ln.wholeT; rw [hcm, if_neg (by simp)]
    rw [hcm] at HP
    clear hcm HA
    go_enter Tryd.func24, Tryd.ntmps24
    go_wp2_with fail
    refine (HP.out _).mono ?_
    rintro e w0 ⟨rfl, rfl⟩
    go_wp2_with fail
    refine (HJ.out _ ((Below.refl _ _).alloc (Nat.le_refl _) _)).mono ?_
    rintro e w1 ⟨rfl, h1⟩
    have HB1 : Hid (Below (w.alloc (.cells #[.string ⟨#[]⟩, .int .i64 0, .bool false] 30)).heap.size (w.alloc (.cells #[.string ⟨#[]⟩, .int .i64 0, .bool false] 30)) w1) := h1
    clear h1
    have hbw : Below w.heap.size w w1 := below_trans ((Below.refl _ _).alloc (Nat.le_refl _) _) HB1.out (by simp)
    have HM1 : Hid (Mx w1) := HM.out.below hbw HM.out.pos
    clear hbw
    go_wp2_with fail
    refine (HN.out _ HM1.out).mono ?_
    rintro e w2 ⟨rfl, h1⟩
    have hbb := below_trans HB1.out h1 HB1.out.size
    have hb1 := box_kept hbb
    have H1 : Hid (Below w.heap.size w w2 ∧ w2.heap[w.heap.size]? = some (.cells #[.string ⟨#[]⟩, .int .i64 0, .bool false] 30 (0, 0))) := ⟨below_trans ((Below.refl _ _).alloc (Nat.le_refl _) _) hbb (by simp), hb1⟩
    have c0 := cell_in hb1 0 rfl
    have c1 := cell_in hb1 1 rfl
    have c2 := cell_in hb1 2 rfl
    have f0 : w2.frozen? ⟨w.heap.size, 0, none⟩ = false := by simp [World.frozen?, hb1]
    have f1 : w2.frozen? ⟨w.heap.size, 1, none⟩ = false := by simp [World.frozen?, hb1]
    have f2 : w2.frozen? ⟨w.heap.size, 2, none⟩ = false := by simp [World.frozen?, hb1]
    clear h1 hb1 hbb
    obtain ⟨g0, g1, g2, _⟩ := box3 H1.out.2 (.string (ba (Ln.bareT (Ln.joinT true (r :: R'))))) (.int .i64 0) (.bool false)
    go_wp2_with fail
    refine bodyPost_ret (v := .agg #[.string (ba (Ln.bareT (Ln.joinT true (r :: R')))), .int .i64 0, .bool false]) (by simp [results, Tryd.results24, go_sem, g0, g1, g2]; try rfl) rfl ?_
    exact ⟨by rw [HE.out], below_set3 H1.out.1 (Nat.le_refl _) _ _ _⟩
end Go.Proofs.YtefhpoklehmlhaaDoor
