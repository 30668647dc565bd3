/-
  ofAll and apply, of O, Or, u, r.
-/
import Derived.Test.YtedepknbaakkhaaGreatDoorM22
namespace Go.Proofs.YtedepknbaakkhaaGreatDoor
open Go.RowKit Go.Shelf Go.Sort

theorem grown_below {base : Nat} {v : Value} {w w' : World} (hg : w.grownBy w' v.ownBlock) (hv : ∀ k, v.ownBlock = some k → base ≤ k) (hb : base ≤ w.heap.size) : Below base w w' :=
  (Below.refl base w).grown hg hb hv
/-- What a modifier that looks at all words makes. -/
def OfAll (m : Md) (g : List ByteArray → List ByteArray) : Prop :=
  (∀ l, Few l → Few (g l)) ∧ ∀ base v l w, w.ownsRow base 9 1 v l.length (l.map Value.string) → Few l → base ≤ w.heap.size →
  Calls Tryz.prog 39 #[.agg m.cells, v] w fun e w' => Below base w w' ∧ ∃ v', e = .returned v' ∧ w'.ownsRow base 9 1 v' (g l).length ((g l).map Value.string)
theorem own_alloc {base : Nat} {v : Value} {w : World} {n : Nat} {xs : List Value} (h : w.ownsRow base 9 1 v n xs) (o : Obj) : (w.alloc o).ownsRow base 9 1 v n xs := h.alloc o

set_option maxRecDepth 20000 in
set_option maxHeartbeats 1600000 in
theorem ofAll_o (m : Md) (hk : m.kind = ⟨#[79]⟩) (hfew : ∀ l, Few l → Few (sortedL l)) : OfAll m sortedL := by
  refine ⟨hfew, fun base v l w ho hf hb => ?_⟩
  have HS : Hid (∀ W, W.ownsRow base 9 1 v l.length (l.map Value.string) → Calls Tryz.prog 71 #[v] W fun e w' => e = .returned (.tuple #[]) ∧ w'.ownsRow base 9 1 v l.length ((sortedL l).map Value.string) ∧ W.grownBy w' v.ownBlock) := fun W h => sort_own v l base W h (by have := hf.1; omega)
  have HO : Hid (w.ownsRow base 9 1 v l.length (l.map Value.string) ∧ base ≤ w.heap.size) := ⟨ho, hb⟩
  obtain ⟨a, c, rfl⟩ := owns_slice ho
  clear ho hb hf hfew
  obtain ⟨kind, ma, mb, bg, en, ex, al, on, mks, ots, frm, upto⟩ := m
  dsimp only at hk
  subst hk
  unfold Md.cells
  go_enter Tryz.func39, Tryz.ntmps39
  go_wp2_with fail
  refine (HS.out _ (HO.out.1.alloc _)).mono ?_
  rintro e w1 ⟨rfl, h1, h2⟩
  have HZ : Hid (w1.ownsRow base 9 1 (.slice a l.length c) (sortedL l).length ((sortedL l).map Value.string) ∧ Below base w w1) := ⟨by rw [sorted_length]; exact h1, ((Below.refl base w).alloc HO.out.2 _).trans (grown_below h2 (fun k hk => (HO.out.1.lt k hk).1) (by simp; have := HO.out.2; omega))⟩
  clear h1 h2
  go_wp2
  go_ret
  exact ⟨HZ.out.2, _, rfl, HZ.out.1⟩

set_option maxRecDepth 20000 in
set_option maxHeartbeats 1600000 in
theorem ofAll_r (m : Md) (hk : m.kind = ⟨#[114]⟩) (hfew : ∀ l, Few l → Few (List.reverse l)) : OfAll m List.reverse := by
  refine ⟨hfew, fun base v l w ho hf hb => ?_⟩
  have HS : Hid (∀ W, W.ownsRow base 9 1 v l.length (l.map Value.string) → Calls Tryz.prog 72 #[v] W fun e w' => e = .returned (.tuple #[]) ∧ w'.ownsRow base 9 1 v l.length (l.reverse.map Value.string) ∧ W.grownBy w' v.ownBlock) := fun W h => rev_own v l base W h (by have := hf.1; omega)
  have HO : Hid (w.ownsRow base 9 1 v l.length (l.map Value.string) ∧ base ≤ w.heap.size) := ⟨ho, hb⟩
  obtain ⟨a, c, rfl⟩ := owns_slice ho
  clear ho hb hf hfew
  obtain ⟨kind, ma, mb, bg, en, ex, al, on, mks, ots, frm, upto⟩ := m
  dsimp only at hk
  subst hk
  unfold Md.cells
  go_enter Tryz.func39, Tryz.ntmps39
  go_wp2_with fail
  refine (HS.out _ (HO.out.1.alloc _)).mono ?_
  rintro e w1 ⟨rfl, h1, h2⟩
  have HZ : Hid (w1.ownsRow base 9 1 (.slice a l.length c) (l.reverse).length ((l.reverse).map Value.string) ∧ Below base w w1) := ⟨by rw [List.length_reverse]; exact h1, ((Below.refl base w).alloc HO.out.2 _).trans (grown_below h2 (fun k hk => (HO.out.1.lt k hk).1) (by simp; have := HO.out.2; omega))⟩
  clear h1 h2
  go_wp2
  go_ret
  exact ⟨HZ.out.2, _, rfl, HZ.out.1⟩

set_option maxRecDepth 20000 in
set_option maxHeartbeats 1600000 in
theorem ofAll_or (m : Md) (hk : m.kind = ⟨#[79, 114]⟩) (hfew : ∀ l, Few l → Few (sortedL l).reverse) : OfAll m (fun l => (sortedL l).reverse) := by
  refine ⟨hfew, fun base v l w ho hf hb => ?_⟩
  have HS : Hid (∀ W, W.ownsRow base 9 1 v l.length (l.map Value.string) → Calls Tryz.prog 71 #[v] W fun e w' => e = .returned (.tuple #[]) ∧ w'.ownsRow base 9 1 v l.length ((sortedL l).map Value.string) ∧ W.grownBy w' v.ownBlock) := fun W h => sort_own v l base W h (by have := hf.1; omega)
  have HRv : Hid (∀ W, W.ownsRow base 9 1 v (sortedL l).length ((sortedL l).map Value.string) → Calls Tryz.prog 72 #[v] W fun e w' => e = .returned (.tuple #[]) ∧ w'.ownsRow base 9 1 v (sortedL l).length ((sortedL l).reverse.map Value.string) ∧ W.grownBy w' v.ownBlock) := fun W h => rev_own v (sortedL l) base W h (by have := hf.1; rw [sorted_length]; omega)
  have HO : Hid (w.ownsRow base 9 1 v l.length (l.map Value.string) ∧ base ≤ w.heap.size) := ⟨ho, hb⟩
  obtain ⟨a, c, rfl⟩ := owns_slice ho
  clear ho hb hf hfew
  obtain ⟨kind, ma, mb, bg, en, ex, al, on, mks, ots, frm, upto⟩ := m
  dsimp only at hk
  subst hk
  unfold Md.cells
  go_enter Tryz.func39, Tryz.ntmps39
  go_wp2_with fail
  refine (HS.out _ (HO.out.1.alloc _)).mono ?_
  rintro e w1 ⟨rfl, h1, h2⟩
  have HZ : Hid (w1.ownsRow base 9 1 (.slice a l.length c) (sortedL l).length ((sortedL l).map Value.string) ∧ Below base w w1) := ⟨by rw [sorted_length]; exact h1, ((Below.refl base w).alloc HO.out.2 _).trans (grown_below h2 (fun k hk => (HO.out.1.lt k hk).1) (by simp; have := HO.out.2; omega))⟩
  clear h1 h2
  go_wp2_with fail
  refine (HRv.out _ HZ.out.1).mono ?_
  rintro e w2 ⟨rfl, h1, h2⟩
  have HZ2 : Hid (w2.ownsRow base 9 1 (.slice a l.length c) ((sortedL l).reverse).length (((sortedL l).reverse).map Value.string) ∧ Below base w w2) := ⟨by rw [List.length_reverse]; exact h1, HZ.out.2.trans (grown_below h2 (fun k hk => (HZ.out.1.lt k hk).1) (Nat.le_trans HO.out.2 HZ.out.2.size))⟩
  clear h1 h2
  go_wp2
  go_ret
  exact ⟨HZ2.out.2, _, rfl, HZ2.out.1⟩

set_option maxRecDepth 20000 in
set_option maxHeartbeats 1600000 in
theorem ofAll_u (m : Md) (hk : m.kind = ⟨#[117]⟩) (hfew : ∀ l, Few l → Few (compactL l)) : OfAll m compactL := by
  refine ⟨hfew, fun base v l w ho hf hb => ?_⟩
  have HS : Hid (∀ W, W.ownsRow base 9 1 v l.length (l.map Value.string) → Calls Tryz.prog 73 #[v] W fun e w' => ∃ v', e = .returned v' ∧ w'.ownsRow base 9 1 v' (compactL l).length ((compactL l).map Value.string) ∧ W.grownBy w' v.ownBlock) := fun W h => compact_own v l base W h (by have := hf.1; omega)
  have HO : Hid (w.ownsRow base 9 1 v l.length (l.map Value.string) ∧ base ≤ w.heap.size) := ⟨ho, hb⟩
  obtain ⟨a, c, rfl⟩ := owns_slice ho
  clear ho hb hf hfew
  obtain ⟨kind, ma, mb, bg, en, ex, al, on, mks, ots, frm, upto⟩ := m
  dsimp only at hk
  subst hk
  unfold Md.cells
  go_enter Tryz.func39, Tryz.ntmps39
  go_wp2_with fail
  refine (HS.out _ (HO.out.1.alloc _)).mono ?_
  rintro e w1 ⟨v2, rfl, h1, h2⟩
  have HZ : Hid (w1.ownsRow base 9 1 v2 (compactL l).length ((compactL l).map Value.string) ∧ Below base w w1) := ⟨h1, ((Below.refl base w).alloc HO.out.2 _).trans (grown_below h2 (fun k hk => (HO.out.1.lt k hk).1) (by simp; have := HO.out.2; omega))⟩
  clear h1 h2
  go_wp2
  go_ret
  exact ⟨HZ.out.2, _, rfl, HZ.out.1⟩

set_option maxRecDepth 20000 in
set_option maxHeartbeats 1600000 in
theorem applies_all (m : Md) (g : List ByteArray → List ByteArray) (hk : m.kind ∈ allL) (ho : OfAll m g) : Applies m (fun l => some (g l)) := by
  refine ⟨fun l r h1 h2 => by cases h2; exact ho.1 l h1, fun base v l w hr hf hm hb hbs => ?_⟩
  have HT : Hid (∀ W : World, W.cell? ⟨w.heap.size + 1, 0, none⟩ = some (.string m.kind) → Calls Tryz.prog 38 #[.pointer (some ⟨w.heap.size + 1, 0, none⟩)] W fun e w' => e = .returned .nilFunc ∧ W = w') := fun W hW => toWord_nil _ _ hk W hW
  have HO : Hid (∀ W, W.ownsRow base 9 1 v l.length (l.map Value.string) → base ≤ W.heap.size → Calls Tryz.prog 39 #[.agg m.cells, v] W fun e w' => Below base W w' ∧ ∃ v', e = .returned v' ∧ w'.ownsRow base 9 1 v' (g l).length ((g l).map Value.string)) := fun W h1 h2 => ho.2 base v l W h1 hf h2
  have HF : Hid (∀ W v', W.ownsRow base 9 1 v' (g l).length ((g l).map Value.string) → Calls Tryz.prog 22 #[v'] W fun e w' => e = .returned (.bool true) ∧ W = w') := fun W v' h1 => by
    obtain ⟨a, c, rfl⟩ := owns_slice h1
    have hfr := ho.1 l hf
    have := few_any a _ c (g l) W.heap.size W (words_of_owns h1 (Nat.le_refl _)) (by have := hfr.1; omega) (fun y hy => by have := size_mem hy; have := hfr.2; omega)
    rw [decide_eq_true ⟨hfr.1, hfr.2⟩] at this; exact this
  have HR : Hid (w.ownsRow base 9 1 v l.length (l.map Value.string) ∧ base ≤ w.heap.size) := ⟨hr, hbs⟩
  have hneq := nil_neq
  clear hr hf hm hb hbs ho hk
  obtain ⟨kind, ma, mb, bg, en, ex, al, on, mks, ots, frm, upto⟩ := m
  unfold Md.cells at HO ⊢
  dsimp only at HO HT ⊢
  go_enter Tryz.func24, Tryz.ntmps24
  go_wp2_with fail
  refine (HT.out _ (by rw [World.cell?, heap_alloc_new']; rfl)).mono ?_
  rintro e w' ⟨rfl, rfl⟩
  go_wp2_with fail
  refine (HO.out _ ((HR.out.1.alloc _).alloc _) (by simp; have := HR.out.2; omega)).mono ?_
  rintro e w2 ⟨hb2, v2, rfl, ho2⟩
  have HZ : Hid (Below base w w2 ∧ w2.ownsRow base 9 1 v2 (g l).length ((g l).map Value.string)) := ⟨(((Below.refl base w).alloc HR.out.2 _).alloc (by simp; have := HR.out.2; omega) _).trans hb2, ho2⟩
  clear hb2 ho2
  go_wp2_with fail
  refine (HF.out _ _ HZ.out.2).mono ?_
  rintro e w' ⟨rfl, rfl⟩
  go_wp2
  go_ret2
  exact ⟨HZ.out.1, v2, rfl, HZ.out.2⟩
end Go.Proofs.YtedepknbaakkhaaGreatDoor
