/-
  What variable and use do, given what text does.
-/
import Derived.Test.YtkelmhpoplbacaaGreatDoorX7
namespace Go.Proofs.YtkelmhpoplbacaaGreatDoor.Ex
open Go.RowKit Go.Shelf

section
variable {B : Nat} {w0 : World} {bw : Nat} {pv : Value} {tx : List ByteArray → Nat → ByteArray → Res}
theorem cell_one (w : World) (T : TypeId) (x : ByteArray) : ∀ j u, ([.string x] : List Value)[j]? = some u → (w.alloc (.cells #[.string x] T)).cell? ((⟨w.heap.size, 0, none⟩ : Addr).add j) = some u := by
  intro j u hj
  match j, hj with
  | 0, hj => simp at hj; subst hj; simp [Addr.add]
set_option maxRecDepth 20000 in
set_option maxHeartbeats 1600000 in
theorem var_go (hT : TextC B w0 bw pv tx) (within : List ByteArray) (fuel : Nat) (name v : ByteArray) (vw : Value) (W : World) (h : WkAt B bw pv fuel vw within W) (hW : Below B w0 W) (hl : within.length < 32) (hi : isIn within name = false) (hf : v.size ≤ fuel) (hfu : fuel ≤ 10000000) (hv : v.size ≤ 1000000) (r : Res) (hr : r = tx (within ++ [name]) (fuel - v.size) v) (hbad : r ≠ .bad) :
    Calls Tryz.prog 182 #[pV bw, .string name, .string v] W (ResPost B bw pv within vw W r) := by
  obtain ⟨i0, hi0, hz0, hz1, hz2⟩ := info_of infoS
  have HC : Hid (Calls Tryz.prog 60 #[vw, .string name] W fun e w' => e = .returned (.bool false) ∧ W = w') := by
    have := contains_any h.row name (by omega); rw [hi] at this; exact this
  obtain ⟨f2, hf2⟩ : ∃ f2, f2 = fuel - v.size := ⟨_, rfl⟩
  have HB : Hid (Calls Tryz.prog 173 #[pV bw, .int .i64 (v.size : Int)] W fun e w' => e = .returned (.tuple #[]) ∧ W.setCell ⟨bw, 1, none⟩ (.int .i64 (f2 : Int)) = w') := by rw [hf2]; exact burn_ok bw _ _ v.size fuel W h.blk hf hfu
  obtain ⟨a, c, hvw⟩ := V.owns_slice h.row
  have c2 : W.cell? ⟨bw, 2, none⟩ = some vw := V.cell_in h.blk 2 rfl
  obtain ⟨w1, hw1⟩ : ∃ w1, w1 = W.setCell ⟨bw, 1, none⟩ (.int .i64 (f2 : Int)) := ⟨_, rfl⟩
  have H1 : Hid (WkAt B bw pv f2 vw within w1 ∧ Fr (FD bw vw) W w1 ∧ Below B w0 w1) := by
    have h1 := h.burn f2
    rw [← hw1] at h1
    have h2 : Fr (FD bw vw) W w1 := by rw [hw1]; exact Fr.set bw 1 W _ (.inl rfl)
    exact ⟨h1, h2, hW.trans (h.fr_low h2)⟩
  rw [← hw1] at HB
  have d2 : w1.cell? ⟨bw, 2, none⟩ = some vw := V.cell_in H1.out.1.blk 2 rfl
  have hbl := H1.out.1.lt
  have hlow := H1.out.1.low
  have hrow := H1.out.1.row
  obtain ⟨n, hn⟩ : ∃ n, n = within.length := ⟨_, rfl⟩
  have HN : Hid (n = within.length) := hn
  rw [← hn] at hvw hl hrow
  subst hvw
  have h1 : ¬ (n : Int) = 32 := by omega
  have h1b : ((n : Int) == 32) = false := by rw [beq_eq_false_iff_ne]; exact h1
  have HT : Hid (∀ vw2 W2, WkAt B bw pv f2 vw2 (within ++ [name]) W2 → Below B w0 W2 → Calls Tryz.prog 114 #[pV bw, .string v] W2 (ResPost B bw pv (within ++ [name]) vw2 W2 r)) := fun vw2 W2 h1 h2 => by
    rw [hr]
    rw [← hf2] at hr ⊢
    exact hT (within ++ [name]) f2 v vw2 W2 h1 h2 hv (by omega) (by simp; omega) (by rw [← hr]; exact hbad)
  have HG : Hid (∀ (w2 : World) (o2 : Obj) (v2 : Value), (w1.alloc o2).grownBy w2 (Value.slice a n c).ownBlock → w2.ownsRow B 9 1 v2 (n + 1) (within.map Value.string ++ [.string name]) → (v2.ownBlock = (Value.slice a n c).ownBlock ∨ v2.ownBlock = some (w1.heap.size + 1)) → w2.cell? ⟨bw, 2, none⟩ = some (.slice a n c) ∧ w2.frozen? ⟨bw, 2, none⟩ = false ∧ WkAt B bw pv f2 v2 (within ++ [name]) (w2.setCell ⟨bw, 2, none⟩ v2) ∧ Fr (FD bw (.slice a n c)) W (w2.setCell ⟨bw, 2, none⟩ v2) ∧ Moved (.slice a n c) v2 W ∧ Below B w0 (w2.setCell ⟨bw, 2, none⟩ v2)) := by
    intro w2 o2 v2 hgr hown hloc
    obtain ⟨q1, q2, q3⟩ := H1.out
    have hf : Fr (fun j => (Value.slice a n c).ownBlock = some j) w1 w2 := (Fr.alloc _ o2).trans (Fr.grown hgr (fun g hg => hg))
    have hb2 := (hf.block bw hbl q1.nw).trans q1.blk
    have hm : Moved (.slice a n c) v2 w1 := fun g hg => by
      rcases hloc with e | e
      · exact .inl (e ▸ hg)
      · rw [e] at hg; have := Option.some.inj hg; exact .inr (by omega)
    obtain ⟨p1, p2, p3⟩ := q1.push (name := name) hf (by rw [← HN.out]; exact hown) hm
    have hmW : Moved (.slice a n c) v2 W := fun g hg => by
      rcases hm g hg with e | e
      · exact .inl e
      · exact .inr (Nat.le_trans q2.size e)
    have hfr := q2.next (Moved.refl _ _) p2
    exact ⟨V.cell_in hb2 2 rfl, by simp [World.frozen?, hb2], p1, hfr, hmW, hW.trans (h.fr_low hfr)⟩
  unfold pV at HB ⊢
  have HH : Hid (WkAt B bw pv fuel (.slice a n c) within W) := h
  clear h hi hf2 hr hn hW hT hw1
  go_enter Tryz.func182, Tryz.ntmps182
  go_wp2_with fail
  refine HC.out.mono ?_
  rintro e w' ⟨rfl, rfl⟩
  go_wp2_with fail
  refine HB.out.mono ?_
  rintro e w' ⟨rfl, rfl⟩
  clear c2 HC HB
  go_wp2_with (at_builtin; refine wpList_append_own_at _ rfl _ _ 24 rfl B 9 i0 (.string ⟨#[]⟩) 1 16 Tryz.underlying24 hi0 hz0 hz1 hz2 rfl (by decide) _ _ _ rfl (hrow.alloc _) ⟨w1.heap.size, 0, none⟩ 1 1 [.string name] rfl rfl (cell_one _ _ _) (by intro u hu; simp at hu; subst hu; rfl) (by unfold maxLen; omega) (by omega) (by simp; omega) ?_)
  intro v2 w2 hown hgrow _ hloc
  obtain ⟨k2, g2, hw3, hfr3, hmv3, hlow3⟩ := HG.out w2 _ v2 hgrow hown hloc
  obtain ⟨a2, cp2, hv2⟩ := V.owns_slice hown
  subst hv2
  have H3 : Hid (WkAt B bw pv f2 (.slice a2 (n + 1) cp2) (within ++ [name]) (w2.setCell ⟨bw, 2, none⟩ (.slice a2 (n + 1) cp2)) ∧ Fr (FD bw (.slice a n c)) W (w2.setCell ⟨bw, 2, none⟩ (.slice a2 (n + 1) cp2)) ∧ Moved (.slice a n c) (.slice a2 (n + 1) cp2) W ∧ Below B w0 (w2.setCell ⟨bw, 2, none⟩ (.slice a2 (n + 1) cp2))) := ⟨hw3, hfr3, hmv3, hlow3⟩
  clear hown hgrow hloc hw3 hfr3 hmv3 hlow3 d2 hrow
  go_wp2_with fail
  refine (HT.out _ _ H3.out.1 H3.out.2.2.2).mono ?_
  intro e w4 hpost
  cases r with
  | bad => exact absurd rfl hbad
  | err x =>
    obtain ⟨rfl, hb4⟩ := hpost
    have H4 : Hid (Below B w0 w0 → True) := fun _ => trivial
    have H5 : Hid (Below B (w2.setCell ⟨bw, 2, none⟩ (.slice a2 (n + 1) cp2)) w4) := hb4
    clear hb4 k2 g2
    unfold pan
    go_wp2
    exact ⟨rfl, rfl, (HH.out.fr_low H3.out.2.1).trans H5.out⟩
  | ok u f =>
    obtain ⟨rfl, hu, hf5, vw5, hk5, hfr5, hmv5⟩ := hpost
    have hr5 := hk5.row
    rw [List.length_append, List.length_singleton] at hr5
    rcases V.row_src hr5 with ⟨_, e0, _⟩ | ⟨g5, cap5, hv5, _, hcap5, _, _⟩
    · omega
    · rw [← HN.out] at hv5 hcap5
      subst hv5
      have hk5' : WkAt B bw pv f (.slice (some ⟨g5, 0, none⟩) (within.length + 1) cap5) (within ++ [name]) w4 := by rw [← HN.out]; exact hk5
      have H5 : Hid (WkAt B bw pv f (.slice (some ⟨g5, 0, none⟩) (within.length + 1) cap5) (within ++ [name]) w4 ∧ Fr (FD bw (.slice a n c)) W w4 ∧ Moved (.slice a n c) (.slice (some ⟨g5, 0, none⟩) (n + 1) cap5) W ∧ u.size ≤ 1000000 ∧ f ≤ 10000000) := ⟨hk5', H3.out.2.1.next H3.out.2.2.1 hfr5, H3.out.2.2.1.next H3.out.2.1.size hmv5, hu, hf5⟩
      have k5 : w4.cell? ⟨bw, 2, none⟩ = some (.slice (some ⟨g5, 0, none⟩) (n + 1) cap5) := V.cell_in hk5.blk 2 rfl
      have f5 : w4.frozen? ⟨bw, 2, none⟩ = false := by simp [World.frozen?, hk5.blk]
      have hci : (n : Int) ≤ (cap5 : Int) := by omega
      clear hk5 hk5' hfr5 hmv5 hr5 k2 g2 hu hf5
      have hwr : IntKind.i64.wrap ((n : Int) + 1 - 1) = (n : Int) := by rw [IntKind.wrap_i64]; omega
      have hwr2 : IntKind.i64.wrap (n : Int) = (n : Int) := by rw [IntKind.wrap_i64]; omega
      have hn0 : ¬ (n : Int) < 0 := by omega
      go_wp2_with fail
      go_region_with (fail)
      all_goals
        go_wp2
        go_ret
        obtain ⟨q1, q2, q3, q4, q5⟩ := H5.out
        have hp := WkAt.pop (w := w4.drew) ⟨q1.blk, q1.row.kept (row := none) ⟨rfl, rfl, rfl, Nat.le_refl _, fun _ _ _ => rfl⟩ (Classical.em _), q1.hb⟩
        rw [← HN.out] at hp
        exact ⟨rfl, q4, q5, _, hp, (q2.trans (Fr.drew _)).trans (Fr.set bw 2 _ _ (.inl rfl)), fun g hg => q3 g hg⟩
end
end Go.Proofs.YtkelmhpoplbacaaGreatDoor.Ex
