/-
  What Reach answers.
-/
import Derived.Test.YtfcoihklihkngaaS9
namespace Go.Proofs.Ytfcoihklihkngaa
open Go.RowKit Go.Shelf Go.Maps

open Classical in
noncomputable def reachT (Sf : List S.Tx) (L : List S.Way) (name : S.Tx) : List S.Tx := if S.RightP Sf L then S.reach L name else []
def ReachPost (R : List S.Tx) (w : World) (e : Ending) (w' : World) : Prop := ∃ v, e = .returned v ∧ Below w.heap.size w w' ∧ w'.ownsRow w.heap.size 9 1 v R.length (txt R)

set_option maxRecDepth 20000 in
set_option maxHeartbeats 2000000 in
theorem reach_any (vs vw : Value) (Sf : List S.Tx) (L : List S.Way) (nm : ByteArray) (B : Nat) (w : World) (hT : Tb B w vs vw Sf L) (hs : ∀ s ∈ Sf, s.length ≤ 50) (hn : nm.size ≤ 200) :
    Calls Try.prog 12 #[.agg #[vs, vw], .string nm] w (ReachPost (reachT Sf L (bl nm)) w) := by
  have HRt : Hid (∀ W, Below w.heap.size w W → Calls Try.prog 15 #[.agg #[vs, vw]] W (RightPost Sf L W)) := fun W hW => right_any vs vw Sf L B W (hT.below (hW.mono hT.lo))
  have HSr : Hid (S.RightP Sf L → ∀ W, Below w.heap.size w W → Calls Try.prog 16 #[.agg #[vs, vw], .string nm, .map none] W (SrchPost (S.srch S.noW L (bl nm)) W)) := fun hr W hW => search_any vs vw (.map none) Sf L nm S.noW B W (hT.below (hW.mono hT.lo)) (right_ways hr hs) hn (looks_none _ _) hr.2.1
  obtain ⟨R, hR⟩ : ∃ R, R = reachT Sf L (bl nm) := ⟨_, rfl⟩
  rw [← hR]
  have HO : Hid ((¬ S.RightP Sf L → R = []) ∧ (S.RightP Sf L → R = S.reach L (bl nm))) := ⟨fun h => by rw [hR]; exact if_neg h, fun h => by rw [hR]; exact if_pos h⟩
  have HB0 : Hid (Below w.heap.size w (w.alloc (.cells #[vs, vw] 30)) ∧ (w.alloc (.cells #[vs, vw] 30)).heap[w.heap.size]? = some (.cells #[vs, vw] 30 (0, 0))) := ⟨below_alloc1 _ _, alloc_b rfl⟩
  have HSz : Hid (S.RightP Sf L → ∀ x ∈ L, x.1.length ≤ 50) := fun hr x hx => (right_ways hr hs x hx).1
  clear hT hR hs
  go_enter Try.func12, Try.ntmps12
  go_wp2_with fail
  refine (HRt.out _ HB0.out.1).mono ?_
  rintro e w1 ⟨b, rfl, hbr, hb1⟩
  have H1 : Hid (Below w.heap.size w w1 ∧ w1.heap[w.heap.size]? = some (.cells #[vs, vw] 30 (0, 0))) := ⟨below_trans HB0.out.1 hb1 HB0.out.1.size, (hb1.block _ (Array.getElem?_eq_some_iff.1 HB0.out.2).1).trans HB0.out.2⟩
  clear hb1
  cases b with
  | false =>
    have HN : Hid (R = []) := HO.out.1 (fun h => by have := hbr.2 h; cases this)
    clear hbr
    go_wp2_with fail
    go_ret
    exact ⟨.slice none 0 0, rfl, H1.out.1, by rw [HN.out]; exact owns_nil _ _ _ _⟩
  | true =>
    have HRP : Hid (S.RightP Sf L) := hbr.1 rfl
    have HRr : Hid (R = S.reach L (bl nm)) := HO.out.2 HRP.out
    have HS2 : Hid (∀ W, Below w.heap.size w W → Calls Try.prog 16 #[.agg #[vs, vw], .string nm, .map none] W (SrchPost (S.srch S.noW L (bl nm)) W)) := HSr.out HRP.out
    have z0 := cell_in H1.out.2 0 rfl
    have z1 := cell_in H1.out.2 1 rfl
    clear hbr HO HSr HRt HB0
    go_wp2_with fail
    refine (HS2.out w1 H1.out.1).mono ?_
    rintro e w3 ⟨v, rfl, hb3, hrow3⟩
    obtain ⟨F, hF⟩ : ∃ F, F = S.srch S.noW L (bl nm) := ⟨_, rfl⟩
    have hg := (S.srch_good S.noW L (bl nm)).1
    rw [← hF] at hrow3 hg
    have HRF : Hid (R = (F.drop 1).map (·.1)) := by unfold Hid; rw [hF]; exact HRr.out
    obtain ⟨K, hK⟩ : ∃ K, F.length = K + 1 := ⟨F.length - 1, by have := hg.pos; omega⟩
    have hK512 : K < 512 := by have := hg.len; omega
    obtain ⟨g, cap, rfl, hgl, hcap, _, _⟩ := row_at hrow3 hg.head
    have H3 : Hid (Below w.heap.size w w3 ∧ w3.ownsRow w1.heap.size 47 2 (.slice (some ⟨g, 0, none⟩) F.length cap) F.length (flat F)) := ⟨below_trans H1.out.1 hb3 H1.out.1.size, hrow3⟩
    rw [hK] at hcap ⊢
    have HF : Hid (S.Good L (bl nm) F ∧ F.length = K + 1 ∧ R.length = K) := ⟨hg, hK, by rw [HRF.out, List.length_map, List.length_drop, hK]; omega⟩
    obtain ⟨i0, hi, hz0, hz1, hz2⟩ := info_of infoT9
    clear hb3 hrow3 hF hg hK HRr HS2 z0 z1
    by_cases hc : cap = 1
    · obtain rfl : K = 0 := by omega
      subst hc
      have HR0 : Hid (R = []) := List.length_eq_zero_iff.1 HF.out.2.2
      go_wp2_with fail
      go_loopw [5, 16] (fun vo vi wr => vo = .slice none 0 0 ∧ vi = .int .i64 0 ∧ wr = w3) (fun _ _ _ => 0)
      case atStart => exact ⟨rfl, rfl, rfl⟩
      case round =>
        obtain ⟨rfl, rfl, rfl⟩ := hrel
        go_wp2_with fail
        go_ret
        exact ⟨.slice none 0 0, rfl, H3.out.1, by rw [HR0.out]; exact owns_nil _ _ _ _⟩
    have hc2 : ¬ cap - 1 = 0 := by omega
    have hc3 : 1 < cap := by omega
    go_wp2_with fail
    go_loopw [5, 16] (fun vo vi wr => ∃ k : Nat, k ≤ K ∧ vi = .int .i64 (k : Int) ∧ Hid (wr.ownsRow w.heap.size 9 1 vo k (txt (R.take k)) ∧ Below w.heap.size w wr ∧ wr.heap[g]? = w3.heap[g]?)) (fun _ vi _ => K - (intOf vi).toNat)
    case atStart => exact ⟨0, Nat.zero_le _, rfl, owns_nil _ _ _ _, H3.out.1, rfl⟩
    case round =>
      obtain ⟨k, hk, rfl, HI⟩ := hrel
      obtain ⟨ca, cc, hvc⟩ := V.owns_slice HI.out.1
      subst hvc
      by_cases hkK : k < K
      · have hki : (k : Int) < (K : Int) := by omega
        have hkl : k + 1 < F.length := by rw [HF.out.2.1]; omega
        obtain ⟨z, hz⟩ : ∃ z, F[k + 1]? = some z := ⟨F[k + 1], List.getElem?_eq_getElem hkl⟩
        have hzz := HF.out.1.size2 (by rw [bl_length]; exact hn) (HSz.out HRP.out) hz
        obtain ⟨g', cap', hv', hg', _, s0, s1⟩ := row_at H3.out.2 hz
        simp only [Value.slice.injEq, Option.some.injEq, Addr.mk.injEq, and_true, true_and] at hv'
        obtain ⟨e1, e3⟩ := hv'
        subst e1
        clear e3
        rw [show (k + 1) * 2 = 2 + k * 2 by omega] at s0 s1
        have hblk : ∀ i, wr.cell? ⟨g, i, none⟩ = w3.cell? ⟨g, i, none⟩ := fun i => by simp only [World.cell?, HI.out.2.2]
        have t0 := (hblk (2 + k * 2)).trans s0
        have t1 := (hblk (2 + k * 2 + 1)).trans s1
        obtain ⟨zt, hzt⟩ : ∃ t, t = ba z.1 := ⟨_, rfl⟩
        obtain ⟨zp, hzp⟩ : ∃ t, t = z.2 := ⟨_, rfl⟩
        rw [← hzt] at t0
        rw [← hzp] at t1
        have HTk : Hid (txt (R.take (k + 1)) = txt (R.take k) ++ [.string zt]) := by
          have hg : R[k]? = some z.1 := by rw [HRF.out, List.getElem?_map, List.getElem?_drop, Nat.add_comm 1 k, hz]; rfl
          unfold Hid txt
          rw [List.take_add_one, hg, List.map_append, hzt]; rfl
        have hzs : zt.size ≤ 26000 := by rw [hzt, ba_size]; exact hzz
        have HB : Hid (Below w.heap.size w wr ∧ wr.heap[g]? = w3.heap[g]?) := HI.out.2
        have hgr : g < wr.heap.size := by
          have h := HI.out.2.2
          rw [Array.getElem?_eq_getElem hgl] at h
          exact (Array.getElem?_eq_some_iff.1 h).1
        have HNG : Hid ((Value.slice ca k cc).ownBlock ≠ some g) := fun he => by
          obtain ⟨cur, hc⟩ := row_type HI.out.1 he
          rw [HI.out.2.2] at hc
          obtain ⟨cur2, hc2⟩ := row_type H3.out.2 (g := g) rfl
          rw [hc2] at hc; cases hc
        have hown := HI.out.1
        clear hz hzt hzp hzz s0 s1 hblk HI hg' hkl
        obtain ⟨W1, hW1⟩ : ∃ W1, W1 = wr.alloc (.cells #[.string zt, .int .i64 zp] 47) := ⟨_, rfl⟩
        have HW1 : Hid (Below wr.heap.size wr W1 ∧ W1.heap[wr.heap.size]? = some (.cells #[.string zt, .int .i64 zp] 47 (0, 0))) := ⟨by rw [hW1]; exact below_alloc1 _ _, by rw [hW1]; exact alloc_b rfl⟩
        obtain ⟨x7, hx7⟩ : ∃ x, x = wr.heap.size := ⟨_, rfl⟩
        go_upto_region 7 with fail
        rw [← hW1, ← hx7]
        have b0 := cell_in HW1.out.2 0 rfl
        rw [← hx7] at b0
        have hown1 := owns_below hown HW1.out.1
        have hbs : w.heap.size ≤ W1.heap.size := Nat.le_trans HB.out.1.size HW1.out.1.size
        have HB1 : Hid (Below w.heap.size w W1 ∧ W1.heap[g]? = w3.heap[g]? ∧ g < W1.heap.size) := ⟨below_trans HB.out.1 HW1.out.1 HB.out.1.size, (HW1.out.1.block _ hgr).trans HB.out.2, Nat.lt_of_lt_of_le hgr HW1.out.1.size⟩
        clear hW1 hx7 t0 t1 hown
        go_wp2_with (at_builtin; refine wpList_append_own _ rfl _ _ 22 rfl w.heap.size 9 i0 (.string ⟨#[]⟩) 1 16 Try.underlying22 hi hz0 hz1 hz2 rfl (by decide) _ _ _ rfl (hown1.alloc _) ⟨W1.heap.size, 0, none⟩ 1 1 [.string zt] rfl rfl ?c1 ?c2 ?c3 ?c4 ?c5 ?_)
        case c1 => exact cell_one_new W1 (.string zt) 9
        case c2 => first | rfl | (intro u hu; simp at hu; subst hu; rfl)
        case c3 => unfold maxLen; omega
        case c4 => omega
        case c5 => first | omega | (simp; omega)
        intro v' w4 hown' hgrow _
        have HI4 : Hid (w4.ownsRow w.heap.size 9 1 v' (k + 1) (txt (R.take (k + 1))) ∧ Below w.heap.size w w4 ∧ w4.heap[g]? = w3.heap[g]?) := by
          refine ⟨?_, (HB1.out.1.alloc hbs _).grown hgrow (by simp; omega) (fun k hk => (hown1.lt k hk).1), ?_⟩
          · rw [HTk.out]; exact hown'
          · rw [hgrow.block g (by have := HB1.out.2.2; simp; omega) (Ne.symm HNG.out), Below.heap_alloc _ _ _ HB1.out.2.2]; exact HB1.out.2.1
        clear hown' hgrow hown1 hbs
        go_wp2_with fail
        go_roundw
        case rel => exact ⟨k + 1, by omega, by go_num, HI4.out⟩
        case measure => simp [intOf]; omega
      · have hkK : k = K := by omega
        subst hkK
        go_wp2_with fail
        go_ret
        refine ⟨.slice ca k cc, rfl, HI.out.2.1, ?_⟩
        have h := HI.out.1
        rw [List.take_of_length_le (by rw [HF.out.2.2]; exact Nat.le_refl _)] at h
        rw [HF.out.2.2]; exact h
end Go.Proofs.Ytfcoihklihkngaa
