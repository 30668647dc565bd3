/-
  What the document's Next answers.
-/
import Derived.Test.YtfcoihklihkngaaS12b
import Derived.BigRegion
import Derived.Deep.AppendLies
import Derived.Deep.RegionHeldLaw
namespace Go.Proofs.Ytfcoihklihkngaa
open Go.RowKit Go.Shelf Go.Maps

open Classical in
noncomputable def nextT (Sf : List S.Tx) (L : List S.Way) (x : S.Tx) : List S.Tx := if S.RightP Sf L then S.next L x else []
def NextPost (R : List S.Tx) (w : World) (e : Ending) (w' : World) : Prop := ∃ v, e = .returned v ∧ Below w.heap.size w w' ∧ w'.ownsRow w.heap.size 9 1 v R.length (txt R)
theorem cell_lt {w : World} {b o : Nat} {v : Value} (h : w.cell? ⟨b, o, none⟩ = some v) : b < w.heap.size := by
  unfold World.cell? at h
  cases hb : w.heap[b]? with
  | none => simp [hb] at h
  | some x => exact (Array.getElem?_eq_some_iff.1 hb).1
theorem wrap_d (d : Nat) (h : d ≤ 1000000000) : IntKind.i64.wrap (d : Int) = (d : Int) := by
  rw [IntKind.wrap_i64]; omega
theorem ends_size {x s : ByteArray} (h : S.ends (bl x) (bl s) = true) : s.size ≤ x.size := (stem_bl x s h).1

set_option maxRecDepth 20000 in
set_option maxHeartbeats 2000000 in
theorem next_any (vs vw : Value) (Sf : List S.Tx) (L : List S.Way) (nm : ByteArray) (B : Nat) (w : World) (hT : Tb B w vs vw Sf L) (hs : ∀ s ∈ Sf, s.length ≤ 50) (hn : nm.size ≤ 26000) :
    Calls Try.prog 11 #[.agg #[vs, vw], .string nm] w (NextPost (nextT Sf L (bl nm)) w) := by
  obtain ⟨sa, cs, rfl⟩ := hT.suf.slice
  obtain ⟨aw, cw, rfl⟩ := hT.way.slice
  have HRt : Hid (∀ W, Below w.heap.size w W → Calls Try.prog 17 #[.agg #[.slice sa Sf.length cs, .slice aw L.length cw]] W (RightPost Sf L W)) := fun W hW => rright_any _ _ Sf L B W (hT.below (hW.mono hT.lo))
  obtain ⟨R, hR⟩ : ∃ R, R = nextT Sf L (bl nm) := ⟨_, rfl⟩
  rw [← hR]
  have HO : Hid ((¬ S.RightP Sf L → R = []) ∧ (S.RightP Sf L → R = S.next L (bl nm))) := ⟨fun h => by rw [hR]; exact if_neg h, fun h => by rw [hR]; exact if_pos h⟩
  have HSz : Hid (S.RightP Sf L → ∀ x ∈ L, x.1.length ≤ 50 ∧ x.2.length ≤ 50) := fun hr => right_ways hr hs
  have hcw := hT.way.len.2
  obtain ⟨ns, hns⟩ : ∃ n, n = Sf.length := ⟨_, rfl⟩
  obtain ⟨m, hm⟩ : ∃ m, m = L.length := ⟨_, rfl⟩
  have HT : Hid (m = L.length ∧ Wy B w (.slice aw m cw) L ∧ B ≤ w.heap.size) := ⟨hm, by rw [hm]; exact hT.way, hT.lo⟩
  rw [← hm] at hcw
  rw [← hns, ← hm] at HRt
  rw [← hns, ← hm]
  have HB0 : Hid (Below w.heap.size w (w.alloc (.cells #[.slice sa ns cs, .slice aw m cw] 25)) ∧ (w.alloc (.cells #[.slice sa ns cs, .slice aw m cw] 25)).heap[w.heap.size]? = some (.cells #[.slice sa ns cs, .slice aw m cw] 25 (0, 0))) := ⟨below_alloc1 _ _, alloc_b rfl⟩
  clear hT hR hs hns hm
  go_enter Try.func11, Try.ntmps11
  go_wp2_with fail
  refine (HRt.out _ HB0.out.1).mono ?_
  rintro e w1 ⟨b, rfl, hbr, hb1⟩
  have H1 : Hid (Below w.heap.size w w1 ∧ w1.heap[w.heap.size]? = some (.cells #[.slice sa ns cs, .slice aw m cw] 25 (0, 0))) := ⟨below_trans HB0.out.1 hb1 HB0.out.1.size, (hb1.block _ (Array.getElem?_eq_some_iff.1 HB0.out.2).1).trans HB0.out.2⟩
  clear hb1
  cases b with
  | false =>
    have HN : Hid (R = []) := HO.out.1 (fun h => by have := hbr.2 h; cases this)
    clear hbr
    go_wp2_with fail
    go_ret
    exact ⟨.slice none 0 0, rfl, H1.out.1, by rw [HN.out]; exact owns_nil _ _ _ _⟩
  | true =>
    have HRP : Hid (S.RightP Sf L) := hbr.1 rfl
    have HRn : Hid (R = S.next L (bl nm)) := HO.out.2 HRP.out
    have hm256 : m ≤ 256 := by rw [HT.out.1]; exact HRP.out.2.1
    have HZ : Hid (∀ x ∈ L, x.1.length ≤ 50 ∧ x.2.length ≤ 50) := HSz.out HRP.out
    obtain ⟨i0, hi, hz0, hz1, hz2⟩ := info_of infoT9
    clear hbr HO HRt HB0 HSz HRP
    go_wp2_with fail
    go_loopw [5, 6] (fun vo vi wr => ∃ k : Nat, k ≤ m ∧ vi = .int .i64 (k : Int) ∧ Hid (wr.ownsRow w.heap.size 9 1 vo (S.next (L.take k) (bl nm)).length (txt (S.next (L.take k) (bl nm))) ∧ Below w.heap.size w wr ∧ wr.heap[w.heap.size]? = some (.cells #[.slice sa ns cs, .slice aw m cw] 25 (0, 0)))) (fun _ vi _ => m - (intOf vi).toNat)
    case atStart => exact ⟨0, Nat.zero_le _, rfl, owns_nil _ _ _ _, H1.out⟩
    case round =>
      obtain ⟨k, hk, rfl, HI⟩ := hrel
      obtain ⟨ca, cc, hvc⟩ := V.owns_slice HI.out.1
      subst hvc
      have z0 := cell_in HI.out.2.2 0 rfl
      have z1 := cell_in HI.out.2.2 1 rfl
      by_cases hkm : k < m
      · have hki : (k : Int) < (m : Int) := by omega
        have hkl : k < L.length := by rw [← HT.out.1]; exact hkm
        obtain ⟨b, o, rfl, hb, hc0, hc1⟩ := HT.out.2.1.pick (List.getElem?_eq_getElem hkl)
        have hbw := Nat.lt_of_lt_of_le hb HT.out.2.2
        have d0 := (HI.out.2.1.cell (p := ⟨b, o + k * 2, none⟩) hbw).trans hc0
        have d1 := (HI.out.2.1.cell (p := ⟨b, o + k * 2 + 1, none⟩) hbw).trans hc1
        have HBW0 : Hid (b < w.heap.size) := hbw
        have HG : Hid (L[k]? = some L[k]) := List.getElem?_eq_getElem hkl
        have hzz := HZ.out _ (List.getElem_mem hkl)
        obtain ⟨x, hx⟩ : ∃ x, x = L[k] := ⟨_, rfl⟩
        rw [← hx] at d0 d1 HG hzz
        obtain ⟨u1, hu1⟩ : ∃ y, y = ba x.1 := ⟨_, rfl⟩
        obtain ⟨u2, hu2⟩ : ∃ y, y = ba x.2 := ⟨_, rfl⟩
        rw [← hu1] at d0
        rw [← hu2] at d1
        have hs1 : u1.size ≤ 50 := by rw [hu1, ba_size]; exact hzz.1
        have hs2 : u2.size ≤ 50 := by rw [hu2, ba_size]; exact hzz.2
        have HU : Hid (bl u1 = x.1 ∧ bl u2 = x.2) := ⟨by rw [hu1, bl_ba'], by rw [hu2, bl_ba']⟩
        have HNx : Hid (S.next (L.take (k + 1)) (bl nm) = S.next (L.take k) (bl nm) ++ (S.made (bl nm) x).toList) := S.next_take L (bl nm) k x HG.out
        have hraw := ends_raw nm u2
        clear hc0 hc1 hx hu1 hu2 hb hbw hzz
        cases hen : S.ends (bl nm) (bl u2) with
        | false =>
          have HN1 : Hid (S.next (L.take (k + 1)) (bl nm) = S.next (L.take k) (bl nm)) := by
            unfold Hid
            rw [HNx.out]
            unfold S.made
            rw [← HU.out.2, if_neg (by rw [hen]; simp)]
            simp
          rw [hen] at hraw
          by_cases hle : u2.size ≤ nm.size
          · have hlei : (u2.size : Int) ≤ (nm.size : Int) := by omega
            have hnl : ¬ (nm.size : Int) < (u2.size : Int) := by omega
            rw [decide_eq_true hle, Bool.true_and] at hraw
            have hraw2 := hraw.symm
            clear hraw hen
            have HI1 : Hid (wr.ownsRow w.heap.size 9 1 (.slice ca (S.next (L.take k) (bl nm)).length cc) (S.next (L.take (k + 1)) (bl nm)).length (txt (S.next (L.take (k + 1)) (bl nm))) ∧ Below w.heap.size w wr ∧ wr.heap[w.heap.size]? = some (.cells #[.slice sa ns cs, .slice (some ⟨b, o, none⟩) m cw] 25 (0, 0))) := by
              refine ⟨?_, HI.out.2⟩
              rw [HN1.out]; exact HI.out.1
            clear HI
            go_wp2_with fail
            go_roundw
            case rel => exact ⟨k + 1, by omega, by go_num, HI1.out⟩
            case measure => simp [intOf]; omega
          · have hlei : ¬ (u2.size : Int) ≤ (nm.size : Int) := by omega
            have HI1 : Hid (wr.ownsRow w.heap.size 9 1 (.slice ca (S.next (L.take k) (bl nm)).length cc) (S.next (L.take (k + 1)) (bl nm)).length (txt (S.next (L.take (k + 1)) (bl nm))) ∧ Below w.heap.size w wr ∧ wr.heap[w.heap.size]? = some (.cells #[.slice sa ns cs, .slice (some ⟨b, o, none⟩) m cw] 25 (0, 0))) := by
              refine ⟨?_, HI.out.2⟩
              rw [HN1.out]; exact HI.out.1
            clear HI hraw hen
            go_wp2_with fail
            go_roundw
            case rel => exact ⟨k + 1, by omega, by go_num, HI1.out⟩
            case measure => simp [intOf]; omega
        | true =>
          obtain ⟨hle, hst⟩ := stem_bl nm u2 hen
          have hlei : (u2.size : Int) ≤ (nm.size : Int) := by omega
          rw [hen, decide_eq_true hle, Bool.true_and] at hraw
          have hraw2 := hraw.symm
          obtain ⟨st, hst2⟩ : ∃ st, st = nm.extract 0 (nm.size - u2.size) := ⟨_, rfl⟩
          have hsz : st.size ≤ 26000 := by
            rw [hst2, ← hst, ba_size]; unfold S.stem
            have := List.length_take_le' ((bl nm).length - (bl u2).length) (bl nm)
            have h2 : (bl nm).length = nm.size := bl_length _
            omega
          obtain ⟨mt, hmt⟩ : ∃ mt, mt = st ++ u1 := ⟨_, rfl⟩
          have hadd : ∀ W, (Op.stringOp .add (nm.extract 0 (nm.size - u2.size)) u1).run Try.prog W = .ok (.string mt) W := fun W => by rw [← hst2, hmt]; exact run_string_add_sum W _ _ (by omega)
          have HN1 : Hid (txt (S.next (L.take (k + 1)) (bl nm)) = txt (S.next (L.take k) (bl nm)) ++ [.string mt] ∧ (S.next (L.take (k + 1)) (bl nm)).length = (S.next (L.take k) (bl nm)).length + 1) := by
            unfold Hid
            rw [HNx.out]
            unfold S.made
            rw [← HU.out.2, if_pos hen]
            refine ⟨?_, by simp⟩
            have e : mt = ba (S.stem (bl nm) (bl u2) ++ x.1) := by
              apply bl_inj
              rw [hmt, bl_app, hst2, ← hst, bl_ba', bl_ba', HU.out.1]
            unfold txt
            rw [e]; simp
          have HS0 : Hid (wr.cell? ⟨w.heap.size, 0, none⟩ = some (.slice sa ns cs) ∧ wr.cell? ⟨w.heap.size, 1, none⟩ = some (.slice (some ⟨b, o, none⟩) m cw) ∧ wr.cell? ⟨b, o + k * 2, none⟩ = some (.string u1)) := ⟨z0, z1, d0⟩
          have hnl : (S.next (L.take k) (bl nm)).length ≤ 256 := Nat.le_trans (S.next_len _ _) (by rw [List.length_take]; omega)
          obtain ⟨q, hq⟩ : ∃ q, q = (S.next (L.take k) (bl nm)).length := ⟨_, rfl⟩
          rw [← hq] at HI hnl HN1 ⊢
          have HB : Hid (Below w.heap.size w wr ∧ wr.heap[w.heap.size]? = some (.cells #[.slice sa ns cs, .slice (some ⟨b, o, none⟩) m cw] 25 (0, 0))) := HI.out.2
          have HOWN : Hid (wr.ownsRow w.heap.size 9 1 (.slice ca q cc) q (txt (S.next (L.take k) (bl nm)))) := HI.out.1
          clear hraw hen hst hst2 hmt HI hq HNx hsz
          go_upto_region 9 with fail
          have l0 := (Array.getElem?_eq_some_iff.1 HB.out.2).1
          have lbw : b < w.heap.size := HBW0.out
          have lb : b < wr.heap.size := (cell_lt HS0.out.2.2)
          have HKp : Hid (∀ W, Below wr.heap.size wr W → W.cell? ⟨w.heap.size, 0, none⟩ = some (.slice sa ns cs) ∧ W.cell? ⟨w.heap.size, 1, none⟩ = some (.slice (some ⟨b, o, none⟩) m cw) ∧ W.cell? ⟨b, o + k * 2, none⟩ = some (.string u1)) := fun W hW =>
            ⟨(hW.cell (p := ⟨w.heap.size, 0, none⟩) l0).trans HS0.out.1, (hW.cell (p := ⟨w.heap.size, 1, none⟩) l0).trans HS0.out.2.1, (hW.cell (p := ⟨b, o + k * 2, none⟩) lb).trans HS0.out.2.2⟩
          have HBW : Hid (Below wr.heap.size wr wr.drew ∧ Below wr.heap.size wr (wr.alloc (.cells #[.string mt] 9)).drew) := ⟨below_drew (Below.refl _ _), below_drew (below_alloc1 _ _)⟩
          have HOW2 : Hid ((wr.alloc (.cells #[.string mt] 9)).drew.ownsRow w.heap.size 9 1 (.slice ca q cc) q (txt (S.next (L.take k) (bl nm))) ∧ w.heap.size ≤ (wr.alloc (.cells #[.string mt] 9)).drew.heap.size ∧ ∀ j u, [Value.string mt][j]? = some u → (wr.alloc (.cells #[.string mt] 9)).drew.cell? ((⟨wr.heap.size, 0, none⟩ : Addr).add j) = some u) :=
            ⟨owns_below HOWN.out HBW.out.2, Nat.le_trans HB.out.1.size HBW.out.2.size, fun j u hj => cell_one_new wr (.string mt) 9 j u hj⟩
          clear z0 z1 d0 d1
          obtain ⟨d, hd⟩ : ∃ d : Nat, d = nm.size - u2.size := ⟨_, rfl⟩
          have hwr : IntKind.i64.wrap ((nm.size : Int) - (u2.size : Int)) = (d : Int) := by
            have e : ((nm.size : Int) - (u2.size : Int)) = (d : Int) := by omega
            rw [e]; exact wrap_d d (by omega)
          have hd0 : (0 : Int) ≤ (d : Int) := by omega
          have hd1 : (d : Int) ≤ (nm.size : Int) := by omega
          have hd26 : d ≤ 26000 := by omega
          have hadd2 : ∀ W, (Op.stringOp .add (nm.extract 0 d) u1).run Try.prog W = .ok (.string mt) W := fun W => by rw [hd]; exact hadd W
          clear hadd hd hle hlei hraw2
          have HK5 : Hid (∀ W', ((wr.alloc (.cells #[.string mt] 9)).drew).grownBy W' (Value.slice ca q cc).ownBlock → (W'.cell? ⟨w.heap.size, 0, none⟩ = some (.slice sa ns cs) ∧ W'.cell? ⟨w.heap.size, 1, none⟩ = some (.slice (some ⟨b, o, none⟩) m cw) ∧ W'.cell? ⟨b, o + k * 2, none⟩ = some (.string u1)) ∧ W'.heap[w.heap.size]? = some (.cells #[.slice sa ns cs, .slice (some ⟨b, o, none⟩) m cw] 25 (0, 0)) ∧ Below w.heap.size w W') := fun W' hg => by
            have hbel : Below w.heap.size w W' := (below_trans HB.out.1 HBW.out.2 HB.out.1.size).grown hg HOW2.out.2.1 (fun g hg2 => (HOW2.out.1.lt g hg2).1)
            have hne : (Value.slice ca q cc).ownBlock ≠ some w.heap.size := fun he => by
              obtain ⟨cur, hc⟩ := row_type HOWN.out he
              rw [HB.out.2] at hc; cases hc
            have hbx : W'.heap[w.heap.size]? = some (.cells #[.slice sa ns cs, .slice (some ⟨b, o, none⟩) m cw] 25 (0, 0)) := by
              rw [hg.block w.heap.size (Nat.lt_of_lt_of_le l0 HBW.out.2.size) (Ne.symm hne), HBW.out.2.block _ l0]; exact HB.out.2
            exact ⟨⟨cell_in hbx 0 rfl, cell_in hbx 1 rfl, (hbel.cell (p := ⟨b, o + k * 2, none⟩) lbw).trans ((HB.out.1.cell (p := ⟨b, o + k * 2, none⟩) lbw).symm.trans HS0.out.2.2)⟩, hbx, hbel⟩
          have z1 := HS0.out.2.1
          have z0 := HS0.out.1
          go_region_held_law (fun W => W.cell? ⟨w.heap.size, 0, none⟩ = some (.slice sa ns cs) ∧ W.cell? ⟨w.heap.size, 1, none⟩ = some (.slice (some ⟨b, o, none⟩) m cw) ∧ W.cell? ⟨b, o + k * 2, none⟩ = some (.string u1)) (first | exact HKp.out _ HBW.out.1 | exact HKp.out _ HBW.out.2 | exact (HK5.out _ hgrow5).1) (first
            | (refine step_append_lies _ (by rfl) (.tmp 40) (.tmp 55) 22 (by rfl) w.heap.size 9 i0 (.string ⟨#[]⟩) 1 16 Try.underlying22 hi hz0 hz1 hz2 rfl (by decide) (.slice ca q cc) q (txt (S.next (L.take k) (bl nm))) (by rfl) HOW2.out.1 ⟨wr.heap.size, 0, none⟩ 1 1 [.string mt] (by rfl) rfl HOW2.out.2.2 (by intro u hu; simp at hu; subst hu; rfl) (by decide) (by unfold maxLen; omega) (by omega) HOW2.out.2.1 _ rfl ?_; intro g5 cap5 w5 hown5 hgrow5 hat5 hlt5))
          have HI5 : Hid (w5.ownsRow w.heap.size 9 1 (.slice (some ⟨g5, 0, none⟩) (q + 1) cap5) (S.next (L.take (k + 1)) (bl nm)).length (txt (S.next (L.take (k + 1)) (bl nm))) ∧ Below w.heap.size w w5 ∧ w5.heap[w.heap.size]? = some (.cells #[.slice sa ns cs, .slice (some ⟨b, o, none⟩) m cw] 25 (0, 0))) := by
            obtain ⟨_, e2, e3⟩ := HK5.out _ hgrow5
            refine ⟨?_, e3, e2⟩
            rw [HN1.out.1, HN1.out.2]; exact hown5
          clear hown5 hgrow5 hat5 hlt5 HK5 HOW2 HBW HKp
          go_wp2_with fail
          go_roundw
          case rel => exact ⟨k + 1, by omega, by go_num, HI5.out⟩
          case measure => simp [intOf]; omega
      · have hkm : k = m := by omega
        have HE : Hid (R = S.next (L.take k) (bl nm)) := by
          unfold Hid; rw [List.take_of_length_le (by rw [← HT.out.1]; omega)]; exact HRn.out
        subst hkm
        go_wp2_with fail
        go_ret
        exact ⟨.slice ca (S.next (L.take k) (bl nm)).length cc, rfl, HI.out.2.1, by rw [HE.out]; exact HI.out.1⟩
end Go.Proofs.Ytfcoihklihkngaa
