/-
  What mean does, as the plain function tells.
-/
import Derived.Test.YtkelmhpoplbacaaGreatDoorX12
namespace Go.Proofs.YtkelmhpoplbacaaGreatDoor.Ex
open Go.RowKit Go.Shelf

section
variable {B : Nat} {w0 : World} {bw : Nat} {pv : Value} {tx : List ByteArray → Nat → ByteArray → Res} {ev : Env} {br : Nat} {s : ByteArray}
theorem ext_size (s : ByteArray) (a b : Nat) : (s.extract a b).size ≤ s.size := by rw [← bl_length, ← bl_length, bl_extract, List.length_drop, List.length_take]; omega
theorem dollar_len {within : List ByteArray} {M : Nat → Nat → List Dl → Nat → Mes} {d : Dl} {rest l2 : List Dl} {fuel f2 : Nat} {r : ByteArray} (hd : dollarF ev tx within M d rest fuel = .ok r l2 f2) (hM : ∀ a b l f r l2 f2, M a b l f = .ok r l2 f2 → l2.length ≤ l.length) : l2.length ≤ rest.length := by
  unfold dollarF at hd
  split at hd
  · cases hd
  · split at hd
    · cases hd; exact Nat.le_refl _
    · split at hd
      · cases hd
      · cases hm1 : M d.nf d.nt rest (fuel - 1) with
        | err e => rw [hm1] at hd; cases hd
        | bad => rw [hm1] at hd; cases hd
        | ok a1 b1 c1 =>
          rw [hm1] at hd
          dsimp only [Mes.and] at hd
          have e1 := hM _ _ _ _ _ _ _ hm1
          cases hm2 : M d.mf d.mt b1 c1 with
          | err e => rw [hm2] at hd; cases hd
          | bad => rw [hm2] at hd; cases hd
          | ok a2 b2 c2 =>
            rw [hm2] at hd
            dsimp only at hd
            have e2 := hM _ _ _ _ _ _ _ hm2
            cases hu : useF ev tx within c2 a1 a2 with
            | err e => rw [hu] at hd; cases hd
            | bad => rw [hu] at hd; cases hd
            | ok a3 c3 => rw [hu] at hd; cases hd; omega
def leftN (br : Nat) (w : World) : Nat := match w.cell? ⟨br, 2, none⟩ with | some (.slice _ n _) => n | _ => 0
theorem MI.leftN {within : List ByteArray} {vw : Value} {W : World} {a te : Nat} {made : ByteArray} {left : List Dl} {fuel : Nat} {vw' vl : Value} {wr : World} (h : MI B bw pv within br s vw W a te made left fuel vw' vl wr) : leftN br wr = left.length := by
  obtain ⟨a0, c0, hv⟩ := h.rd.row.slice
  have : wr.cell? ⟨br, 2, none⟩ = some vl := V.cell_in h.rd.blk 2 rfl
  unfold Ex.leftN; rw [this, hv]

set_option maxRecDepth 20000 in
set_option maxHeartbeats 4000000 in
theorem mean_any (hT : TextC B w0 bw pv tx) (hC : Cx B w0 pv ev) (within : List ByteArray) (hwl : within.length ≤ 32) (hbr : B ≤ br) (hs : s.size ≤ 1000000) (n : Nat) (IH : ∀ j, j < n → MeanC B w0 bw pv within br s (fun a b l f => meanG ev tx within s j E0 a b l f)) :
    MeanC B w0 bw pv within br s (fun a b l f => meanG ev tx within s n E0 a b l f) := by
  intro a te left fuel vw vl W h hr hW hfu hbad
  dsimp only at hbad ⊢
  obtain ⟨R, hR⟩ : ∃ R, R = meanG ev tx within s n E0 a te left fuel := ⟨_, rfl⟩
  rw [← hR] at hbad ⊢
  have HK : Hid (WkAt B bw pv fuel vw within W ∧ Below B w0 W) := ⟨h, hW⟩
  obtain ⟨w1, hw1⟩ : ∃ w1, w1 = (W.alloc (.cells #[.int .i64 (a : Int), .int .i64 (te : Int)] 225)).alloc (.cells #[.pointer none, .slice none 0 0] 186) := ⟨_, rfl⟩
  have HI0 : Hid (MI B bw pv within br s vw W a te E0 left fuel vw vl w1) := by rw [hw1]; exact MI.first h hr hfu
  have HR0 : Hid (meanG ev tx within s n E0 a te left fuel = R) := hR.symm
  obtain ⟨bm, hbm⟩ : ∃ bm, bm = W.heap.size + 1 := ⟨_, rfl⟩
  have HAO : Hid (∀ (o : List UInt8) (u : ByteArray) (X : World), IsB (W.heap.size + 1) (W.heap.size + 1) o X → W.heap.size + 1 ≤ X.heap.size → u.size ≤ 10000000 → o.length ≤ 10000000 → o.length + u.size ≤ 65536 → Calls Tryz.prog 158 #[.pointer (some ⟨W.heap.size + 1, 0, none⟩), .string u] X fun e w' => e = .returned (.tuple #[]) ∧ IsB (W.heap.size + 1) (W.heap.size + 1) (o ++ bl u) w' ∧ Below (W.heap.size + 1) X w' ∧ Lib.OthersKept 5 (some (W.heap.size + 1)) X w') := fun o u X g1 g2 g3 g4 g5 => add_ok _ _ o u X g1 g2 g3 g4 g5
  have HAE : Hid (∀ (o : List UInt8) (u : ByteArray) (X : World), IsB (W.heap.size + 1) (W.heap.size + 1) o X → u.size ≤ 10000000 → o.length ≤ 10000000 → 65536 < o.length + u.size → Calls Tryz.prog 158 #[.pointer (some ⟨W.heap.size + 1, 0, none⟩), .string u] X fun e w' => e = pan 5 ∧ X = w') := fun o u X g1 g3 g4 g5 => add_err _ _ o u X g1 g3 g4 g5
  have HST : Hid (∀ (o : List UInt8) (X : World), IsB (W.heap.size + 1) (W.heap.size + 1) o X → W.heap.size + 1 ≤ X.heap.size → Calls Tryz.prog 100 #[.pointer (some ⟨W.heap.size + 1, 0, none⟩)] X fun e w' => e = .returned (.string ⟨o.toArray⟩) ∧ IsB (W.heap.size + 1) (W.heap.size + 1) o w' ∧ Below (W.heap.size + 1) X w' ∧ Lib.OthersKept 5 (some (W.heap.size + 1)) X w') := fun o X g1 g2 => Tryz.Builder_String_any_k _ _ o X g1 g2
  have HDL : Hid (∀ (j : Nat), j < n → ∀ (d : Dl) (rest : List Dl) (f : Nat) (v1 v2 : Value) (X : World), WkAt B bw pv f v1 within X → RdAt br bw s v2 rest X → Below B w0 X → f ≤ 10000000 → dollarF ev tx within (fun a b l f => meanG ev tx within s j E0 a b l f) d rest f ≠ .bad → Calls Tryz.prog 159 #[.pointer (some ⟨br, 0, none⟩), .agg (dlC d).toArray] X (MePost B bw pv within v1 br s X (dollarF ev tx within (fun a b l f => meanG ev tx within s j E0 a b l f) d rest f))) := fun j hj d rest f v1 v2 X g1 g2 g3 g4 g5 => dollar_any hT hC within _ (IH j hj) hbr hwl d rest f v1 v2 X g1 g2 g3 g4 g5
  unfold pV
  clear h hr hW hfu hR IH hT hC hbm bm
  go_enter Tryz.func137, Tryz.ntmps137
  go_wp2_with fail
  rw [← hw1]
  clear hw1
  go_loopw [6] (fun va wr => ∃ (k : Nat) (made : ByteArray) (at_ : Nat) (left : List Dl) (fuel : Nat) (vw' vl' : Value), va = .int .i64 (at_ : Int) ∧ Hid (k ≤ n ∧ meanG ev tx within s k made at_ te left fuel = R ∧ MI B bw pv within br s vw W a te made left fuel vw' vl' wr)) (fun _ wr => leftN br wr)
  case atStart => exact ⟨n, E0, a, left, fuel, vw, vl, rfl, Nat.le_refl _, HR0.out, HI0.out⟩
  case round =>
    clear HI0 HR0
    obtain ⟨k, made, at_, left, fuel, vw', vl', rfl, HI⟩ := hrel
    cases k with
    | zero => exact absurd HI.out.2.1.symm hbad
    | succ k =>
      have e1 := HI.out.2.1
      unfold meanG at e1
      cases left with
      | nil =>
        dsimp only at e1
        obtain ⟨a0, c0, hv0⟩ := HI.out.2.2.rd.row.slice
        simp only [List.length_nil] at hv0
        subst hv0
        have c2 : wr.cell? ⟨br, 2, none⟩ = some (.slice a0 0 c0) := V.cell_in HI.out.2.2.rd.blk 2 rfl
        unfold endG addF at e1
        have hrng : at_ ≤ te ∧ te ≤ s.size := by
          by_cases hc : at_ ≤ te ∧ te ≤ s.size
          · exact hc
          · rw [if_neg hc] at e1; exact absurd e1.symm hbad
        rw [if_pos hrng] at e1
        have hN : ∃ u, u = s.extract at_ te ∧ u.size ≤ 1000000 := ⟨_, rfl, by have := ext_size s at_ te; omega⟩
        obtain ⟨u, hu, hus⟩ := hN
        have i1 : (at_ : Int) ≤ (te : Int) := by omega
        have i2 : (te : Int) ≤ (s.size : Int) := by omega
        rw [← hu] at e1
        have hml : (bl made).length = made.size := bl_length made
        have hmz := HI.out.2.2.sz
        go_wp2_with fail
        go_quiet (fail)
        go_wp2_with fail
        obtain ⟨X, hX⟩ : ∃ X, X = wr.drewN nq := ⟨_, rfl⟩
        rw [← hX]
        have HX : Hid (MI B bw pv within br s vw W a te made [] fuel vw' (.slice a0 0 c0) X) := by rw [hX]; exact HI.out.2.2.below (below_drewN (Below.refl _ _) _)
        have HXD : Hid (MI B bw pv within br s vw W a te made [] fuel vw' (.slice a0 0 c0) X.drew) := HX.out.below (low_drew _ _)
        have x1 : X.cell? ⟨br, 1, none⟩ = some (.string s) := V.cell_in HX.out.rd.blk 1 rfl
        have x3 : X.cell? ⟨W.heap.size, 1, none⟩ = some (.int .i64 (te : Int)) := V.cell_in HX.out.bx 1 rfl
        clear hX c2 hrng
        by_cases hlong : 65536 < made.size + u.size
        · rw [if_pos hlong] at e1
          subst e1
          have HP : Hid (Calls Tryz.prog 158 #[.pointer (some ⟨W.heap.size + 1, 0, none⟩), .string u] X.drew fun e w' => e = pan 5 ∧ X.drew = w') := HAE.out (bl made) u X.drew HXD.out.ib (by omega) (by omega) (by omega)
          clear hlong hml hmz HI hbad
          go_region_with (first | (go_at_call 158; (try rw [← hu]); refine calls_panic (.tuple #[]) HP.out (fun w6 hb6 => ?_) (fun HF => ?_); focus (unfold pan; go_wp2; exact ⟨rfl, rfl, by rw [← hb6]; exact HXD.out.fr.below HK.out.1.low (FR.low HK.out.1 hbr)⟩)))
          all_goals (go_wp2_with fail; exact HF.out.elim)
        · rw [if_neg hlong] at e1
          subst e1
          have HP : Hid (Calls Tryz.prog 158 #[.pointer (some ⟨W.heap.size + 1, 0, none⟩), .string u] X.drew fun e w' => e = .returned (.tuple #[]) ∧ IsB (W.heap.size + 1) (W.heap.size + 1) (bl made ++ bl u) w' ∧ Below (W.heap.size + 1) X.drew w' ∧ Lib.OthersKept 5 (some (W.heap.size + 1)) X.drew w') := HAO.out (bl made) u X.drew HXD.out.ib (Nat.le_of_lt HXD.out.big) (by omega) (by omega) (by omega)
          have HLg : Hid (made.size + u.size ≤ 65536) := by unfold Hid; omega
          clear hlong hml hmz HI hbad
          go_region_with (first | (go_at_call 158; (try rw [← hu]); refine HP.out.mono ?_; rintro e w2 ⟨rfl, g1, g2, g3⟩; have H2 : Hid (MI B bw pv within br s vw W a te (made ++ u) [] fuel vw' (.slice a0 0 c0) w2) := HXD.out.add g1 g2 g3 HLg.out; clear g1 g2 g3))
          all_goals
            go_wp2_with fail
            refine (HST.out _ w2 H2.out.ib (Nat.le_of_lt H2.out.big)).mono ?_
            rintro e w3 ⟨rfl, g1, g2, g3⟩
            have H3 : Hid (MI B bw pv within br s vw W a te (made ++ u) [] fuel vw' (.slice a0 0 c0) w3) := H2.out.wrote g1 g2 g3 H2.out.sz
            clear g1 g2 g3
            go_wp2
            go_ret
            have hq := H3.out.sz
            exact ⟨ret_str (by rw [hu]; exact ba_bl _), by omega, H3.out.fu, vw', (.slice a0 0 c0), H3.out.wk, H3.out.rd, H3.out.fr, H3.out.mv⟩

      | cons d rest =>
        dsimp only at e1
        obtain ⟨g, o, c, hv, hcl, hgl, hgc, hcell, htail1, htail2⟩ := HI.out.2.2.rd.row.head
        subst hv
        by_cases hlt : d.fr < te
        · rw [if_pos hlt] at e1
          by_cases hc1 : c = 1
          · 

            have b1 : wr.cell? ⟨W.heap.size, 1, none⟩ = some (.int .i64 (te : Int)) := V.cell_in HI.out.2.2.bx 1 rfl
            have c2 : wr.cell? ⟨br, 2, none⟩ = some (.slice (some ⟨g, o, none⟩) (rest.length + 1) c) := V.cell_in HI.out.2.2.rd.blk 2 rfl
            have d0 := hcell 0 _ rfl
            simp only [Nat.add_zero] at d0
            have hrng : at_ ≤ d.fr ∧ d.fr ≤ s.size := by
              by_cases hc : at_ ≤ d.fr ∧ d.fr ≤ s.size
              · exact hc
              · rw [if_neg hc] at e1; exact absurd e1.symm hbad
            rw [if_pos hrng] at e1
            have hN : ∃ u, u = s.extract at_ d.fr ∧ u.size ≤ 1000000 := ⟨_, rfl, by have := ext_size s at_ d.fr; omega⟩
            obtain ⟨u, hu, hus⟩ := hN
            rw [← hu] at e1
            have hml : (bl made).length = made.size := bl_length made
            have hmz := HI.out.2.2.sz
            have hkn : k < n := HI.out.1
            obtain ⟨m, hm⟩ : ∃ m, m = rest.length := ⟨_, rfl⟩
            rw [← hm] at c2 hcl
            have hm0 : (0 : Int) < (m : Int) + 1 := by omega
            obtain ⟨fr, en, nf, nt, mf, mt⟩ := d
            dsimp only at hlt hrng hu e1
            have i1 : (at_ : Int) ≤ (fr : Int) := by omega
            have i2 : (fr : Int) ≤ (s.size : Int) := by omega
            have hlt2 : (fr : Int) < (te : Int) := by omega
            have hme : m = 0 := by omega
            have hre : rest = [] := List.length_eq_zero_iff.1 (by omega)
            subst hc1
            clear hm hcl
            subst hre hme
            have c2' : wr.cell? ⟨br, 2, none⟩ = some (.slice (some ⟨g, o, none⟩) 1 1) := c2
            clear c2 hm0
            have c2 := c2'
            clear c2'
            go_wp2_with fail
            go_quiet (fail)
            obtain ⟨X, hX⟩ : ∃ X, X = wr.drewN nq := ⟨_, rfl⟩
            rw [← hX]
            have HX : Hid (MI B bw pv within br s vw W a te made (⟨fr, en, nf, nt, mf, mt⟩ :: []) fuel vw' (.slice (some ⟨g, o, none⟩) 1 1) X) := by rw [hX]; exact HI.out.2.2.below (below_drewN (Below.refl _ _) _)
            have x0 : X.cell? ⟨g, o, none⟩ = some (.int .i64 (fr : Int)) := by rw [hX]; exact d0
            have x1 : X.cell? ⟨g, o + 1, none⟩ = some (.int .i64 (en : Int)) := by rw [hX]; exact hcell 1 _ rfl
            have x2 : X.cell? ⟨g, o + 2, none⟩ = some (.int .i64 (nf : Int)) := by rw [hX]; exact hcell 2 _ rfl
            have x3 : X.cell? ⟨g, o + 3, none⟩ = some (.int .i64 (nt : Int)) := by rw [hX]; exact hcell 3 _ rfl
            have x4 : X.cell? ⟨g, o + 4, none⟩ = some (.int .i64 (mf : Int)) := by rw [hX]; exact hcell 4 _ rfl
            have x5 : X.cell? ⟨g, o + 5, none⟩ = some (.int .i64 (mt : Int)) := by rw [hX]; exact hcell 5 _ rfl
            have xl : X.cell? ⟨br, 2, none⟩ = some (.slice (some ⟨g, o, none⟩) 1 1) := by rw [hX]; exact c2
            have xf : X.frozen? ⟨br, 2, none⟩ = false := by simp [World.frozen?, HX.out.rd.blk]
            have xbr : br < X.heap.size := HX.out.rd.lt
            have HTL : Hid (DlsAt X (.slice (some ⟨g, o, none⟩) 0 0) []) := by rw [hX]; exact (htail1 (by first | rfl | trivial)).kept (fun _ _ e => e)
            clear hX c2 d0 b1 hcell htail1 htail2
            go_wp2_with fail
            obtain ⟨Y, hY⟩ : ∃ Y, Y = (X.setCell ⟨br, 2, none⟩ (.slice (some ⟨g, o, none⟩) 0 0)).alloc (.cells #[.int .i64 (fr : Int), .int .i64 (en : Int), .int .i64 (nf : Int), .int .i64 (nt : Int), .int .i64 (mf : Int), .int .i64 (mt : Int)] 261) := ⟨_, rfl⟩
            rw [← hY]
            have HY : Hid (MI B bw pv within br s vw W a te made [] fuel vw' (.slice (some ⟨g, o, none⟩) 0 0) Y) := by rw [hY]; exact HX.out.take HTL.out _
            have HYB : Hid (Y.heap[X.heap.size]? = some (.cells #[.int .i64 (fr : Int), .int .i64 (en : Int), .int .i64 (nf : Int), .int .i64 (nt : Int), .int .i64 (mf : Int), .int .i64 (mt : Int)] 261 (0, 0))) := by
              rw [hY]
              have := heap_alloc_new (X.setCell ⟨br, 2, none⟩ (.slice (some ⟨g, o, none⟩) 0 0)) (.cells #[.int .i64 (fr : Int), .int .i64 (en : Int), .int .i64 (nf : Int), .int .i64 (nt : Int), .int .i64 (mf : Int), .int .i64 (mt : Int)] 261)
              rwa [size_set] at this
            have y1 : Y.cell? ⟨br, 1, none⟩ = some (.string s) := V.cell_in HY.out.rd.blk 1 rfl
            have z0 : Y.cell? ⟨X.heap.size, 0, none⟩ = some (.int .i64 (fr : Int)) := V.cell_in HYB.out 0 rfl
            have HYD : Hid (MI B bw pv within br s vw W a te made [] fuel vw' (.slice (some ⟨g, o, none⟩) 0 0) Y.drew) := HY.out.below (low_drew _ _)
            obtain ⟨xb, hxb⟩ : ∃ xb, xb = X.heap.size := ⟨_, rfl⟩
            rw [← hxb] at HYB z0 ⊢
            clear hY x0 x1 x2 x3 x4 x5 xl xf xbr HTL HX hxb
            unfold addF at e1
            by_cases hlong : 65536 < made.size + u.size
            · rw [if_pos hlong] at e1
              subst e1
              have HP : Hid (Calls Tryz.prog 158 #[.pointer (some ⟨W.heap.size + 1, 0, none⟩), .string u] Y.drew fun e w' => e = pan 5 ∧ Y.drew = w') := HAE.out (bl made) u Y.drew HYD.out.ib (by omega) (by omega) (by omega)
              clear hlong hml hmz HI hbad
              go_region_with (first | (go_at_call 158; (try rw [← hu]); refine calls_panic (.tuple #[]) HP.out (fun w6 hb6 => ?_) (fun HF => ?_); focus (unfold pan; go_wp2; exact ⟨rfl, rfl, by rw [← hb6]; exact HYD.out.fr.below HK.out.1.low (FR.low HK.out.1 hbr)⟩)))
              all_goals (exact HF.out.elim)
            · rw [if_neg hlong] at e1
              have HP : Hid (Calls Tryz.prog 158 #[.pointer (some ⟨W.heap.size + 1, 0, none⟩), .string u] Y.drew fun e w' => e = .returned (.tuple #[]) ∧ IsB (W.heap.size + 1) (W.heap.size + 1) (bl made ++ bl u) w' ∧ Below (W.heap.size + 1) Y.drew w' ∧ Lib.OthersKept 5 (some (W.heap.size + 1)) Y.drew w') := HAO.out (bl made) u Y.drew HYD.out.ib (Nat.le_of_lt HYD.out.big) (by omega) (by omega) (by omega)
              have HLg : Hid (made.size + u.size ≤ 65536) := by unfold Hid; omega
              obtain ⟨D, hD⟩ : ∃ D, D = dollarF ev tx within (fun a b l f => meanG ev tx within s k E0 a b l f) ⟨fr, en, nf, nt, mf, mt⟩ [] fuel := ⟨_, rfl⟩
              rw [← hD] at e1
              have hDb : D ≠ .bad := fun e => hbad (by rw [← e1, e]; rfl)
              have HDC : Hid (∀ X1, WkAt B bw pv fuel vw' within X1 → RdAt br bw s (.slice (some ⟨g, o, none⟩) 0 0) [] X1 → Below B w0 X1 → fuel ≤ 10000000 → Calls Tryz.prog 159 #[.pointer (some ⟨br, 0, none⟩), .agg #[.int .i64 (fr : Int), .int .i64 (en : Int), .int .i64 (nf : Int), .int .i64 (nt : Int), .int .i64 (mf : Int), .int .i64 (mt : Int)]] X1 (MePost B bw pv within vw' br s X1 D)) := fun X1 q1 q2 q3 q4 => by
                rw [hD]; exact HDL.out k hkn ⟨fr, en, nf, nt, mf, mt⟩ [] fuel vw' (.slice (some ⟨g, o, none⟩) 0 0) X1 q1 q2 q3 q4 (by rw [← hD]; exact hDb)
              have HLEN : Hid (∀ r l2 f2, D = .ok r l2 f2 → l2.length ≤ 0) := fun r l2 f2 hd => by
                rw [hD] at hd
                exact dollar_len hd (fun a b l f r l2 f2 hm => mean_len ev tx within s k E0 a b l f r l2 f2 hm)
              have HE1 : Hid (D.and (fun r l2 f2 => addF (made ++ u) r fun m2 => meanG ev tx within s k m2 en te l2 f2) = R) := e1
              have HLW : Hid (leftN br wr = 0 + 1) := HI.out.2.2.leftN
              have HKN : Hid (k ≤ n) := Nat.le_of_lt hkn
              clear hlong hml hmz HI e1 hD hkn
              go_region_with (first | (go_at_call 158; (try rw [← hu]); refine HP.out.mono ?_; rintro e w2 ⟨rfl, g1, g2, g3⟩; have H2 : Hid (MI B bw pv within br s vw W a te (made ++ u) [] fuel vw' (.slice (some ⟨g, o, none⟩) 0 0) w2 ∧ w2.heap[xb]? = some (.cells #[.int .i64 (fr : Int), .int .i64 (en : Int), .int .i64 (nf : Int), .int .i64 (nt : Int), .int .i64 (mf : Int), .int .i64 (mt : Int)] 261 (0, 0))) := ⟨HYD.out.add g1 g2 g3 HLg.out, HYD.out.keeps HYB.out g3⟩; clear g1 g2 g3))
              all_goals
                have q0 := V.cell_in H2.out.2 0 rfl
                have q1 := V.cell_in H2.out.2 1 rfl
                have q2 := V.cell_in H2.out.2 2 rfl
                have q3 := V.cell_in H2.out.2 3 rfl
                have q4 := V.cell_in H2.out.2 4 rfl
                have q5 := V.cell_in H2.out.2 5 rfl
                clear z0 y1 HP
                go_wp2_with fail
                refine (HDC.out w2 H2.out.1.wk H2.out.1.rd (H2.out.1.low HK.out.1 hbr HK.out.2) H2.out.1.fu).mono ?_
                intro e w3 hpost
                clear q0 q1 q2 q3 q4 q5 HDC
                cases D with
                | bad => exact absurd rfl hDb
                | err x =>
                  obtain ⟨rfl, hb3⟩ := hpost
                  have hRx : R = .err x := HE1.out.symm
                  subst hRx
                  have H3 : Hid (Below B w2 w3) := hb3
                  clear hb3 HE1 hbad hDb
                  unfold pan
                  go_wp2
                  exact ⟨rfl, rfl, (H2.out.1.fr.below HK.out.1.low (FR.low HK.out.1 hbr)).trans H3.out⟩
                | ok r l2 f2 =>
                  obtain ⟨rfl, hru, hf2, vw3, vl3, hk3, hr3, hfr3, hmv3⟩ := hpost
                  have H3 : Hid (MI B bw pv within br s vw W a te (made ++ u) l2 f2 vw3 vl3 w3 ∧ w3.heap[xb]? = some (.cells #[.int .i64 (fr : Int), .int .i64 (en : Int), .int .i64 (nf : Int), .int .i64 (nt : Int), .int .i64 (mf : Int), .int .i64 (mt : Int)] 261 (0, 0))) := ⟨H2.out.1.turn hk3 hr3 hfr3 hmv3 hf2, H2.out.1.keepsF H2.out.2 hfr3⟩
                  have hE1 : (if 65536 < (made ++ u).size + r.size then .err 5 else meanG ev tx within s k (made ++ u ++ r) en te l2 f2) = R := HE1.out
                  have hml2 : (bl (made ++ u)).length = (made ++ u).size := bl_length _
                  have hmz2 := H3.out.1.sz
                  clear hk3 hr3 hfr3 hmv3 HE1 hDb
                  by_cases hlong2 : 65536 < (made ++ u).size + r.size
                  · rw [if_pos hlong2] at hE1
                    subst hE1
                    have HP : Hid (Calls Tryz.prog 158 #[.pointer (some ⟨W.heap.size + 1, 0, none⟩), .string r] w3 fun e w' => e = pan 5 ∧ w3 = w') := HAE.out (bl (made ++ u)) r w3 H3.out.1.ib (by omega) (by omega) (by omega)
                    clear hlong2 hml2 hmz2 hbad
                    go_wp2_with fail
                    refine HP.out.mono ?_
                    rintro e w4 ⟨rfl, rfl⟩
                    unfold pan
                    go_wp2
                    exact ⟨rfl, rfl, H3.out.1.fr.below HK.out.1.low (FR.low HK.out.1 hbr)⟩
                  · rw [if_neg hlong2] at hE1
                    have HP : Hid (Calls Tryz.prog 158 #[.pointer (some ⟨W.heap.size + 1, 0, none⟩), .string r] w3 fun e w' => e = .returned (.tuple #[]) ∧ IsB (W.heap.size + 1) (W.heap.size + 1) (bl (made ++ u) ++ bl r) w' ∧ Below (W.heap.size + 1) w3 w' ∧ Lib.OthersKept 5 (some (W.heap.size + 1)) w3 w') := HAO.out (bl (made ++ u)) r w3 H3.out.1.ib (Nat.le_of_lt H3.out.1.big) (by omega) (by omega) (by omega)
                    have HE2 : Hid (meanG ev tx within s k (made ++ u ++ r) en te l2 f2 = R ∧ (made ++ u).size + r.size ≤ 65536 ∧ l2.length ≤ 0) := ⟨hE1, by omega, HLEN.out r l2 f2 rfl⟩
                    clear hlong2 hml2 hmz2 hE1 HLEN
                    go_wp2_with fail
                    refine HP.out.mono ?_
                    rintro e w4 ⟨rfl, g1, g2, g3⟩
                    have H4 : Hid (MI B bw pv within br s vw W a te (made ++ u ++ r) l2 f2 vw3 vl3 w4 ∧ w4.heap[xb]? = some (.cells #[.int .i64 (fr : Int), .int .i64 (en : Int), .int .i64 (nf : Int), .int .i64 (nt : Int), .int .i64 (mf : Int), .int .i64 (mt : Int)] 261 (0, 0))) := ⟨H3.out.1.add g1 g2 g3 HE2.out.2.1, H3.out.1.keeps H3.out.2 g3⟩
                    have q1 := V.cell_in H4.out.2 1 rfl
                    clear g1 g2 g3 HP
                    go_wp2_with fail
                    go_roundw
                    case rel => exact ⟨k, made ++ u ++ r, en, l2, f2, vw3, vl3, rfl, HKN.out, HE2.out.1, H4.out.1⟩
                    case measure => rw [H4.out.1.leftN, HLW.out]; have := HE2.out.2.2; omega

          · 

            have b1 : wr.cell? ⟨W.heap.size, 1, none⟩ = some (.int .i64 (te : Int)) := V.cell_in HI.out.2.2.bx 1 rfl
            have c2 : wr.cell? ⟨br, 2, none⟩ = some (.slice (some ⟨g, o, none⟩) (rest.length + 1) c) := V.cell_in HI.out.2.2.rd.blk 2 rfl
            have d0 := hcell 0 _ rfl
            simp only [Nat.add_zero] at d0
            have hrng : at_ ≤ d.fr ∧ d.fr ≤ s.size := by
              by_cases hc : at_ ≤ d.fr ∧ d.fr ≤ s.size
              · exact hc
              · rw [if_neg hc] at e1; exact absurd e1.symm hbad
            rw [if_pos hrng] at e1
            have hN : ∃ u, u = s.extract at_ d.fr ∧ u.size ≤ 1000000 := ⟨_, rfl, by have := ext_size s at_ d.fr; omega⟩
            obtain ⟨u, hu, hus⟩ := hN
            rw [← hu] at e1
            have hml : (bl made).length = made.size := bl_length made
            have hmz := HI.out.2.2.sz
            have hkn : k < n := HI.out.1
            obtain ⟨m, hm⟩ : ∃ m, m = rest.length := ⟨_, rfl⟩
            rw [← hm] at c2 hcl
            have hm0 : (0 : Int) < (m : Int) + 1 := by omega
            obtain ⟨fr, en, nf, nt, mf, mt⟩ := d
            dsimp only at hlt hrng hu e1
            have i1 : (at_ : Int) ≤ (fr : Int) := by omega
            have i2 : (fr : Int) ≤ (s.size : Int) := by omega
            have hlt2 : (fr : Int) < (te : Int) := by omega
            have hci : ¬ (c : Int) = 1 := by omega
            have hcj : (1 : Int) ≤ (c : Int) := by omega
            go_wp2_with fail
            go_quiet (fail)
            obtain ⟨X, hX⟩ : ∃ X, X = wr.drewN nq := ⟨_, rfl⟩
            rw [← hX]
            have HX : Hid (MI B bw pv within br s vw W a te made (⟨fr, en, nf, nt, mf, mt⟩ :: rest) fuel vw' (.slice (some ⟨g, o, none⟩) (rest.length + 1) c) X) := by rw [hX]; exact HI.out.2.2.below (below_drewN (Below.refl _ _) _)
            have x0 : X.cell? ⟨g, o, none⟩ = some (.int .i64 (fr : Int)) := by rw [hX]; exact d0
            have x1 : X.cell? ⟨g, o + 1, none⟩ = some (.int .i64 (en : Int)) := by rw [hX]; exact hcell 1 _ rfl
            have x2 : X.cell? ⟨g, o + 2, none⟩ = some (.int .i64 (nf : Int)) := by rw [hX]; exact hcell 2 _ rfl
            have x3 : X.cell? ⟨g, o + 3, none⟩ = some (.int .i64 (nt : Int)) := by rw [hX]; exact hcell 3 _ rfl
            have x4 : X.cell? ⟨g, o + 4, none⟩ = some (.int .i64 (mf : Int)) := by rw [hX]; exact hcell 4 _ rfl
            have x5 : X.cell? ⟨g, o + 5, none⟩ = some (.int .i64 (mt : Int)) := by rw [hX]; exact hcell 5 _ rfl
            have xl : X.cell? ⟨br, 2, none⟩ = some (.slice (some ⟨g, o, none⟩) (m + 1) c) := by rw [hX]; exact c2
            have xf : X.frozen? ⟨br, 2, none⟩ = false := by simp [World.frozen?, HX.out.rd.blk]
            have xbr : br < X.heap.size := HX.out.rd.lt
            have HTL : Hid (DlsAt X (.slice (some ⟨g, o + 6, none⟩) rest.length (c - 1)) rest) := by rw [hX]; exact htail2.kept (fun _ _ e => e)
            clear hX c2 d0 b1 hcell htail1 htail2
            go_wp2_with fail
            obtain ⟨Y, hY⟩ : ∃ Y, Y = (X.setCell ⟨br, 2, none⟩ (.slice (some ⟨g, o + 6, none⟩) rest.length (c - 1))).alloc (.cells #[.int .i64 (fr : Int), .int .i64 (en : Int), .int .i64 (nf : Int), .int .i64 (nt : Int), .int .i64 (mf : Int), .int .i64 (mt : Int)] 261) := ⟨_, rfl⟩
            rw [← hY]
            have HY : Hid (MI B bw pv within br s vw W a te made rest fuel vw' (.slice (some ⟨g, o + 6, none⟩) rest.length (c - 1)) Y) := by rw [hY]; exact HX.out.take HTL.out _
            have HYB : Hid (Y.heap[X.heap.size]? = some (.cells #[.int .i64 (fr : Int), .int .i64 (en : Int), .int .i64 (nf : Int), .int .i64 (nt : Int), .int .i64 (mf : Int), .int .i64 (mt : Int)] 261 (0, 0))) := by
              rw [hY]
              have := heap_alloc_new (X.setCell ⟨br, 2, none⟩ (.slice (some ⟨g, o + 6, none⟩) rest.length (c - 1))) (.cells #[.int .i64 (fr : Int), .int .i64 (en : Int), .int .i64 (nf : Int), .int .i64 (nt : Int), .int .i64 (mf : Int), .int .i64 (mt : Int)] 261)
              rwa [size_set] at this
            have y1 : Y.cell? ⟨br, 1, none⟩ = some (.string s) := V.cell_in HY.out.rd.blk 1 rfl
            have z0 : Y.cell? ⟨X.heap.size, 0, none⟩ = some (.int .i64 (fr : Int)) := V.cell_in HYB.out 0 rfl
            have HYD : Hid (MI B bw pv within br s vw W a te made rest fuel vw' (.slice (some ⟨g, o + 6, none⟩) rest.length (c - 1)) Y.drew) := HY.out.below (low_drew _ _)
            obtain ⟨xb, hxb⟩ : ∃ xb, xb = X.heap.size := ⟨_, rfl⟩
            rw [← hxb] at HYB z0 ⊢
            clear hY x0 x1 x2 x3 x4 x5 xl xf xbr HTL HX hxb
            unfold addF at e1
            by_cases hlong : 65536 < made.size + u.size
            · rw [if_pos hlong] at e1
              subst e1
              have HP : Hid (Calls Tryz.prog 158 #[.pointer (some ⟨W.heap.size + 1, 0, none⟩), .string u] Y.drew fun e w' => e = pan 5 ∧ Y.drew = w') := HAE.out (bl made) u Y.drew HYD.out.ib (by omega) (by omega) (by omega)
              clear hlong hml hmz HI hbad
              go_region_with (first | (go_at_call 158; (try rw [← hu]); refine calls_panic (.tuple #[]) HP.out (fun w6 hb6 => ?_) (fun HF => ?_); focus (unfold pan; go_wp2; exact ⟨rfl, rfl, by rw [← hb6]; exact HYD.out.fr.below HK.out.1.low (FR.low HK.out.1 hbr)⟩)))
              all_goals (exact HF.out.elim)
            · rw [if_neg hlong] at e1
              have HP : Hid (Calls Tryz.prog 158 #[.pointer (some ⟨W.heap.size + 1, 0, none⟩), .string u] Y.drew fun e w' => e = .returned (.tuple #[]) ∧ IsB (W.heap.size + 1) (W.heap.size + 1) (bl made ++ bl u) w' ∧ Below (W.heap.size + 1) Y.drew w' ∧ Lib.OthersKept 5 (some (W.heap.size + 1)) Y.drew w') := HAO.out (bl made) u Y.drew HYD.out.ib (Nat.le_of_lt HYD.out.big) (by omega) (by omega) (by omega)
              have HLg : Hid (made.size + u.size ≤ 65536) := by unfold Hid; omega
              obtain ⟨D, hD⟩ : ∃ D, D = dollarF ev tx within (fun a b l f => meanG ev tx within s k E0 a b l f) ⟨fr, en, nf, nt, mf, mt⟩ rest fuel := ⟨_, rfl⟩
              rw [← hD] at e1
              have hDb : D ≠ .bad := fun e => hbad (by rw [← e1, e]; rfl)
              have HDC : Hid (∀ X1, WkAt B bw pv fuel vw' within X1 → RdAt br bw s (.slice (some ⟨g, o + 6, none⟩) rest.length (c - 1)) rest X1 → Below B w0 X1 → fuel ≤ 10000000 → Calls Tryz.prog 159 #[.pointer (some ⟨br, 0, none⟩), .agg #[.int .i64 (fr : Int), .int .i64 (en : Int), .int .i64 (nf : Int), .int .i64 (nt : Int), .int .i64 (mf : Int), .int .i64 (mt : Int)]] X1 (MePost B bw pv within vw' br s X1 D)) := fun X1 q1 q2 q3 q4 => by
                rw [hD]; exact HDL.out k hkn ⟨fr, en, nf, nt, mf, mt⟩ rest fuel vw' (.slice (some ⟨g, o + 6, none⟩) rest.length (c - 1)) X1 q1 q2 q3 q4 (by rw [← hD]; exact hDb)
              have HLEN : Hid (∀ r l2 f2, D = .ok r l2 f2 → l2.length ≤ rest.length) := fun r l2 f2 hd => by
                rw [hD] at hd
                exact dollar_len hd (fun a b l f r l2 f2 hm => mean_len ev tx within s k E0 a b l f r l2 f2 hm)
              have HE1 : Hid (D.and (fun r l2 f2 => addF (made ++ u) r fun m2 => meanG ev tx within s k m2 en te l2 f2) = R) := e1
              have HLW : Hid (leftN br wr = rest.length + 1) := HI.out.2.2.leftN
              have HKN : Hid (k ≤ n) := Nat.le_of_lt hkn
              clear hlong hml hmz HI e1 hD hkn
              go_region_with (first | (go_at_call 158; (try rw [← hu]); refine HP.out.mono ?_; rintro e w2 ⟨rfl, g1, g2, g3⟩; have H2 : Hid (MI B bw pv within br s vw W a te (made ++ u) rest fuel vw' (.slice (some ⟨g, o + 6, none⟩) rest.length (c - 1)) w2 ∧ w2.heap[xb]? = some (.cells #[.int .i64 (fr : Int), .int .i64 (en : Int), .int .i64 (nf : Int), .int .i64 (nt : Int), .int .i64 (mf : Int), .int .i64 (mt : Int)] 261 (0, 0))) := ⟨HYD.out.add g1 g2 g3 HLg.out, HYD.out.keeps HYB.out g3⟩; clear g1 g2 g3))
              all_goals
                have q0 := V.cell_in H2.out.2 0 rfl
                have q1 := V.cell_in H2.out.2 1 rfl
                have q2 := V.cell_in H2.out.2 2 rfl
                have q3 := V.cell_in H2.out.2 3 rfl
                have q4 := V.cell_in H2.out.2 4 rfl
                have q5 := V.cell_in H2.out.2 5 rfl
                clear z0 y1 HP
                go_wp2_with fail
                refine (HDC.out w2 H2.out.1.wk H2.out.1.rd (H2.out.1.low HK.out.1 hbr HK.out.2) H2.out.1.fu).mono ?_
                intro e w3 hpost
                clear q0 q1 q2 q3 q4 q5 HDC
                cases D with
                | bad => exact absurd rfl hDb
                | err x =>
                  obtain ⟨rfl, hb3⟩ := hpost
                  have hRx : R = .err x := HE1.out.symm
                  subst hRx
                  have H3 : Hid (Below B w2 w3) := hb3
                  clear hb3 HE1 hbad hDb
                  unfold pan
                  go_wp2
                  exact ⟨rfl, rfl, (H2.out.1.fr.below HK.out.1.low (FR.low HK.out.1 hbr)).trans H3.out⟩
                | ok r l2 f2 =>
                  obtain ⟨rfl, hru, hf2, vw3, vl3, hk3, hr3, hfr3, hmv3⟩ := hpost
                  have H3 : Hid (MI B bw pv within br s vw W a te (made ++ u) l2 f2 vw3 vl3 w3 ∧ w3.heap[xb]? = some (.cells #[.int .i64 (fr : Int), .int .i64 (en : Int), .int .i64 (nf : Int), .int .i64 (nt : Int), .int .i64 (mf : Int), .int .i64 (mt : Int)] 261 (0, 0))) := ⟨H2.out.1.turn hk3 hr3 hfr3 hmv3 hf2, H2.out.1.keepsF H2.out.2 hfr3⟩
                  have hE1 : (if 65536 < (made ++ u).size + r.size then .err 5 else meanG ev tx within s k (made ++ u ++ r) en te l2 f2) = R := HE1.out
                  have hml2 : (bl (made ++ u)).length = (made ++ u).size := bl_length _
                  have hmz2 := H3.out.1.sz
                  clear hk3 hr3 hfr3 hmv3 HE1 hDb
                  by_cases hlong2 : 65536 < (made ++ u).size + r.size
                  · rw [if_pos hlong2] at hE1
                    subst hE1
                    have HP : Hid (Calls Tryz.prog 158 #[.pointer (some ⟨W.heap.size + 1, 0, none⟩), .string r] w3 fun e w' => e = pan 5 ∧ w3 = w') := HAE.out (bl (made ++ u)) r w3 H3.out.1.ib (by omega) (by omega) (by omega)
                    clear hlong2 hml2 hmz2 hbad
                    go_wp2_with fail
                    refine HP.out.mono ?_
                    rintro e w4 ⟨rfl, rfl⟩
                    unfold pan
                    go_wp2
                    exact ⟨rfl, rfl, H3.out.1.fr.below HK.out.1.low (FR.low HK.out.1 hbr)⟩
                  · rw [if_neg hlong2] at hE1
                    have HP : Hid (Calls Tryz.prog 158 #[.pointer (some ⟨W.heap.size + 1, 0, none⟩), .string r] w3 fun e w' => e = .returned (.tuple #[]) ∧ IsB (W.heap.size + 1) (W.heap.size + 1) (bl (made ++ u) ++ bl r) w' ∧ Below (W.heap.size + 1) w3 w' ∧ Lib.OthersKept 5 (some (W.heap.size + 1)) w3 w') := HAO.out (bl (made ++ u)) r w3 H3.out.1.ib (Nat.le_of_lt H3.out.1.big) (by omega) (by omega) (by omega)
                    have HE2 : Hid (meanG ev tx within s k (made ++ u ++ r) en te l2 f2 = R ∧ (made ++ u).size + r.size ≤ 65536 ∧ l2.length ≤ rest.length) := ⟨hE1, by omega, HLEN.out r l2 f2 rfl⟩
                    clear hlong2 hml2 hmz2 hE1 HLEN
                    go_wp2_with fail
                    refine HP.out.mono ?_
                    rintro e w4 ⟨rfl, g1, g2, g3⟩
                    have H4 : Hid (MI B bw pv within br s vw W a te (made ++ u ++ r) l2 f2 vw3 vl3 w4 ∧ w4.heap[xb]? = some (.cells #[.int .i64 (fr : Int), .int .i64 (en : Int), .int .i64 (nf : Int), .int .i64 (nt : Int), .int .i64 (mf : Int), .int .i64 (mt : Int)] 261 (0, 0))) := ⟨H3.out.1.add g1 g2 g3 HE2.out.2.1, H3.out.1.keeps H3.out.2 g3⟩
                    have q1 := V.cell_in H4.out.2 1 rfl
                    clear g1 g2 g3 HP
                    go_wp2_with fail
                    go_roundw
                    case rel => exact ⟨k, made ++ u ++ r, en, l2, f2, vw3, vl3, rfl, HKN.out, HE2.out.1, H4.out.1⟩
                    case measure => rw [H4.out.1.leftN, HLW.out]; have := HE2.out.2.2; omega

        · rw [if_neg hlt] at e1
          have d0 := hcell 0 _ rfl
          have b1 : wr.cell? ⟨W.heap.size, 1, none⟩ = some (.int .i64 (te : Int)) := V.cell_in HI.out.2.2.bx 1 rfl
          have c2 : wr.cell? ⟨br, 2, none⟩ = some (.slice (some ⟨g, o, none⟩) (rest.length + 1) c) := V.cell_in HI.out.2.2.rd.blk 2 rfl
          unfold endG addF at e1
          have hrng : at_ ≤ te ∧ te ≤ s.size := by
            by_cases hc : at_ ≤ te ∧ te ≤ s.size
            · exact hc
            · rw [if_neg hc] at e1; exact absurd e1.symm hbad
          rw [if_pos hrng] at e1
          simp only [Nat.add_zero] at d0
          obtain ⟨m, hm⟩ : ∃ m, m = rest.length := ⟨_, rfl⟩
          rw [← hm] at c2
          have hm0 : (0 : Int) < (m : Int) + 1 := by omega
          obtain ⟨df, hdf⟩ : ∃ df, df = d.fr := ⟨_, rfl⟩
          rw [← hdf] at d0 hlt
          have hlt2 : decide ((df : Int) < (te : Int)) = false := by simp; omega
          have hlt3 : ¬ (df : Int) < (te : Int) := by omega
          have hN : ∃ u, u = s.extract at_ te ∧ u.size ≤ 1000000 := ⟨_, rfl, by have := ext_size s at_ te; omega⟩
          obtain ⟨u, hu, hus⟩ := hN
          have i1 : (at_ : Int) ≤ (te : Int) := by omega
          have i2 : (te : Int) ≤ (s.size : Int) := by omega
          rw [← hu] at e1
          have hml : (bl made).length = made.size := bl_length made
          have hmz := HI.out.2.2.sz
          go_wp2_with fail
          go_quiet (fail)
          go_wp2_with fail
          obtain ⟨X, hX⟩ : ∃ X, X = wr.drewN nq := ⟨_, rfl⟩
          rw [← hX]
          have HX : Hid (MI B bw pv within br s vw W a te made (d :: rest) fuel vw' (.slice (some ⟨g, o, none⟩) (rest.length + 1) c) X) := by rw [hX]; exact HI.out.2.2.below (below_drewN (Below.refl _ _) _)
          have HXD : Hid (MI B bw pv within br s vw W a te made (d :: rest) fuel vw' (.slice (some ⟨g, o, none⟩) (rest.length + 1) c) X.drew) := HX.out.below (low_drew _ _)
          have x1 : X.cell? ⟨br, 1, none⟩ = some (.string s) := V.cell_in HX.out.rd.blk 1 rfl
          have x3 : X.cell? ⟨W.heap.size, 1, none⟩ = some (.int .i64 (te : Int)) := V.cell_in HX.out.bx 1 rfl
          clear hX c2 hrng d0 b1 hm hm0 hdf hlt hlt2 hlt3 hcell htail1 htail2
          by_cases hlong : 65536 < made.size + u.size
          · rw [if_pos hlong] at e1
            subst e1
            have HP : Hid (Calls Tryz.prog 158 #[.pointer (some ⟨W.heap.size + 1, 0, none⟩), .string u] X.drew fun e w' => e = pan 5 ∧ X.drew = w') := HAE.out (bl made) u X.drew HXD.out.ib (by omega) (by omega) (by omega)
            clear hlong hml hmz HI hbad
            go_region_with (first | (go_at_call 158; (try rw [← hu]); refine calls_panic (.tuple #[]) HP.out (fun w6 hb6 => ?_) (fun HF => ?_); focus (unfold pan; go_wp2; exact ⟨rfl, rfl, by rw [← hb6]; exact HXD.out.fr.below HK.out.1.low (FR.low HK.out.1 hbr)⟩)))
            all_goals (go_wp2_with fail; exact HF.out.elim)
          · rw [if_neg hlong] at e1
            subst e1
            have HP : Hid (Calls Tryz.prog 158 #[.pointer (some ⟨W.heap.size + 1, 0, none⟩), .string u] X.drew fun e w' => e = .returned (.tuple #[]) ∧ IsB (W.heap.size + 1) (W.heap.size + 1) (bl made ++ bl u) w' ∧ Below (W.heap.size + 1) X.drew w' ∧ Lib.OthersKept 5 (some (W.heap.size + 1)) X.drew w') := HAO.out (bl made) u X.drew HXD.out.ib (Nat.le_of_lt HXD.out.big) (by omega) (by omega) (by omega)
            have HLg : Hid (made.size + u.size ≤ 65536) := by unfold Hid; omega
            clear hlong hml hmz HI hbad
            go_region_with (first | (go_at_call 158; (try rw [← hu]); refine HP.out.mono ?_; rintro e w2 ⟨rfl, g1, g2, g3⟩; have H2 : Hid (MI B bw pv within br s vw W a te (made ++ u) (d :: rest) fuel vw' (.slice (some ⟨g, o, none⟩) (rest.length + 1) c) w2) := HXD.out.add g1 g2 g3 HLg.out; clear g1 g2 g3))
            all_goals
              go_wp2_with fail
              refine (HST.out _ w2 H2.out.ib (Nat.le_of_lt H2.out.big)).mono ?_
              rintro e w3 ⟨rfl, g1, g2, g3⟩
              have H3 : Hid (MI B bw pv within br s vw W a te (made ++ u) (d :: rest) fuel vw' (.slice (some ⟨g, o, none⟩) (rest.length + 1) c) w3) := H2.out.wrote g1 g2 g3 H2.out.sz
              clear g1 g2 g3
              go_wp2
              go_ret
              have hq := H3.out.sz
              exact ⟨ret_str (by rw [hu]; exact ba_bl _), by omega, H3.out.fu, vw', (.slice (some ⟨g, o, none⟩) (rest.length + 1) c), H3.out.wk, H3.out.rd, H3.out.fr, H3.out.mv⟩
end
end Go.Proofs.YtkelmhpoplbacaaGreatDoor.Ex
