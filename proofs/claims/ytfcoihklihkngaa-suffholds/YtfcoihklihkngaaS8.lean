/-
  What the search finds.
-/
import Derived.Test.YtfcoihklihkngaaS7
import Derived.Test.YtfcoihklihkngaaSM3
namespace Go.Proofs.Ytfcoihklihkngaa
open Go.RowKit Go.Shelf Go.Maps

/-- What a search hands back. -/
def SrchPost (F : List S.Row) (w : World) (e : Ending) (w' : World) : Prop := ∃ v, e = .returned v ∧ Below w.heap.size w w' ∧ w'.ownsRow w.heap.size 47 2 v F.length (flat F)
/-- The memory of a search: the table's box, the rows, the set of names seen. -/
structure Sm (w : World) (tb : Array Value) (ms : Nat) (v : Value) (l : List S.Row) (W : World) : Prop where
  below : Below w.heap.size w W
  box : W.heap[w.heap.size]? = some (.cells tb 30 (0, 0))
  row : W.ownsRow w.heap.size 47 2 v l.length (flat l)
  set_ : SetF W ms (S.hasN l) l.length
  ms : w.heap.size < ms
theorem Sm.nb {w : World} {tb : Array Value} {ms : Nat} {v : Value} {l : List S.Row} {W : World} (h : Sm w tb ms v l W) : v.ownBlock ≠ some w.heap.size := fun he => by
  obtain ⟨cur, hc⟩ := row_type h.row he
  rw [h.box] at hc; cases hc
theorem Sm.nm {w : World} {tb : Array Value} {ms : Nat} {v : Value} {l : List S.Row} {W : World} (h : Sm w tb ms v l W) : v.ownBlock ≠ some ms := fun he => by
  obtain ⟨cur, hc⟩ := row_type h.row he
  obtain ⟨D, ⟨es, clock, hb, _⟩, _⟩ := h.set_
  rw [hb] at hc; cases hc
theorem Sm.on {w W W1 : World} {tb : Array Value} {ms : Nat} {v : Value} {l : List S.Row} (h : Sm w tb ms v l W) (hb : Below W.heap.size W W1) : Sm w tb ms v l W1 :=
  ⟨below_trans h.below hb h.below.size, (hb.block _ (Array.getElem?_eq_some_iff.1 h.box).1).trans h.box, owns_below h.row hb, h.set_.of_block (hb.block _ h.set_.lt), h.ms⟩

set_option maxRecDepth 20000 in
set_option maxHeartbeats 2000000 in
theorem search_any (vs vw vm : Value) (Sf : List S.Tx) (L : List S.Way) (nm : ByteArray) (wt : S.Tx → Bool) (B : Nat) (w : World) (hT : Tb B w vs vw Sf L) (hz : ∀ x ∈ L, x.1.length ≤ 50 ∧ x.2.length ≤ 50) (hn : nm.size ≤ 200) (hl : Looks w.heap.size w vm wt) (hm : L.length ≤ 256) :
    Calls Try.prog 16 #[.agg #[vs, vw], .string nm, vm] w (SrchPost (S.srch wt L (bl nm)) w) := by
  obtain ⟨aw, cw, rfl⟩ := hT.way.slice
  obtain ⟨F, hF⟩ : ∃ F, F = S.srch wt L (bl nm) := ⟨_, rfl⟩
  rw [← hF]
  have hcw := hT.way.len.2
  obtain ⟨m, hmm⟩ : ∃ m, m = L.length := ⟨_, rfl⟩
  rw [← hmm] at hcw hm
  have HT : Hid (m = L.length ∧ Tb B w vs (.slice aw m cw) Sf L ∧ ∀ x ∈ L, x.1.length ≤ 50 ∧ x.2.length ≤ 50) := ⟨hmm, by rw [hmm]; exact hT, hz⟩
  have HL : Hid (Looks w.heap.size w vm wt) := hl
  have HCut : Hid (∀ (x s : ByteArray) (W : World), x.size ≤ 1000000 → Calls Try.prog 21 #[.string x, .string s] W fun e w' => e = .returned (.tuple #[.string (cutV x s), .bool (S.ends (bl x) (bl s))]) ∧ w' = W) := fun x s W h => cutSuffix_any x s W h
  rw [← hmm]
  clear hT hz hl hmm
  have hmk := @run_makeMap Try.prog
  -- the start
  obtain ⟨W3, hW3⟩ : ∃ W3, W3 = ((w.alloc (.cells #[vs, .slice aw m cw] 30)).alloc (.cells #[.string nm, .int .i64 (-1)] 47)).alloc (.map #[] 0) := ⟨_, rfl⟩
  have HS0 : Hid (SetF W3 (w.heap.size + 1 + 1) (fun _ => false) 0) := by
    refine SetF.empty (clock := 0) ?_
    rw [hW3]; exact alloc_b (by simp)
  obtain ⟨W4, hrun, hset, hturn⟩ := HS0.out.put (q := nm) (by omega) (by omega)
  have HJ : Hid (Sm w #[vs, .slice aw m cw] (w.heap.size + 1 + 1) (.slice (some ⟨w.heap.size + 1, 0, none⟩) 1 1) [(bl nm, -1)] W4) := by
    have hb3 : Below w.heap.size w W3 := by
      rw [hW3]; exact ((below_alloc1 _ _).alloc (by simp) _).alloc (by simp; omega) _
    have e1 : W3.heap[w.heap.size]? = some (.cells #[vs, .slice aw m cw] 30 (0, 0)) := by
      rw [hW3, Below.heap_alloc _ _ _ (by simp; omega), Below.heap_alloc _ _ _ (by simp)]; exact alloc_b rfl
    have e2 : W3.heap[w.heap.size + 1]? = some (.cells #[.string nm, .int .i64 (-1)] 47 (0, 0)) := by
      rw [hW3, Below.heap_alloc _ _ _ (by simp)]; exact alloc_b (by simp)
    refine ⟨below_trans hb3 (hturn.below (B := w.heap.size) (by omega)) (Nat.le_refl _), (hturn.block _ (by omega)).trans e1, ?_, hset.congr fun t => (S.hasN_one (bl nm) t).symm, by omega⟩
    have e3 : flat [(bl nm, -1)] = [.string nm, .int .i64 (-1)] := by unfold flat rowC; simp [ba_bl]
    rw [e3]
    exact ⟨rfl, .inr ⟨w.heap.size + 1, 1, #[.string nm, .int .i64 (-1)], rfl, by omega, (hturn.block _ (by omega)).trans e2, Nat.le_refl _, by unfold maxLen; omega, rfl, rfl⟩⟩
  have HR0 : Hid (S.Rnd9 wt L (bl nm) F 0 0 [(bl nm, -1)]) := by rw [hF]; exact S.Rnd9.start wt L (bl nm)
  rw [hW3] at hrun
  clear hset hturn HS0 hW3 hF
  go_enter Try.func16, Try.ntmps16
  go_wp2_with fail
  go_step3
  go_wp2_with fail
  go_step3
  go_wp2_with fail
  go_loopw [7, 9, 28] (fun v7 v9 v28 wr => ∃ (r a : Nat) (l : List S.Row), r ≤ 6 ∧ v28 = .int .i64 (r : Int) ∧ v9 = .int .i64 (a : Int) ∧ Hid (Sm w #[vs, .slice aw m cw] (w.heap.size + 1 + 1) v7 l wr ∧ S.Rnd9 wt L (bl nm) F r a l)) (fun _ _ v28 _ => 6 - (intOf v28).toNat)
  case atStart => exact ⟨0, 0, _, Nat.zero_le _, rfl, rfl, HJ.out, HR0.out⟩
  case round =>
    obtain ⟨r, a, l, hr, rfl, rfl, HI⟩ := hrel
    obtain ⟨la, lc, hv7⟩ := V.owns_slice HI.out.1.row
    subst hv7
    obtain ⟨e, he⟩ : ∃ e, e = l.length := ⟨_, rfl⟩
    have hel : e ≤ 512 := by rw [he]; exact HI.out.2.at_.good.len
    have hae : a ≤ e := by rw [he]; exact HI.out.2.at_.a_le
    rw [← he] at HI ⊢
    by_cases hr6 : r < 6
    · have hri : (r : Int) < 6 := by omega
      have HB : Hid (S.Row9 wt L (bl nm) F r e a l) := by unfold Hid; rw [he]; exact HI.out.2.begin hr6
      have HS : Hid (Sm w #[vs, .slice aw m cw] (w.heap.size + 1 + 1) (.slice la e lc) l wr) := HI.out.1
      clear HI he
      go_wp2_with fail
      go_loopw [7, 11] (fun v7 v11 wr => ∃ (p : Nat) (l : List S.Row), p ≤ e ∧ v11 = .int .i64 (p : Int) ∧ Hid (Sm w #[vs, .slice aw m cw] (w.heap.size + 1 + 1) v7 l wr ∧ S.Row9 wt L (bl nm) F r e p l)) (fun _ v11 _ => e - (intOf v11).toNat)
      case atStart => exact ⟨a, l, hae, rfl, HS.out, HB.out⟩
      case round =>
        clear HS HB
        obtain ⟨p, l, hp, rfl, HI⟩ := hrel
        obtain ⟨la, lc, hv7⟩ := V.owns_slice HI.out.1.row
        subst hv7
        by_cases hpe : p < e
        · have hpi : (p : Int) < (e : Int) := by omega
          have z1 := cell_in HI.out.1.box 1 rfl
          have HW : Hid (S.Way9 wt L (bl nm) F r p e p 0 l) := HI.out.2.begin hpe
          have HS : Hid _ := HI.out.1
          clear HI
          go_wp2_with fail
          go_loopw [7, 41] (fun v7 v41 wr => ∃ (j : Nat) (l : List S.Row), j ≤ m ∧ v41 = .int .i64 (j : Int) ∧ Hid (Sm w #[vs, .slice aw m cw] (w.heap.size + 1 + 1) v7 l wr ∧ S.Way9 wt L (bl nm) F r p e p j l)) (fun _ v41 _ => m - (intOf v41).toNat)
          case atStart => exact ⟨0, l, Nat.zero_le _, rfl, HS.out, HW.out⟩
          case round =>
            clear HS HW z1
            obtain ⟨j, l, hj, rfl, HI⟩ := hrel
            obtain ⟨la, lc, hv7⟩ := V.owns_slice HI.out.1.row
            subst hv7
            by_cases hjm : j < m
            · have hji : (j : Int) < (m : Int) := by omega
              have hjl : j < L.length := by rw [← HT.out.1]; exact hjm
              obtain ⟨b, o, rfl, hb, hc0, hc1⟩ := HT.out.2.1.way.pick (List.getElem?_eq_getElem hjl)
              have hbw := Nat.lt_of_lt_of_le hb HT.out.2.1.lo
              have d0 := (HI.out.1.below.cell (p := ⟨b, o + j * 2, none⟩) hbw).trans hc0
              have d1 := (HI.out.1.below.cell (p := ⟨b, o + j * 2 + 1, none⟩) hbw).trans hc1
              have HG : Hid (L[j]? = some L[j]) := List.getElem?_eq_getElem hjl
              have HZ := HT.out.2.2 _ (List.getElem_mem hjl)
              obtain ⟨x, hx⟩ : ∃ x, x = L[j] := ⟨_, rfl⟩
              rw [← hx] at d0 d1 HG HZ
              obtain ⟨u1, hu1⟩ : ∃ y, y = ba x.1 := ⟨_, rfl⟩
              obtain ⟨u2, hu2⟩ : ∃ y, y = ba x.2 := ⟨_, rfl⟩
              rw [← hu1] at d0
              rw [← hu2] at d1
              have hz1 : u1.size ≤ 50 := by rw [hu1, ba_size]; exact HZ.1
              have hz2 : u2.size ≤ 50 := by rw [hu2, ba_size]; exact HZ.2
              have HU : Hid (bl u1 = x.1 ∧ bl u2 = x.2) := ⟨by rw [hu1, bl_ba'], by rw [hu2, bl_ba']⟩
              clear hc0 hc1 hx hu1 hu2 hb hbw HZ
              -- the row p
              have hle := HI.out.2.inn.le
              obtain ⟨y, hy⟩ : ∃ y, l[p]? = some y := ⟨l[p]'(Nat.lt_of_lt_of_le hpe hle), List.getElem?_eq_getElem _⟩
              have hysz := HI.out.2.inn.good.size2 (by rw [bl_length]; exact hn) (fun x hx => (HT.out.2.2 x hx).1) hy
              have hll : l.length < 512 := HI.out.2.inn.go rfl
              obtain ⟨n, hnl⟩ : ∃ n, n = l.length := ⟨_, rfl⟩
              have hpn : p < n := by rw [hnl]; exact Nat.lt_of_lt_of_le hpe hle
              obtain ⟨g, cap, hv, hg, hcap, r0, r1⟩ := row_at HI.out.1.row hy
              rw [← hnl] at hv hcap hll
              simp only [Value.slice.injEq] at hv
              obtain ⟨rfl, _, rfl⟩ := hv
              obtain ⟨yt, hyt⟩ : ∃ t, t = ba y.1 := ⟨_, rfl⟩
              rw [← hyt] at r0
              have hyz : yt.size ≤ 26000 := by rw [hyt, ba_size]; exact hysz
              have HY : Hid (l[p]? = some y ∧ bl yt = y.1 ∧ n = l.length) := ⟨hy, by rw [hyt, bl_ba'], hnl⟩
              have hpni : (p : Int) < (n : Int) := by omega
              obtain ⟨W1, hW1⟩ : ∃ W1, W1 = wr.alloc (.cells #[.string u1, .string u2] 48) := ⟨_, rfl⟩
              have HI1 : Hid (Sm w #[vs, .slice (some ⟨b, o, none⟩) m cw] (w.heap.size + 1 + 1) (.slice (some ⟨g, 0, none⟩) n lc) l W1) := by rw [hW1, hnl]; exact HI.out.1.on (below_alloc1 _ _)
              have hbx : W1.heap[wr.heap.size]? = some (.cells #[.string u1, .string u2] 48 (0, 0)) := by rw [hW1]; exact alloc_b rfl
              have q0 : W1.cell? ⟨g, p * 2, none⟩ = some (.string yt) := by rw [hW1, (below_alloc1 wr _).cell (p := ⟨g, p * 2, none⟩) hg]; exact r0
              obtain ⟨x6, hx6⟩ : ∃ x6, x6 = wr.heap.size := ⟨_, rfl⟩
              rw [← hx6] at hbx
              have b0 := cell_in hbx 0 rfl
              have b1 := cell_in hbx 1 rfl
              have HW9 : Hid (S.Way9 wt L (bl nm) F r p e p j l) := HI.out.2
              have HX6 : Hid (W1.heap[x6]? = some (.cells #[.string u1, .string u2] 48 (0, 0))) := hbx
              have HCy : Hid (∀ W : World, Calls Try.prog 21 #[.string yt, .string u2] W fun e w' => e = .returned (.tuple #[.string (cutV yt u2), .bool (S.ends (bl yt) (bl u2))]) ∧ w' = W) := fun W => HCut.out yt u2 W (by omega)
              rw [← hnl]
              clear hnl hy hyt hysz r0 r1 hle HI hbx
              cases hen : S.ends (bl yt) (bl u2) with
              | false =>
                have HC1 : Hid (∀ W : World, Calls Try.prog 21 #[.string yt, .string u2] W fun e w' => e = .returned (.tuple #[.string (cutV yt u2), .bool false]) ∧ w' = W) := by have h := HCy.out; rw [hen] at h; exact h
                have HN : Hid (S.Way9 wt L (bl nm) F r p e p (j + 1) l) := HW9.out.step hpe HG.out (S.one_none HY.out.1 (by rw [← HY.out.2.1, ← HU.out.2]; exact hen))
                clear HCy hen HW9 HCut
                go_upto_region 13 with fail
                rw [← hW1, ← hx6]
                clear hW1 hx6 d0 d1
                go_quiet ((go_at_call 21; exact Calls.quiet_of_same (HC1.out _)))
                go_wp2_with fail
                go_roundw
                case rel => exact ⟨j + 1, l, by omega, by go_num, HI1.out.on (below_drewN (Below.refl _ _) _), HN.out⟩
                case measure => simp [intOf]; omega
              | true =>
                obtain ⟨st, hst⟩ : ∃ st, st = cutV yt u2 := ⟨_, rfl⟩
                have HC1 : Hid (∀ W : World, Calls Try.prog 21 #[.string yt, .string u2] W fun e w' => e = .returned (.tuple #[.string st, .bool true]) ∧ w' = W) := by have h := HCy.out; rw [hen, ← hst] at h; exact h
                have hse : st = ba (S.stem (bl yt) (bl u2)) := by rw [hst]; unfold cutV; rw [if_pos hen]
                have hsz : st.size ≤ 26000 := by
                  rw [hse, ba_size]; unfold S.stem
                  have := List.length_take_le' ((bl yt).length - (bl u2).length) (bl yt)
                  have h2 : (bl yt).length = yt.size := bl_length _
                  omega
                obtain ⟨mt, hmt⟩ : ∃ mt, mt = st ++ u1 := ⟨_, rfl⟩
                have hmz : mt.size ≤ 26050 := by rw [hmt, ByteArray.size_append]; omega
                have hadd : ∀ W, (Op.stringOp .add st u1).run Try.prog W = .ok (.string mt) W := fun W => by rw [hmt]; exact run_string_add_sum W _ _ (by omega)
                have HM : Hid (S.ends y.1 x.2 = true ∧ bl mt = S.stem y.1 x.2 ++ x.1) := by
                  refine ⟨by rw [← HY.out.2.1, ← HU.out.2]; exact hen, ?_⟩
                  rw [hmt, bl_app, hse, bl_ba', HU.out.1, HY.out.2.1, HU.out.2]
                have hsee := fun W hW => HI1.out.set_.see (q := mt) (by omega) W hW
                have hmsl := HI1.out.set_.lt
                clear HCy hen HCut hst hse hmt hsz
                cases hha : S.hasN l (bl mt) with
                | true =>
                  rw [hha] at hsee
                  have HSE : Hid (∀ W : World, W.heap[w.heap.size + 1 + 1]? = W1.heap[w.heap.size + 1 + 1]? → (Instr.lookup 41 (.map (some (w.heap.size + 1 + 1))) (.string mt) true).run Try.prog W = .ok (.tuple #[setV, .bool true]) W) := hsee
                  have HN : Hid (S.Way9 wt L (bl nm) F r p e p (j + 1) l) := HW9.out.step hpe HG.out (S.one_had HY.out.1 HM.out.1 (by rw [← HM.out.2]; exact hha))
                  clear hha HW9 hsee
                  go_upto_region 13 with fail
                  rw [← hW1, ← hx6]
                  clear hW1 hx6 d0 d1
                  go_quiet ((go_at_call 21; exact Calls.quiet_of_same (HC1.out _)))
                  have hlk := HSE.out (W1.drewN nq) rfl
                  go_wp2_with fail
                  go_roundw
                  case rel => exact ⟨j + 1, l, by omega, by go_num, HI1.out.on ((below_drewN (Below.refl _ _) _).alloc (Nat.le_refl _) _), HN.out⟩
                  case measure => simp [intOf]; omega
                | false =>
                  rw [hha] at hsee
                  have HSE : Hid (∀ W : World, W.heap[w.heap.size + 1 + 1]? = W1.heap[w.heap.size + 1 + 1]? → (Instr.lookup 41 (.map (some (w.heap.size + 1 + 1))) (.string mt) true).run Try.prog W = .ok (.tuple #[setV, .bool false]) W) := hsee
                  have HO : Hid (S.one wt p (l, false) x = (l ++ [(bl mt, (p : Int))], wt (bl mt) || (n + 1 == 512))) := by
                    unfold Hid
                    rw [HM.out.2, HY.out.2.2]
                    exact S.one_new HY.out.1 HM.out.1 (by rw [← HM.out.2]; exact hha)
                  clear hha hsee
                  go_upto_region 13 with fail
                  rw [← hW1, ← hx6]
                  clear hW1 hx6 d0 d1
                  go_quiet ((go_at_call 21; exact Calls.quiet_of_same (HC1.out _)))
                  obtain ⟨W2, hW2⟩ : ∃ W2, W2 = (W1.drewN nq).alloc (.cells #[] 42) := ⟨_, rfl⟩
                  have HI2 : Hid (Sm w #[vs, .slice (some ⟨b, o, none⟩) m cw] (w.heap.size + 1 + 1) (.slice (some ⟨g, 0, none⟩) n lc) l W2) := by
                    rw [hW2]; exact HI1.out.on ((below_drewN (Below.refl _ _) _).alloc (Nat.le_refl _) _)
                  have hlk := HSE.out (W1.drewN nq) rfl
                  go_upto_region 18 with fail
                  rw [← hW2]
                  clear hW2 hlk HSE
                  obtain ⟨W3, hrun3, hset3, hturn3⟩ := HI2.out.set_.put (q := mt) (by have := HY.out.2.2; omega) (by omega)
                  have HI3 : Hid (Below w.heap.size w W3 ∧ W3.heap[w.heap.size]? = some (.cells #[vs, .slice (some ⟨b, o, none⟩) m cw] 30 (0, 0)) ∧ W3.ownsRow w.heap.size 47 2 (.slice (some ⟨g, 0, none⟩) n lc) n (flat l) ∧ SetF W3 (w.heap.size + 1 + 1) (S.hasN (l ++ [(bl mt, (p : Int))])) (n + 1)) := by
                    refine ⟨below_trans HI2.out.below (hturn3.below (B := w.heap.size) (by omega)) (Nat.le_refl _), (hturn3.block _ (by omega)).trans HI2.out.box, ?_, ?_⟩
                    · have h := HI2.out.row
                      rw [← HY.out.2.2] at h
                      refine row_turned h hturn3 (fun hh => ?_)
                      obtain ⟨cur, hc⟩ := row_type h hh
                      obtain ⟨D, ⟨es, clock, hb, _⟩, _⟩ := HI2.out.set_
                      rw [hb] at hc; cases hc
                    · rw [HY.out.2.2]; exact hset3.congr fun t => (S.hasN_snoc l (bl mt) (p : Int) t).symm
                  have HNB : Hid ((Value.slice (some ⟨g, 0, none⟩) n lc).ownBlock ≠ some w.heap.size ∧ (Value.slice (some ⟨g, 0, none⟩) n lc).ownBlock ≠ some (w.heap.size + 1 + 1)) := ⟨HI2.out.nb, HI2.out.nm⟩
                  clear hset3 hturn3
                  go_upto_region 19 with fail
                  clear hrun3
                  have hown := HI3.out.2.2.1
                  have hbs := HI3.out.1.size
                  obtain ⟨i0, hi, hz0, hz1', hz2'⟩ := info_of infoStep
                  go_wp2_with (at_builtin; refine wpList_append_own _ rfl _ _ 43 rfl w.heap.size 47 i0 (.agg #[.string ⟨#[]⟩, .int .i64 0]) 2 24 Try.underlying43 hi hz0 hz1' hz2' rfl (by decide) _ _ _ rfl (hown.alloc _) ⟨W3.heap.size, 0, none⟩ 1 1 [.string mt, .int .i64 (p : Int)] rfl rfl ?c1 ?c2 ?c3 ?c4 ?c5 ?_)
                  case c1 =>
                    intro k u hk
                    rw [add_none, Nat.zero_add]
                    exact cell_in (cs := #[.string mt, .int .i64 (p : Int)]) (T := 47) (alloc_b rfl) k (by simpa using hk)
                  case c2 => intro u hu; simp at hu; rcases hu with rfl | rfl <;> rfl
                  case c3 => unfold maxLen; omega
                  case c4 => omega
                  case c5 => simp; omega
                  intro v' W4 hown' hgrow _
                  have HI4 : Hid (Sm w #[vs, .slice (some ⟨b, o, none⟩) m cw] (w.heap.size + 1 + 1) v' (l ++ [(bl mt, (p : Int))]) W4) := by
                    have l1 : w.heap.size < W3.heap.size := (Array.getElem?_eq_some_iff.1 HI3.out.2.1).1
                    have l2 := HI3.out.2.2.2.lt
                    refine ⟨(HI3.out.1.alloc hbs _).grown hgrow (by simp; omega) (fun k hk => (hown.lt k hk).1), ?_, ?_, ?_, by omega⟩
                    · rw [hgrow.block w.heap.size (by simp; omega) (Ne.symm HNB.out.1), Below.heap_alloc _ _ _ l1]; exact HI3.out.2.1
                    · have e1 : flat (l ++ [(bl mt, (p : Int))]) = flat l ++ [.string mt, .int .i64 (p : Int)] := by rw [flat_snoc]; unfold rowC; simp [ba_bl]
                      rw [e1, List.length_append, List.length_singleton, ← HY.out.2.2]; exact hown'
                    · rw [List.length_append, List.length_singleton, ← HY.out.2.2]
                      refine HI3.out.2.2.2.of_block ?_
                      rw [hgrow.block (w.heap.size + 1 + 1) (by simp; omega) (Ne.symm HNB.out.2), Below.heap_alloc _ _ _ l2]
                  clear hown' hgrow hown hbs hi hz0 hz1' hz2' HI3 HNB
                  have HLw := HL.out W4 HI4.out.below mt (by omega)
                  obtain ⟨va, vc, hva⟩ := V.owns_slice HI4.out.row
                  subst hva
                  rw [List.length_append, List.length_singleton, ← HY.out.2.2] at HI4 ⊢
                  cases hwt : wt (bl mt) with
                  | true =>
                    rw [hwt] at HLw HO
                    have HE : Hid (F = l ++ [(bl mt, (p : Int))]) := HW9.out.stop HG.out (by rw [HO.out]; rfl)
                    clear hwt HW9
                    go_wp2_with fail
                    try rw [Exit.noGoto_ret]
                    go_ret
                    exact ⟨.slice va (n + 1) vc, rfl, HI4.out.below.alloc HI4.out.below.size _, by rw [HE.out]; exact HI4.out.row.alloc _⟩
                  | false =>
                    rw [hwt] at HLw HO
                    by_cases hfull : n + 1 = 512
                    · have hf1 : ((n : Int) + 1 == 512) = true := by rw [beq_iff_eq]; omega
                      have HE : Hid (F = l ++ [(bl mt, (p : Int))]) := HW9.out.stop HG.out (by rw [HO.out, hfull]; rfl)
                      clear hwt HW9 hfull HO
                      go_wp2_with fail
                      try rw [Exit.noGoto_ret]
                      go_ret
                      exact ⟨.slice va (n + 1) vc, rfl, HI4.out.below.alloc HI4.out.below.size _, by rw [HE.out]; exact HI4.out.row.alloc _⟩
                    · have hf1 : ((n : Int) + 1 == 512) = false := by rw [← Bool.not_eq_true, beq_iff_eq]; omega
                      have hf2 : (n + 1 == 512) = false := by rw [← Bool.not_eq_true, beq_iff_eq]; omega
                      have HN : Hid (S.Way9 wt L (bl nm) F r p e p (j + 1) (l ++ [(bl mt, (p : Int))])) := HW9.out.step hpe HG.out (by rw [HO.out, hf2]; rfl)
                      have HI5 : Hid (Sm w #[vs, .slice (some ⟨b, o, none⟩) m cw] (w.heap.size + 1 + 1) (.slice va (n + 1) vc) (l ++ [(bl mt, (p : Int))]) (W4.alloc (.cells #[] 42))) := HI4.out.on (below_alloc1 _ _)
                      clear hwt HW9 hfull HO
                      go_wp2_with fail
                      go_roundw
                      case rel => exact ⟨j + 1, l ++ [(bl mt, (p : Int))], by omega, by go_num, HI5.out, HN.out⟩
                      case measure => simp [intOf]; omega
            · have hjm : j = m := by omega
              subst hjm
              have HR1 : Hid (S.Row9 wt L (bl nm) F r e (p + 1) l) := by
                have h := HI.out.2
                rw [HT.out.1] at h
                exact h.done
              go_wp2_with fail
              go_roundw
              case rel => exact ⟨p + 1, l, by omega, by go_num, HI.out.1, HR1.out⟩
              case measure => simp [intOf]; omega
        · have hpe : p = e := by omega
          subst hpe
          have HR1 : Hid (S.Rnd9 wt L (bl nm) F (r + 1) p l) := HI.out.2.done hr6
          go_wp2_with fail
          go_roundw
          case rel => exact ⟨r + 1, p, l, by omega, by go_num, rfl, HI.out.1, HR1.out⟩
          case measure => simp [intOf]; omega
    · have hr6 : r = 6 := by omega
      subst hr6
      have HE : Hid (F = l) := HI.out.2.done
      go_wp2_with fail
      try rw [Exit.noGoto_ret]
      go_ret
      exact ⟨.slice la e lc, rfl, HI.out.1.below, by rw [HE.out]; exact HI.out.1.row⟩
end Go.Proofs.Ytfcoihklihkngaa
