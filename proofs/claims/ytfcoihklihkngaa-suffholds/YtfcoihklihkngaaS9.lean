/-
  What Chain answers.
-/
import Derived.Test.YtfcoihklihkngaaS8
namespace Go.Proofs.Ytfcoihklihkngaa
open Go.RowKit Go.Shelf Go.Maps

open Classical in
/-- The chain of a table that may be; none else. -/
noncomputable def chainT (Sf : List S.Tx) (L : List S.Way) (there : List S.Tx) (name : S.Tx) : Option (List S.Tx) := if S.RightP Sf L then S.chainOf there L name else none
def txt (c : List S.Tx) : List Value := c.map fun t => .string (ba t)
def ChainPost (o : Option (List S.Tx)) (w : World) (e : Ending) (w' : World) : Prop := ∃ v b, e = .returned (.tuple #[v, .bool b]) ∧ Below w.heap.size w w' ∧ (o = none → b = false ∧ v = .slice none 0 0) ∧ ∀ c, o = some c → b = true ∧ w'.ownsRow w.heap.size 9 1 v c.length (txt c)
theorem right_ways {Sf : List S.Tx} {L : List S.Way} (h : S.RightP Sf L) (hs : ∀ s ∈ Sf, s.length ≤ 50) : ∀ x ∈ L, x.1.length ≤ 50 ∧ x.2.length ≤ 50 := by
  intro x hx
  obtain ⟨i, hi⟩ := List.getElem?_of_mem hx
  obtain ⟨_, h1, h2, _⟩ := h.2.2.2 i x hi
  exact ⟨hs _ h1, hs _ h2⟩
theorem owns_nil (w : World) (base : Nat) (e : TypeId) (size : Nat) : w.ownsRow base e size (.slice none 0 0) 0 [] := ⟨by simp, .inl ⟨rfl, rfl⟩⟩
theorem con_take (l : List S.Tx) (k : Nat) (h : k < l.length) (t : S.Tx) : (l.take (k + 1)).contains t = ((l.take k).contains t || t == l[k]) := by
  rw [con_step l t k h]
  congr 1
  rw [Bool.eq_iff_iff, beq_iff_eq, beq_iff_eq]
  exact eq_comm

set_option maxRecDepth 20000 in
set_option maxHeartbeats 2000000 in
theorem chain_any (vs vw vt : Value) (Sf : List S.Tx) (L : List S.Way) (there : List S.Tx) (nm : ByteArray) (B : Nat) (w : World) (hT : Tb B w vs vw Sf L) (hs : ∀ s ∈ Sf, s.length ≤ 50) (hn : nm.size ≤ 200) (ht : Words B w vt (there.map ba)) (htl : there.length ≤ 1000) (htz : ∀ t ∈ there, t.length ≤ 9223372036854775807) :
    Calls Try.prog 8 #[.agg #[vs, vw], .string nm, vt] w (ChainPost (chainT Sf L there (bl nm)) w) := by
  obtain ⟨ta, tc, rfl⟩ := ht.slice
  have htc := ht.len.2
  have HRt : Hid (∀ W, Below w.heap.size w W → Calls Try.prog 15 #[.agg #[vs, vw]] W (RightPost Sf L W)) := fun W hW => right_any vs vw Sf L B W (hT.below (hW.mono hT.lo))
  have HSr : Hid (S.RightP Sf L → ∀ (vm : Value) (wt : S.Tx → Bool) W, Below w.heap.size w W → Looks W.heap.size W vm wt → Calls Try.prog 16 #[.agg #[vs, vw], .string nm, vm] W (SrchPost (S.srch wt L (bl nm)) W)) := fun hr vm wt W hW hl => search_any vs vw vm Sf L nm wt B W (hT.below (hW.mono hT.lo)) (right_ways hr hs) hn hl hr.2.1
  obtain ⟨n, hnn⟩ : ∃ n, n = there.length := ⟨_, rfl⟩
  rw [← hnn] at htc htl
  have HT : Hid (n = there.length ∧ Words B w (.slice ta n tc) (there.map ba) ∧ B ≤ w.heap.size ∧ ∀ t ∈ there, t.length ≤ 9223372036854775807) := ⟨hnn, by rw [hnn]; exact ht, hT.lo, htz⟩
  rw [← hnn]
  obtain ⟨O, hO⟩ : ∃ O, O = chainT Sf L there (bl nm) := ⟨_, rfl⟩
  rw [← hO]
  have HO : Hid ((¬ S.RightP Sf L → O = none) ∧ (S.RightP Sf L → O = S.chainOf there L (bl nm))) := ⟨fun h => by rw [hO]; exact if_neg h, fun h => by rw [hO]; exact if_pos h⟩
  have HB0 : Hid (Below w.heap.size w (w.alloc (.cells #[vs, vw] 30)) ∧ (w.alloc (.cells #[vs, vw] 30)).heap[w.heap.size]? = some (.cells #[vs, vw] 30 (0, 0))) := ⟨below_alloc1 _ _, alloc_b rfl⟩
  have hmk := @run_makeMap Try.prog
  have HSz : Hid (S.RightP Sf L → ∀ x ∈ L, x.1.length ≤ 50) := fun hr x hx => (right_ways hr hs x hx).1
  clear hnn ht hT htz hO hs
  go_enter Try.func8, Try.ntmps8
  go_wp2_with fail
  refine (HRt.out _ HB0.out.1).mono ?_
  rintro e w1 ⟨b, rfl, hbr, hb1⟩
  have H1 : Hid (Below w.heap.size w w1 ∧ w1.heap[w.heap.size]? = some (.cells #[vs, vw] 30 (0, 0))) := ⟨below_trans HB0.out.1 hb1 HB0.out.1.size, (hb1.block _ (Array.getElem?_eq_some_iff.1 HB0.out.2).1).trans HB0.out.2⟩
  clear hb1
  cases b with
  | false =>
    have HN : Hid (O = none) := HO.out.1 (fun h => by have := hbr.2 h; cases this)
    clear hbr
    go_wp2_with fail
    go_ret2
    exact ⟨.slice none 0 0, false, rfl, H1.out.1, fun _ => ⟨rfl, rfl⟩, fun c hc => by rw [HN.out] at hc; cases hc⟩
  | true =>
    have HRP : Hid (S.RightP Sf L) := hbr.1 rfl
    have HOc : Hid (O = S.chainOf there L (bl nm)) := HO.out.2 HRP.out
    have HSr2 := HSr.out HRP.out
    have HSr2 : Hid (∀ (vm : Value) (wt : S.Tx → Bool) W, Below w.heap.size w W → Looks W.heap.size W vm wt → Calls Try.prog 16 #[.agg #[vs, vw], .string nm, vm] W (SrchPost (S.srch wt L (bl nm)) W)) := HSr2
    clear hbr HO HSr HRt HB0
    have HSet0 : Hid (SetF (w1.alloc (.map #[] 0)) w1.heap.size (fun t => (there.take 0).contains t) 0 ∧ Below w.heap.size w (w1.alloc (.map #[] 0)) ∧ (w1.alloc (.map #[] 0)).heap[w.heap.size]? = some (.cells #[vs, vw] 30 (0, 0))) := by
      refine ⟨SetF.empty (clock := 0) (alloc_b rfl), H1.out.1.alloc H1.out.1.size _, ?_⟩
      rw [Below.heap_alloc _ _ _ (Array.getElem?_eq_some_iff.1 H1.out.2).1]; exact H1.out.2
    obtain ⟨ms, hms⟩ : ∃ ms, ms = w1.heap.size := ⟨_, rfl⟩
    have HMS : Hid (w.heap.size < ms) := by unfold Hid; rw [hms]; exact (Array.getElem?_eq_some_iff.1 H1.out.2).1
    go_upto_region 4 with fail
    rw [← hms] at HSet0 ⊢
    clear hms
    go_wp2_with fail
    go_loopw [22] (fun vi wr => ∃ k : Nat, k ≤ n ∧ vi = .int .i64 (k : Int) ∧ Hid (SetF wr ms (fun t => (there.take k).contains t) k ∧ Below w.heap.size w wr ∧ wr.heap[w.heap.size]? = some (.cells #[vs, vw] 30 (0, 0)))) (fun vi _ => n - (intOf vi).toNat)
    case atStart => exact ⟨0, Nat.zero_le _, rfl, HSet0.out⟩
    case round =>
      clear HSet0
      obtain ⟨k, hk, rfl, HI⟩ := hrel
      by_cases hkn : k < n
      · have hki : (k : Int) < (n : Int) := by omega
        have hkl : k < there.length := by rw [← HT.out.1]; exact hkn
        obtain ⟨b, o, rfl, hb, hc⟩ := HT.out.2.1.pick k (by rw [List.length_map]; exact hkl)
        have hc0 := (HI.out.2.1.cell (p := ⟨b, o + k, none⟩) (Nat.lt_of_lt_of_le hb HT.out.2.2.1)).trans hc
        obtain ⟨y, hy⟩ : ∃ y, y = (there.map ba)[k]'(by rw [List.length_map]; exact hkl) := ⟨_, rfl⟩
        rw [← hy] at hc0
        have hyb : bl y = there[k] := by rw [hy, List.getElem_map, bl_ba']
        have hyz : y.size ≤ 9223372036854775807 := by
          have := HT.out.2.2.2 _ (List.getElem_mem hkl)
          rw [← hyb, bl_length] at this; exact this
        obtain ⟨W2, hrun, hset, hturn⟩ := HI.out.1.put (q := y) (by omega) hyz
        have HI2 : Hid (SetF W2 ms (fun t => (there.take (k + 1)).contains t) (k + 1) ∧ Below w.heap.size w W2 ∧ W2.heap[w.heap.size]? = some (.cells #[vs, vw] 30 (0, 0))) := by
          refine ⟨hset.congr fun t => ?_, below_trans HI.out.2.1 (hturn.below (B := w.heap.size) (by have := HMS.out; omega)) (Nat.le_refl _), (hturn.block _ (by have := HMS.out; omega)).trans HI.out.2.2⟩
          rw [con_take there k hkl, hyb]
        clear hset hturn hc hy hyb HI
        go_wp2_with fail
        go_roundw
        case rel => exact ⟨k + 1, by omega, by go_num, HI2.out⟩
        case measure => simp [intOf]; omega
      · have hkn : k = n := by omega
        subst hkn
        obtain ⟨W2, hrun, hset, hturn⟩ := HI.out.1.drop 0 (q := nm) (by omega)
        have HI2 : Hid (SetF W2 ms (S.wants there (bl nm)) k ∧ Below w.heap.size w W2 ∧ W2.heap[w.heap.size]? = some (.cells #[vs, vw] 30 (0, 0))) := by
          refine ⟨hset.congr fun t => ?_, below_trans HI.out.2.1 (hturn.below (B := w.heap.size) (by have := HMS.out; omega)) (Nat.le_refl _), (hturn.block _ (by have := HMS.out; omega)).trans HI.out.2.2⟩
          show ((there.take k).contains t && t != bl nm) = _
          rw [List.take_of_length_le (by rw [← HT.out.1]; omega)]; rfl
        clear hset hturn HI hkn
        have z0 := cell_in HI2.out.2.2 0 rfl
        have z1 := cell_in HI2.out.2.2 1 rfl
        go_wp2_with fail
        refine (HSr2.out (.map (some ms)) (S.wants there (bl nm)) W2 HI2.out.2.1 (looks_set HI2.out.1 HI2.out.1.lt)).mono ?_
        rintro e w3 ⟨v, rfl, hb3, hrow3⟩
        obtain ⟨F, hF⟩ : ∃ F, F = S.srch (S.wants there (bl nm)) L (bl nm) := ⟨_, rfl⟩
        have hg := (S.srch_good (S.wants there (bl nm)) L (bl nm)).1
        rw [← hF] at hrow3 hg
        have HOF : Hid (O = S.lastOf (S.wants there (bl nm)) F) := by unfold Hid; rw [hF]; exact HOc.out
        obtain ⟨K, hK⟩ : ∃ K, F.length = K + 1 := ⟨F.length - 1, by have := hg.pos; omega⟩
        have hK512 : K < 512 := by have := hg.len; omega
        obtain ⟨x, hx⟩ : ∃ x, F[K]? = some x := ⟨F[K]'(by omega), List.getElem?_eq_getElem (by omega)⟩
        have hxz := hg.size2 (by rw [bl_length]; exact hn) (HSz.out HRP.out) hx
        obtain ⟨g, cap, rfl, hgl, hcap, r0, r1⟩ := row_at hrow3 hx
        rw [hK] at hcap hrow3 ⊢
        obtain ⟨y, hy⟩ : ∃ y, y = ba x.1 := ⟨_, rfl⟩
        have hyz : y.size ≤ 26000 := by rw [hy, ba_size]; exact hxz
        rw [← hy] at r0
        have H3 : Hid (Below w.heap.size w w3 ∧ w3.ownsRow W2.heap.size 47 2 (.slice (some ⟨g, 0, none⟩) (K + 1) cap) (K + 1) (flat F) ∧ SetF w3 ms (S.wants there (bl nm)) k ∧ W2.heap.size ≤ g ∧ w.heap.size ≤ W2.heap.size) := by
          refine ⟨below_trans HI2.out.2.1 hb3 HI2.out.2.1.size, hrow3, HI2.out.1.of_block (hb3.block _ HI2.out.1.lt), ?_, HI2.out.2.1.size⟩
          rcases hrow3.2 with ⟨h, _⟩ | ⟨g', _, _, h, h2, _⟩
          · cases h
          · simp only [Value.slice.injEq, Option.some.injEq, Addr.mk.injEq, and_true, true_and] at h
            rw [h.1]; exact h2
        have HF : Hid (S.Good L (bl nm) F ∧ F.length = K + 1 ∧ F[K]? = some x ∧ bl y = x.1) := ⟨hg, hK, hx, by rw [hy, bl_ba']⟩
        have hlk := H3.out.2.2.1.see (q := y) (by omega) w3 rfl
        clear hb3 hrow3 hF hg hK hx hxz hy HI2 HOc HSr2 r1
        cases hw : S.wants there (bl nm) (bl y) with
        | false =>
          have HN : Hid (O = none) := by
            unfold Hid; rw [HOF.out]; unfold S.lastOf
            rw [HF.out.2.1, Nat.add_sub_cancel, S.nameAt_of HF.out.2.2.1, ← HF.out.2.2.2, hw]; rfl
          rw [hw] at hlk
          clear hw
          go_wp2_with fail
          go_ret2
          exact ⟨.slice none 0 0, false, rfl, H3.out.1.alloc H3.out.1.size _, fun _ => ⟨rfl, rfl⟩, fun c hc => by rw [HN.out] at hc; cases hc⟩
        | true =>
          have HY : Hid (O = some (S.ch F K)) := by
            unfold Hid; rw [HOF.out]; unfold S.lastOf
            rw [HF.out.2.1, Nat.add_sub_cancel, S.nameAt_of HF.out.2.2.1, ← HF.out.2.2.2, hw]; rfl
          rw [hw] at hlk
          clear hw HOF
          obtain ⟨C, hC⟩ : ∃ C, C = S.ch F K := ⟨_, rfl⟩
          rw [← hC] at HY
          have HC : Hid (C = S.ch F K ∧ C.length ≤ 512) := ⟨hC, by rw [hC]; exact Nat.le_trans (S.ch_len HF.out.1 (by rw [HF.out.2.1]; omega)) HF.out.1.len⟩
          clear hC
          have HB4 : Hid (Below w.heap.size w (w3.alloc (.cells #[] 42)) ∧ Below w3.heap.size w3 (w3.alloc (.cells #[] 42))) := ⟨H3.out.1.alloc H3.out.1.size _, below_alloc1 _ _⟩
          obtain ⟨i0, hi, hz0, hz1, hz2⟩ := info_of infoT9
          go_wp2_with fail
          go_loopw [12, 15] (fun va vc wr => ∃ (c : List S.Tx) (i : Int), va = .int .i64 i ∧ -1 ≤ i ∧ i ≤ K ∧ Hid (((∃ q : Nat, i = (q : Int) ∧ q < F.length ∧ c ++ S.ch F q = C) ∨ (i = -1 ∧ c = C)) ∧ wr.ownsRow w.heap.size 9 1 vc c.length (txt c) ∧ Below w.heap.size w wr ∧ wr.heap[g]? = w3.heap[g]?)) (fun va _ _ => ((intOf va) + 1).toNat)
          case atStart =>
            refine ⟨[], (K : Int), rfl, by omega, Int.le_refl _, .inl ⟨K, rfl, by rw [HF.out.2.1]; omega, HC.out.1.symm⟩, owns_nil _ _ _ _, HB4.out.1, ?_⟩
            exact Below.heap_alloc _ _ _ hgl
          case round =>
            obtain ⟨c, i, rfl, hi1, hi2, HI⟩ := hrel
            obtain ⟨ca, cc, hvc⟩ := V.owns_slice HI.out.2.1
            subst hvc
            by_cases h0 : i < 0
            · have hi : i = -1 := by omega
              subst hi
              have HE : Hid (c = C) := by
                rcases HI.out.1 with ⟨q, h, _⟩ | ⟨_, h⟩
                · omega
                · exact h
              go_wp2_with fail
              go_ret2
              exact ⟨.slice ca c.length cc, true, rfl, HI.out.2.2.1, fun h => (by rw [HY.out] at h; cases h), fun c' hc => (by rw [HY.out] at hc; cases hc; rw [← HE.out]; exact ⟨rfl, HI.out.2.1⟩)⟩
            · obtain ⟨q, rfl, hql, HQ⟩ : ∃ q : Nat, i = (q : Int) ∧ q < F.length ∧ Hid (c ++ S.ch F q = C) := by
                rcases HI.out.1 with h | ⟨h, _⟩
                · exact h
                · omega
              have hqK : q < K + 1 := by rw [← HF.out.2.1]; exact hql
              obtain ⟨z, hz⟩ : ∃ z, F[q]? = some z := ⟨F[q], List.getElem?_eq_getElem hql⟩
              have hzz := HF.out.1.size2 (by rw [bl_length]; exact hn) (HSz.out HRP.out) hz
              have HRow : Hid (w3.ownsRow W2.heap.size 47 2 (.slice (some ⟨g, 0, none⟩) (K + 1) cap) F.length (flat F)) := by unfold Hid; rw [HF.out.2.1]; exact H3.out.2.1
              obtain ⟨g', cap', hv', hg', _, s0, s1⟩ := row_at HRow.out hz
              simp only [Value.slice.injEq, Option.some.injEq, Addr.mk.injEq, and_true] at hv'
              obtain ⟨e1, e2, e3⟩ := hv'
              subst e1
              subst e3
              clear e2
              have hblk : ∀ i, wr.cell? ⟨g, i, none⟩ = w3.cell? ⟨g, i, none⟩ := fun i => by simp only [World.cell?, HI.out.2.2.2]
              have t0 := (hblk (q * 2)).trans s0
              have t1 := (hblk (q * 2 + 1)).trans s1
              obtain ⟨zt, hzt⟩ : ∃ t, t = ba z.1 := ⟨_, rfl⟩
              obtain ⟨zp, hzp⟩ : ∃ t, t = z.2 := ⟨_, rfl⟩
              rw [← hzt] at t0
              rw [← hzp] at t1
              have HS1 : Hid (w3.cell? ⟨g, q * 2 + 1, none⟩ = some (.int .i64 zp)) := by rw [hzp]; exact s1
              have HZ : Hid (F[q]? = some z ∧ zt = ba z.1 ∧ zp = z.2) := ⟨hz, hzt, hzp⟩
              -- where it leads
              have HNX : Hid (-1 ≤ zp ∧ zp < q ∧ zp ≤ K ∧ ((∃ q' : Nat, zp = (q' : Int) ∧ q' < F.length ∧ (c ++ [z.1]) ++ S.ch F q' = C) ∨ (zp = -1 ∧ c ++ [z.1] = C))) := by
                unfold Hid
                have hQ := HQ.out
                by_cases hq0 : q = 0
                · subst hq0
                  have h1 := HF.out.1.head
                  rw [hz] at h1
                  have h2 : z = (bl nm, -1) := Option.some.inj h1
                  rw [S.ch_zero HF.out.1] at hQ
                  rw [hzp, h2]
                  exact ⟨Int.le_refl _, by show (-1 : Int) < ((0 : Nat) : Int); omega, by show (-1 : Int) ≤ (K : Int); omega, .inr ⟨rfl, hQ⟩⟩
                · obtain ⟨p, e1, e2, _⟩ := HF.out.1.back q z (by omega) hz
                  rw [S.ch_succ HF.out.1 (by omega) hz e1] at hQ
                  rw [hzp, e1]
                  refine ⟨by omega, by omega, by omega, .inl ⟨p, rfl, by omega, ?_⟩⟩
                  rw [List.append_assoc]; exact hQ
              have hcl : c.length ≤ 512 := by
                have h := congrArg List.length HQ.out
                rw [List.length_append] at h
                have := HC.out.2
                omega
              have hzs : zt.size ≤ 26000 := by rw [hzt, ba_size]; exact hzz
              have hown := HI.out.2.1
              have hbs := HI.out.2.2.1.size
              have hgr : g < wr.heap.size := by
                have h := HI.out.2.2.2
                rw [Array.getElem?_eq_getElem hgl] at h
                exact (Array.getElem?_eq_some_iff.1 h).1
              have HI0 : Hid (Below w.heap.size w wr ∧ wr.heap[g]? = w3.heap[g]?) := HI.out.2.2
              have HNG : Hid ((Value.slice ca c.length cc).ownBlock ≠ some g) := fun he => by
                obtain ⟨cur, hc⟩ := row_type hown he
                rw [HI.out.2.2.2] at hc
                obtain ⟨cur2, hc2⟩ := row_type HRow.out (g := g) rfl
                rw [hc2] at hc; cases hc
              obtain ⟨n2, hn2⟩ : ∃ n, n = c.length := ⟨_, rfl⟩
              rw [← hn2] at hown HNG hcl HI ⊢
              have HN2 : Hid (n2 = c.length) := hn2
              have hpi : (q : Int) < ((K + 1 : Nat) : Int) := by omega
              have hpi2 : (q : Int) < (K : Int) + 1 := by omega
              clear hz hzt hzp hzz s0 s1 hblk hn2 HI hg'
              go_upto_region 18 with fail
              go_wp2_with (at_builtin; refine wpList_append_own _ rfl _ _ 22 rfl w.heap.size 9 i0 (.string ⟨#[]⟩) 1 16 Try.underlying22 hi hz0 hz1 hz2 rfl (by decide) _ _ _ rfl (hown.alloc _) ⟨wr.heap.size, 0, none⟩ 1 1 [.string zt] rfl rfl ?c1 ?c2 ?c3 ?c4 ?c5 ?_)
              case c2 => first | rfl | (intro u hu; simp at hu; subst hu; rfl)
              case c3 => unfold maxLen; omega
              case c4 => omega
              case c5 => first | omega | (simp; omega)
              intro v' w4 hown' hgrow _
              have HI4 : Hid (w4.ownsRow w.heap.size 9 1 v' (n2 + 1) (txt (c ++ [z.1])) ∧ Below w.heap.size w w4 ∧ w4.heap[g]? = w3.heap[g]?) := by
                refine ⟨?_, (HI0.out.1.alloc hbs _).grown hgrow (by simp; omega) (fun k hk => (hown.lt k hk).1), ?_⟩
                · have e1 : txt (c ++ [z.1]) = txt c ++ [.string zt] := by unfold txt; rw [List.map_append, HZ.out.2.1]; rfl
                  rw [e1]; exact hown'
                · rw [hgrow.block g (by simp; omega) (Ne.symm HNG.out), Below.heap_alloc _ _ _ hgr]; exact HI0.out.2
              obtain ⟨va, vc, hva⟩ := V.owns_slice HI4.out.1
              subst hva
              have t2 : w4.cell? ⟨g, q * 2 + 1, none⟩ = some (.int .i64 zp) := by
                have h : w4.cell? ⟨g, q * 2 + 1, none⟩ = w3.cell? ⟨g, q * 2 + 1, none⟩ := by simp only [World.cell?, HI4.out.2.2]
                exact h.trans HS1.out
              clear hown' hgrow hown hbs
              go_wp2_with fail
              go_roundw
              case rel =>
               exact ⟨c ++ [z.1], zp, rfl, HNX.out.1, HNX.out.2.2.1, HNX.out.2.2.2, by rw [List.length_append, List.length_singleton, ← HN2.out]; exact HI4.out.1, HI4.out.2.1, HI4.out.2.2⟩
              case measure =>
                have h1 := HNX.out.1
                have h2 := HNX.out.2.1
                simp [intOf]; omega
end Go.Proofs.Ytfcoihklihkngaa
