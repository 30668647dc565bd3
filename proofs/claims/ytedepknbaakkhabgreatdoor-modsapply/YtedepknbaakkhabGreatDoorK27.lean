/-
  PWay PWays PSteps PMade PFall
-/
import Derived.Test.YtedepknbaakkhabGreatDoorK26
set_option maxRecDepth 20000
namespace Go.Proofs.YtedepknbaakkhabGreatDoor.X
open Go.RowKit Go.Shelf RxSem
def WayC (bm sb : Nat) (v : Value) (L : List SG) (m : Nat) : Prop := ∀ (i : Nat) (k : List Nd) (rest : List Sg) (w : World), L.length - i ≤ m → i ≤ L.length → Mk bm sb v L i w → (∀ x ∈ L, x.v.Ok) → SP .way ((L.drop i).map SG.abs) k rest → Calls Tryz.prog 199 #[.pointer (some ⟨bm, 0, none⟩)] w (MkPost bm sb v L rest (codeS k) w)
theorem Mk.later {bm sb : Nat} {v : Value} {L : List SG} {i j : Nat} {w w1 w9 : World} (h : Mk bm sb v L i w) (h1 : Mk bm sb v L j w1) (hw : Wrote bm w w9) (hb : Below w.heap.size w1 w9) : Mk bm sb v L j w9 :=
  ⟨(hb.block bm h.lt).trans h1.blk, wrote_row hw h.row (row_ne h.row h.blk (by decide)), h.few⟩
def mkAt (bm : Nat) (w : World) : Nat := match w.cell? ⟨bm, 1, none⟩ with
  | some x => (intOf x).toNat
  | none => 0
theorem Mk.at {bm sb : Nat} {v : Value} {L : List SG} {i : Nat} {w : World} (h : Mk bm sb v L i w) : mkAt bm w = i := by
  have c1 : w.cell? ⟨bm, 1, none⟩ = some (.int .i64 (i : Int)) := by simp only [World.cell?, h.blk]; rfl
  unfold mkAt
  rw [c1]
  simp [intOf]
theorem sp_thing_less {l r : List Sg} {n : Nd} (h : SP .thing l [n] r) : r.length < l.length := by
  cases h with
  | one x t h => simp
  | group t r k h =>
    have := h.size
    simp at this ⊢
    omega
theorem sp_way_cases {l r : List Sg} {k : List Nd} {g : Tag} (h : SP g l k r) : g = .way → (stopsS l = true ∧ k = [] ∧ r = l) ∨ (stopsS l = false ∧ ∃ n k' r1, k = (postS n r1).1 :: k' ∧ SP .thing l [n] r1 ∧ SP .way (postS n r1).2 k' r) := by
  intro hg
  cases h with
  | wayEnd l h => exact .inl ⟨h, rfl, rfl⟩
  | wayNext l r r2 n k h h1 h2 => exact .inr ⟨h, n, k, r, rfl, h1, h2⟩
  | _ => cases hg
theorem stops_cases {L : List SG} {i : Nat} (h : stopsS ((L.drop i).map SG.abs) = true) (hi : i < L.length) : L[i].m = 124 ∨ L[i].m = 41 := by
  rw [List.drop_eq_getElem_cons hi, List.map_cons] at h
  unfold SG.abs at h
  split at h
  · simp [stopsS] at h
  · simpa [stopsS] using h
theorem goes_cases {L : List SG} {i : Nat} (h : stopsS ((L.drop i).map SG.abs) = false) : ∃ hi : i < L.length, ¬ L[i].m = 124 ∧ ¬ L[i].m = 41 := by
  rcases Nat.lt_or_ge i L.length with hi | hi
  · refine ⟨hi, ?_⟩
    rw [List.drop_eq_getElem_cons hi, List.map_cons] at h
    unfold SG.abs at h
    split at h
    · rename_i h0; rw [h0]; decide
    · simpa [stopsS] using h
  · rw [List.drop_of_length_le hi] at h; cases h
structure WI (bm sb : Nat) (v : Value) (L : List SG) (m : Nat) (K : List Stp) (rest : List Sg) (w : World) (u : Value) (A : List SV) (j : Nat) (k' : List Nd) (wr : World) : Prop where
  row : Row w.heap.size u A wr
  mk' : Mk bm sb v L j wr
  le : j ≤ L.length
  lm : L.length - j ≤ m
  sp : SP .way ((L.drop j).map SG.abs) k' rest
  wr : Wrote bm w wr
  cd : K = codeS k' ++ A.map SV.abs
  ok : ∀ x ∈ A, x.Ok
theorem wi_len {bm sb : Nat} {v : Value} {L : List SG} {m : Nat} {i : Nat} {k : List Nd} {rest : List Sg} {w : World} {u : Value} {A : List SV} {j : Nat} {k' : List Nd} {wr : World} (h : WI bm sb v L m (codeS k) rest w u A j k' wr) (h2 : SP .way ((L.drop i).map SG.abs) k rest) : A.length ≤ 400 := by
  have h1 := h2.size
  have h3 := congrArg List.length h.cd
  have h4 := h.mk'.few
  simp only [lenOf, List.length_map, List.length_append, List.length_drop] at h1 h3
  omega
theorem wi_len2 {bm sb : Nat} {v : Value} {L : List SG} {m : Nat} {i : Nat} {k : List Nd} {rest : List Sg} {w : World} {u : Value} {A A' : List SV} {j : Nat} {k' k2 : List Nd} {x : Nd} {wr : World} (h : WI bm sb v L m (codeS k) rest w u A j k' wr) (h2 : SP .way ((L.drop i).map SG.abs) k rest) (hk : k' = x :: k2) (hC : A'.map SV.abs = code x) : A'.length + A.length ≤ 400 := by
  have h1 := h2.size
  have h3 := congrArg List.length h.cd
  have h4 := h.mk'.few
  have h5 := congrArg List.length hC
  rw [hk] at h3
  simp only [lenOf, codeS, List.length_map, List.length_append, List.length_drop] at h1 h3 h5
  omega
theorem wi_step {L : List SG} {j j' : Nat} {n1 : Nd} {r1 : List Sg} (hth : SP .thing ((L.drop j).map SG.abs) [n1] r1) (hr' : (L.drop j').map SG.abs = (postS n1 r1).2) : L.length - j' < L.length - j := by
  have h1 := sp_thing_less hth
  have h2 := postS_len n1 r1
  rw [← hr'] at h2
  simp at h1 h2
  omega
theorem wi_next {bm sb : Nat} {v : Value} {L : List SG} {m : Nat} {K : List Stp} {rest : List Sg} {w : World} {u u9 : Value} {A A' : List SV} {j j' : Nat} {k2 : List Nd} {n1 : Nd} {r1 : List Sg} {wr w1 w9 : World} (h : WI bm sb v L m K rest w u A j ((postS n1 r1).1 :: k2) wr) (hth : SP .thing ((L.drop j).map SG.abs) [n1] r1) (hsp2 : SP .way (postS n1 r1).2 k2 rest) (hw : Wrote bm wr w1) (hM : Mk bm sb v L j' w1) (hj : j' ≤ L.length) (hr' : (L.drop j').map SG.abs = (postS n1 r1).2) (hC' : A'.map SV.abs = code (postS n1 r1).1) (hok' : ∀ x ∈ A', x.Ok) (hrow : Row wr.heap.size u9 (A' ++ A) w9) (hb : Below wr.heap.size w1 w9) : WI bm sb v L m K rest w u9 (A' ++ A) j' k2 w9 := by
  have hw9 : Wrote bm wr w9 := ⟨hb.os.trans hw.os, hb.tape.trans hw.tape, hb.output.trans hw.output, Nat.le_trans hw.size hb.size, fun q hq hne => (hb.block q hq).trans (hw.block q hq hne)⟩
  have hs := wi_step hth hr'
  have hlm := h.lm
  refine ⟨row_base hrow h.wr.size, h.mk'.later hM hw9 hb, hj, by omega, by rw [hr']; exact hsp2, h.wr.trans hw9, ?_, ?_⟩
  · rw [h.cd, codeS, List.map_append, hC', List.append_assoc]
  · intro x hx
    rcases List.mem_append.1 hx with hx | hx
    · exact hok' x hx
    · exact h.ok x hx
theorem wi_less {bm sb : Nat} {v : Value} {L : List SG} {m n : Nat} {K : List Stp} {rest : List Sg} {w : World} {u : Value} {A : List SV} {j j' : Nat} {k' : List Nd} {n1 : Nd} {r1 : List Sg} {wr w9 : World} (h : WI bm sb v L m K rest w u A j k' wr) (hth : SP .thing ((L.drop j).map SG.abs) [n1] r1) (hM : Mk bm sb v L j' w9) (hr' : (L.drop j').map SG.abs = (postS n1 r1).2) (_ : n = L.length) : L.length - mkAt bm w9 < L.length - mkAt bm wr := by
  rw [hM.at, h.mk'.at]
  exact wi_step hth hr'
theorem way_done {bm sb : Nat} {v : Value} {L : List SG} {m : Nat} {k : List Nd} {rest : List Sg} {w : World} {u : Value} {A : List SV} {j : Nat} {wr : World} (h : WI bm sb v L m (codeS k) rest w u A j [] wr) (hr : rest = (L.drop j).map SG.abs) (q : Nat) : MkPost bm sb v L rest (codeS k) w (.returned u) (wr.drewN q) :=
  ⟨u, A, j, rfl, owns_below h.row ⟨rfl, rfl, rfl, Nat.le_refl _, fun _ _ => rfl⟩, h.mk'.drewN q, h.le, hr.symm, h.wr.drewN q, by rw [h.cd]; simp [codeS], h.ok⟩
set_option maxHeartbeats 1000000 in
theorem way_any {bm sb : Nat} {v : Value} {L : List SG} (m : Nat) (hP : PartC bm sb v L m) : WayC bm sb v L m := by
  intro i k rest w hm hi h hok hsp
  obtain ⟨i0, hif, hz0, hz1, hz2⟩ := info_parts infoSt
  have HP : Hid (PartC bm sb v L m ∧ (∀ x ∈ L, x.v.Ok) ∧ SP .way ((L.drop i).map SG.abs) k rest ∧ Mk bm sb v L i w ∧ L.length - i ≤ m ∧ i ≤ L.length) := ⟨hP, hok, hsp, h, hm, hi⟩
  clear hP hok hsp hm hi h
  go_enter Tryz.func199, Tryz.ntmps199
  go_wp2_with fail
  go_loopw [3] (fun u wr => ∃ (A : List SV) (j : Nat) (k' : List Nd), WI bm sb v L m (codeS k) rest w u A j k' wr) (fun _ wr => L.length - mkAt bm wr)
  case atStart => exact ⟨[], i, k, ⟨rfl, .inl ⟨rfl, rfl⟩⟩, HP.out.2.2.2.1, HP.out.2.2.2.2.2, HP.out.2.2.2.2.1, HP.out.2.2.1, .refl _ _, by simp, by simp⟩
  case round =>
    obtain ⟨A, j, k', hI⟩ := hrel
    have hAl := wi_len hI HP.out.2.2.1
    have hfew := hI.mk'.few
    have hjl := hI.le
    have c1 : wr.cell? ⟨bm, 1, none⟩ = some (.int .i64 (j : Int)) := by simp only [World.cell?, hI.mk'.blk]; rfl
    have HI : Hid (WI bm sb v L m (codeS k) rest w u3 A j k' wr) := hI
    obtain ⟨a3, c3, hv3⟩ := row_slice hI.row
    obtain ⟨n, hn⟩ : ∃ n, n = L.length := ⟨_, rfl⟩
    have hcs := sp_way_cases hI.sp rfl
    by_cases hlt : j < L.length
    · obtain ⟨g, cap, hv, hs⟩ := hI.mk'.sign j hlt
      have s0 : wr.cell? ⟨g, j * 8, none⟩ = some (.int .u8 (L[j].m.toNat : Int)) := by
        have := hs 0 (by omega); rw [Nat.add_zero, Nat.mul_comm] at this; exact this
      have c0 : wr.cell? ⟨bm, 0, none⟩ = some (.slice (some ⟨g, 0, none⟩) n cap) := by rw [hn, ← hv]; simp only [World.cell?, hI.mk'.blk]; rfl
      have hl2 : (j : Int) < (n : Int) := by omega
      rcases hcs with ⟨hst, rfl, hr⟩ | ⟨hst, n1, k2, r1, hk', hth, hsp2⟩
      · have HR : Hid (rest = (L.drop j).map SG.abs) := hr
        have hor := stops_cases hst hlt
        obtain ⟨x, hx⟩ : ∃ x, x = L[j].m := ⟨_, rfl⟩
        rw [← hx] at s0 hor
        subst hv3
        rw [← hn] at hfew hjl hlt
        clear hI hs hst hr hx hn hv
        rcases hor with rfl | rfl
        all_goals
          go_wp2_with fail
          go_quiet (fail)
          go_wp2_with fail
          go_quiet (fail)
          go_wp2_with fail
          go_ret
          exact way_done HI.out HR.out _
      · obtain ⟨_, hx1, hx2⟩ := goes_cases hst
        obtain ⟨x, hx⟩ : ∃ x, x = L[j].m := ⟨_, rfl⟩
        rw [← hx] at s0 hx1 hx2
        have hy1 : ¬ (x.toNat : Int) = 124 := fun e => hx1 (by rw [u8_eq_iff]; simpa using (by omega : x.toNat = 124))
        have hy2 : ¬ (x.toNat : Int) = 41 := fun e => hx2 (by rw [u8_eq_iff]; simpa using (by omega : x.toNat = 41))
        have hy3 : ((x.toNat : Int) == 124) = false := by simp [hy1]
        have hy4 : ((x.toNat : Int) == 41) = false := by simp [hy2]
        obtain ⟨n3, hn3⟩ : ∃ n3, n3 = A.length := ⟨_, rfl⟩
        have HN3 : Hid (n3 = A.length) := hn3
        rw [← hn3] at hAl
        have HT : Hid (∀ q, Calls Tryz.prog 206 #[.pointer (some ⟨bm, 0, none⟩)] (wr.drewN q) (MkPost bm sb v L (postS n1 r1).2 (code (postS n1 r1).1) (wr.drewN q)) ) := fun q => HP.out.1 j n1 r1 (wr.drewN q) hI.lm hI.le (hI.mk'.drewN q) HP.out.2.1 hth
        have HK : Hid (k' = (postS n1 r1).1 :: k2 ∧ SP .thing ((L.drop j).map SG.abs) [n1] r1 ∧ SP .way (postS n1 r1).2 k2 rest) := ⟨hk', hth, hsp2⟩
        subst hv3
        rw [← hn] at hfew hjl hlt
        have HN : Hid (n = L.length) := hn
        rw [← hn3]
        clear hn3
        clear hI hs hst hx hv hx1 hx2 hk' hth hsp2 hn
        go_wp2_with fail
        go_quiet (fail)
        go_wp2_with fail
        go_quiet (fail)
        go_wp2_with fail
        refine (HT.out _).mono ?_
        rintro e w1 ⟨v', A', j', rfl, hR', hM', hj', hr', hw', hC', hok'⟩
        have hwr1 : Wrote bm wr w1 := ((Wrote.refl _ _).drewN _).trans hw'
        have hlen := wi_len2 HI.out HP.out.2.2.1 HK.out.1 hC'
        have hrowA : w1.ownsRow 0 146 7 (.slice a3 n3 c3) n3 (A.flatMap stepC) := by
          rw [HN3.out]; exact row_base (wrote_row hwr1 HI.out.row (row_ne HI.out.row HI.out.mk'.blk (by decide))) (Nat.zero_le _)
        obtain ⟨m', hm'⟩ : ∃ m', m' = A'.length := ⟨_, rfl⟩
        have hrow' : w1.ownsRow wr.heap.size 146 7 v' m' (A'.flatMap stepC) := by rw [hm']; exact hR'
        obtain ⟨a', c', hv'⟩ := row_slice hrow'
        have hbs : wr.heap.size ≤ w1.heap.size := hwr1.size
        have HZ : Hid (Mk bm sb v L j' w1 ∧ j' ≤ L.length ∧ (L.drop j').map SG.abs = (postS n1 r1).2 ∧ Wrote bm wr w1 ∧ A'.map SV.abs = code (postS n1 r1).1 ∧ (∀ x ∈ A', x.Ok) ∧ m' = A'.length ∧ WI bm sb v L m (codeS k) rest w (.slice a3 A.length c3) A j ((postS n1 r1).1 :: k2) wr) := ⟨hM', hj', hr', hwr1, hC', hok', hm', by rw [← HK.out.1]; exact HI.out⟩
        rw [← hm', ← HN3.out] at hlen
        subst hv'
        clear hR' hM' hj' hr' hwr1 hC' hok' hm' hw' HT
        rcases hrowA.2 with ⟨hv, hl0⟩ | ⟨g3, cap', cur, hv, hg0, hgg, hcl, hcm, hcs, hct⟩
        · simp only [Value.slice.injEq] at hv
          obtain ⟨rfl, rfl, rfl⟩ := hv
          clear hrowA hl0
          go_wp2_with (first | (at_builtin; refine wpList_append_own_none rfl _ _ 111 rfl wr.heap.size 146 i0 7 Tryz.underlying111 hif _ _ _ rfl hrow' rfl ?_) | fail)
          go_roundw
          case rel =>
            have hA0 : A = [] := List.length_eq_zero_iff.1 HN3.out.symm
            have hR9 : Row wr.heap.size (.slice a' m' c') (A' ++ A) w1 := by
              unfold Row; rw [hA0, List.append_nil, ← HZ.out.2.2.2.2.2.2.1]; exact hrow'
            exact ⟨A' ++ A, j', k2, wi_next HZ.out.2.2.2.2.2.2.2 HK.out.2.1 HK.out.2.2 HZ.out.2.2.2.1 HZ.out.1 HZ.out.2.1 HZ.out.2.2.1 HZ.out.2.2.2.2.1 HZ.out.2.2.2.2.2.1 hR9 (.refl _ _)⟩
          case measure => exact wi_less HI.out HK.out.2.1 HZ.out.1 HZ.out.2.2.1 HN.out
        · simp only [Value.slice.injEq] at hv
          obtain ⟨rfl, -, rfl⟩ := hv
          clear hgg hcl hcm hcs hct hg0
          go_wp2_with (first | (at_builtin; refine wpList_append_own_at _ rfl _ _ 111 rfl wr.heap.size 146 i0 (.agg #[.int .i64 0, .int .u64 0, .int .u64 0, .int .u64 0, .int .u64 0, .int .i64 0, .int .i64 0]) 7 56 Tryz.underlying111 hif hz0 hz1 hz2 rfl (by decide) _ _ _ rfl hrow' ⟨g3, 0, none⟩ n3 c3 (A.flatMap stepC) rfl (by rw [flat_len2 stepC 7 (fun _ => rfl), ← HN3.out, Nat.mul_comm]) (fun j u hj => hrowA.cells rfl j u hj) (stepC_one _) (by unfold maxLen; omega) (by omega) hbs ?_) | fail)
          intro v9 w9 hown' hgrow _ hloc
          obtain ⟨a9, c9, hv9⟩ := row_slice hown'
          have hb9 : Below wr.heap.size w1 w9 := ⟨hgrow.os, hgrow.tape, hgrow.output, hgrow.size, fun q hq => hgrow.block q (by omega) (fun e => by have := (hrow'.lt q e.symm).1; omega)⟩
          have H9 : Hid (Row wr.heap.size v9 (A' ++ A) w9 ∧ Below wr.heap.size w1 w9) := by
            refine ⟨?_, hb9⟩
            unfold Row
            rw [List.flatMap_append, List.length_append, ← HZ.out.2.2.2.2.2.2.1, ← HN3.out]
            exact hown'
          subst hv9
          clear hown' hgrow hloc hrow' hrowA hb9
          go_wp2_with fail
          go_roundw
          case rel =>
            exact ⟨A' ++ A, j', k2, wi_next HZ.out.2.2.2.2.2.2.2 HK.out.2.1 HK.out.2.2 HZ.out.2.2.2.1 HZ.out.1 HZ.out.2.1 HZ.out.2.2.1 HZ.out.2.2.2.2.1 HZ.out.2.2.2.2.2.1 H9.out.1 H9.out.2⟩
          case measure => exact wi_less HI.out HK.out.2.1 (wi_next HZ.out.2.2.2.2.2.2.2 HK.out.2.1 HK.out.2.2 HZ.out.2.2.2.1 HZ.out.1 HZ.out.2.1 HZ.out.2.2.1 HZ.out.2.2.2.2.1 HZ.out.2.2.2.2.2.1 H9.out.1 H9.out.2).mk' HZ.out.2.2.1 HN.out
    · have hl2 : ¬ (j : Int) < (n : Int) := by omega
      have hnil : (L.drop j).map SG.abs = [] := by rw [List.drop_of_length_le (by omega)]; rfl
      have HR : Hid (k' = [] ∧ rest = (L.drop j).map SG.abs) := by
        rcases hcs with ⟨hst, h1, hr⟩ | ⟨hst, _⟩
        · exact ⟨h1, hr⟩
        · rw [hnil] at hst; cases hst
      obtain ⟨ga, cap, hv⟩ := row_slice hI.mk'.row
      have c0 : wr.cell? ⟨bm, 0, none⟩ = some (.slice ga n cap) := by rw [hn, ← hv]; simp only [World.cell?, hI.mk'.blk]; rfl
      subst hv3
      rw [← hn] at hfew hjl hlt
      clear hI hnil hcs hv hn
      go_wp2_with fail
      go_quiet (fail)
      go_wp2_with fail
      go_ret
      have h0 := HR.out.1
      have h1 := HI.out
      rw [h0] at h1
      exact way_done h1 HR.out.2 _
end Go.Proofs.YtedepknbaakkhabGreatDoor.X
namespace Go.Proofs.YtedepknbaakkhabGreatDoor.X
open Go.RowKit Go.Shelf RxSem
structure WJ (bm sb : Nat) (v : Value) (L : List SG) (m : Nat) (K : List Stp) (rest : List Sg) (w : World) (u : Value) (A : List SV) (j : Nat) (k' : List Nd) (wr : World) : Prop where
  row : Row w.heap.size u A wr
  mk' : Mk bm sb v L j wr
  le : j ≤ L.length
  lm : L.length - j ≤ m
  sw : SW ((L.drop j).map SG.abs) k' rest
  wr : Wrote bm w wr
  cd : K = codeA (A.map SV.abs) k'
  few : K.length ≤ 400
  ok : ∀ x ∈ A, x.Ok
theorem WJ.len {bm sb : Nat} {v : Value} {L : List SG} {m : Nat} {K : List Stp} {rest : List Sg} {w : World} {u : Value} {A : List SV} {j : Nat} {k' : List Nd} {wr : World} (h : WJ bm sb v L m K rest w u A j k' wr) : A.length ≤ 400 := by
  have h1 := codeA_len k' (A.map SV.abs)
  rw [← h.cd] at h1
  have := h.few
  simp at h1
  omega
theorem WJ.len2 {bm sb : Nat} {v : Value} {L : List SG} {m : Nat} {K : List Stp} {rest : List Sg} {w : World} {u : Value} {A B : List SV} {j : Nat} {k k2 : List Nd} {wr : World} (h : WJ bm sb v L m K rest w u A j (.seq k :: k2) wr) (hC : B.map SV.abs = codeS k) : B.length ≤ 400 := by
  have h0 := h.cd
  unfold codeA at h0
  have h1 := codeA_len k2 (either (A.map SV.abs) (code (.seq k)))
  rw [← h0] at h1
  have := h.few
  have h5 := congrArg List.length hC
  simp [either, code] at h1 h5
  omega
theorem wj_next {bm sb : Nat} {v : Value} {L : List SG} {m : Nat} {K : List Stp} {rest r2 : List Sg} {w : World} {u u9 : Value} {A B : List SV} {j j' : Nat} {k k2 : List Nd} {wr w1 w9 : World} (h : WJ bm sb v L m K rest w u A j (.seq k :: k2) wr) (hlt : j < L.length) (hsp : SP .way ((L.drop (j + 1)).map SG.abs) k r2) (hsw : SW r2 k2 rest) (hw : Wrote bm wr w1) (hM : Mk bm sb v L j' w1) (hj : j' ≤ L.length) (hr' : (L.drop j').map SG.abs = r2) (hC' : B.map SV.abs = codeS k) (hok' : ∀ x ∈ B, x.Ok) (hrow : Row w1.heap.size u9 (eitherV A B) w9) (hb : Below w1.heap.size w1 w9) : WJ bm sb v L m K rest w u9 (eitherV A B) j' k2 w9 ∧ L.length - j' < L.length - j := by
  have hs := hsp.size
  rw [← hr'] at hs
  simp at hs
  have hlm := h.lm
  have hlt' : L.length - j' < L.length - j := by omega
  refine ⟨⟨row_base hrow (Nat.le_trans h.wr.size hw.size), hM.below hb, hj, by omega, by rw [hr']; exact hsw, (h.wr.trans hw).trans (.of_below hb), ?_, h.few, eitherV_ok h.ok hok' (by have := h.len; omega) (by have := h.len2 hC'; omega)⟩, hlt'⟩
  rw [h.cd, eitherV_abs, hC']
  conv => lhs; unfold codeA
  simp [code]
theorem sw_head {r rest : List Sg} {k : List Nd} (h : SW r k rest) : (headIs 124 r = false ∧ k = [] ∧ rest = r) ∨ ∃ r' r1 k0 k2, r = .mark 124 :: r' ∧ k = .seq k0 :: k2 ∧ SP .way r' k0 r1 ∧ SW r1 k2 rest := by
  cases h with
  | stop r h =>
    refine .inl ⟨?_, rfl, rfl⟩
    cases r with
    | nil => rfl
    | cons x r =>
      cases x with
      | thing _ => rfl
      | mark c =>
        show (c == 124) = false
        simp at h
        simpa using h
  | more r r1 r2 k m h1 h2 => exact .inr ⟨r, r1, k, m, rfl, rfl, h1, h2⟩
set_option maxHeartbeats 1000000 in
theorem ways_any {bm sb : Nat} {v : Value} {L : List SG} (m : Nat) (hP : WayC bm sb v L m) : WaysC bm sb v L m := by
  intro i k rest w hm hi h hok hsp
  obtain ⟨k0, k', r1, hk, hway, hsw⟩ := hsp.ways_cases rfl
  have hsz := hsp.size
  have HW : Hid (Calls Tryz.prog 199 #[.pointer (some ⟨bm, 0, none⟩)] w (MkPost bm sb v L r1 (codeS k0) w)) := hP i k0 r1 w hm hi h hok hway
  have HP : Hid (WayC bm sb v L m ∧ (∀ x ∈ L, x.v.Ok) ∧ SW r1 k' rest ∧ (code (.alt k)).length ≤ 400 ∧ code (.alt k) = codeA (codeS k0) k' ∧ L.length - i ≤ m ∧ SP .way ((L.drop i).map SG.abs) k0 r1) := ⟨hP, hok, hsw, by
    have := h.few
    simp [lenOf] at hsz
    omega, by rw [hk]; unfold code; simp [code], hm, hway⟩
  obtain ⟨C, hC⟩ : ∃ C, C = code (.alt k) := ⟨_, rfl⟩
  rw [← hC] at HP ⊢
  clear hC hsz hP hok hsp hm hi h hk hway hsw
  go_enter Tryz.func192, Tryz.ntmps192
  go_wp2_with fail
  refine HW.out.mono ?_
  rintro e w0 ⟨v0, A0, j0, rfl, hR, hM1, hj, hrest, hw1, hC, hok⟩
  have HI0 : Hid (WJ bm sb v L m C rest w v0 A0 j0 k' w0) := by
    obtain ⟨h1, h2, h3, h4, h5, h6, h7⟩ := HP.out
    have hs := h7.size
    rw [← hrest] at hs
    simp at hs
    exact ⟨hR, hM1, hj, by omega, by rw [hrest]; exact h3, hw1, by rw [h5, hC], h4, hok⟩
  obtain ⟨a0, c0, hv0⟩ := row_slice hR
  subst hv0
  clear hR hM1 hj hrest hw1 hC hok HW
  go_wp2_with fail
  go_loopw [3] (fun u wr => ∃ (A : List SV) (j : Nat) (k' : List Nd), WJ bm sb v L m C rest w u A j k' wr) (fun _ wr => L.length - mkAt bm wr)
  case atStart => exact ⟨A0, j0, k', HI0.out⟩
  case round =>
    clear HI0
    obtain ⟨A, j, k', hI⟩ := hrel
    have hAl := hI.len
    obtain ⟨a3, c3, hv3⟩ := row_slice hI.row
    subst hv3
    have HI : Hid (WJ bm sb v L m C rest w (.slice a3 A.length c3) A j k' wr) := hI
    have hsw := hI.sw
    clear hI
    rcases sw_head hsw with ⟨hh, hk, hr⟩ | ⟨r', r2, k3, k2, hr, hk, hway, hsw2⟩
    · have HS : Hid (headIs 124 ((L.drop j).map SG.abs) = false ∧ k' = [] ∧ rest = (L.drop j).map SG.abs) := ⟨hh, hk, hr⟩
      clear hh hk hr hsw
      go_wp2_with fail
      refine (isC 124 (by decide) j _ HI.out.le rfl false HS.out.1 wr HI.out.mk').mono ?_
      rintro e w1 ⟨rfl, hM, hw⟩
      have H1 : Hid (Mk bm sb v L j w1 ∧ Wrote bm wr w1) := ⟨hM, hw⟩
      clear hM hw
      go_wp2_with fail
      go_ret
      refine ⟨_, A, j, rfl, wrote_row H1.out.2 HI.out.row (row_ne HI.out.row HI.out.mk'.blk (by decide)), H1.out.1, HI.out.le, HS.out.2.2.symm, HI.out.wr.trans H1.out.2, ?_, HI.out.ok⟩
      rw [HI.out.cd, HS.out.2.1]; unfold codeA; rfl
    · obtain ⟨hjl, -, -, hr3⟩ := drop_mark hr
      have hI2 := HI.out
      rw [hk] at hI2
      have HS : Hid ((L.drop j).map SG.abs = .mark 124 :: r' ∧ WJ bm sb v L m C rest w (.slice a3 A.length c3) A j (.seq k3 :: k2) wr ∧ SP .way ((L.drop (j + 1)).map SG.abs) k3 r2 ∧ SW r2 k2 rest ∧ j < L.length) := ⟨hr, hI2, by rw [hr3]; exact hway, hsw2, hjl⟩
      clear hr hk hway hsw2 hsw hr3 hjl hI2
      go_wp2_with fail
      refine (isC 124 (by decide) j _ HI.out.le HS.out.1 true rfl wr HI.out.mk').mono ?_
      rintro e w1 ⟨rfl, hM, hw⟩
      have hlm := HI.out.lm
      have HY : Hid (Calls Tryz.prog 199 #[.pointer (some ⟨bm, 0, none⟩)] w1 (MkPost bm sb v L r2 (codeS k3) w1)) := HP.out.1 (j + 1) k3 r2 w1 (by omega) HS.out.2.2.2.2 hM HP.out.2.1 HS.out.2.2.1
      have H1 : Hid (Wrote bm wr w1) := hw
      clear hM hw hlm
      go_wp2_with fail
      refine HY.out.mono ?_
      rintro e w2 ⟨v2, B, j2, rfl, hR, hM1, hj, hrest, hw1, hC, hok⟩
      obtain ⟨a2, c2, hv2⟩ := row_slice hR
      subst hv2
      have hBl := HS.out.2.1.len2 hC
      have HE : Hid (Calls Tryz.prog 201 #[.slice a3 A.length c3, .slice a2 B.length c2] w2 fun e w' => ∃ v, e = .returned v ∧ Row w2.heap.size v (eitherV A B) w' ∧ Below w2.heap.size w2 w') := either_any _ _ A B w2 (row_base (wrote_row (H1.out.trans hw1) HI.out.row (row_ne HI.out.row HI.out.mk'.blk (by decide))) (Nat.zero_le _)) (row_base hR (Nat.zero_le _)) (by omega) (by omega)
      have H2 : Hid (∀ u9 w9, Row w2.heap.size u9 (eitherV A B) w9 → Below w2.heap.size w2 w9 → WJ bm sb v L m C rest w u9 (eitherV A B) j2 k2 w9 ∧ L.length - j2 < L.length - j) := fun u9 w9 h1 h2 => wj_next HS.out.2.1 HS.out.2.2.2.2 HS.out.2.2.1 HS.out.2.2.2.1 (H1.out.trans hw1) hM1 hj hrest hC hok h1 h2
      clear hR hM1 hj hrest hw1 hC hok HY
      go_wp2_with fail
      refine HE.out.mono ?_
      rintro e w3 ⟨v3, rfl, hR, hB⟩
      have H3 : Hid (WJ bm sb v L m C rest w v3 (eitherV A B) j2 k2 w3 ∧ L.length - j2 < L.length - j) := H2.out _ _ hR hB
      obtain ⟨b3, d3, hv3⟩ := row_slice hR
      subst hv3
      clear hR hB HE H2
      go_wp2_with fail
      go_roundw
      case rel => exact ⟨_, j2, k2, H3.out.1⟩
      case measure =>
        have h1 := H3.out.1.mk'.at
        have h2 := HI.out.mk'.at
        have h3 := H3.out.2
        rw [h1, h2]; exact h3
theorem maker_any {bm sb : Nat} {v : Value} {L : List SG} : ∀ m, WaysC bm sb v L m
  | 0 => ways_any 0 (way_any 0 (part_any 0 (thing_any' 0 (fun m' h => by omega))))
  | m + 1 => ways_any _ (way_any _ (part_any _ (thing_any' (m + 1) (fun m' h => maker_any m'))))
end Go.Proofs.YtedepknbaakkhabGreatDoor.X
namespace Go.Proofs.YtedepknbaakkhabGreatDoor.X
open Go.RowKit Go.Shelf RxSem
set_option maxHeartbeats 1000000 in
theorem steps_any : StepsC := by
  intro L k v base w hrow hok hsp hL
  obtain ⟨i0, hif, hz0, hz1, hz2⟩ := info_parts infoSt
  obtain ⟨a, c, hv⟩ := row_slice hrow
  have HX : Hid (w.ownsRow base 148 8 v L.length (L.flatMap signC) ∧ (∀ x ∈ L, x.v.Ok) ∧ SP .ways (L.map SG.abs) k [] ∧ L.length ≤ 200) := ⟨hrow, hok, hsp, hL⟩
  obtain ⟨n, hn⟩ : ∃ n, n = L.length := ⟨_, rfl⟩
  rw [← hn] at hv
  subst hv
  have HN : Hid (n = L.length) := hn
  clear hrow hok hsp hL hn
  go_enter Tryz.func180, Tryz.ntmps180
  go_wp2_with fail
  obtain ⟨wa, hwa, hBa, hSa, hka⟩ := one_box w (.cells #[.slice a n c, .int .i64 0] 236)
  have hM : Mk w.heap.size base (.slice a n c) L 0 wa := ⟨hka, owns_below HX.out.1 hBa, HX.out.2.2.2⟩
  have HC := maker_any L.length 0 k [] wa (by omega) (Nat.zero_le _) hM HX.out.2.1 (by simpa using HX.out.2.2.1)
  have HB : Hid (Below w.heap.size w wa ∧ wa.heap.size = w.heap.size + 1) := ⟨hBa, hSa⟩
  rw [← hwa]
  clear hBa hSa hka hM hwa
  refine HC.mono ?_
  rintro e w1 ⟨v', A, j, rfl, hR, -, -, -, hw, hC, hok⟩
  have hAl : A.length ≤ 400 := by
    have h1 := HX.out.2.2.1.size
    have h2 := congrArg List.length hC
    have h3 := HX.out.2.2.2
    simp [lenOf] at h1 h2
    omega
  obtain ⟨m, hm⟩ : ∃ m, m = A.length := ⟨_, rfl⟩
  have hr1 : w1.ownsRow wa.heap.size 146 7 v' m (A.flatMap stepC) := by rw [hm]; exact hR
  obtain ⟨a1, c1, hv1⟩ := row_slice hr1
  rw [← hm] at hAl
  have hsz : wa.heap.size ≤ w1.heap.size := hw.size
  have H1 : Hid (Wrote w.heap.size wa w1 ∧ A.map SV.abs = code (.alt k) ∧ (∀ x ∈ A, x.Ok) ∧ m = A.length) := ⟨hw, hC, hok, hm⟩
  subst hv1
  clear hR hw hC hok hm HC
  go_wp2_with (first | (at_builtin; refine wpList_append_own_at _ rfl _ _ 111 rfl wa.heap.size 146 i0 (.agg #[.int .i64 0, .int .u64 0, .int .u64 0, .int .u64 0, .int .u64 0, .int .i64 0, .int .i64 0]) 7 56 Tryz.underlying111 hif hz0 hz1 hz2 rfl (by decide) _ _ _ rfl (hr1.alloc _) ⟨w1.heap.size, 0, none⟩ 1 1 (stepC ⟨4, W4.zero, 0, 0⟩) rfl rfl ?c1 ?c2 ?c3 ?c4 ?c5 ?_) | fail)
  case c1 =>
    intro j u hj
    match j, hj with
    | 0, hj => simp [stepC, W4.zero] at hj; subst hj; simp [Addr.add]
    | 1, hj => simp [stepC, W4.zero] at hj; subst hj; simp [Addr.add]
    | 2, hj => simp [stepC, W4.zero] at hj; subst hj; simp [Addr.add]
    | 3, hj => simp [stepC, W4.zero] at hj; subst hj; simp [Addr.add]
    | 4, hj => simp [stepC, W4.zero] at hj; subst hj; simp [Addr.add]
    | 5, hj => simp [stepC, W4.zero] at hj; subst hj; simp [Addr.add]
    | 6, hj => simp [stepC, W4.zero] at hj; subst hj; simp [Addr.add]
    | j + 7, hj => simp [stepC, W4.zero] at hj
  case c2 => intro u hu; exact stepC_one [⟨4, W4.zero, 0, 0⟩] u (by simpa using hu)
  case c3 => unfold maxLen; omega
  case c4 => omega
  case c5 => simp; omega
  intro v9 w9 hown' hgrow hnil hloc
  have hs9 := hgrow.size
  have hb9 : Below wa.heap.size w1 w9 := ⟨hgrow.os, hgrow.tape, hgrow.output, by simp at hs9; omega, fun q hq => by
    rw [hgrow.block q (by simp; omega) (fun e => by have := (hr1.lt q e.symm).1; omega)]
    exact Below.heap_alloc _ _ _ (by omega)⟩
  have H9 : Hid (Row wa.heap.size v9 (A ++ [⟨4, W4.zero, 0, 0⟩]) w9 ∧ Below w.heap.size w w9) := by
    refine ⟨?_, ?_⟩
    · unfold Row
      rw [List.flatMap_append, List.length_append, ← H1.out.2.2.2]
      simpa using hown'
    · have hB1 : Below w.heap.size w w1 := by
        refine ⟨H1.out.1.os.trans HB.out.1.os, H1.out.1.tape.trans HB.out.1.tape, H1.out.1.output.trans HB.out.1.output, Nat.le_trans HB.out.1.size hsz, fun q hq => ?_⟩
        rw [H1.out.1.block q (by have := HB.out.2; omega) (by omega)]
        exact HB.out.1.block q hq
      exact hB1.trans (hb9.mono (by have := HB.out.2; omega))
  obtain ⟨a9, c9, hv9⟩ := row_slice hown'
  subst hv9
  clear hown' hgrow hnil hloc hr1 hb9 hs9
  go_wp2_with fail
  go_ret
  refine ⟨H9.out.2, ?_⟩
  rcases H9.out.1.2 with ⟨_, hl0⟩ | ⟨g3, cap', cur, hv, hg0, hgg, hcl, hcm, hcs, hct⟩
  · simp at hl0
  · refine ⟨g3, cap', A ++ [⟨4, W4.zero, 0, 0⟩], by rw [hv]; rfl, by have := HB.out.2; omega, ⟨cur, hgg, ?_⟩, ?_, ?_⟩
    · rw [← hct]; simp [Nat.mul_comm]
    · rw [List.map_append, H1.out.2.1]; rfl
    · intro x hx
      rcases List.mem_append.1 hx with hx | hx
      · exact H1.out.2.2.1 x hx
      · have : x = ⟨4, W4.zero, 0, 0⟩ := by simpa using hx
        rw [this]; exact ⟨W4.zero_ok, by simp, by simp, by simp⟩
end Go.Proofs.YtedepknbaakkhabGreatDoor.X
namespace Go.Proofs.YtedepknbaakkhabGreatDoor.X
open Go.RowKit Go.Shelf RxSem
theorem sc_len {o : Nat} {a : Bool} {l : List UInt8} {res : SRes} (h : Sc o a l res) : ∀ sg, res = .ok sg → sg.length ≤ l.length := by
  induction h with
  | nil => intro sg h; cases h; simp
  | opened => intro sg h; cases h
  | markBad => intro sg h; cases h
  | mark o a c t o' a' r h h1 h2 ih =>
    intro sg hs
    cases r with
    | ok l => cases hs; have := ih l rfl; simp; omega
    | bad => cases hs
  | thingBad => intro sg h; cases h
  | thing o a c t t' x r h h1 h2 ih =>
    intro sg hs
    have h3 := thingR_len h1
    cases r with
    | ok l => cases hs; have := ih l rfl; simp at h3 ⊢; omega
    | bad => cases hs
def MadePost (s : ByteArray) (w : World) (c : List Nd ⊕ (Nat × Nat)) (e : Ending) (w' : World) : Prop := Below w.heap.size w w' ∧ match c with
  | .inl k => ∃ b : Nat, e = .returned (.tuple #[.pointer (some ⟨b, 0, none⟩), faultV 0 0]) ∧ w.heap.size ≤ b ∧ Made b s k w'
  | .inr (why, at') => e = .returned (.tuple #[.pointer none, faultV why at'])
theorem compile_made (s : ByteArray) (c : List Nd ⊕ (Nat × Nat)) (hc : Comp (bl s) c) (w : World) : Calls Tryz.prog 49 #[.string s] w (MadePost s w c) := by
  cases c with
  | inr x => exact (compile_any s _ hc w).mono fun e w' h => h
  | inl k =>
    have hs : s.size ≤ 200 := by
      cases hc with
      | ok k h h1 => rw [bl_length] at h; exact h
    obtain ⟨sg, h1, h2⟩ := hc.flat (by rw [bl_length]; omega)
    refine (compile_ok s sg (fun W => read_any s (by omega) _ h1 W) w).mono ?_
    rintro e w' ⟨hb, b, L, he, hl, hF, hL⟩
    obtain ⟨v, hv1, hv2⟩ := hF.ok
    have hl2 := sc_len h1 sg rfl
    rw [bl_length] at hl2
    have hl3 := congrArg List.length hL
    simp at hl3
    exact ⟨hb, b, he, hl, .fresh v _ L hv1 hv2 hF.signs (by rw [hL]; exact h2) (by omega)⟩
end Go.Proofs.YtedepknbaakkhabGreatDoor.X
namespace Go.Proofs.YtedepknbaakkhabGreatDoor.X
open Go.RowKit Go.Shelf RxSem
def spanC (x : Nat × Nat) : List Value := [.int .i64 (x.1 : Int), .int .i64 (x.2 : Int)]
theorem infoSpan : (Tryz.prog.info? 127).map (fun i => (i.zero, i.size, i.bytes)) = some (some (.agg #[.int .i64 0, .int .i64 0]), 2, 16) := by kernel_rfl
theorem spanC_one (L : List (Nat × Nat)) : ∀ u ∈ L.flatMap spanC, u.oneCell' = true := by
  intro u hu
  obtain ⟨x, _, hx⟩ := List.mem_flatMap.1 hu
  simp [spanC] at hx
  rcases hx with rfl | rfl <;> rfl
def Fall (base bs : Nat) (L : List (Nat × Nat)) (w : World) : Prop := ∃ v, w.heap[bs]? = some (.cells #[v] 124 (0, 0)) ∧ w.ownsRow base 127 2 v L.length (L.flatMap spanC)
set_option maxHeartbeats 400000 in
theorem replaced1_any (base bs p e : Nat) (L : List (Nat × Nat)) (w : World) (h : Fall base bs L w) (hl : L.length ≤ 100000) (hb : base ≤ w.heap.size) : Calls Tryz.prog 133 #[.agg #[.int .i64 (p : Int), .int .i64 (e : Int)], .pointer (some ⟨bs, 0, none⟩)] w fun z w' => z = .returned (.tuple #[]) ∧ Fall base bs (L ++ [(p, e)]) w' ∧ (∀ (j : Nat) (cs : Array Value) (T : TypeId), w.heap[j]? = some (.cells cs T (0, 0)) → T ≠ 124 → T ≠ 127 → w'.heap[j]? = w.heap[j]?) ∧ Fr (fun j => j = bs ∨ base ≤ j) w w' := by
  obtain ⟨i0, hif, hz0, hz1, hz2⟩ := info_parts infoSpan
  obtain ⟨v, hbx, hrow⟩ := h
  obtain ⟨a, c, hv⟩ := row_slice hrow
  obtain ⟨m, hm⟩ : ∃ m, m = L.length := ⟨_, rfl⟩
  rw [← hm] at hv hrow hl
  subst hv
  have c0 : w.cell? ⟨bs, 0, none⟩ = some (.slice a m c) := by simp only [World.cell?, hbx]; rfl
  have f0 : ∀ j, w.frozen? ⟨bs, j, none⟩ = false := fun j => by simp [World.frozen?, hbx]
  have hbl : bs < w.heap.size := (Array.getElem?_eq_some_iff.1 hbx).1
  have HX : Hid (w.heap[bs]? = some (.cells #[.slice a m c] 124 (0, 0)) ∧ m = L.length ∧ w.ownsRow base 127 2 (.slice a m c) m (L.flatMap spanC)) := ⟨hbx, hm, hrow⟩
  clear hm
  go_enter Tryz.func133, Tryz.ntmps133
  go_wp2_with (first | (at_builtin; refine wpList_append_own_at _ rfl _ _ 124 rfl base 127 i0 (.agg #[.int .i64 0, .int .i64 0]) 2 16 Tryz.underlying124 hif hz0 hz1 hz2 rfl (by decide) _ _ _ rfl ((hrow.alloc _).alloc _) ⟨w.heap.size + 1, 0, none⟩ 1 1 (spanC (p, e)) rfl rfl ?c1 ?c2 ?c3 ?c4 ?c5 ?_) | fail)
  case c1 =>
    intro j u hj
    match j, hj with
    | 0, hj => simp [spanC] at hj; subst hj; simp [Addr.add]
    | 1, hj => simp [spanC] at hj; subst hj; simp [Addr.add]
    | j + 2, hj => simp [spanC] at hj
  case c2 => intro u hu; exact spanC_one [(p, e)] u (by simpa using hu)
  case c3 => unfold maxLen; omega
  case c4 => omega
  case c5 => simp; omega
  intro v9 w9 hown' hgrow hnil hloc
  have hs9 := hgrow.size
  have hs9' : w.heap.size ≤ w9.heap.size := by simp at hs9; omega
  have hkeep : ∀ q, q < w.heap.size → (Value.slice a m c).ownBlock ≠ some q → w9.heap[q]? = w.heap[q]? := fun q hq hne => by
    rw [hgrow.block q (by simp; omega) (fun e => hne e.symm), Below.heap_alloc _ _ _ (by simp; omega)]
    exact Below.heap_alloc _ _ _ hq
  have hnb : (Value.slice a m c).ownBlock ≠ some bs := row_ne HX.out.2.2 HX.out.1 (by decide)
  have hb9 : w9.heap[bs]? = some (.cells #[.slice a m c] 124 (0, 0)) := (hkeep bs hbl hnb).trans HX.out.1
  have d0 : w9.cell? ⟨bs, 0, none⟩ = some (.slice a m c) := by simp only [World.cell?, hb9]; rfl
  have g0 : ∀ j, w9.frozen? ⟨bs, j, none⟩ = false := fun j => by simp [World.frozen?, hb9]
  have H9 : Hid (w9.ownsRow base 127 2 v9 (m + 1) (L.flatMap spanC ++ spanC (p, e)) ∧ w9.heap[bs]? = some (.cells #[.slice a m c] 124 (0, 0)) ∧ (∀ q, q < w.heap.size → (Value.slice a m c).ownBlock ≠ some q → w9.heap[q]? = w.heap[q]?) ∧ w9.os = w.os ∧ w9.tape = w.tape ∧ w9.output = w.output ∧ w.heap.size ≤ w9.heap.size) := ⟨hown', hb9, hkeep, hgrow.os, hgrow.tape, hgrow.output, hs9'⟩
  obtain ⟨a9, c9, hv9⟩ := row_slice hown'
  subst hv9
  clear hown' hgrow hnil hloc hrow hs9 hs9' hkeep hnb hb9
  go_wp2_with fail
  go_end0
  obtain ⟨r1, r2, r3, r4, r5, r6, r7⟩ := H9.out
  have o : Only bs w9 (w9.setCell ⟨bs, 0, none⟩ (.slice a9 (m + 1) c9)) := Only.set _ _ _ _
  have hL : (L ++ [(p, e)]).length = m + 1 := by rw [HX.out.2.1]; simp
  refine ⟨rfl, ⟨_, heap_set r2 _, ?_⟩, fun j cs T hj h1 h2 => ?_, r4, r5, r6, Nat.le_trans r7 (by rw [o.size]; exact Nat.le_refl _), fun j hj hd => ?_⟩
  · rw [hL, List.flatMap_append]
    have : [(p, e)].flatMap spanC = spanC (p, e) := by simp
    rw [this]
    exact row_set r1 (row_ne r1 r2 (by decide)) _
  · have hjl := (Array.getElem?_eq_some_iff.1 hj).1
    have hjb : j ≠ bs := fun e => by rw [e, HX.out.1] at hj; simp at hj; exact h1 hj.2.symm
    rw [o.block j hjb]
    exact r3 j hjl (fun hv => by
      obtain ⟨cur, hc⟩ := row_type HX.out.2.2 hv
      rw [hc] at hj; simp at hj; exact h2 hj.2.symm)
  · rw [o.block j (fun e => hd (.inl e))]
    exact r3 j hj (fun hv => hd (.inr (HX.out.2.2.lt j hv).1))
end Go.Proofs.YtedepknbaakkhabGreatDoor.X
