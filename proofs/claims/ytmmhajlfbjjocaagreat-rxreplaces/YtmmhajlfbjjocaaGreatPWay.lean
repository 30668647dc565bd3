/-
  Ways.
-/
import Derived.Test.YtmmhajlfbjjocaaGreatPPart
namespace Go.Proofs.YtmmhajlfbjjocaaGreat
open Go.RowKit Go.Shelf RxSem

def WayC (bm sb : Nat) (v : Value) (L : List SG) (m : Nat) : Prop := ∀ (i : Nat) (k : List Nd) (rest : List Sg) (w : World), L.length - i ≤ m → i ≤ L.length → Mk bm sb v L i w → (∀ x ∈ L, x.v.Ok) → SP .way ((L.drop i).map SG.abs) k rest → Calls Tryz.prog 74 #[.pointer (some ⟨bm, 0, none⟩)] w (MkPost bm sb v L rest (codeS k) w)
theorem Mk.later {bm sb : Nat} {v : Value} {L : List SG} {i j : Nat} {w w1 w9 : World} (h : Mk bm sb v L i w) (h1 : Mk bm sb v L j w1) (hw : Wrote bm w w9) (hb : Below w.heap.size w1 w9) : Mk bm sb v L j w9 :=
  ⟨(hb.block bm h.lt).trans h1.blk, wrote_row hw h.row (row_ne h.row h.blk (by decide)), h.few⟩
def mkAt (bm : Nat) (w : World) : Nat := match w.cell? ⟨bm, 1, none⟩ with
  | some x => (intOf x).toNat
  | none => 0
theorem Mk.at {bm sb : Nat} {v : Value} {L : List SG} {i : Nat} {w : World} (h : Mk bm sb v L i w) : mkAt bm w = i := by
  have c1 : w.cell? ⟨bm, 1, none⟩ = some (.int .i64 (i : Int)) := by simp only [World.cell?, h.blk]; rfl
  unfold mkAt
  rw [c1]
  simp [intOf]
theorem sp_thing_less {l r : List Sg} {n : Nd} (h : SP .thing l [n] r) : r.length < l.length := by
  cases h with
  | one x t h => simp
  | group t r k h =>
    have := h.size
    simp at this ⊢
    omega
/-- The way stops, or goes on. -/
theorem sp_way_cases {l r : List Sg} {k : List Nd} {g : Tag} (h : SP g l k r) : g = .way → (stopsS l = true ∧ k = [] ∧ r = l) ∨ (stopsS l = false ∧ ∃ n k' r1, k = (postS n r1).1 :: k' ∧ SP .thing l [n] r1 ∧ SP .way (postS n r1).2 k' r) := by
  intro hg
  cases h with
  | wayEnd l h => exact .inl ⟨h, rfl, rfl⟩
  | wayNext l r r2 n k h h1 h2 => exact .inr ⟨h, n, k, r, rfl, h1, h2⟩
  | _ => cases hg
theorem stops_cases {L : List SG} {i : Nat} (h : stopsS ((L.drop i).map SG.abs) = true) (hi : i < L.length) : L[i].m = 124 ∨ L[i].m = 41 := by
  rw [List.drop_eq_getElem_cons hi, List.map_cons] at h
  unfold SG.abs at h
  split at h
  · simp [stopsS] at h
  · simpa [stopsS] using h
theorem goes_cases {L : List SG} {i : Nat} (h : stopsS ((L.drop i).map SG.abs) = false) : ∃ hi : i < L.length, ¬ L[i].m = 124 ∧ ¬ L[i].m = 41 := by
  rcases Nat.lt_or_ge i L.length with hi | hi
  · refine ⟨hi, ?_⟩
    rw [List.drop_eq_getElem_cons hi, List.map_cons] at h
    unfold SG.abs at h
    split at h
    · rename_i h0; rw [h0]; decide
    · simpa [stopsS] using h
  · rw [List.drop_of_length_le hi] at h; cases h
structure WI (bm sb : Nat) (v : Value) (L : List SG) (m : Nat) (K : List Stp) (rest : List Sg) (w : World) (u : Value) (A : List SV) (j : Nat) (k' : List Nd) (wr : World) : Prop where
  row : Row w.heap.size u A wr
  mk' : Mk bm sb v L j wr
  le : j ≤ L.length
  lm : L.length - j ≤ m
  sp : SP .way ((L.drop j).map SG.abs) k' rest
  wr : Wrote bm w wr
  cd : K = codeS k' ++ A.map SV.abs
  ok : ∀ x ∈ A, x.Ok
theorem wi_len {bm sb : Nat} {v : Value} {L : List SG} {m : Nat} {i : Nat} {k : List Nd} {rest : List Sg} {w : World} {u : Value} {A : List SV} {j : Nat} {k' : List Nd} {wr : World} (h : WI bm sb v L m (codeS k) rest w u A j k' wr) (h2 : SP .way ((L.drop i).map SG.abs) k rest) : A.length ≤ 400 := by
  have h1 := h2.size
  have h3 := congrArg List.length h.cd
  have h4 := h.mk'.few
  simp only [lenOf, List.length_map, List.length_append, List.length_drop] at h1 h3
  omega
theorem wi_len2 {bm sb : Nat} {v : Value} {L : List SG} {m : Nat} {i : Nat} {k : List Nd} {rest : List Sg} {w : World} {u : Value} {A A' : List SV} {j : Nat} {k' k2 : List Nd} {x : Nd} {wr : World} (h : WI bm sb v L m (codeS k) rest w u A j k' wr) (h2 : SP .way ((L.drop i).map SG.abs) k rest) (hk : k' = x :: k2) (hC : A'.map SV.abs = code x) : A'.length + A.length ≤ 400 := by
  have h1 := h2.size
  have h3 := congrArg List.length h.cd
  have h4 := h.mk'.few
  have h5 := congrArg List.length hC
  rw [hk] at h3
  simp only [lenOf, codeS, List.length_map, List.length_append, List.length_drop] at h1 h3 h5
  omega
theorem wi_step {L : List SG} {j j' : Nat} {n1 : Nd} {r1 : List Sg} (hth : SP .thing ((L.drop j).map SG.abs) [n1] r1) (hr' : (L.drop j').map SG.abs = (postS n1 r1).2) : L.length - j' < L.length - j := by
  have h1 := sp_thing_less hth
  have h2 := postS_len n1 r1
  rw [← hr'] at h2
  simp at h1 h2
  omega
theorem wi_next {bm sb : Nat} {v : Value} {L : List SG} {m : Nat} {K : List Stp} {rest : List Sg} {w : World} {u u9 : Value} {A A' : List SV} {j j' : Nat} {k2 : List Nd} {n1 : Nd} {r1 : List Sg} {wr w1 w9 : World} (h : WI bm sb v L m K rest w u A j ((postS n1 r1).1 :: k2) wr) (hth : SP .thing ((L.drop j).map SG.abs) [n1] r1) (hsp2 : SP .way (postS n1 r1).2 k2 rest) (hw : Wrote bm wr w1) (hM : Mk bm sb v L j' w1) (hj : j' ≤ L.length) (hr' : (L.drop j').map SG.abs = (postS n1 r1).2) (hC' : A'.map SV.abs = code (postS n1 r1).1) (hok' : ∀ x ∈ A', x.Ok) (hrow : Row wr.heap.size u9 (A' ++ A) w9) (hb : Below wr.heap.size w1 w9) : WI bm sb v L m K rest w u9 (A' ++ A) j' k2 w9 := by
  have hw9 : Wrote bm wr w9 := ⟨hb.os.trans hw.os, hb.tape.trans hw.tape, hb.output.trans hw.output, Nat.le_trans hw.size hb.size, fun q hq hne => (hb.block q hq).trans (hw.block q hq hne)⟩
  have hs := wi_step hth hr'
  have hlm := h.lm
  refine ⟨row_base hrow h.wr.size, h.mk'.later hM hw9 hb, hj, by omega, by rw [hr']; exact hsp2, h.wr.trans hw9, ?_, ?_⟩
  · rw [h.cd, codeS, List.map_append, hC', List.append_assoc]
  · intro x hx
    rcases List.mem_append.1 hx with hx | hx
    · exact hok' x hx
    · exact h.ok x hx
theorem wi_less {bm sb : Nat} {v : Value} {L : List SG} {m n : Nat} {K : List Stp} {rest : List Sg} {w : World} {u : Value} {A : List SV} {j j' : Nat} {k' : List Nd} {n1 : Nd} {r1 : List Sg} {wr w9 : World} (h : WI bm sb v L m K rest w u A j k' wr) (hth : SP .thing ((L.drop j).map SG.abs) [n1] r1) (hM : Mk bm sb v L j' w9) (hr' : (L.drop j').map SG.abs = (postS n1 r1).2) (_ : n = L.length) : L.length - mkAt bm w9 < L.length - mkAt bm wr := by
  rw [hM.at, h.mk'.at]
  exact wi_step hth hr'
theorem way_done {bm sb : Nat} {v : Value} {L : List SG} {m : Nat} {k : List Nd} {rest : List Sg} {w : World} {u : Value} {A : List SV} {j : Nat} {wr : World} (h : WI bm sb v L m (codeS k) rest w u A j [] wr) (hr : rest = (L.drop j).map SG.abs) (q : Nat) : MkPost bm sb v L rest (codeS k) w (.returned u) (wr.drewN q) :=
  ⟨u, A, j, rfl, owns_below h.row ⟨rfl, rfl, rfl, Nat.le_refl _, fun _ _ => rfl⟩, h.mk'.drewN q, h.le, hr.symm, h.wr.drewN q, by rw [h.cd]; simp [codeS], h.ok⟩
set_option maxRecDepth 20000 in
set_option maxHeartbeats 1000000 in
theorem way_any {bm sb : Nat} {v : Value} {L : List SG} (m : Nat) (hP : PartC bm sb v L m) : WayC bm sb v L m := by
  intro i k rest w hm hi h hok hsp
  obtain ⟨i0, hif, hz0, hz1, hz2⟩ := info_parts infoSt
  have HP : Hid (PartC bm sb v L m ∧ (∀ x ∈ L, x.v.Ok) ∧ SP .way ((L.drop i).map SG.abs) k rest ∧ Mk bm sb v L i w ∧ L.length - i ≤ m ∧ i ≤ L.length) := ⟨hP, hok, hsp, h, hm, hi⟩
  clear hP hok hsp hm hi h
  go_enter Tryz.func74, Tryz.ntmps74
  go_wp2_with fail
  go_loopw [3] (fun u wr => ∃ (A : List SV) (j : Nat) (k' : List Nd), WI bm sb v L m (codeS k) rest w u A j k' wr) (fun _ wr => L.length - mkAt bm wr)
  case atStart => exact ⟨[], i, k, ⟨rfl, .inl ⟨rfl, rfl⟩⟩, HP.out.2.2.2.1, HP.out.2.2.2.2.2, HP.out.2.2.2.2.1, HP.out.2.2.1, .refl _ _, by simp, by simp⟩
  case round =>
    obtain ⟨A, j, k', hI⟩ := hrel
    have hAl := wi_len hI HP.out.2.2.1
    have hfew := hI.mk'.few
    have hjl := hI.le
    have c1 : wr.cell? ⟨bm, 1, none⟩ = some (.int .i64 (j : Int)) := by simp only [World.cell?, hI.mk'.blk]; rfl
    have HI : Hid (WI bm sb v L m (codeS k) rest w u3 A j k' wr) := hI
    obtain ⟨a3, c3, hv3⟩ := row_slice hI.row
    obtain ⟨n, hn⟩ : ∃ n, n = L.length := ⟨_, rfl⟩
    have hcs := sp_way_cases hI.sp rfl
    by_cases hlt : j < L.length
    · obtain ⟨g, cap, hv, hs⟩ := hI.mk'.sign j hlt
      have s0 : wr.cell? ⟨g, j * 8, none⟩ = some (.int .u8 (L[j].m.toNat : Int)) := by
        have := hs 0 (by omega); rw [Nat.add_zero, Nat.mul_comm] at this; exact this
      have c0 : wr.cell? ⟨bm, 0, none⟩ = some (.slice (some ⟨g, 0, none⟩) n cap) := by rw [hn, ← hv]; simp only [World.cell?, hI.mk'.blk]; rfl
      have hl2 : (j : Int) < (n : Int) := by omega
      rcases hcs with ⟨hst, rfl, hr⟩ | ⟨hst, n1, k2, r1, hk', hth, hsp2⟩
      · have HR : Hid (rest = (L.drop j).map SG.abs) := hr
        have hor := stops_cases hst hlt
        obtain ⟨x, hx⟩ : ∃ x, x = L[j].m := ⟨_, rfl⟩
        rw [← hx] at s0 hor
        subst hv3
        rw [← hn] at hfew hjl hlt
        clear hI hs hst hr hx hn hv
        rcases hor with rfl | rfl
        all_goals
          go_wp2_with fail
          go_quiet (fail)
          go_wp2_with fail
          go_quiet (fail)
          go_wp2_with fail
          go_ret
          exact way_done HI.out HR.out _
      · obtain ⟨_, hx1, hx2⟩ := goes_cases hst
        obtain ⟨x, hx⟩ : ∃ x, x = L[j].m := ⟨_, rfl⟩
        rw [← hx] at s0 hx1 hx2
        have hy1 : ¬ (x.toNat : Int) = 124 := fun e => hx1 (by rw [u8_eq_iff]; simpa using (by omega : x.toNat = 124))
        have hy2 : ¬ (x.toNat : Int) = 41 := fun e => hx2 (by rw [u8_eq_iff]; simpa using (by omega : x.toNat = 41))
        have hy3 : ((x.toNat : Int) == 124) = false := by simp [hy1]
        have hy4 : ((x.toNat : Int) == 41) = false := by simp [hy2]
        obtain ⟨n3, hn3⟩ : ∃ n3, n3 = A.length := ⟨_, rfl⟩
        have HN3 : Hid (n3 = A.length) := hn3
        rw [← hn3] at hAl
        have HT : Hid (∀ q, Calls Tryz.prog 82 #[.pointer (some ⟨bm, 0, none⟩)] (wr.drewN q) (MkPost bm sb v L (postS n1 r1).2 (code (postS n1 r1).1) (wr.drewN q)) ) := fun q => HP.out.1 j n1 r1 (wr.drewN q) hI.lm hI.le (hI.mk'.drewN q) HP.out.2.1 hth
        have HK : Hid (k' = (postS n1 r1).1 :: k2 ∧ SP .thing ((L.drop j).map SG.abs) [n1] r1 ∧ SP .way (postS n1 r1).2 k2 rest) := ⟨hk', hth, hsp2⟩
        subst hv3
        rw [← hn] at hfew hjl hlt
        have HN : Hid (n = L.length) := hn
        rw [← hn3]
        clear hn3
        clear hI hs hst hx hv hx1 hx2 hk' hth hsp2 hn
        go_wp2_with fail
        go_quiet (fail)
        go_wp2_with fail
        go_quiet (fail)
        go_wp2_with fail
        refine (HT.out _).mono ?_
        rintro e w1 ⟨v', A', j', rfl, hR', hM', hj', hr', hw', hC', hok'⟩
        have hwr1 : Wrote bm wr w1 := ((Wrote.refl _ _).drewN _).trans hw'
        have hlen := wi_len2 HI.out HP.out.2.2.1 HK.out.1 hC'
        have hrowA : w1.ownsRow 0 96 7 (.slice a3 n3 c3) n3 (A.flatMap stepC) := by
          rw [HN3.out]; exact row_base (wrote_row hwr1 HI.out.row (row_ne HI.out.row HI.out.mk'.blk (by decide))) (Nat.zero_le _)
        obtain ⟨m', hm'⟩ : ∃ m', m' = A'.length := ⟨_, rfl⟩
        have hrow' : w1.ownsRow wr.heap.size 96 7 v' m' (A'.flatMap stepC) := by rw [hm']; exact hR'
        obtain ⟨a', c', hv'⟩ := row_slice hrow'
        have hbs : wr.heap.size ≤ w1.heap.size := hwr1.size
        have HZ : Hid (Mk bm sb v L j' w1 ∧ j' ≤ L.length ∧ (L.drop j').map SG.abs = (postS n1 r1).2 ∧ Wrote bm wr w1 ∧ A'.map SV.abs = code (postS n1 r1).1 ∧ (∀ x ∈ A', x.Ok) ∧ m' = A'.length ∧ WI bm sb v L m (codeS k) rest w (.slice a3 A.length c3) A j ((postS n1 r1).1 :: k2) wr) := ⟨hM', hj', hr', hwr1, hC', hok', hm', by rw [← HK.out.1]; exact HI.out⟩
        rw [← hm', ← HN3.out] at hlen
        subst hv'
        clear hR' hM' hj' hr' hwr1 hC' hok' hm' hw' HT
        rcases hrowA.2 with ⟨hv, hl0⟩ | ⟨g3, cap', cur, hv, hg0, hgg, hcl, hcm, hcs, hct⟩
        · simp only [Value.slice.injEq] at hv
          obtain ⟨rfl, rfl, rfl⟩ := hv
          clear hrowA hl0
          go_wp2_with (first | (at_builtin; refine wpList_append_own_none rfl _ _ 61 rfl wr.heap.size 96 i0 7 Tryz.underlying61 hif _ _ _ rfl hrow' rfl ?_) | fail)
          go_roundw
          case rel =>
            have hA0 : A = [] := List.length_eq_zero_iff.1 HN3.out.symm
            have hR9 : Row wr.heap.size (.slice a' m' c') (A' ++ A) w1 := by
              unfold Row; rw [hA0, List.append_nil, ← HZ.out.2.2.2.2.2.2.1]; exact hrow'
            exact ⟨A' ++ A, j', k2, wi_next HZ.out.2.2.2.2.2.2.2 HK.out.2.1 HK.out.2.2 HZ.out.2.2.2.1 HZ.out.1 HZ.out.2.1 HZ.out.2.2.1 HZ.out.2.2.2.2.1 HZ.out.2.2.2.2.2.1 hR9 (.refl _ _)⟩
          case measure => exact wi_less HI.out HK.out.2.1 HZ.out.1 HZ.out.2.2.1 HN.out
        · simp only [Value.slice.injEq] at hv
          obtain ⟨rfl, -, rfl⟩ := hv
          clear hgg hcl hcm hcs hct hg0
          go_wp2_with (first | (at_builtin; refine wpList_append_own_at _ rfl _ _ 61 rfl wr.heap.size 96 i0 (.agg #[.int .i64 0, .int .u64 0, .int .u64 0, .int .u64 0, .int .u64 0, .int .i64 0, .int .i64 0]) 7 56 Tryz.underlying61 hif hz0 hz1 hz2 rfl (by decide) _ _ _ rfl hrow' ⟨g3, 0, none⟩ n3 c3 (A.flatMap stepC) rfl (by rw [flat_len2 stepC 7 (fun _ => rfl), ← HN3.out, Nat.mul_comm]) (fun j u hj => hrowA.cells rfl j u hj) (stepC_one _) (by unfold maxLen; omega) (by omega) hbs ?_) | fail)
          intro v9 w9 hown' hgrow _ hloc
          obtain ⟨a9, c9, hv9⟩ := row_slice hown'
          have hb9 : Below wr.heap.size w1 w9 := ⟨hgrow.os, hgrow.tape, hgrow.output, hgrow.size, fun q hq => hgrow.block q (by omega) (fun e => by have := (hrow'.lt q e.symm).1; omega)⟩
          have H9 : Hid (Row wr.heap.size v9 (A' ++ A) w9 ∧ Below wr.heap.size w1 w9) := by
            refine ⟨?_, hb9⟩
            unfold Row
            rw [List.flatMap_append, List.length_append, ← HZ.out.2.2.2.2.2.2.1, ← HN3.out]
            exact hown'
          subst hv9
          clear hown' hgrow hloc hrow' hrowA hb9
          go_wp2_with fail
          go_roundw
          case rel =>
            exact ⟨A' ++ A, j', k2, wi_next HZ.out.2.2.2.2.2.2.2 HK.out.2.1 HK.out.2.2 HZ.out.2.2.2.1 HZ.out.1 HZ.out.2.1 HZ.out.2.2.1 HZ.out.2.2.2.2.1 HZ.out.2.2.2.2.2.1 H9.out.1 H9.out.2⟩
          case measure => exact wi_less HI.out HK.out.2.1 (wi_next HZ.out.2.2.2.2.2.2.2 HK.out.2.1 HK.out.2.2 HZ.out.2.2.2.1 HZ.out.1 HZ.out.2.1 HZ.out.2.2.1 HZ.out.2.2.2.2.1 HZ.out.2.2.2.2.2.1 H9.out.1 H9.out.2).mk' HZ.out.2.2.1 HN.out
    · have hl2 : ¬ (j : Int) < (n : Int) := by omega
      have hnil : (L.drop j).map SG.abs = [] := by rw [List.drop_of_length_le (by omega)]; rfl
      have HR : Hid (k' = [] ∧ rest = (L.drop j).map SG.abs) := by
        rcases hcs with ⟨hst, h1, hr⟩ | ⟨hst, _⟩
        · exact ⟨h1, hr⟩
        · rw [hnil] at hst; cases hst
      obtain ⟨ga, cap, hv⟩ := row_slice hI.mk'.row
      have c0 : wr.cell? ⟨bm, 0, none⟩ = some (.slice ga n cap) := by rw [hn, ← hv]; simp only [World.cell?, hI.mk'.blk]; rfl
      subst hv3
      rw [← hn] at hfew hjl hlt
      clear hI hnil hcs hv hn
      go_wp2_with fail
      go_quiet (fail)
      go_wp2_with fail
      go_ret
      have h0 := HR.out.1
      have h1 := HI.out
      rw [h0] at h1
      exact way_done h1 HR.out.2 _
end Go.Proofs.YtmmhajlfbjjocaaGreat
