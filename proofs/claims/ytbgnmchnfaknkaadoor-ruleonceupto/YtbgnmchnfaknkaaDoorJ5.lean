/-
  Whether a rule may not stand behind those that have been joined.
-/
import Derived.Test.YtbgnmchnfaknkaaDoorJ4
namespace Go.Proofs.YtbgnmchnfaknkaaDoor
open Go.RowKit Go.Shelf Go.Maps

theorem bl_ba' (x : List UInt8) : bl (ba x) = x := by simp [bl, ba]
theorem map_get (l : List (List UInt8)) (k : Nat) (h : k < (l.map ba).length) : bl (l.map ba)[k] = l[k]'(by simpa using h) := by
  rw [List.getElem_map, bl_ba']
theorem any_next {α : Type} (p : α → Bool) (l : List α) (k : Nat) (h : k < l.length) : (l.drop k).any p = (p l[k] || (l.drop (k + 1)).any p) := by
  rw [List.drop_eq_getElem_cons h]; rfl

set_option maxRecDepth 20000 in
set_option maxHeartbeats 1000000 in
theorem clashes_any (base bj bm : Nat) (vr : Value) (es : List JE) (K : Nat) (r : Q.Ru) (v : Value) (B : Nat) (w : World) (hJ : JS base bj bm vr es K w) (hv : RuV B w v r) (hB : B ≤ w.heap.size) (hz : ∀ t ∈ r.targets, t.length ≤ 140737488355328) (hn : r.targets.length ≤ 100000000) :
    Calls Tryd.prog 28 #[.pointer (some ⟨bj, 0, none⟩), v] w fun x w' => x = .returned (.bool (Q.clashesR classF (es.map JE.r) r)) ∧ Below w.heap.size w w' := by
  obtain ⟨ta, tc, sa, sc, ca, cc, rfl, hw, _, _⟩ := hv.open
  have HK : Hid (∀ (t : ByteArray) (e : Q.Ru) (ve : Value) (B1 : Nat) (u : World), RuV B1 u ve e → ∀ W, Calls Tryd.prog 48 #[.string t, ve, .agg #[.slice ta r.targets.length tc, .int .i64 r.kind, .slice sa r.sources.length sc, .slice ca r.commands.length cc, .int .i64 r.at_]] W fun x w' => x = .returned (.bool (Q.clashR classF (bl t) e r)) ∧ Below W.heap.size W w') := fun t e ve B1 u he W => clash_any t e r ve _ W he hv
  obtain ⟨n, hn'⟩ : ∃ n, n = r.targets.length := ⟨_, rfl⟩
  obtain ⟨kr, hkr⟩ : ∃ k, k = r.kind := ⟨_, rfl⟩
  obtain ⟨sn, hsn⟩ : ∃ n, n = r.sources.length := ⟨_, rfl⟩
  obtain ⟨cn, hcn⟩ : ∃ n, n = r.commands.length := ⟨_, rfl⟩
  obtain ⟨ra, hra⟩ : ∃ n, n = r.at_ := ⟨_, rfl⟩
  obtain ⟨va, vcap, rfl⟩ := V.owns_slice hJ.row
  have HW : Hid (n = r.targets.length ∧ B ≤ w.heap.size ∧ Words B w (.slice ta n tc) (r.targets.map ba) ∧ ∀ t ∈ r.targets, t.length ≤ 140737488355328) := ⟨hn', hB, by rw [hn']; exact hw, hz⟩
  have hcap := HW.out.2.2.1.len.2
  obtain ⟨z, hzz⟩ : ∃ z, z = Q.clashesR classF (es.map JE.r) r := ⟨_, rfl⟩
  have HZ : Hid (z = (r.targets.drop 0).any (Q.clashG classF (es.map JE.r) r)) := hzz
  rw [← hn', ← hkr, ← hsn, ← hcn, ← hra] at HK
  rw [← hn', ← hkr, ← hsn, ← hcn, ← hra, ← hzz]
  rw [← hn'] at hn
  have HJ : Hid (JS base bj bm (.slice va es.length vcap) es K w) := hJ
  have HB0 : Hid (Below w.heap.size w (w.alloc (.cells #[.slice ta n tc, .int .i64 kr, .slice sa sn sc, .slice ca cn cc, .int .i64 ra] 24)) ∧ (w.alloc (.cells #[.slice ta n tc, .int .i64 kr, .slice sa sn sc, .slice ca cn cc, .int .i64 ra] 24)).heap[w.heap.size]? = some (.cells #[.slice ta n tc, .int .i64 kr, .slice sa sn sc, .slice ca cn cc, .int .i64 ra] 24 (0, 0))) := ⟨below_alloc1 _ _, alloc_b rfl⟩
  obtain ⟨en, hen⟩ : ∃ n, n = es.length := ⟨_, rfl⟩
  rw [← hen] at HJ
  have HEN : Hid (en = es.length) := hen
  clear hn' hkr hsn hcn hra hzz hv hw hJ hz hB hen
  go_enter Tryd.func28, Tryd.ntmps28
  go_wp2
  go_loopw [12] (fun vi wr => ∃ k : Nat, k ≤ n ∧ vi = .int .i64 k ∧ Hid (Below w.heap.size w wr ∧ wr.heap[w.heap.size]? = some (.cells #[.slice ta n tc, .int .i64 kr, .slice sa sn sc, .slice ca cn cc, .int .i64 ra] 24 (0, 0)) ∧ z = (r.targets.drop k).any (Q.clashG classF (es.map JE.r) r))) (fun vi _ => n - (intOf vi).toNat)
  case atStart => exact ⟨0, Nat.zero_le _, rfl, HB0.out.1, HB0.out.2, HZ.out⟩
  case round =>
    obtain ⟨k, hk, rfl, HR⟩ := hrel
    by_cases hlt : k < n
    · have hkl : k < r.targets.length := by rw [← HW.out.1]; exact hlt
      have hil : (k : Int) < (n : Int) := by omega
      obtain ⟨b, o, rfl, hbB, hcx⟩ := HW.out.2.2.1.pick k (by rw [List.length_map]; exact hkl)
      obtain ⟨x, hxe⟩ : ∃ x, x = (r.targets.map ba)[k]'(by rw [List.length_map]; exact hkl) := ⟨_, rfl⟩
      rw [← hxe] at hcx
      have hbx : bl x = r.targets[k] := by rw [hxe, map_get]
      have hxz : x.size ≤ 140737488355328 := by
        have := HW.out.2.2.2 _ (List.getElem_mem hkl)
        rw [← hbx, bl_length] at this; exact this
      have hcx' : wr.cell? ⟨b, o + k, none⟩ = some (.string x) := (HR.out.1.cell (p := ⟨b, o + k, none⟩) (Nat.lt_of_lt_of_le hbB HW.out.2.1)).trans hcx
      have HS := any_next (Q.clashG classF (es.map JE.r) r) r.targets k hkl
      rw [← HR.out.2.2, ← hbx] at HS
      have hJr := HJ.out.below HR.out.1
      have jc0 := cell_in hJr.blk 0 rfl
      have jc1 := cell_in hJr.blk 1 rfl
      have x0 := cell_in HR.out.2.1 0 rfl
      have x1 := cell_in HR.out.2.1 1 rfl
      have x2 := cell_in HR.out.2.1 2 rfl
      have x3 := cell_in HR.out.2.1 3 rfl
      have x4 := cell_in HR.out.2.1 4 rfl
      have hsee := hJr.map.see hxz wr rfl
      unfold Q.clashG at HS
      clear hcx hxe
      cases hf : Q.lastI (bl x) (es.map JE.r) with
      | none =>
        rw [hf] at HS
        have HE : Hid (z = (r.targets.drop (k + 1)).any (Q.clashG classF (es.map JE.r) r)) := by unfold Hid; rw [HS]; rfl
        have hsee' : (Instr.lookup 54 (.map (some bm)) (.string x) true).run Tryd.prog wr = .ok (.tuple #[.int .i64 0, .bool false]) wr := by
          rw [hsee]; simp [gotI, hf]
        clear HS hsee hf hJr hbx
        go_wp2_with fail
        go_quiet (fail)
        go_wp2_with fail
        go_roundw
        case rel => exact ⟨k + 1, by omega, by go_num, below_drewN HR.out.1 _, HR.out.2.1, HE.out⟩
        case measure => simp [intOf]; omega
      | some i =>
        rw [hf] at HS
        obtain ⟨e, hei, _⟩ := Q.lastI_some hf
        simp only [hei] at HS
        have hlist := hJr.list
        obtain ⟨b', o', ta', tn', tc', sa', sn', sc', ca', cn', cc', rfl, hb', q0, q1, q2, q3, q4, w0, w1, w2⟩ := hlist.pick hei
        have HC := HK.out x e _ wr.heap.size wr ⟨_, _, _, rfl, w0, w1, w2⟩
        have hvn := hlist.len
        rw [List.length_map] at hvn
        have hvc := hvn.2
        have hie : i < en := by
          rw [hvn.1]; have := (List.getElem?_eq_some_iff.1 hei).1; rwa [List.length_map] at this
        have hie' : (i : Int) < (en : Int) := by omega
        have hsee' : (Instr.lookup 54 (.map (some bm)) (.string x) true).run Tryd.prog wr = .ok (.tuple #[.int .i64 (i : Int), .bool true]) wr := by
          rw [hsee]; simp [gotI, hf]
        have HSb : Hid (∀ W, Below wr.heap.size wr W → W.cell? ⟨bj, 0, none⟩ = some (.slice (some ⟨b', o', none⟩) en vcap) ∧ W.cell? ⟨b', o' + i * 5, none⟩ = some (.slice ta' tn' tc') ∧ W.cell? ⟨b', o' + i * 5 + 1, none⟩ = some (.int .i64 e.kind) ∧ W.cell? ⟨b', o' + i * 5 + 2, none⟩ = some (.slice sa' sn' sc') ∧ W.cell? ⟨b', o' + i * 5 + 3, none⟩ = some (.slice ca' cn' cc') ∧ W.cell? ⟨b', o' + i * 5 + 4, none⟩ = some (.int .i64 e.at_) ∧ W.cell? ⟨w.heap.size, 0, none⟩ = some (.slice (some ⟨b, o, none⟩) n tc) ∧ W.cell? ⟨w.heap.size, 1, none⟩ = some (.int .i64 kr) ∧ W.cell? ⟨w.heap.size, 2, none⟩ = some (.slice sa sn sc) ∧ W.cell? ⟨w.heap.size, 3, none⟩ = some (.slice ca cn cc) ∧ W.cell? ⟨w.heap.size, 4, none⟩ = some (.int .i64 ra)) := fun W hW => by
          have hb0 : w.heap.size < wr.heap.size := (Array.getElem?_eq_some_iff.1 HR.out.2.1).1
          have hbj : bj < wr.heap.size := (Array.getElem?_eq_some_iff.1 hJr.blk).1
          exact ⟨(hW.cell hbj).trans jc0, (hW.cell hb').trans q0, (hW.cell hb').trans q1, (hW.cell hb').trans q2, (hW.cell hb').trans q3, (hW.cell hb').trans q4, (hW.cell hb0).trans x0, (hW.cell hb0).trans x1, (hW.cell hb0).trans x2, (hW.cell hb0).trans x3, (hW.cell hb0).trans x4⟩
        obtain ⟨kd, hkd⟩ : ∃ k, k = e.kind := ⟨_, rfl⟩
        obtain ⟨ea, hea⟩ : ∃ k, k = e.at_ := ⟨_, rfl⟩
        rw [← hkd, ← hea] at HC HSb
        rw [← hkd] at q1
        rw [← hea] at q4
        obtain ⟨c, hc⟩ : ∃ c, c = Q.clashR classF (bl x) e r := ⟨_, rfl⟩
        rw [← hc] at HS HC
        have HC' : Hid _ := HC
        clear hsee hf hJr hbx hlist w0 w1 w2 hvn hei hc hkd hea HC
        cases c with
        | true =>
          have HE : Hid (z = true) := by unfold Hid; rw [HS]; rfl
          clear HS
          go_wp2_with fail
          go_region_held3 (fun W => W.cell? ⟨bj, 0, none⟩ = some (.slice (some ⟨b', o', none⟩) en vcap) ∧ W.cell? ⟨b', o' + i * 5, none⟩ = some (.slice ta' tn' tc') ∧ W.cell? ⟨b', o' + i * 5 + 1, none⟩ = some (.int .i64 kd) ∧ W.cell? ⟨b', o' + i * 5 + 2, none⟩ = some (.slice sa' sn' sc') ∧ W.cell? ⟨b', o' + i * 5 + 3, none⟩ = some (.slice ca' cn' cc') ∧ W.cell? ⟨b', o' + i * 5 + 4, none⟩ = some (.int .i64 ea) ∧ W.cell? ⟨w.heap.size, 0, none⟩ = some (.slice (some ⟨b, o, none⟩) n tc) ∧ W.cell? ⟨w.heap.size, 1, none⟩ = some (.int .i64 kr) ∧ W.cell? ⟨w.heap.size, 2, none⟩ = some (.slice sa sn sc) ∧ W.cell? ⟨w.heap.size, 3, none⟩ = some (.slice ca cn cc) ∧ W.cell? ⟨w.heap.size, 4, none⟩ = some (.int .i64 ra)) (first | exact HSb.out _ (Below.refl _ _) | exact HSb.out _ (below_drewN (Below.refl _ _) 1) | exact HSb.out _ (below_trans (below_drewN (Below.refl _ _) 1) hb1 (Nat.le_refl _))) (first | (go_at_call 48; refine (HC'.out _).mono ?_; rintro e w1 ⟨rfl, hb1⟩))
          have H1 : Hid (Below w.heap.size w w1) := below_trans (below_drewN HR.out.1 1) hb1 HR.out.1.size
          clear hb1
          go_wp2_with fail
          go_ret
          exact ⟨ret_bool HE.out.symm, H1.out⟩
        | false =>
          have HE : Hid (z = (r.targets.drop (k + 1)).any (Q.clashG classF (es.map JE.r) r)) := by unfold Hid; rw [HS]; rfl
          clear HS
          go_wp2_with fail
          go_region_held3 (fun W => W.cell? ⟨bj, 0, none⟩ = some (.slice (some ⟨b', o', none⟩) en vcap) ∧ W.cell? ⟨b', o' + i * 5, none⟩ = some (.slice ta' tn' tc') ∧ W.cell? ⟨b', o' + i * 5 + 1, none⟩ = some (.int .i64 kd) ∧ W.cell? ⟨b', o' + i * 5 + 2, none⟩ = some (.slice sa' sn' sc') ∧ W.cell? ⟨b', o' + i * 5 + 3, none⟩ = some (.slice ca' cn' cc') ∧ W.cell? ⟨b', o' + i * 5 + 4, none⟩ = some (.int .i64 ea) ∧ W.cell? ⟨w.heap.size, 0, none⟩ = some (.slice (some ⟨b, o, none⟩) n tc) ∧ W.cell? ⟨w.heap.size, 1, none⟩ = some (.int .i64 kr) ∧ W.cell? ⟨w.heap.size, 2, none⟩ = some (.slice sa sn sc) ∧ W.cell? ⟨w.heap.size, 3, none⟩ = some (.slice ca cn cc) ∧ W.cell? ⟨w.heap.size, 4, none⟩ = some (.int .i64 ra)) (first | exact HSb.out _ (Below.refl _ _) | exact HSb.out _ (below_drewN (Below.refl _ _) 1) | exact HSb.out _ (below_trans (below_drewN (Below.refl _ _) 1) hb1 (Nat.le_refl _))) (first | (go_at_call 48; refine (HC'.out _).mono ?_; rintro e w1 ⟨rfl, hb1⟩))
          have H1 : Hid (Below w.heap.size w w1 ∧ w1.heap[w.heap.size]? = some (.cells #[.slice (some ⟨b, o, none⟩) n tc, .int .i64 kr, .slice sa sn sc, .slice ca cn cc, .int .i64 ra] 24 (0, 0))) := ⟨below_trans (below_drewN HR.out.1 1) hb1 HR.out.1.size, (hb1.block _ (Array.getElem?_eq_some_iff.1 HR.out.2.1).1).trans HR.out.2.1⟩
          clear hb1
          go_wp2_with fail
          go_roundw
          case rel => exact ⟨k + 1, by omega, by go_num, H1.out.1, H1.out.2, HE.out⟩
          case measure => simp [intOf]; omega
    · have hnl : ¬ (k : Int) < (n : Int) := by omega
      have HE : Hid (z = false) := by
        unfold Hid; rw [HR.out.2.2, List.drop_of_length_le (by rw [← HW.out.1]; omega)]; rfl
      go_wp2_with fail
      go_ret
      exact ⟨ret_bool HE.out.symm, HR.out.1⟩
end Go.Proofs.YtbgnmchnfaknkaaDoor
