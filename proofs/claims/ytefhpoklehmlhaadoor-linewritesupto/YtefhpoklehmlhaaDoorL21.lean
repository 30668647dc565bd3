/-
  What the document's Write answers.
-/
import Derived.Test.YtefhpoklehmlhaaDoorL9
import Derived.Lib.BufferRead
import Derived.Maps.AppendAt
namespace Go.Proofs.YtefhpoklehmlhaaDoor
open Go.RowKit Go.Shelf

theorem info5 : (Tryd.prog.info? 5).map (fun i => (i.zero, i.size, i.bytes)) = some (some (.int .u8 0), 1, 1) := by kernel_rfl
theorem run_conv {w : World} {base : Nat} {v : Value} {l : List UInt8} (h : w.ownsRow base 5 1 v l.length (Lib.byteCells l)) : (convert 54 9 v).run Tryd.prog w = .ok (.string (ba l)) w := by
  obtain ⟨hxl, ⟨hv, hn0⟩ | ⟨g, cap, cur, hv, hg, hcur, hcap, hcm, hcs, hct⟩⟩ := h
  · have hqn : l = [] := List.length_eq_zero_iff.mp hn0
    rw [hv, hqn]
    exact Lib.run_convert_nil_bytes w 54 9 5 0 Tryd.underlying54 Tryd.underlying5 Tryd.underlying9
  · rw [hv]
    refine run_convert_bytes_back w 54 9 5 ⟨g, 0, none⟩ cap l Tryd.underlying54 Tryd.underlying5 Tryd.underlying9 ?_
    intro j hj
    have hjc : cur.toList[j]? = some (.int .u8 (l[j].toNat : Int)) := by
      have h2 : (cur.toList.take (l.length * 1))[j]? = (Lib.byteCells l)[j]? := by rw [hct]
      rw [List.getElem?_take_of_lt (by omega)] at h2
      rw [h2]; simp [Lib.byteCells, List.getElem?_map, List.getElem?_eq_getElem hj]
    rw [add_none, Nat.zero_add]
    simp only [World.cell?, hcur]
    simpa using hjc
/-- A row of bytes that is one's own, and what else stays. -/
structure Rw (w : World) (p : List UInt8) (v : Value) (W : World) : Prop where
  bel : Below w.heap.size w W
  own : W.ownsRow w.heap.size 5 1 v p.length (Lib.byteCells p)
theorem Rw.push {w : World} {p : List UInt8} {v : Value} {W : World} (h : Rw w p v W) (c : UInt8) {v' : Value} {w2 : World} {o : Obj} (hown' : w2.ownsRow w.heap.size 5 1 v' (p.length + 1) (Lib.byteCells p ++ [.int .u8 (c.toNat : Int)])) (hgrow : (W.alloc o).grownBy w2 v.ownBlock) : Rw w (p ++ [c]) v' w2 := by
  refine ⟨(h.bel.alloc h.bel.size _).grown hgrow (by have := h.bel.size; simp; omega) (fun k hk => (h.own.lt k hk).1), ?_⟩
  rw [byteCells_snoc', List.length_append]; exact hown'

set_option maxRecDepth 20000 in
set_option maxHeartbeats 2000000 in
theorem rwrite_any (v : Value) (l : List Lz) (w : World) (hl : l.length ≤ 4000000) (hz : (writeZ l).length ≤ 500000000) (hW : LZ w.heap.size w v l) :
    Calls Tryd.prog 20 #[v] w fun e w' => e = .returned (.string (ba (writeZ l))) ∧ Below w.heap.size w w' := by
  obtain ⟨i0, hi, hz0, hz1, hz2⟩ := info_parts info5
  obtain ⟨a, c, rfl, hc⟩ := hW.slice
  obtain ⟨n, hn⟩ : ∃ n, n = l.length := ⟨_, rfl⟩
  rw [← hn] at hl hc hW
  have HW : Hid (n = l.length ∧ LZ w.heap.size w (.slice a n c) l ∧ (writeZ l).length ≤ 500000000) := ⟨hn, hW, hz⟩
  rw [← hn]
  clear hn hW hz
  go_enter Tryd.func20, Tryd.ntmps20
  go_wp2
  go_loopw [3, 4] (fun v vi wr => ∃ k : Nat, k ≤ n ∧ vi = .int .i64 (k : Int) ∧ ∃ p : List UInt8, p.length ≤ 500000000 ∧ Hid (Rw w p v wr ∧ p = writeZ (l.take k))) (fun _ vi _ => n - (intOf vi).toNat)
  case atStart => exact ⟨0, Nat.zero_le _, rfl, [], by simp, ⟨Below.refl _ _, owns_nil _ _ _ _⟩, by simp [writeZ]⟩
  case round =>
    obtain ⟨k, hk, rfl, p, hp, HI⟩ := hrel
    by_cases hlt : k < n
    · have hil : (k : Int) < (n : Int) := by omega
      have hkl : k < l.length := by rw [← HW.out.1]; exact hlt
      obtain ⟨x, hx⟩ : ∃ x, l[k]? = some x := ⟨l[k], List.getElem?_eq_getElem hkl⟩
      obtain ⟨b, o, rfl, hbB, d0, d1, d2⟩ := HW.out.2.1.pick hx
      have HT : Hid (writeZ (l.take (k + 1)) = writeZ (l.take k) ++ (rawZ x ++ [10]) ∧ (writeZ (l.take (k + 1))).length ≤ 500000000) := by
        refine ⟨?_, Nat.le_trans (writeZ_take l (k + 1)) HW.out.2.2⟩
        rw [List.take_succ_eq_append_getElem hkl, writeZ_snoc]
        rw [List.getElem?_eq_getElem hkl] at hx
        rw [Option.some.inj hx]
      obtain ⟨xt, xa, xc⟩ := x
      simp only at d0 d2
      have HC : Hid (∀ W, Below w.heap.size w W → W.cell? ⟨b, o + k * 3, none⟩ = some (.string xt) ∧ W.cell? ⟨b, o + k * 3 + 2, none⟩ = some (.bool xc)) := fun W hB => ⟨by rw [hB.cell (p := ⟨b, _, none⟩) hbB]; exact d0, by rw [hB.cell (p := ⟨b, _, none⟩) hbB]; exact d2⟩
      clear d0 d1 d2 hx hbB hkl
      obtain ⟨c0, c2⟩ := HC.out wr HI.out.1.bel
      cases xc with
      | true =>
        have HRZ : Hid (rawZ ⟨xt, xa, true⟩ = 9 :: bl xt) := by unfold Hid rawZ; rw [if_pos rfl]
        have hbd : p.length + xt.size + 2 ≤ 500000000 := by
          have h5 := congrArg List.length HT.out.1
          rw [HRZ.out, ← HI.out.2] at h5
          have h6 := HT.out.2
          simp only [List.length_append, List.length_cons, bl_length, List.length_nil] at h5
          omega
        go_wp2_with (at_builtin; refine wpList_append_own _ rfl _ _ 54 rfl w.heap.size 5 i0 (.int .u8 0) 1 1 Tryd.underlying54 hi hz0 hz1 hz2 rfl (by decide) _ _ _ rfl (HI.out.1.own.alloc _) ⟨wr.heap.size, 0, none⟩ 1 1 [.int .u8 9] rfl rfl (by intro j u hj; match j, hj with | 0, hj => simp at hj; subst hj; simp [Addr.add]) (by intro u hu; simp at hu; subst hu; rfl) (by unfold maxLen; omega) (by omega) (by have := HI.out.1.bel.size; simp; omega) ?_)
        intro v1 w1 hown' hgrow _
        have H1 : Hid (Rw w (p ++ [9]) v1 w1) := Rw.push HI.out.1 9 hown' hgrow
        clear hown' hgrow
        go_wp2_with fail
        go_loopw [3, 5] (fun v vi wr => ∃ j : Nat, j ≤ xt.size ∧ vi = .int .i64 (j : Int) ∧ ∃ p' : List UInt8, p'.length ≤ 500000000 - 1 ∧ Hid (Rw w p' v wr ∧ p' = p ++ [9] ++ (bl xt).take j)) (fun _ vi _ => xt.size - (intOf vi).toNat)
        case atStart => exact ⟨0, Nat.zero_le _, rfl, p ++ [9], by simp; omega, H1, by simp⟩
        case round =>
          clear H1
          obtain ⟨j, hj, rfl, p', hp', HJ⟩ := hrel
          obtain ⟨f0, f2⟩ := HC.out wr HJ.out.1.bel
          by_cases hjl : j < xt.size
          · have hji : (j : Int) < (xt.size : Int) := by omega
            have hts := take_snoc xt j hjl
            obtain ⟨d, hd⟩ : ∃ d, d = xt[j] := ⟨_, rfl⟩
            obtain ⟨dn, hdn⟩ : ∃ dn : Int, dn = (d.toNat : Int) := ⟨_, rfl⟩
            have hgj : (xt[j].toNat : Int) = dn := by rw [hdn, hd]
            have HD : Hid (dn = (d.toNat : Int) ∧ (bl xt).take (j + 1) = (bl xt).take j ++ [d]) := ⟨hdn, by rw [hts, hd]⟩
            have hpl : (p' ++ [d]).length ≤ 500000000 - 1 := by
              rw [HJ.out.2]
              simp only [List.length_append, List.length_take, bl_length, List.length_cons, List.length_nil]
              omega
            clear hd hdn hts
            by_cases h35 : dn = 35
            · subst h35
              go_wp2_with (at_builtin; refine wpList_append_own _ rfl _ _ 54 rfl w.heap.size 5 i0 (.int .u8 0) 1 1 Tryd.underlying54 hi hz0 hz1 hz2 rfl (by decide) _ _ _ rfl (HJ.out.1.own.alloc _) ⟨wr.heap.size, 0, none⟩ 1 1 [.int .u8 35] rfl rfl (by intro j u hj; match j, hj with | 0, hj => simp at hj; subst hj; simp [Addr.add]) (by intro u hu; simp at hu; subst hu; rfl) (by unfold maxLen; omega) (by omega) (by have := HJ.out.1.bel.size; simp; omega) ?_)
              intro v2 w2 hown' hgrow _
              have H2 : Hid (Rw w (p' ++ [d]) v2 w2) := Rw.push HJ.out.1 d (by rw [← HD.out.1]; exact hown') hgrow
              clear hown' hgrow
              have H3 : Hid (Rw w (p' ++ [d]) v2 w2 ∧ p' ++ [d] = p ++ [9] ++ (bl xt).take (j + 1)) := ⟨H2.out, by rw [HD.out.2, HJ.out.2]; simp⟩
              clear H2
              go_wp2_with fail
              go_roundw
              case rel => exact ⟨j + 1, by omega, by go_num, _, hpl, H3⟩
              case measure => simp [intOf]; omega
            · have h35b : (dn == 35) = false := by simpa using h35
              go_wp2_with (at_builtin; refine wpList_append_own _ rfl _ _ 54 rfl w.heap.size 5 i0 (.int .u8 0) 1 1 Tryd.underlying54 hi hz0 hz1 hz2 rfl (by decide) _ _ _ rfl (HJ.out.1.own.alloc _) ⟨wr.heap.size, 0, none⟩ 1 1 [.int .u8 dn] rfl rfl (by intro j u hj; match j, hj with | 0, hj => simp at hj; subst hj; simp [Addr.add]) (by intro u hu; simp at hu; subst hu; rfl) (by unfold maxLen; omega) (by omega) (by have := HJ.out.1.bel.size; simp; omega) ?_)
              intro v2 w2 hown' hgrow _
              have H2 : Hid (Rw w (p' ++ [d]) v2 w2) := Rw.push HJ.out.1 d (by rw [← HD.out.1]; exact hown') hgrow
              clear hown' hgrow
              have H3 : Hid (Rw w (p' ++ [d]) v2 w2 ∧ p' ++ [d] = p ++ [9] ++ (bl xt).take (j + 1)) := ⟨H2.out, by rw [HD.out.2, HJ.out.2]; simp⟩
              clear H2
              go_wp2_with fail
              go_roundw
              case rel => exact ⟨j + 1, by omega, by go_num, _, hpl, H3⟩
              case measure => simp [intOf]; omega
          · have hje : ¬ (j : Int) < (xt.size : Int) := by omega
            have HP : Hid (p' ++ [10] = writeZ (l.take (k + 1))) := by
              unfold Hid
              rw [HJ.out.2, HT.out.1, HRZ.out, ← HI.out.2, List.take_of_length_le (by rw [bl_length]; omega)]; simp
            have hpl : (p' ++ [10]).length ≤ 500000000 := by simp; omega
            go_wp2_with (at_builtin; refine wpList_append_own _ rfl _ _ 54 rfl w.heap.size 5 i0 (.int .u8 0) 1 1 Tryd.underlying54 hi hz0 hz1 hz2 rfl (by decide) _ _ _ rfl (HJ.out.1.own.alloc _) ⟨wr.heap.size, 0, none⟩ 1 1 [.int .u8 10] rfl rfl (by intro j u hj; match j, hj with | 0, hj => simp at hj; subst hj; simp [Addr.add]) (by intro u hu; simp at hu; subst hu; rfl) (by unfold maxLen; omega) (by omega) (by have := HJ.out.1.bel.size; simp; omega) ?_)
            intro v2 w2 hown' hgrow _
            have H2 : Hid (Rw w (p' ++ [10]) v2 w2) := Rw.push HJ.out.1 10 hown' hgrow
            clear hown' hgrow
            have H3 : Hid (Rw w (p' ++ [10]) v2 w2 ∧ p' ++ [10] = writeZ (l.take (k + 1))) := ⟨H2.out, HP.out⟩
            clear H2
            go_wp2_with fail
            go_roundw
            case rel => exact ⟨k + 1, by omega, by go_num, _, hpl, H3⟩
            case measure => simp [intOf]; omega
      | false =>
        have HRZ : Hid (rawZ ⟨xt, xa, false⟩ = Ln.hash (bl xt)) := by unfold Hid rawZ; rw [if_neg (by simp)]
        have hbd : p.length + (Ln.hash (bl xt)).length + 1 ≤ 500000000 := by
          have h5 := congrArg List.length HT.out.1
          rw [HRZ.out, ← HI.out.2] at h5
          have h6 := HT.out.2
          simp only [List.length_append, List.length_cons, List.length_nil] at h5
          omega
        have HBD : Hid (∀ j, (Ln.hash ((bl xt).take j)).length ≤ (Ln.hash (bl xt)).length) := fun j => by
          have := congrArg List.length (Ln.hash_app ((bl xt).take j) ((bl xt).drop j))
          rw [List.take_append_drop, List.length_append] at this
          omega
        have hxs : xt.size ≤ 500000000 := by
          have := hash_ge (bl xt)
          rw [bl_length] at this; omega
        have HI0 : Hid (Rw w p u3 wr) := HI.out.1
        obtain ⟨hl0, hhl⟩ : ∃ hl0, hl0 = (Ln.hash (bl xt)).length := ⟨_, rfl⟩
        rw [← hhl] at hbd HBD
        clear hhl
        go_wp2_with fail
        go_loopw [3, 5] (fun v vi wr => ∃ j : Nat, j ≤ xt.size ∧ vi = .int .i64 (j : Int) ∧ ∃ p' : List UInt8, p'.length ≤ 500000000 - 1 ∧ Hid (Rw w p' v wr ∧ p' = p ++ Ln.hash ((bl xt).take j))) (fun _ vi _ => xt.size - (intOf vi).toNat)
        case atStart => exact ⟨0, Nat.zero_le _, rfl, p, by omega, HI0, by simp [Ln.hash]⟩
        case round =>
          clear HI0
          obtain ⟨j, hj, rfl, p', hp', HJ⟩ := hrel
          obtain ⟨f0, f2⟩ := HC.out wr HJ.out.1.bel
          by_cases hjl : j < xt.size
          · have hji : (j : Int) < (xt.size : Int) := by omega
            have hts := take_snoc xt j hjl
            obtain ⟨d, hd⟩ : ∃ d, d = xt[j] := ⟨_, rfl⟩
            obtain ⟨dn, hdn⟩ : ∃ dn : Int, dn = (d.toNat : Int) := ⟨_, rfl⟩
            have hgj : (xt[j].toNat : Int) = dn := by rw [hdn, hd]
            have HD : Hid (dn = (d.toNat : Int) ∧ (bl xt).take (j + 1) = (bl xt).take j ++ [d]) := ⟨hdn, by rw [hts, hd]⟩
            have hbj := HBD.out (j + 1)
            clear hd hdn hts
            by_cases h35 : dn = 35
            · have HD35 : Hid (d = 35) := by
                have h := HD.out.1
                unfold Hid; rw [u8_eq_iff]; show d.toNat = 35; omega
              have HH : Hid (p' ++ [92] ++ [35] = p ++ Ln.hash ((bl xt).take (j + 1))) := by
                unfold Hid
                rw [HD.out.2, Ln.hash_app, HJ.out.2, HD35.out, show Ln.hash [35] = [92, 35] from rfl]; simp
              have hpl : (p' ++ [92] ++ [35]).length ≤ 500000000 - 1 := by rw [HH.out, List.length_append]; omega
              have hpl1 : (p' ++ [92]).length ≤ 500000000 - 1 := by rw [List.length_append] at hpl; omega
              subst h35
              go_wp2_with (at_builtin; refine wpList_append_own _ rfl _ _ 54 rfl w.heap.size 5 i0 (.int .u8 0) 1 1 Tryd.underlying54 hi hz0 hz1 hz2 rfl (by decide) _ _ _ rfl (HJ.out.1.own.alloc _) ⟨wr.heap.size, 0, none⟩ 1 1 [.int .u8 92] rfl rfl (by intro j u hj; match j, hj with | 0, hj => simp at hj; subst hj; simp [Addr.add]) (by intro u hu; simp at hu; subst hu; rfl) (by unfold maxLen; omega) (by omega) (by have := HJ.out.1.bel.size; simp; omega) ?_)
              intro v2 w2 hown' hgrow _
              have H2 : Hid (Rw w (p' ++ [92]) v2 w2) := Rw.push HJ.out.1 92 hown' hgrow
              clear hown' hgrow
              obtain ⟨e0, e2⟩ := HC.out w2 H2.out.bel
              clear f0 f2
              go_wp2_with (at_builtin; refine wpList_append_own _ rfl _ _ 54 rfl w.heap.size 5 i0 (.int .u8 0) 1 1 Tryd.underlying54 hi hz0 hz1 hz2 rfl (by decide) _ _ _ rfl (H2.out.own.alloc _) ⟨w2.heap.size, 0, none⟩ 1 1 [.int .u8 35] rfl rfl (by intro j u hj; match j, hj with | 0, hj => simp at hj; subst hj; simp [Addr.add]) (by intro u hu; simp at hu; subst hu; rfl) (by unfold maxLen; omega) (by omega) (by have := H2.out.bel.size; simp; omega) ?_)
              intro v3 w3 hown' hgrow _
              have H3 : Hid (Rw w (p' ++ [92] ++ [35]) v3 w3) := Rw.push H2.out 35 (by rw [List.length_append]; exact hown') hgrow
              clear hown' hgrow
              have H4 : Hid (Rw w (p' ++ [92] ++ [35]) v3 w3 ∧ p' ++ [92] ++ [35] = p ++ Ln.hash ((bl xt).take (j + 1))) := ⟨H3.out, HH.out⟩
              clear H2 H3
              go_wp2_with fail
              go_roundw
              case rel => exact ⟨j + 1, by omega, by go_num, _, hpl, H4⟩
              case measure => simp [intOf]; omega
            · have h35b : (dn == 35) = false := by simpa using h35
              have HH : Hid (p' ++ [d] = p ++ Ln.hash ((bl xt).take (j + 1))) := by
                have hd35 : d ≠ 35 := fun e => h35 (by rw [HD.out.1, e]; rfl)
                unfold Hid
                rw [HD.out.2, Ln.hash_app, HJ.out.2, Ln.hash_miss [] hd35]; simp [Ln.hash]
              have hpl : (p' ++ [d]).length ≤ 500000000 - 1 := by rw [HH.out, List.length_append]; omega
              go_wp2_with (at_builtin; refine wpList_append_own _ rfl _ _ 54 rfl w.heap.size 5 i0 (.int .u8 0) 1 1 Tryd.underlying54 hi hz0 hz1 hz2 rfl (by decide) _ _ _ rfl (HJ.out.1.own.alloc _) ⟨wr.heap.size, 0, none⟩ 1 1 [.int .u8 dn] rfl rfl (by intro j u hj; match j, hj with | 0, hj => simp at hj; subst hj; simp [Addr.add]) (by intro u hu; simp at hu; subst hu; rfl) (by unfold maxLen; omega) (by omega) (by have := HJ.out.1.bel.size; simp; omega) ?_)
              intro v2 w2 hown' hgrow _
              have H2 : Hid (Rw w (p' ++ [d]) v2 w2) := Rw.push HJ.out.1 d (by rw [← HD.out.1]; exact hown') hgrow
              clear hown' hgrow
              have H3 : Hid (Rw w (p' ++ [d]) v2 w2 ∧ p' ++ [d] = p ++ Ln.hash ((bl xt).take (j + 1))) := ⟨H2.out, HH.out⟩
              clear H2
              go_wp2_with fail
              go_roundw
              case rel => exact ⟨j + 1, by omega, by go_num, _, hpl, H3⟩
              case measure => simp [intOf]; omega
          · have hje : ¬ (j : Int) < (xt.size : Int) := by omega
            have HP : Hid (p' ++ [10] = writeZ (l.take (k + 1))) := by
              unfold Hid
              rw [HJ.out.2, HT.out.1, HRZ.out, ← HI.out.2, List.take_of_length_le (by rw [bl_length]; omega)]; simp
            have hpl : (p' ++ [10]).length ≤ 500000000 := by simp; omega
            go_wp2_with (at_builtin; refine wpList_append_own _ rfl _ _ 54 rfl w.heap.size 5 i0 (.int .u8 0) 1 1 Tryd.underlying54 hi hz0 hz1 hz2 rfl (by decide) _ _ _ rfl (HJ.out.1.own.alloc _) ⟨wr.heap.size, 0, none⟩ 1 1 [.int .u8 10] rfl rfl (by intro j u hj; match j, hj with | 0, hj => simp at hj; subst hj; simp [Addr.add]) (by intro u hu; simp at hu; subst hu; rfl) (by unfold maxLen; omega) (by omega) (by have := HJ.out.1.bel.size; simp; omega) ?_)
            intro v2 w2 hown' hgrow _
            have H2 : Hid (Rw w (p' ++ [10]) v2 w2) := Rw.push HJ.out.1 10 hown' hgrow
            clear hown' hgrow
            have H3 : Hid (Rw w (p' ++ [10]) v2 w2 ∧ p' ++ [10] = writeZ (l.take (k + 1))) := ⟨H2.out, HP.out⟩
            clear H2
            go_wp2_with fail
            go_roundw
            case rel => exact ⟨k + 1, by omega, by go_num, _, hpl, H3⟩
            case measure => simp [intOf]; omega
    · have hke : ¬ (k : Int) < (n : Int) := by omega
      have HE : Hid (p = writeZ l) := by unfold Hid; rw [HI.out.2, List.take_of_length_le (by have := HW.out.1; omega)]
      have hcv := run_conv HI.out.1.own
      obtain ⟨z, hz⟩ : ∃ z, z = ba p := ⟨_, rfl⟩
      rw [← hz] at hcv
      have HZ : Hid (z = ba p) := hz
      clear hz
      go_wp2_with fail
      go_ret
      exact ⟨ret_str (by rw [HZ.out, HE.out]), HI.out.1.bel⟩
end Go.Proofs.YtefhpoklehmlhaaDoor
