/-
  M17
-/
import Derived.Test.YtpcpcfnmcfjomaaGreatDoorK28
namespace Go.Proofs.YtpcpcfnmcfjomaaGreatDoor
open Go.RowKit Go.Shelf
set_option maxRecDepth 20000 in
set_option maxHeartbeats 3200000 in
theorem apply_matching (m : Md) (act : ActF) (hf : (m.kind, 45) ∈ fnL) (hd : Does m 45 act) (a : Option Addr) (n c : Nat) (l : List ByteArray) (w : World) (hw : Words w.heap.size w (.slice a n c) l) (hn : n ≤ 10000) (hl : ∀ y ∈ l, y.size ≤ 1000000) (hmx : Mx w) :
    Calls Tryz.prog 15 #[.agg m.cells, .slice a n c] w fun e w' => ApplyPost w (foldA act [] false l) e w' := by
  have hnl := hw.len
  have HW : Hid (∀ W, Below w.heap.size w W → Words w.heap.size W (.slice a n c) l) := fun W hB => hw.below hB
  have HL : Hid (n = l.length ∧ ∀ y ∈ l, y.size ≤ 1000000) := ⟨hnl, hl⟩
  have HM : Hid (∀ W, Below w.heap.size w W → Mx W) := fun W hB => hmx.below hB hmx.pos
  have HP0 : Hid (0 < w.heap.size) := hmx.pos
  have HD : Hid (Does m 45 act) := hd
  obtain ⟨R, hR⟩ : ∃ R, R = foldA act [] false l := ⟨_, rfl⟩
  rw [← hR]
  have HR : Hid (R = foldA act [] false l) := hR
  have HT : Hid (∀ W : World, W.cell? ⟨w.heap.size + 1, 0, none⟩ = some (.string m.kind) → Calls Tryz.prog 25 #[.pointer (some ⟨w.heap.size + 1, 0, none⟩)] W fun e w' => e = .returned (.func (Fn.func 45) #[.pointer (some ⟨w.heap.size + 1, 0, none⟩)] #[]) ∧ W = w') := fun W hW => toWord_fn _ _ _ hf W hW
  clear hnl hw hl hmx hd hR hf
  have hneq := fn_neq
  unfold Md.cells
  go_enter Tryz.func15, Tryz.ntmps15
  go_wp2_with fail
  refine (HT.out _ (by rw [World.cell?, heap_alloc_new']; rfl)).mono ?_
  rintro e w' ⟨rfl, rfl⟩
  have HA : Hid (Wk (w.heap.size + 2) (w.heap.size + 1) m (.slice none 0 0) [] false false ((w.alloc (.cells (mdV m.kind m.a m.b m.bg m.en m.ex m.al m.on m.mks m.ots m.frm m.upto) 45)).alloc (.cells (wkV m (.slice none 0 0) 0 false false) 64)) ∧ Below w.heap.size w ((w.alloc (.cells (mdV m.kind m.a m.b m.bg m.en m.ex m.al m.on m.mks m.ots m.frm m.upto) 45)).alloc (.cells (wkV m (.slice none 0 0) 0 false false) 64))) := by
    refine ⟨⟨?_, World.ownsRow_nil _ _ _ _, by simp [Value.ownBlock], by simp⟩, ((Below.refl _ w).alloc (Nat.le_refl _) _).alloc (by simp) _⟩
    exact heap_alloc_new'
  go_wp2
  go_loopw [18] (fun vi wr => ∃ (k : Nat) (v : Value) (made : List ByteArray) (done : Bool), k ≤ n ∧ vi = .int .i64 k ∧ made.length ≤ k ∧ sizeL made ≤ 65536 ∧ Hid (R = foldA act made done (l.drop k)) ∧ Hid (Wk (w.heap.size + 2) (w.heap.size + 1) m v made false done wr) ∧ Hid (Below w.heap.size w wr)) (fun vi _ => n - (intOf vi).toNat)
  case atStart => exact ⟨0, .slice none 0 0, [], false, Nat.zero_le _, rfl, Nat.le_refl _, Nat.zero_le _, HR, HA.out.1, HA.out.2⟩
  case round =>
    obtain ⟨k, v, made, done, hk, rfl, hmk, hsz, HRk, HWk, HB⟩ := hrel
    by_cases hlt : k < n
    · have hil : (k : Int) < (n : Int) := by omega
      have hkl : k < l.length := by rw [← HL.out.1]; exact hlt
      obtain ⟨b0, o0, ha, hb0, e1⟩ := (HW.out _ HB.out).pick k hkl
      subst ha
      obtain ⟨x, hx⟩ : ∃ x, x = l[k] := ⟨_, rfl⟩
      rw [← hx] at e1
      have HX : Hid (l.drop k = x :: l.drop (k + 1) ∧ x.size ≤ 1000000) := ⟨by rw [hx]; exact List.drop_eq_getElem_cons hkl, by rw [hx]; exact HL.out.2 _ (List.getElem_mem _)⟩
      clear hx hkl
      have HC : Hid (Calls Tryz.prog 45 #[.pointer (some ⟨w.heap.size + 1, 0, none⟩), .string x] wr fun e w' => e = .returned (.tuple #[]) ∧ Stp (w.heap.size + 2) (w.heap.size + 1) m v made (act done x made) wr w') := HD.out _ _ v made done x wr HWk.out HX.out.2 hsz (by omega) (HM.out _ HB.out) (by omega) (by omega)
      go_wp2_with fail
      refine HC.out.mono ?_
      rintro e w2 ⟨rfl, hst⟩
      obtain ⟨hg, hor⟩ := hst.next (t := l.drop (k + 1)) hsz
      have HB2 : Hid (Below w.heap.size w w2) := went_below HB.out (Nat.le_refl _) hg (by omega) (fun j hj => by have := (HWk.out.row.lt j hj).1; omega)
      clear hst hg
      rcases hor with ⟨⟨v2, l2, d2, hk2⟩, hnone⟩ | ⟨v2, l2, d2, hk2, hs2, hl2, hsome⟩
      · obtain ⟨_, ⟨r12, r13, r14, r15⟩, hfz⟩ := hk2.cells
        have HRN : Hid (R = none) := by unfold Hid; rw [HRk.out, HX.out.1]; exact hnone
        clear hk2 hnone
        go_wp2
        go_ret2
        refine ⟨HB2.out, ?_⟩
        rw [HRN.out]; rfl
      · obtain ⟨_, ⟨r12, r13, r14, r15⟩, hfz⟩ := hk2.cells
        have HK2 : Hid (Wk (w.heap.size + 2) (w.heap.size + 1) m v2 l2 false d2 w2) := hk2
        have HR2 : Hid (R = foldA act l2 d2 (l.drop (k + 1))) := by unfold Hid; rw [HRk.out, HX.out.1]; exact hsome
        clear hk2 hsome
        go_wp2
        go_roundw
        case rel => exact ⟨k + 1, v2, l2, d2, by omega, by go_num, by omega, hs2, HR2, HK2, HB2⟩
        case measure => simp [intOf]; omega
    · obtain rfl : k = n := by omega
      have hil : ¬ (k : Int) < (k : Int) := by omega
      obtain ⟨_, ⟨r12, r13, r14, r15⟩, hfz⟩ := HWk.out.cells
      have HRS : Hid (R = some made) := by unfold Hid; rw [HRk.out, HL.out.1, List.drop_length]; rfl
      have HO : Hid (wr.ownsRow w.heap.size 9 1 v made.length (made.map Value.string)) := owns_base HWk.out.row (by omega)
      obtain ⟨av, cv, hvv⟩ := owns_slice HWk.out.row
      subst hvv
      go_wp2
      go_ret2
      refine ⟨HB.out, ?_⟩
      rw [HRS.out]
      exact ⟨_, rfl, HO.out⟩
set_option maxRecDepth 20000 in
set_option maxHeartbeats 3200000 in
theorem apply_other (m : Md) (act : ActF) (hf : (m.kind, 46) ∈ fnL) (hd : Does m 46 act) (a : Option Addr) (n c : Nat) (l : List ByteArray) (w : World) (hw : Words w.heap.size w (.slice a n c) l) (hn : n ≤ 10000) (hl : ∀ y ∈ l, y.size ≤ 1000000) (hmx : Mx w) :
    Calls Tryz.prog 15 #[.agg m.cells, .slice a n c] w fun e w' => ApplyPost w (foldA act [] false l) e w' := by
  have hnl := hw.len
  have HW : Hid (∀ W, Below w.heap.size w W → Words w.heap.size W (.slice a n c) l) := fun W hB => hw.below hB
  have HL : Hid (n = l.length ∧ ∀ y ∈ l, y.size ≤ 1000000) := ⟨hnl, hl⟩
  have HM : Hid (∀ W, Below w.heap.size w W → Mx W) := fun W hB => hmx.below hB hmx.pos
  have HP0 : Hid (0 < w.heap.size) := hmx.pos
  have HD : Hid (Does m 46 act) := hd
  obtain ⟨R, hR⟩ : ∃ R, R = foldA act [] false l := ⟨_, rfl⟩
  rw [← hR]
  have HR : Hid (R = foldA act [] false l) := hR
  have HT : Hid (∀ W : World, W.cell? ⟨w.heap.size + 1, 0, none⟩ = some (.string m.kind) → Calls Tryz.prog 25 #[.pointer (some ⟨w.heap.size + 1, 0, none⟩)] W fun e w' => e = .returned (.func (Fn.func 46) #[.pointer (some ⟨w.heap.size + 1, 0, none⟩)] #[]) ∧ W = w') := fun W hW => toWord_fn _ _ _ hf W hW
  clear hnl hw hl hmx hd hR hf
  have hneq := fn_neq
  unfold Md.cells
  go_enter Tryz.func15, Tryz.ntmps15
  go_wp2_with fail
  refine (HT.out _ (by rw [World.cell?, heap_alloc_new']; rfl)).mono ?_
  rintro e w' ⟨rfl, rfl⟩
  have HA : Hid (Wk (w.heap.size + 2) (w.heap.size + 1) m (.slice none 0 0) [] false false ((w.alloc (.cells (mdV m.kind m.a m.b m.bg m.en m.ex m.al m.on m.mks m.ots m.frm m.upto) 45)).alloc (.cells (wkV m (.slice none 0 0) 0 false false) 64)) ∧ Below w.heap.size w ((w.alloc (.cells (mdV m.kind m.a m.b m.bg m.en m.ex m.al m.on m.mks m.ots m.frm m.upto) 45)).alloc (.cells (wkV m (.slice none 0 0) 0 false false) 64))) := by
    refine ⟨⟨?_, World.ownsRow_nil _ _ _ _, by simp [Value.ownBlock], by simp⟩, ((Below.refl _ w).alloc (Nat.le_refl _) _).alloc (by simp) _⟩
    exact heap_alloc_new'
  go_wp2
  go_loopw [18] (fun vi wr => ∃ (k : Nat) (v : Value) (made : List ByteArray) (done : Bool), k ≤ n ∧ vi = .int .i64 k ∧ made.length ≤ k ∧ sizeL made ≤ 65536 ∧ Hid (R = foldA act made done (l.drop k)) ∧ Hid (Wk (w.heap.size + 2) (w.heap.size + 1) m v made false done wr) ∧ Hid (Below w.heap.size w wr)) (fun vi _ => n - (intOf vi).toNat)
  case atStart => exact ⟨0, .slice none 0 0, [], false, Nat.zero_le _, rfl, Nat.le_refl _, Nat.zero_le _, HR, HA.out.1, HA.out.2⟩
  case round =>
    obtain ⟨k, v, made, done, hk, rfl, hmk, hsz, HRk, HWk, HB⟩ := hrel
    by_cases hlt : k < n
    · have hil : (k : Int) < (n : Int) := by omega
      have hkl : k < l.length := by rw [← HL.out.1]; exact hlt
      obtain ⟨b0, o0, ha, hb0, e1⟩ := (HW.out _ HB.out).pick k hkl
      subst ha
      obtain ⟨x, hx⟩ : ∃ x, x = l[k] := ⟨_, rfl⟩
      rw [← hx] at e1
      have HX : Hid (l.drop k = x :: l.drop (k + 1) ∧ x.size ≤ 1000000) := ⟨by rw [hx]; exact List.drop_eq_getElem_cons hkl, by rw [hx]; exact HL.out.2 _ (List.getElem_mem _)⟩
      clear hx hkl
      have HC : Hid (Calls Tryz.prog 46 #[.pointer (some ⟨w.heap.size + 1, 0, none⟩), .string x] wr fun e w' => e = .returned (.tuple #[]) ∧ Stp (w.heap.size + 2) (w.heap.size + 1) m v made (act done x made) wr w') := HD.out _ _ v made done x wr HWk.out HX.out.2 hsz (by omega) (HM.out _ HB.out) (by omega) (by omega)
      go_wp2_with fail
      refine HC.out.mono ?_
      rintro e w2 ⟨rfl, hst⟩
      obtain ⟨hg, hor⟩ := hst.next (t := l.drop (k + 1)) hsz
      have HB2 : Hid (Below w.heap.size w w2) := went_below HB.out (Nat.le_refl _) hg (by omega) (fun j hj => by have := (HWk.out.row.lt j hj).1; omega)
      clear hst hg
      rcases hor with ⟨⟨v2, l2, d2, hk2⟩, hnone⟩ | ⟨v2, l2, d2, hk2, hs2, hl2, hsome⟩
      · obtain ⟨_, ⟨r12, r13, r14, r15⟩, hfz⟩ := hk2.cells
        have HRN : Hid (R = none) := by unfold Hid; rw [HRk.out, HX.out.1]; exact hnone
        clear hk2 hnone
        go_wp2
        go_ret2
        refine ⟨HB2.out, ?_⟩
        rw [HRN.out]; rfl
      · obtain ⟨_, ⟨r12, r13, r14, r15⟩, hfz⟩ := hk2.cells
        have HK2 : Hid (Wk (w.heap.size + 2) (w.heap.size + 1) m v2 l2 false d2 w2) := hk2
        have HR2 : Hid (R = foldA act l2 d2 (l.drop (k + 1))) := by unfold Hid; rw [HRk.out, HX.out.1]; exact hsome
        clear hk2 hsome
        go_wp2
        go_roundw
        case rel => exact ⟨k + 1, v2, l2, d2, by omega, by go_num, by omega, hs2, HR2, HK2, HB2⟩
        case measure => simp [intOf]; omega
    · obtain rfl : k = n := by omega
      have hil : ¬ (k : Int) < (k : Int) := by omega
      obtain ⟨_, ⟨r12, r13, r14, r15⟩, hfz⟩ := HWk.out.cells
      have HRS : Hid (R = some made) := by unfold Hid; rw [HRk.out, HL.out.1, List.drop_length]; rfl
      have HO : Hid (wr.ownsRow w.heap.size 9 1 v made.length (made.map Value.string)) := owns_base HWk.out.row (by omega)
      obtain ⟨av, cv, hvv⟩ := owns_slice HWk.out.row
      subst hvv
      go_wp2
      go_ret2
      refine ⟨HB.out, ?_⟩
      rw [HRS.out]
      exact ⟨_, rfl, HO.out⟩
set_option maxRecDepth 20000 in
set_option maxHeartbeats 3200000 in
theorem apply_replaced (m : Md) (act : ActF) (hf : (m.kind, 47) ∈ fnL) (hd : Does m 47 act) (a : Option Addr) (n c : Nat) (l : List ByteArray) (w : World) (hw : Words w.heap.size w (.slice a n c) l) (hn : n ≤ 10000) (hl : ∀ y ∈ l, y.size ≤ 1000000) (hmx : Mx w) :
    Calls Tryz.prog 15 #[.agg m.cells, .slice a n c] w fun e w' => ApplyPost w (foldA act [] false l) e w' := by
  have hnl := hw.len
  have HW : Hid (∀ W, Below w.heap.size w W → Words w.heap.size W (.slice a n c) l) := fun W hB => hw.below hB
  have HL : Hid (n = l.length ∧ ∀ y ∈ l, y.size ≤ 1000000) := ⟨hnl, hl⟩
  have HM : Hid (∀ W, Below w.heap.size w W → Mx W) := fun W hB => hmx.below hB hmx.pos
  have HP0 : Hid (0 < w.heap.size) := hmx.pos
  have HD : Hid (Does m 47 act) := hd
  obtain ⟨R, hR⟩ : ∃ R, R = foldA act [] false l := ⟨_, rfl⟩
  rw [← hR]
  have HR : Hid (R = foldA act [] false l) := hR
  have HT : Hid (∀ W : World, W.cell? ⟨w.heap.size + 1, 0, none⟩ = some (.string m.kind) → Calls Tryz.prog 25 #[.pointer (some ⟨w.heap.size + 1, 0, none⟩)] W fun e w' => e = .returned (.func (Fn.func 47) #[.pointer (some ⟨w.heap.size + 1, 0, none⟩)] #[]) ∧ W = w') := fun W hW => toWord_fn _ _ _ hf W hW
  clear hnl hw hl hmx hd hR hf
  have hneq := fn_neq
  unfold Md.cells
  go_enter Tryz.func15, Tryz.ntmps15
  go_wp2_with fail
  refine (HT.out _ (by rw [World.cell?, heap_alloc_new']; rfl)).mono ?_
  rintro e w' ⟨rfl, rfl⟩
  have HA : Hid (Wk (w.heap.size + 2) (w.heap.size + 1) m (.slice none 0 0) [] false false ((w.alloc (.cells (mdV m.kind m.a m.b m.bg m.en m.ex m.al m.on m.mks m.ots m.frm m.upto) 45)).alloc (.cells (wkV m (.slice none 0 0) 0 false false) 64)) ∧ Below w.heap.size w ((w.alloc (.cells (mdV m.kind m.a m.b m.bg m.en m.ex m.al m.on m.mks m.ots m.frm m.upto) 45)).alloc (.cells (wkV m (.slice none 0 0) 0 false false) 64))) := by
    refine ⟨⟨?_, World.ownsRow_nil _ _ _ _, by simp [Value.ownBlock], by simp⟩, ((Below.refl _ w).alloc (Nat.le_refl _) _).alloc (by simp) _⟩
    exact heap_alloc_new'
  go_wp2
  go_loopw [18] (fun vi wr => ∃ (k : Nat) (v : Value) (made : List ByteArray) (done : Bool), k ≤ n ∧ vi = .int .i64 k ∧ made.length ≤ k ∧ sizeL made ≤ 65536 ∧ Hid (R = foldA act made done (l.drop k)) ∧ Hid (Wk (w.heap.size + 2) (w.heap.size + 1) m v made false done wr) ∧ Hid (Below w.heap.size w wr)) (fun vi _ => n - (intOf vi).toNat)
  case atStart => exact ⟨0, .slice none 0 0, [], false, Nat.zero_le _, rfl, Nat.le_refl _, Nat.zero_le _, HR, HA.out.1, HA.out.2⟩
  case round =>
    obtain ⟨k, v, made, done, hk, rfl, hmk, hsz, HRk, HWk, HB⟩ := hrel
    by_cases hlt : k < n
    · have hil : (k : Int) < (n : Int) := by omega
      have hkl : k < l.length := by rw [← HL.out.1]; exact hlt
      obtain ⟨b0, o0, ha, hb0, e1⟩ := (HW.out _ HB.out).pick k hkl
      subst ha
      obtain ⟨x, hx⟩ : ∃ x, x = l[k] := ⟨_, rfl⟩
      rw [← hx] at e1
      have HX : Hid (l.drop k = x :: l.drop (k + 1) ∧ x.size ≤ 1000000) := ⟨by rw [hx]; exact List.drop_eq_getElem_cons hkl, by rw [hx]; exact HL.out.2 _ (List.getElem_mem _)⟩
      clear hx hkl
      have HC : Hid (Calls Tryz.prog 47 #[.pointer (some ⟨w.heap.size + 1, 0, none⟩), .string x] wr fun e w' => e = .returned (.tuple #[]) ∧ Stp (w.heap.size + 2) (w.heap.size + 1) m v made (act done x made) wr w') := HD.out _ _ v made done x wr HWk.out HX.out.2 hsz (by omega) (HM.out _ HB.out) (by omega) (by omega)
      go_wp2_with fail
      refine HC.out.mono ?_
      rintro e w2 ⟨rfl, hst⟩
      obtain ⟨hg, hor⟩ := hst.next (t := l.drop (k + 1)) hsz
      have HB2 : Hid (Below w.heap.size w w2) := went_below HB.out (Nat.le_refl _) hg (by omega) (fun j hj => by have := (HWk.out.row.lt j hj).1; omega)
      clear hst hg
      rcases hor with ⟨⟨v2, l2, d2, hk2⟩, hnone⟩ | ⟨v2, l2, d2, hk2, hs2, hl2, hsome⟩
      · obtain ⟨_, ⟨r12, r13, r14, r15⟩, hfz⟩ := hk2.cells
        have HRN : Hid (R = none) := by unfold Hid; rw [HRk.out, HX.out.1]; exact hnone
        clear hk2 hnone
        go_wp2
        go_ret2
        refine ⟨HB2.out, ?_⟩
        rw [HRN.out]; rfl
      · obtain ⟨_, ⟨r12, r13, r14, r15⟩, hfz⟩ := hk2.cells
        have HK2 : Hid (Wk (w.heap.size + 2) (w.heap.size + 1) m v2 l2 false d2 w2) := hk2
        have HR2 : Hid (R = foldA act l2 d2 (l.drop (k + 1))) := by unfold Hid; rw [HRk.out, HX.out.1]; exact hsome
        clear hk2 hsome
        go_wp2
        go_roundw
        case rel => exact ⟨k + 1, v2, l2, d2, by omega, by go_num, by omega, hs2, HR2, HK2, HB2⟩
        case measure => simp [intOf]; omega
    · obtain rfl : k = n := by omega
      have hil : ¬ (k : Int) < (k : Int) := by omega
      obtain ⟨_, ⟨r12, r13, r14, r15⟩, hfz⟩ := HWk.out.cells
      have HRS : Hid (R = some made) := by unfold Hid; rw [HRk.out, HL.out.1, List.drop_length]; rfl
      have HO : Hid (wr.ownsRow w.heap.size 9 1 v made.length (made.map Value.string)) := owns_base HWk.out.row (by omega)
      obtain ⟨av, cv, hvv⟩ := owns_slice HWk.out.row
      subst hvv
      go_wp2
      go_ret2
      refine ⟨HB.out, ?_⟩
      rw [HRS.out]
      exact ⟨_, rfl, HO.out⟩
set_option maxRecDepth 20000 in
set_option maxHeartbeats 3200000 in
theorem apply_endedSo (m : Md) (act : ActF) (hf : (m.kind, 55) ∈ fnL) (hd : Does m 55 act) (a : Option Addr) (n c : Nat) (l : List ByteArray) (w : World) (hw : Words w.heap.size w (.slice a n c) l) (hn : n ≤ 10000) (hl : ∀ y ∈ l, y.size ≤ 1000000) (hmx : Mx w) :
    Calls Tryz.prog 15 #[.agg m.cells, .slice a n c] w fun e w' => ApplyPost w (foldA act [] false l) e w' := by
  have hnl := hw.len
  have HW : Hid (∀ W, Below w.heap.size w W → Words w.heap.size W (.slice a n c) l) := fun W hB => hw.below hB
  have HL : Hid (n = l.length ∧ ∀ y ∈ l, y.size ≤ 1000000) := ⟨hnl, hl⟩
  have HM : Hid (∀ W, Below w.heap.size w W → Mx W) := fun W hB => hmx.below hB hmx.pos
  have HP0 : Hid (0 < w.heap.size) := hmx.pos
  have HD : Hid (Does m 55 act) := hd
  obtain ⟨R, hR⟩ : ∃ R, R = foldA act [] false l := ⟨_, rfl⟩
  rw [← hR]
  have HR : Hid (R = foldA act [] false l) := hR
  have HT : Hid (∀ W : World, W.cell? ⟨w.heap.size + 1, 0, none⟩ = some (.string m.kind) → Calls Tryz.prog 25 #[.pointer (some ⟨w.heap.size + 1, 0, none⟩)] W fun e w' => e = .returned (.func (Fn.func 55) #[.pointer (some ⟨w.heap.size + 1, 0, none⟩)] #[]) ∧ W = w') := fun W hW => toWord_fn _ _ _ hf W hW
  clear hnl hw hl hmx hd hR hf
  have hneq := fn_neq
  unfold Md.cells
  go_enter Tryz.func15, Tryz.ntmps15
  go_wp2_with fail
  refine (HT.out _ (by rw [World.cell?, heap_alloc_new']; rfl)).mono ?_
  rintro e w' ⟨rfl, rfl⟩
  have HA : Hid (Wk (w.heap.size + 2) (w.heap.size + 1) m (.slice none 0 0) [] false false ((w.alloc (.cells (mdV m.kind m.a m.b m.bg m.en m.ex m.al m.on m.mks m.ots m.frm m.upto) 45)).alloc (.cells (wkV m (.slice none 0 0) 0 false false) 64)) ∧ Below w.heap.size w ((w.alloc (.cells (mdV m.kind m.a m.b m.bg m.en m.ex m.al m.on m.mks m.ots m.frm m.upto) 45)).alloc (.cells (wkV m (.slice none 0 0) 0 false false) 64))) := by
    refine ⟨⟨?_, World.ownsRow_nil _ _ _ _, by simp [Value.ownBlock], by simp⟩, ((Below.refl _ w).alloc (Nat.le_refl _) _).alloc (by simp) _⟩
    exact heap_alloc_new'
  go_wp2
  go_loopw [18] (fun vi wr => ∃ (k : Nat) (v : Value) (made : List ByteArray) (done : Bool), k ≤ n ∧ vi = .int .i64 k ∧ made.length ≤ k ∧ sizeL made ≤ 65536 ∧ Hid (R = foldA act made done (l.drop k)) ∧ Hid (Wk (w.heap.size + 2) (w.heap.size + 1) m v made false done wr) ∧ Hid (Below w.heap.size w wr)) (fun vi _ => n - (intOf vi).toNat)
  case atStart => exact ⟨0, .slice none 0 0, [], false, Nat.zero_le _, rfl, Nat.le_refl _, Nat.zero_le _, HR, HA.out.1, HA.out.2⟩
  case round =>
    obtain ⟨k, v, made, done, hk, rfl, hmk, hsz, HRk, HWk, HB⟩ := hrel
    by_cases hlt : k < n
    · have hil : (k : Int) < (n : Int) := by omega
      have hkl : k < l.length := by rw [← HL.out.1]; exact hlt
      obtain ⟨b0, o0, ha, hb0, e1⟩ := (HW.out _ HB.out).pick k hkl
      subst ha
      obtain ⟨x, hx⟩ : ∃ x, x = l[k] := ⟨_, rfl⟩
      rw [← hx] at e1
      have HX : Hid (l.drop k = x :: l.drop (k + 1) ∧ x.size ≤ 1000000) := ⟨by rw [hx]; exact List.drop_eq_getElem_cons hkl, by rw [hx]; exact HL.out.2 _ (List.getElem_mem _)⟩
      clear hx hkl
      have HC : Hid (Calls Tryz.prog 55 #[.pointer (some ⟨w.heap.size + 1, 0, none⟩), .string x] wr fun e w' => e = .returned (.tuple #[]) ∧ Stp (w.heap.size + 2) (w.heap.size + 1) m v made (act done x made) wr w') := HD.out _ _ v made done x wr HWk.out HX.out.2 hsz (by omega) (HM.out _ HB.out) (by omega) (by omega)
      go_wp2_with fail
      refine HC.out.mono ?_
      rintro e w2 ⟨rfl, hst⟩
      obtain ⟨hg, hor⟩ := hst.next (t := l.drop (k + 1)) hsz
      have HB2 : Hid (Below w.heap.size w w2) := went_below HB.out (Nat.le_refl _) hg (by omega) (fun j hj => by have := (HWk.out.row.lt j hj).1; omega)
      clear hst hg
      rcases hor with ⟨⟨v2, l2, d2, hk2⟩, hnone⟩ | ⟨v2, l2, d2, hk2, hs2, hl2, hsome⟩
      · obtain ⟨_, ⟨r12, r13, r14, r15⟩, hfz⟩ := hk2.cells
        have HRN : Hid (R = none) := by unfold Hid; rw [HRk.out, HX.out.1]; exact hnone
        clear hk2 hnone
        go_wp2
        go_ret2
        refine ⟨HB2.out, ?_⟩
        rw [HRN.out]; rfl
      · obtain ⟨_, ⟨r12, r13, r14, r15⟩, hfz⟩ := hk2.cells
        have HK2 : Hid (Wk (w.heap.size + 2) (w.heap.size + 1) m v2 l2 false d2 w2) := hk2
        have HR2 : Hid (R = foldA act l2 d2 (l.drop (k + 1))) := by unfold Hid; rw [HRk.out, HX.out.1]; exact hsome
        clear hk2 hsome
        go_wp2
        go_roundw
        case rel => exact ⟨k + 1, v2, l2, d2, by omega, by go_num, by omega, hs2, HR2, HK2, HB2⟩
        case measure => simp [intOf]; omega
    · obtain rfl : k = n := by omega
      have hil : ¬ (k : Int) < (k : Int) := by omega
      obtain ⟨_, ⟨r12, r13, r14, r15⟩, hfz⟩ := HWk.out.cells
      have HRS : Hid (R = some made) := by unfold Hid; rw [HRk.out, HL.out.1, List.drop_length]; rfl
      have HO : Hid (wr.ownsRow w.heap.size 9 1 v made.length (made.map Value.string)) := owns_base HWk.out.row (by omega)
      obtain ⟨av, cv, hvv⟩ := owns_slice HWk.out.row
      subst hvv
      go_wp2
      go_ret2
      refine ⟨HB.out, ?_⟩
      rw [HRS.out]
      exact ⟨_, rfl, HO.out⟩
end Go.Proofs.YtpcpcfnmcfjomaaGreatDoor
