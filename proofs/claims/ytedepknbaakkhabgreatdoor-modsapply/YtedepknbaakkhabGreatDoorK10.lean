/-
  M17 M14b M18
-/
import Derived.Test.YtedepknbaakkhabGreatDoorK09
set_option maxRecDepth 20000
namespace Go.Proofs.YtedepknbaakkhabGreatDoor
open Go.RowKit Go.Shelf
set_option maxHeartbeats 3200000 in
theorem apply_matching (m : Md) (act : ActF) (hf : (m.kind, 30) ∈ fnL) (hd : Does m 30 act) (a : Option Addr) (n c : Nat) (l : List ByteArray) (w : World) (hw : Words w.heap.size w (.slice a n c) l) (hn : n ≤ 10000) (hl : ∀ y ∈ l, y.size ≤ 1000000) (hmx : Mx w) :
    Calls Tryz.prog 13 #[.agg m.cells, .slice a n c] w fun e w' => ApplyPost w (foldA act [] false l) e w' := by
  have hnl := hw.len
  have HW : Hid (∀ W, Below w.heap.size w W → Words w.heap.size W (.slice a n c) l) := fun W hB => hw.below hB
  have HL : Hid (n = l.length ∧ ∀ y ∈ l, y.size ≤ 1000000) := ⟨hnl, hl⟩
  have HM : Hid (∀ W, Below w.heap.size w W → Mx W) := fun W hB => hmx.below hB hmx.pos
  have HP0 : Hid (0 < w.heap.size) := hmx.pos
  have HD : Hid (Does m 30 act) := hd
  obtain ⟨R, hR⟩ : ∃ R, R = foldA act [] false l := ⟨_, rfl⟩
  rw [← hR]
  have HR : Hid (R = foldA act [] false l) := hR
  have HT : Hid (∀ W : World, W.cell? ⟨w.heap.size + 1, 0, none⟩ = some (.string m.kind) → Calls Tryz.prog 20 #[.pointer (some ⟨w.heap.size + 1, 0, none⟩)] W fun e w' => e = .returned (.func (Fn.func 30) #[.pointer (some ⟨w.heap.size + 1, 0, none⟩)] #[]) ∧ W = w') := fun W hW => toWord_fn _ _ _ hf W hW
  clear hnl hw hl hmx hd hR hf
  have hneq := fn_neq
  unfold Md.cells
  go_enter Tryz.func13, Tryz.ntmps13
  go_wp2_with fail
  refine (HT.out _ (by rw [World.cell?, heap_alloc_new']; rfl)).mono ?_
  rintro e w' ⟨rfl, rfl⟩
  have HA : Hid (Wk (w.heap.size + 2) (w.heap.size + 1) m (.slice none 0 0) [] false false ((w.alloc (.cells (mdV m.kind m.a m.b m.bg m.en m.ex m.al m.on m.mks m.ots m.frm m.upto) 37)).alloc (.cells (wkV m (.slice none 0 0) 0 false false) 51)) ∧ Below w.heap.size w ((w.alloc (.cells (mdV m.kind m.a m.b m.bg m.en m.ex m.al m.on m.mks m.ots m.frm m.upto) 37)).alloc (.cells (wkV m (.slice none 0 0) 0 false false) 51))) := by
    refine ⟨⟨?_, World.ownsRow_nil _ _ _ _, by simp [Value.ownBlock], by simp⟩, ((Below.refl _ w).alloc (Nat.le_refl _) _).alloc (by simp) _⟩
    exact heap_alloc_new'
  go_wp2
  go_loopw [18] (fun vi wr => ∃ (k : Nat) (v : Value) (made : List ByteArray) (done : Bool), k ≤ n ∧ vi = .int .i64 k ∧ made.length ≤ k ∧ sizeL made ≤ 65536 ∧ Hid (R = foldA act made done (l.drop k)) ∧ Hid (Wk (w.heap.size + 2) (w.heap.size + 1) m v made false done wr) ∧ Hid (Below w.heap.size w wr)) (fun vi _ => n - (intOf vi).toNat)
  case atStart => exact ⟨0, .slice none 0 0, [], false, Nat.zero_le _, rfl, Nat.le_refl _, Nat.zero_le _, HR, HA.out.1, HA.out.2⟩
  case round =>
    obtain ⟨k, v, made, done, hk, rfl, hmk, hsz, HRk, HWk, HB⟩ := hrel
    by_cases hlt : k < n
    · have hil : (k : Int) < (n : Int) := by omega
      have hkl : k < l.length := by rw [← HL.out.1]; exact hlt
      obtain ⟨b0, o0, ha, hb0, e1⟩ := (HW.out _ HB.out).pick k hkl
      subst ha
      obtain ⟨x, hx⟩ : ∃ x, x = l[k] := ⟨_, rfl⟩
      rw [← hx] at e1
      have HX : Hid (l.drop k = x :: l.drop (k + 1) ∧ x.size ≤ 1000000) := ⟨by rw [hx]; exact List.drop_eq_getElem_cons hkl, by rw [hx]; exact HL.out.2 _ (List.getElem_mem _)⟩
      clear hx hkl
      have HC : Hid (Calls Tryz.prog 30 #[.pointer (some ⟨w.heap.size + 1, 0, none⟩), .string x] wr fun e w' => e = .returned (.tuple #[]) ∧ Stp (w.heap.size + 2) (w.heap.size + 1) m v made (act done x made) wr w') := HD.out _ _ v made done x wr HWk.out HX.out.2 hsz (by omega) (HM.out _ HB.out) (by omega) (by omega)
      go_wp2_with fail
      refine HC.out.mono ?_
      rintro e w2 ⟨rfl, hst⟩
      obtain ⟨hg, hor⟩ := hst.next (t := l.drop (k + 1)) hsz
      have HB2 : Hid (Below w.heap.size w w2) := went_below HB.out (Nat.le_refl _) hg (by omega) (fun j hj => by have := (HWk.out.row.lt j hj).1; omega)
      clear hst hg
      rcases hor with ⟨⟨v2, l2, d2, hk2⟩, hnone⟩ | ⟨v2, l2, d2, hk2, hs2, hl2, hsome⟩
      · obtain ⟨_, ⟨r12, r13, r14, r15⟩, hfz⟩ := hk2.cells
        have HRN : Hid (R = none) := by unfold Hid; rw [HRk.out, HX.out.1]; exact hnone
        clear hk2 hnone
        go_wp2
        go_ret2
        refine ⟨HB2.out, ?_⟩
        rw [HRN.out]; rfl
      · obtain ⟨_, ⟨r12, r13, r14, r15⟩, hfz⟩ := hk2.cells
        have HK2 : Hid (Wk (w.heap.size + 2) (w.heap.size + 1) m v2 l2 false d2 w2) := hk2
        have HR2 : Hid (R = foldA act l2 d2 (l.drop (k + 1))) := by unfold Hid; rw [HRk.out, HX.out.1]; exact hsome
        clear hk2 hsome
        go_wp2
        go_roundw
        case rel => exact ⟨k + 1, v2, l2, d2, by omega, by go_num, by omega, hs2, HR2, HK2, HB2⟩
        case measure => simp [intOf]; omega
    · obtain rfl : k = n := by omega
      have hil : ¬ (k : Int) < (k : Int) := by omega
      obtain ⟨_, ⟨r12, r13, r14, r15⟩, hfz⟩ := HWk.out.cells
      have HRS : Hid (R = some made) := by unfold Hid; rw [HRk.out, HL.out.1, List.drop_length]; rfl
      have HO : Hid (wr.ownsRow w.heap.size 9 1 v made.length (made.map Value.string)) := owns_base HWk.out.row (by omega)
      obtain ⟨av, cv, hvv⟩ := owns_slice HWk.out.row
      subst hvv
      go_wp2
      go_ret2
      refine ⟨HB.out, ?_⟩
      rw [HRS.out]
      exact ⟨_, rfl, HO.out⟩
set_option maxHeartbeats 3200000 in
theorem apply_other (m : Md) (act : ActF) (hf : (m.kind, 31) ∈ fnL) (hd : Does m 31 act) (a : Option Addr) (n c : Nat) (l : List ByteArray) (w : World) (hw : Words w.heap.size w (.slice a n c) l) (hn : n ≤ 10000) (hl : ∀ y ∈ l, y.size ≤ 1000000) (hmx : Mx w) :
    Calls Tryz.prog 13 #[.agg m.cells, .slice a n c] w fun e w' => ApplyPost w (foldA act [] false l) e w' := by
  have hnl := hw.len
  have HW : Hid (∀ W, Below w.heap.size w W → Words w.heap.size W (.slice a n c) l) := fun W hB => hw.below hB
  have HL : Hid (n = l.length ∧ ∀ y ∈ l, y.size ≤ 1000000) := ⟨hnl, hl⟩
  have HM : Hid (∀ W, Below w.heap.size w W → Mx W) := fun W hB => hmx.below hB hmx.pos
  have HP0 : Hid (0 < w.heap.size) := hmx.pos
  have HD : Hid (Does m 31 act) := hd
  obtain ⟨R, hR⟩ : ∃ R, R = foldA act [] false l := ⟨_, rfl⟩
  rw [← hR]
  have HR : Hid (R = foldA act [] false l) := hR
  have HT : Hid (∀ W : World, W.cell? ⟨w.heap.size + 1, 0, none⟩ = some (.string m.kind) → Calls Tryz.prog 20 #[.pointer (some ⟨w.heap.size + 1, 0, none⟩)] W fun e w' => e = .returned (.func (Fn.func 31) #[.pointer (some ⟨w.heap.size + 1, 0, none⟩)] #[]) ∧ W = w') := fun W hW => toWord_fn _ _ _ hf W hW
  clear hnl hw hl hmx hd hR hf
  have hneq := fn_neq
  unfold Md.cells
  go_enter Tryz.func13, Tryz.ntmps13
  go_wp2_with fail
  refine (HT.out _ (by rw [World.cell?, heap_alloc_new']; rfl)).mono ?_
  rintro e w' ⟨rfl, rfl⟩
  have HA : Hid (Wk (w.heap.size + 2) (w.heap.size + 1) m (.slice none 0 0) [] false false ((w.alloc (.cells (mdV m.kind m.a m.b m.bg m.en m.ex m.al m.on m.mks m.ots m.frm m.upto) 37)).alloc (.cells (wkV m (.slice none 0 0) 0 false false) 51)) ∧ Below w.heap.size w ((w.alloc (.cells (mdV m.kind m.a m.b m.bg m.en m.ex m.al m.on m.mks m.ots m.frm m.upto) 37)).alloc (.cells (wkV m (.slice none 0 0) 0 false false) 51))) := by
    refine ⟨⟨?_, World.ownsRow_nil _ _ _ _, by simp [Value.ownBlock], by simp⟩, ((Below.refl _ w).alloc (Nat.le_refl _) _).alloc (by simp) _⟩
    exact heap_alloc_new'
  go_wp2
  go_loopw [18] (fun vi wr => ∃ (k : Nat) (v : Value) (made : List ByteArray) (done : Bool), k ≤ n ∧ vi = .int .i64 k ∧ made.length ≤ k ∧ sizeL made ≤ 65536 ∧ Hid (R = foldA act made done (l.drop k)) ∧ Hid (Wk (w.heap.size + 2) (w.heap.size + 1) m v made false done wr) ∧ Hid (Below w.heap.size w wr)) (fun vi _ => n - (intOf vi).toNat)
  case atStart => exact ⟨0, .slice none 0 0, [], false, Nat.zero_le _, rfl, Nat.le_refl _, Nat.zero_le _, HR, HA.out.1, HA.out.2⟩
  case round =>
    obtain ⟨k, v, made, done, hk, rfl, hmk, hsz, HRk, HWk, HB⟩ := hrel
    by_cases hlt : k < n
    · have hil : (k : Int) < (n : Int) := by omega
      have hkl : k < l.length := by rw [← HL.out.1]; exact hlt
      obtain ⟨b0, o0, ha, hb0, e1⟩ := (HW.out _ HB.out).pick k hkl
      subst ha
      obtain ⟨x, hx⟩ : ∃ x, x = l[k] := ⟨_, rfl⟩
      rw [← hx] at e1
      have HX : Hid (l.drop k = x :: l.drop (k + 1) ∧ x.size ≤ 1000000) := ⟨by rw [hx]; exact List.drop_eq_getElem_cons hkl, by rw [hx]; exact HL.out.2 _ (List.getElem_mem _)⟩
      clear hx hkl
      have HC : Hid (Calls Tryz.prog 31 #[.pointer (some ⟨w.heap.size + 1, 0, none⟩), .string x] wr fun e w' => e = .returned (.tuple #[]) ∧ Stp (w.heap.size + 2) (w.heap.size + 1) m v made (act done x made) wr w') := HD.out _ _ v made done x wr HWk.out HX.out.2 hsz (by omega) (HM.out _ HB.out) (by omega) (by omega)
      go_wp2_with fail
      refine HC.out.mono ?_
      rintro e w2 ⟨rfl, hst⟩
      obtain ⟨hg, hor⟩ := hst.next (t := l.drop (k + 1)) hsz
      have HB2 : Hid (Below w.heap.size w w2) := went_below HB.out (Nat.le_refl _) hg (by omega) (fun j hj => by have := (HWk.out.row.lt j hj).1; omega)
      clear hst hg
      rcases hor with ⟨⟨v2, l2, d2, hk2⟩, hnone⟩ | ⟨v2, l2, d2, hk2, hs2, hl2, hsome⟩
      · obtain ⟨_, ⟨r12, r13, r14, r15⟩, hfz⟩ := hk2.cells
        have HRN : Hid (R = none) := by unfold Hid; rw [HRk.out, HX.out.1]; exact hnone
        clear hk2 hnone
        go_wp2
        go_ret2
        refine ⟨HB2.out, ?_⟩
        rw [HRN.out]; rfl
      · obtain ⟨_, ⟨r12, r13, r14, r15⟩, hfz⟩ := hk2.cells
        have HK2 : Hid (Wk (w.heap.size + 2) (w.heap.size + 1) m v2 l2 false d2 w2) := hk2
        have HR2 : Hid (R = foldA act l2 d2 (l.drop (k + 1))) := by unfold Hid; rw [HRk.out, HX.out.1]; exact hsome
        clear hk2 hsome
        go_wp2
        go_roundw
        case rel => exact ⟨k + 1, v2, l2, d2, by omega, by go_num, by omega, hs2, HR2, HK2, HB2⟩
        case measure => simp [intOf]; omega
    · obtain rfl : k = n := by omega
      have hil : ¬ (k : Int) < (k : Int) := by omega
      obtain ⟨_, ⟨r12, r13, r14, r15⟩, hfz⟩ := HWk.out.cells
      have HRS : Hid (R = some made) := by unfold Hid; rw [HRk.out, HL.out.1, List.drop_length]; rfl
      have HO : Hid (wr.ownsRow w.heap.size 9 1 v made.length (made.map Value.string)) := owns_base HWk.out.row (by omega)
      obtain ⟨av, cv, hvv⟩ := owns_slice HWk.out.row
      subst hvv
      go_wp2
      go_ret2
      refine ⟨HB.out, ?_⟩
      rw [HRS.out]
      exact ⟨_, rfl, HO.out⟩
set_option maxHeartbeats 3200000 in
theorem apply_replaced (m : Md) (act : ActF) (hf : (m.kind, 32) ∈ fnL) (hd : Does m 32 act) (a : Option Addr) (n c : Nat) (l : List ByteArray) (w : World) (hw : Words w.heap.size w (.slice a n c) l) (hn : n ≤ 10000) (hl : ∀ y ∈ l, y.size ≤ 1000000) (hmx : Mx w) :
    Calls Tryz.prog 13 #[.agg m.cells, .slice a n c] w fun e w' => ApplyPost w (foldA act [] false l) e w' := by
  have hnl := hw.len
  have HW : Hid (∀ W, Below w.heap.size w W → Words w.heap.size W (.slice a n c) l) := fun W hB => hw.below hB
  have HL : Hid (n = l.length ∧ ∀ y ∈ l, y.size ≤ 1000000) := ⟨hnl, hl⟩
  have HM : Hid (∀ W, Below w.heap.size w W → Mx W) := fun W hB => hmx.below hB hmx.pos
  have HP0 : Hid (0 < w.heap.size) := hmx.pos
  have HD : Hid (Does m 32 act) := hd
  obtain ⟨R, hR⟩ : ∃ R, R = foldA act [] false l := ⟨_, rfl⟩
  rw [← hR]
  have HR : Hid (R = foldA act [] false l) := hR
  have HT : Hid (∀ W : World, W.cell? ⟨w.heap.size + 1, 0, none⟩ = some (.string m.kind) → Calls Tryz.prog 20 #[.pointer (some ⟨w.heap.size + 1, 0, none⟩)] W fun e w' => e = .returned (.func (Fn.func 32) #[.pointer (some ⟨w.heap.size + 1, 0, none⟩)] #[]) ∧ W = w') := fun W hW => toWord_fn _ _ _ hf W hW
  clear hnl hw hl hmx hd hR hf
  have hneq := fn_neq
  unfold Md.cells
  go_enter Tryz.func13, Tryz.ntmps13
  go_wp2_with fail
  refine (HT.out _ (by rw [World.cell?, heap_alloc_new']; rfl)).mono ?_
  rintro e w' ⟨rfl, rfl⟩
  have HA : Hid (Wk (w.heap.size + 2) (w.heap.size + 1) m (.slice none 0 0) [] false false ((w.alloc (.cells (mdV m.kind m.a m.b m.bg m.en m.ex m.al m.on m.mks m.ots m.frm m.upto) 37)).alloc (.cells (wkV m (.slice none 0 0) 0 false false) 51)) ∧ Below w.heap.size w ((w.alloc (.cells (mdV m.kind m.a m.b m.bg m.en m.ex m.al m.on m.mks m.ots m.frm m.upto) 37)).alloc (.cells (wkV m (.slice none 0 0) 0 false false) 51))) := by
    refine ⟨⟨?_, World.ownsRow_nil _ _ _ _, by simp [Value.ownBlock], by simp⟩, ((Below.refl _ w).alloc (Nat.le_refl _) _).alloc (by simp) _⟩
    exact heap_alloc_new'
  go_wp2
  go_loopw [18] (fun vi wr => ∃ (k : Nat) (v : Value) (made : List ByteArray) (done : Bool), k ≤ n ∧ vi = .int .i64 k ∧ made.length ≤ k ∧ sizeL made ≤ 65536 ∧ Hid (R = foldA act made done (l.drop k)) ∧ Hid (Wk (w.heap.size + 2) (w.heap.size + 1) m v made false done wr) ∧ Hid (Below w.heap.size w wr)) (fun vi _ => n - (intOf vi).toNat)
  case atStart => exact ⟨0, .slice none 0 0, [], false, Nat.zero_le _, rfl, Nat.le_refl _, Nat.zero_le _, HR, HA.out.1, HA.out.2⟩
  case round =>
    obtain ⟨k, v, made, done, hk, rfl, hmk, hsz, HRk, HWk, HB⟩ := hrel
    by_cases hlt : k < n
    · have hil : (k : Int) < (n : Int) := by omega
      have hkl : k < l.length := by rw [← HL.out.1]; exact hlt
      obtain ⟨b0, o0, ha, hb0, e1⟩ := (HW.out _ HB.out).pick k hkl
      subst ha
      obtain ⟨x, hx⟩ : ∃ x, x = l[k] := ⟨_, rfl⟩
      rw [← hx] at e1
      have HX : Hid (l.drop k = x :: l.drop (k + 1) ∧ x.size ≤ 1000000) := ⟨by rw [hx]; exact List.drop_eq_getElem_cons hkl, by rw [hx]; exact HL.out.2 _ (List.getElem_mem _)⟩
      clear hx hkl
      have HC : Hid (Calls Tryz.prog 32 #[.pointer (some ⟨w.heap.size + 1, 0, none⟩), .string x] wr fun e w' => e = .returned (.tuple #[]) ∧ Stp (w.heap.size + 2) (w.heap.size + 1) m v made (act done x made) wr w') := HD.out _ _ v made done x wr HWk.out HX.out.2 hsz (by omega) (HM.out _ HB.out) (by omega) (by omega)
      go_wp2_with fail
      refine HC.out.mono ?_
      rintro e w2 ⟨rfl, hst⟩
      obtain ⟨hg, hor⟩ := hst.next (t := l.drop (k + 1)) hsz
      have HB2 : Hid (Below w.heap.size w w2) := went_below HB.out (Nat.le_refl _) hg (by omega) (fun j hj => by have := (HWk.out.row.lt j hj).1; omega)
      clear hst hg
      rcases hor with ⟨⟨v2, l2, d2, hk2⟩, hnone⟩ | ⟨v2, l2, d2, hk2, hs2, hl2, hsome⟩
      · obtain ⟨_, ⟨r12, r13, r14, r15⟩, hfz⟩ := hk2.cells
        have HRN : Hid (R = none) := by unfold Hid; rw [HRk.out, HX.out.1]; exact hnone
        clear hk2 hnone
        go_wp2
        go_ret2
        refine ⟨HB2.out, ?_⟩
        rw [HRN.out]; rfl
      · obtain ⟨_, ⟨r12, r13, r14, r15⟩, hfz⟩ := hk2.cells
        have HK2 : Hid (Wk (w.heap.size + 2) (w.heap.size + 1) m v2 l2 false d2 w2) := hk2
        have HR2 : Hid (R = foldA act l2 d2 (l.drop (k + 1))) := by unfold Hid; rw [HRk.out, HX.out.1]; exact hsome
        clear hk2 hsome
        go_wp2
        go_roundw
        case rel => exact ⟨k + 1, v2, l2, d2, by omega, by go_num, by omega, hs2, HR2, HK2, HB2⟩
        case measure => simp [intOf]; omega
    · obtain rfl : k = n := by omega
      have hil : ¬ (k : Int) < (k : Int) := by omega
      obtain ⟨_, ⟨r12, r13, r14, r15⟩, hfz⟩ := HWk.out.cells
      have HRS : Hid (R = some made) := by unfold Hid; rw [HRk.out, HL.out.1, List.drop_length]; rfl
      have HO : Hid (wr.ownsRow w.heap.size 9 1 v made.length (made.map Value.string)) := owns_base HWk.out.row (by omega)
      obtain ⟨av, cv, hvv⟩ := owns_slice HWk.out.row
      subst hvv
      go_wp2
      go_ret2
      refine ⟨HB.out, ?_⟩
      rw [HRS.out]
      exact ⟨_, rfl, HO.out⟩
set_option maxHeartbeats 3200000 in
theorem apply_endedSo (m : Md) (act : ActF) (hf : (m.kind, 40) ∈ fnL) (hd : Does m 40 act) (a : Option Addr) (n c : Nat) (l : List ByteArray) (w : World) (hw : Words w.heap.size w (.slice a n c) l) (hn : n ≤ 10000) (hl : ∀ y ∈ l, y.size ≤ 1000000) (hmx : Mx w) :
    Calls Tryz.prog 13 #[.agg m.cells, .slice a n c] w fun e w' => ApplyPost w (foldA act [] false l) e w' := by
  have hnl := hw.len
  have HW : Hid (∀ W, Below w.heap.size w W → Words w.heap.size W (.slice a n c) l) := fun W hB => hw.below hB
  have HL : Hid (n = l.length ∧ ∀ y ∈ l, y.size ≤ 1000000) := ⟨hnl, hl⟩
  have HM : Hid (∀ W, Below w.heap.size w W → Mx W) := fun W hB => hmx.below hB hmx.pos
  have HP0 : Hid (0 < w.heap.size) := hmx.pos
  have HD : Hid (Does m 40 act) := hd
  obtain ⟨R, hR⟩ : ∃ R, R = foldA act [] false l := ⟨_, rfl⟩
  rw [← hR]
  have HR : Hid (R = foldA act [] false l) := hR
  have HT : Hid (∀ W : World, W.cell? ⟨w.heap.size + 1, 0, none⟩ = some (.string m.kind) → Calls Tryz.prog 20 #[.pointer (some ⟨w.heap.size + 1, 0, none⟩)] W fun e w' => e = .returned (.func (Fn.func 40) #[.pointer (some ⟨w.heap.size + 1, 0, none⟩)] #[]) ∧ W = w') := fun W hW => toWord_fn _ _ _ hf W hW
  clear hnl hw hl hmx hd hR hf
  have hneq := fn_neq
  unfold Md.cells
  go_enter Tryz.func13, Tryz.ntmps13
  go_wp2_with fail
  refine (HT.out _ (by rw [World.cell?, heap_alloc_new']; rfl)).mono ?_
  rintro e w' ⟨rfl, rfl⟩
  have HA : Hid (Wk (w.heap.size + 2) (w.heap.size + 1) m (.slice none 0 0) [] false false ((w.alloc (.cells (mdV m.kind m.a m.b m.bg m.en m.ex m.al m.on m.mks m.ots m.frm m.upto) 37)).alloc (.cells (wkV m (.slice none 0 0) 0 false false) 51)) ∧ Below w.heap.size w ((w.alloc (.cells (mdV m.kind m.a m.b m.bg m.en m.ex m.al m.on m.mks m.ots m.frm m.upto) 37)).alloc (.cells (wkV m (.slice none 0 0) 0 false false) 51))) := by
    refine ⟨⟨?_, World.ownsRow_nil _ _ _ _, by simp [Value.ownBlock], by simp⟩, ((Below.refl _ w).alloc (Nat.le_refl _) _).alloc (by simp) _⟩
    exact heap_alloc_new'
  go_wp2
  go_loopw [18] (fun vi wr => ∃ (k : Nat) (v : Value) (made : List ByteArray) (done : Bool), k ≤ n ∧ vi = .int .i64 k ∧ made.length ≤ k ∧ sizeL made ≤ 65536 ∧ Hid (R = foldA act made done (l.drop k)) ∧ Hid (Wk (w.heap.size + 2) (w.heap.size + 1) m v made false done wr) ∧ Hid (Below w.heap.size w wr)) (fun vi _ => n - (intOf vi).toNat)
  case atStart => exact ⟨0, .slice none 0 0, [], false, Nat.zero_le _, rfl, Nat.le_refl _, Nat.zero_le _, HR, HA.out.1, HA.out.2⟩
  case round =>
    obtain ⟨k, v, made, done, hk, rfl, hmk, hsz, HRk, HWk, HB⟩ := hrel
    by_cases hlt : k < n
    · have hil : (k : Int) < (n : Int) := by omega
      have hkl : k < l.length := by rw [← HL.out.1]; exact hlt
      obtain ⟨b0, o0, ha, hb0, e1⟩ := (HW.out _ HB.out).pick k hkl
      subst ha
      obtain ⟨x, hx⟩ : ∃ x, x = l[k] := ⟨_, rfl⟩
      rw [← hx] at e1
      have HX : Hid (l.drop k = x :: l.drop (k + 1) ∧ x.size ≤ 1000000) := ⟨by rw [hx]; exact List.drop_eq_getElem_cons hkl, by rw [hx]; exact HL.out.2 _ (List.getElem_mem _)⟩
      clear hx hkl
      have HC : Hid (Calls Tryz.prog 40 #[.pointer (some ⟨w.heap.size + 1, 0, none⟩), .string x] wr fun e w' => e = .returned (.tuple #[]) ∧ Stp (w.heap.size + 2) (w.heap.size + 1) m v made (act done x made) wr w') := HD.out _ _ v made done x wr HWk.out HX.out.2 hsz (by omega) (HM.out _ HB.out) (by omega) (by omega)
      go_wp2_with fail
      refine HC.out.mono ?_
      rintro e w2 ⟨rfl, hst⟩
      obtain ⟨hg, hor⟩ := hst.next (t := l.drop (k + 1)) hsz
      have HB2 : Hid (Below w.heap.size w w2) := went_below HB.out (Nat.le_refl _) hg (by omega) (fun j hj => by have := (HWk.out.row.lt j hj).1; omega)
      clear hst hg
      rcases hor with ⟨⟨v2, l2, d2, hk2⟩, hnone⟩ | ⟨v2, l2, d2, hk2, hs2, hl2, hsome⟩
      · obtain ⟨_, ⟨r12, r13, r14, r15⟩, hfz⟩ := hk2.cells
        have HRN : Hid (R = none) := by unfold Hid; rw [HRk.out, HX.out.1]; exact hnone
        clear hk2 hnone
        go_wp2
        go_ret2
        refine ⟨HB2.out, ?_⟩
        rw [HRN.out]; rfl
      · obtain ⟨_, ⟨r12, r13, r14, r15⟩, hfz⟩ := hk2.cells
        have HK2 : Hid (Wk (w.heap.size + 2) (w.heap.size + 1) m v2 l2 false d2 w2) := hk2
        have HR2 : Hid (R = foldA act l2 d2 (l.drop (k + 1))) := by unfold Hid; rw [HRk.out, HX.out.1]; exact hsome
        clear hk2 hsome
        go_wp2
        go_roundw
        case rel => exact ⟨k + 1, v2, l2, d2, by omega, by go_num, by omega, hs2, HR2, HK2, HB2⟩
        case measure => simp [intOf]; omega
    · obtain rfl : k = n := by omega
      have hil : ¬ (k : Int) < (k : Int) := by omega
      obtain ⟨_, ⟨r12, r13, r14, r15⟩, hfz⟩ := HWk.out.cells
      have HRS : Hid (R = some made) := by unfold Hid; rw [HRk.out, HL.out.1, List.drop_length]; rfl
      have HO : Hid (wr.ownsRow w.heap.size 9 1 v made.length (made.map Value.string)) := owns_base HWk.out.row (by omega)
      obtain ⟨av, cv, hvv⟩ := owns_slice HWk.out.row
      subst hvv
      go_wp2
      go_ret2
      refine ⟨HB.out, ?_⟩
      rw [HRS.out]
      exact ⟨_, rfl, HO.out⟩
end Go.Proofs.YtedepknbaakkhabGreatDoor
namespace Go.Proofs.YtedepknbaakkhabGreatDoor
open Go.RowKit Go.Shelf
set_option maxHeartbeats 4000000 in
theorem repl_over (base b : Nat) (m : Md) (mks ots : Nat) (v : Value) (made : List ByteArray) (done : Bool) (x : ByteArray) (w : World) (h : Wk base b m v made false done w) (ha1 : 1 ≤ m.a.size) (ha : m.a.size ≤ 3000) (hmk : m.mks = mks) (hot : m.ots = ots) (hmks : mks ≤ 3000) (hots : ots ≤ 3000) (hx : x.size ≤ 1000000) (hs : sizeL made ≤ 65536) (hmx : Mx w) (hb0 : 0 < b) (hbase : 0 < base)
    (hk : ¬ (firstI m.bg m.en (bl m.a) (bl x) < 0 ∨ (done = true ∧ m.on = true))) (hr0 : ¬ replN m mks ots x + sizeL made ≤ 65536) :
    Calls Tryz.prog 32 #[.pointer (some ⟨b, 0, none⟩), .string x] w fun e w' => e = .returned (.tuple #[]) ∧ Wk base b m v made true true w' ∧ Went b v w w' := by
  have HV0 : Hid (v.ownBlock ≠ some 0) := fun e => by have := (h.row.lt 0 e).1; omega
  have HMx : Hid (∀ W, Went b v w W → Mx W) := fun W hW => hW.mx hmx hb0 HV0.out
  have HD : Hid (Wk base b m v made false true (w.setCell ⟨b, 15, none⟩ (.bool true)) ∧ Went b v w (w.setCell ⟨b, 15, none⟩ (.bool true))) := ⟨h.done' true, Went.set b 15 v w _⟩
  obtain ⟨⟨r0, r1, r2, r3, r4, r6, r7, r8, r9⟩, ⟨r12, r13, r14, r15⟩, hfz⟩ := h.cells
  clear h
  obtain ⟨F, hF⟩ : ∃ F, F = firstI m.bg m.en (bl m.a) (bl x) := ⟨_, rfl⟩
  have HFi : Hid (Calls Tryz.prog 56 #[.pointer (some ⟨b, 0, none⟩), .string x] w fun e w' => e = .returned (.int .i64 F) ∧ w = w') := by
    rw [hF]; exact first_any b m.a x m.bg m.en w r1 r3 r4 (by omega) hx hmx
  have hFle := firstI_le m.bg m.en (bl m.a) (bl x)
  obtain ⟨pl, hpl⟩ : ∃ pl, pl = placesN m.al m.bg m.en (bl m.a) (bl x) := ⟨_, rfl⟩
  unfold replN at hr0
  rw [← hF, bl_length] at hFle
  rw [← hF] at hk
  rw [← hpl] at hr0
  have hpl1 : pl ≤ 1000001 := by
    rw [hpl]; unfold placesN; split
    · have := Lib.count_le (bl x) (bl m.a); rw [bl_length] at this; omega
    · omega
  clear hF hmx
  obtain ⟨f, hf⟩ : ∃ f : Nat, F = f := ⟨F.toNat, by omega⟩
  subst hf
  have hf0 : ¬ (f : Int) < 0 := by omega
  have hfx : (f : Int) ≤ (x.size : Int) := hFle
  have hf00 : (0 : Int) ≤ (f : Int) := by omega
  have hdo : done = true → m.on = false := fun e => by
    have := fun e2 => hk (.inr ⟨e, e2⟩)
    simpa using this
  clear hk hFle
  obtain ⟨ma, hma⟩ : ∃ ma, ma = m.a := ⟨_, rfl⟩
  obtain ⟨mb, hmb⟩ : ∃ mb, mb = m.b := ⟨_, rfl⟩
  rw [← hma] at r1 ha ha1 hr0 hpl
  rw [← hmb] at r2
  rw [hmk] at r8
  rw [hot] at r9
  have HCl : Hid (∀ W v made o d, Wk base b m v made o d W → W.cell? ⟨b, 1, none⟩ = some (.string ma) ∧ W.cell? ⟨b, 2, none⟩ = some (.string mb) ∧ W.cell? ⟨b, 8, none⟩ = some (.int .i64 mks) ∧ W.cell? ⟨b, 9, none⟩ = some (.int .i64 ots)) := fun W v made o d hW => by
    rw [hma, hmb, ← hmk, ← hot]; have := hW.cells.1; exact ⟨this.2.1, this.2.2.1, this.2.2.2.2.2.2.2.1, this.2.2.2.2.2.2.2.2⟩
  clear hma hmb hmk hot
  obtain ⟨tk, htk⟩ : ∃ tk, tk = pl * ma.size := ⟨_, rfl⟩
  have htkb : tk ≤ 1000001 * 3000 := by rw [htk]; exact Nat.mul_le_mul hpl1 ha
  rw [← htk] at hr0
  have HTk : Hid (tk = pl * ma.size) := htk
  have hmul : (pl : Int) * (ma.size : Int) = (tk : Int) := by rw [htk]; simp
  have hwm : IntKind.i64.wrap ((pl : Int) * (ma.size : Int)) = (tk : Int) := by rw [hmul]; exact wrap_ok _ (by omega) (by omega)
  clear htk hmul
  obtain ⟨LN, hLN⟩ : ∃ LN, LN = (x.size : Int) - (tk : Nat) + (pl : Nat) * ots + (tk : Nat) * mks := ⟨_, rfl⟩
  rw [← hLN] at hr0
  have HLe : Hid (∀ W, Wk base b m v made false true W → Calls Tryz.prog 59 #[.pointer (some ⟨b, 0, none⟩), .string x, .int .i64 pl, .int .i64 tk] W fun e w' => e = .returned (.int .i64 LN) ∧ Below W.heap.size W w') := fun W hW => by
    obtain ⟨_, _, c8, c9⟩ := HCl.out W _ _ _ _ hW
    rw [hLN]; exact length_any b x mks ots pl tk W c8 c9 hx (by omega) (by omega) hpl1 (by omega)
  have HRo : Hid (∀ W, Wk base b m v made false true W → Calls Tryz.prog 58 #[.pointer (some ⟨b, 0, none⟩), .int .i64 LN] W fun e w' => e = .returned (.bool false) ∧ Wk base b m v made true true w' ∧ Went b v W w') := fun W hW => by
    have := room_any base b m v made false true LN W hW hs
    rw [decide_eq_false hr0] at this; exact this
  clear hLN hr0
  have n1 : ¬ ma.toList = [] := by rw [Lib.toList_data]; intro e; have := bl_length ma; unfold bl at this; rw [e] at this; simp at this; omega
  have n2 : ma.toList.isEmpty = false := by cases hh : ma.toList with | nil => exact absurd hh n1 | cons => rfl
  have n3 : (ma.toList != []) = true := bne_iff_ne.2 n1
  have n4 : (ma.toList == []) = false := beq_eq_false_iff_ne.2 n1
  rcases hal : m.al with _ | _
  · rw [hal] at r6
    have hp1 : pl = 1 := by rw [hpl]; unfold placesN; rw [if_neg (by simp [*])]
    have ht1 : tk = ma.size := by rw [HTk.out, hp1, Nat.one_mul]
    clear hwm hpl
    subst hp1
    subst ht1
    have hm1 : IntKind.i64.wrap (ma.size : Int) = (ma.size : Int) := wrap_ok _ (by omega) (by omega)
    clear HTk
    cases done with
    | false =>
      go_enter Tryz.func32, Tryz.ntmps32
      go_wp2_with fail
      refine HFi.out.mono ?_
      rintro e w' ⟨rfl, rfl⟩
      go_wp2_with fail
      refine (HLe.out _ HD.out.1).mono ?_
      rintro e w2 ⟨rfl, hb2⟩
      have HW2 : Hid (Wk base b m v made false true w2 ∧ Went b v w w2) := ⟨HD.out.1.below hb2, HD.out.2.same (Went.of_below hb2)⟩
      clear hb2
      go_wp2_with fail
      refine (HRo.out _ HW2.out.1).mono ?_
      rintro e w3 ⟨rfl, hW3, hg3⟩
      have HW3 : Hid (Wk base b m v made true true w3 ∧ Went b v w w3) := ⟨hW3, HW2.out.2.same hg3⟩
      clear hW3 hg3 HW2
      go_wp2
      refine bodyPost_end (v := .tuple #[]) (by simp [results, Tryz.results32, go_sem]) rfl ⟨rfl, HW3.out⟩
    | true =>
      rw [hdo rfl] at r7
      go_enter Tryz.func32, Tryz.ntmps32
      go_wp2_with fail
      refine HFi.out.mono ?_
      rintro e w' ⟨rfl, rfl⟩
      go_wp2_with fail
      refine (HLe.out _ HD.out.1).mono ?_
      rintro e w2 ⟨rfl, hb2⟩
      have HW2 : Hid (Wk base b m v made false true w2 ∧ Went b v w w2) := ⟨HD.out.1.below hb2, HD.out.2.same (Went.of_below hb2)⟩
      clear hb2
      go_wp2_with fail
      refine (HRo.out _ HW2.out.1).mono ?_
      rintro e w3 ⟨rfl, hW3, hg3⟩
      have HW3 : Hid (Wk base b m v made true true w3 ∧ Went b v w w3) := ⟨hW3, HW2.out.2.same hg3⟩
      clear hW3 hg3 HW2
      go_wp2
      refine bodyPost_end (v := .tuple #[]) (by simp [results, Tryz.results32, go_sem]) rfl ⟨rfl, HW3.out⟩
  · rw [hal] at r6
    rcases hbg : m.bg with _ | _
    · rw [hbg] at r3
      rcases hen : m.en with _ | _
      · rw [hen] at r4
        have hp1 : pl = Lib.count (bl x) (bl ma) := by rw [hpl]; unfold placesN; rw [if_pos ⟨hal, hbg, hen⟩]
        have HCo : Hid (∀ W, Mx W → Calls Tryz.prog 57 #[.string x, .string ma] W fun e w' => e = .returned (.int .i64 pl) ∧ W = w') := fun W hW => by
          obtain ⟨mm, hmm⟩ := hW
          rw [hp1]
          exact (Tryz.strings_Count_any x ma mm W (by omega) hmm ha1).mono (by rintro e w' ⟨rfl, rfl⟩; exact ⟨rfl, rfl⟩)
        clear hp1 hpl
        cases done with
        | false =>
          go_enter Tryz.func32, Tryz.ntmps32
          go_wp2_with fail
          refine HFi.out.mono ?_
          rintro e w' ⟨rfl, rfl⟩
          go_wp2_with fail
          refine (HCo.out _ (HMx.out _ HD.out.2)).mono ?_
          rintro e w1 ⟨rfl, rfl⟩
          go_wp2_with fail
          refine (HLe.out _ HD.out.1).mono ?_
          rintro e w2 ⟨rfl, hb2⟩
          have HW2 : Hid (Wk base b m v made false true w2 ∧ Went b v w w2) := ⟨HD.out.1.below hb2, HD.out.2.same (Went.of_below hb2)⟩
          clear hb2
          go_wp2_with fail
          refine (HRo.out _ HW2.out.1).mono ?_
          rintro e w3 ⟨rfl, hW3, hg3⟩
          have HW3 : Hid (Wk base b m v made true true w3 ∧ Went b v w w3) := ⟨hW3, HW2.out.2.same hg3⟩
          clear hW3 hg3 HW2
          go_wp2
          refine bodyPost_end (v := .tuple #[]) (by simp [results, Tryz.results32, go_sem]) rfl ⟨rfl, HW3.out⟩
        | true =>
          rw [hdo rfl] at r7
          go_enter Tryz.func32, Tryz.ntmps32
          go_wp2_with fail
          refine HFi.out.mono ?_
          rintro e w' ⟨rfl, rfl⟩
          go_wp2_with fail
          refine (HCo.out _ (HMx.out _ HD.out.2)).mono ?_
          rintro e w1 ⟨rfl, rfl⟩
          go_wp2_with fail
          refine (HLe.out _ HD.out.1).mono ?_
          rintro e w2 ⟨rfl, hb2⟩
          have HW2 : Hid (Wk base b m v made false true w2 ∧ Went b v w w2) := ⟨HD.out.1.below hb2, HD.out.2.same (Went.of_below hb2)⟩
          clear hb2
          go_wp2_with fail
          refine (HRo.out _ HW2.out.1).mono ?_
          rintro e w3 ⟨rfl, hW3, hg3⟩
          have HW3 : Hid (Wk base b m v made true true w3 ∧ Went b v w w3) := ⟨hW3, HW2.out.2.same hg3⟩
          clear hW3 hg3 HW2
          go_wp2
          refine bodyPost_end (v := .tuple #[]) (by simp [results, Tryz.results32, go_sem]) rfl ⟨rfl, HW3.out⟩
      · rw [hen] at r4
        have hp1 : pl = 1 := by rw [hpl]; unfold placesN; rw [if_neg (by simp [*])]
        have ht1 : tk = ma.size := by rw [HTk.out, hp1, Nat.one_mul]
        clear hwm hpl
        subst hp1
        subst ht1
        have hm1 : IntKind.i64.wrap (ma.size : Int) = (ma.size : Int) := wrap_ok _ (by omega) (by omega)
        clear HTk
        cases done with
        | false =>
          go_enter Tryz.func32, Tryz.ntmps32
          go_wp2_with fail
          refine HFi.out.mono ?_
          rintro e w' ⟨rfl, rfl⟩
          go_wp2_with fail
          refine (HLe.out _ HD.out.1).mono ?_
          rintro e w2 ⟨rfl, hb2⟩
          have HW2 : Hid (Wk base b m v made false true w2 ∧ Went b v w w2) := ⟨HD.out.1.below hb2, HD.out.2.same (Went.of_below hb2)⟩
          clear hb2
          go_wp2_with fail
          refine (HRo.out _ HW2.out.1).mono ?_
          rintro e w3 ⟨rfl, hW3, hg3⟩
          have HW3 : Hid (Wk base b m v made true true w3 ∧ Went b v w w3) := ⟨hW3, HW2.out.2.same hg3⟩
          clear hW3 hg3 HW2
          go_wp2
          refine bodyPost_end (v := .tuple #[]) (by simp [results, Tryz.results32, go_sem]) rfl ⟨rfl, HW3.out⟩
        | true =>
          rw [hdo rfl] at r7
          go_enter Tryz.func32, Tryz.ntmps32
          go_wp2_with fail
          refine HFi.out.mono ?_
          rintro e w' ⟨rfl, rfl⟩
          go_wp2_with fail
          refine (HLe.out _ HD.out.1).mono ?_
          rintro e w2 ⟨rfl, hb2⟩
          have HW2 : Hid (Wk base b m v made false true w2 ∧ Went b v w w2) := ⟨HD.out.1.below hb2, HD.out.2.same (Went.of_below hb2)⟩
          clear hb2
          go_wp2_with fail
          refine (HRo.out _ HW2.out.1).mono ?_
          rintro e w3 ⟨rfl, hW3, hg3⟩
          have HW3 : Hid (Wk base b m v made true true w3 ∧ Went b v w w3) := ⟨hW3, HW2.out.2.same hg3⟩
          clear hW3 hg3 HW2
          go_wp2
          refine bodyPost_end (v := .tuple #[]) (by simp [results, Tryz.results32, go_sem]) rfl ⟨rfl, HW3.out⟩
    · rw [hbg] at r3
      have hp1 : pl = 1 := by rw [hpl]; unfold placesN; rw [if_neg (by simp [*])]
      have ht1 : tk = ma.size := by rw [HTk.out, hp1, Nat.one_mul]
      clear hwm hpl
      subst hp1
      subst ht1
      have hm1 : IntKind.i64.wrap (ma.size : Int) = (ma.size : Int) := wrap_ok _ (by omega) (by omega)
      clear HTk
      cases done with
      | false =>
        go_enter Tryz.func32, Tryz.ntmps32
        go_wp2_with fail
        refine HFi.out.mono ?_
        rintro e w' ⟨rfl, rfl⟩
        go_wp2_with fail
        refine (HLe.out _ HD.out.1).mono ?_
        rintro e w2 ⟨rfl, hb2⟩
        have HW2 : Hid (Wk base b m v made false true w2 ∧ Went b v w w2) := ⟨HD.out.1.below hb2, HD.out.2.same (Went.of_below hb2)⟩
        clear hb2
        go_wp2_with fail
        refine (HRo.out _ HW2.out.1).mono ?_
        rintro e w3 ⟨rfl, hW3, hg3⟩
        have HW3 : Hid (Wk base b m v made true true w3 ∧ Went b v w w3) := ⟨hW3, HW2.out.2.same hg3⟩
        clear hW3 hg3 HW2
        go_wp2
        refine bodyPost_end (v := .tuple #[]) (by simp [results, Tryz.results32, go_sem]) rfl ⟨rfl, HW3.out⟩
      | true =>
        rw [hdo rfl] at r7
        go_enter Tryz.func32, Tryz.ntmps32
        go_wp2_with fail
        refine HFi.out.mono ?_
        rintro e w' ⟨rfl, rfl⟩
        go_wp2_with fail
        refine (HLe.out _ HD.out.1).mono ?_
        rintro e w2 ⟨rfl, hb2⟩
        have HW2 : Hid (Wk base b m v made false true w2 ∧ Went b v w w2) := ⟨HD.out.1.below hb2, HD.out.2.same (Went.of_below hb2)⟩
        clear hb2
        go_wp2_with fail
        refine (HRo.out _ HW2.out.1).mono ?_
        rintro e w3 ⟨rfl, hW3, hg3⟩
        have HW3 : Hid (Wk base b m v made true true w3 ∧ Went b v w w3) := ⟨hW3, HW2.out.2.same hg3⟩
        clear hW3 hg3 HW2
        go_wp2
        refine bodyPost_end (v := .tuple #[]) (by simp [results, Tryz.results32, go_sem]) rfl ⟨rfl, HW3.out⟩
end Go.Proofs.YtedepknbaakkhabGreatDoor
namespace Go.Proofs.YtedepknbaakkhabGreatDoor
open Go.RowKit Go.Shelf
def actM (m : Md) : ActF := fun done x _ => some (done, if G.matchB (bl m.a) (bl x) = true then some x else none)
def actN (m : Md) : ActF := fun done x _ => some (done, if G.matchB (bl m.a) (bl x) = true then none else some x)
def actE (m : Md) : ActF := fun done x _ => some (done, some (ba (endedL (bl m.a) (bl m.b) (bl x))))
open Classical in
noncomputable def actS (m : Md) (mks ots : Nat) : ActF := fun done x made =>
  if firstI m.bg m.en (bl m.a) (bl x) < 0 ∨ (done = true ∧ m.on = true) then some (done, some x)
  else if replN m mks ots x + sizeL made ≤ 65536 then some (true, some (replY m x)) else none
theorem does_m (m : Md) (ha : m.a.size ≤ 1000000) : Does m 30 (actM m) := fun base b v made done x W h1 h2 h3 h4 _ _ _ => matching_any base b m v made done x W h1 ha h2 h3 h4
theorem does_n (m : Md) (ha : m.a.size ≤ 1000000) : Does m 31 (actN m) := fun base b v made done x W h1 h2 h3 h4 _ _ _ => other_any base b m v made done x W h1 ha h2 h3 h4
theorem does_e (m : Md) (ha : m.a.size ≤ 1000000) (hb : m.b.size ≤ 1000000) : Does m 40 (actE m) := fun base b v made done x W h1 h2 h3 h4 h5 _ _ => endedSo_any base b m v made done x W h1 ha hb h2 h3 h4 h5
theorem does_s (m : Md) (mks ots : Nat) (ha1 : 1 ≤ m.a.size) (ha : m.a.size ≤ 3000) (hb : m.b.size ≤ 3000) (hmk : m.mks = mks) (hot : m.ots = ots) (hmks : mks ≤ 3000) (hots : ots ≤ 3000) : Does m 32 (actS m mks ots) := fun base b v made done x W h1 h2 h3 h4 h5 h6 h7 => by
  unfold actS
  by_cases hk : firstI m.bg m.en (bl m.a) (bl x) < 0 ∨ (done = true ∧ m.on = true)
  · rw [if_pos hk]
    exact repl_keep base b m v made done x W h1 (by omega) h2 h3 h4 h5 hk
  · rw [if_neg hk]
    by_cases hr : replN m mks ots x + sizeL made ≤ 65536
    · rw [if_pos hr]
      exact repl_go base b m mks ots v made done x W h1 ha1 ha hb hmk hot hmks hots h2 h3 h4 h5 h6 h7 hk hr
    · rw [if_neg hr]
      refine (repl_over base b m mks ots v made done x W h1 ha1 ha hmk hot hmks hots h2 h3 h5 h6 h7 hk hr).mono ?_
      rintro e w' ⟨rfl, hw, hg⟩
      exact ⟨rfl, ⟨v, made, true, hw⟩, hg⟩
def Few (l : List ByteArray) : Prop := l.length ≤ 4096 ∧ sizeL l ≤ 65536
theorem size_mem {l : List ByteArray} {y : ByteArray} (h : y ∈ l) : y.size ≤ sizeL l := by
  induction l with
  | nil => cases h
  | cons x t ih =>
    simp only [sizeL, List.map_cons, List.sum_cons] at ih ⊢
    rcases List.mem_cons.1 h with rfl | h
    · omega
    · have := ih h; omega
theorem foldA_few (act : ActF) : ∀ (l made : List ByteArray) (done : Bool) (r : List ByteArray), foldA act made done l = some r → sizeL made ≤ 65536 → sizeL r ≤ 65536 ∧ r.length ≤ made.length + l.length
  | [], made, done, r, h, hs => by rw [foldA] at h; cases h; exact ⟨hs, Nat.le_refl _⟩
  | x :: t, made, done, r, h, hs => by
    rw [foldA] at h
    cases hr : act done x made with
    | none => rw [hr] at h; cases h
    | some p =>
      obtain ⟨d, y⟩ := p
      rw [hr] at h
      cases y with
      | none => have := foldA_few act t made d r h hs; simp only [List.length_cons]; omega
      | some y =>
        dsimp only at h
        split at h
        · have := foldA_few act t (made ++ [y]) d r h (by rw [sizeL_snoc]; omega)
          simp only [List.length_append, List.length_cons, List.length_nil] at this ⊢; omega
        · cases h
def Applies (m : Md) (g : List ByteArray → Option (List ByteArray)) : Prop :=
  (∀ l r, Few l → g l = some r → Few r) ∧ ∀ base v l w, w.ownsRow base 9 1 v l.length (l.map Value.string) → Few l → Mx w → 0 < base → base ≤ w.heap.size →
  Calls Tryz.prog 13 #[.agg m.cells, v] w fun e w' => Below base w w' ∧ match g l with
    | none => e = .returned (.tuple #[.slice none 0 0, .bool false])
    | some r => ∃ v', e = .returned (.tuple #[v', .bool true]) ∧ w'.ownsRow base 9 1 v' r.length (r.map Value.string)
theorem applies_of {m : Md} {act : ActF}
    (h : ∀ (a : Option Addr) (n c : Nat) (l : List ByteArray) (w : World), Words w.heap.size w (.slice a n c) l → n ≤ 10000 → (∀ y ∈ l, y.size ≤ 1000000) → Mx w → Calls Tryz.prog 13 #[.agg m.cells, .slice a n c] w fun e w' => ApplyPost w (foldA act [] false l) e w') :
    Applies m (foldA act [] false) := by
  refine ⟨fun l r hf hr => ?_, fun base v l w ho hf hm hb hbs => ?_⟩
  · have := foldA_few act l [] false r hr (Nat.zero_le _)
    simp only [List.length_nil, Nat.zero_add] at this
    exact ⟨by have := hf.1; omega, this.1⟩
  · obtain ⟨a, c, rfl⟩ := owns_slice ho
    refine (h a l.length c l w (words_of_owns ho (Nat.le_refl _)) (by have := hf.1; omega) (fun y hy => by have := size_mem hy; have := hf.2; omega) hm).mono ?_
    rintro e w' ⟨h1, h2⟩
    refine ⟨h1.mono hbs, ?_⟩
    cases hr : foldA act [] false l with
    | none => rw [hr] at h2; exact h2
    | some r =>
      rw [hr] at h2
      obtain ⟨v', e1, e2⟩ := h2
      exact ⟨v', e1, owns_base e2 hbs⟩
theorem applies_m (m : Md) (hk : m.kind = ⟨#[77]⟩) (ha : m.a.size ≤ 1000000) : Applies m (foldA (actM m) [] false) :=
  applies_of fun a n c l w h1 h2 h3 h4 => apply_matching m (actM m) (by rw [hk]; simp [fnL]) (does_m m ha) a n c l w h1 h2 h3 h4
theorem applies_e (m : Md) (hk : m.kind = ⟨#[61]⟩) (ha : m.a.size ≤ 1000000) (hb : m.b.size ≤ 1000000) : Applies m (foldA (actE m) [] false) :=
  applies_of fun a n c l w h1 h2 h3 h4 => apply_endedSo m (actE m) (by rw [hk]; simp [fnL]) (does_e m ha hb) a n c l w h1 h2 h3 h4
theorem applies_s (m : Md) (mks ots : Nat) (hk : m.kind = ⟨#[83]⟩) (ha1 : 1 ≤ m.a.size) (ha : m.a.size ≤ 3000) (hb : m.b.size ≤ 3000) (hmk : m.mks = mks) (hot : m.ots = ots) (hmks : mks ≤ 3000) (hots : ots ≤ 3000) : Applies m (foldA (actS m mks ots) [] false) :=
  applies_of fun a n c l w h1 h2 h3 h4 => apply_replaced m (actS m mks ots) (by rw [hk]; simp [fnL]) (does_s m mks ots ha1 ha hb hmk hot hmks hots) a n c l w h1 h2 h3 h4
end Go.Proofs.YtedepknbaakkhabGreatDoor
