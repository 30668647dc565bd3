/-
  M33 DQ7
-/
import Derived.Test.YtpcpcfnmcfjomaaGreatDoorK17
import Derived.Test.YtpcpcfnmcfjomaaGreatDoorK15
namespace Go.Proofs.YtpcpcfnmcfjomaaGreatDoor
open Go.RowKit Go.Shelf
def BRow (W : World) (g : Nat) (l : List UInt8) : Prop := ∃ arr fz, W.heap[g]? = some (.cells arr 5 fz) ∧ l.length ≤ fz.1 ∧ ∀ j (h : j < l.length), arr[j]? = some (.int .u8 (l[j].toNat : Int))
theorem BRow.cell {W : World} {g : Nat} {l : List UInt8} (h : BRow W g l) (j : Nat) (hj : j < l.length) : W.cell? ⟨g, j, none⟩ = some (.int .u8 (l[j].toNat : Int)) ∧ W.frozen? ⟨g, j, none⟩ = false := by
  obtain ⟨arr, fz, h1, h2, h3⟩ := h
  refine ⟨by simp only [World.cell?, h1]; simpa using h3 j hj, ?_⟩
  simp only [World.frozen?, h1]
  simp; omega
theorem BRow.set {W : World} {g : Nat} {l : List UInt8} (h : BRow W g l) (j : Nat) (c : UInt8) : BRow (W.setCell ⟨g, j, none⟩ (.int .u8 (c.toNat : Int))) g (l.set j c) := by
  obtain ⟨arr, fz, h1, h2, h3⟩ := h
  refine ⟨arr.setIfInBounds j (.int .u8 (c.toNat : Int)), fz, by simp [World.setCell, Array.getElem?_modify, h1], by simpa using h2, fun i hi => ?_⟩
  have hi' : i < l.length := by simpa using hi
  have h4 := h3 i hi'
  have hia : i < arr.size := (Array.getElem?_eq_some_iff.1 h4).1
  by_cases he : j = i
  · subst he
    rw [Array.getElem?_setIfInBounds_self_of_lt hia]; simp
  · rw [Array.getElem?_setIfInBounds_ne he, h4]; simp [he]
def shiftC (f t c : UInt8) : UInt8 := if f ≤ c ∧ c < f + 26 then c - f + t else c
def shiftTo (f t : UInt8) (k : Nat) (l : List UInt8) : List UInt8 := (l.take k).map (shiftC f t) ++ l.drop k
theorem shiftTo_len (f t : UInt8) (k : Nat) (l : List UInt8) : (shiftTo f t k l).length = l.length := by unfold shiftTo; simp; omega
theorem shiftTo_all (f t : UInt8) (l : List UInt8) : shiftTo f t l.length l = l.map (shiftC f t) := by unfold shiftTo; simp
theorem shiftTo_zero (f t : UInt8) (l : List UInt8) : shiftTo f t 0 l = l := by unfold shiftTo; simp
theorem shiftTo_get (f t : UInt8) (k : Nat) (l : List UInt8) (h : k < l.length) : (shiftTo f t k l)[k]'(by rw [shiftTo_len]; exact h) = l[k] := by
  unfold shiftTo
  rw [List.getElem_append_right (by simp; omega)]
  simp [Nat.min_eq_left (Nat.le_of_lt h)]
theorem shiftTo_next (f t : UInt8) (k : Nat) (l : List UInt8) (h : k < l.length) : shiftTo f t (k + 1) l = (shiftTo f t k l).set k (shiftC f t l[k]) := by
  unfold shiftTo
  rw [List.take_succ_eq_append_getElem h, List.drop_eq_getElem_cons (i := k) h, List.set_append_right _ _ (by simp; omega), List.map_append, List.append_assoc]
  simp [Nat.min_eq_left (Nat.le_of_lt h)]
  rw [List.drop_eq_getElem_cons (i := k) h]; rfl
theorem shiftTo_same (f t : UInt8) (k : Nat) (l : List UInt8) (h : k < l.length) (hc : shiftC f t l[k] = l[k]) : shiftTo f t (k + 1) l = shiftTo f t k l := by
  unfold shiftTo
  rw [List.take_succ_eq_append_getElem h, List.drop_eq_getElem_cons (i := k) h, List.map_append, List.append_assoc]
  simp [hc]
theorem bytes_new (w : World) (s : ByteArray) (c n : Nat) (hn : (bytesRow s c).size ≤ n) : BRow (w.alloc (.cells (bytesRow s c) 5 (n, n + 1))).drew w.heap.size (bl s) := by
  refine ⟨bytesRow s c, (n, n + 1), heap_alloc_new w _, Nat.le_trans (by simp [bytesRow, bl]) hn, fun j hj => ?_⟩
  have hj' : j < s.data.size := by simpa [bl] using hj
  unfold bytesRow
  rw [Array.getElem?_append_left (by simpa using hj')]
  have h3 : s.data[j]? = some s.data[j] := Array.getElem?_eq_getElem hj'
  simp [h3, bl]
theorem shift_up (c : UInt8) (h1 : 65 ≤ c.toNat) (h2 : c.toNat < 91) : ((shiftC 65 97 c).toNat : Int) = (c.toNat : Int) - 65 + 97 := by
  have e : shiftC 65 97 c = c - 65 + 97 := if_pos ⟨(UInt8.le_iff_toNat_le.2 (show (65 : UInt8).toNat ≤ c.toNat from h1)), (UInt8.lt_iff_toNat_lt.2 (show c.toNat < (65 + 26 : UInt8).toNat from h2))⟩
  rw [e, UInt8.toNat_add, UInt8.toNat_sub_of_le _ _ (UInt8.le_iff_toNat_le.2 (show (65 : UInt8).toNat ≤ c.toNat from h1))]
  have e1 : (65 : UInt8).toNat = 65 := rfl
  have e2 : (97 : UInt8).toNat = 97 := rfl
  rw [e1, e2]; omega
theorem shift_down (c : UInt8) (h1 : 97 ≤ c.toNat) (h2 : c.toNat < 123) : ((shiftC 97 65 c).toNat : Int) = (c.toNat : Int) - 97 + 65 := by
  have e : shiftC 97 65 c = c - 97 + 65 := if_pos ⟨(UInt8.le_iff_toNat_le.2 (show (97 : UInt8).toNat ≤ c.toNat from h1)), (UInt8.lt_iff_toNat_lt.2 (show c.toNat < (97 + 26 : UInt8).toNat from h2))⟩
  rw [e, UInt8.toNat_add, UInt8.toNat_sub_of_le _ _ (UInt8.le_iff_toNat_le.2 (show (97 : UInt8).toNat ≤ c.toNat from h1))]
  have e1 : (65 : UInt8).toNat = 65 := rfl
  have e2 : (97 : UInt8).toNat = 97 := rfl
  rw [e1, e2]; omega
theorem shift_not (f t c : UInt8) (n : Nat) (hn : (f + 26).toNat = n) (h : ¬ (f.toNat ≤ c.toNat ∧ c.toNat < n)) : shiftC f t c = c := by
  unfold shiftC
  rw [if_neg]
  rintro ⟨h1, h2⟩
  exact h ⟨UInt8.le_iff_toNat_le.1 h1, hn ▸ UInt8.lt_iff_toNat_lt.1 h2⟩
set_option maxRecDepth 20000 in
set_option maxHeartbeats 800000 in
theorem shifted_tl (x : ByteArray) (w : World) (hx : x.size ≤ 1000000) :
    Calls Tryz.prog 101 #[.string x, .int .u8 65, .int .u8 97] w fun e w' => e = .returned (.string (ba ((bl x).map (shiftC 65 97)))) ∧ Below w.heap.size w w' := by
  have hcv := run_bytes_of_string (P := Tryz.prog) w 9 25 5 x Tryz.underlying9 Tryz.underlying25 Tryz.underlying5
  obtain ⟨cp, hcp⟩ : ∃ cp, cp = grownCap w x.size 0 5 := ⟨_, rfl⟩
  rw [← hcp] at hcv
  obtain ⟨o, ho⟩ : ∃ o, o = Obj.cells (bytesRow x cp) 5 ((bytesRow x cp).size, (bytesRow x cp).size + 1) := ⟨_, rfl⟩
  rw [← ho] at hcv
  have HO : Hid (BRow (w.alloc o).drew w.heap.size (bl x) ∧ Below w.heap.size w (w.alloc o).drew) := ⟨by rw [ho]; exact bytes_new w x cp _ (Nat.le_refl _), ((Below.refl _ w).alloc (Nat.le_refl _) o).drew⟩
  obtain ⟨L, hL⟩ : ∃ L, L = bl x := ⟨_, rfl⟩
  have hLs : L.length = x.size := by rw [hL, bl_length]
  have HL : Hid (L = bl x ∧ L.length = x.size) := ⟨hL, hLs⟩
  clear hcp ho hL hLs
  go_enter Tryz.func101, Tryz.ntmps101
  go_wp2
  clear hcv
  go_loopw [14] (fun vi wr => ∃ k : Nat, k ≤ x.size ∧ vi = .int .i64 k ∧ Hid (BRow wr w.heap.size (shiftTo 65 97 k L)) ∧ Hid (Below w.heap.size w wr)) (fun vi _ => x.size - (intOf vi).toNat)
  case atStart => exact ⟨0, Nat.zero_le _, rfl, by unfold Hid; rw [shiftTo_zero, HL.out.1]; exact HO.out.1, HO.out.2⟩
  case round =>
    obtain ⟨k, hk, rfl, HR, HB⟩ := hrel
    by_cases hlt : k < x.size
    · have hil : (k : Int) < (x.size : Int) := by omega
      have hkl : k < L.length := by rw [HL.out.2]; exact hlt
      obtain ⟨q1, q2⟩ := HR.out.cell k (by rw [shiftTo_len]; exact hkl)
      rw [shiftTo_get _ _ _ _ hkl] at q1
      have hn1 := shiftTo_next 65 97 k L hkl
      have hn2 := shiftTo_same 65 97 k L hkl
      obtain ⟨c, hc⟩ : ∃ c, c = L[k] := ⟨_, rfl⟩
      rw [← hc] at q1 hn1 hn2
      have HN1 : Hid (shiftTo 65 97 (k + 1) L = (shiftTo 65 97 k L).set k (shiftC 65 97 c)) := hn1
      have HN2 : Hid (shiftC 65 97 c = c → shiftTo 65 97 (k + 1) L = shiftTo 65 97 k L) := hn2
      clear hc hn1 hn2 hkl
      by_cases hin : 65 ≤ c.toNat ∧ c.toNat < 91
      · obtain ⟨i1, i2⟩ := hin
        have HV : Hid (((shiftC 65 97 c).toNat : Int) = (c.toNat : Int) - 65 + 97) := shift_up c i1 i2
        obtain ⟨cn, hcn⟩ : ∃ cn : Int, cn = (c.toNat : Int) := ⟨_, rfl⟩
        rw [← hcn] at q1
        have j1 : (65 : Int) ≤ cn := by omega
        have j2 : cn < 91 := by omega
        have HV2 : Hid (((shiftC 65 97 c).toNat : Int) = cn - 65 + 97) := by rw [hcn]; exact HV
        clear HV hcn i1 i2
        go_wp2
        go_roundw
        case rel =>
          refine ⟨k + 1, by omega, by go_num, ?_, HB.out.setCell (Nat.le_refl _) _⟩
          unfold Hid
          rw [HN1.out, ← HV2.out]
          exact HR.out.set k _
        case measure => simp [intOf]; omega
      · have HS : Hid (shiftTo 65 97 (k + 1) L = shiftTo 65 97 k L) := HN2.out (shift_not 65 97 c 91 rfl hin)
        obtain ⟨cn, hcn⟩ : ∃ cn : Int, cn = (c.toNat : Int) := ⟨_, rfl⟩
        rw [← hcn] at q1
        have j1 : ¬ ((65 : Int) ≤ cn ∧ cn < 91) := by omega
        clear hcn hin
        by_cases j2 : (65 : Int) ≤ cn
        · have j3 : ¬ cn < 91 := fun h => j1 ⟨j2, h⟩
          clear j1
          go_wp2
          go_roundw
          case rel => exact ⟨k + 1, by omega, by go_num, by unfold Hid; rw [HS.out]; exact HR.out, HB⟩
          case measure => simp [intOf]; omega
        · clear j1
          go_wp2
          go_roundw
          case rel => exact ⟨k + 1, by omega, by go_num, by unfold Hid; rw [HS.out]; exact HR.out, HB⟩
          case measure => simp [intOf]; omega
    · obtain rfl : k = x.size := by omega
      have hcv2 : (convert 25 9 (.slice (some ⟨w.heap.size, 0, none⟩) x.size cp)).run Tryz.prog wr = .ok (.string (ba ((bl x).map (shiftC 65 97)))) wr := by
        have hR := HR.out
        rw [← HL.out.2, shiftTo_all, HL.out.1] at hR
        have := run_convert_bytes_back (P := Tryz.prog) wr 25 9 5 ⟨w.heap.size, 0, none⟩ cp ((bl x).map (shiftC 65 97)) Tryz.underlying25 Tryz.underlying5 Tryz.underlying9 (fun j hj => by
          have e : (⟨w.heap.size, 0, none⟩ : Addr).add j = ⟨w.heap.size, j, none⟩ := by unfold Addr.add; split <;> simp_all
          rw [e]; exact (hR.cell j hj).1)
        rw [List.length_map, bl_length] at this
        exact this
      go_wp2
      go_ret
      exact ⟨rfl, HB.out⟩
set_option maxRecDepth 20000 in
set_option maxHeartbeats 1600000 in
theorem w_small_any (base b : Nat) (m : Md) (v : Value) (made : List ByteArray) (done : Bool) (x : ByteArray) (w : World) (h : Wk base b m v made false done w) (hx : x.size ≤ 1000000) (hs : sizeL made ≤ 65536) (hl : made.length ≤ 100000) :
    Calls Tryz.prog 53 #[.pointer (some ⟨b, 0, none⟩), .string x] w fun e w' => e = .returned (.tuple #[]) ∧ Step base b m v made done (some (ba ((bl x).map (shiftC 65 97)))) w w' := by
  have HN : Hid (∀ W, Calls Tryz.prog 101 #[.string x, .int .u8 65, .int .u8 97] W fun e w' => e = .returned (.string (ba ((bl x).map (shiftC 65 97)))) ∧ Below W.heap.size W w') := fun W => shifted_tl x W hx
  obtain ⟨y, hy⟩ : ∃ y, y = ba ((bl x).map (shiftC 65 97)) := ⟨_, rfl⟩
  rw [← hy] at HN ⊢
  have HK : Hid (∀ W, Wk base b m v made false done W → Calls Tryz.prog 89 #[.pointer (some ⟨b, 0, none⟩), .string y] W fun e w' => e = .returned (.tuple #[]) ∧ Step base b m v made done (some y) W w') := fun W hW => keep_any base b m v made false done y W hW hs hl
  have HW : Hid (Wk base b m v made false done w) := h
  clear h hy
  go_enter Tryz.func53, Tryz.ntmps53
  go_wp2_with fail
  refine (HN.out _).mono ?_
  rintro e w1 ⟨rfl, hb1⟩
  have HZ : Hid (Below w.heap.size w w1) := hb1
  clear hb1
  go_wp2_with fail
  refine (HK.out _ (HW.out.below HZ.out)).mono ?_
  rintro e w2 ⟨rfl, hst⟩
  have HS : Hid (Step base b m v made done (some y) w w2) := hst.of_below HZ.out
  clear hst
  go_wp2
  refine bodyPost_end (v := .tuple #[]) (by simp [results, Tryz.results53, go_sem]) rfl ⟨rfl, HS.out⟩
set_option maxRecDepth 20000 in
set_option maxHeartbeats 800000 in
theorem shifted_tu (x : ByteArray) (w : World) (hx : x.size ≤ 1000000) :
    Calls Tryz.prog 101 #[.string x, .int .u8 97, .int .u8 65] w fun e w' => e = .returned (.string (ba ((bl x).map (shiftC 97 65)))) ∧ Below w.heap.size w w' := by
  have hcv := run_bytes_of_string (P := Tryz.prog) w 9 25 5 x Tryz.underlying9 Tryz.underlying25 Tryz.underlying5
  obtain ⟨cp, hcp⟩ : ∃ cp, cp = grownCap w x.size 0 5 := ⟨_, rfl⟩
  rw [← hcp] at hcv
  obtain ⟨o, ho⟩ : ∃ o, o = Obj.cells (bytesRow x cp) 5 ((bytesRow x cp).size, (bytesRow x cp).size + 1) := ⟨_, rfl⟩
  rw [← ho] at hcv
  have HO : Hid (BRow (w.alloc o).drew w.heap.size (bl x) ∧ Below w.heap.size w (w.alloc o).drew) := ⟨by rw [ho]; exact bytes_new w x cp _ (Nat.le_refl _), ((Below.refl _ w).alloc (Nat.le_refl _) o).drew⟩
  obtain ⟨L, hL⟩ : ∃ L, L = bl x := ⟨_, rfl⟩
  have hLs : L.length = x.size := by rw [hL, bl_length]
  have HL : Hid (L = bl x ∧ L.length = x.size) := ⟨hL, hLs⟩
  clear hcp ho hL hLs
  go_enter Tryz.func101, Tryz.ntmps101
  go_wp2
  clear hcv
  go_loopw [14] (fun vi wr => ∃ k : Nat, k ≤ x.size ∧ vi = .int .i64 k ∧ Hid (BRow wr w.heap.size (shiftTo 97 65 k L)) ∧ Hid (Below w.heap.size w wr)) (fun vi _ => x.size - (intOf vi).toNat)
  case atStart => exact ⟨0, Nat.zero_le _, rfl, by unfold Hid; rw [shiftTo_zero, HL.out.1]; exact HO.out.1, HO.out.2⟩
  case round =>
    obtain ⟨k, hk, rfl, HR, HB⟩ := hrel
    by_cases hlt : k < x.size
    · have hil : (k : Int) < (x.size : Int) := by omega
      have hkl : k < L.length := by rw [HL.out.2]; exact hlt
      obtain ⟨q1, q2⟩ := HR.out.cell k (by rw [shiftTo_len]; exact hkl)
      rw [shiftTo_get _ _ _ _ hkl] at q1
      have hn1 := shiftTo_next 97 65 k L hkl
      have hn2 := shiftTo_same 97 65 k L hkl
      obtain ⟨c, hc⟩ : ∃ c, c = L[k] := ⟨_, rfl⟩
      rw [← hc] at q1 hn1 hn2
      have HN1 : Hid (shiftTo 97 65 (k + 1) L = (shiftTo 97 65 k L).set k (shiftC 97 65 c)) := hn1
      have HN2 : Hid (shiftC 97 65 c = c → shiftTo 97 65 (k + 1) L = shiftTo 97 65 k L) := hn2
      clear hc hn1 hn2 hkl
      by_cases hin : 97 ≤ c.toNat ∧ c.toNat < 123
      · obtain ⟨i1, i2⟩ := hin
        have HV : Hid (((shiftC 97 65 c).toNat : Int) = (c.toNat : Int) - 97 + 65) := shift_down c i1 i2
        obtain ⟨cn, hcn⟩ : ∃ cn : Int, cn = (c.toNat : Int) := ⟨_, rfl⟩
        rw [← hcn] at q1
        have j1 : (97 : Int) ≤ cn := by omega
        have j2 : cn < 123 := by omega
        have HV2 : Hid (((shiftC 97 65 c).toNat : Int) = cn - 97 + 65) := by rw [hcn]; exact HV
        clear HV hcn i1 i2
        go_wp2
        go_roundw
        case rel =>
          refine ⟨k + 1, by omega, by go_num, ?_, HB.out.setCell (Nat.le_refl _) _⟩
          unfold Hid
          rw [HN1.out, ← HV2.out]
          exact HR.out.set k _
        case measure => simp [intOf]; omega
      · have HS : Hid (shiftTo 97 65 (k + 1) L = shiftTo 97 65 k L) := HN2.out (shift_not 97 65 c 123 rfl hin)
        obtain ⟨cn, hcn⟩ : ∃ cn : Int, cn = (c.toNat : Int) := ⟨_, rfl⟩
        rw [← hcn] at q1
        have j1 : ¬ ((97 : Int) ≤ cn ∧ cn < 123) := by omega
        clear hcn hin
        by_cases j2 : (97 : Int) ≤ cn
        · have j3 : ¬ cn < 123 := fun h => j1 ⟨j2, h⟩
          clear j1
          go_wp2
          go_roundw
          case rel => exact ⟨k + 1, by omega, by go_num, by unfold Hid; rw [HS.out]; exact HR.out, HB⟩
          case measure => simp [intOf]; omega
        · clear j1
          go_wp2
          go_roundw
          case rel => exact ⟨k + 1, by omega, by go_num, by unfold Hid; rw [HS.out]; exact HR.out, HB⟩
          case measure => simp [intOf]; omega
    · obtain rfl : k = x.size := by omega
      have hcv2 : (convert 25 9 (.slice (some ⟨w.heap.size, 0, none⟩) x.size cp)).run Tryz.prog wr = .ok (.string (ba ((bl x).map (shiftC 97 65)))) wr := by
        have hR := HR.out
        rw [← HL.out.2, shiftTo_all, HL.out.1] at hR
        have := run_convert_bytes_back (P := Tryz.prog) wr 25 9 5 ⟨w.heap.size, 0, none⟩ cp ((bl x).map (shiftC 97 65)) Tryz.underlying25 Tryz.underlying5 Tryz.underlying9 (fun j hj => by
          have e : (⟨w.heap.size, 0, none⟩ : Addr).add j = ⟨w.heap.size, j, none⟩ := by unfold Addr.add; split <;> simp_all
          rw [e]; exact (hR.cell j hj).1)
        rw [List.length_map, bl_length] at this
        exact this
      go_wp2
      go_ret
      exact ⟨rfl, HB.out⟩
set_option maxRecDepth 20000 in
set_option maxHeartbeats 1600000 in
theorem w_large_any (base b : Nat) (m : Md) (v : Value) (made : List ByteArray) (done : Bool) (x : ByteArray) (w : World) (h : Wk base b m v made false done w) (hx : x.size ≤ 1000000) (hs : sizeL made ≤ 65536) (hl : made.length ≤ 100000) :
    Calls Tryz.prog 54 #[.pointer (some ⟨b, 0, none⟩), .string x] w fun e w' => e = .returned (.tuple #[]) ∧ Step base b m v made done (some (ba ((bl x).map (shiftC 97 65)))) w w' := by
  have HN : Hid (∀ W, Calls Tryz.prog 101 #[.string x, .int .u8 97, .int .u8 65] W fun e w' => e = .returned (.string (ba ((bl x).map (shiftC 97 65)))) ∧ Below W.heap.size W w') := fun W => shifted_tu x W hx
  obtain ⟨y, hy⟩ : ∃ y, y = ba ((bl x).map (shiftC 97 65)) := ⟨_, rfl⟩
  rw [← hy] at HN ⊢
  have HK : Hid (∀ W, Wk base b m v made false done W → Calls Tryz.prog 89 #[.pointer (some ⟨b, 0, none⟩), .string y] W fun e w' => e = .returned (.tuple #[]) ∧ Step base b m v made done (some y) W w') := fun W hW => keep_any base b m v made false done y W hW hs hl
  have HW : Hid (Wk base b m v made false done w) := h
  clear h hy
  go_enter Tryz.func54, Tryz.ntmps54
  go_wp2_with fail
  refine (HN.out _).mono ?_
  rintro e w1 ⟨rfl, hb1⟩
  have HZ : Hid (Below w.heap.size w w1) := hb1
  clear hb1
  go_wp2_with fail
  refine (HK.out _ (HW.out.below HZ.out)).mono ?_
  rintro e w2 ⟨rfl, hst⟩
  have HS : Hid (Step base b m v made done (some y) w w2) := hst.of_below HZ.out
  clear hst
  go_wp2
  refine bodyPost_end (v := .tuple #[]) (by simp [results, Tryz.results54, go_sem]) rfl ⟨rfl, HS.out⟩
end Go.Proofs.YtpcpcfnmcfjomaaGreatDoor
namespace Go.Proofs.YtpcpcfnmcfjomaaGreatDoor.DQ
open Go.RowKit Go.Shelf
set_option maxRecDepth 20000 in
set_option maxHeartbeats 1600000 in
theorem cased_tl (x : ByteArray) (w : World) (hx : x.size ≤ 1000000) :
    Calls Tryz.prog 80 #[.string x, .bool true] w fun e w' => e = .returned (.string (ba ((bl x).map (shiftC 65 97)))) ∧ Below w.heap.size w w' := by
  have hcv := run_bytes_of_string (P := Tryz.prog) w 9 25 5 x Tryz.underlying9 Tryz.underlying25 Tryz.underlying5
  obtain ⟨cp, hcp⟩ : ∃ cp, cp = grownCap w x.size 0 5 := ⟨_, rfl⟩
  rw [← hcp] at hcv
  obtain ⟨o, ho⟩ : ∃ o, o = Obj.cells (bytesRow x cp) 5 ((bytesRow x cp).size, (bytesRow x cp).size + 1) := ⟨_, rfl⟩
  rw [← ho] at hcv
  have HO : Hid (BRow (w.alloc o).drew w.heap.size (bl x) ∧ Below w.heap.size w (w.alloc o).drew) := ⟨by rw [ho]; exact bytes_new w x cp _ (Nat.le_refl _), ((Below.refl _ w).alloc (Nat.le_refl _) o).drew⟩
  obtain ⟨L, hL⟩ : ∃ L, L = bl x := ⟨_, rfl⟩
  have hLs : L.length = x.size := by rw [hL, bl_length]
  have HL : Hid (L = bl x ∧ L.length = x.size) := ⟨hL, hLs⟩
  clear hcp ho hL hLs
  go_enter Tryz.func80, Tryz.ntmps80
  go_wp2
  clear hcv
  go_loopw [6] (fun vi wr => ∃ k : Nat, k ≤ x.size ∧ vi = .int .i64 k ∧ Hid (BRow wr w.heap.size (shiftTo 65 97 k L)) ∧ Hid (Below w.heap.size w wr)) (fun vi _ => x.size - (intOf vi).toNat)
  case atStart => exact ⟨0, Nat.zero_le _, rfl, by unfold Hid; rw [shiftTo_zero, HL.out.1]; exact HO.out.1, HO.out.2⟩
  case round =>
    obtain ⟨k, hk, rfl, HR, HB⟩ := hrel
    by_cases hlt : k < x.size
    · have hil : (k : Int) < (x.size : Int) := by omega
      have hkl : k < L.length := by rw [HL.out.2]; exact hlt
      obtain ⟨q1, q2⟩ := HR.out.cell k (by rw [shiftTo_len]; exact hkl)
      rw [shiftTo_get _ _ _ _ hkl] at q1
      have hn1 := shiftTo_next 65 97 k L hkl
      have hn2 := shiftTo_same 65 97 k L hkl
      obtain ⟨c, hc⟩ : ∃ c, c = L[k] := ⟨_, rfl⟩
      rw [← hc] at q1 hn1 hn2
      have HN1 : Hid (shiftTo 65 97 (k + 1) L = (shiftTo 65 97 k L).set k (shiftC 65 97 c)) := hn1
      have HN2 : Hid (shiftC 65 97 c = c → shiftTo 65 97 (k + 1) L = shiftTo 65 97 k L) := hn2
      clear hc hn1 hn2 hkl
      by_cases hin : 65 ≤ c.toNat ∧ c.toNat < 91
      · obtain ⟨i1, i2⟩ := hin
        have HV : Hid (((shiftC 65 97 c).toNat : Int) = (c.toNat : Int) - 65 + 97) := shift_up c i1 i2
        obtain ⟨cn, hcn⟩ : ∃ cn : Int, cn = (c.toNat : Int) := ⟨_, rfl⟩
        rw [← hcn] at q1
        have j1 : (65 : Int) ≤ cn := by omega
        have j2 : cn ≤ 90 := by omega
        have HV2 : Hid (((shiftC 65 97 c).toNat : Int) = cn + 32) := by rw [hcn]; have := HV.out; unfold Hid; omega
        clear HV hcn i1 i2
        go_wp2
        go_roundw
        case rel =>
          refine ⟨k + 1, by omega, by go_num, ?_, HB.out.setCell (Nat.le_refl _) _⟩
          unfold Hid
          rw [HN1.out, ← HV2.out]
          exact HR.out.set k _
        case measure => simp [intOf]; omega
      · have HS : Hid (shiftTo 65 97 (k + 1) L = shiftTo 65 97 k L) := HN2.out (shift_not 65 97 c 91 rfl hin)
        obtain ⟨cn, hcn⟩ : ∃ cn : Int, cn = (c.toNat : Int) := ⟨_, rfl⟩
        rw [← hcn] at q1
        have j1 : ¬ ((65 : Int) ≤ cn ∧ cn ≤ 90) := by omega
        clear hcn hin
        by_cases j2 : (65 : Int) ≤ cn
        · have j3 : ¬ cn ≤ 90 := fun h => j1 ⟨j2, h⟩
          clear j1
          go_wp2
          go_roundw
          case rel => exact ⟨k + 1, by omega, by go_num, by unfold Hid; rw [HS.out]; exact HR.out, HB⟩
          case measure => simp [intOf]; omega
        · clear j1
          go_wp2
          go_roundw
          case rel => exact ⟨k + 1, by omega, by go_num, by unfold Hid; rw [HS.out]; exact HR.out, HB⟩
          case measure => simp [intOf]; omega
    · obtain rfl : k = x.size := by omega
      have hcv2 : (convert 25 9 (.slice (some ⟨w.heap.size, 0, none⟩) x.size cp)).run Tryz.prog wr = .ok (.string (ba ((bl x).map (shiftC 65 97)))) wr := by
        have hR := HR.out
        rw [← HL.out.2, shiftTo_all, HL.out.1] at hR
        have := run_convert_bytes_back (P := Tryz.prog) wr 25 9 5 ⟨w.heap.size, 0, none⟩ cp ((bl x).map (shiftC 65 97)) Tryz.underlying25 Tryz.underlying5 Tryz.underlying9 (fun j hj => by
          have e : (⟨w.heap.size, 0, none⟩ : Addr).add j = ⟨w.heap.size, j, none⟩ := by unfold Addr.add; split <;> simp_all
          rw [e]; exact (hR.cell j hj).1)
        rw [List.length_map, bl_length] at this
        exact this
      go_wp2
      go_ret
      exact ⟨rfl, HB.out⟩
set_option maxRecDepth 20000 in
set_option maxHeartbeats 1600000 in
theorem cased_tu (x : ByteArray) (w : World) (hx : x.size ≤ 1000000) :
    Calls Tryz.prog 80 #[.string x, .bool false] w fun e w' => e = .returned (.string (ba ((bl x).map (shiftC 97 65)))) ∧ Below w.heap.size w w' := by
  have hcv := run_bytes_of_string (P := Tryz.prog) w 9 25 5 x Tryz.underlying9 Tryz.underlying25 Tryz.underlying5
  obtain ⟨cp, hcp⟩ : ∃ cp, cp = grownCap w x.size 0 5 := ⟨_, rfl⟩
  rw [← hcp] at hcv
  obtain ⟨o, ho⟩ : ∃ o, o = Obj.cells (bytesRow x cp) 5 ((bytesRow x cp).size, (bytesRow x cp).size + 1) := ⟨_, rfl⟩
  rw [← ho] at hcv
  have HO : Hid (BRow (w.alloc o).drew w.heap.size (bl x) ∧ Below w.heap.size w (w.alloc o).drew) := ⟨by rw [ho]; exact bytes_new w x cp _ (Nat.le_refl _), ((Below.refl _ w).alloc (Nat.le_refl _) o).drew⟩
  obtain ⟨L, hL⟩ : ∃ L, L = bl x := ⟨_, rfl⟩
  have hLs : L.length = x.size := by rw [hL, bl_length]
  have HL : Hid (L = bl x ∧ L.length = x.size) := ⟨hL, hLs⟩
  clear hcp ho hL hLs
  go_enter Tryz.func80, Tryz.ntmps80
  go_wp2
  clear hcv
  go_loopw [6] (fun vi wr => ∃ k : Nat, k ≤ x.size ∧ vi = .int .i64 k ∧ Hid (BRow wr w.heap.size (shiftTo 97 65 k L)) ∧ Hid (Below w.heap.size w wr)) (fun vi _ => x.size - (intOf vi).toNat)
  case atStart => exact ⟨0, Nat.zero_le _, rfl, by unfold Hid; rw [shiftTo_zero, HL.out.1]; exact HO.out.1, HO.out.2⟩
  case round =>
    obtain ⟨k, hk, rfl, HR, HB⟩ := hrel
    by_cases hlt : k < x.size
    · have hil : (k : Int) < (x.size : Int) := by omega
      have hkl : k < L.length := by rw [HL.out.2]; exact hlt
      obtain ⟨q1, q2⟩ := HR.out.cell k (by rw [shiftTo_len]; exact hkl)
      rw [shiftTo_get _ _ _ _ hkl] at q1
      have hn1 := shiftTo_next 97 65 k L hkl
      have hn2 := shiftTo_same 97 65 k L hkl
      obtain ⟨c, hc⟩ : ∃ c, c = L[k] := ⟨_, rfl⟩
      rw [← hc] at q1 hn1 hn2
      have HN1 : Hid (shiftTo 97 65 (k + 1) L = (shiftTo 97 65 k L).set k (shiftC 97 65 c)) := hn1
      have HN2 : Hid (shiftC 97 65 c = c → shiftTo 97 65 (k + 1) L = shiftTo 97 65 k L) := hn2
      clear hc hn1 hn2 hkl
      by_cases hin : 97 ≤ c.toNat ∧ c.toNat < 123
      · obtain ⟨i1, i2⟩ := hin
        have HV : Hid (((shiftC 97 65 c).toNat : Int) = (c.toNat : Int) - 97 + 65) := shift_down c i1 i2
        obtain ⟨cn, hcn⟩ : ∃ cn : Int, cn = (c.toNat : Int) := ⟨_, rfl⟩
        rw [← hcn] at q1
        have j1 : (97 : Int) ≤ cn := by omega
        have j2 : cn ≤ 122 := by omega
        have HV2 : Hid (((shiftC 97 65 c).toNat : Int) = cn - 32) := by rw [hcn]; have := HV.out; unfold Hid; omega
        clear HV hcn i1 i2
        go_wp2
        go_roundw
        case rel =>
          refine ⟨k + 1, by omega, by go_num, ?_, HB.out.setCell (Nat.le_refl _) _⟩
          unfold Hid
          rw [HN1.out, ← HV2.out]
          exact HR.out.set k _
        case measure => simp [intOf]; omega
      · have HS : Hid (shiftTo 97 65 (k + 1) L = shiftTo 97 65 k L) := HN2.out (shift_not 97 65 c 123 rfl hin)
        obtain ⟨cn, hcn⟩ : ∃ cn : Int, cn = (c.toNat : Int) := ⟨_, rfl⟩
        rw [← hcn] at q1
        have j1 : ¬ ((97 : Int) ≤ cn ∧ cn ≤ 122) := by omega
        clear hcn hin
        by_cases j2 : (97 : Int) ≤ cn
        · have j3 : ¬ cn ≤ 122 := fun h => j1 ⟨j2, h⟩
          clear j1
          go_wp2
          go_roundw
          case rel => exact ⟨k + 1, by omega, by go_num, by unfold Hid; rw [HS.out]; exact HR.out, HB⟩
          case measure => simp [intOf]; omega
        · clear j1
          go_wp2
          go_roundw
          case rel => exact ⟨k + 1, by omega, by go_num, by unfold Hid; rw [HS.out]; exact HR.out, HB⟩
          case measure => simp [intOf]; omega
    · obtain rfl : k = x.size := by omega
      have hcv2 : (convert 25 9 (.slice (some ⟨w.heap.size, 0, none⟩) x.size cp)).run Tryz.prog wr = .ok (.string (ba ((bl x).map (shiftC 97 65)))) wr := by
        have hR := HR.out
        rw [← HL.out.2, shiftTo_all, HL.out.1] at hR
        have := run_convert_bytes_back (P := Tryz.prog) wr 25 9 5 ⟨w.heap.size, 0, none⟩ cp ((bl x).map (shiftC 97 65)) Tryz.underlying25 Tryz.underlying5 Tryz.underlying9 (fun j hj => by
          have e : (⟨w.heap.size, 0, none⟩ : Addr).add j = ⟨w.heap.size, j, none⟩ := by unfold Addr.add; split <;> simp_all
          rw [e]; exact (hR.cell j hj).1)
        rw [List.length_map, bl_length] at this
        exact this
      go_wp2
      go_ret
      exact ⟨rfl, HB.out⟩
end Go.Proofs.YtpcpcfnmcfjomaaGreatDoor.DQ
