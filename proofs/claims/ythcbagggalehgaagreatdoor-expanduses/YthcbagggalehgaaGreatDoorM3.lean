/-
  What readChange takes: what is looked for, what is put in its place, flags.
-/
import Derived.Test.YthcbagggalehgaaGreatDoorM2
namespace Go.Proofs.YthcbagggalehgaaGreatDoor
open Go.RowKit Go.Shelf

abbrev cutF (a : ByteArray) : ByteArray := ⟨(Lib.trimPrefix (bl a) [94]).toArray⟩
abbrev cutL (a : ByteArray) : ByteArray := ⟨(Lib.trimSuffix (bl a) [36]).toArray⟩

set_option maxRecDepth 20000 in
set_option maxHeartbeats 1600000 in
theorem lookFor_s (b : Nat) (x : ByteArray) (w : World) (hx : x.size ≤ 1000000) {a c : ByteArray} {bg en : Bool} {ex : Option Addr} {al on : Bool} {mks ots frm upto : Int}
    (h : w.heap[b]? = some (.cells (mdV ⟨#[83]⟩ a c bg en ex al on mks ots frm upto) 157 (0, 0))) :
    Calls Tryz.prog 115 #[.pointer (some ⟨b, 0, none⟩), .string x] w fun e w' => e = .returned (.bool true) ∧ Only b w w' ∧
      w'.heap[b]? = some (.cells (mdV ⟨#[83]⟩ (cutL (cutF x)) c (Lib.hasPrefix (bl x) [94]) (Lib.hasSuffix (bl (cutF x)) [36]) ex al on mks ots frm upto) 157 (0, 0)) := by
  have HP : Hid (∀ W, Calls Tryz.prog 78 #[.string x, .string ⟨#[94]⟩] W fun e w' => e = .returned (.tuple #[.string (cutF x), .bool (Lib.hasPrefix (bl x) [94])]) ∧ W = w') := fun W =>
    (Tryz.strings_CutPrefix x ⟨#[94]⟩ W).mono (by rintro e w' ⟨rfl, rfl⟩; exact ⟨rfl, rfl⟩)
  have hle : (cutF x).size ≤ 1000000 := by
    refine Nat.le_trans ?_ hx
    show (Lib.trimPrefix (bl x) [94]).toArray.size ≤ _
    unfold Lib.trimPrefix
    rw [← bl_length]
    split
    · simp
    · simp
  obtain ⟨y, hy⟩ : ∃ y, y = cutF x := ⟨_, rfl⟩
  rw [← hy] at HP hle ⊢
  have HS : Hid (∀ W, Calls Tryz.prog 138 #[.string y, .string ⟨#[36]⟩] W fun e w' => e = .returned (.tuple #[.string (cutL y), .bool (Lib.hasSuffix (bl y) [36])]) ∧ W = w') := fun W =>
    (Tryz.strings_CutSuffix y ⟨#[36]⟩ W (by omega)).mono (by rintro e w' ⟨rfl, rfl⟩; exact ⟨rfl, rfl⟩)
  obtain ⟨p, hp⟩ : ∃ p, p = Lib.hasPrefix (bl x) [94] := ⟨_, rfl⟩
  obtain ⟨q, hq⟩ : ∃ q, q = Lib.hasSuffix (bl y) [36] := ⟨_, rfl⟩
  obtain ⟨z, hz⟩ : ∃ z, z = cutL y := ⟨_, rfl⟩
  rw [← hp] at HP ⊢
  rw [← hq, ← hz] at HS ⊢
  clear hy hp hq hz
  obtain ⟨⟨r0, r1, r2, r3, r4, r5, r6, r7, r8, r9, r10, r11⟩, hfz⟩ := mod_cells h
  have HBk : Hid (w.heap[b]? = some (.cells (mdV ⟨#[83]⟩ a c bg en ex al on mks ots frm upto) 157 (0, 0))) := h
  clear h
  go_enter Tryz.func115, Tryz.ntmps115
  go_wp2_with fail
  refine (HP.out _).mono ?_
  rintro e w' ⟨rfl, rfl⟩
  go_wp2_with fail
  refine (HS.out _).mono ?_
  rintro e w' ⟨rfl, rfl⟩
  go_wp2
  go_ret
  refine ⟨rfl, ((Only.set b 3 w _).trans (Only.set b 1 _ _)).trans (Only.set b 4 _ _), ?_⟩
  exact heap_set (heap_set (heap_set HBk.out _) _) _

/-- How many of a list's bytes are &. -/
def andsL (l : List UInt8) : Nat := (l.filter (· = 38)).length
theorem ands_le (l : List UInt8) : andsL l ≤ l.length := List.length_filter_le _ _
theorem ands_snoc (l : List UInt8) (c : UInt8) : andsL (l ++ [c]) = andsL l + (if c = 38 then 1 else 0) := by
  unfold andsL; rw [List.filter_append, List.length_append]
  by_cases h : c = 38 <;> simp [h]

set_option maxRecDepth 20000 in
set_option maxHeartbeats 1600000 in
theorem put_s (b : Nat) (x : ByteArray) (w : World) (hx : x.size ≤ 1000000) {a c : ByteArray} {bg en : Bool} {ex : Option Addr} {al on : Bool} {frm upto : Int}
    (h : w.heap[b]? = some (.cells (mdV ⟨#[83]⟩ a c bg en ex al on 0 0 frm upto) 157 (0, 0))) :
    Calls Tryz.prog 116 #[.pointer (some ⟨b, 0, none⟩), .string x] w fun e w' => e = .returned (.tuple #[]) ∧ Only b w w' ∧
      w'.heap[b]? = some (.cells (mdV ⟨#[83]⟩ a x bg en ex al on (andsL (bl x)) (x.size - andsL (bl x) : Nat) frm upto) 157 (0, 0)) := by
  obtain ⟨⟨r0, r1, r2, r3, r4, r5, r6, r7, r8, r9, r10, r11⟩, hfz⟩ := mod_cells h
  have HBk : Hid (w.heap[b]? = some (.cells (mdV ⟨#[83]⟩ a c bg en ex al on 0 0 frm upto) 157 (0, 0))) := h
  clear h
  go_enter Tryz.func116, Tryz.ntmps116
  go_wp2
  go_loopw [4] (fun vi wr => ∃ k m : Nat, k ≤ x.size ∧ m = andsL ((bl x).take k) ∧ m ≤ k ∧ vi = .int .i64 k ∧ Hid (Only b w wr) ∧ wr.heap[b]? = some (.cells (mdV ⟨#[83]⟩ a x bg en ex al on m (k - m : Nat) frm upto) 157 (0, 0)))
    (fun vi _ => x.size - (intOf vi).toNat)
  case atStart =>
    refine ⟨0, 0, Nat.zero_le _, rfl, Nat.le_refl _, rfl, Only.set b 2 w _, ?_⟩
    exact heap_set HBk.out _
  case round =>
    obtain ⟨k, m, hk, hm, hmk, rfl, HO, hh⟩ := hrel
    clear r0 r1 r2 r3 r4 r5 r6 r7 r8 r9 r10 r11 hfz
    obtain ⟨⟨r0, r1, r2, r3, r4, r5, r6, r7, r8, r9, r10, r11⟩, hfz⟩ := mod_cells hh
    have HH : Hid (wr.heap[b]? = some (.cells (mdV ⟨#[83]⟩ a x bg en ex al on m (k - m : Nat) frm upto) 157 (0, 0))) := hh
    clear hh
    have hmb : m ≤ 1000000 := by omega
    have hkb : k - m ≤ 1000000 := by omega
    by_cases hlt : k < x.size
    · have hil : (k : Int) < (x.size : Int) := by omega
      have ht := take_snoc x k hlt
      obtain ⟨cc, hc⟩ : ∃ cc, cc = x[k] := ⟨_, rfl⟩
      obtain ⟨cn, hcn⟩ : ∃ cn : Int, cn = (x[k].toNat : Int) := ⟨_, rfl⟩
      have hgk : (x[k].toNat : Int) = cn := hcn.symm
      rw [← hc] at ht
      have HCC : Hid (cn = (cc.toNat : Int)) := by rw [hcn, hc]; rfl
      clear hcn hc
      have hs := ands_snoc ((bl x).take k) cc
      rw [← ht, ← hm] at hs
      clear ht
      by_cases h38 : cc = 38
      · have t1 : (cn == 38) = true := by rw [HCC.out, h38]; rfl
        rw [if_pos h38] at hs
        have HS : Hid (andsL ((bl x).take (k + 1)) = m + 1) := hs
        clear hs hm
        go_wp2
        go_roundw
        case rel =>
          refine ⟨k + 1, m + 1, by omega, HS.out.symm, by omega, by go_num, HO.out.trans (Only.set b 8 _ _), ?_⟩
          rw [show k + 1 - (m + 1) = k - m by omega]
          exact heap_set HH.out _
        case measure => simp [intOf]; omega
      · have t1 : (cn == 38) = false := by rw [HCC.out]; rw [← Bool.not_eq_true, beq_iff_eq]; intro e1; apply h38; rw [u8_eq_iff]; have : (38 : UInt8).toNat = 38 := rfl; omega
        rw [if_neg h38] at hs
        have HS : Hid (andsL ((bl x).take (k + 1)) = m) := hs
        clear hs hm
        by_cases h92 : cc = 92
        · have t2 : (cn == 92) = true := by rw [HCC.out, h92]; rfl
          go_wp2
          go_roundw
          case rel =>
            refine ⟨k + 1, m, by omega, HS.out.symm, by omega, by go_num, HO.out.trans (Only.set b 9 _ _), ?_⟩
            rw [show k + 1 - m = (k - m) + 1 by omega]
            exact heap_set HH.out _
          case measure => simp [intOf]; omega
        · have t2 : (cn == 92) = false := by rw [HCC.out]; rw [← Bool.not_eq_true, beq_iff_eq]; intro e1; apply h92; rw [u8_eq_iff]; have : (92 : UInt8).toNat = 92 := rfl; omega
          go_wp2
          go_roundw
          case rel =>
            refine ⟨k + 1, m, by omega, HS.out.symm, by omega, by go_num, HO.out.trans (Only.set b 9 _ _), ?_⟩
            rw [show k + 1 - m = (k - m) + 1 by omega]
            exact heap_set HH.out _
          case measure => simp [intOf]; omega
    · go_wp2
      refine bodyPost_end (v := .tuple #[]) (by simp [results, Tryz.results116, go_sem]) rfl ?_
      obtain rfl : k = x.size := by omega
      rw [take_all] at hm
      rw [← hm]
      exact ⟨rfl, HO.out, HH.out⟩

/-- Flags: whether they may be, and what they set. -/
def flagL : Bool → Bool → List UInt8 → Bool × Bool × Bool
  | al, on, [] => (true, al, on)
  | al, on, c :: t => if c = 103 ∧ al = false then flagL true on t else if c = 49 ∧ on = false then flagL al true t else (false, al, on)

set_option maxRecDepth 20000 in
set_option maxHeartbeats 1600000 in
theorem flag_s (b : Nat) (x : ByteArray) (w : World) (hx : x.size ≤ 1000000) {kind a c : ByteArray} {bg en : Bool} {ex : Option Addr} {mks ots frm upto : Int}
    (h : w.heap[b]? = some (.cells (mdV kind a c bg en ex false false mks ots frm upto) 157 (0, 0))) :
    Calls Tryz.prog 117 #[.pointer (some ⟨b, 0, none⟩), .string x] w fun e w' => e = .returned (.bool (flagL false false (bl x)).1) ∧ Only b w w' ∧
      w'.heap[b]? = some (.cells (mdV kind a c bg en ex (flagL false false (bl x)).2.1 (flagL false false (bl x)).2.2 mks ots frm upto) 157 (0, 0)) := by
  obtain ⟨F, hF⟩ : ∃ F, F = flagL false false (bl x) := ⟨_, rfl⟩
  rw [← hF]
  have HF : Hid (F = flagL false false (bl x)) := hF
  clear hF
  have HBk : Hid (w.heap[b]? = some (.cells (mdV kind a c bg en ex false false mks ots frm upto) 157 (0, 0))) := h
  clear h
  go_enter Tryz.func117, Tryz.ntmps117
  go_wp2
  go_loopw [8] (fun vi wr => ∃ (k : Nat) (al on : Bool), k ≤ x.size ∧ vi = .int .i64 k ∧ Hid (F = flagL al on ((bl x).drop k)) ∧ Hid (Only b w wr) ∧ wr.heap[b]? = some (.cells (mdV kind a c bg en ex al on mks ots frm upto) 157 (0, 0)))
    (fun vi _ => x.size - (intOf vi).toNat)
  case atStart => exact ⟨0, false, false, Nat.zero_le _, rfl, HF, Only.refl _ _, HBk.out⟩
  case round =>
    obtain ⟨k, al, on, hk, rfl, HU, HO, hh⟩ := hrel
    obtain ⟨⟨r0, r1, r2, r3, r4, r5, r6, r7, r8, r9, r10, r11⟩, hfz⟩ := mod_cells hh
    have HH : Hid (wr.heap[b]? = some (.cells (mdV kind a c bg en ex al on mks ots frm upto) 157 (0, 0))) := hh
    clear hh
    by_cases hlt : k < x.size
    · have hil : (k : Int) < (x.size : Int) := by omega
      have hd := drop_bl x k hlt
      obtain ⟨cc, hc⟩ : ∃ cc, cc = x[k] := ⟨_, rfl⟩
      obtain ⟨cn, hcn⟩ : ∃ cn : Int, cn = (x[k].toNat : Int) := ⟨_, rfl⟩
      have hgk : (x[k].toNat : Int) = cn := hcn.symm
      rw [← hc] at hd
      have HCC : Hid (cn = (cc.toNat : Int)) := by rw [hcn, hc]; rfl
      clear hcn hc
      have HU2 : Hid (F = if cc = 103 ∧ al = false then flagL true on ((bl x).drop (k + 1)) else if cc = 49 ∧ on = false then flagL al true ((bl x).drop (k + 1)) else (false, al, on)) := by
        unfold Hid; rw [HU.out, hd]; rfl
      clear HU hd
      by_cases h103 : cc = 103
      · have t1 : (cn == 103) = true := by rw [HCC.out, h103]; rfl
        have t2 : (cn == 49) = false := by rw [HCC.out, h103]; rfl
        cases al with
        | false =>
          have HU3 : Hid (F = flagL true on ((bl x).drop (k + 1))) := HU2.out.trans (if_pos ⟨h103, rfl⟩)
          clear HU2
          go_wp2
          go_roundw
          case rel => exact ⟨k + 1, true, on, by omega, by go_num, HU3, HO.out.trans (Only.set b 6 _ _), heap_set HH.out _⟩
          case measure => simp [intOf]; omega
        | true =>
          have HU3 : Hid (F = (false, true, on)) := HU2.out.trans ((if_neg (by simp)).trans (if_neg (fun x => absurd (h103.symm.trans x.1) (by decide))))
          clear HU2
          go_wp2
          go_ret
          rw [HU3.out]
          exact ⟨rfl, HO.out, HH.out⟩
      · have t1 : (cn == 103) = false := by rw [HCC.out]; rw [← Bool.not_eq_true, beq_iff_eq]; intro e1; apply h103; rw [u8_eq_iff]; have : (103 : UInt8).toNat = 103 := rfl; omega
        have HU3 : Hid (F = if cc = 49 ∧ on = false then flagL al true ((bl x).drop (k + 1)) else (false, al, on)) := HU2.out.trans (if_neg (fun x => h103 x.1))
        clear HU2
        by_cases h49 : cc = 49
        · have t2 : (cn == 49) = true := by rw [HCC.out, h49]; rfl
          cases on with
          | false =>
            have HU4 : Hid (F = flagL al true ((bl x).drop (k + 1))) := HU3.out.trans (if_pos ⟨h49, rfl⟩)
            clear HU3
            go_wp2
            go_roundw
            case rel => exact ⟨k + 1, al, true, by omega, by go_num, HU4, HO.out.trans (Only.set b 7 _ _), heap_set HH.out _⟩
            case measure => simp [intOf]; omega
          | true =>
            have HU4 : Hid (F = (false, al, true)) := HU3.out.trans (if_neg (by simp))
            clear HU3
            go_wp2
            go_ret
            rw [HU4.out]
            exact ⟨rfl, HO.out, HH.out⟩
        · have t2 : (cn == 49) = false := by rw [HCC.out]; rw [← Bool.not_eq_true, beq_iff_eq]; intro e1; apply h49; rw [u8_eq_iff]; have : (49 : UInt8).toNat = 49 := rfl; omega
          have HU4 : Hid (F = (false, al, on)) := HU3.out.trans (if_neg (fun x => h49 x.1))
          clear HU3
          go_wp2
          go_ret
          rw [HU4.out]
          exact ⟨rfl, HO.out, HH.out⟩
    · obtain rfl : k = x.size := by omega
      have HU4 : Hid (F = (true, al, on)) := by unfold Hid; rw [HU.out, drop_all]; rfl
      clear HU
      go_wp2
      go_ret
      rw [HU4.out]
      exact ⟨rfl, HO.out, HH.out⟩
end Go.Proofs.YthcbagggalehgaaGreatDoor
