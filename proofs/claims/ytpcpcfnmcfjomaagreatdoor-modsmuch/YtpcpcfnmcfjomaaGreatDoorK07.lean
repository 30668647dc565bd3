/-
  M4 M5
-/
import Derived.Test.YtpcpcfnmcfjomaaGreatDoorK06
import Derived.Deep.RegionHeld3
namespace Go.Proofs.YtpcpcfnmcfjomaaGreatDoor
open Go.RowKit Go.Shelf
inductive Rd where
  | bad (why : Nat)
  | ok (m : Md) (n : Nat)
def Rd.val : Rd → Value
  | .bad why => .tuple #[.agg zeroMd, .int .i64 0, .int .i64 why]
  | .ok m n => .tuple #[.agg m.cells, .int .i64 n, .int .i64 0]
theorem until_lt {e : UInt8} {l : List UInt8} (h : (untilL e l).2.2 = true) : (untilL e l).2.1 < l.length := by
  induction l using untilL.induct e with
  | case1 => simp [untilL] at h
  | case2 => simp [untilL]
  | case3 c hc => simp [untilL, hc] at h
  | case4 c d t hc ih => unfold untilL at h ⊢; rw [if_pos hc] at h ⊢; have := ih h; simp; omega
  | case5 d t hc => unfold untilL; rw [if_neg hc, if_pos rfl]; simp
  | case6 c d t h1 h2 ih => unfold untilL at h ⊢; rw [if_neg h1, if_neg h2] at h ⊢; have := ih h; simp at this ⊢; omega
def flagsOf (l : List UInt8) : List UInt8 := (Lib.cut l [58]).1
def changeMd (x1 x2 : List UInt8) (al on : Bool) : Md :=
  { kind := ⟨#[83]⟩, a := cutL (cutF (ba x1)), b := ba x2, bg := Lib.hasPrefix x1 [94], en := Lib.hasSuffix (bl (cutF (ba x1))) [36], al := al, on := on, mks := andsL x2, ots := (x2.length - andsL x2 : Nat) }
def changeS (d : UInt8) (s : List UInt8) : Rd :=
  if (untilL d (s.drop 2)).2.2 = false then .bad 4 else
  if (untilL d (s.drop ((untilL d (s.drop 2)).2.1 + 3))).2.2 = false then .bad 4 else
  if (flagL false false (flagsOf (s.drop ((untilL d (s.drop 2)).2.1 + (untilL d (s.drop ((untilL d (s.drop 2)).2.1 + 3))).2.1 + 4)))).1 = false then .bad 12 else
  .ok (changeMd (untilL d (s.drop 2)).1 (untilL d (s.drop ((untilL d (s.drop 2)).2.1 + 3))).1 (flagL false false (flagsOf (s.drop ((untilL d (s.drop 2)).2.1 + (untilL d (s.drop ((untilL d (s.drop 2)).2.1 + 3))).2.1 + 4)))).2.1 (flagL false false (flagsOf (s.drop ((untilL d (s.drop 2)).2.1 + (untilL d (s.drop ((untilL d (s.drop 2)).2.1 + 3))).2.1 + 4)))).2.2)
    ((untilL d (s.drop 2)).2.1 + (untilL d (s.drop ((untilL d (s.drop 2)).2.1 + 3))).2.1 + 4 + (flagsOf (s.drop ((untilL d (s.drop 2)).2.1 + (untilL d (s.drop ((untilL d (s.drop 2)).2.1 + 3))).2.1 + 4))).length)
theorem bl_rest (s : ByteArray) (k : Nat) : bl (s.extract k s.size) = (bl s).drop k := by rw [bl_extract, take_all]
theorem until_at {s : ByteArray} {d : UInt8} {k : Nat} (hs : s.size ≤ 1000000) {x : List UInt8} {n : Nat} {f : Bool} (h : untilL d ((bl s).drop k) = (x, n, f)) {dn : Int} (hdn : dn = (d.toNat : Int)) :
    Hid (∀ W, Calls Tryz.prog 20 #[.string (s.extract k s.size), .int .u8 dn] W fun e w' => e = .returned (.tuple #[.string (ba x), .int .i64 n, .bool f]) ∧ Below W.heap.size W w') := fun W => by
  have := until_any (s.extract k s.size) d W (by simp; omega)
  unfold untilV at this
  rw [bl_rest, h] at this
  rw [hdn]; exact this
theorem cut_is {s : ByteArray} {q : Nat} (hs : s.size ≤ 1000000) (c : UInt8) : Hid (∀ W, Mx W → Calls Tryz.prog 24 #[.string (s.extract q s.size), .string ⟨#[c]⟩] W fun e w' => e = .returned (.tuple #[.string (ba (Lib.cut ((bl s).drop q) [c]).1), .string (ba (Lib.cut ((bl s).drop q) [c]).2.1), .bool (Lib.cut ((bl s).drop q) [c]).2.2]) ∧ ∃ n, w' = W.drewN n) := fun W hW => by
  obtain ⟨m, hm⟩ := hW
  refine (Tryz.strings_Cut (s.extract q s.size) ⟨#[c]⟩ m W (by simp; omega) hm).mono ?_
  rintro e w' ⟨rfl, hn⟩
  rw [show (s.extract q s.size).data.toList = (bl s).drop q from bl_rest s q]
  exact ⟨rfl, hn⟩
abbrev newS : Array Value := mdV ⟨#[83]⟩ E E false false none false false 0 0 0 0
theorem two_new (w : World) : Hid (∀ W0 W, W0 = ((w.alloc (.cells zeroMd 45)).alloc (.cells newS 45)).drew → Below W0.heap.size W0 W → W.heap[w.heap.size]? = some (.cells zeroMd 45 (0, 0)) ∧ W.heap[w.heap.size + 1]? = some (.cells newS 45 (0, 0)) ∧ Below w.heap.size w W) := by
  rintro W0 W rfl hB
  have z : ((w.alloc (.cells zeroMd 45)).alloc (.cells newS 45)).drew.heap.size = w.heap.size + 2 := by simp
  rw [z] at hB
  refine ⟨?_, ?_, ?_⟩
  · rw [hB.block _ (by omega)]
    show ((w.alloc (.cells zeroMd 45)).alloc (.cells newS 45)).heap[w.heap.size]? = _
    rw [heap_alloc_old _ _ (by simp)]; exact heap_alloc_new w _
  · rw [hB.block _ (by omega)]
    show ((w.alloc (.cells zeroMd 45)).alloc (.cells newS 45)).heap[w.heap.size + 1]? = _
    have := heap_alloc_new (w.alloc (.cells zeroMd 45)) (.cells newS 45)
    simpa using this
  · exact (((Below.refl _ w).alloc (Nat.le_refl _) _).alloc (by simp) _).drew.trans (hB.mono (by omega))
set_option maxRecDepth 20000 in
set_option maxHeartbeats 3200000 in
theorem change_s (s : ByteArray) (w : World) (hs : s.size ≤ 1000000) (h2 : 2 ≤ s.size) (hx : s.extract 0 1 = ⟨#[83]⟩) (d : UInt8) (hd : d = s[1]) (hmx : Mx w) :
    Calls Tryz.prog 22 #[.string s] w fun e w' => e = .returned (changeS d (bl s)).val ∧ Below w.heap.size w w' := by
  obtain ⟨dn, hdn⟩ : ∃ dn : Int, dn = (s[1].toNat : Int) := ⟨_, rfl⟩
  have hdd : dn = (d.toNat : Int) := by rw [hd]; exact hdn
  have h2i : (2 : Int) ≤ (s.size : Int) := by omega
  have h1i : (1 : Int) < (s.size : Int) := by omega
  have hgk : (s[1].toNat : Int) = dn := hdn.symm
  clear hdn hd
  have HM : Hid (∀ W, Below w.heap.size w W → Mx W) := fun W hB => hmx.below hB hmx.pos
  clear hmx
  obtain ⟨R, hR⟩ : ∃ R, R = changeS d (bl s) := ⟨_, rfl⟩
  rw [← hR]
  unfold changeS at hR
  have HN := two_new w
  rcases hu1 : untilL d ((bl s).drop 2) with ⟨x1, n1, f1⟩
  have HU1 := until_at hs hu1 hdd
  have hl1 := (until_len d ((bl s).drop 2))
  have hg1 := until_lt (e := d) (l := (bl s).drop 2)
  rw [hu1] at hR hl1 hg1
  simp only [List.length_drop, bl_length] at hl1 hg1
  have HDD : Hid (dn = (d.toNat : Int)) := hdd
  clear hdd hu1
  cases f1 with
  | false =>
    have HR : Hid (R = .bad 4) := hR.trans (if_pos rfl)
    clear hR hg1
    go_enter Tryz.func22, Tryz.ntmps22
    go_wp2_with fail
    go_region_held3 (fun _ => True) (trivial) (first | (go_at_call 20; refine (HU1.out _).mono ?_; rintro e w3 ⟨rfl, hb3⟩))
    obtain ⟨hr3, _, hL3⟩ := HN.out _ w3 rfl hb3
    clear hb3
    obtain ⟨⟨r0, r1, r2, r3, r4, r5, r6, r7, r8, r9, r10, r11⟩, hfz⟩ := mod_cells hr3
    have HBk : Hid (w3.heap[w.heap.size]? = some (.cells zeroMd 45 (0, 0))) := hr3
    clear hr3
    go_wp2
    have hWb : Below w.heap.size w (setMd w3 w.heap.size E E E false false none false false 0 0 0 0) := setMd_below hL3 (Nat.le_refl _)
    have hWh := setMd_heap (kind := E) (a := E) (c := E) (bg := false) (en := false) (ex := none) (al := false) (on := false) (mks := 0) (ots := 0) (frm := 0) (upto := 0) HBk.out
    obtain ⟨W, hW⟩ : ∃ W, W = setMd w3 w.heap.size E E E false false none false false 0 0 0 0 := ⟨_, rfl⟩
    rw [← hW] at hWh hWb
    obtain ⟨⟨q0, q1, q2, q3, q4, q5, q6, q7, q8, q9, q10, q11⟩, _⟩ := mod_cells hWh
    show bodyPost Tryz.prog Tryz.f22 _ Exit.ret _ (setMd w3 w.heap.size E E E false false none false false 0 0 0 0)
    rw [← hW]
    refine bodyPost_ret (v := .tuple #[.agg zeroMd, .int .i64 0, .int .i64 4]) (by simp [results, Tryz.results22, go_sem, q0, q1, q2, q3, q4, q5, q6, q7, q8, q9, q10, q11]; try rfl) rfl ⟨by rw [HR.out]; rfl, hWb⟩
  | true =>
    have hn1 := hg1 rfl
    rw [if_neg (by simp)] at hR
    simp only at hR hl1
    clear hg1
    have hxl : x1.length ≤ 1000000 := by omega
    have hnb : n1 ≤ 1000000 := by omega
    obtain ⟨a2, ha2⟩ : ∃ a2, a2 = cutL (cutF (ba x1)) := ⟨_, rfl⟩
    obtain ⟨bg, hbg⟩ : ∃ bg, bg = Lib.hasPrefix (bl (ba x1)) [94] := ⟨_, rfl⟩
    obtain ⟨en, hen⟩ : ∃ en, en = Lib.hasSuffix (bl (cutF (ba x1))) [36] := ⟨_, rfl⟩
    have HLF : Hid (∀ W : World, W.heap[w.heap.size + 1]? = some (.cells newS 45 (0, 0)) → Calls Tryz.prog 40 #[.pointer (some ⟨w.heap.size + 1, 0, none⟩), .string (ba x1)] W fun e w' => e = .returned (.bool true) ∧ Only (w.heap.size + 1) W w' ∧
      w'.heap[w.heap.size + 1]? = some (.cells (mdV ⟨#[83]⟩ a2 E bg en none false false 0 0 0 0) 45 (0, 0))) := fun W hW => by
      rw [ha2, hbg, hen]; exact lookFor_s (w.heap.size + 1) (ba x1) W (by rw [ba_size]; exact hxl) hW
    have HA : Hid (a2 = cutL (cutF (ba x1)) ∧ bg = Lib.hasPrefix x1 [94] ∧ en = Lib.hasSuffix (bl (cutF (ba x1))) [36]) := ⟨ha2, by rw [hbg, bl_ba], hen⟩
    clear ha2 hbg hen
    have hto1 : ((2 : Int) + (n1 : Int) + 1).toNat = n1 + 3 := by omega
    have h01 : (0 : Int) ≤ (2 : Int) + (n1 : Int) + 1 := by omega
    have hle1 : (2 : Int) + (n1 : Int) + 1 ≤ (s.size : Int) := by omega
    rcases hu2 : untilL d ((bl s).drop (n1 + 3)) with ⟨x2, n2, f2⟩
    have HU2 := until_at hs hu2 HDD.out
    have hl2 := (until_len d ((bl s).drop (n1 + 3)))
    have hg2 := until_lt (e := d) (l := (bl s).drop (n1 + 3))
    rw [hu2] at hR hl2 hg2
    simp only [List.length_drop, bl_length] at hl2 hg2
    clear hu2
    cases f2 with
    | false =>
      have HR : Hid (R = .bad 4) := hR.trans (if_pos rfl)
      clear hR hg2
      go_enter Tryz.func22, Tryz.ntmps22
      go_wp2_with fail
      go_region_held3 (fun _ => True) (trivial) (first | (go_at_call 20; refine (HU1.out _).mono ?_; rintro e w3 ⟨rfl, hb3⟩))
      obtain ⟨hr3, hm3, hL3⟩ := HN.out _ w3 rfl hb3
      have HR3 : Hid (w3.heap[w.heap.size]? = some (.cells zeroMd 45 (0, 0)) ∧ w3.heap[w.heap.size + 1]? = some (.cells newS 45 (0, 0)) ∧ Below w.heap.size w w3 ∧ w.heap.size + 2 ≤ w3.heap.size) := ⟨hr3, hm3, hL3, by have := hb3.size; simpa using this⟩
      clear hb3 hr3 hm3 hL3
      go_wp2_with fail
      refine (HLF.out _ HR3.out.2.1).mono ?_
      rintro e w4 ⟨rfl, ho4, hm4⟩
      have HR4 : Hid (w4.heap[w.heap.size]? = some (.cells zeroMd 45 (0, 0)) ∧ Below w.heap.size w w4 ∧ w.heap.size + 2 ≤ w4.heap.size) := ⟨(ho4.block _ (by omega)).trans HR3.out.1, ho4.below (by omega) HR3.out.2.2.1, by rw [ho4.size]; exact HR3.out.2.2.2⟩
      clear ho4 hm4 HR3
      go_wp2_with fail
      go_region_held3 (fun _ => True) (trivial) (first | (go_at_call 20; refine (HU2.out _).mono ?_; rintro e w5 ⟨rfl, hb5⟩))
      have hr5 : w5.heap[w.heap.size]? = some (.cells zeroMd 45 (0, 0)) := (hb5.block w.heap.size (by have := HR4.out.2.2; show _ < w4.heap.size; omega)).trans HR4.out.1
      have HL : Hid (Below w.heap.size w w5) := HR4.out.2.1.drew.trans (hb5.mono (by have := HR4.out.2.2; show _ ≤ w4.heap.size; omega))
      clear hb5
      obtain ⟨⟨r0, r1, r2, r3, r4, r5, r6, r7, r8, r9, r10, r11⟩, hfz⟩ := mod_cells hr5
      have HBk : Hid (w5.heap[w.heap.size]? = some (.cells zeroMd 45 (0, 0))) := hr5
      clear hr5
      go_wp2
      have hWb : Below w.heap.size w (setMd w5 w.heap.size E E E false false none false false 0 0 0 0) := setMd_below HL.out (Nat.le_refl _)
      have hWh := setMd_heap (kind := E) (a := E) (c := E) (bg := false) (en := false) (ex := none) (al := false) (on := false) (mks := 0) (ots := 0) (frm := 0) (upto := 0) HBk.out
      obtain ⟨W, hW⟩ : ∃ W, W = setMd w5 w.heap.size E E E false false none false false 0 0 0 0 := ⟨_, rfl⟩
      rw [← hW] at hWh hWb
      obtain ⟨⟨q0, q1, q2, q3, q4, q5, q6, q7, q8, q9, q10, q11⟩, _⟩ := mod_cells hWh
      show bodyPost Tryz.prog Tryz.f22 _ Exit.ret _ (setMd w5 w.heap.size E E E false false none false false 0 0 0 0)
      rw [← hW]
      refine bodyPost_ret (v := .tuple #[.agg zeroMd, .int .i64 0, .int .i64 4]) (by simp [results, Tryz.results22, go_sem, q0, q1, q2, q3, q4, q5, q6, q7, q8, q9, q10, q11]; try rfl) rfl ⟨by rw [HR.out]; rfl, hWb⟩
    | true =>
      have hn2 := hg2 rfl
      rw [if_neg (by simp)] at hR
      simp only at hR hl2
      clear hg2
      have hxl2 : x2.length ≤ 1000000 := by omega
      have hnb2 : n2 ≤ 1000000 := by omega
      have hto2 : ((2 : Int) + (n1 : Int) + 1 + ((n2 : Int) + 1)).toNat = n1 + n2 + 4 := by omega
      have hle2 : (2 : Int) + (n1 : Int) + 1 + ((n2 : Int) + 1) ≤ (s.size : Int) := by omega
      have HPu : Hid (∀ W : World, W.heap[w.heap.size + 1]? = some (.cells (mdV ⟨#[83]⟩ a2 E bg en none false false 0 0 0 0) 45 (0, 0)) → Calls Tryz.prog 41 #[.pointer (some ⟨w.heap.size + 1, 0, none⟩), .string (ba x2)] W fun e w' => e = .returned (.tuple #[]) ∧ Only (w.heap.size + 1) W w' ∧
        w'.heap[w.heap.size + 1]? = some (.cells (mdV ⟨#[83]⟩ a2 (ba x2) bg en none false false (andsL x2) (x2.length - andsL x2 : Nat) 0 0) 45 (0, 0))) := fun W hW => by
        have := put_s (w.heap.size + 1) (ba x2) W (by rw [ba_size]; exact hxl2) hW
        rw [bl_ba, ba_size] at this; exact this
      have HCu := cut_is (s := s) (q := n1 + n2 + 4) hs 58
      obtain ⟨fl, hfl⟩ : ∃ fl, fl = flagsOf ((bl s).drop (n1 + n2 + 4)) := ⟨_, rfl⟩
      obtain ⟨c1, hc1⟩ : ∃ c1, c1 = ba (Lib.cut ((bl s).drop (n1 + n2 + 4)) [58]).2.1 := ⟨_, rfl⟩
      obtain ⟨c2, hc2⟩ : ∃ c2, c2 = (Lib.cut ((bl s).drop (n1 + n2 + 4)) [58]).2.2 := ⟨_, rfl⟩
      rw [← hc1, ← hc2, show (Lib.cut ((bl s).drop (n1 + n2 + 4)) [58]).1 = fl from hfl.symm] at HCu
      rw [← hfl] at hR
      clear hc1 hc2
      have hfle : fl.length ≤ 1000000 := by
        rw [hfl]; unfold flagsOf Lib.cut
        split
        · have := bl_length s; simp; omega
        · have := bl_length s; simp; omega
      clear hfl
      have HFl : Hid (∀ W : World, W.heap[w.heap.size + 1]? = some (.cells (mdV ⟨#[83]⟩ a2 (ba x2) bg en none false false (andsL x2) (x2.length - andsL x2 : Nat) 0 0) 45 (0, 0)) → Calls Tryz.prog 42 #[.pointer (some ⟨w.heap.size + 1, 0, none⟩), .string (ba fl)] W fun e w' => e = .returned (.bool (flagL false false fl).1) ∧ Only (w.heap.size + 1) W w' ∧
        w'.heap[w.heap.size + 1]? = some (.cells (mdV ⟨#[83]⟩ a2 (ba x2) bg en none (flagL false false fl).2.1 (flagL false false fl).2.2 (andsL x2) (x2.length - andsL x2 : Nat) 0 0) 45 (0, 0))) := fun W hW => by
        have := flag_s (w.heap.size + 1) (ba fl) W (by rw [ba_size]; exact hfle) hW
        rw [bl_ba] at this; exact this
      rcases hF : flagL false false fl with ⟨fo, al, on⟩
      rw [hF] at HFl hR
      obtain ⟨mks, hmks⟩ : ∃ mks : Int, mks = (andsL x2 : Int) := ⟨_, rfl⟩
      obtain ⟨ots, hots⟩ : ∃ ots : Int, ots = ((x2.length - andsL x2 : Nat) : Int) := ⟨_, rfl⟩
      rw [← hmks, ← hots] at HPu HFl
      have HQ : Hid (mks = (andsL x2 : Int) ∧ ots = ((x2.length - andsL x2 : Nat) : Int)) := ⟨hmks, hots⟩
      clear hmks hots hF
      have hbs : (ba fl).size = fl.length := ba_size fl
      have HRR : Hid (R = if (fo, al, on).1 = false then .bad 12 else .ok (changeMd x1 x2 al on) (n1 + n2 + 4 + fl.length)) := hR
      clear hR
      go_enter Tryz.func22, Tryz.ntmps22
      go_wp2_with fail
      go_region_held3 (fun _ => True) (trivial) (first | (go_at_call 20; refine (HU1.out _).mono ?_; rintro e w3 ⟨rfl, hb3⟩))
      obtain ⟨hr3, hm3, hL3⟩ := HN.out _ w3 rfl hb3
      have HR3 : Hid (w3.heap[w.heap.size]? = some (.cells zeroMd 45 (0, 0)) ∧ w3.heap[w.heap.size + 1]? = some (.cells newS 45 (0, 0)) ∧ Below w.heap.size w w3 ∧ w.heap.size + 2 ≤ w3.heap.size) := ⟨hr3, hm3, hL3, by have := hb3.size; simpa using this⟩
      clear hb3 hr3 hm3 hL3
      go_wp2_with fail
      refine (HLF.out _ HR3.out.2.1).mono ?_
      rintro e w4 ⟨rfl, ho4, hm4⟩
      have HR4 : Hid (w4.heap[w.heap.size]? = some (.cells zeroMd 45 (0, 0)) ∧ Below w.heap.size w w4 ∧ w.heap.size + 2 ≤ w4.heap.size ∧ w4.heap[w.heap.size + 1]? = some (.cells (mdV ⟨#[83]⟩ a2 E bg en none false false 0 0 0 0) 45 (0, 0))) := ⟨(ho4.block _ (by omega)).trans HR3.out.1, ho4.below (by omega) HR3.out.2.2.1, by rw [ho4.size]; exact HR3.out.2.2.2, hm4⟩
      clear ho4 hm4 HR3
      go_wp2_with fail
      go_region_held3 (fun _ => True) (trivial) (first | (go_at_call 20; refine (HU2.out _).mono ?_; rintro e w5 ⟨rfl, hb5⟩))
      have HR5 : Hid (w5.heap[w.heap.size]? = some (.cells zeroMd 45 (0, 0)) ∧ Below w.heap.size w w5 ∧ w.heap.size + 2 ≤ w5.heap.size ∧ w5.heap[w.heap.size + 1]? = some (.cells (mdV ⟨#[83]⟩ a2 E bg en none false false 0 0 0 0) 45 (0, 0))) := by
        obtain ⟨g1, g2, g3, g4⟩ := HR4.out
        have z : w4.drew.heap.size = w4.heap.size := rfl
        exact ⟨(hb5.block w.heap.size (by omega)).trans g1, g2.drew.trans (hb5.mono (by omega)), by have := hb5.size; omega, (hb5.block (w.heap.size + 1) (by omega)).trans g4⟩
      clear hb5 HR4
      go_wp2_with fail
      refine (HPu.out _ HR5.out.2.2.2).mono ?_
      rintro e w6 ⟨rfl, ho6, hm6⟩
      have HR6 : Hid (w6.heap[w.heap.size]? = some (.cells zeroMd 45 (0, 0)) ∧ Below w.heap.size w w6 ∧ w.heap.size + 2 ≤ w6.heap.size ∧ w6.heap[w.heap.size + 1]? = some (.cells (mdV ⟨#[83]⟩ a2 (ba x2) bg en none false false mks ots 0 0) 45 (0, 0))) := ⟨(ho6.block _ (by omega)).trans HR5.out.1, ho6.below (by omega) HR5.out.2.1, by rw [ho6.size]; exact HR5.out.2.2.1, hm6⟩
      clear ho6 hm6 HR5
      go_wp2_with fail
      refine (HCu.out _ (HM.out _ HR6.out.2.1)).mono ?_
      rintro e w7 ⟨rfl, k7, hw7⟩
      have hb7 : Below w6.heap.size w6 w7 := by rw [hw7]; exact below_drewN (Below.refl _ _) k7
      clear hw7
      have HR7 : Hid (w7.heap[w.heap.size]? = some (.cells zeroMd 45 (0, 0)) ∧ Below w.heap.size w w7 ∧ w7.heap[w.heap.size + 1]? = some (.cells (mdV ⟨#[83]⟩ a2 (ba x2) bg en none false false mks ots 0 0) 45 (0, 0))) := by
        obtain ⟨g1, g2, g3, g4⟩ := HR6.out
        exact ⟨(hb7.block w.heap.size (by omega)).trans g1, g2.trans (hb7.mono (by omega)), (hb7.block (w.heap.size + 1) (by omega)).trans g4⟩
      clear hb7 HR6
      go_wp2_with fail
      refine (HFl.out _ HR7.out.2.2).mono ?_
      rintro e w8 ⟨rfl, ho8, hm8⟩
      have hr8 : w8.heap[w.heap.size]? = some (.cells zeroMd 45 (0, 0)) := (ho8.block _ (by omega)).trans HR7.out.1
      have HL : Hid (Below w.heap.size w w8) := ho8.below (by omega) HR7.out.2.1
      clear ho8 HR7
      obtain ⟨⟨r0, r1, r2, r3, r4, r5, r6, r7, r8, r9, r10, r11⟩, hfz⟩ := mod_cells hr8
      have HBk : Hid (w8.heap[w.heap.size]? = some (.cells zeroMd 45 (0, 0))) := hr8
      clear hr8
      obtain ⟨⟨p0, p1, p2, p3, p4, p5, p6, p7, p8, p9, p10, p11⟩, hfy⟩ := mod_cells hm8
      clear hm8
      cases fo with
      | false =>
        have HR : Hid (R = .bad 12) := HRR.out.trans (if_pos rfl)
        clear HRR
        go_wp2
        have hWb : Below w.heap.size w (setMd w8 w.heap.size E E E false false none false false 0 0 0 0) := setMd_below HL.out (Nat.le_refl _)
        have hWh := setMd_heap (kind := E) (a := E) (c := E) (bg := false) (en := false) (ex := none) (al := false) (on := false) (mks := 0) (ots := 0) (frm := 0) (upto := 0) HBk.out
        obtain ⟨W, hW⟩ : ∃ W, W = setMd w8 w.heap.size E E E false false none false false 0 0 0 0 := ⟨_, rfl⟩
        rw [← hW] at hWh hWb
        obtain ⟨⟨q0, q1, q2, q3, q4, q5, q6, q7, q8, q9, q10, q11⟩, _⟩ := mod_cells hWh
        show bodyPost Tryz.prog Tryz.f22 _ Exit.ret _ (setMd w8 w.heap.size E E E false false none false false 0 0 0 0)
        rw [← hW]
        refine bodyPost_ret (v := .tuple #[.agg zeroMd, .int .i64 0, .int .i64 12]) (by simp [results, Tryz.results22, go_sem, q0, q1, q2, q3, q4, q5, q6, q7, q8, q9, q10, q11]; try rfl) rfl ⟨by rw [HR.out]; rfl, hWb⟩
      | true =>
        have HR : Hid (R = .ok (changeMd x1 x2 al on) (n1 + n2 + 4 + fl.length)) := HRR.out.trans (if_neg (by simp))
        clear HRR
        go_wp2
        have hWb : Below w.heap.size w (setMd w8 w.heap.size ⟨#[83]⟩ a2 (ba x2) bg en none al on mks ots 0 0) := setMd_below HL.out (Nat.le_refl _)
        have hWh := setMd_heap (kind := ⟨#[83]⟩) (a := a2) (c := ba x2) (bg := bg) (en := en) (ex := none) (al := al) (on := on) (mks := mks) (ots := ots) (frm := 0) (upto := 0) HBk.out
        obtain ⟨W, hW⟩ : ∃ W, W = setMd w8 w.heap.size ⟨#[83]⟩ a2 (ba x2) bg en none al on mks ots 0 0 := ⟨_, rfl⟩
        rw [← hW] at hWh hWb
        obtain ⟨⟨q0, q1, q2, q3, q4, q5, q6, q7, q8, q9, q10, q11⟩, _⟩ := mod_cells hWh
        show bodyPost Tryz.prog Tryz.f22 _ Exit.ret _ (setMd w8 w.heap.size ⟨#[83]⟩ a2 (ba x2) bg en none al on mks ots 0 0)
        rw [← hW]
        refine bodyPost_ret (v := .tuple #[.agg (mdV ⟨#[83]⟩ a2 (ba x2) bg en none al on mks ots 0 0), .int .i64 ((2 : Int) + n1 + 1 + (n2 + 1) + fl.length), .int .i64 0]) (by simp [results, Tryz.results22, go_sem, q0, q1, q2, q3, q4, q5, q6, q7, q8, q9, q10, q11]; try rfl) rfl ⟨?_, hWb⟩
        rw [HR.out]
        unfold Rd.val Md.cells changeMd
        obtain ⟨g1, g2, g3⟩ := HA.out
        obtain ⟨g4, g5⟩ := HQ.out
        rw [g1, g2, g3, g4, g5]
        simp only [Ending.returned.injEq, Value.tuple.injEq]
        rw [show (2 : Int) + n1 + 1 + (n2 + 1) + fl.length = ((n1 + n2 + 4 + fl.length : Nat) : Int) by omega]
end Go.Proofs.YtpcpcfnmcfjomaaGreatDoor
namespace Go.Proofs.YtpcpcfnmcfjomaaGreatDoor
open Go.RowKit Go.Shelf
def partsB (c : UInt8) : Bool := decide (¬ (97 ≤ c.toNat ∧ c.toNat ≤ 122) ∧ ¬ (65 ≤ c.toNat ∧ c.toNat ≤ 90) ∧ ¬ (48 ≤ c.toNat ∧ c.toNat ≤ 57) ∧ c.toNat ≠ 32 ∧ c.toNat ≠ 9 ∧ c.toNat ≠ 92)
set_option maxRecDepth 20000 in
set_option maxHeartbeats 3200000 in
theorem parts_any (c : UInt8) (cn : Int) (w : World) (hc : cn = (c.toNat : Int)) : Calls Tryz.prog 21 #[.int .u8 cn] w fun e w' => e = .returned (.bool (partsB c)) ∧ w = w' := by
  obtain ⟨R, hR⟩ : ∃ R, R = partsB c := ⟨_, rfl⟩
  rw [← hR]
  have h255 := c.toNat_lt
  have HRR : Hid (R = decide (¬ (97 ≤ cn ∧ cn ≤ 122) ∧ ¬ (65 ≤ cn ∧ cn ≤ 90) ∧ ¬ (48 ≤ cn ∧ cn ≤ 57) ∧ cn ≠ 32 ∧ cn ≠ 9 ∧ cn ≠ 92)) := by
    unfold Hid; rw [hR]; unfold partsB; rw [hc, decide_eq_decide]; omega
  have h0 : 0 ≤ cn := by omega
  have h1 : cn ≤ 255 := by omega
  clear hc hR h255
  go_enter Tryz.func21, Tryz.ntmps21
  have hall : (0 ≤ cn ∧ cn ≤ 8) ∨ cn = 9 ∨ (10 ≤ cn ∧ cn ≤ 31) ∨ cn = 32 ∨ (33 ≤ cn ∧ cn ≤ 47) ∨ (48 ≤ cn ∧ cn ≤ 57) ∨ (58 ≤ cn ∧ cn ≤ 64) ∨ (65 ≤ cn ∧ cn ≤ 90) ∨ cn = 91 ∨ cn = 92 ∨ (93 ≤ cn ∧ cn ≤ 96) ∨ (97 ≤ cn ∧ cn ≤ 122) ∨ (123 ≤ cn ∧ cn ≤ 255) := by omega
  rcases hall with h | h | h | h | h | h | h | h | h | h | h | h | h
  · have g97 : ¬ (97 : Int) ≤ cn := by omega
    have g122 : cn ≤ (122 : Int) := by omega
    have g65 : ¬ (65 : Int) ≤ cn := by omega
    have g90 : cn ≤ (90 : Int) := by omega
    have g48 : ¬ (48 : Int) ≤ cn := by omega
    have g57 : cn ≤ (57 : Int) := by omega
    have e32 : (cn != 32) = true := by rw [bne_iff_ne]; omega
    have e9 : (cn != 9) = true := by rw [bne_iff_ne]; omega
    have e92 : (cn != 92) = true := by rw [bne_iff_ne]; omega
    have HR : Hid (R = true) := HRR.out.trans (by simp only [decide_eq_true_eq]; omega)
    clear HRR h
    go_wp2
    go_ret
    exact ⟨by rw [HR.out]; rfl, rfl⟩
  · have g97 : ¬ (97 : Int) ≤ cn := by omega
    have g122 : cn ≤ (122 : Int) := by omega
    have g65 : ¬ (65 : Int) ≤ cn := by omega
    have g90 : cn ≤ (90 : Int) := by omega
    have g48 : ¬ (48 : Int) ≤ cn := by omega
    have g57 : cn ≤ (57 : Int) := by omega
    have e32 : (cn != 32) = true := by rw [bne_iff_ne]; omega
    have e9 : (cn != 9) = false := by rw [bne_eq_false_iff_eq]; omega
    have e92 : (cn != 92) = true := by rw [bne_iff_ne]; omega
    have HR : Hid (R = false) := HRR.out.trans (by simp only [decide_eq_false_iff_not]; omega)
    clear HRR h
    go_wp2
    go_ret
    exact ⟨by rw [HR.out]; rfl, rfl⟩
  · have g97 : ¬ (97 : Int) ≤ cn := by omega
    have g122 : cn ≤ (122 : Int) := by omega
    have g65 : ¬ (65 : Int) ≤ cn := by omega
    have g90 : cn ≤ (90 : Int) := by omega
    have g48 : ¬ (48 : Int) ≤ cn := by omega
    have g57 : cn ≤ (57 : Int) := by omega
    have e32 : (cn != 32) = true := by rw [bne_iff_ne]; omega
    have e9 : (cn != 9) = true := by rw [bne_iff_ne]; omega
    have e92 : (cn != 92) = true := by rw [bne_iff_ne]; omega
    have HR : Hid (R = true) := HRR.out.trans (by simp only [decide_eq_true_eq]; omega)
    clear HRR h
    go_wp2
    go_ret
    exact ⟨by rw [HR.out]; rfl, rfl⟩
  · have g97 : ¬ (97 : Int) ≤ cn := by omega
    have g122 : cn ≤ (122 : Int) := by omega
    have g65 : ¬ (65 : Int) ≤ cn := by omega
    have g90 : cn ≤ (90 : Int) := by omega
    have g48 : ¬ (48 : Int) ≤ cn := by omega
    have g57 : cn ≤ (57 : Int) := by omega
    have e32 : (cn != 32) = false := by rw [bne_eq_false_iff_eq]; omega
    have e9 : (cn != 9) = true := by rw [bne_iff_ne]; omega
    have e92 : (cn != 92) = true := by rw [bne_iff_ne]; omega
    have HR : Hid (R = false) := HRR.out.trans (by simp only [decide_eq_false_iff_not]; omega)
    clear HRR h
    go_wp2
    go_ret
    exact ⟨by rw [HR.out]; rfl, rfl⟩
  · have g97 : ¬ (97 : Int) ≤ cn := by omega
    have g122 : cn ≤ (122 : Int) := by omega
    have g65 : ¬ (65 : Int) ≤ cn := by omega
    have g90 : cn ≤ (90 : Int) := by omega
    have g48 : ¬ (48 : Int) ≤ cn := by omega
    have g57 : cn ≤ (57 : Int) := by omega
    have e32 : (cn != 32) = true := by rw [bne_iff_ne]; omega
    have e9 : (cn != 9) = true := by rw [bne_iff_ne]; omega
    have e92 : (cn != 92) = true := by rw [bne_iff_ne]; omega
    have HR : Hid (R = true) := HRR.out.trans (by simp only [decide_eq_true_eq]; omega)
    clear HRR h
    go_wp2
    go_ret
    exact ⟨by rw [HR.out]; rfl, rfl⟩
  · have g97 : ¬ (97 : Int) ≤ cn := by omega
    have g122 : cn ≤ (122 : Int) := by omega
    have g65 : ¬ (65 : Int) ≤ cn := by omega
    have g90 : cn ≤ (90 : Int) := by omega
    have g48 : (48 : Int) ≤ cn := by omega
    have g57 : cn ≤ (57 : Int) := by omega
    have e32 : (cn != 32) = true := by rw [bne_iff_ne]; omega
    have e9 : (cn != 9) = true := by rw [bne_iff_ne]; omega
    have e92 : (cn != 92) = true := by rw [bne_iff_ne]; omega
    have HR : Hid (R = false) := HRR.out.trans (by simp only [decide_eq_false_iff_not]; omega)
    clear HRR h
    go_wp2
    go_ret
    exact ⟨by rw [HR.out]; rfl, rfl⟩
  · have g97 : ¬ (97 : Int) ≤ cn := by omega
    have g122 : cn ≤ (122 : Int) := by omega
    have g65 : ¬ (65 : Int) ≤ cn := by omega
    have g90 : cn ≤ (90 : Int) := by omega
    have g48 : (48 : Int) ≤ cn := by omega
    have g57 : ¬ cn ≤ (57 : Int) := by omega
    have e32 : (cn != 32) = true := by rw [bne_iff_ne]; omega
    have e9 : (cn != 9) = true := by rw [bne_iff_ne]; omega
    have e92 : (cn != 92) = true := by rw [bne_iff_ne]; omega
    have HR : Hid (R = true) := HRR.out.trans (by simp only [decide_eq_true_eq]; omega)
    clear HRR h
    go_wp2
    go_ret
    exact ⟨by rw [HR.out]; rfl, rfl⟩
  · have g97 : ¬ (97 : Int) ≤ cn := by omega
    have g122 : cn ≤ (122 : Int) := by omega
    have g65 : (65 : Int) ≤ cn := by omega
    have g90 : cn ≤ (90 : Int) := by omega
    have g48 : (48 : Int) ≤ cn := by omega
    have g57 : ¬ cn ≤ (57 : Int) := by omega
    have e32 : (cn != 32) = true := by rw [bne_iff_ne]; omega
    have e9 : (cn != 9) = true := by rw [bne_iff_ne]; omega
    have e92 : (cn != 92) = true := by rw [bne_iff_ne]; omega
    have HR : Hid (R = false) := HRR.out.trans (by simp only [decide_eq_false_iff_not]; omega)
    clear HRR h
    go_wp2
    go_ret
    exact ⟨by rw [HR.out]; rfl, rfl⟩
  · have g97 : ¬ (97 : Int) ≤ cn := by omega
    have g122 : cn ≤ (122 : Int) := by omega
    have g65 : (65 : Int) ≤ cn := by omega
    have g90 : ¬ cn ≤ (90 : Int) := by omega
    have g48 : (48 : Int) ≤ cn := by omega
    have g57 : ¬ cn ≤ (57 : Int) := by omega
    have e32 : (cn != 32) = true := by rw [bne_iff_ne]; omega
    have e9 : (cn != 9) = true := by rw [bne_iff_ne]; omega
    have e92 : (cn != 92) = true := by rw [bne_iff_ne]; omega
    have HR : Hid (R = true) := HRR.out.trans (by simp only [decide_eq_true_eq]; omega)
    clear HRR h
    go_wp2
    go_ret
    exact ⟨by rw [HR.out]; rfl, rfl⟩
  · have g97 : ¬ (97 : Int) ≤ cn := by omega
    have g122 : cn ≤ (122 : Int) := by omega
    have g65 : (65 : Int) ≤ cn := by omega
    have g90 : ¬ cn ≤ (90 : Int) := by omega
    have g48 : (48 : Int) ≤ cn := by omega
    have g57 : ¬ cn ≤ (57 : Int) := by omega
    have e32 : (cn != 32) = true := by rw [bne_iff_ne]; omega
    have e9 : (cn != 9) = true := by rw [bne_iff_ne]; omega
    have e92 : (cn != 92) = false := by rw [bne_eq_false_iff_eq]; omega
    have HR : Hid (R = false) := HRR.out.trans (by simp only [decide_eq_false_iff_not]; omega)
    clear HRR h
    go_wp2
    go_ret
    exact ⟨by rw [HR.out]; rfl, rfl⟩
  · have g97 : ¬ (97 : Int) ≤ cn := by omega
    have g122 : cn ≤ (122 : Int) := by omega
    have g65 : (65 : Int) ≤ cn := by omega
    have g90 : ¬ cn ≤ (90 : Int) := by omega
    have g48 : (48 : Int) ≤ cn := by omega
    have g57 : ¬ cn ≤ (57 : Int) := by omega
    have e32 : (cn != 32) = true := by rw [bne_iff_ne]; omega
    have e9 : (cn != 9) = true := by rw [bne_iff_ne]; omega
    have e92 : (cn != 92) = true := by rw [bne_iff_ne]; omega
    have HR : Hid (R = true) := HRR.out.trans (by simp only [decide_eq_true_eq]; omega)
    clear HRR h
    go_wp2
    go_ret
    exact ⟨by rw [HR.out]; rfl, rfl⟩
  · have g97 : (97 : Int) ≤ cn := by omega
    have g122 : cn ≤ (122 : Int) := by omega
    have g65 : (65 : Int) ≤ cn := by omega
    have g90 : ¬ cn ≤ (90 : Int) := by omega
    have g48 : (48 : Int) ≤ cn := by omega
    have g57 : ¬ cn ≤ (57 : Int) := by omega
    have e32 : (cn != 32) = true := by rw [bne_iff_ne]; omega
    have e9 : (cn != 9) = true := by rw [bne_iff_ne]; omega
    have e92 : (cn != 92) = true := by rw [bne_iff_ne]; omega
    have HR : Hid (R = false) := HRR.out.trans (by simp only [decide_eq_false_iff_not]; omega)
    clear HRR h
    go_wp2
    go_ret
    exact ⟨by rw [HR.out]; rfl, rfl⟩
  · have g97 : (97 : Int) ≤ cn := by omega
    have g122 : ¬ cn ≤ (122 : Int) := by omega
    have g65 : (65 : Int) ≤ cn := by omega
    have g90 : ¬ cn ≤ (90 : Int) := by omega
    have g48 : (48 : Int) ≤ cn := by omega
    have g57 : ¬ cn ≤ (57 : Int) := by omega
    have e32 : (cn != 32) = true := by rw [bne_iff_ne]; omega
    have e9 : (cn != 9) = true := by rw [bne_iff_ne]; omega
    have e92 : (cn != 92) = true := by rw [bne_iff_ne]; omega
    have HR : Hid (R = true) := HRR.out.trans (by simp only [decide_eq_true_eq]; omega)
    clear HRR h
    go_wp2
    go_ret
    exact ⟨by rw [HR.out]; rfl, rfl⟩
end Go.Proofs.YtpcpcfnmcfjomaaGreatDoor
