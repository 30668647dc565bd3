/-
  M11 M12 M13
-/
import Derived.Test.YtpcpcfnmcfjomaaGreatDoorK17
import Derived.BigQuiet
import Derived.Lib.IndexMore
namespace Go.Proofs.YtpcpcfnmcfjomaaGreatDoor
open Go.RowKit Go.Shelf
def enclB (s a c : List UInt8) : Bool := decide (a.length + c.length ≤ s.length) && (Lib.hasPrefix s a && Lib.hasSuffix s c)
set_option maxRecDepth 20000 in
set_option maxHeartbeats 1600000 in
theorem encloses_any (s a c : ByteArray) (w : World) (hs : s.size ≤ 1000000) (ha : a.size ≤ 1000000) (hc : c.size ≤ 1000000) :
    Calls Tryz.prog 104 #[.string s, .string a, .string c] w fun e w' => e = .returned (.bool (enclB (bl s) (bl a) (bl c))) ∧ w = w' := by
  have HP : Hid (∀ W, Calls Tryz.prog 19 #[.string s, .string a] W fun e w' => e = .returned (.bool (Lib.hasPrefix (bl s) (bl a))) ∧ W = w') := fun W => (Tryz.strings_HasPrefix s a W).mono (by rintro e w' ⟨rfl, rfl⟩; exact ⟨rfl, rfl⟩)
  have HS : Hid (∀ W, Calls Tryz.prog 102 #[.string s, .string c] W fun e w' => e = .returned (.bool (Lib.hasSuffix (bl s) (bl c))) ∧ W = w') := fun W => (Tryz.strings_HasSuffix s c W (by omega)).mono (by rintro e w' ⟨rfl, rfl⟩; exact ⟨rfl, rfl⟩)
  unfold enclB
  rw [bl_length, bl_length, bl_length]
  obtain ⟨p, hp⟩ : ∃ p, p = Lib.hasPrefix (bl s) (bl a) := ⟨_, rfl⟩
  obtain ⟨q, hq⟩ : ∃ q, q = Lib.hasSuffix (bl s) (bl c) := ⟨_, rfl⟩
  rw [← hp] at HP ⊢
  rw [← hq] at HS ⊢
  clear hp hq
  by_cases hle : a.size + c.size ≤ s.size
  · rw [decide_eq_true hle]
    have t1 : (a.size : Int) + (c.size : Int) ≤ (s.size : Int) := by omega
    cases p with
    | false =>
      go_enter Tryz.func104, Tryz.ntmps104
      go_wp2_with fail
      refine (HP.out _).mono ?_
      rintro e w' ⟨rfl, rfl⟩
      go_wp2
      go_ret
      exact ⟨rfl, rfl⟩
    | true =>
      go_enter Tryz.func104, Tryz.ntmps104
      go_wp2_with fail
      refine (HP.out _).mono ?_
      rintro e w' ⟨rfl, rfl⟩
      go_wp2_with fail
      refine (HS.out _).mono ?_
      rintro e w' ⟨rfl, rfl⟩
      go_wp2
      go_ret
      exact ⟨rfl, rfl⟩
  · rw [decide_eq_false hle]
    have t1 : ¬ (a.size : Int) + (c.size : Int) ≤ (s.size : Int) := by omega
    go_enter Tryz.func104, Tryz.ntmps104
    go_wp2
    go_ret
    exact ⟨rfl, rfl⟩
def endedL (a b s : List UInt8) : List UInt8 :=
  if (Lib.cut a [37]).2.2 = true then
    if enclB s (Lib.cut a [37]).1 (Lib.cut a [37]).2.1 = true then Lib.replace b [37] ((s.take (s.length - (Lib.cut a [37]).2.1.length)).drop (Lib.cut a [37]).1.length) 1 else s
  else if Lib.hasSuffix s a = true then Lib.trimSuffix s a ++ b else s
theorem cut_len (a : List UInt8) (c : UInt8) : (Lib.cut a [c]).1.length ≤ a.length ∧ (Lib.cut a [c]).2.1.length ≤ a.length := by
  unfold Lib.cut
  split
  · simp; exact Nat.min_le_right _ _
  · simp
theorem cut_to (a : ByteArray) (c : UInt8) (ha : a.size ≤ 1000000) : Hid (∀ W, Mx W → Calls Tryz.prog 24 #[.string a, .string ⟨#[c]⟩] W fun e w' => e = .returned (.tuple #[.string (ba (Lib.cut (bl a) [c]).1), .string (ba (Lib.cut (bl a) [c]).2.1), .bool (Lib.cut (bl a) [c]).2.2]) ∧ Below W.heap.size W w') := fun W hW => by
  obtain ⟨m, hm⟩ := hW
  refine (Tryz.strings_Cut a ⟨#[c]⟩ m W (by omega) hm).mono ?_
  rintro e w' ⟨rfl, k, rfl⟩
  exact ⟨rfl, below_drewN (Below.refl _ _) k⟩
set_option maxRecDepth 20000 in
set_option maxHeartbeats 3200000 in
theorem endedSo_any (base b : Nat) (m : Md) (v : Value) (made : List ByteArray) (done : Bool) (x : ByteArray) (w : World) (h : Wk base b m v made false done w) (ha : m.a.size ≤ 1000000) (hb : m.b.size ≤ 1000000) (hx : x.size ≤ 1000000) (hs : sizeL made ≤ 65536) (hl : made.length ≤ 100000) (hmx : Mx w) :
    Calls Tryz.prog 55 #[.pointer (some ⟨b, 0, none⟩), .string x] w fun e w' => e = .returned (.tuple #[]) ∧ Step base b m v made done (some (ba (endedL (bl m.a) (bl m.b) (bl x)))) w w' := by
  have HC := cut_to m.a 37 ha
  have HS : Hid (∀ W, Calls Tryz.prog 102 #[.string x, .string m.a] W fun e w' => e = .returned (.bool (Lib.hasSuffix (bl x) (bl m.a))) ∧ W = w') := fun W => (Tryz.strings_HasSuffix x m.a W (by omega)).mono (by rintro e w' ⟨rfl, rfl⟩; exact ⟨rfl, rfl⟩)
  have HT : Hid (∀ W, Calls Tryz.prog 103 #[.string x, .string m.a] W fun e w' => e = .returned (.string (ba (Lib.trimSuffix (bl x) (bl m.a)))) ∧ W = w') := fun W => (Tryz.strings_TrimSuffix x m.a W (by omega)).mono (by rintro e w' ⟨rfl, rfl⟩; exact ⟨rfl, rfl⟩)
  have HK : Hid (∀ y W, Wk base b m v made false done W → Calls Tryz.prog 89 #[.pointer (some ⟨b, 0, none⟩), .string y] W fun e w' => e = .returned (.tuple #[]) ∧ Step base b m v made done (some y) W w') := fun y W hW => keep_any base b m v made false done y W hW hs hl
  have HW : Hid (Wk base b m v made false done w) := h
  clear h
  obtain ⟨R, hR⟩ : ∃ R, R = endedL (bl m.a) (bl m.b) (bl x) := ⟨_, rfl⟩
  rw [← hR]
  unfold endedL at hR
  have hcl := cut_len (bl m.a) 37
  rcases hcu : Lib.cut (bl m.a) [37] with ⟨c1, c2, c3⟩
  rw [hcu] at HC hR hcl
  simp only [bl_length] at hcl hR
  have HM : Hid (∀ W, Below w.heap.size w W → Mx W) := fun W hB => hmx.below hB hmx.pos
  clear hcu hmx
  obtain ⟨ma, hma⟩ : ∃ ma, ma = m.a := ⟨_, rfl⟩
  obtain ⟨mb, hmb⟩ : ∃ mb, mb = m.b := ⟨_, rfl⟩
  have HCl : Hid (∀ W, Below w.heap.size w W → W.cell? ⟨b, 1, none⟩ = some (.string ma) ∧ W.cell? ⟨b, 2, none⟩ = some (.string mb)) := fun W hB => by
    rw [hma, hmb]; have := (HW.out.below hB).cells.1; exact ⟨this.2.1, this.2.2.1⟩
  rw [← hma] at HC HS HT hR hcl ha
  rw [← hmb] at hR hb
  clear hma hmb
  obtain ⟨y1, hy1⟩ : ∃ y1, y1 = ba c1 := ⟨_, rfl⟩
  obtain ⟨y2, hy2⟩ : ∃ y2, y2 = ba c2 := ⟨_, rfl⟩
  rw [← hy1, ← hy2] at HC
  have e1 : c1 = bl y1 := by rw [hy1, bl_ba]
  have e2 : c2 = bl y2 := by rw [hy2, bl_ba]
  rw [e1, e2] at hR hcl
  simp only [bl_length] at hR hcl
  clear hy1 hy2 e1 e2
  have hy1s : y1.size ≤ 1000000 := by omega
  have hy2s : y2.size ≤ 1000000 := by omega
  have HEn : Hid (∀ W, Calls Tryz.prog 104 #[.string x, .string y1, .string y2] W fun e w' => e = .returned (.bool (enclB (bl x) (bl y1) (bl y2))) ∧ W = w') := fun W => encloses_any x y1 y2 W hx hy1s hy2s
  obtain ⟨r1, r2⟩ := HCl.out w (Below.refl _ _)
  cases c3 with
  | false =>
    rw [if_neg (by simp)] at hR
    cases hsf : Lib.hasSuffix (bl x) (bl ma) with
    | false =>
      rw [hsf, if_neg (by simp)] at hR
      rw [hsf] at HS
      have HR : Hid (ba R = x) := by unfold Hid; rw [hR, ba_bl]
      clear hR hsf
      go_enter Tryz.func55, Tryz.ntmps55
      go_wp2_with fail
      refine (HC.out _ (HM.out _ (Below.refl _ _))).mono ?_
      rintro e w1 ⟨rfl, hb1⟩
      have HZ : Hid (Below w.heap.size w w1) := hb1
      clear r1 r2
      obtain ⟨r1, r2⟩ := HCl.out w1 hb1
      clear hb1
      go_wp2_with fail
      refine (HS.out _).mono ?_
      rintro e w' ⟨rfl, rfl⟩
      go_wp2_with fail
      refine (HK.out x _ (HW.out.below HZ.out)).mono ?_
      rintro e w2 ⟨rfl, hst⟩
      have HSt : Hid (Step base b m v made done (some (ba R)) w w2) := by rw [HR.out]; exact hst.of_below HZ.out
      clear hst
      go_wp2
      refine bodyPost_end (v := .tuple #[]) (by simp [results, Tryz.results55, go_sem]) rfl ⟨rfl, HSt.out⟩
    | true =>
      rw [hsf, if_pos rfl] at hR
      rw [hsf] at HS
      obtain ⟨tr, htr⟩ : ∃ tr, tr = ba (Lib.trimSuffix (bl x) (bl ma)) := ⟨_, rfl⟩
      rw [← htr] at HT
      have HR : Hid (ba R = tr ++ mb) := by unfold Hid; apply bl_inj; rw [hR, bl_ba, htr]; simp [bl, ba]
      have htrs : tr.size ≤ 1000000 := by rw [htr, ba_size]; refine Nat.le_trans ?_ hx; rw [← bl_length]; unfold Lib.trimSuffix; split <;> simp
      have hadd : ¬ tr.size + mb.size > 9223372036854775807 := by omega
      have hadd2 : ¬ 9223372036854775807 < tr.size + mb.size := by omega
      have hadd3 : tr.size + mb.size ≤ 9223372036854775807 := by omega
      clear hR hsf htr
      go_enter Tryz.func55, Tryz.ntmps55
      go_wp2_with fail
      refine (HC.out _ (HM.out _ (Below.refl _ _))).mono ?_
      rintro e w1 ⟨rfl, hb1⟩
      have HZ : Hid (Below w.heap.size w w1) := hb1
      clear r1 r2
      obtain ⟨r1, r2⟩ := HCl.out w1 hb1
      clear hb1
      go_wp2_with fail
      refine (HS.out _).mono ?_
      rintro e w' ⟨rfl, rfl⟩
      go_wp2_with fail
      go_region_held3 (fun W => W.cell? ⟨b, 1, none⟩ = some (.string ma) ∧ W.cell? ⟨b, 2, none⟩ = some (.string mb)) (first | exact HCl.out _ HZ.out | exact HCl.out _ HZ.out.drew) (first | (go_at_call 103; refine (HT.out _).mono ?_; rintro e w' ⟨rfl, rfl⟩))
      go_wp2_with fail
      refine (HK.out (tr ++ mb) _ (HW.out.below HZ.out.drew)).mono ?_
      rintro e w2 ⟨rfl, hst⟩
      have HSt : Hid (Step base b m v made done (some (ba R)) w w2) := by rw [HR.out]; exact hst.of_below HZ.out.drew
      clear hst
      go_wp2
      refine bodyPost_end (v := .tuple #[]) (by simp [results, Tryz.results55, go_sem]) rfl ⟨rfl, HSt.out⟩
  | true =>
    rw [if_pos rfl] at hR
    cases hen : enclB (bl x) (bl y1) (bl y2) with
    | false =>
      rw [hen, if_neg (by simp)] at hR
      rw [hen] at HEn
      have HR : Hid (ba R = x) := by unfold Hid; rw [hR, ba_bl]
      clear hR hen
      go_enter Tryz.func55, Tryz.ntmps55
      go_wp2_with fail
      refine (HC.out _ (HM.out _ (Below.refl _ _))).mono ?_
      rintro e w1 ⟨rfl, hb1⟩
      have HZ : Hid (Below w.heap.size w w1) := hb1
      clear r1 r2
      obtain ⟨r1, r2⟩ := HCl.out w1 hb1
      clear hb1
      go_wp2_with fail
      refine (HEn.out _).mono ?_
      rintro e w' ⟨rfl, rfl⟩
      go_wp2_with fail
      refine (HK.out x _ (HW.out.below HZ.out)).mono ?_
      rintro e w2 ⟨rfl, hst⟩
      have HSt : Hid (Step base b m v made done (some (ba R)) w w2) := by rw [HR.out]; exact hst.of_below HZ.out
      clear hst
      go_wp2
      refine bodyPost_end (v := .tuple #[]) (by simp [results, Tryz.results55, go_sem]) rfl ⟨rfl, HSt.out⟩
    | true =>
      rw [hen, if_pos rfl] at hR
      rw [hen] at HEn
      have hle : y1.size + y2.size ≤ x.size := by
        unfold enclB at hen
        simp only [Bool.and_eq_true, decide_eq_true_eq, bl_length] at hen
        exact hen.1
      obtain ⟨q, hq⟩ : ∃ q, q = x.extract y1.size (x.size - y2.size) := ⟨_, rfl⟩
      have HQ : Hid (q = x.extract y1.size (x.size - y2.size)) := hq
      have hqs : q.size ≤ 1000000 := by rw [hq]; simp; omega
      have hqb : bl q = ((bl x).take (x.size - y2.size)).drop y1.size := by rw [hq, bl_extract]
      rw [← hqb] at hR
      have HRe : Hid (∀ W, Mx W → Calls Tryz.prog 95 #[.string mb, .string ⟨#[37]⟩, .string (x.extract y1.size (x.size - y2.size)), .int .i64 1] W fun e w' => e = .returned (.string (ba R)) ∧ Below W.heap.size W w') := fun W hW => by
        obtain ⟨mm, hmm⟩ := hW
        rw [← hq]
        have hcb := Lib.countB_le ⟨#[37]⟩ (by decide) mb.size mb (Nat.le_refl _)
        refine (Tryz.strings_Replace mb ⟨#[37]⟩ q 1 mm W (by omega) hmm (by decide) ?_).mono ?_
        · have h3 : Lib.countB mb ⟨#[37]⟩ * q.size ≤ 1000001 * 1000000 := Nat.mul_le_mul (by omega) hqs
          omega
        · rintro e w' ⟨rfl, hB⟩
          rw [hR]; exact ⟨rfl, hB⟩
      clear hR hen hq hqb hqs
      have t0 : (0 : Int) ≤ (y1.size : Int) := by omega
      have t1 : (y1.size : Int) ≤ (x.size : Int) - (y2.size : Int) := by omega
      have t2 : (x.size : Int) - (y2.size : Int) ≤ (x.size : Int) := by omega
      have t4 : (0 : Int) ≤ (x.size : Int) - (y2.size : Int) := by omega
      have t5 : (0 : Int) ≤ (y2.size : Int) := by omega
      have t6 : IntKind.i64.wrap ((x.size : Int) - (y2.size : Int)) = (x.size : Int) - (y2.size : Int) := by (simp [IntKind.wrap, IntKind.bits, IntKind.signed]; omega)
      have t3 : ((x.size : Int) - (y2.size : Int)).toNat = x.size - y2.size := by omega
      go_enter Tryz.func55, Tryz.ntmps55
      go_wp2_with fail
      refine (HC.out _ (HM.out _ (Below.refl _ _))).mono ?_
      rintro e w1 ⟨rfl, hb1⟩
      have HZ : Hid (Below w.heap.size w w1) := hb1
      clear r1 r2
      obtain ⟨r1, r2⟩ := HCl.out w1 hb1
      clear hb1
      go_wp2_with fail
      refine (HEn.out _).mono ?_
      rintro e w' ⟨rfl, rfl⟩
      go_wp2_with fail
      go_region_held3 (fun W => W.cell? ⟨b, 2, none⟩ = some (.string mb)) (first | exact (HCl.out _ HZ.out).2 | exact (HCl.out _ HZ.out.drew).2 | exact (HCl.out _ (HZ.out.drew.trans (Below.mono ‹_› (HZ.out.size)))).2) (first | (go_at_call 95; refine (HRe.out _ (HM.out _ HZ.out.drew)).mono ?_; rintro e w3 ⟨rfl, hb3⟩))
      have HZ3 : Hid (Below w.heap.size w w3) := HZ.out.drew.trans (hb3.mono HZ.out.size)
      clear hb3
      go_wp2_with fail
      refine (HK.out (ba R) _ (HW.out.below HZ3.out)).mono ?_
      rintro e w2 ⟨rfl, hst⟩
      have HSt : Hid (Step base b m v made done (some (ba R)) w w2) := hst.of_below HZ3.out
      clear hst
      go_wp2
      refine bodyPost_end (v := .tuple #[]) (by simp [results, Tryz.results55, go_sem]) rfl ⟨rfl, HSt.out⟩
end Go.Proofs.YtpcpcfnmcfjomaaGreatDoor
namespace Go.Proofs.YtpcpcfnmcfjomaaGreatDoor
open Go.RowKit Go.Shelf
def firstI (bg en : Bool) (a s : List UInt8) : Int :=
  if bg = true ∧ en = true ∧ ¬ s = a then -1 else if bg = true ∧ Lib.hasPrefix s a = false then -1 else if en = true ∧ Lib.hasSuffix s a = false then -1
  else if en = true then (s.length : Int) - a.length else if bg = true then 0 else Lib.index s a
set_option maxRecDepth 20000 in
set_option maxHeartbeats 3200000 in
theorem first_any (b : Nat) (ma x : ByteArray) (bg en : Bool) (w : World) (r1 : w.cell? ⟨b, 1, none⟩ = some (.string ma)) (r3 : w.cell? ⟨b, 3, none⟩ = some (.bool bg)) (r4 : w.cell? ⟨b, 4, none⟩ = some (.bool en)) (ha : ma.size ≤ 1000000) (hx : x.size ≤ 1000000) (hmx : Mx w) :
    Calls Tryz.prog 90 #[.pointer (some ⟨b, 0, none⟩), .string x] w fun e w' => e = .returned (.int .i64 (firstI bg en (bl ma) (bl x))) ∧ w = w' := by
  have HP : Hid (∀ W, Calls Tryz.prog 19 #[.string x, .string ma] W fun e w' => e = .returned (.bool (Lib.hasPrefix (bl x) (bl ma))) ∧ W = w') := fun W => (Tryz.strings_HasPrefix x ma W).mono (by rintro e w' ⟨rfl, rfl⟩; exact ⟨rfl, rfl⟩)
  have HS : Hid (∀ W, Calls Tryz.prog 102 #[.string x, .string ma] W fun e w' => e = .returned (.bool (Lib.hasSuffix (bl x) (bl ma))) ∧ W = w') := fun W => (Tryz.strings_HasSuffix x ma W (by omega)).mono (by rintro e w' ⟨rfl, rfl⟩; exact ⟨rfl, rfl⟩)
  have HI : Hid (Calls Tryz.prog 132 #[.string x, .string ma] w fun e w' => e = .returned (.int .i64 (Lib.index (bl x) (bl ma))) ∧ w = w') := by
    obtain ⟨mm, hmm⟩ := hmx
    exact (Tryz.strings_Index x ma mm w (by omega) hmm).mono (by rintro e w' ⟨rfl, rfl⟩; exact ⟨rfl, rfl⟩)
  clear hmx
  obtain ⟨R, hR⟩ : ∃ R, R = firstI bg en (bl ma) (bl x) := ⟨_, rfl⟩
  rw [← hR]
  unfold firstI at hR
  obtain ⟨ix, hix⟩ : ∃ ix, ix = Lib.index (bl x) (bl ma) := ⟨_, rfl⟩
  rw [← hix] at HI hR
  clear hix
  rw [bl_length, bl_length] at hR
  cases bg with
  | false =>
    rw [if_neg (by simp), if_neg (by simp)] at hR
    cases en with
    | false =>
      rw [if_neg (by simp), if_neg (by simp), if_neg (by simp)] at hR
      have HR : Hid (R = ix) := hR
      clear hR
      go_enter Tryz.func90, Tryz.ntmps90
      go_wp2_with fail
      refine HI.out.mono ?_
      rintro e w' ⟨rfl, rfl⟩
      go_wp2
      go_ret
      exact ⟨by rw [HR.out]; rfl, rfl⟩
    | true =>
      cases hq : Lib.hasSuffix (bl x) (bl ma) with
      | false =>
        rw [hq] at hR HS
        rw [if_pos ⟨rfl, rfl⟩] at hR
        have HR : Hid (R = -1) := hR
        clear hR hq
        go_enter Tryz.func90, Tryz.ntmps90
        go_wp2_with fail
        refine (HS.out _).mono ?_
        rintro e w' ⟨rfl, rfl⟩
        go_wp2
        go_ret
        exact ⟨by rw [HR.out]; rfl, rfl⟩
      | true =>
        rw [hq] at hR HS
        rw [if_neg (by simp), if_pos rfl] at hR
        have HR : Hid (R = (x.size : Int) - ma.size) := hR
        clear hR hq
        go_enter Tryz.func90, Tryz.ntmps90
        go_wp2_with fail
        refine (HS.out _).mono ?_
        rintro e w' ⟨rfl, rfl⟩
        go_wp2
        go_ret
        exact ⟨by rw [HR.out]; rfl, rfl⟩
  | true =>
    cases en with
    | false =>
      rw [if_neg (by simp)] at hR
      cases hp : Lib.hasPrefix (bl x) (bl ma) with
      | false =>
        rw [hp] at hR HP
        rw [if_pos ⟨rfl, rfl⟩] at hR
        have HR : Hid (R = -1) := hR
        clear hR hp
        go_enter Tryz.func90, Tryz.ntmps90
        go_wp2_with fail
        refine (HP.out _).mono ?_
        rintro e w' ⟨rfl, rfl⟩
        go_wp2
        go_ret
        exact ⟨by rw [HR.out]; rfl, rfl⟩
      | true =>
        rw [hp] at hR HP
        rw [if_neg (by simp), if_neg (by simp), if_neg (by simp), if_pos rfl] at hR
        have HR : Hid (R = 0) := hR
        clear hR hp
        go_enter Tryz.func90, Tryz.ntmps90
        go_wp2_with fail
        refine (HP.out _).mono ?_
        rintro e w' ⟨rfl, rfl⟩
        go_wp2
        go_ret
        exact ⟨by rw [HR.out]; rfl, rfl⟩
    | true =>
      by_cases hxa : x = ma
      · subst hxa
        rw [if_neg (by simp)] at hR
        cases hp : Lib.hasPrefix (bl x) (bl x) with
        | false =>
          rw [hp] at hR HP
          rw [if_pos ⟨rfl, rfl⟩] at hR
          have HR : Hid (R = -1) := hR
          clear hR hp
          go_enter Tryz.func90, Tryz.ntmps90
          go_wp2_with fail
          refine (HP.out _).mono ?_
          rintro e w' ⟨rfl, rfl⟩
          go_wp2
          go_ret
          exact ⟨by rw [HR.out]; rfl, rfl⟩
        | true =>
          rw [hp] at hR HP
          rw [if_neg (by simp)] at hR
          cases hq : Lib.hasSuffix (bl x) (bl x) with
          | false =>
            rw [hq] at hR HS
            rw [if_pos ⟨rfl, rfl⟩] at hR
            have HR : Hid (R = -1) := hR
            clear hR hq hp
            go_enter Tryz.func90, Tryz.ntmps90
            go_wp2_with fail
            refine (HP.out _).mono ?_
            rintro e w' ⟨rfl, rfl⟩
            go_wp2_with fail
            refine (HS.out _).mono ?_
            rintro e w' ⟨rfl, rfl⟩
            go_wp2
            go_ret
            exact ⟨by rw [HR.out]; rfl, rfl⟩
          | true =>
            rw [hq] at hR HS
            rw [if_neg (by simp), if_pos rfl] at hR
            have HR : Hid (R = 0) := hR.trans (by omega)
            clear hR hq hp
            have e0 : (x.size : Int) - (x.size : Int) = 0 := by omega
            go_enter Tryz.func90, Tryz.ntmps90
            go_wp2_with fail
            refine (HP.out _).mono ?_
            rintro e w' ⟨rfl, rfl⟩
            go_wp2_with fail
            refine (HS.out _).mono ?_
            rintro e w' ⟨rfl, rfl⟩
            go_wp2
            go_ret
            exact ⟨by rw [HR.out]; rfl, rfl⟩
      · rw [if_pos ⟨rfl, rfl, fun e => hxa (bl_inj e)⟩] at hR
        have HR : Hid (R = -1) := hR
        clear hR
        have t1 : ¬ x.toList = ma.toList := by rw [Lib.toList_data, Lib.toList_data]; exact fun e => hxa (bl_inj e)
        have t2 : (x.toList == ma.toList) = false := beq_eq_false_iff_ne.2 t1
        have t3 : (x.toList != ma.toList) = true := bne_iff_ne.2 t1
        clear hxa
        go_enter Tryz.func90, Tryz.ntmps90
        go_wp2
        go_ret
        exact ⟨by rw [HR.out]; rfl, rfl⟩
theorem wrap_ok (n : Int) (h1 : -9000000000000000000 ≤ n) (h2 : n ≤ 9000000000000000000) : IntKind.i64.wrap n = n := by
  (simp [IntKind.wrap, IntKind.bits, IntKind.signed]; omega)
set_option maxRecDepth 20000 in
set_option maxHeartbeats 1600000 in
theorem length_any (b : Nat) (x : ByteArray) (mks ots pl tk : Nat) (w : World) (r8 : w.cell? ⟨b, 8, none⟩ = some (.int .i64 mks)) (r9 : w.cell? ⟨b, 9, none⟩ = some (.int .i64 ots)) (hx : x.size ≤ 1000000) (h1 : mks ≤ 1000000) (h2 : ots ≤ 1000000) (h3 : pl ≤ 1000001) (h4 : tk ≤ 1000000000000) :
    Calls Tryz.prog 93 #[.pointer (some ⟨b, 0, none⟩), .string x, .int .i64 pl, .int .i64 tk] w fun e w' => e = .returned (.int .i64 ((x.size : Int) - tk + pl * ots + tk * mks)) ∧ Below w.heap.size w w' := by
  have g1 : pl * ots ≤ 1000001 * 1000000 := Nat.mul_le_mul h3 h2
  have g2 : tk * mks ≤ 1000000000000 * 1000000 := Nat.mul_le_mul h4 h1
  have c1 : (pl : Int) * (ots : Int) = ((pl * ots : Nat) : Int) := by simp
  have c2 : (tk : Int) * (mks : Int) = ((tk * mks : Nat) : Int) := by simp
  have k1 : IntKind.i64.wrap ((x.size : Int) - (tk : Int)) = (x.size : Int) - tk := by (simp [IntKind.wrap, IntKind.bits, IntKind.signed]; omega)
  have k2 : IntKind.i64.wrap ((pl : Int) * (ots : Int)) = (pl : Int) * ots := by rw [c1]; exact wrap_ok _ (by omega) (by omega)
  have k3 : IntKind.i64.wrap ((tk : Int) * (mks : Int)) = (tk : Int) * mks := by rw [c2]; exact wrap_ok _ (by omega) (by omega)
  have k4 : IntKind.i64.wrap ((x.size : Int) - (tk : Int) + (pl : Int) * (ots : Int)) = (x.size : Int) - (tk : Int) + (pl : Int) * (ots : Int) := by rw [c1]; exact wrap_ok _ (by omega) (by omega)
  have k5 : IntKind.i64.wrap ((x.size : Int) - (tk : Int) + (pl : Int) * (ots : Int) + (tk : Int) * (mks : Int)) = (x.size : Int) - (tk : Int) + (pl : Int) * (ots : Int) + (tk : Int) * (mks : Int) := by rw [c1, c2]; exact wrap_ok _ (by omega) (by omega)
  clear g1 g2 c1 c2
  go_enter Tryz.func93, Tryz.ntmps93
  go_wp2
  go_quiet (fail)
  go_wp2
  go_ret
  exact ⟨rfl, below_drewN (Below.refl _ _) _⟩
end Go.Proofs.YtpcpcfnmcfjomaaGreatDoor
namespace Go.Proofs.YtpcpcfnmcfjomaaGreatDoor
open Go.RowKit Go.Shelf
theorem replaceK_len (old new : List UInt8) : ∀ (k : Nat) (s : List UInt8), (Lib.replaceK old new k s).length ≤ s.length + k * new.length
  | 0, s => by simp [Lib.replaceK]
  | k + 1, s => by
    rw [Lib.replaceK]
    split
    · exact Nat.le_add_right _ _
    · have := replaceK_len old new k (s.drop ((Lib.index s old).toNat + old.length))
      simp only [List.length_append, List.length_take, List.length_drop, Nat.succ_mul] at this ⊢
      omega
theorem replaceAll_len (s old new : List UInt8) : (Lib.replaceAll s old new).length ≤ s.length + (s.length + 1) * new.length := by
  unfold Lib.replaceAll Lib.replace
  split
  · exact Nat.le_add_right _ _
  · refine Nat.le_trans (replaceK_len old new _ s) (Nat.add_le_add_left (Nat.mul_le_mul_right _ ?_) _)
    unfold Lib.replaceNum
    rw [if_pos (Or.inl (by decide))]
    exact Lib.count_le s old
theorem firstI_le (bg en : Bool) (a s : List UInt8) : firstI bg en a s ≤ s.length := by
  unfold firstI
  split
  · omega
  · split
    · omega
    · split
      · omega
      · split
        · omega
        · split
          · omega
          · exact Lib.index_le s a
theorem Step.of_went {base b : Nat} {m : Md} {v : Value} {made : List ByteArray} {done : Bool} {x : Option ByteArray} {w0 w w' : World} (h : Step base b m v made done x w w') (hb : Went b v w0 w) : Step base b m v made done x w0 w' := by
  obtain ⟨⟨v', h1, h2⟩, h3⟩ := h
  refine ⟨⟨v', h1, fun j hj => ?_⟩, hb.same h3⟩
  have := hb.size
  rcases h2 j hj with h4 | h4
  · exact .inl h4
  · exact .inr (by omega)
theorem Went.mx {b : Nat} {v : Value} {w w' : World} (h : Went b v w w') (hm : Mx w) (hb : 0 < b) (hv : v.ownBlock ≠ some 0) : Mx w' := by
  obtain ⟨m, e⟩ := hm
  refine ⟨m, ?_⟩
  have := h.block 0 (Mx.pos ⟨m, e⟩) (by omega) hv
  simp only [World.cell?] at e ⊢
  rw [this]; exact e
theorem Wk.drew {base b : Nat} {m : Md} {v : Value} {made : List ByteArray} {over done : Bool} {w : World} (h : Wk base b m v made over done w) : Wk base b m v made over done w.drew := h.below ((Below.refl _ _).drew)
set_option maxRecDepth 20000 in
set_option maxHeartbeats 3200000 in
theorem repl_keep (base b : Nat) (m : Md) (v : Value) (made : List ByteArray) (done : Bool) (x : ByteArray) (w : World) (h : Wk base b m v made false done w) (ha : m.a.size ≤ 1000000) (hx : x.size ≤ 1000000) (hs : sizeL made ≤ 65536) (hl : made.length ≤ 100000) (hmx : Mx w)
    (hk : firstI m.bg m.en (bl m.a) (bl x) < 0 ∨ (done = true ∧ m.on = true)) :
    Calls Tryz.prog 47 #[.pointer (some ⟨b, 0, none⟩), .string x] w fun e w' => e = .returned (.tuple #[]) ∧ Step base b m v made done (some x) w w' := by
  have HK : Hid (∀ W, Wk base b m v made false done W → Calls Tryz.prog 89 #[.pointer (some ⟨b, 0, none⟩), .string x] W fun e w' => e = .returned (.tuple #[]) ∧ Step base b m v made done (some x) W w') := fun W hW => keep_any base b m v made false done x W hW hs hl
  have HW : Hid (Wk base b m v made false done w) := h
  obtain ⟨⟨r0, r1, r2, r3, r4, r6, r7, r8, r9⟩, ⟨r12, r13, r14, r15⟩, hfz⟩ := h.cells
  clear h
  obtain ⟨F, hF⟩ : ∃ F, F = firstI m.bg m.en (bl m.a) (bl x) := ⟨_, rfl⟩
  have HFi : Hid (Calls Tryz.prog 90 #[.pointer (some ⟨b, 0, none⟩), .string x] w fun e w' => e = .returned (.int .i64 F) ∧ w = w') := by
    rw [hF]; exact first_any b m.a x m.bg m.en w r1 r3 r4 ha hx hmx
  rw [← hF] at hk
  clear hF hmx
  by_cases hneg : F < 0
  · clear hk
    go_enter Tryz.func47, Tryz.ntmps47
    go_wp2_with fail
    refine HFi.out.mono ?_
    rintro e w' ⟨rfl, rfl⟩
    go_wp2_with fail
    refine (HK.out _ HW.out).mono ?_
    rintro e w2 ⟨rfl, hst⟩
    have HS : Hid (Step base b m v made done (some x) w w2) := hst
    clear hst
    go_wp2
    refine bodyPost_ret (v := .tuple #[]) (by simp [results, Tryz.results47, go_sem]) rfl ⟨rfl, HS.out⟩
  · obtain ⟨hd, ho⟩ := hk.resolve_left hneg
    rw [hd] at r15
    rw [ho] at r7
    clear hk ho
    go_enter Tryz.func47, Tryz.ntmps47
    go_wp2_with fail
    refine HFi.out.mono ?_
    rintro e w' ⟨rfl, rfl⟩
    go_wp2_with fail
    refine (HK.out _ HW.out).mono ?_
    rintro e w2 ⟨rfl, hst⟩
    have HS : Hid (Step base b m v made done (some x) w w2) := hst
    clear hst
    go_wp2
    refine bodyPost_ret (v := .tuple #[]) (by simp [results, Tryz.results47, go_sem]) rfl ⟨rfl, HS.out⟩
def placesN (al bg en : Bool) (a s : List UInt8) : Nat := if al = true ∧ bg = false ∧ en = false then Lib.count s a else 1
def replY (m : Md) (x : ByteArray) : ByteArray :=
  ba ((bl x).take (firstI m.bg m.en (bl m.a) (bl x)).toNat ++ Lib.replace ((bl x).drop (firstI m.bg m.en (bl m.a) (bl x)).toNat) (bl m.a) (Lib.replaceAll (bl m.b) [38] (bl m.a)) (placesN m.al m.bg m.en (bl m.a) (bl x)))
def replN (m : Md) (mks ots : Nat) (x : ByteArray) : Int :=
  (x.size : Int) - (placesN m.al m.bg m.en (bl m.a) (bl x) * m.a.size : Nat) + (placesN m.al m.bg m.en (bl m.a) (bl x) : Nat) * ots + (placesN m.al m.bg m.en (bl m.a) (bl x) * m.a.size : Nat) * mks
end Go.Proofs.YtpcpcfnmcfjomaaGreatDoor
