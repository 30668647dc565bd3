/-
  The step of a=b.
-/
import Derived.Test.YthcbagggalehgaaGreatDoorM10
namespace Go.Proofs.YthcbagggalehgaaGreatDoor
open Go.RowKit Go.Shelf

def enclB (s a c : List UInt8) : Bool := decide (a.length + c.length ≤ s.length) && (Lib.hasPrefix s a && Lib.hasSuffix s c)

set_option maxRecDepth 20000 in
set_option maxHeartbeats 1600000 in
theorem encloses_any (s a c : ByteArray) (w : World) (hs : s.size ≤ 1000000) (ha : a.size ≤ 1000000) (hc : c.size ≤ 1000000) :
    Calls Tryz.prog 153 #[.string s, .string a, .string c] w fun e w' => e = .returned (.bool (enclB (bl s) (bl a) (bl c))) ∧ w = w' := by
  have HP : Hid (∀ W, Calls Tryz.prog 27 #[.string s, .string a] W fun e w' => e = .returned (.bool (Lib.hasPrefix (bl s) (bl a))) ∧ W = w') := fun W => (Tryz.strings_HasPrefix s a W).mono (by rintro e w' ⟨rfl, rfl⟩; exact ⟨rfl, rfl⟩)
  have HS : Hid (∀ W, Calls Tryz.prog 151 #[.string s, .string c] W fun e w' => e = .returned (.bool (Lib.hasSuffix (bl s) (bl c))) ∧ W = w') := fun W => (Tryz.strings_HasSuffix s c W (by omega)).mono (by rintro e w' ⟨rfl, rfl⟩; exact ⟨rfl, rfl⟩)
  unfold enclB
  rw [bl_length, bl_length, bl_length]
  obtain ⟨p, hp⟩ : ∃ p, p = Lib.hasPrefix (bl s) (bl a) := ⟨_, rfl⟩
  obtain ⟨q, hq⟩ : ∃ q, q = Lib.hasSuffix (bl s) (bl c) := ⟨_, rfl⟩
  rw [← hp] at HP ⊢
  rw [← hq] at HS ⊢
  clear hp hq
  by_cases hle : a.size + c.size ≤ s.size
  · rw [decide_eq_true hle]
    have t1 : (a.size : Int) + (c.size : Int) ≤ (s.size : Int) := by omega
    cases p with
    | false =>
      go_enter Tryz.func153, Tryz.ntmps153
      go_wp2_with fail
      refine (HP.out _).mono ?_
      rintro e w' ⟨rfl, rfl⟩
      go_wp2
      go_ret
      exact ⟨rfl, rfl⟩
    | true =>
      go_enter Tryz.func153, Tryz.ntmps153
      go_wp2_with fail
      refine (HP.out _).mono ?_
      rintro e w' ⟨rfl, rfl⟩
      go_wp2_with fail
      refine (HS.out _).mono ?_
      rintro e w' ⟨rfl, rfl⟩
      go_wp2
      go_ret
      exact ⟨rfl, rfl⟩
  · rw [decide_eq_false hle]
    have t1 : ¬ (a.size : Int) + (c.size : Int) ≤ (s.size : Int) := by omega
    go_enter Tryz.func153, Tryz.ntmps153
    go_wp2
    go_ret
    exact ⟨rfl, rfl⟩

/-- What a=b makes of a word. -/
def endedL (a b s : List UInt8) : List UInt8 :=
  if (Lib.cut a [37]).2.2 = true then
    if enclB s (Lib.cut a [37]).1 (Lib.cut a [37]).2.1 = true then Lib.replace b [37] ((s.take (s.length - (Lib.cut a [37]).2.1.length)).drop (Lib.cut a [37]).1.length) 1 else s
  else if Lib.hasSuffix s a = true then Lib.trimSuffix s a ++ b else s
theorem cut_len (a : List UInt8) (c : UInt8) : (Lib.cut a [c]).1.length ≤ a.length ∧ (Lib.cut a [c]).2.1.length ≤ a.length := by
  unfold Lib.cut
  split
  · simp; exact Nat.min_le_right _ _
  · simp
theorem cut_to (a : ByteArray) (c : UInt8) (ha : a.size ≤ 1000000) : Hid (∀ W, Mx W → Calls Tryz.prog 111 #[.string a, .string ⟨#[c]⟩] W fun e w' => e = .returned (.tuple #[.string (ba (Lib.cut (bl a) [c]).1), .string (ba (Lib.cut (bl a) [c]).2.1), .bool (Lib.cut (bl a) [c]).2.2]) ∧ Below W.heap.size W w') := fun W hW => by
  obtain ⟨m, hm⟩ := hW
  refine (Tryz.strings_Cut a ⟨#[c]⟩ m W (by omega) hm).mono ?_
  rintro e w' ⟨rfl, k, rfl⟩
  exact ⟨rfl, below_drewN (Below.refl _ _) k⟩

set_option maxRecDepth 20000 in
set_option maxHeartbeats 3200000 in
theorem endedSo_any (base b : Nat) (m : Md) (v : Value) (made : List ByteArray) (done : Bool) (x : ByteArray) (w : World) (h : Wk base b m v made false done w) (ha : m.a.size ≤ 1000000) (hb : m.b.size ≤ 1000000) (hx : x.size ≤ 1000000) (hs : sizeL made ≤ 65536) (hl : made.length ≤ 100000) (hmx : Mx w) :
    Calls Tryz.prog 130 #[.pointer (some ⟨b, 0, none⟩), .string x] w fun e w' => e = .returned (.tuple #[]) ∧ Step base b m v made done (some (ba (endedL (bl m.a) (bl m.b) (bl x)))) w w' := by
  have HC := cut_to m.a 37 ha
  have HS : Hid (∀ W, Calls Tryz.prog 151 #[.string x, .string m.a] W fun e w' => e = .returned (.bool (Lib.hasSuffix (bl x) (bl m.a))) ∧ W = w') := fun W => (Tryz.strings_HasSuffix x m.a W (by omega)).mono (by rintro e w' ⟨rfl, rfl⟩; exact ⟨rfl, rfl⟩)
  have HT : Hid (∀ W, Calls Tryz.prog 152 #[.string x, .string m.a] W fun e w' => e = .returned (.string (ba (Lib.trimSuffix (bl x) (bl m.a)))) ∧ W = w') := fun W => (Tryz.strings_TrimSuffix x m.a W (by omega)).mono (by rintro e w' ⟨rfl, rfl⟩; exact ⟨rfl, rfl⟩)
  have HK : Hid (∀ y W, Wk base b m v made false done W → Calls Tryz.prog 141 #[.pointer (some ⟨b, 0, none⟩), .string y] W fun e w' => e = .returned (.tuple #[]) ∧ Step base b m v made done (some y) W w') := fun y W hW => keep_any base b m v made false done y W hW hs hl
  have HW : Hid (Wk base b m v made false done w) := h
  clear h
  obtain ⟨R, hR⟩ : ∃ R, R = endedL (bl m.a) (bl m.b) (bl x) := ⟨_, rfl⟩
  rw [← hR]
  unfold endedL at hR
  have hcl := cut_len (bl m.a) 37
  rcases hcu : Lib.cut (bl m.a) [37] with ⟨c1, c2, c3⟩
  rw [hcu] at HC hR hcl
  simp only [bl_length] at hcl hR
  have HM : Hid (∀ W, Below w.heap.size w W → Mx W) := fun W hB => hmx.below hB hmx.pos
  clear hcu hmx
  obtain ⟨ma, hma⟩ : ∃ ma, ma = m.a := ⟨_, rfl⟩
  obtain ⟨mb, hmb⟩ : ∃ mb, mb = m.b := ⟨_, rfl⟩
  have HCl : Hid (∀ W, Below w.heap.size w W → W.cell? ⟨b, 1, none⟩ = some (.string ma) ∧ W.cell? ⟨b, 2, none⟩ = some (.string mb)) := fun W hB => by
    rw [hma, hmb]; have := (HW.out.below hB).cells.1; exact ⟨this.2.1, this.2.2.1⟩
  rw [← hma] at HC HS HT hR hcl ha
  rw [← hmb] at hR hb
  clear hma hmb
  obtain ⟨y1, hy1⟩ : ∃ y1, y1 = ba c1 := ⟨_, rfl⟩
  obtain ⟨y2, hy2⟩ : ∃ y2, y2 = ba c2 := ⟨_, rfl⟩
  rw [← hy1, ← hy2] at HC
  have e1 : c1 = bl y1 := by rw [hy1, bl_ba]
  have e2 : c2 = bl y2 := by rw [hy2, bl_ba]
  rw [e1, e2] at hR hcl
  simp only [bl_length] at hR hcl
  clear hy1 hy2 e1 e2
  have hy1s : y1.size ≤ 1000000 := by omega
  have hy2s : y2.size ≤ 1000000 := by omega
  have HEn : Hid (∀ W, Calls Tryz.prog 153 #[.string x, .string y1, .string y2] W fun e w' => e = .returned (.bool (enclB (bl x) (bl y1) (bl y2))) ∧ W = w') := fun W => encloses_any x y1 y2 W hx hy1s hy2s
  obtain ⟨r1, r2⟩ := HCl.out w (Below.refl _ _)
  cases c3 with
  | false =>
    rw [if_neg (by simp)] at hR
    cases hsf : Lib.hasSuffix (bl x) (bl ma) with
    | false =>
      rw [hsf, if_neg (by simp)] at hR
      rw [hsf] at HS
      have HR : Hid (ba R = x) := by unfold Hid; rw [hR, ba_bl]
      clear hR hsf
      go_enter Tryz.func130, Tryz.ntmps130
      go_wp2_with fail
      refine (HC.out _ (HM.out _ (Below.refl _ _))).mono ?_
      rintro e w1 ⟨rfl, hb1⟩
      have HZ : Hid (Below w.heap.size w w1) := hb1
      clear r1 r2
      obtain ⟨r1, r2⟩ := HCl.out w1 hb1
      clear hb1
      go_wp2_with fail
      refine (HS.out _).mono ?_
      rintro e w' ⟨rfl, rfl⟩
      go_wp2_with fail
      refine (HK.out x _ (HW.out.below HZ.out)).mono ?_
      rintro e w2 ⟨rfl, hst⟩
      have HSt : Hid (Step base b m v made done (some (ba R)) w w2) := by rw [HR.out]; exact hst.of_below HZ.out
      clear hst
      go_wp2
      refine bodyPost_end (v := .tuple #[]) (by simp [results, Tryz.results130, go_sem]) rfl ⟨rfl, HSt.out⟩
    | true =>
      rw [hsf, if_pos rfl] at hR
      rw [hsf] at HS
      obtain ⟨tr, htr⟩ : ∃ tr, tr = ba (Lib.trimSuffix (bl x) (bl ma)) := ⟨_, rfl⟩
      rw [← htr] at HT
      have HR : Hid (ba R = tr ++ mb) := by unfold Hid; apply bl_inj; rw [hR, bl_ba, htr]; simp [bl, ba]
      have htrs : tr.size ≤ 1000000 := by rw [htr, ba_size]; refine Nat.le_trans ?_ hx; rw [← bl_length]; unfold Lib.trimSuffix; split <;> simp
      have hadd : ¬ tr.size + mb.size > 9223372036854775807 := by omega
      have hadd2 : ¬ 9223372036854775807 < tr.size + mb.size := by omega
      have hadd3 : tr.size + mb.size ≤ 9223372036854775807 := by omega
      clear hR hsf htr
      go_enter Tryz.func130, Tryz.ntmps130
      go_wp2_with fail
      refine (HC.out _ (HM.out _ (Below.refl _ _))).mono ?_
      rintro e w1 ⟨rfl, hb1⟩
      have HZ : Hid (Below w.heap.size w w1) := hb1
      clear r1 r2
      obtain ⟨r1, r2⟩ := HCl.out w1 hb1
      clear hb1
      go_wp2_with fail
      refine (HS.out _).mono ?_
      rintro e w' ⟨rfl, rfl⟩
      go_wp2_with fail
      go_region_held3 (fun W => W.cell? ⟨b, 1, none⟩ = some (.string ma) ∧ W.cell? ⟨b, 2, none⟩ = some (.string mb)) (first | exact HCl.out _ HZ.out | exact HCl.out _ HZ.out.drew) (first | (go_at_call 152; refine (HT.out _).mono ?_; rintro e w' ⟨rfl, rfl⟩))
      go_wp2_with fail
      refine (HK.out (tr ++ mb) _ (HW.out.below HZ.out.drew)).mono ?_
      rintro e w2 ⟨rfl, hst⟩
      have HSt : Hid (Step base b m v made done (some (ba R)) w w2) := by rw [HR.out]; exact hst.of_below HZ.out.drew
      clear hst
      go_wp2
      refine bodyPost_end (v := .tuple #[]) (by simp [results, Tryz.results130, go_sem]) rfl ⟨rfl, HSt.out⟩
  | true =>
    rw [if_pos rfl] at hR
    cases hen : enclB (bl x) (bl y1) (bl y2) with
    | false =>
      rw [hen, if_neg (by simp)] at hR
      rw [hen] at HEn
      have HR : Hid (ba R = x) := by unfold Hid; rw [hR, ba_bl]
      clear hR hen
      go_enter Tryz.func130, Tryz.ntmps130
      go_wp2_with fail
      refine (HC.out _ (HM.out _ (Below.refl _ _))).mono ?_
      rintro e w1 ⟨rfl, hb1⟩
      have HZ : Hid (Below w.heap.size w w1) := hb1
      clear r1 r2
      obtain ⟨r1, r2⟩ := HCl.out w1 hb1
      clear hb1
      go_wp2_with fail
      refine (HEn.out _).mono ?_
      rintro e w' ⟨rfl, rfl⟩
      go_wp2_with fail
      refine (HK.out x _ (HW.out.below HZ.out)).mono ?_
      rintro e w2 ⟨rfl, hst⟩
      have HSt : Hid (Step base b m v made done (some (ba R)) w w2) := by rw [HR.out]; exact hst.of_below HZ.out
      clear hst
      go_wp2
      refine bodyPost_end (v := .tuple #[]) (by simp [results, Tryz.results130, go_sem]) rfl ⟨rfl, HSt.out⟩
    | true =>
      rw [hen, if_pos rfl] at hR
      rw [hen] at HEn
      have hle : y1.size + y2.size ≤ x.size := by
        unfold enclB at hen
        simp only [Bool.and_eq_true, decide_eq_true_eq, bl_length] at hen
        exact hen.1
      obtain ⟨q, hq⟩ : ∃ q, q = x.extract y1.size (x.size - y2.size) := ⟨_, rfl⟩
      have HQ : Hid (q = x.extract y1.size (x.size - y2.size)) := hq
      have hqs : q.size ≤ 1000000 := by rw [hq]; simp; omega
      have hqb : bl q = ((bl x).take (x.size - y2.size)).drop y1.size := by rw [hq, bl_extract]
      rw [← hqb] at hR
      have HRe : Hid (∀ W, Mx W → Calls Tryz.prog 34 #[.string mb, .string ⟨#[37]⟩, .string (x.extract y1.size (x.size - y2.size)), .int .i64 1] W fun e w' => e = .returned (.string (ba R)) ∧ Below W.heap.size W w') := fun W hW => by
        obtain ⟨mm, hmm⟩ := hW
        rw [← hq]
        have hcb := Lib.countB_le ⟨#[37]⟩ (by decide) mb.size mb (Nat.le_refl _)
        refine (Tryz.strings_Replace mb ⟨#[37]⟩ q 1 mm W (by omega) hmm (by decide) ?_).mono ?_
        · have h3 : Lib.countB mb ⟨#[37]⟩ * q.size ≤ 1000001 * 1000000 := Nat.mul_le_mul (by omega) hqs
          omega
        · rintro e w' ⟨rfl, hB⟩
          rw [hR]; exact ⟨rfl, hB⟩
      clear hR hen hq hqb hqs
      have t0 : (0 : Int) ≤ (y1.size : Int) := by omega
      have t1 : (y1.size : Int) ≤ (x.size : Int) - (y2.size : Int) := by omega
      have t2 : (x.size : Int) - (y2.size : Int) ≤ (x.size : Int) := by omega
      have t4 : (0 : Int) ≤ (x.size : Int) - (y2.size : Int) := by omega
      have t5 : (0 : Int) ≤ (y2.size : Int) := by omega
      have t6 : IntKind.i64.wrap ((x.size : Int) - (y2.size : Int)) = (x.size : Int) - (y2.size : Int) := by (simp [IntKind.wrap, IntKind.bits, IntKind.signed]; omega)
      have t3 : ((x.size : Int) - (y2.size : Int)).toNat = x.size - y2.size := by omega
      go_enter Tryz.func130, Tryz.ntmps130
      go_wp2_with fail
      refine (HC.out _ (HM.out _ (Below.refl _ _))).mono ?_
      rintro e w1 ⟨rfl, hb1⟩
      have HZ : Hid (Below w.heap.size w w1) := hb1
      clear r1 r2
      obtain ⟨r1, r2⟩ := HCl.out w1 hb1
      clear hb1
      go_wp2_with fail
      refine (HEn.out _).mono ?_
      rintro e w' ⟨rfl, rfl⟩
      go_wp2_with fail
      go_region_held3 (fun W => W.cell? ⟨b, 2, none⟩ = some (.string mb)) (first | exact (HCl.out _ HZ.out).2 | exact (HCl.out _ HZ.out.drew).2 | exact (HCl.out _ (HZ.out.drew.trans (Below.mono ‹_› (HZ.out.size)))).2) (first | (go_at_call 34; refine (HRe.out _ (HM.out _ HZ.out.drew)).mono ?_; rintro e w3 ⟨rfl, hb3⟩))
      have HZ3 : Hid (Below w.heap.size w w3) := HZ.out.drew.trans (hb3.mono HZ.out.size)
      clear hb3
      go_wp2_with fail
      refine (HK.out (ba R) _ (HW.out.below HZ3.out)).mono ?_
      rintro e w2 ⟨rfl, hst⟩
      have HSt : Hid (Step base b m v made done (some (ba R)) w w2) := hst.of_below HZ3.out
      clear hst
      go_wp2
      refine bodyPost_end (v := .tuple #[]) (by simp [results, Tryz.results130, go_sem]) rfl ⟨rfl, HSt.out⟩
end Go.Proofs.YthcbagggalehgaaGreatDoor
