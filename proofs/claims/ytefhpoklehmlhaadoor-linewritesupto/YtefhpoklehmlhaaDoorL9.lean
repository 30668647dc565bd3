/-
  What Write answers.
-/
import Derived.Test.YtefhpoklehmlhaaDoorL6
import Derived.Test.YtefhpoklehmlhaaDoorLMath2
namespace Go.Proofs.YtefhpoklehmlhaaDoor
open Go.RowKit Go.Shelf

def rawZ (x : Lz) : List UInt8 := if x.cmd then 9 :: bl x.text else Ln.hash (bl x.text)
def writeZ (l : List Lz) : List UInt8 := l.flatMap fun x => rawZ x ++ [10]
theorem writeZ_snoc (l : List Lz) (x : Lz) : writeZ (l ++ [x]) = writeZ l ++ (rawZ x ++ [10]) := by simp [writeZ]
theorem writeZ_app (a b : List Lz) : writeZ (a ++ b) = writeZ a ++ writeZ b := by simp [writeZ]
theorem writeZ_take (l : List Lz) (k : Nat) : (writeZ (l.take k)).length ≤ (writeZ l).length := by
  have := congrArg List.length (writeZ_app (l.take k) (l.drop k))
  rw [List.take_append_drop, List.length_append] at this
  omega
theorem writeZ_lz (L : List Ln.Ln) : writeZ (L.map lz) = Ln.writeT L := by
  induction L with
  | nil => rfl
  | cons x L ih =>
    have e : rawZ (lz x) = Ln.rawOf x := by unfold rawZ Ln.rawOf lz; simp only [bl_ba]
    show rawZ (lz x) ++ [10] ++ writeZ (L.map lz) = Ln.rawOf x ++ [10] ++ Ln.writeT L
    rw [ih, e]
theorem hash_ge (t : List UInt8) : t.length ≤ (Ln.hash t).length := by
  induction t with
  | nil => exact Nat.le_refl _
  | cons c t ih =>
    by_cases h : c = 35
    · rw [h, Ln.hash_hit]; simp only [List.length_cons]; omega
    · rw [Ln.hash_miss t h]; simp only [List.length_cons]; omega
theorem writeZ_mem {l : List Lz} {k : Nat} {x : Lz} (h : l[k]? = some x) : (rawZ x).length ≤ (writeZ l).length := by
  have hk := (List.getElem?_eq_some_iff.1 h).1
  have h1 := writeZ_take l (k + 1)
  rw [List.take_succ_eq_append_getElem hk, writeZ_snoc] at h1
  rw [List.getElem?_eq_getElem hk] at h
  rw [Option.some.inj h] at h1
  simp only [List.length_append] at h1
  omega

set_option maxRecDepth 20000 in
set_option maxHeartbeats 1000000 in
theorem write_any (v : Value) (l : List Lz) (w : World) (hl : l.length ≤ 4000000) (hz : (writeZ l).length ≤ 500000000) (hm : Mx w) (hW : LZ w.heap.size w v l) :
    Calls Tryd.prog 12 #[v] w fun e w' => e = .returned (.string (ba (writeZ l))) ∧ Below w.heap.size w w' := by
  obtain ⟨a, c, rfl, hc⟩ := hW.slice
  obtain ⟨n, hn⟩ : ∃ n, n = l.length := ⟨_, rfl⟩
  rw [← hn] at hl hc hW
  have HW : Hid (n = l.length ∧ LZ w.heap.size w (.slice a n c) l ∧ (writeZ l).length ≤ 500000000 ∧ Mx w) := ⟨hn, hW, hz, hm⟩
  rw [← hn]
  clear hn hW hz hm
  obtain ⟨b0, hb0⟩ : ∃ b0, b0 = w.heap.size := ⟨_, rfl⟩
  have HB0 : Hid (b0 = w.heap.size) := hb0
  have HWB : Hid (∀ (p : List UInt8) (W : World), Bu b0 p W → p.length ≤ 600000000 → Calls Tryd.prog 26 #[.pointer (some ⟨b0, 0, none⟩), .int .u8 10] W fun e w' => e = .returned .nilIface ∧ BuPost b0 (p ++ [10]) W w') := fun p W h h2 => wb_any _ p 10 10 rfl W h h2
  have HWT : Hid (∀ (p : List UInt8) (W : World), Bu b0 p W → p.length ≤ 600000000 → Calls Tryd.prog 26 #[.pointer (some ⟨b0, 0, none⟩), .int .u8 9] W fun e w' => e = .returned .nilIface ∧ BuPost b0 (p ++ [9]) W w') := fun p W h h2 => wb_any _ p 9 9 rfl W h h2
  have HWS : Hid (∀ (p : List UInt8) (m : ByteArray) (W : World), Bu b0 p W → p.length ≤ 600000000 → m.size ≤ 600000000 → Calls Tryd.prog 27 #[.pointer (some ⟨b0, 0, none⟩), .string m] W fun e w' => e = .returned (.tuple #[.int .i64 m.size, .nilIface]) ∧ BuPost b0 (p ++ bl m) W w') := fun p m W h h2 h3 => ws_any _ p m W h h2 h3
  have HBS : Hid (∀ (p : List UInt8) (W : World), Bu b0 p W → Calls Tryd.prog 29 #[.pointer (some ⟨b0, 0, none⟩)] W fun e w' => e = .returned (.string (ba p)) ∧ Below b0 W w') := fun p W h => bs_any _ p W h
  have HNEW : Hid (Bu b0 [] (w.alloc (.cells #[.pointer none, .slice none 0 0] 56)) ∧ Below b0 w (w.alloc (.cells #[.pointer none, .slice none 0 0] 56))) := by
    rw [hb0]; exact ⟨bu_new w, (Below.refl _ _).alloc (Nat.le_refl _) _⟩
  go_enter Tryd.func12, Tryd.ntmps12
  go_wp2
  rw [← hb0]
  clear hb0
  go_loopw [8] (fun vi wr => ∃ (k : Nat) (p : List UInt8), k ≤ n ∧ vi = .int .i64 (k : Int) ∧ p.length ≤ 500000000 ∧ Hid (Bu b0 p wr ∧ Below b0 w wr ∧ p = writeZ (l.take k))) (fun vi _ => n - (intOf vi).toNat)
  case atStart => exact ⟨0, [], Nat.zero_le _, rfl, by simp, HNEW.out.1, HNEW.out.2, by simp [writeZ]⟩
  case round =>
    clear HNEW
    obtain ⟨k, p, hk, rfl, hp, HI⟩ := hrel
    by_cases hlt : k < n
    · have hil : (k : Int) < (n : Int) := by omega
      have hkl : k < l.length := by rw [← HW.out.1]; exact hlt
      obtain ⟨x, hx⟩ : ∃ x, l[k]? = some x := ⟨l[k], List.getElem?_eq_getElem hkl⟩
      obtain ⟨b, o, rfl, hbB, d0, d1, d2⟩ := HW.out.2.1.pick hx
      have hb0 : b < b0 := by rw [HB0.out]; exact hbB
      have c0 : wr.cell? ⟨b, o + k * 3, none⟩ = some (.string x.text) := by rw [HI.out.2.1.cell (p := ⟨b, _, none⟩) hb0]; exact d0
      have c1 : wr.cell? ⟨b, o + k * 3 + 1, none⟩ = some (.int .i64 x.at_) := by rw [HI.out.2.1.cell (p := ⟨b, _, none⟩) hb0]; exact d1
      have c2 : wr.cell? ⟨b, o + k * 3 + 2, none⟩ = some (.bool x.cmd) := by rw [HI.out.2.1.cell (p := ⟨b, _, none⟩) hb0]; exact d2
      have HT : Hid (writeZ (l.take (k + 1)) = writeZ (l.take k) ++ (rawZ x ++ [10]) ∧ (writeZ (l.take (k + 1))).length ≤ 500000000) := by
        refine ⟨?_, Nat.le_trans (writeZ_take l (k + 1)) HW.out.2.2.1⟩
        rw [List.take_succ_eq_append_getElem hkl, writeZ_snoc]
        rw [List.getElem?_eq_getElem hkl] at hx
        rw [Option.some.inj hx]
      have hrz : (rawZ x).length ≤ 500000000 := Nat.le_trans (writeZ_mem hx) HW.out.2.2.1
      have hbs := HI.out.1.lt
      have hb0s : b0 ≤ wr.heap.size := by omega
      obtain ⟨xt, xa, xc⟩ := x
      simp only at c0 c1 c2
      have HBX : Hid (Bu b0 p (wr.alloc (.cells #[.string xt, .int .i64 xa, .bool xc] 30)) ∧ Below b0 w (wr.alloc (.cells #[.string xt, .int .i64 xa, .bool xc] 30)) ∧ (wr.alloc (.cells #[.string xt, .int .i64 xa, .bool xc] 30)).heap[wr.heap.size]? = some (.cells #[.string xt, .int .i64 xa, .bool xc] 30 (0, 0)) ∧ b0 < wr.heap.size) := ⟨HI.out.1.below ((Below.refl _ _).alloc (Nat.le_refl _) _), HI.out.2.1.alloc hb0s _, alloc_last _ _, hbs⟩
      clear d0 d1 d2 hx hbs hb0s hb0 hbB
      cases xc with
      | true =>
        have hxs : xt.size ≤ 500000000 := by
          have h2 : (9 :: bl xt).length ≤ 500000000 := hrz
          rw [List.length_cons, bl_length] at h2; omega
        have HRZ : Hid (rawZ ⟨xt, xa, true⟩ = 9 :: bl xt) := by unfold Hid rawZ; rw [if_pos rfl]
        clear hrz
        go_wp2_with fail
        refine (HWT.out p _ HBX.out.1 (by omega)).mono ?_
        rintro e w1 ⟨rfl, h1, h2, h3⟩
        have hbx := h3 wr.heap.size _ HBX.out.2.2.1 (by have := HBX.out.2.2.2; simp; omega) (by intro c fz e; simp at e)
        have e0 := cell_in hbx 0 rfl
        have H1 : Hid (Bu b0 (p ++ [9]) w1 ∧ Below b0 w w1) := ⟨h1, HBX.out.2.1.trans h2⟩
        clear h1 h2 h3 hbx
        go_wp2_with fail
        refine (HWS.out (p ++ [9]) xt _ H1.out.1 (by simp; omega) (by omega)).mono ?_
        rintro e w2 ⟨rfl, h1, h2, h3⟩
        have H2 : Hid (Bu b0 (p ++ [9] ++ bl xt) w2 ∧ Below b0 w w2) := ⟨h1, H1.out.2.trans h2⟩
        clear h1 h2 h3
        go_wp2_with fail
        have hpy : (p ++ [9] ++ bl xt).length ≤ 600000000 := by
          have h5 := congrArg List.length HT.out.1
          rw [HRZ.out, ← HI.out.2.2] at h5
          have h6 := HT.out.2
          simp only [List.length_append, List.length_cons] at h5 ⊢
          omega
        refine (HWB.out (p ++ [9] ++ bl xt) _ H2.out.1 hpy).mono ?_
        rintro e w3 ⟨rfl, h1, h2, h3⟩
        have H3 : Hid (Bu b0 (p ++ [9] ++ bl xt ++ [10]) w3 ∧ Below b0 w w3 ∧ p ++ [9] ++ bl xt ++ [10] = writeZ (l.take (k + 1))) := ⟨h1, H2.out.2.trans h2, by rw [HT.out.1, HRZ.out, ← HI.out.2.2]; simp⟩
        clear h1 h2 h3
        have hpl : (p ++ [9] ++ bl xt ++ [10]).length ≤ 500000000 := by rw [H3.out.2.2]; exact HT.out.2
        go_wp2_with fail
        go_roundw
        case rel => exact ⟨k + 1, _, by omega, by go_num, hpl, H3⟩
        case measure => simp [intOf]; omega
      | false =>
        have HRZ : Hid (rawZ ⟨xt, xa, false⟩ = Ln.hash (bl xt)) := by unfold Hid rawZ; rw [if_neg (by simp)]
        rw [HRZ.out] at hrz
        have hxs : xt.size ≤ 500000000 := by
          have := hash_ge (bl xt)
          rw [bl_length] at this; omega
        obtain ⟨y, hy⟩ : ∃ y, y = ba (Ln.hash (bl xt)) := ⟨_, rfl⟩
        have HRA : Hid (∀ W, Mx W → Calls Tryd.prog 28 #[.string xt, .string ⟨#[35]⟩, .string ⟨#[92, 35]⟩] W fun e w' => e = .returned (.string y) ∧ Below W.heap.size W w') := by
          rintro W ⟨mm, hmm⟩
          have hcl := Lib.countB_le ⟨#[35]⟩ (by decide) _ xt (Nat.le_refl _)
          refine (Tryd.strings_ReplaceAll xt ⟨#[35]⟩ ⟨#[92, 35]⟩ mm W (by omega) hmm (by decide) (by show _ + _ * 2 ≤ _; omega)).mono fun e w' h => ⟨?_, h.2⟩
          rw [h.1, hy]
          show Ending.returned (.string (ba (Lib.replaceAll (bl xt) [35] [92, 35]))) = _
          rw [Ln.repl_hash]
        have HY : Hid (bl y = Ln.hash (bl xt)) := by rw [hy]; exact bl_ba _
        have hys : y.size ≤ 500000000 := by rw [hy, ba_size]; exact hrz
        have HMX : Hid (Mx (wr.alloc (.cells #[.string xt, .int .i64 xa, .bool false] 30))) := HW.out.2.2.2.below HBX.out.2.1 (by rw [HB0.out]; exact HW.out.2.2.2.pos)
        clear hrz hy
        go_wp2_with fail
        refine (HRA.out _ HMX.out).mono ?_
        rintro e w1 ⟨rfl, h1⟩
        have H1 : Hid (Bu b0 p w1 ∧ Below b0 w w1) := ⟨HBX.out.1.below h1, below_trans HBX.out.2.1 h1 (Nat.le_trans (Nat.le_of_lt HBX.out.2.2.2) (by simp))⟩
        clear h1
        go_wp2_with fail
        refine (HWS.out p y _ H1.out.1 (by omega) (by omega)).mono ?_
        rintro e w2 ⟨rfl, h1, h2, h3⟩
        have H2 : Hid (Bu b0 (p ++ bl y) w2 ∧ Below b0 w w2) := ⟨h1, H1.out.2.trans h2⟩
        clear h1 h2 h3
        go_wp2_with fail
        have hpy : (p ++ bl y).length ≤ 600000000 := by
          have h5 := congrArg List.length HT.out.1
          rw [HRZ.out, ← HI.out.2.2, ← HY.out] at h5
          have h6 := HT.out.2
          simp only [List.length_append] at h5 ⊢
          omega
        refine (HWB.out (p ++ bl y) _ H2.out.1 hpy).mono ?_
        rintro e w3 ⟨rfl, h1, h2, h3⟩
        have H3 : Hid (Bu b0 (p ++ bl y ++ [10]) w3 ∧ Below b0 w w3 ∧ p ++ bl y ++ [10] = writeZ (l.take (k + 1))) := ⟨h1, H2.out.2.trans h2, by rw [HT.out.1, HRZ.out, ← HI.out.2.2, HY.out]; simp⟩
        clear h1 h2 h3
        have hpl : (p ++ bl y ++ [10]).length ≤ 500000000 := by rw [H3.out.2.2]; exact HT.out.2
        go_wp2_with fail
        go_roundw
        case rel => exact ⟨k + 1, _, by omega, by go_num, hpl, H3⟩
        case measure => simp [intOf]; omega
    · have hke : ¬ (k : Int) < (n : Int) := by omega
      have HE : Hid (p = writeZ l) := by unfold Hid; rw [HI.out.2.2, List.take_of_length_le (by have := HW.out.1; omega)]
      go_wp2_with fail
      refine (HBS.out p _ HI.out.1).mono ?_
      rintro e w1 ⟨rfl, h1⟩
      have H1 : Hid (Below b0 w w1) := HI.out.2.1.trans h1
      clear h1
      go_wp2_with fail
      go_ret
      exact ⟨ret_str (by rw [HE.out]), by rw [← HB0.out]; exact H1.out⟩
end Go.Proofs.YtefhpoklehmlhaaDoor
