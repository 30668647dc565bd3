/-
  What command, joined, withoutNote and whole answer.
-/
import Derived.Test.YtefhpoklehmlhaaDoorL2
import Derived.Test.YtefhpoklehmlhaaDoorMShelfB
namespace Go.Proofs.YtefhpoklehmlhaaDoor
open Go.RowKit Go.Shelf

theorem byteCells_snoc' (o : List UInt8) (c : UInt8) : Lib.byteCells (o ++ [c]) = Lib.byteCells o ++ [.int .u8 (c.toNat : Int)] := by simp [Lib.byteCells]
theorem ibf_below {T e : TypeId} {B b : Nat} {bs : List Value} {W W' : World} (h : Lib.IsBuilderF T e B b bs W) (hb : Below W.heap.size W W') : Lib.IsBuilderF T e B b bs W' := by
  rcases h with h | h
  · have hlt := h.lt
    obtain ⟨hB, v, hv, hown, hne⟩ := h
    exact .inl ⟨hB, v, (hb.block b hlt).trans hv, hown.kept (row := none) ⟨hb.os, hb.tape, hb.output, hb.size, fun k hk _ => hb.block k hk⟩ (Classical.em _), hne⟩
  · have hlt := h.lt
    obtain ⟨hB, v, hv, hown, hne⟩ := h
    exact .inr ⟨hB, v, (hb.block b hlt).trans hv, hown.kept (row := none) ⟨hb.os, hb.tape, hb.output, hb.size, fun k hk _ => hb.block k hk⟩ (Classical.em _), hne⟩
/-- A Builder in block b that holds the bytes o. -/
def Bu (b : Nat) (o : List UInt8) (W : World) : Prop := Lib.IsBuilderF 56 5 b b (Lib.byteCells o) W
theorem bu_new (w : World) : Bu w.heap.size [] (w.alloc (.cells #[.pointer none, .slice none 0 0] 56)) := Lib.IsBuilderF.of (Lib.fresh_isBuilder 56 5 w)
theorem Bu.below {b : Nat} {o : List UInt8} {W W' : World} (h : Bu b o W) (hb : Below W.heap.size W W') : Bu b o W' := ibf_below h hb
theorem Bu.lt {b : Nat} {o : List UInt8} {W : World} (h : Bu b o W) : b < W.heap.size := by
  rcases h with h | h
  · exact h.lt
  · exact h.lt
def BuPost (b : Nat) (o : List UInt8) (W w' : World) : Prop := Bu b o w' ∧ Below b W w' ∧ Lib.OthersKept 5 (some b) W w'
theorem wb_any (b : Nat) (o : List UInt8) (c : UInt8) (z : Int) (hz : (c.toNat : Int) = z) (W : World) (h : Bu b o W) (ho : o.length ≤ 600000000) :
    Calls Tryd.prog 26 #[.pointer (some ⟨b, 0, none⟩), .int .u8 z] W fun e w' => e = .returned .nilIface ∧ BuPost b (o ++ [c]) W w' := by
  subst hz
  exact (Tryd.Builder_WriteByte_k b b (Lib.byteCells o) (c.toNat : Int) W h (by rw [Lib.byteCells_length]; omega) (Nat.le_of_lt h.lt)).mono fun e w' h => ⟨h.1, .inr (by rw [byteCells_snoc']; exact h.2.1), h.2.2⟩
theorem ws_any (b : Nat) (o : List UInt8) (m : ByteArray) (W : World) (h : Bu b o W) (ho : o.length ≤ 600000000) (hm : m.size ≤ 600000000) :
    Calls Tryd.prog 27 #[.pointer (some ⟨b, 0, none⟩), .string m] W fun e w' => e = .returned (.tuple #[.int .i64 m.size, .nilIface]) ∧ BuPost b (o ++ bl m) W w' :=
  (Tryd.Builder_WriteString_k b b (Lib.byteCells o) m W h (by rw [Lib.byteCells_length]; omega) (Nat.le_of_lt h.lt)).mono fun e w' h => ⟨h.1, .inr (by rw [Lib.byteCells_append, ← show Lib.strCells m = Lib.byteCells (bl m) from rfl]; exact h.2.1), h.2.2⟩
theorem bs_any (b : Nat) (o : List UInt8) (W : World) (h : Bu b o W) :
    Calls Tryd.prog 29 #[.pointer (some ⟨b, 0, none⟩)] W fun e w' => e = .returned (.string (ba o)) ∧ Below b W w' :=
  (Tryd.Builder_String_any_k b b o W h (Nat.le_of_lt h.lt)).mono fun _ _ h => ⟨h.1, h.2.2.1⟩

def wt (R : List (List UInt8)) : Nat := (R.map fun r => r.length + 1).sum
theorem wt_cons (r : List UInt8) (R : List (List UInt8)) : wt (r :: R) = r.length + 1 + wt R := by simp [wt]
theorem wt_mem {R : List (List UInt8)} {r : List UInt8} (h : r ∈ R) : r.length + 1 ≤ wt R := by
  induction R with
  | nil => cases h
  | cons a R ih =>
    rw [wt_cons]
    rcases List.mem_cons.1 h with rfl | h
    · omega
    · have := ih h; omega
theorem wt_len (R : List (List UInt8)) : R.length ≤ wt R := by
  induction R with
  | nil => exact Nat.le_refl _
  | cons a R ih => rw [wt_cons, List.length_cons]; omega
theorem pre_le (r p : List UInt8) : (Lib.trimPrefix r p).length ≤ r.length := by
  unfold Lib.trimPrefix; split <;> simp
theorem suf_le (r p : List UInt8) : (Lib.trimSuffix r p).length ≤ r.length := by
  unfold Lib.trimSuffix; split
  · rw [List.length_take]; omega
  · exact Nat.le_refl _
theorem left_le (r p : List UInt8) : (Lib.trimLeftS r p).length ≤ r.length := (List.dropWhile_suffix _).length_le
theorem right_le (r p : List UInt8) : (Lib.trimRightS r p).length ≤ r.length := by
  unfold Lib.trimRightS
  rw [List.length_reverse]
  have := (List.dropWhile_suffix (p.contains ·) (l := r.reverse)).length_le
  simpa using this
theorem lf_le (f : Bool) (r : List UInt8) : (Ln.lf f r).length ≤ r.length := by
  unfold Ln.lf; split
  · exact Nat.le_refl _
  · exact left_le _ _
theorem cmd_len : ∀ (R : List (List UInt8)), (Ln.commandT R).length ≤ wt R
  | [] => Nat.zero_le _
  | [r] => by have := pre_le r [9]; rw [wt_cons]; simp only [Ln.commandT]; omega
  | r :: r2 :: R => by
    have h1 := pre_le r [9]
    have h2 := cmd_len (r2 :: R)
    rw [wt_cons]; simp only [Ln.commandT, List.length_append, List.length_cons]; omega
theorem join_len : ∀ (f : Bool) (R : List (List UInt8)), (Ln.joinT f R).length ≤ wt R
  | _, [] => Nat.zero_le _
  | f, [r] => by have := lf_le f r; rw [wt_cons]; simp only [Ln.joinT]; omega
  | f, r :: r2 :: R => by
    have h0 := lf_le f r
    have h1 := suf_le (Ln.lf f r) [92]
    have h2 := join_len false (r2 :: R)
    rw [wt_cons]; simp only [Ln.joinT, List.length_append, List.length_cons]; omega
theorem cmd_snoc (r : List UInt8) : ∀ (R : List (List UInt8)), R ≠ [] → Ln.commandT (R ++ [r]) = Ln.commandT R ++ 10 :: Lib.trimPrefix r [9]
  | [], h => absurd rfl h
  | [a], _ => rfl
  | a :: b :: R, _ => by
    have := cmd_snoc r (b :: R) (by simp)
    simp only [List.cons_append] at this ⊢
    rw [Ln.commandT, this, Ln.commandT]; simp
theorem wt_app (A B : List (List UInt8)) : wt (A ++ B) = wt A + wt B := by simp [wt]
theorem wt_take (R : List (List UInt8)) (k : Nat) : wt (R.take k) ≤ wt R := by
  have := wt_app (R.take k) (R.drop k)
  rw [List.take_append_drop] at this; omega
theorem wt_drop (R : List (List UInt8)) (k : Nat) : wt (R.drop k) ≤ wt R := by
  have := wt_app (R.take k) (R.drop k)
  rw [List.take_append_drop] at this; omega

set_option maxRecDepth 20000 in
set_option maxHeartbeats 800000 in
theorem command_any (R : List (List UInt8)) (v : Value) (w : World) (hne : R ≠ []) (hz : wt R ≤ 1000000) (hW : Words w.heap.size w v (R.map ba)) :
    Calls Tryd.prog 41 #[v] w fun e w' => e = .returned (.string (ba (Ln.commandT R))) ∧ Below w.heap.size w w' := by
  obtain ⟨b, o, c, rfl, hb, hc, hcell⟩ := hW.at (by simpa using hne)
  have hcell2 : ∀ i (h : i < R.length), w.cell? ⟨b, o + i, none⟩ = some (.string (ba R[i])) := fun i h => by have := hcell i (by simpa using h); rwa [List.getElem_map] at this
  rw [List.length_map] at hc ⊢
  obtain ⟨n, hn⟩ : ∃ n, n = R.length := ⟨_, rfl⟩
  have hl : n ≤ 1000000 := by have := wt_len R; omega
  have HC : Hid (n = R.length ∧ (∀ i (h : i < R.length), w.cell? ⟨b, o + i, none⟩ = some (.string (ba R[i]))) ∧ wt R ≤ 1000000 ∧ b < w.heap.size) := ⟨hn, hcell2, hz, hb⟩
  rw [← hn] at hc ⊢
  clear hn hcell hcell2 hz hW hne hb
  have HWB : Hid (∀ (p : List UInt8) (W : World), Bu w.heap.size p W → p.length ≤ 600000000 → Calls Tryd.prog 26 #[.pointer (some ⟨w.heap.size, 0, none⟩), .int .u8 10] W fun e w' => e = .returned .nilIface ∧ BuPost w.heap.size (p ++ [10]) W w') := fun p W h h2 => wb_any _ p 10 10 rfl W h h2
  have HWS : Hid (∀ (p : List UInt8) (m : ByteArray) (W : World), Bu w.heap.size p W → p.length ≤ 600000000 → m.size ≤ 600000000 → Calls Tryd.prog 27 #[.pointer (some ⟨w.heap.size, 0, none⟩), .string m] W fun e w' => e = .returned (.tuple #[.int .i64 m.size, .nilIface]) ∧ BuPost w.heap.size (p ++ bl m) W w') := fun p m W h h2 h3 => ws_any _ p m W h h2 h3
  have HBS : Hid (∀ (p : List UInt8) (W : World), Bu w.heap.size p W → Calls Tryd.prog 29 #[.pointer (some ⟨w.heap.size, 0, none⟩)] W fun e w' => e = .returned (.string (ba p)) ∧ Below w.heap.size W w') := fun p W h => bs_any _ p W h
  go_enter Tryd.func41, Tryd.ntmps41
  go_wp2
  go_loopw [8] (fun vi wr => ∃ (k : Nat) (p : List UInt8), k ≤ n ∧ vi = .int .i64 (k : Int) ∧ p.length ≤ 1000000 ∧ Hid (Bu w.heap.size p wr ∧ Below w.heap.size w wr ∧ p = Ln.commandT (R.take k))) (fun vi _ => n - (intOf vi).toNat)
  case atStart => exact ⟨0, [], Nat.zero_le _, rfl, by simp, bu_new w, (Below.refl _ _).alloc (Nat.le_refl _) _, by simp [Ln.commandT]⟩
  case round =>
    obtain ⟨k, p, hk, rfl, hp, HI⟩ := hrel
    by_cases hlt : k < n
    · have hil : (k : Int) < (n : Int) := by omega
      have hkl : k < R.length := by rw [← HC.out.1]; exact hlt
      have hcx : wr.cell? ⟨b, o + k, none⟩ = some (.string (ba R[k])) := by
        rw [HI.out.2.1.cell (p := ⟨b, o + k, none⟩) HC.out.2.2.2]; exact HC.out.2.1 k hkl
      obtain ⟨x, hxe⟩ : ∃ x, x = ba R[k] := ⟨_, rfl⟩
      obtain ⟨y, hye⟩ : ∃ y, y = ba (Lib.trimPrefix R[k] [9]) := ⟨_, rfl⟩
      have HT : Hid (∀ W, Calls Tryd.prog 59 #[.string x, .string ⟨#[9]⟩] W fun e w' => e = .returned (.string y) ∧ W = w') := fun W =>
        (Tryd.strings_TrimPrefix x ⟨#[9]⟩ W).mono fun e w' h => ⟨by rw [h.1, hye, hxe]; simp [ba], h.2.symm⟩
      have hys : y.size ≤ 600000000 := by
        have h1 := pre_le R[k] [9]
        have h2 := wt_mem (List.getElem_mem hkl)
        have h3 := HC.out.2.2.1
        rw [hye, ba_size]; omega
      have HY : Hid (bl y = Lib.trimPrefix R[k] [9]) := by rw [hye]; exact bl_ba _
      have HTK : Hid (R.take (k + 1) = R.take k ++ [R[k]]) := List.take_succ_eq_append_getElem hkl
      rw [← hxe] at hcx
      clear hxe hye
      by_cases hk0 : k = 0
      · subst hk0
        have hp0 : p = [] := by rw [HI.out.2.2]; simp [Ln.commandT]
        subst hp0
        have hcx0 : wr.cell? ⟨b, o, none⟩ = some (.string x) := hcx
        go_wp2_with (go_at_call 59; refine (HT.out _).mono ?_; rintro e w' ⟨rfl, rfl⟩; go_wp2_with fail)
        refine (HWS.out [] y _ HI.out.1 (by simp) hys).mono ?_
        rintro e w1 ⟨rfl, h1, h2, h3⟩
        have H1 : Hid (Bu w.heap.size (bl y) w1 ∧ Below w.heap.size w w1 ∧ bl y = Ln.commandT (R.take 1)) := ⟨h1, HI.out.2.1.trans h2, by rw [HY.out]; have := HTK.out; rw [show R.take 1 = R.take (0 + 1) from rfl, this]; rfl⟩
        clear h1 h2 h3
        have hpl : (bl y).length ≤ 1000000 := by
          have h1 := cmd_len (R.take 1)
          have h2 := wt_take R 1
          have h3 := HC.out.2.2.1
          rw [H1.out.2.2]; omega
        go_wp2_with fail
        go_roundw
        case rel => exact ⟨1, bl y, by omega, by go_num, hpl, H1⟩
        case measure => simp [intOf]; omega
      · have hk1 : (0 : Int) < (k : Int) := by omega
        have HK : Hid (¬ k = 0) := hk0
        clear hk0
        go_wp2_with fail
        refine (HWB.out p _ HI.out.1 (by omega)).mono ?_
        rintro e w1 ⟨rfl, h1, h2, h3⟩
        have H0 : Hid (Bu w.heap.size (p ++ [10]) w1 ∧ Below w.heap.size w w1) := ⟨h1, HI.out.2.1.trans h2⟩
        clear h1 h2 h3
        go_wp2_with (go_at_call 59; refine (HT.out _).mono ?_; rintro e w' ⟨rfl, rfl⟩; go_wp2_with fail)
        refine (HWS.out (p ++ [10]) y _ H0.out.1 (by simp; omega) hys).mono ?_
        rintro e w2 ⟨rfl, h1, h2, h3⟩
        have H1 : Hid (Bu w.heap.size (p ++ [10] ++ bl y) w2 ∧ Below w.heap.size w w2 ∧ p ++ [10] ++ bl y = Ln.commandT (R.take (k + 1))) := ⟨h1, H0.out.2.trans h2, by
          rw [HY.out, HTK.out, cmd_snoc _ _ (by
            have h5 : (R.take k).length = k := by rw [List.length_take]; omega
            intro e; rw [e] at h5; exact HK.out h5.symm), ← HI.out.2.2]; simp⟩
        clear h1 h2 h3
        have hpl : (p ++ [10] ++ bl y).length ≤ 1000000 := by
          have h1 := cmd_len (R.take (k + 1))
          have h2 := wt_take R (k + 1)
          have h3 := HC.out.2.2.1
          rw [H1.out.2.2]; omega
        go_wp2_with fail
        go_roundw
        case rel => exact ⟨k + 1, _, by omega, by go_num, hpl, H1⟩
        case measure => simp [intOf]; omega
    · have hke : ¬ (k : Int) < (n : Int) := by omega
      have HE : Hid (p = Ln.commandT R) := by unfold Hid; rw [HI.out.2.2, List.take_of_length_le (by have := HC.out.1; omega)]
      go_wp2_with fail
      refine (HBS.out p _ HI.out.1).mono ?_
      rintro e w1 ⟨rfl, h1⟩
      have H1 : Hid (Below w.heap.size w w1) := HI.out.2.1.trans h1
      clear h1
      go_wp2_with fail
      go_ret
      exact ⟨ret_str (by rw [HE.out]), H1⟩
end Go.Proofs.YtefhpoklehmlhaaDoor
