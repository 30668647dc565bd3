/-
  Quote.
-/
import Derived.Test.YtmmhajlfbjjocaaGreatPFill
namespace Go.Proofs.YtmmhajlfbjjocaaGreat
open Go.RowKit Go.Shelf RxSem

def spc : ByteArray := ⟨#[46, 94, 36, 42, 43, 63, 124, 40, 41, 91, 93, 92]⟩
theorem special_index : ∀ n : Fin 256, (0 ≤ Lib.indexByte [46, 94, 36, 42, 43, 63, 124, 40, 41, 91, 93, 92] (UInt8.ofNat n.val) ↔ special (UInt8.ofNat n.val) = true) := by decide +kernel
theorem special_facts (c : UInt8) : 0 ≤ Lib.indexByte [46, 94, 36, 42, 43, 63, 124, 40, 41, 91, 93, 92] c ↔ special c = true := by
  have h := special_index ⟨c.toNat, c.toNat_lt⟩
  simpa only [UInt8.ofNat_toNat] using h
theorem quote_len (l : List UInt8) : (quote l).length ≤ 2 * l.length := by
  induction l with
  | nil => simp [quote]
  | cons c t ih =>
    unfold quote
    split <;> simp <;> omega
structure QI (B b : Nat) (y : ByteArray) (w : World) (i : Nat) (o : List UInt8) (wr : World) : Prop where
  ib : Lib.IsBuilder 73 5 B b (Lib.byteCells o) wr
  bel : Below B w wr
  eq : quote (bl y) = o ++ quote ((bl y).drop i)
theorem QI.len {B b : Nat} {y : ByteArray} {w : World} {i : Nat} {o : List UInt8} {wr : World} (h : QI B b y w i o wr) (hy : y.size ≤ 1000000) : o.length ≤ 2000000 := by
  have h1 := congrArg List.length h.eq
  have h2 := quote_len (bl y)
  rw [bl_length] at h2
  simp only [List.length_append] at h1
  omega
set_option maxRecDepth 20000 in
set_option maxHeartbeats 600000 in
theorem quote_any (y : ByteArray) (w : World) (hy : y.size ≤ 1000000) : Calls Tryz.prog 10 #[.string y] w fun e w' => e = .returned (.string ⟨(quote (bl y)).toArray⟩) ∧ Below w.heap.size w w' := by
  obtain ⟨B, hB⟩ : ∃ B, B = w.heap.size := ⟨_, rfl⟩
  have HB : Hid (B = w.heap.size) := hB
  obtain ⟨w0, hw0, hB0, hS0, hk0⟩ := one_box w (.cells #[.pointer none, .slice none 0 0] 73)
  have HI0 : Hid (QI w.heap.size w.heap.size y w 0 [] w0) := ⟨.inl ⟨Nat.le_refl _, .slice none 0 0, hk0, World.ownsRow_nil _ _ _ _, by simp [Value.ownBlock]⟩, hB0, by simp⟩
  have HWB : Hid (∀ (o : List UInt8) (c : UInt8) (W : World), Lib.IsBuilder 73 5 w.heap.size w.heap.size (Lib.byteCells o) W → o.length ≤ 2000001 → w.heap.size ≤ W.heap.size → Calls Tryz.prog 26 #[.pointer (some ⟨w.heap.size, 0, none⟩), .int .u8 (c.toNat : Int)] W fun e w' => e = .returned .nilIface ∧ Lib.IsBuilder 73 5 w.heap.size w.heap.size (Lib.byteCells (o ++ [c])) w' ∧ Below w.heap.size W w') := fun o c W h1 h2 h3 =>
    (Tryz.Builder_WriteByte _ _ (Lib.byteCells o) (c.toNat : Int) W h1 (by rw [Lib.byteCells_length]; omega) h3).mono fun e w' h => ⟨h.1, .inr (by rw [byteCells_snoc']; exact h.2.1), h.2.2⟩
  have HIX : Hid (∀ (c : UInt8) (W : World), Calls Tryz.prog 25 #[.string spc, .int .u8 (c.toNat : Int)] W fun e w' => e = .returned (.int .i64 (Lib.indexByte [46, 94, 36, 42, 43, 63, 124, 40, 41, 91, 93, 92] c)) ∧ W = w') := fun c W => by
    have h := Tryz.strings_IndexByte spc (c.toNat : Int) W
    rw [u8_back] at h
    exact h.mono fun e w' h => ⟨h.1, h.2.symm⟩
  clear hB HB hB0 hS0 hk0
  go_enter Tryz.func10, Tryz.ntmps10
  go_wp2_with fail
  rw [← hw0]
  clear hw0
  go_loopw [7] (fun vi wr => ∃ (i : Nat) (o : List UInt8), i ≤ y.size ∧ vi = .int .i64 (i : Int) ∧ Hid (QI w.heap.size w.heap.size y w i o wr)) (fun vi _ => y.size - (intOf vi).toNat)
  case atStart => exact ⟨0, [], Nat.zero_le _, rfl, HI0.out⟩
  case round =>
    clear HI0
    obtain ⟨i, o, hi, rfl, HI⟩ := hrel
    have hol := HI.out.len hy
    have hsz : w.heap.size ≤ wr.heap.size := HI.out.bel.size
    by_cases hlt : i < y.size
    · have hl2 : (i : Int) < (y.size : Int) := by omega
      have hi0 : (0 : Int) ≤ (i : Int) := by omega
      obtain ⟨c, hc⟩ : ∃ c, c = y[i] := ⟨_, rfl⟩
      have HD : Hid ((bl y).drop i = c :: (bl y).drop (i + 1) ∧ c = y[i]) := ⟨by rw [hc]; exact fi_drop hlt, hc⟩
      obtain ⟨X, hX⟩ : ∃ X, X = Lib.indexByte [46, 94, 36, 42, 43, 63, 124, 40, 41, 91, 93, 92] y[i] := ⟨_, rfl⟩
      have HXc : Hid (∀ W, Calls Tryz.prog 25 #[.string spc, .int .u8 (y[i].toNat : Int)] W fun e w' => e = .returned (.int .i64 X) ∧ W = w') := fun W => by rw [hX]; exact HIX.out y[i] W
      have hsp : 0 ≤ X ↔ special c = true := by rw [hX, hc]; exact special_facts _
      clear hc hX
      by_cases h0 : 0 ≤ X
      · have HS : Hid (special c = true) := hsp.1 h0
        have h0' : ¬ X < 0 := by omega
        clear hsp
        go_wp2_with fail
        refine (HXc.out _).mono ?_
        rintro e w1 ⟨rfl, rfl⟩
        go_wp2_with fail
        refine (HWB.out o 92 wr HI.out.ib (by omega) hsz).mono ?_
        rintro e w1 ⟨rfl, h1, h2⟩
        have H1 : Hid (Lib.IsBuilder 73 5 w.heap.size w.heap.size (Lib.byteCells (o ++ [92])) w1 ∧ Below w.heap.size w w1) := ⟨h1, HI.out.bel.trans h2⟩
        clear h1 h2
        go_wp2_with fail
        refine (HWB.out (o ++ [92]) y[i] w1 H1.out.1 (by simp; omega) H1.out.2.size).mono ?_
        rintro e w2 ⟨rfl, h1, h2⟩
        have H2 : Hid (QI w.heap.size w.heap.size y w (i + 1) (o ++ [92] ++ [y[i]]) w2) := ⟨h1, H1.out.2.trans h2, by
          rw [HI.out.eq, HD.out.1, quote, if_pos HS.out, HD.out.2]; simp⟩
        clear h1 h2
        go_wp2_with fail
        go_roundw
        case rel => exact ⟨i + 1, _, by omega, by go_num, H2⟩
        case measure => simp [intOf]; omega
      · have HS : Hid (special c = false) := by
          cases h : special c with
          | false => rfl
          | true => exact absurd (hsp.2 h) h0
        have h0' : X < 0 := by omega
        clear hsp
        go_wp2_with fail
        refine (HXc.out _).mono ?_
        rintro e w1 ⟨rfl, rfl⟩
        go_wp2_with fail
        refine (HWB.out o y[i] wr HI.out.ib (by omega) hsz).mono ?_
        rintro e w2 ⟨rfl, h1, h2⟩
        have H2 : Hid (QI w.heap.size w.heap.size y w (i + 1) (o ++ [y[i]]) w2) := ⟨h1, HI.out.bel.trans h2, by
          rw [HI.out.eq, HD.out.1, quote, if_neg (by rw [HS.out]; simp), HD.out.2]; simp⟩
        clear h1 h2
        go_wp2_with fail
        go_roundw
        case rel => exact ⟨i + 1, _, by omega, by go_num, H2⟩
        case measure => simp [intOf]; omega
    · have hl2 : ¬ (i : Int) < (y.size : Int) := by omega
      have e : (bl y).drop i = [] := List.drop_of_length_le (by rw [bl_length]; omega)
      have heq := HI.out.eq
      rw [e] at heq
      have heq2 : quote (bl y) = o := by rw [heq]; simp [quote]
      have HST : Hid (Calls Tryz.prog 22 #[.pointer (some ⟨w.heap.size, 0, none⟩)] wr fun e w' => e = .returned (.string ⟨(quote (bl y)).toArray⟩) ∧ Below w.heap.size wr w') := by rw [heq2]; exact Tryz.Builder_String_any _ _ o wr HI.out.ib hsz
      clear e heq heq2
      go_wp2_with fail
      refine HST.out.mono ?_
      rintro e w1 ⟨rfl, h1⟩
      have H1 : Hid (Below w.heap.size w w1) := HI.out.bel.trans h1
      clear h1
      go_wp2_with fail
      go_ret
      exact ⟨rfl, H1.out⟩
end Go.Proofs.YtmmhajlfbjjocaaGreat
