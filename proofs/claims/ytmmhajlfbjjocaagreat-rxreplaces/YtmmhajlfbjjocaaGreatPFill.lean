/-
  What stands in place of a match.
-/
import Derived.Test.YtmmhajlfbjjocaaGreatPReplaced
import Derived.Test.YtmmhajlfbjjocaaGreatPShelfB
import Derived.Test.YtmmhajlfbjjocaaGreatShelf
namespace Go.Proofs.YtmmhajlfbjjocaaGreat
open Go.RowKit Go.Shelf RxSem

def fillL (m : List UInt8) : List UInt8 → List UInt8
  | [] => []
  | [c] => if c = 38 then m else [c]
  | c :: d :: t => if c = 38 then m ++ fillL m (d :: t) else if c = 92 then d :: fillL m t else c :: fillL m (d :: t)
theorem fillL_amp (m t : List UInt8) : fillL m (38 :: t) = m ++ fillL m t := by
  cases t with
  | nil => simp [fillL]
  | cons d t => rw [fillL]; simp
theorem fillL_esc (m t : List UInt8) (d : UInt8) : fillL m (92 :: d :: t) = d :: fillL m t := by
  rw [fillL]; simp
theorem fillL_plain (m t : List UInt8) (c : UInt8) (h : c ≠ 38) (h2 : c ≠ 92 ∨ t = []) : fillL m (c :: t) = c :: fillL m t := by
  cases t with
  | nil => simp [fillL, h]
  | cons d t =>
    have h3 : c ≠ 92 := by rcases h2 with h2 | h2; exact h2; cases h2
    rw [fillL]; simp [h, h3]
theorem fillL_len (m : List UInt8) : ∀ (l : List UInt8), (fillL m l).length ≤ l.length * (m.length + 1)
  | [] => by simp [fillL]
  | [c] => by simp only [fillL]; split <;> simp
  | c :: d :: t => by
    have h1 := fillL_len m (d :: t)
    have h2 := fillL_len m t
    rw [fillL]
    split
    · simp only [List.length_append, List.length_cons, Nat.add_mul] at h1 ⊢; omega
    · split
      · simp only [List.length_cons, Nat.add_mul] at h1 h2 ⊢; omega
      · simp only [List.length_cons, Nat.add_mul] at h1 ⊢; omega
structure FI (B b : Nat) (out : List UInt8) (y m : ByteArray) (w : World) (i : Nat) (o : List UInt8) (wr : World) : Prop where
  ib : Lib.IsBuilderF 73 5 B b (Lib.byteCells o) wr
  bel : Below B w wr
  oth : Lib.OthersKept 5 (some b) w wr
  eq : out ++ fillL (bl m) (bl y) = o ++ fillL (bl m) ((bl y).drop i)
theorem FI.len {B b : Nat} {out : List UInt8} {y m : ByteArray} {w : World} {i : Nat} {o : List UInt8} {wr : World} (h : FI B b out y m w i o wr) (ho : out.length ≤ 400000000) (hy : y.size ≤ 1000) (hm : m.size ≤ 100000) : o.length ≤ 600000000 := by
  have h1 := congrArg List.length h.eq
  have h2 := fillL_len (bl m) (bl y)
  rw [bl_length, bl_length] at h2
  have h3 : y.size * (m.size + 1) ≤ 1000 * 100001 := Nat.mul_le_mul hy (by omega)
  simp only [List.length_append] at h1
  omega
theorem fi_drop {y : ByteArray} {i : Nat} (hi : i < y.size) : (bl y).drop i = y[i] :: (bl y).drop (i + 1) := by
  have hl : i < (bl y).length := by rw [bl_length]; exact hi
  rw [List.drop_eq_getElem_cons hl]; rfl
theorem byteCells_snoc' (o : List UInt8) (c : UInt8) : Lib.byteCells (o ++ [c]) = Lib.byteCells o ++ [.int .u8 (c.toNat : Int)] := by simp [Lib.byteCells]
set_option maxRecDepth 20000 in
set_option maxHeartbeats 600000 in
theorem fill_any (B b : Nat) (out : List UInt8) (y m : ByteArray) (w : World) (h : Lib.IsBuilderF 73 5 B b (Lib.byteCells out) w) (ho : out.length ≤ 400000000) (hy : y.size ≤ 1000) (hm : m.size ≤ 100000) (hB : B ≤ w.heap.size) : Calls Tryz.prog 21 #[.pointer (some ⟨b, 0, none⟩), .string y, .string m] w fun e w' => e = .returned (.tuple #[]) ∧ Lib.IsBuilderF 73 5 B b (Lib.byteCells (out ++ fillL (bl m) (bl y))) w' ∧ Below B w w' ∧ Lib.OthersKept 5 (some b) w w' := by
  have HS : Hid (∀ o wr, FI B b out y m w 0 o wr → True) := fun _ _ _ => trivial
  have HI0 : Hid (FI B b out y m w 0 out w) := ⟨h, Below.refl _ _, Lib.OthersKept.refl _ _ _, by simp⟩
  have HWS : Hid (∀ (o : List UInt8) (W : World), Lib.IsBuilderF 73 5 B b (Lib.byteCells o) W → o.length ≤ 600000000 → B ≤ W.heap.size → Calls Tryz.prog 20 #[.pointer (some ⟨b, 0, none⟩), .string m] W fun e w' => e = .returned (.tuple #[.int .i64 m.size, .nilIface]) ∧ Lib.IsBuilderF 73 5 B b (Lib.byteCells (o ++ bl m)) w' ∧ Below B W w' ∧ Lib.OthersKept 5 (some b) W w') := fun o W h1 h2 h3 =>
    (Tryz.Builder_WriteString_k B b (Lib.byteCells o) m W h1 (by rw [Lib.byteCells_length]; omega) h3).mono fun e w' h => ⟨h.1, .inr (by rw [Lib.byteCells_append, ← show Lib.strCells m = Lib.byteCells (bl m) from rfl]; exact h.2.1), h.2.2⟩
  have HWB : Hid (∀ (o : List UInt8) (c : UInt8) (W : World), Lib.IsBuilderF 73 5 B b (Lib.byteCells o) W → o.length ≤ 600000000 → B ≤ W.heap.size → Calls Tryz.prog 26 #[.pointer (some ⟨b, 0, none⟩), .int .u8 (c.toNat : Int)] W fun e w' => e = .returned .nilIface ∧ Lib.IsBuilderF 73 5 B b (Lib.byteCells (o ++ [c])) w' ∧ Below B W w' ∧ Lib.OthersKept 5 (some b) W w') := fun o c W h1 h2 h3 =>
    (Tryz.Builder_WriteByte_k B b (Lib.byteCells o) (c.toNat : Int) W h1 (by rw [Lib.byteCells_length]; omega) h3).mono fun e w' h => ⟨h.1, .inr (by rw [byteCells_snoc']; exact h.2.1), h.2.2⟩
  clear h HS
  go_enter Tryz.func21, Tryz.ntmps21
  go_wp2_with fail
  go_loopw [6] (fun vi wr => ∃ (i : Nat) (o : List UInt8), i ≤ y.size ∧ vi = .int .i64 (i : Int) ∧ Hid (FI B b out y m w i o wr)) (fun vi _ => y.size - (intOf vi).toNat)
  case atStart => exact ⟨0, out, Nat.zero_le _, rfl, HI0.out⟩
  case round =>
    clear HI0
    obtain ⟨i, o, hi, rfl, HI⟩ := hrel
    have hol := HI.out.len ho hy hm
    have hsz : B ≤ wr.heap.size := Nat.le_trans hB HI.out.bel.size
    by_cases hlt : i < y.size
    · have hl2 : (i : Int) < (y.size : Int) := by omega
      have hi0 : (0 : Int) ≤ (i : Int) := by omega
      obtain ⟨c, hc⟩ : ∃ c, c = y[i] := ⟨_, rfl⟩
      have HD : Hid ((bl y).drop i = c :: (bl y).drop (i + 1)) := by rw [hc]; exact fi_drop hlt
      by_cases h38 : c = 38
      · have hcn : y[i].toNat = 38 := by rw [← hc, h38]; rfl
        have HC : Hid (c = 38) := h38
        clear h38 hc
        go_wp2_with fail
        refine (HWS.out o wr HI.out.ib hol hsz).mono ?_
        rintro e w1 ⟨rfl, h1, h2, h3⟩
        have H1 : Hid (FI B b out y m w (i + 1) (o ++ bl m) w1) := ⟨h1, HI.out.bel.trans h2, HI.out.oth.trans h3, by rw [HI.out.eq, HD.out, HC.out, fillL_amp]; simp⟩
        clear h1 h2 h3
        go_wp2_with fail
        go_roundw
        case rel => exact ⟨i + 1, _, by omega, by go_num, H1⟩
        case measure => simp [intOf]; omega
      · have hcn : ¬ y[i].toNat = 38 := by rw [← hc]; intro e; exact h38 (by rw [u8_eq_iff]; exact e)
        have hcn' : ¬ (y[i].toNat : Int) = 38 := by omega
        have hcn2 : ((y[i].toNat : Int) == 38) = false := by simp [hcn']
        have HC38 : Hid (c ≠ 38) := h38
        by_cases h92 : c = 92 ∧ i + 1 < y.size
        · have hcm : y[i].toNat = 92 := by rw [← hc, h92.1]; rfl
          have hi1 := h92.2
          have hl3 : (i : Int) + 1 < (y.size : Int) := by omega
          have HC : Hid (c = 92 ∧ (bl y).drop (i + 1) = y[i + 1] :: (bl y).drop (i + 2)) := ⟨h92.1, fi_drop hi1⟩
          clear h38 hc h92
          go_wp2_with fail
          refine (HWB.out o y[i + 1] wr HI.out.ib hol hsz).mono ?_
          rintro e w1 ⟨rfl, h1, h2, h3⟩
          have H1 : Hid (FI B b out y m w (i + 2) (o ++ [y[i + 1]]) w1) := ⟨h1, HI.out.bel.trans h2, HI.out.oth.trans h3, by rw [HI.out.eq, HD.out, HC.out.2, HC.out.1, fillL_esc]; simp⟩
          clear h1 h2 h3
          go_wp2_with fail
          go_roundw
          case rel => exact ⟨i + 2, _, by omega, by go_num, H1⟩
          case measure => simp [intOf]; omega
        · have HN : Hid (c ≠ 92 ∨ (bl y).drop (i + 1) = []) := by
            by_cases h : c = 92
            · exact .inr (List.drop_of_length_le (by rw [bl_length]; rcases Nat.lt_or_ge (i + 1) y.size with hh | hh; exact absurd ⟨h, hh⟩ h92; exact hh))
            · exact .inl h
          have HCy : Hid (c = y[i]) := hc
          by_cases h9 : c = 92
          · have hcm : y[i].toNat = 92 := by rw [← hc, h9]; rfl
            have hx : ¬ (i : Int) + 1 < (y.size : Int) := fun hh => h92 ⟨h9, by omega⟩
            have H92 : Hid (c = 92) := h9
            clear h38 hc h92 h9
            go_wp2_with fail
            refine (HWB.out o 92 wr HI.out.ib hol hsz).mono ?_
            rintro e w1 ⟨rfl, h1, h2, h3⟩
            have H1 : Hid (FI B b out y m w (i + 1) (o ++ [92]) w1) := ⟨h1, HI.out.bel.trans h2, HI.out.oth.trans h3, by rw [HI.out.eq, HD.out, fillL_plain _ _ _ HC38.out HN.out, H92.out]; simp⟩
            clear h1 h2 h3
            go_wp2_with fail
            go_roundw
            case rel => exact ⟨i + 1, _, by omega, by go_num, H1⟩
            case measure => simp [intOf]; omega
          · have hx : ¬ y[i].toNat = 92 := fun e => h9 (by rw [hc, u8_eq_iff]; exact e)
            have hx2 : ¬ (y[i].toNat : Int) = 92 := by omega
            have hx3 : ((y[i].toNat : Int) == 92) = false := by simp [hx2]
            clear h38 hc h92 h9
            go_wp2_with fail
            refine (HWB.out o y[i] wr HI.out.ib hol hsz).mono ?_
            rintro e w1 ⟨rfl, h1, h2, h3⟩
            have H1 : Hid (FI B b out y m w (i + 1) (o ++ [y[i]]) w1) := ⟨h1, HI.out.bel.trans h2, HI.out.oth.trans h3, by rw [HI.out.eq, HD.out, fillL_plain _ _ _ HC38.out HN.out, HCy.out]; simp⟩
            clear h1 h2 h3
            go_wp2_with fail
            go_roundw
            case rel => exact ⟨i + 1, _, by omega, by go_num, H1⟩
            case measure => simp [intOf]; omega
    · have hl2 : ¬ (i : Int) < (y.size : Int) := by omega
      go_wp2_with fail
      go_end0
      have e : (bl y).drop i = [] := List.drop_of_length_le (by rw [bl_length]; omega)
      refine ⟨rfl, ?_, HI.out.bel, HI.out.oth⟩
      have := HI.out.eq
      rw [e] at this
      rw [this]
      simpa [fillL] using HI.out.ib
end Go.Proofs.YtmmhajlfbjjocaaGreat
