/-
  What the program's Quote answers: the text with a stroke ahead of each special byte, as the plain mathematics has it.
-/
import Derived.Test.YtpelefbddbghaaaDoorHolds
import Derived.Test.YtpelefbddbghaaaDoorShelf
import Derived.Test.YtpelefbddbghaaaDoorShelfB
namespace Go.Proofs.YtpelefbddbghaaaDoor
open Go.RowKit

theorem index_special (c : UInt8) : ∃ X : Int, Lib.indexByte [42, 63, 91, 92] c = X ∧ (0 ≤ X ↔ G.special c = true) := by
  refine ⟨_, rfl, ?_⟩
  unfold G.special
  by_cases h1 : c = 42
  · subst h1; decide
  by_cases h2 : c = 63
  · subst h2; decide
  by_cases h3 : c = 91
  · subst h3; decide
  by_cases h4 : c = 92
  · subst h4; decide
  have g : ∀ x : UInt8, c ≠ x → (x == c) = false := fun x h => by simpa using fun e => h e.symm
  have g' : ∀ x : UInt8, c ≠ x → (c == x) = false := fun x h => by simpa using h
  simp [Lib.indexByte, g 42 h1, g 63 h2, g 91 h3, g 92 h4, g' 42 h1, g' 63 h2, g' 91 h3, g' 92 h4]

theorem u8_back (c : UInt8) : (Int.toNat (c.toNat : Int)).toUInt8 = c := by simp

theorem take_snoc (s : ByteArray) (k : Nat) (h : k < s.size) : s.data.toList.take (k + 1) = s.data.toList.take k ++ [s[k]] := by
  rw [List.take_succ_eq_append_getElem (by simpa using h)]; rfl
theorem qt_append (a b : List UInt8) : G.qt (a ++ b) = G.qt a ++ G.qt b := by
  induction a with
  | nil => rfl
  | cons c r ih =>
    simp only [List.cons_append, G.qt, ih]
    split <;> rfl
theorem qt_len (a : List UInt8) : (G.qt a).length ≤ 2 * a.length := by
  induction a with
  | nil => simp [G.qt]
  | cons c r ih => unfold G.qt; split <;> simp <;> omega
theorem qt_snoc_t (s : ByteArray) (k : Nat) (h : k < s.size) (hc : G.special s[k] = true) : Lib.byteCells (G.qt (s.data.toList.take (k + 1))) = Lib.byteCells (G.qt (s.data.toList.take k)) ++ [.int .u8 92] ++ [.int .u8 s[k].toNat] := by
  rw [take_snoc s k h, qt_append]; simp [G.qt, hc, Lib.byteCells]
theorem qt_snoc_f (s : ByteArray) (k : Nat) (h : k < s.size) (hc : G.special s[k] = false) : Lib.byteCells (G.qt (s.data.toList.take (k + 1))) = Lib.byteCells (G.qt (s.data.toList.take k)) ++ [.int .u8 s[k].toNat] := by
  rw [take_snoc s k h, qt_append]; simp [G.qt, hc, Lib.byteCells]

set_option maxHeartbeats 800000 in
theorem quote_any (s : ByteArray) (w : World) (hs : s.size ≤ 100000) :
    Calls Tryd.prog 18 #[.string s] w fun e w' => e = .returned (.string ⟨(G.qt s.data.toList).toArray⟩) ∧ Below w.heap.size w w' := by
  go_enter Tryd.func18, Tryd.ntmps18
  go_wp2
  go_loopw [7] (fun vi wr => ∃ k : Nat, k ≤ s.size ∧ vi = .int .i64 k ∧ Hid (Lib.IsBuilder 42 5 w.heap.size w.heap.size (Lib.byteCells (G.qt (s.data.toList.take k))) wr) ∧ Below w.heap.size w wr)
    (fun vi _ => s.size - (intOf vi).toNat)
  case atStart => exact ⟨0, Nat.zero_le _, rfl, Lib.fresh_isBuilder 42 5 w, (Below.refl _ _).alloc (Nat.le_refl _) _⟩
  case round =>
    obtain ⟨k, hk, rfl, HB, hb⟩ := hrel
    have hbs := hb.size
    have hlen : (Lib.byteCells (G.qt (s.data.toList.take k))).length ≤ 200000 := by
      have := qt_len (s.data.toList.take k); simp [Lib.byteCells] at this ⊢; omega
    by_cases hlt : k < s.size
    · have hil : (k : Int) < (s.size : Int) := by omega
      obtain ⟨X, hX, hX0⟩ := index_special s[k]
      have HO : Hid (∀ W, Calls Tryd.prog 24 #[.string ⟨#[42, 63, 91, 92]⟩, .int .u8 s[k].toNat] W fun e w' => e = .returned (.int .i64 X) ∧ w' = W) := by
        intro W
        have h := Tryd.strings_IndexByte ⟨#[42, 63, 91, 92]⟩ s[k].toNat W
        rw [u8_back] at h
        rw [← hX]; exact h
      clear hX
      cases hsp : G.special s[k]
      · have hx : ¬ 0 ≤ X := by rw [hX0, hsp]; simp
        have HQ : Hid (Lib.byteCells (G.qt (s.data.toList.take (k + 1))) = Lib.byteCells (G.qt (s.data.toList.take k)) ++ [.int .u8 s[k].toNat]) := qt_snoc_f s k hlt hsp
        clear hX0 hsp
        go_wp2_with fail
        refine (HO.out _).mono ?_
        rintro e w' ⟨rfl, rfl⟩
        go_wp2_with fail
        refine (Tryd.Builder_WriteByte _ _ _ _ _ HB.out (by omega) hbs).mono ?_
        rintro e w1 ⟨rfl, hB1, hb1⟩
        go_wp2
        go_roundw
        case rel => exact ⟨k + 1, by omega, by go_num, Or.inr (by rw [HQ.out]; exact hB1), hb.trans hb1⟩
        case measure => simp [intOf]; omega
      · have hx : 0 ≤ X := by rw [hX0, hsp]
        have HQ : Hid (Lib.byteCells (G.qt (s.data.toList.take (k + 1))) = Lib.byteCells (G.qt (s.data.toList.take k)) ++ [.int .u8 92] ++ [.int .u8 s[k].toNat]) := qt_snoc_t s k hlt hsp
        clear hX0 hsp
        go_wp2_with fail
        refine (HO.out _).mono ?_
        rintro e w' ⟨rfl, rfl⟩
        go_wp2_with fail
        refine (Tryd.Builder_WriteByte _ _ _ _ _ HB.out (by omega) hbs).mono ?_
        rintro e w1 ⟨rfl, hB1, hb1⟩
        have HB1 : Hid (Lib.IsBuilder 42 5 w.heap.size w.heap.size (Lib.byteCells (G.qt (s.data.toList.take k)) ++ [.int .u8 92]) w1) := Or.inr hB1
        have hbs1 := (hb.trans hb1).size
        clear hB1
        go_wp2_with fail
        refine (Tryd.Builder_WriteByte _ _ _ _ _ HB1.out (by simp; omega) hbs1).mono ?_
        rintro e w2 ⟨rfl, hB2, hb2⟩
        go_wp2
        go_roundw
        case rel => exact ⟨k + 1, by omega, by go_num, Or.inr (by rw [HQ.out]; exact hB2), (hb.trans hb1).trans hb2⟩
        case measure => simp [intOf]; omega
    · obtain rfl : k = s.size := by omega
      have HB' : Hid (Lib.IsBuilder 42 5 w.heap.size w.heap.size (Lib.byteCells (G.qt s.data.toList)) wr) := by
        have h := HB.out
        rw [List.take_of_length_le (by simp)] at h; exact h
      clear HB
      go_wp2_with fail
      refine (Tryd.Builder_String_any _ _ _ _ HB'.out hbs).mono ?_
      rintro e w1 ⟨rfl, hb1⟩
      go_wp2
      go_ret
      exact ⟨rfl, hb.trans hb1⟩
end Go.Proofs.YtpelefbddbghaaaDoor
