/-
  What the program's Dir, Name, Suffix and Root answer, and the document's own: the same cuts.
-/
import Derived.Test.YtoibdokedhbjpaaGreatKept
namespace Go.Proofs.YtoibdokedhbjpaaGreat
open Go.RowKit Go.Shelf

theorem ret_int {a b : Int} (h : a = b) : Ending.returned (.int .i64 a) = .returned (.int .i64 b) := by rw [h]
def lastI (s : ByteArray) (c : Int) : Int := Lib.lastIndexByte s c
theorem lastI_cases (s : ByteArray) (c : Int) : lastI s c = -1 ∨ ∃ i : Nat, i < s.size ∧ lastI s c = i := by
  rcases Lib.lastIndexByte_spec s c with ⟨h, _⟩ | ⟨i, h1, h2, _⟩
  · exact .inl h
  · exact .inr ⟨i, h1, h2⟩
def dirB (p : ByteArray) : ByteArray := if lastI p 47 < 0 then dotB else if lastI p 47 = 0 then ⟨#[47]⟩ else p.extract 0 (lastI p 47).toNat
def nameB (p : ByteArray) : ByteArray := p.extract (lastI p 47 + 1).toNat p.size
theorem nameB_size (p : ByteArray) : (nameB p).size ≤ p.size := by unfold nameB; simp
set_option maxHeartbeats 400000 in
theorem dir_any (p : ByteArray) (w : World) (hs : p.size ≤ 140737488355328) :
    Calls Tryz.prog 65 #[.string p] w fun e w' => e = .returned (.string (dirB p)) ∧ w' = w := by
  have HO : Hid (∀ W, Calls Tryz.prog 79 #[.string p, .int .u8 47] W fun e w' => e = .returned (.int .i64 (lastI p 47)) ∧ w' = W) := fun W => Tryz.strings_LastIndexByte p 47 (by omega) W
  unfold dirB
  rcases lastI_cases p 47 with h | ⟨i, hi, h⟩
  · rw [h] at HO ⊢
    clear h
    go_enter Tryz.func65, Tryz.ntmps65
    go_wp2_with fail
    refine (HO.out _).mono ?_
    rintro e w' ⟨rfl, rfl⟩
    go_wp2
    go_ret
    exact ⟨rfl, rfl⟩
  · rw [h] at HO ⊢
    clear h
    by_cases h0 : i = 0
    · subst h0
      go_enter Tryz.func65, Tryz.ntmps65
      go_wp2_with fail
      refine (HO.out _).mono ?_
      rintro e w' ⟨rfl, rfl⟩
      go_wp2
      go_ret
      exact ⟨rfl, rfl⟩
    · have c1 : (0 : Int) < (i : Int) := by omega
      have c2 : ¬ (i : Int) = 0 := by omega
      have c3 : (i : Int) ≤ (p.size : Int) := by omega
      rw [if_neg (by omega), if_neg c2]
      go_enter Tryz.func65, Tryz.ntmps65
      go_wp2_with fail
      refine (HO.out _).mono ?_
      rintro e w' ⟨rfl, rfl⟩
      go_wp2
      go_ret
      exact ⟨rfl, rfl⟩

set_option maxHeartbeats 400000 in
theorem name_any (p : ByteArray) (w : World) (hs : p.size ≤ 140737488355328) :
    Calls Tryz.prog 66 #[.string p] w fun e w' => e = .returned (.string (nameB p)) ∧ w' = w := by
  have HO : Hid (∀ W, Calls Tryz.prog 79 #[.string p, .int .u8 47] W fun e w' => e = .returned (.int .i64 (lastI p 47)) ∧ w' = W) := fun W => Tryz.strings_LastIndexByte p 47 (by omega) W
  unfold nameB
  rcases lastI_cases p 47 with h | ⟨i, hi, h⟩
  · rw [h] at HO ⊢
    clear h
    go_enter Tryz.func66, Tryz.ntmps66
    go_wp2_with fail
    refine (HO.out _).mono ?_
    rintro e w' ⟨rfl, rfl⟩
    go_wp2
    go_ret
    exact ⟨ret_str (by simp), rfl⟩
  · rw [h] at HO ⊢
    clear h
    have c1 : (0 : Int) ≤ (i : Int) + 1 := by omega
    have c3 : (i : Int) + 1 ≤ (p.size : Int) := by omega
    go_enter Tryz.func66, Tryz.ntmps66
    go_wp2_with fail
    refine (HO.out _).mono ?_
    rintro e w' ⟨rfl, rfl⟩
    go_wp2
    go_ret
    exact ⟨rfl, rfl⟩
end Go.Proofs.YtoibdokedhbjpaaGreat
