/-
  S: where the first place is; how long a word gets.
-/
import Derived.Test.YthcbagggalehgaaGreatDoorM11
import Derived.BigQuiet
namespace Go.Proofs.YthcbagggalehgaaGreatDoor
open Go.RowKit Go.Shelf

/-- Where the first place of S is. -/
def firstI (bg en : Bool) (a s : List UInt8) : Int :=
  if bg = true ∧ en = true ∧ ¬ s = a then -1 else if bg = true ∧ Lib.hasPrefix s a = false then -1 else if en = true ∧ Lib.hasSuffix s a = false then -1
  else if en = true then (s.length : Int) - a.length else if bg = true then 0 else Lib.index s a

set_option maxRecDepth 20000 in
set_option maxHeartbeats 3200000 in
theorem first_any (b : Nat) (ma x : ByteArray) (bg en : Bool) (w : World) (r1 : w.cell? ⟨b, 1, none⟩ = some (.string ma)) (r3 : w.cell? ⟨b, 3, none⟩ = some (.bool bg)) (r4 : w.cell? ⟨b, 4, none⟩ = some (.bool en)) (ha : ma.size ≤ 1000000) (hx : x.size ≤ 1000000) (hmx : Mx w) :
    Calls Tryz.prog 142 #[.pointer (some ⟨b, 0, none⟩), .string x] w fun e w' => e = .returned (.int .i64 (firstI bg en (bl ma) (bl x))) ∧ w = w' := by
  have HP : Hid (∀ W, Calls Tryz.prog 27 #[.string x, .string ma] W fun e w' => e = .returned (.bool (Lib.hasPrefix (bl x) (bl ma))) ∧ W = w') := fun W => (Tryz.strings_HasPrefix x ma W).mono (by rintro e w' ⟨rfl, rfl⟩; exact ⟨rfl, rfl⟩)
  have HS : Hid (∀ W, Calls Tryz.prog 151 #[.string x, .string ma] W fun e w' => e = .returned (.bool (Lib.hasSuffix (bl x) (bl ma))) ∧ W = w') := fun W => (Tryz.strings_HasSuffix x ma W (by omega)).mono (by rintro e w' ⟨rfl, rfl⟩; exact ⟨rfl, rfl⟩)
  have HI : Hid (Calls Tryz.prog 47 #[.string x, .string ma] w fun e w' => e = .returned (.int .i64 (Lib.index (bl x) (bl ma))) ∧ w = w') := by
    obtain ⟨mm, hmm⟩ := hmx
    exact (Tryz.strings_Index x ma mm w (by omega) hmm).mono (by rintro e w' ⟨rfl, rfl⟩; exact ⟨rfl, rfl⟩)
  clear hmx
  obtain ⟨R, hR⟩ : ∃ R, R = firstI bg en (bl ma) (bl x) := ⟨_, rfl⟩
  rw [← hR]
  unfold firstI at hR
  obtain ⟨ix, hix⟩ : ∃ ix, ix = Lib.index (bl x) (bl ma) := ⟨_, rfl⟩
  rw [← hix] at HI hR
  clear hix
  rw [bl_length, bl_length] at hR
  cases bg with
  | false =>
    rw [if_neg (by simp), if_neg (by simp)] at hR
    cases en with
    | false =>
      rw [if_neg (by simp), if_neg (by simp), if_neg (by simp)] at hR
      have HR : Hid (R = ix) := hR
      clear hR
      go_enter Tryz.func142, Tryz.ntmps142
      go_wp2_with fail
      refine HI.out.mono ?_
      rintro e w' ⟨rfl, rfl⟩
      go_wp2
      go_ret
      exact ⟨by rw [HR.out]; rfl, rfl⟩
    | true =>
      cases hq : Lib.hasSuffix (bl x) (bl ma) with
      | false =>
        rw [hq] at hR HS
        rw [if_pos ⟨rfl, rfl⟩] at hR
        have HR : Hid (R = -1) := hR
        clear hR hq
        go_enter Tryz.func142, Tryz.ntmps142
        go_wp2_with fail
        refine (HS.out _).mono ?_
        rintro e w' ⟨rfl, rfl⟩
        go_wp2
        go_ret
        exact ⟨by rw [HR.out]; rfl, rfl⟩
      | true =>
        rw [hq] at hR HS
        rw [if_neg (by simp), if_pos rfl] at hR
        have HR : Hid (R = (x.size : Int) - ma.size) := hR
        clear hR hq
        go_enter Tryz.func142, Tryz.ntmps142
        go_wp2_with fail
        refine (HS.out _).mono ?_
        rintro e w' ⟨rfl, rfl⟩
        go_wp2
        go_ret
        exact ⟨by rw [HR.out]; rfl, rfl⟩
  | true =>
    cases en with
    | false =>
      rw [if_neg (by simp)] at hR
      cases hp : Lib.hasPrefix (bl x) (bl ma) with
      | false =>
        rw [hp] at hR HP
        rw [if_pos ⟨rfl, rfl⟩] at hR
        have HR : Hid (R = -1) := hR
        clear hR hp
        go_enter Tryz.func142, Tryz.ntmps142
        go_wp2_with fail
        refine (HP.out _).mono ?_
        rintro e w' ⟨rfl, rfl⟩
        go_wp2
        go_ret
        exact ⟨by rw [HR.out]; rfl, rfl⟩
      | true =>
        rw [hp] at hR HP
        rw [if_neg (by simp), if_neg (by simp), if_neg (by simp), if_pos rfl] at hR
        have HR : Hid (R = 0) := hR
        clear hR hp
        go_enter Tryz.func142, Tryz.ntmps142
        go_wp2_with fail
        refine (HP.out _).mono ?_
        rintro e w' ⟨rfl, rfl⟩
        go_wp2
        go_ret
        exact ⟨by rw [HR.out]; rfl, rfl⟩
    | true =>
      by_cases hxa : x = ma
      · subst hxa
        rw [if_neg (by simp)] at hR
        cases hp : Lib.hasPrefix (bl x) (bl x) with
        | false =>
          rw [hp] at hR HP
          rw [if_pos ⟨rfl, rfl⟩] at hR
          have HR : Hid (R = -1) := hR
          clear hR hp
          go_enter Tryz.func142, Tryz.ntmps142
          go_wp2_with fail
          refine (HP.out _).mono ?_
          rintro e w' ⟨rfl, rfl⟩
          go_wp2
          go_ret
          exact ⟨by rw [HR.out]; rfl, rfl⟩
        | true =>
          rw [hp] at hR HP
          rw [if_neg (by simp)] at hR
          cases hq : Lib.hasSuffix (bl x) (bl x) with
          | false =>
            rw [hq] at hR HS
            rw [if_pos ⟨rfl, rfl⟩] at hR
            have HR : Hid (R = -1) := hR
            clear hR hq hp
            go_enter Tryz.func142, Tryz.ntmps142
            go_wp2_with fail
            refine (HP.out _).mono ?_
            rintro e w' ⟨rfl, rfl⟩
            go_wp2_with fail
            refine (HS.out _).mono ?_
            rintro e w' ⟨rfl, rfl⟩
            go_wp2
            go_ret
            exact ⟨by rw [HR.out]; rfl, rfl⟩
          | true =>
            rw [hq] at hR HS
            rw [if_neg (by simp), if_pos rfl] at hR
            have HR : Hid (R = 0) := hR.trans (by omega)
            clear hR hq hp
            have e0 : (x.size : Int) - (x.size : Int) = 0 := by omega
            go_enter Tryz.func142, Tryz.ntmps142
            go_wp2_with fail
            refine (HP.out _).mono ?_
            rintro e w' ⟨rfl, rfl⟩
            go_wp2_with fail
            refine (HS.out _).mono ?_
            rintro e w' ⟨rfl, rfl⟩
            go_wp2
            go_ret
            exact ⟨by rw [HR.out]; rfl, rfl⟩
      · rw [if_pos ⟨rfl, rfl, fun e => hxa (bl_inj e)⟩] at hR
        have HR : Hid (R = -1) := hR
        clear hR
        have t1 : ¬ x.toList = ma.toList := by rw [Lib.toList_data, Lib.toList_data]; exact fun e => hxa (bl_inj e)
        have t2 : (x.toList == ma.toList) = false := beq_eq_false_iff_ne.2 t1
        have t3 : (x.toList != ma.toList) = true := bne_iff_ne.2 t1
        clear hxa
        go_enter Tryz.func142, Tryz.ntmps142
        go_wp2
        go_ret
        exact ⟨by rw [HR.out]; rfl, rfl⟩

theorem wrap_ok (n : Int) (h1 : -9000000000000000000 ≤ n) (h2 : n ≤ 9000000000000000000) : IntKind.i64.wrap n = n := by
  (simp [IntKind.wrap, IntKind.bits, IntKind.signed]; omega)
set_option maxRecDepth 20000 in
set_option maxHeartbeats 1600000 in
theorem length_any (b : Nat) (x : ByteArray) (mks ots pl tk : Nat) (w : World) (r8 : w.cell? ⟨b, 8, none⟩ = some (.int .i64 mks)) (r9 : w.cell? ⟨b, 9, none⟩ = some (.int .i64 ots)) (hx : x.size ≤ 1000000) (h1 : mks ≤ 1000000) (h2 : ots ≤ 1000000) (h3 : pl ≤ 1000001) (h4 : tk ≤ 1000000000000) :
    Calls Tryz.prog 144 #[.pointer (some ⟨b, 0, none⟩), .string x, .int .i64 pl, .int .i64 tk] w fun e w' => e = .returned (.int .i64 ((x.size : Int) - tk + pl * ots + tk * mks)) ∧ Below w.heap.size w w' := by
  have g1 : pl * ots ≤ 1000001 * 1000000 := Nat.mul_le_mul h3 h2
  have g2 : tk * mks ≤ 1000000000000 * 1000000 := Nat.mul_le_mul h4 h1
  have c1 : (pl : Int) * (ots : Int) = ((pl * ots : Nat) : Int) := by simp
  have c2 : (tk : Int) * (mks : Int) = ((tk * mks : Nat) : Int) := by simp
  have k1 : IntKind.i64.wrap ((x.size : Int) - (tk : Int)) = (x.size : Int) - tk := by (simp [IntKind.wrap, IntKind.bits, IntKind.signed]; omega)
  have k2 : IntKind.i64.wrap ((pl : Int) * (ots : Int)) = (pl : Int) * ots := by rw [c1]; exact wrap_ok _ (by omega) (by omega)
  have k3 : IntKind.i64.wrap ((tk : Int) * (mks : Int)) = (tk : Int) * mks := by rw [c2]; exact wrap_ok _ (by omega) (by omega)
  have k4 : IntKind.i64.wrap ((x.size : Int) - (tk : Int) + (pl : Int) * (ots : Int)) = (x.size : Int) - (tk : Int) + (pl : Int) * (ots : Int) := by rw [c1]; exact wrap_ok _ (by omega) (by omega)
  have k5 : IntKind.i64.wrap ((x.size : Int) - (tk : Int) + (pl : Int) * (ots : Int) + (tk : Int) * (mks : Int)) = (x.size : Int) - (tk : Int) + (pl : Int) * (ots : Int) + (tk : Int) * (mks : Int) := by rw [c1, c2]; exact wrap_ok _ (by omega) (by omega)
  clear g1 g2 c1 c2
  go_enter Tryz.func144, Tryz.ntmps144
  go_wp2
  go_quiet (fail)
  go_wp2
  go_ret
  exact ⟨rfl, below_drewN (Below.refl _ _) _⟩
end Go.Proofs.YthcbagggalehgaaGreatDoor
