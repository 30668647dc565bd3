/-
  Where a path lies, and what is noted.
-/
import Derived.Test.YtoibdokedhbjpaaGreatSmall
namespace Go.Proofs.YtoibdokedhbjpaaGreat
open Go.RowKit Go.Shelf Go.Maps

theorem joined_top (p : ByteArray) : bl (joined [topB, p]) = if p = E then [47] else 47 :: 47 :: bl p := by
  unfold joined told
  rw [bl_ba, List.filter_cons, if_pos (by decide), List.filter_cons, List.filter_nil]
  by_cases hp : p = E
  · subst hp; rfl
  · rw [if_pos (by simp [neE, hp]), if_neg hp]
    rfl
theorem clean_joined (p : ByteArray) : ba (G.cleanL (bl (joined [topB, p]))) = cl p := by
  rw [joined_top]
  unfold cl
  split
  · rename_i hp; subst hp; rfl
  · rw [G.clean_slash]
theorem joined_le (p : ByteArray) : (joined [topB, p]).size ≤ p.size + 2 := by
  rw [← bl_length, joined_top]
  split
  · simp
  · simp [bl_length]

def placeV : Option ByteArray → Value
  | none => .tuple #[.string E, .int .i64 1]
  | some q => .tuple #[.string q, .int .i64 0]
def okN (l : List ByteArray) : Bool := l.all fun x => decide (x.size ≤ 255)
set_option maxHeartbeats 400000 in
theorem place_any {base b m : Nat} {v : Value} {s : St} (p : ByteArray) (w : World) (h : Store base b m v s w) (hp : p.size ≤ 1500000) :
    Calls Tryz.prog 40 #[ptr b, .string p] w fun e w' => e = .returned (placeV (wh p)) ∧ Below w.heap.size w w' := by
  have HR : Hid (Calls Tryz.prog 27 #[ptr b] w fun e w' => e = .returned (.bool true) ∧ w = w') := (ready_any w h).mono fun e w' h => ⟨h.1, h.2.symm⟩
  have hjs := joined_le p
  have hcs := cl_size p
  obtain ⟨q, hq⟩ : ∃ q, q = cl p := ⟨_, rfl⟩
  have HJ : Hid (∀ W : World, ∀ g, g < W.heap.size → W.cell? ⟨g, 0, none⟩ = some (.string topB) → W.cell? ⟨g, 1, none⟩ = some (.string p) → Calls Tryz.prog 60 #[.slice (some ⟨g, 0, none⟩) 2 2] W fun e w' => e = .returned (.string q) ∧ Below W.heap.size W w') := by
    intro W g hg h0 h1
    rw [hq, ← clean_joined p]
    refine joinp_any (some ⟨g, 0, none⟩) 2 2 [topB, p] W (by omega) (by omega) ⟨some ⟨g, 0, none⟩, 2, 2, rfl, rfl, fun i hi => ⟨g, 0, rfl, hg, ?_⟩⟩
    match i, hi with
    | 0, _ => exact h0
    | 1, _ => exact h1
  have HP : Hid (∀ W, Calls Tryz.prog 61 #[.string q] W fun e w' => ∃ v, e = .returned v ∧ w'.ownsRow W.heap.size 9 1 v (parts q).length ((parts q).map Value.string) ∧ Below W.heap.size W w') := fun W => parts_any q W (by rw [hq]; omega)
  have hpl := parts_len q
  rw [← hq] at hcs
  have HW : Hid (wh p = if okN (parts q) then some q else none) := by unfold Hid wh; rw [← hq]; rfl
  have hbl := h.lt
  obtain ⟨l, hl⟩ : ∃ l, l = parts q := ⟨_, rfl⟩
  rw [← hl] at HP HW hpl
  clear hq h hl
  go_enter Tryz.func40, Tryz.ntmps40
  go_wp2_with fail
  refine HR.out.mono ?_
  rintro e w' ⟨rfl, rfl⟩
  clear HR
  go_wp2_with fail
  refine (HJ.out _ w.heap.size (by simp) (by simp) (by simp)).mono ?_
  rintro e w1 ⟨rfl, hb1⟩
  have hbb1 : Below w.heap.size w w1 := ((Below.refl _ w).alloc (Nat.le_refl _) _).trans (hb1.mono (by simp))
  clear hb1
  go_wp2_with fail
  refine (HP.out _).mono ?_
  rintro e w2 ⟨u, rfl, hown, hb2⟩
  have hbb2 := hbb1.trans (hb2.mono hbb1.size)
  have hwd : Words w2.heap.size w2 u l := words_of_owns hown (Nat.le_refl _)
  obtain ⟨a, cap, rfl⟩ := owns_slice hown
  obtain ⟨n, hn⟩ : ∃ n, n = l.length := ⟨_, rfl⟩
  rw [← hn] at hpl hwd ⊢
  have HL : Hid (n = l.length ∧ Words w2.heap.size w2 (.slice a n cap) l) := ⟨hn, hwd⟩
  clear hown hb2 hbb1 HP HJ hwd hn
  go_wp2
  go_loopw [18] (fun vi wr => ∃ k : Nat, k ≤ n ∧ vi = .int .i64 k ∧ okN (l.take k) = true ∧ wr = w2)
    (fun vi _ => n - (intOf vi).toNat)
  case atStart => exact ⟨0, Nat.zero_le _, rfl, rfl, rfl⟩
  case round =>
    obtain ⟨k, hk, rfl, hok, rfl⟩ := hrel
    by_cases hlt : k < n
    · have hkl : k < l.length := by rw [← HL.out.1]; exact hlt
      have hil : (k : Int) < (n : Int) := by omega
      obtain ⟨g, o, rfl, _, hcx0⟩ := HL.out.2.pick k hkl
      obtain ⟨x, hxe⟩ : ∃ x, x = l[k] := ⟨_, rfl⟩
      rw [← hxe] at hcx0
      have HX : Hid (x = l[k]) := hxe
      clear hxe
      by_cases hx : 255 < x.size
      · have HF : Hid (okN l = false) := by
          unfold Hid okN
          rw [List.all_eq_false]
          exact ⟨x, by rw [HX.out]; exact List.getElem_mem _, by simp; omega⟩
        have hxi : (255 : Int) < (x.size : Int) := by omega
        clear HX
        go_wp2
        go_ret2
        exact ⟨by rw [HW.out, HF.out]; rfl, hbb2⟩
      · have HF : Hid (okN (l.take (k + 1)) = true) := by
          unfold Hid
          unfold okN at hok ⊢
          rw [List.take_succ_eq_append_getElem hkl, List.all_append, hok, ← HX.out]; simp; omega
        have hxi : ¬ (255 : Int) < (x.size : Int) := by omega
        clear HX hok
        go_wp2
        go_roundw
        case rel => exact ⟨k + 1, by omega, by go_num, HF.out, trivial⟩
        case measure => simp [intOf]; omega
    · obtain rfl : k = n := by omega
      have HF : Hid (okN l = true) := by
        have := hok
        rw [HL.out.1, List.take_length] at this; exact this
      clear hok
      go_wp2
      go_ret2
      exact ⟨by rw [HW.out, HF.out]; rfl, hbb2⟩
end Go.Proofs.YtoibdokedhbjpaaGreat
