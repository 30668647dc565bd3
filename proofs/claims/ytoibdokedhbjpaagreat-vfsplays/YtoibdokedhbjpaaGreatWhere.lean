/-
  Where a path lies, by the document's own function.
-/
import Derived.Test.YtoibdokedhbjpaaGreatRefC
import Derived.Test.YtoibdokedhbjpaaGreatSpec
namespace Go.Proofs.YtoibdokedhbjpaaGreat
open Go.RowKit Go.Shelf

def whereV : Option ByteArray → Value
  | none => .tuple #[.string E, .bool false]
  | some q => .tuple #[.string q, .bool true]
def okW (l : List ByteArray) : Bool := l.all fun x => decide (x.size ≤ 255)
set_option maxRecDepth 20000 in
set_option maxHeartbeats 400000 in
theorem where_any (p : ByteArray) (w : World) (hp : p.size ≤ 1090000) :
    Calls Tryz.prog 41 #[.string p] w fun e w' => e = .returned (whereV (wh p)) ∧ Below w.heap.size w w' := by
  have hcs := cl_size p
  obtain ⟨q, hq⟩ : ∃ q, q = cl p := ⟨_, rfl⟩
  have hcat : bl ((⟨#[47]⟩ : ByteArray) ++ p) = 47 :: bl p := by simp [bl]
  have hsz : ((⟨#[47]⟩ : ByteArray) ++ p).size = p.size + 1 := by rw [← bl_length, hcat]; simp [bl_length]
  have HJ : Hid (∀ W, Calls Tryz.prog 62 #[.string (⟨#[47]⟩ ++ p)] W fun e w' => e = .returned (.string q) ∧ Below W.heap.size W w') := by
    intro W
    have := rclean_any (⟨#[47]⟩ ++ p) W (by omega)
    rw [hcat] at this
    rw [hq]; exact this
  have HP : Hid (∀ W, Calls Tryz.prog 63 #[.string q] W fun e w' => ∃ v, e = .returned v ∧ w'.ownsRow W.heap.size 9 1 v (parts q).length ((parts q).map Value.string) ∧ Below W.heap.size W w') := fun W => rparts_any q W (by rw [hq]; omega)
  have hpl := parts_len q
  rw [← hq] at hcs
  have HW : Hid (wh p = if okW (parts q) then some q else none) := by unfold Hid wh; rw [← hq]; rfl
  obtain ⟨l, hl⟩ : ∃ l, l = parts q := ⟨_, rfl⟩
  rw [← hl] at HP HW hpl
  clear hq hl hcat hsz
  go_enter Tryz.func41, Tryz.ntmps41
  go_wp2_with fail
  refine (HJ.out _).mono ?_
  rintro e w1 ⟨rfl, hbb1⟩
  go_wp2_with fail
  refine (HP.out _).mono ?_
  rintro e w2 ⟨u, rfl, hown, hb2⟩
  have hbb2 := hbb1.trans (hb2.mono hbb1.size)
  have hwd : Words w2.heap.size w2 u l := words_of_owns hown (Nat.le_refl _)
  obtain ⟨a, cap, rfl⟩ := owns_slice hown
  obtain ⟨n, hn⟩ : ∃ n, n = l.length := ⟨_, rfl⟩
  rw [← hn] at hpl hwd ⊢
  have HL : Hid (n = l.length ∧ Words w2.heap.size w2 (.slice a n cap) l) := ⟨hn, hwd⟩
  clear hown hb2 hbb1 HP HJ hwd hn
  go_wp2
  go_loopw [5] (fun vi wr => ∃ k : Nat, k ≤ n ∧ vi = .int .i64 k ∧ okW (l.take k) = true ∧ wr = w2)
    (fun vi _ => n - (intOf vi).toNat)
  case atStart => exact ⟨0, Nat.zero_le _, rfl, rfl, rfl⟩
  case round =>
    obtain ⟨k, hk, rfl, hok, rfl⟩ := hrel
    by_cases hlt : k < n
    · have hkl : k < l.length := by rw [← HL.out.1]; exact hlt
      have hil : (k : Int) < (n : Int) := by omega
      obtain ⟨g, o, rfl, _, hcx0⟩ := HL.out.2.pick k hkl
      obtain ⟨x, hxe⟩ : ∃ x, x = l[k] := ⟨_, rfl⟩
      rw [← hxe] at hcx0
      have HX : Hid (x = l[k]) := hxe
      clear hxe
      by_cases hx : 255 < x.size
      · have HF : Hid (okW l = false) := by
          unfold Hid okW
          rw [List.all_eq_false]
          exact ⟨x, by rw [HX.out]; exact List.getElem_mem _, by simp; omega⟩
        have hxi : (255 : Int) < (x.size : Int) := by omega
        clear HX
        go_wp2
        go_ret2
        exact ⟨by rw [HW.out, HF.out]; rfl, hbb2⟩
      · have HF : Hid (okW (l.take (k + 1)) = true) := by
          unfold Hid
          unfold okW at hok ⊢
          rw [List.take_succ_eq_append_getElem hkl, List.all_append, hok, ← HX.out]; simp; omega
        have hxi : ¬ (255 : Int) < (x.size : Int) := by omega
        clear HX hok
        go_wp2
        go_roundw
        case rel => exact ⟨k + 1, by omega, by go_num, HF.out, trivial⟩
        case measure => simp [intOf]; omega
    · obtain rfl : k = n := by omega
      have HF : Hid (okW l = true) := by
        have := hok
        rw [HL.out.1, List.take_length] at this; exact this
      clear hok
      go_wp2
      go_ret2
      exact ⟨by rw [HW.out, HF.out]; rfl, hbb2⟩
end Go.Proofs.YtoibdokedhbjpaaGreat
