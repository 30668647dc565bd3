/-
  Whether a list has a text that may not be a name: the program's way and the document's; the document's operator and trim.
-/
import Derived.Test.YtbgnmchnfaknkaaDoorK5
import Derived.Test.YtbgnmchnfaknkaaDoorK2
namespace Go.Proofs.YtbgnmchnfaknkaaDoor
open Go.RowKit Go.Shelf

def longB (x : ByteArray) : Bool := decide (255 < x.size)
def anyB (l : List ByteArray) : Bool := l.any longB
theorem anyB_map (T : List (List UInt8)) : anyB (T.map ba) = Q.anyLong T := by
  unfold anyB Q.anyLong
  rw [List.any_map]
  congr 1
theorem any_step (l : List ByteArray) (k : Nat) (h : k < l.length) : anyB (l.drop k) = (longB l[k] || anyB (l.drop (k + 1))) := by
  rw [List.drop_eq_getElem_cons h]; rfl
theorem any_end (l : List ByteArray) (k : Nat) (h : ¬ k < l.length) : anyB (l.drop k) = false := by
  rw [List.drop_of_length_le (by omega)]; rfl

set_option maxHeartbeats 400000 in
theorem toolong_any (x : ByteArray) (w : World) :
    Calls Tryd.prog 43 #[.string x] w fun e w' => e = .returned (.bool (longB x)) ∧ w = w' := by
  by_cases h : 255 < x.size
  · have h1 : (255 : Int) < (x.size : Int) := by omega
    have hE : longB x = true := by simp [longB, h]
    rw [hE]
    go_enter Tryd.func43, Tryd.ntmps43
    go_wp2
    go_ret
    exact ⟨rfl, rfl⟩
  · have h1 : ¬ (255 : Int) < (x.size : Int) := by omega
    have hE : longB x = false := by simp [longB]; omega
    rw [hE]
    go_enter Tryd.func43, Tryd.ntmps43
    go_wp2
    go_ret
    exact ⟨rfl, rfl⟩
theorem etl : ∀ args w, (callFunc 43 args).run Tryd.prog w = .ok (.enter 43 args) w := enters_of Tryd.func43 (by kernel_rfl) rfl

set_option maxRecDepth 20000 in
set_option maxHeartbeats 400000 in
theorem idxf_any (l : List ByteArray) (a : Option Addr) (n c : Nat) (B : Nat) (w : World) (hn : n ≤ 100000000) (hW : Words B w (.slice a n c) l) :
    Calls Tryd.prog 61 #[.slice a n c, .func (.func 43) #[] #[]] w fun e w' => ∃ X : Int, e = .returned (.int .i64 X) ∧ decide (0 ≤ X) = anyB l ∧ w = w' := by
  have HW : Hid (n = l.length ∧ Words B w (.slice a n c) l) := ⟨hW.len.1, hW⟩
  have hcap := hW.len.2
  have ee := etl
  clear hW
  go_enter Tryd.func61, Tryd.ntmps61
  go_wp2
  go_loopw [8] (fun vi wr => ∃ k : Nat, k ≤ n ∧ vi = .int .i64 k ∧ w = wr ∧ Hid (anyB l = anyB (l.drop k))) (fun vi _ => n - (intOf vi).toNat)
  case atStart => exact ⟨0, Nat.zero_le _, rfl, rfl, by simp [Hid]⟩
  case round =>
    obtain ⟨k, hk, rfl, rfl, HA⟩ := hrel
    by_cases hlt : k < n
    · have hkl : k < l.length := by rw [← HW.out.1]; exact hlt
      have hil : (k : Int) < (n : Int) := by omega
      obtain ⟨b, o, rfl, hbB, hcx⟩ := HW.out.2.pick k hkl
      obtain ⟨x, hxe⟩ : ∃ x, x = l[k] := ⟨_, rfl⟩
      rw [← hxe] at hcx
      have HS := any_step l k hkl
      rw [← hxe] at HS
      have HT : Hid (∀ W, Calls Tryd.prog 43 #[.string x] W fun e w' => e = .returned (.bool (longB x)) ∧ W = w') := fun W => toolong_any x W
      clear hxe
      cases hx : longB x with
      | true =>
        rw [hx] at HT HS
        have HE : Hid (anyB l = true) := by unfold Hid; rw [HA.out, HS]; rfl
        clear HS hx
        go_wp2_with (go_at_fn 43; refine (HT.out _).mono ?_; rintro e w' ⟨rfl, rfl⟩)
        go_ret
        exact ⟨_, rfl, by rw [HE.out]; simp, rfl⟩
      | false =>
        rw [hx] at HT HS
        have HE : Hid (anyB l = anyB (l.drop (k + 1))) := by unfold Hid; rw [HA.out, HS]; rfl
        clear HS hx
        go_wp2_with (go_at_fn 43; refine (HT.out _).mono ?_; rintro e w' ⟨rfl, rfl⟩)
        go_roundw
        case rel => exact ⟨k + 1, by omega, by go_num, trivial, HE⟩
        case measure => simp [intOf]; omega
    · have hnl : ¬ (k : Int) < (n : Int) := by omega
      have HE : Hid (anyB l = false) := by unfold Hid; rw [HA.out]; exact any_end l k (by rw [← HW.out.1]; exact hlt)
      go_wp2
      go_ret
      exact ⟨_, rfl, by rw [HE.out]; simp, rfl⟩

set_option maxHeartbeats 400000 in
theorem contf_any (l : List ByteArray) (v : Value) (B : Nat) (w : World) (hn : l.length ≤ 100000000) (hW : Words B w v l) :
    Calls Tryd.prog 42 #[v, .func (.func 43) #[] #[]] w fun e w' => e = .returned (.bool (anyB l)) ∧ w = w' := by
  obtain ⟨a, n, c, rfl⟩ : ∃ a n c, v = .slice a n c := by obtain ⟨a, n, c, h, _⟩ := hW; exact ⟨a, n, c, h⟩
  have hl := hW.len.1
  rw [← hl] at hn
  have HI : Hid (Calls Tryd.prog 61 #[.slice a n c, .func (.func 43) #[] #[]] w fun e w' => ∃ X : Int, e = .returned (.int .i64 X) ∧ decide (0 ≤ X) = anyB l ∧ w = w') := idxf_any l a n c B w hn hW
  clear hW hl
  go_enter Tryd.func42, Tryd.ntmps42
  go_wp2_with fail
  refine HI.out.mono ?_
  rintro e w' ⟨X, rfl, hX, rfl⟩
  have HX : Hid (decide (0 ≤ X) = anyB l) := hX
  clear hX
  by_cases h0 : 0 ≤ X
  · go_wp2
    go_ret
    exact ⟨ret_bool (by rw [← HX.out]; simp [h0]), rfl⟩
  · go_wp2
    go_ret
    exact ⟨ret_bool (by rw [← HX.out]), rfl⟩

set_option maxRecDepth 20000 in
set_option maxHeartbeats 400000 in
theorem names_any (l : List ByteArray) (v : Value) (B : Nat) (w : World) (hn : l.length ≤ 100000000) (hW : Words B w v l) :
    Calls Tryd.prog 24 #[v] w fun e w' => e = .returned (.bool (!anyB l)) ∧ w = w' := by
  obtain ⟨a, n, c, rfl⟩ : ∃ a n c, v = .slice a n c := by obtain ⟨a, n, c, h, _⟩ := hW; exact ⟨a, n, c, h⟩
  have HW : Hid (n = l.length ∧ Words B w (.slice a n c) l) := ⟨hW.len.1, hW⟩
  have hcap := hW.len.2
  rw [← hW.len.1] at hn
  clear hW
  go_enter Tryd.func24, Tryd.ntmps24
  go_wp2
  go_loopw [3] (fun vi wr => ∃ k : Nat, k ≤ n ∧ vi = .int .i64 k ∧ w = wr ∧ Hid (anyB l = anyB (l.drop k))) (fun vi _ => n - (intOf vi).toNat)
  case atStart => exact ⟨0, Nat.zero_le _, rfl, rfl, by simp [Hid]⟩
  case round =>
    obtain ⟨k, hk, rfl, rfl, HA⟩ := hrel
    by_cases hlt : k < n
    · have hkl : k < l.length := by rw [← HW.out.1]; exact hlt
      have hil : (k : Int) < (n : Int) := by omega
      obtain ⟨b, o, rfl, hbB, hcx⟩ := HW.out.2.pick k hkl
      obtain ⟨x, hxe⟩ : ∃ x, x = l[k] := ⟨_, rfl⟩
      rw [← hxe] at hcx
      have HS := any_step l k hkl
      rw [← hxe] at HS
      clear hxe
      by_cases hx : 255 < x.size
      · have hxi : (255 : Int) < (x.size : Int) := by omega
        have HE : Hid (anyB l = true) := by unfold Hid; rw [HA.out, HS]; simp [longB, hx]
        clear HS
        go_wp2
        go_ret
        exact ⟨ret_bool (by rw [HE.out]; rfl), rfl⟩
      · have hxi : ¬ (255 : Int) < (x.size : Int) := by omega
        have HE : Hid (anyB l = anyB (l.drop (k + 1))) := by unfold Hid; rw [HA.out, HS]; simp [longB, hx]
        clear HS
        go_wp2
        go_roundw
        case rel => exact ⟨k + 1, by omega, by go_num, trivial, HE⟩
        case measure => simp [intOf]; omega
    · have hnl : ¬ (k : Int) < (n : Int) := by omega
      have HE : Hid (anyB l = false) := by unfold Hid; rw [HA.out]; exact any_end l k (by rw [← HW.out.1]; exact hlt)
      go_wp2
      go_ret
      exact ⟨ret_bool (by rw [HE.out]; rfl), rfl⟩
end Go.Proofs.YtbgnmchnfaknkaaDoor
