/-
  Whether two lists of lines are the same, by the document.
-/
import Derived.Test.YtllpbehhbpefjaaDoorBA
namespace Go.Proofs.YtllpbehhbpefjaaDoor
open Go.RowKit Go.Shelf

theorem below_dn {B : Nat} {w w1 : World} (h : Below B w w1) : ∀ n, Below B w (w1.drewN n)
  | 0 => h
  | n + 1 => (below_dn h n).drew
def SamePost (l m : List Lz) (w : World) (e : Ending) (w' : World) : Prop := ∃ (b : Bool), e = .returned (.bool b) ∧ (b = true ↔ l = m) ∧ Below w.heap.size w w'

set_option maxRecDepth 20000 in
set_option maxHeartbeats 800000 in
theorem rsame_any (v1 v2 : Value) (l m : List Lz) (B : Nat) (w : World) (hl : l.length ≤ 4000000) (hm : m.length ≤ 4000000) (h1 : LZ B w v1 l) (h2 : LZ B w v2 m) :
    Calls Tryd.prog 17 #[v1, v2] w (SamePost l m w) := by
  obtain ⟨a1, c1, rfl, hc1⟩ := h1.slice
  obtain ⟨a2, c2, rfl, hc2⟩ := h2.slice
  obtain ⟨n, hn⟩ : ∃ n, n = l.length := ⟨_, rfl⟩
  obtain ⟨n2, hn2⟩ : ∃ n, n = m.length := ⟨_, rfl⟩
  rw [← hn] at hl hc1 h1
  rw [← hn2] at hm hc2 h2
  have HW : Hid (n = l.length ∧ n2 = m.length ∧ LZ B w (.slice a1 n c1) l ∧ LZ B w (.slice a2 n2 c2) m) := ⟨hn, hn2, h1, h2⟩
  rw [← hn, ← hn2]
  clear hn hn2 h1 h2
  by_cases hne : n = n2
  · subst hne
    go_enter Tryd.func17, Tryd.ntmps17
    go_wp2
    go_loopw [5] (fun vi wr => ∃ k q : Nat, k ≤ n ∧ vi = .int .i64 (k : Int) ∧ wr = w.drewN q ∧ Hid (l.take k = m.take k)) (fun vi _ => n - (intOf vi).toNat)
    case atStart => exact ⟨0, 0, Nat.zero_le _, rfl, rfl, by simp [Hid]⟩
    case round =>
      obtain ⟨k, q, hk, rfl, rfl, HT⟩ := hrel
      by_cases hlt : k < n
      · have hil : (k : Int) < (n : Int) := by omega
        have hkl : k < l.length := by rw [← HW.out.1]; exact hlt
        have hkm : k < m.length := by rw [← HW.out.2.1]; exact hlt
        obtain ⟨b, o, rfl, hbB, d0, d1, d2⟩ := HW.out.2.2.1.pick (List.getElem?_eq_getElem hkl)
        obtain ⟨b', o', rfl, hbB', d0', d1', d2'⟩ := HW.out.2.2.2.pick (List.getElem?_eq_getElem hkm)
        have hne := neq52 l[k].text m[k].text l[k].at_ m[k].at_ l[k].cmd m[k].cmd
        have HS : Hid (sameZ l[k] m[k] = (l[k].text == m[k].text && (l[k].at_ == m[k].at_ && l[k].cmd == m[k].cmd))) := rfl
        have HTl : Hid (l.take (k + 1) = l.take k ++ [l[k]]) := List.take_succ_eq_append_getElem hkl
        have HTm : Hid (m.take (k + 1) = m.take k ++ [m[k]]) := List.take_succ_eq_append_getElem hkm
        have HL : Hid (l[k]? = some l[k] ∧ m[k]? = some m[k]) := ⟨List.getElem?_eq_getElem hkl, List.getElem?_eq_getElem hkm⟩
        obtain ⟨x, hx⟩ : ∃ x, x = l[k] := ⟨_, rfl⟩
        obtain ⟨y, hy⟩ : ∃ y, y = m[k] := ⟨_, rfl⟩
        rw [← hx] at d0 d1 d2 HTl HL
        rw [← hy] at d0' d1' d2' HTm HL
        rw [← hx, ← hy] at hne HS
        clear hx hy
        obtain ⟨xt, xa, xc⟩ := x
        obtain ⟨yt, ya, yc⟩ := y
        simp only at d0 d1 d2 d0' d1' d2' hne
        cases hs : sameZ ⟨xt, xa, xc⟩ ⟨yt, ya, yc⟩ with
        | true =>
          have HT1 : Hid (l.take (k + 1) = m.take (k + 1)) := by unfold Hid; rw [HTl.out, HTm.out, HT.out, (sameZ_iff _ _).1 hs]
          have hse := HS.out
          rw [hs] at hse
          simp only at hse
          rw [← hse] at hne
          clear hse hs HS HTl HTm HL
          simp only [Bool.not_true] at hne
          go_wp2
          go_quiet (fail)
          go_wp2
          go_roundw
          case rel => exact ⟨k + 1, _, by omega, by go_num, rfl, HT1⟩
          case measure => simp [intOf]; omega
        | false =>
          have HNE : Hid (¬ l = m) := fun e => by
            have h := HL.out
            rw [e] at h
            have := h.1.symm.trans h.2
            have h3 := (sameZ_iff ⟨xt, xa, xc⟩ ⟨yt, ya, yc⟩).2 (Option.some.inj this)
            rw [hs] at h3; cases h3
          have hse := HS.out
          rw [hs] at hse
          simp only at hse
          rw [← hse] at hne
          clear hse hs HS HTl HTm HL
          simp only [Bool.not_false] at hne
          go_wp2
          go_quiet (fail)
          go_wp2
          go_ret
          exact ⟨false, rfl, ⟨fun h => (by cases h), fun h => absurd h HNE.out⟩, below_dn (below_dn (Below.refl _ _) _) _⟩
      · have HE : Hid (l = m) := by
          have h := HT.out
          have h1 := HW.out.1
          have h2 := HW.out.2.1
          rw [List.take_of_length_le (by omega), List.take_of_length_le (by omega)] at h
          exact h
        go_wp2
        go_ret
        exact ⟨true, rfl, ⟨fun _ => HE.out, fun _ => rfl⟩, below_dn (Below.refl _ _) _⟩
  · have hni : ¬ (n : Int) = (n2 : Int) := by omega
    have hnb : ((n : Int) == (n2 : Int)) = false := by simpa using hni
    go_enter Tryd.func17, Tryd.ntmps17
    go_wp2
    go_ret
    refine ⟨false, rfl, ⟨fun h => (by cases h), fun h => ?_⟩, Below.refl _ _⟩
    have h1 := HW.out.1
    have h2 := HW.out.2.1
    rw [h] at h1
    exact absurd (h1.trans h2.symm) hne

end Go.Proofs.YtllpbehhbpefjaaDoor
