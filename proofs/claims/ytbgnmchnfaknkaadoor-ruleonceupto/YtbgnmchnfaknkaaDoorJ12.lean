/-
  Whether rules are too many; whether two lists of rules are the same.
-/
import Derived.Test.YtbgnmchnfaknkaaDoorJ11
namespace Go.Proofs.YtbgnmchnfaknkaaDoor
open Go.RowKit Go.Shelf Go.Maps

def minS (l : List Q.Ru) : Nat := (l.map fun r => min r.targets.length 1000).sum
theorem minS_take (l : List Q.Ru) (k : Nat) (r : Q.Ru) (h : l[k]? = some r) : minS (l.take (k + 1)) = minS (l.take k) + min r.targets.length 1000 := by
  have e : l.take (k + 1) = l.take k ++ [r] := by
    rw [List.take_add_one, h]; rfl
  rw [e]; simp [minS]
theorem minS_tot : ∀ (l : List Q.Ru), minS l ≤ 300 → Q.tot l ≤ 300
  | l, h => by
    have key : ∀ l : List Q.Ru, minS l ≤ 300 → minS l = Q.tot l := by
      intro l
      induction l with
      | nil => intro _; rfl
      | cons r l ih =>
        intro h
        have e : minS (r :: l) = min r.targets.length 1000 + minS l := by simp [minS]
        have e2 : Q.tot (r :: l) = r.targets.length + Q.tot l := by simp [Q.tot]
        rw [e] at h ⊢
        rw [e2]
        have := ih (by omega)
        omega
    rw [← key l h]; exact h
/-- What far says. -/
def FarPost (l : List Q.Ru) (w : World) (x : Ending) (w' : World) : Prop := ∃ b, x = .returned (.bool b) ∧ Below w.heap.size w w' ∧ (b = false → l.length ≤ 100 ∧ Q.tot l ≤ 300)

set_option maxRecDepth 20000 in
set_option maxHeartbeats 1000000 in
theorem far_any (l : List Q.Ru) (v : Value) (B : Nat) (w : World) (hv : RLst B w v l) (hB : B ≤ w.heap.size) (hl : l.length ≤ 100000000) (ht : ∀ r ∈ l, r.targets.length ≤ 1000000000000) :
    Calls Tryd.prog 12 #[v] w (FarPost l w) := by
  obtain ⟨a, n, c, rfl⟩ : ∃ a n c, v = .slice a n c := by obtain ⟨a, n, c, h, _⟩ := hv; exact ⟨a, n, c, h⟩
  have hn := hv.len
  have hcap := hn.2
  have hnl : n ≤ 100000000 := by rw [hn.1]; exact hl
  obtain ⟨q, hq⟩ : ∃ q, q = min n 200 := ⟨_, rfl⟩
  have hqn : q ≤ n := by omega
  have hq2 : q ≤ 200 := by omega
  have hmin : min (n : Int) 200 = (q : Int) := by omega
  have HV : Hid (RLst B w (.slice a n c) l ∧ B ≤ w.heap.size ∧ n = l.length ∧ (∀ r ∈ l, r.targets.length ≤ 1000000000000) ∧ q = min n 200) := ⟨hv, hB, hn.1, ht, hq⟩
  clear hv hB hl ht hn hq
  go_enter Tryd.func12, Tryd.ntmps12
  go_wp2_with fail
  go_loopw [3, 12] (fun vs vi wr => ∃ k s : Nat, k ≤ q ∧ s ≤ k * 1000 ∧ vs = .int .i64 s ∧ vi = .int .i64 k ∧ Hid (Below w.heap.size w wr ∧ s = minS (l.take k))) (fun _ vi _ => q - (intOf vi).toNat)
  case atStart => exact ⟨0, 0, Nat.zero_le _, Nat.zero_le _, rfl, rfl, Below.refl _ _, rfl⟩
  case round =>
    obtain ⟨k, s, hk, hs, rfl, rfl, HI⟩ := hrel
    by_cases hlt : k < q
    · have hkl : k < l.length := by rw [← HV.out.2.2.1]; omega
      have hil : (k : Int) < (q : Int) := by omega
      obtain ⟨r, hr⟩ : ∃ r, l[k]? = some r := ⟨l[k], List.getElem?_eq_some_iff.2 ⟨hkl, rfl⟩⟩
      obtain ⟨b, o, ta, tn, tc, sa, sn, sc, ca, cn, cc, rfl, hbB, p0', p1', p2', p3', p4', w0, w1, w2⟩ := HV.out.1.pick hr
      have hbw : b < w.heap.size := Nat.lt_of_lt_of_le hbB HV.out.2.1
      have p0 := (HI.out.1.cell (p := ⟨b, o + k * 5, none⟩) hbw).trans p0'
      have p1 := (HI.out.1.cell (p := ⟨b, o + k * 5 + 1, none⟩) hbw).trans p1'
      have p2 := (HI.out.1.cell (p := ⟨b, o + k * 5 + 2, none⟩) hbw).trans p2'
      have p3 := (HI.out.1.cell (p := ⟨b, o + k * 5 + 3, none⟩) hbw).trans p3'
      have p4 := (HI.out.1.cell (p := ⟨b, o + k * 5 + 4, none⟩) hbw).trans p4'
      have htn : tn = r.targets.length := by have := w0.len.1; rwa [List.length_map] at this
      obtain ⟨mq, hmq⟩ : ∃ mq, mq = min tn 1000 := ⟨_, rfl⟩
      have hm1 : min (tn : Int) 1000 = (mq : Int) := by omega
      have hm2 : mq ≤ 1000 := by omega
      have HN : Hid (s + mq = minS (l.take (k + 1))) := by
        unfold Hid; rw [minS_take l k r hr, ← HI.out.2, hmq, htn]
      clear p0' p1' p2' p3' p4' w0 w1 w2 hmq htn hr
      go_wp2_with fail
      go_roundw
      case rel => exact ⟨k + 1, s + mq, by omega, by omega, by go_num, by go_num, below_trans HI.out.1 (below_alloc1 _ _) HI.out.1.size, HN.out⟩
      case measure => simp [intOf]; omega
    · have hnl : ¬ (k : Int) < (q : Int) := by omega
      have HE : Hid (n ≤ 100 → s ≤ 300 → l.length ≤ 100 ∧ Q.tot l ≤ 300) := by
        intro h1 h2
        have hq := HV.out.2.2.2.2
        have hll := HV.out.2.2.1
        have : l.take k = l := List.take_of_length_le (by omega)
        rw [this] at HI
        refine ⟨by omega, minS_tot l ?_⟩
        rw [← HI.out.2]; exact h2
      by_cases h1 : 100 < n
      · have h1' : (100 : Int) < (n : Int) := by omega
        go_wp2_with fail
        go_ret
        exact ⟨true, rfl, HI.out.1, fun h => by cases h⟩
      · have h1' : ¬ (100 : Int) < (n : Int) := by omega
        by_cases h2 : 300 < s
        · have h2' : (300 : Int) < (s : Int) := by omega
          go_wp2_with fail
          go_ret
          exact ⟨true, rfl, HI.out.1, fun h => by cases h⟩
        · have h2' : ¬ (300 : Int) < (s : Int) := by omega
          go_wp2_with fail
          go_ret
          exact ⟨false, rfl, HI.out.1, fun _ => HE.out (by omega) (by omega)⟩
end Go.Proofs.YtbgnmchnfaknkaaDoor
