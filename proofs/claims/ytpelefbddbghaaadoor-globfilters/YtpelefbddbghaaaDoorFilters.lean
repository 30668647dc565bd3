/-
  What the statement GlobFilters answers, called at any text and any list of texts: true; nothing that was there has turned.
-/
import Derived.Test.YtpelefbddbghaaaDoorFilter
import Derived.Test.YtpelefbddbghaaaDoorRefQuote
import Derived.Test.YtpelefbddbghaaaDoorAlive
namespace Go.Proofs.YtpelefbddbghaaaDoor
open Go.RowKit

set_option maxHeartbeats 1600000 in
theorem filters_tail (p : ByteArray) (a : Option Addr) (n c : Nat) (l : List ByteArray) (w : World) (hn : n = l.length) (hp : p.size ≤ 2000) (hl : n ≤ 200) (hw : Words w.heap.size w (.slice a n c) l) :
    Calls Tryd.prog 4 #[.string p, .slice a n c] w fun e w' => e = .returned (.bool true) ∧ Below w.heap.size w w' := by
  have hf : farB p.size 0 = false := by simp [farB]; omega
  have HF : Hid (∀ W, Calls Tryd.prog 9 #[.string p, .string ⟨#[]⟩] W fun e w' => e = .returned (.bool false) ∧ w' = W) := by
    intro W; rw [← hf]; exact far_any p ⟨#[]⟩ W
  have HW : Hid (n = l.length ∧ Words w.heap.size w (.slice a n c) l) := ⟨hn, hw⟩
  clear hf hw hn
  go_enter Tryd.func4, Tryd.ntmps4
  go_wp2_with fail
  refine (HF.out _).mono ?_
  rintro e w' ⟨rfl, hww⟩
  rw [hww]
  clear hww w'
  go_wp2
  go_loop [17] (fun vi => ∃ k : Nat, k ≤ n ∧ vi = .int .i64 k ∧ Hid (∀ i, i < k → (h : i < l.length) → (l[i]).size ≤ 2000)) (fun vi => n - (intOf vi).toNat)
  case atStart => exact ⟨0, Nat.zero_le _, rfl, fun i hi => by omega⟩
  case round =>
    obtain ⟨k, hk, rfl, HS⟩ := hrel
    by_cases hlt : k < n
    · have hkl : k < l.length := by rw [← HW.out.1]; exact hlt
      have hil : (k : Int) < (n : Int) := by omega
      have hx0 : ∃ b o, a = some ⟨b, o, none⟩ ∧ w.cell? ⟨b, o + k, none⟩ = some (.string l[k]) := by
        obtain ⟨a', n', c', e1, e2, e3⟩ := HW.out.2
        obtain ⟨b, o, f1, _, f3⟩ := e3 k hkl
        simp only [Value.slice.injEq] at e1
        exact ⟨b, o, by rw [e1.1]; exact f1, f3⟩
      obtain ⟨b, o, rfl, hcx⟩ := hx0
      obtain ⟨x, hxe⟩ : ∃ x, x = l[k] := ⟨_, rfl⟩
      rw [← hxe] at hcx
      have HX : Hid (x = l[k]) := hxe
      clear hxe
      cases hf : farB p.size x.size
      · have hxs : x.size ≤ 2000 := by simp [farB] at hf; omega
        have HF2 : Hid (∀ W, Calls Tryd.prog 9 #[.string p, .string x] W fun e w' => e = .returned (.bool false) ∧ W = w') := by
          intro W; rw [← hf]; exact (far_any p x W).mono fun e w' h => ⟨h.1, h.2.symm⟩
        clear hf
        go_wp2_with fail
        refine (HF2.out _).mono ?_
        rintro e w' ⟨rfl, rfl⟩
        go_wp2
        go_round
        case rel =>
          refine ⟨k + 1, by omega, by go_num, ?_⟩
          intro i h1 h2
          by_cases hik : i = k
          · subst hik; rw [← HX.out]; exact hxs
          · exact HS.out i (by omega) h2
        case measure => simp [intOf]; omega
      · have HF2 : Hid (∀ W, Calls Tryd.prog 9 #[.string p, .string x] W fun e w' => e = .returned (.bool true) ∧ W = w') := by
          intro W; rw [← hf]; exact (far_any p x W).mono fun e w' h => ⟨h.1, h.2.symm⟩
        clear hf
        go_wp2_with fail
        refine (HF2.out _).mono ?_
        rintro e w' ⟨rfl, rfl⟩
        go_wp2_with fail
        refine (alive_any _).mono ?_
        rintro e w1 ⟨rfl, hb1⟩
        go_wp2
        go_ret
        exact ⟨rfl, hb1⟩
    · obtain rfl : k = n := by omega
      have HZ : Hid (∀ i (h : i < l.length), (l[i]).size ≤ 2000) := fun i h => HS.out i (by rw [HW.out.1]; exact h) h
      have hl' : l.length ≤ 200 := by rw [← HW.out.1]; exact hl
      clear HS
      go_wp2_with fail
      refine (filter_any p l _ _ hp hl' HZ.out HW.out.2).mono ?_
      rintro e w1 ⟨v1, rfl, hv1, hb1⟩
      have HV1 : Hid (Words w1.heap.size w1 v1 (l.filter (hit p))) := hv1
      have HW1 : Hid (Words w1.heap.size w1 (.slice a k c) l) := (HW.out.2.below hb1).mono hb1.size
      have s1 := hb1.size
      clear hv1
      go_wp2_with fail
      refine (reffilter_any p l _ _ hp hl' HZ.out HW1.out).mono ?_
      rintro e w2 ⟨v2, rfl, hv2, hb2⟩
      have HV2 : Hid (Words w1.heap.size w2 v1 (l.filter (hit p)) ∧ Words w2.heap.size w2 v2 (l.filter (hit p))) := ⟨HV1.out.below hb2, hv2⟩
      have s2 := hb2.size
      have hfl : (l.filter (hit p)).length ≤ 1000000 := by have := List.length_filter_le (hit p) l; omega
      clear hv2
      go_wp2_with fail
      refine (same_any _ v1 v2 _ _ _ hfl HV2.out.1 HV2.out.2).mono ?_
      rintro e w3 ⟨rfl, m3, hw3⟩
      have hb3 : Below w2.heap.size w2 w3 := by rw [hw3]; exact below_drewN (Below.refl _ _) _
      have s3 := hb3.size
      clear hw3 hfl
      obtain ⟨q, hq⟩ : ∃ q : ByteArray, q = ⟨(G.qt p.data.toList).toArray⟩ := ⟨_, rfl⟩
      have HQ1 : Hid (∀ W, Calls Tryd.prog 18 #[.string p] W fun e w' => e = .returned (.string q) ∧ Below W.heap.size W w') := by
        intro W; rw [hq]; exact quote_any p W (by omega)
      have HQ2 : Hid (∀ W, Calls Tryd.prog 19 #[.string p] W fun e w' => e = .returned (.string q) ∧ Below W.heap.size W w') := by
        intro W; rw [hq]; exact refquote_any p W (by omega)
      clear hq
      go_wp2_with fail
      refine (HQ1.out _).mono ?_
      rintro e w4 ⟨rfl, hb4⟩
      have s4 := hb4.size
      go_wp2_with fail
      refine (HQ2.out _).mono ?_
      rintro e w5 ⟨rfl, hb5⟩
      have s5 := hb5.size
      go_wp2_with fail
      refine (alive_any _).mono ?_
      rintro e w6 ⟨rfl, hb6⟩
      go_wp2
      go_ret
      exact ⟨rfl, ((((hb1.trans (hb2.mono s1)).trans (hb3.mono (by omega))).trans (hb4.mono (by omega))).trans (hb5.mono (by omega))).trans (hb6.mono (by omega))⟩

set_option maxHeartbeats 800000 in
theorem filters_far (p : ByteArray) (a : Option Addr) (n c : Nat) (w : World) (h : 2000 < p.size ∨ 200 < n) :
    Calls Tryd.prog 4 #[.string p, .slice a n c] w fun e w' => e = .returned (.bool true) ∧ Below w.heap.size w w' := by
  cases hf : farB p.size 0
  · have hn : 200 < n := by simp [farB] at hf; omega
    have hnI : (200 : Int) < (n : Int) := by omega
    have HF : Hid (∀ W, Calls Tryd.prog 9 #[.string p, .string ⟨#[]⟩] W fun e w' => e = .returned (.bool false) ∧ W = w') := by
      intro W; rw [← hf]; exact (far_any p ⟨#[]⟩ W).mono fun e w' h => ⟨h.1, h.2.symm⟩
    clear hf h
    go_enter Tryd.func4, Tryd.ntmps4
    go_wp2_with fail
    refine (HF.out _).mono ?_
    rintro e w' ⟨rfl, rfl⟩
    go_wp2_with fail
    refine (alive_any _).mono ?_
    rintro e w1 ⟨rfl, hb1⟩
    go_wp2
    go_ret
    exact ⟨rfl, hb1⟩
  · have HF : Hid (∀ W, Calls Tryd.prog 9 #[.string p, .string ⟨#[]⟩] W fun e w' => e = .returned (.bool true) ∧ W = w') := by
      intro W; rw [← hf]; exact (far_any p ⟨#[]⟩ W).mono fun e w' h => ⟨h.1, h.2.symm⟩
    clear hf h
    go_enter Tryd.func4, Tryd.ntmps4
    go_wp2_with fail
    refine (HF.out _).mono ?_
    rintro e w' ⟨rfl, rfl⟩
    go_wp2_with fail
    refine (alive_any _).mono ?_
    rintro e w1 ⟨rfl, hb1⟩
    go_wp2
    go_ret
    exact ⟨rfl, hb1⟩

theorem filters_law (p : ByteArray) (a : Option Addr) (n c : Nat) (l : List ByteArray) (w : World) (hn : n = l.length) (hw : Words w.heap.size w (.slice a n c) l) :
    Calls Tryd.prog 4 #[.string p, .slice a n c] w fun e w' => e = .returned (.bool true) ∧ Below w.heap.size w w' := by
  by_cases h : 2000 < p.size ∨ 200 < n
  · exact filters_far p a n c w h
  · exact filters_tail p a n c l w hn (by omega) (by omega) hw

theorem cell_here {W : World} {a : Addr} {v : Value} (h : W.cell? a = some v) : a.block < W.heap.size ∧ a.spot = none := by
  unfold World.cell? at h
  cases hb : W.heap[a.block]? with
  | none => rw [hb] at h; simp at h
  | some o =>
    refine ⟨(Array.getElem?_eq_some_iff.1 hb).1, ?_⟩
    rw [hb] at h
    cases o <;> simp at h
    exact h.1
theorem words_nil {W : World} {a0 : Option Addr} {len cap : Nat} (h : Value.slice a0 len cap = .slice none 0 0) : len = ([] : List ByteArray).length ∧ Words W.heap.size W (.slice a0 len cap) [] := by
  simp only [Value.slice.injEq] at h
  obtain ⟨rfl, rfl, rfl⟩ := h
  exact ⟨rfl, none, 0, 0, rfl, rfl, fun i hi => by simp at hi⟩
theorem words_some {W : World} {a0 : Option Addr} {len cap : Nat} {a : Addr} {len' cap' : Nat} {ss : List ByteArray} (h : Value.slice a0 len cap = .slice (some a) len' cap') (hl : len' ≤ cap') (hz : ss.length = cap')
    (hcell : ∀ i, i < ss.length → W.cell? (a.add i) = some (.string (ss.getD i ByteArray.empty))) : len = (ss.take len').length ∧ Words W.heap.size W (.slice a0 len cap) (ss.take len') := by
  simp only [Value.slice.injEq] at h
  obtain ⟨rfl, rfl, rfl⟩ := h
  have hlen : (ss.take len).length = len := by simp; omega
  refine ⟨hlen.symm, some a, len, cap, rfl, hlen.symm, fun i hi => ?_⟩
  have hi' : i < len := by omega
  have hc := hcell i (by omega)
  have hg : ss.getD i ByteArray.empty = (ss.take len)[i] := by
    rw [List.getElem_take, List.getD_eq_getElem?_getD, List.getElem?_eq_getElem (by omega)]; rfl
  rw [hg] at hc
  have h1 := (cell_here hc).1
  obtain ⟨b, o, sp⟩ := a
  have hsp : sp = none := by
    have h0 := (cell_here (hcell 0 (by omega))).2
    simpa [Addr.add] using h0
  subst hsp
  refine ⟨b, o, rfl, ?_, ?_⟩
  · by_cases h0 : i = 0
    · subst h0; simpa [Addr.add] using h1
    · simpa [Addr.add, h0] using h1
  · by_cases h0 : i = 0
    · subst h0; simpa [Addr.add] using hc
    · simpa [Addr.add, h0] using hc
end Go.Proofs.YtpelefbddbghaaaDoor
