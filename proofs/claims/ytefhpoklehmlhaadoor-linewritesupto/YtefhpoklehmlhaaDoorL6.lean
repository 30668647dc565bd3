/-
  What Same of the document's package answers, and that the program is alive.
-/
import Derived.Test.YtefhpoklehmlhaaDoorL5
namespace Go.Proofs.YtefhpoklehmlhaaDoor
open Go.RowKit Go.Shelf

def SamePost (l m : List Lz) (w : World) (e : Ending) (w' : World) : Prop := ∃ (b : Bool), e = .returned (.bool b) ∧ (b = true ↔ l = m) ∧ Below w.heap.size w w'

set_option maxRecDepth 20000 in
set_option maxHeartbeats 800000 in
theorem rsame_any (v1 v2 : Value) (l m : List Lz) (B : Nat) (w : World) (hl : l.length ≤ 4000000) (hm : m.length ≤ 4000000) (h1 : LZ B w v1 l) (h2 : LZ B w v2 m) :
    Calls Tryd.prog 15 #[v1, v2] w (SamePost l m w) := by
  obtain ⟨a1, c1, rfl, hc1⟩ := h1.slice
  obtain ⟨a2, c2, rfl, hc2⟩ := h2.slice
  obtain ⟨n, hn⟩ : ∃ n, n = l.length := ⟨_, rfl⟩
  obtain ⟨n2, hn2⟩ : ∃ n, n = m.length := ⟨_, rfl⟩
  rw [← hn] at hl hc1 h1
  rw [← hn2] at hm hc2 h2
  have HW : Hid (n = l.length ∧ n2 = m.length ∧ LZ B w (.slice a1 n c1) l ∧ LZ B w (.slice a2 n2 c2) m) := ⟨hn, hn2, h1, h2⟩
  rw [← hn, ← hn2]
  clear hn hn2 h1 h2
  by_cases hne : n = n2
  · subst hne
    go_enter Tryd.func15, Tryd.ntmps15
    go_wp2
    go_loopw [5] (fun vi wr => ∃ k q : Nat, k ≤ n ∧ vi = .int .i64 (k : Int) ∧ wr = w.drewN q ∧ Hid (l.take k = m.take k)) (fun vi _ => n - (intOf vi).toNat)
    case atStart => exact ⟨0, 0, Nat.zero_le _, rfl, rfl, by simp [Hid]⟩
    case round =>
      obtain ⟨k, q, hk, rfl, rfl, HT⟩ := hrel
      by_cases hlt : k < n
      · have hil : (k : Int) < (n : Int) := by omega
        have hkl : k < l.length := by rw [← HW.out.1]; exact hlt
        have hkm : k < m.length := by rw [← HW.out.2.1]; exact hlt
        obtain ⟨b, o, rfl, hbB, d0, d1, d2⟩ := HW.out.2.2.1.pick (List.getElem?_eq_getElem hkl)
        obtain ⟨b', o', rfl, hbB', d0', d1', d2'⟩ := HW.out.2.2.2.pick (List.getElem?_eq_getElem hkm)
        have hne := neq52 l[k].text m[k].text l[k].at_ m[k].at_ l[k].cmd m[k].cmd
        have HS : Hid (sameZ l[k] m[k] = (l[k].text == m[k].text && (l[k].at_ == m[k].at_ && l[k].cmd == m[k].cmd))) := rfl
        have HTl : Hid (l.take (k + 1) = l.take k ++ [l[k]]) := List.take_succ_eq_append_getElem hkl
        have HTm : Hid (m.take (k + 1) = m.take k ++ [m[k]]) := List.take_succ_eq_append_getElem hkm
        have HL : Hid (l[k]? = some l[k] ∧ m[k]? = some m[k]) := ⟨List.getElem?_eq_getElem hkl, List.getElem?_eq_getElem hkm⟩
        obtain ⟨x, hx⟩ : ∃ x, x = l[k] := ⟨_, rfl⟩
        obtain ⟨y, hy⟩ : ∃ y, y = m[k] := ⟨_, rfl⟩
        rw [← hx] at d0 d1 d2 HTl HL
        rw [← hy] at d0' d1' d2' HTm HL
        rw [← hx, ← hy] at hne HS
        clear hx hy
        obtain ⟨xt, xa, xc⟩ := x
        obtain ⟨yt, ya, yc⟩ := y
        simp only at d0 d1 d2 d0' d1' d2' hne
        cases hs : sameZ ⟨xt, xa, xc⟩ ⟨yt, ya, yc⟩ with
        | true =>
          have HT1 : Hid (l.take (k + 1) = m.take (k + 1)) := by unfold Hid; rw [HTl.out, HTm.out, HT.out, (sameZ_iff _ _).1 hs]
          have hse := HS.out
          rw [hs] at hse
          simp only at hse
          rw [← hse] at hne
          clear hse hs HS HTl HTm HL
          simp only [Bool.not_true] at hne
          go_wp2
          go_quiet (fail)
          go_wp2
          go_roundw
          case rel => exact ⟨k + 1, _, by omega, by go_num, rfl, HT1⟩
          case measure => simp [intOf]; omega
        | false =>
          have HNE : Hid (¬ l = m) := fun e => by
            have h := HL.out
            rw [e] at h
            have := h.1.symm.trans h.2
            have h3 := (sameZ_iff ⟨xt, xa, xc⟩ ⟨yt, ya, yc⟩).2 (Option.some.inj this)
            rw [hs] at h3; cases h3
          have hse := HS.out
          rw [hs] at hse
          simp only at hse
          rw [← hse] at hne
          clear hse hs HS HTl HTm HL
          simp only [Bool.not_false] at hne
          go_wp2
          go_quiet (fail)
          go_wp2
          go_ret
          exact ⟨false, rfl, ⟨fun h => (by cases h), fun h => absurd h HNE.out⟩, below_drewN (below_drewN (Below.refl _ _) _) _⟩
      · have HE : Hid (l = m) := by
          have h := HT.out
          have h1 := HW.out.1
          have h2 := HW.out.2.1
          rw [List.take_of_length_le (by omega), List.take_of_length_le (by omega)] at h
          exact h
        go_wp2
        go_ret
        exact ⟨true, rfl, ⟨fun _ => HE.out, fun _ => rfl⟩, below_drewN (Below.refl _ _) _⟩
  · have hni : ¬ (n : Int) = (n2 : Int) := by omega
    have hnb : ((n : Int) == (n2 : Int)) = false := by simpa using hni
    go_enter Tryd.func15, Tryd.ntmps15
    go_wp2
    go_ret
    refine ⟨false, rfl, ⟨fun h => (by cases h), fun h => ?_⟩, Below.refl _ _⟩
    have h1 := HW.out.1
    have h2 := HW.out.2.1
    rw [h] at h1
    exact absurd (h1.trans h2.symm) hne

abbrev lit0 : ByteArray := ⟨#[65, 32, 61, 32, 98, 32, 92, 10, 32, 32, 99, 32, 35, 32, 110, 111, 116, 101, 10, 9, 99, 109, 100, 32, 35, 32, 120, 10]⟩
theorem read_lit : Ln.readL (bl lit0) = ⟨[⟨[65, 32, 61, 32, 98, 32, 32, 99], 1, false⟩, ⟨[99, 109, 100, 32, 35, 32, 120], 3, true⟩], 0, 0⟩ := by kernel_rfl
theorem eq00 (W : World) : Sem.run Tryd.prog (binOp .eql 25 (.agg #[.int .i64 0, .int .i64 0]) (.agg #[.int .i64 0, .int .i64 0])) W = .ok (.bool true) W := by kernel_rfl
def aliveL : List Lz := [⟨⟨#[65, 32, 61, 32, 98, 32, 32, 99]⟩, 1, false⟩, ⟨⟨#[99, 109, 100, 32, 35, 32, 120]⟩, 3, true⟩]

theorem alive_row (w : World) : LZ (w.alloc (.cells #[.string ⟨#[65, 32, 61, 32, 98, 32, 32, 99]⟩, .int .i64 1, .bool false, .string ⟨#[99, 109, 100, 32, 35, 32, 120]⟩, .int .i64 3, .bool true] 52)).heap.size (w.alloc (.cells #[.string ⟨#[65, 32, 61, 32, 98, 32, 32, 99]⟩, .int .i64 1, .bool false, .string ⟨#[99, 109, 100, 32, 35, 32, 120]⟩, .int .i64 3, .bool true] 52)) (.slice (some ⟨w.heap.size, 0, none⟩) 2 2) aliveL := by
  have h := alloc_last w (.cells #[.string ⟨#[65, 32, 61, 32, 98, 32, 32, 99]⟩, .int .i64 1, .bool false, .string ⟨#[99, 109, 100, 32, 35, 32, 120]⟩, .int .i64 3, .bool true] 52)
  refine ⟨_, _, _, rfl, rfl, Nat.le_refl _, fun i x hx => ⟨w.heap.size, 0, rfl, by simp, ?_⟩⟩
  match i, hx with
  | 0, hx => simp [aliveL] at hx; subst hx; exact ⟨cell_in h 0 rfl, cell_in h 1 rfl, cell_in h 2 rfl⟩
  | 1, hx => simp [aliveL] at hx; subst hx; exact ⟨cell_in h 3 rfl, cell_in h 4 rfl, cell_in h 5 rfl⟩
  | i + 2, hx => simp [aliveL] at hx

set_option maxRecDepth 20000 in
set_option maxHeartbeats 800000 in
theorem alive_any (w : World) (hm : Mx w) : Calls Tryd.prog 10 #[] w fun e w' => e = .returned (.bool true) ∧ Below w.heap.size w w' := by
  have HR : Hid (Calls Tryd.prog 9 #[.string lit0] w fun e w' => ∃ v, e = .returned (.tuple #[v, .agg #[.int .i64 0, .int .i64 0]]) ∧ LZ w'.heap.size w' v aliveL ∧ Below w.heap.size w w') :=
    (read_any lit0 w (by decide) hm).mono fun e w' ⟨v, h1, h2, h3⟩ => by
      rw [read_lit] at h1 h2
      refine ⟨v, h1, ?_, h3⟩
      rw [lnsV_lz] at h2
      exact lz_of_owns (l := aliveL) h2 (Nat.le_refl _)
  have HO : Hid (∀ v W, LZ W.heap.size W v aliveL → Calls Tryd.prog 16 #[v] W fun e w' => ∃ v', e = .returned v' ∧ LZ w'.heap.size w' v' aliveL ∧ Below W.heap.size W w') := fun v W h =>
    (ours_any v aliveL W (by decide) h).mono fun e w' ⟨v', h1, h2, h3⟩ => ⟨v', h1, lz_of_owns h2 (Nat.le_refl _), h3⟩
  have HS : Hid (∀ v v' W, LZ W.heap.size W v aliveL → LZ W.heap.size W v' aliveL → Calls Tryd.prog 15 #[v, v'] W fun e w' => e = .returned (.bool true) ∧ Below W.heap.size W w') := fun v v' W h h' =>
    (rsame_any v v' aliveL aliveL _ W (by decide) (by decide) h h').mono fun e w' ⟨b, h1, h2, h3⟩ => ⟨by rw [h1, h2.2 rfl], h3⟩
  clear hm
  go_enter Tryd.func10, Tryd.ntmps10
  go_wp2_with fail
  refine HR.out.mono ?_
  rintro e w1 ⟨v, rfl, h1, h2⟩
  have H1 : Hid (LZ w1.heap.size w1 v aliveL ∧ Below w.heap.size w w1) := ⟨h1, h2⟩
  clear h1 h2
  have he := eq00
  go_wp2_with fail
  refine (HO.out v _ ((H1.out.1.below ((Below.refl w1.heap.size w1).alloc (Nat.le_refl _) _)).mono (by simp))).mono ?_
  rintro e w2 ⟨v2, rfl, h1, h2⟩
  have H2 : Hid (LZ w2.heap.size w2 v2 aliveL ∧ Below w.heap.size w w2) := ⟨h1, below_trans (H1.out.2.alloc H1.out.2.size _) h2 (Nat.le_trans H1.out.2.size (by simp))⟩
  clear h1 h2
  go_wp2_with fail
  refine (HS.out v2 _ _ ((H2.out.1.below ((Below.refl w2.heap.size w2).alloc (Nat.le_refl _) _)).mono (by simp)) (alive_row w2)).mono ?_
  rintro e w3 ⟨rfl, h1⟩
  have H3 : Hid (Below w.heap.size w w3) := below_trans (H2.out.2.alloc H2.out.2.size _) h1 (Nat.le_trans H2.out.2.size (by simp))
  clear h1
  go_wp2_with fail
  go_ret
  exact ⟨rfl, H3⟩
end Go.Proofs.YtefhpoklehmlhaaDoor
