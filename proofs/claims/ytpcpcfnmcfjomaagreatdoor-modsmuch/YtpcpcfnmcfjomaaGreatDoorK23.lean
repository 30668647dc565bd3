/-
  DQ14
-/
import Derived.Test.YtpcpcfnmcfjomaaGreatDoorK22
namespace Go.Proofs.YtpcpcfnmcfjomaaGreatDoor.DQ
open Go.RowKit Go.Shelf
open WD (joined)
def pickedA (m : Dm) (l : List ByteArray) : List ByteArray :=
  if m.way = 35 then [ba (Lib.decDigits l.length)]
  else if m.way = 42 then (if l.length = 0 then [] else [joined l])
  else if ¬ (1 ≤ nthI m.frm l.length ∧ nthI m.frm l.length ≤ l.length) ∨ (m.way = 114 ∧ ¬ (1 ≤ nthI m.upto l.length ∧ nthI m.upto l.length ≤ l.length)) then []
  else if m.way = 114 then
    (if nthI m.upto l.length < nthI m.frm l.length then ((l.take (nthI m.frm l.length).toNat).drop (nthI m.upto l.length - 1).toNat).reverse
      else (l.take (nthI m.upto l.length).toNat).drop (nthI m.frm l.length - 1).toNat)
  else (l.take (nthI m.frm l.length).toNat).drop (nthI m.frm l.length - 1).toNat
theorem ws_one (w : World) (x : ByteArray) : Ws (w.alloc (.cells #[.string x] 9)).heap.size (w.alloc (.cells #[.string x] 9)) (.slice (some ⟨w.heap.size, 0, none⟩) 1 1) [x] :=
  ws_of (l := [x]) (b := w.heap.size) (o := 0) (c := 1) (by simp) (Nat.le_refl _) fun i hi => by
    obtain rfl : i = 0 := by simpa using hi
    exact cell_in (cs := #[.string x]) (T := 9) (Cd.heap_new _ _) 0 rfl
set_option maxRecDepth 20000 in
set_option maxHeartbeats 1600000 in
theorem picked_count (kd a b : ByteArray) (f t : Int) (v : Value) (l : List ByteArray) (w : World) (hl : l.length ≤ 1000000) (hv : Ws w.heap.size w v l) :
    Calls Tryz.prog 34 #[.agg (dmA kd a b f t 35), v] w (ListPost w (pickedA ⟨kd, a, b, f, t, 35⟩ l)) := by
  obtain ⟨W1, hW1⟩ : ∃ W1, W1 = w.alloc (.cells (dmA kd a b f t 35) 53) := ⟨_, rfl⟩
  have hbx : W1.heap[w.heap.size]? = some (.cells (dmA kd a b f t 35) 53 (0, 0)) := by rw [hW1]; exact Cd.heap_new _ _
  have HB : Hid (Below w.heap.size w W1) := by rw [hW1]; exact (Below.refl _ _).alloc (Nat.le_refl _) _
  have c5 := cell_in hbx 5 rfl
  have c6 := cell_in hbx 6 rfl
  have c7 := cell_in hbx 7 rfl
  obtain ⟨ad, c, rfl, ⟨hnc, hnn⟩, hcl⟩ := hv
  obtain ⟨n, hn⟩ : ∃ n, n = l.length := ⟨_, rfl⟩
  rw [← hn] at hl ⊢
  have HC : Hid (∀ W, Calls Tryz.prog 69 #[.int .i64 (n : Int)] W fun e w' => e = .returned (.string (ba (Lib.decDigits n))) ∧ Below W.heap.size W w') := fun W => digits_any n (by omega) W
  have HR : Hid (pickedA ⟨kd, a, b, f, t, 35⟩ l = [ba (Lib.decDigits n)]) := by unfold Hid pickedA; rw [if_pos rfl, hn]
  clear hbx hn hcl hnn hnc
  go_enter Tryz.func34, Tryz.ntmps34
  go_upto_region 1 with fail
  rw [← hW1]
  clear hW1
  go_wp2_with fail
  refine (HC.out _).mono ?_
  rintro e w2 ⟨rfl, hb2⟩
  have HB2 : Hid (Below w.heap.size w w2) := bt3 HB.out hb2
  clear hb2
  generalize ba (Lib.decDigits n) = r at HR ⊢
  go_wp2
  go_ret
  exact ⟨_, rfl, by rw [HR.out]; exact ws_one w2 r, HB2.out.alloc HB2.out.size _⟩
set_option maxRecDepth 20000 in
set_option maxHeartbeats 1600000 in
theorem picked_join (kd a b : ByteArray) (f t : Int) (v : Value) (l : List ByteArray) (w : World) (hl : l.length ≤ 1000000) (hj : (joined l).size ≤ 8000000) (hv : Ws w.heap.size w v l) :
    Calls Tryz.prog 34 #[.agg (dmA kd a b f t 42), v] w (ListPost w (pickedA ⟨kd, a, b, f, t, 42⟩ l)) := by
  have hv0 := hv
  obtain ⟨W1, hW1⟩ : ∃ W1, W1 = w.alloc (.cells (dmA kd a b f t 42) 53) := ⟨_, rfl⟩
  have hbx : W1.heap[w.heap.size]? = some (.cells (dmA kd a b f t 42) 53 (0, 0)) := by rw [hW1]; exact Cd.heap_new _ _
  have HB : Hid (Below w.heap.size w W1) := by rw [hW1]; exact (Below.refl _ _).alloc (Nat.le_refl _) _
  have c5 := cell_in hbx 5 rfl
  have c6 := cell_in hbx 6 rfl
  have c7 := cell_in hbx 7 rfl
  obtain ⟨ad, c, rfl, ⟨hnc, hnn⟩, hcl⟩ := hv
  obtain ⟨n, hn⟩ : ∃ n, n = l.length := ⟨_, rfl⟩
  rw [← hn] at hl ⊢
  have HC : Hid (∀ W, Below w.heap.size w W → Calls Tryz.prog 33 #[.slice ad n c] W fun e w' => e = .returned (.string (joined l)) ∧ Below W.heap.size W w') := fun W hW => rjoin_any ad n c l W (by omega) hj (by rw [hn]; exact (hv0.on hW).words)
  have HR : Hid (pickedA ⟨kd, a, b, f, t, 42⟩ l = if n = 0 then [] else [joined l]) := by unfold Hid pickedA; rw [if_neg (show ¬ (42 : Int) = 35 by decide), if_pos rfl, hn]
  clear hbx hn hcl hnn hnc hv0
  by_cases h0 : n = 0
  · have HR2 : Hid (pickedA ⟨kd, a, b, f, t, 42⟩ l = []) := by unfold Hid; rw [HR.out, if_pos h0]
    subst h0
    clear HR
    go_enter Tryz.func34, Tryz.ntmps34
    go_upto_region 1 with fail
    rw [← hW1]
    clear hW1
    go_wp2_with fail
    go_ret
    exact ⟨_, rfl, by rw [HR2.out]; exact ws_nil _ _, HB.out⟩
  · have HR2 : Hid (pickedA ⟨kd, a, b, f, t, 42⟩ l = [joined l]) := by unfold Hid; rw [HR.out, if_neg h0]
    have h0i : ((n : Int) == 0) = false := by simp; omega
    clear HR h0
    go_enter Tryz.func34, Tryz.ntmps34
    go_upto_region 1 with fail
    rw [← hW1]
    clear hW1
    go_wp2_with fail
    refine (HC.out _ HB.out).mono ?_
    rintro e w2 ⟨rfl, hb2⟩
    have HB2 : Hid (Below w.heap.size w w2) := bt3 HB.out hb2
    clear hb2
    generalize joined l = r at HR2 ⊢
    go_wp2
    go_ret
    exact ⟨_, rfl, by rw [HR2.out]; exact ws_one w2 r, HB2.out.alloc HB2.out.size _⟩
set_option maxRecDepth 20000 in
set_option maxHeartbeats 1600000 in
theorem picked_one (kd a b : ByteArray) (f t : Int) (v : Value) (l : List ByteArray) (w : World) (hl : l.length ≤ 1000000) (hf1 : -10000000 ≤ f) (hf2 : f ≤ 10000000) (hv : Ws w.heap.size w v l) :
    Calls Tryz.prog 34 #[.agg (dmA kd a b f t 110), v] w (ListPost w (pickedA ⟨kd, a, b, f, t, 110⟩ l)) := by
  have hv0 := hv
  obtain ⟨W1, hW1⟩ : ∃ W1, W1 = w.alloc (.cells (dmA kd a b f t 110) 53) := ⟨_, rfl⟩
  have hbx : W1.heap[w.heap.size]? = some (.cells (dmA kd a b f t 110) 53 (0, 0)) := by rw [hW1]; exact Cd.heap_new _ _
  have HB : Hid (Below w.heap.size w W1) := by rw [hW1]; exact (Below.refl _ _).alloc (Nat.le_refl _) _
  have c5 := cell_in hbx 5 rfl
  have c6 := cell_in hbx 6 rfl
  have c7 := cell_in hbx 7 rfl
  obtain ⟨ad, c, rfl, ⟨hnc, hnn⟩, hcl⟩ := hv
  obtain ⟨n, hn⟩ : ∃ n, n = l.length := ⟨_, rfl⟩
  rw [← hn] at hl ⊢
  have HN1 : Hid (∀ W, Calls Tryz.prog 70 #[.int .i64 f, .int .i64 n] W fun e w' => e = .returned (.tuple #[.int .i64 (nthI f n - 1), .bool (decide (1 ≤ nthI f n ∧ nthI f n ≤ n))]) ∧ W = w') := fun W => nth_any f n W hf1 hf2 hl
  have HR : Hid (pickedA ⟨kd, a, b, f, t, 110⟩ l = if ¬ (1 ≤ nthI f n ∧ nthI f n ≤ n) ∨ ((110 : Int) = 114 ∧ ¬ (1 ≤ nthI t n ∧ nthI t n ≤ n)) then [] else
      if (110 : Int) = 114 then (if nthI t n < nthI f n then ((l.take (nthI f n).toNat).drop (nthI t n - 1).toNat).reverse else (l.take (nthI t n).toNat).drop (nthI f n - 1).toNat)
      else (l.take (nthI f n).toNat).drop (nthI f n - 1).toNat) := by
    unfold Hid pickedA
    rw [if_neg (show ¬ (110 : Int) = 35 by decide), if_neg (show ¬ (110 : Int) = 42 by decide), hn]
  have HV : Hid (Ws w.heap.size w (.slice ad n c) l ∧ n = l.length) := ⟨by rw [hn]; exact hv0, hn⟩
  obtain ⟨x, hx⟩ : ∃ x, x = nthI f n := ⟨_, rfl⟩
  rw [← hx] at HN1 HR
  clear hx hbx hv0 hnn hn hf1 hf2
  by_cases h1 : 1 ≤ x ∧ x ≤ (n : Int)
  · have e1 : decide (1 ≤ x ∧ x ≤ (n : Int)) = true := decide_eq_true h1
    obtain ⟨lo, hlo⟩ : ∃ lo : Nat, x = (lo : Int) + 1 := ⟨(x - 1).toNat, by omega⟩
    have hlon : lo < n := by omega
    have z1 : x - 1 = (lo : Int) := by omega
    have zx : x.toNat = lo + 1 := by omega
    obtain ⟨b0, o0, rfl, hb0, hzz⟩ := hcl 0 (by rw [← HV.out.2]; omega)
    have HV2 : Hid (∀ (i : Nat) (h : i < l.length), ∃ b o, (some (⟨b0, o0, none⟩ : Addr)) = some ⟨b, o, none⟩ ∧ b < w.heap.size ∧ w.cell? ⟨b, o + i, none⟩ = some (.string l[i])) := hcl
    have HR2 : Hid (pickedA ⟨kd, a, b, f, t, 110⟩ l = (l.take (lo + 1)).drop lo) := by unfold Hid; rw [HR.out, if_neg (by rintro (h | h); exact h h1; exact absurd h.1 (by decide)), if_neg (by decide), zx, z1]; rfl
    rw [z1] at HN1
    have HSEG : Hid (Ws W1.heap.size W1 (.slice (some ⟨b0, o0 + lo, none⟩) 1 (c - lo)) ((l.take (lo + 1)).drop lo) ∧ ((l.take (lo + 1)).drop lo).length ≤ 1000000) := by
      have el : ((l.take (lo + 1)).drop lo).length = lo + 1 - lo := by rw [List.length_drop, List.length_take, ← HV.out.2]; omega
      have hb1 := HB.out.size
      refine ⟨?_, by omega⟩
      have := ws_of (B := W1.heap.size) (W := W1) (b := b0) (o := o0 + lo) (c := c - lo) (l := (l.take (lo + 1)).drop lo) (Nat.lt_of_lt_of_le hb0 hb1) (by have hq2 : n = l.length := HV.out.2; omega) (fun i hi' => by
        rw [HB.out.cell (p := ⟨b0, o0 + lo + i, none⟩) hb0, List.getElem_drop, List.getElem_take, Nat.add_assoc]
        obtain ⟨b', o', e1', _, e3⟩ := HV2.out (lo + i) (by have hq : i < lo + 1 - lo := el ▸ hi'; have hq2 : n = l.length := HV.out.2; omega)
        simp only [Option.some.injEq, Addr.mk.injEq, and_true] at e1'
        obtain ⟨rfl, rfl⟩ := e1'
        exact e3)
      rw [el, show lo + 1 - lo = 1 by omega] at this
      exact this
    have hnl : n = l.length := HV.out.2
    have s0 : (0 : Int) ≤ (lo : Int) := by omega
    have s1 : (lo : Int) ≤ (lo : Int) + 1 := by omega
    have s2 : (lo : Int) + 1 ≤ (c : Int) := by omega
    have s3 : ((lo : Int) + 1).toNat = lo + 1 := by omega
    clear hnl
    have s4 : ¬ c = lo := by have hnl : n = l.length := HV.out.2; omega
    have s5 : ¬ lo = c := fun h => s4 h.symm
    clear hcl HR h1 hlo z1 hzz zx
    go_enter Tryz.func34, Tryz.ntmps34
    go_upto_region 1 with fail
    rw [← hW1]
    clear hW1
    go_wp2_with fail
    refine (HN1.out _).mono ?_
    rintro e w2 ⟨rfl, rfl⟩
    rw [e1]
    obtain ⟨R, hR⟩ : ∃ R, R = (l.take (lo + 1)).drop lo := ⟨_, rfl⟩
    rw [← hR] at HSEG HR2
    have HRE : Hid ([] ++ R = R) := by unfold Hid; simp
    clear hR
    go_wp2_with (at_builtin; refine append_wr rfl _ _ rfl W1.heap.size W1.heap.size (.slice none 0 0) (.slice (some ⟨b0, o0 + lo, none⟩) 1 (c - lo)) [] R R HRE.out rfl (owns_nil _ _ _ _) rfl HSEG.out.1 (by have := HSEG.out.2; simp; omega) (Nat.le_refl _) ?_)
    intro v3 w3 hown3 hgr3
    have H3 : Hid (Ws w3.heap.size w3 v3 R ∧ Below w.heap.size w w3) := ⟨ws_owns hown3 (Nat.le_refl _), bt3 HB.out ((Below.refl _ _).grown hgr3 (Nat.le_refl _) (fun j hj => by simp [Value.ownBlock] at hj))⟩
    clear hown3 hgr3
    go_wp2_with fail
    go_ret
    exact ⟨_, rfl, by rw [HR2.out]; exact H3.out.1, H3.out.2⟩
  · have e1 : decide (1 ≤ x ∧ x ≤ (n : Int)) = false := decide_eq_false h1
    have HR2 : Hid (pickedA ⟨kd, a, b, f, t, 110⟩ l = []) := by unfold Hid; rw [HR.out, if_pos (.inl h1)]
    clear h1 HR hcl
    go_enter Tryz.func34, Tryz.ntmps34
    go_upto_region 1 with fail
    rw [← hW1]
    clear hW1
    go_wp2_with fail
    refine (HN1.out _).mono ?_
    rintro e w2 ⟨rfl, rfl⟩
    rw [e1]
    go_wp2_with fail
    go_ret
    exact ⟨_, rfl, by rw [HR2.out]; exact ws_nil _ _, HB.out⟩
set_option maxRecDepth 20000 in
set_option maxHeartbeats 1600000 in
theorem picked_two (kd a b : ByteArray) (f t : Int) (v : Value) (l : List ByteArray) (w : World) (hl : l.length ≤ 1000000) (hf1 : -10000000 ≤ f) (hf2 : f ≤ 10000000) (ht1 : -10000000 ≤ t) (ht2 : t ≤ 10000000) (hv : Ws w.heap.size w v l) :
    Calls Tryz.prog 34 #[.agg (dmA kd a b f t 114), v] w (ListPost w (pickedA ⟨kd, a, b, f, t, 114⟩ l)) := by
  have hv0 := hv
  obtain ⟨W1, hW1⟩ : ∃ W1, W1 = w.alloc (.cells (dmA kd a b f t 114) 53) := ⟨_, rfl⟩
  have hbx : W1.heap[w.heap.size]? = some (.cells (dmA kd a b f t 114) 53 (0, 0)) := by rw [hW1]; exact Cd.heap_new _ _
  have HB : Hid (Below w.heap.size w W1) := by rw [hW1]; exact (Below.refl _ _).alloc (Nat.le_refl _) _
  have c5 := cell_in hbx 5 rfl
  have c6 := cell_in hbx 6 rfl
  have c7 := cell_in hbx 7 rfl
  obtain ⟨ad, c, rfl, ⟨hnc, hnn⟩, hcl⟩ := hv
  obtain ⟨n, hn⟩ : ∃ n, n = l.length := ⟨_, rfl⟩
  rw [← hn] at hl ⊢
  have HN1 : Hid (∀ W, Calls Tryz.prog 70 #[.int .i64 f, .int .i64 n] W fun e w' => e = .returned (.tuple #[.int .i64 (nthI f n - 1), .bool (decide (1 ≤ nthI f n ∧ nthI f n ≤ n))]) ∧ W = w') := fun W => nth_any f n W hf1 hf2 hl
  have HN2 : Hid (∀ W, Calls Tryz.prog 70 #[.int .i64 t, .int .i64 n] W fun e w' => e = .returned (.tuple #[.int .i64 (nthI t n - 1), .bool (decide (1 ≤ nthI t n ∧ nthI t n ≤ n))]) ∧ W = w') := fun W => nth_any t n W ht1 ht2 hl
  have HR : Hid (pickedA ⟨kd, a, b, f, t, 114⟩ l = if ¬ (1 ≤ nthI f n ∧ nthI f n ≤ n) ∨ ((114 : Int) = 114 ∧ ¬ (1 ≤ nthI t n ∧ nthI t n ≤ n)) then [] else
      if (114 : Int) = 114 then (if nthI t n < nthI f n then ((l.take (nthI f n).toNat).drop (nthI t n - 1).toNat).reverse else (l.take (nthI t n).toNat).drop (nthI f n - 1).toNat)
      else (l.take (nthI f n).toNat).drop (nthI f n - 1).toNat) := by
    unfold Hid pickedA
    rw [if_neg (show ¬ (114 : Int) = 35 by decide), if_neg (show ¬ (114 : Int) = 42 by decide), hn]
  have HV : Hid (Ws w.heap.size w (.slice ad n c) l ∧ n = l.length) := ⟨by rw [hn]; exact hv0, hn⟩
  obtain ⟨x, hx⟩ : ∃ x, x = nthI f n := ⟨_, rfl⟩
  rw [← hx] at HN1 HR
  obtain ⟨y, hy⟩ : ∃ y, y = nthI t n := ⟨_, rfl⟩
  rw [← hy] at HN2 HR
  clear hx hy hbx hv0 hnn hn hf1 hf2 ht1 ht2
  by_cases h1 : 1 ≤ x ∧ x ≤ (n : Int)
  · have e1 : decide (1 ≤ x ∧ x ≤ (n : Int)) = true := decide_eq_true h1
    obtain ⟨lo, hlo⟩ : ∃ lo : Nat, x = (lo : Int) + 1 := ⟨(x - 1).toNat, by omega⟩
    have hlon : lo < n := by omega
    have z1 : x - 1 = (lo : Int) := by omega
    have zx : x.toNat = lo + 1 := by omega
    obtain ⟨b0, o0, rfl, hb0, hzz⟩ := hcl 0 (by rw [← HV.out.2]; omega)
    have HV2 : Hid (∀ (i : Nat) (h : i < l.length), ∃ b o, (some (⟨b0, o0, none⟩ : Addr)) = some ⟨b, o, none⟩ ∧ b < w.heap.size ∧ w.cell? ⟨b, o + i, none⟩ = some (.string l[i])) := hcl
    by_cases h2 : 1 ≤ y ∧ y ≤ (n : Int)
    · have e2 : decide (1 ≤ y ∧ y ≤ (n : Int)) = true := decide_eq_true h2
      obtain ⟨hi, hhi⟩ : ∃ hi : Nat, y = (hi : Int) + 1 := ⟨(y - 1).toNat, by omega⟩
      have hhin : hi < n := by omega
      have z2 : y - 1 = (hi : Int) := by omega
      have zy : y.toNat = hi + 1 := by omega
      have HR1 : Hid (pickedA ⟨kd, a, b, f, t, 114⟩ l = if y < x then ((l.take (lo + 1)).drop hi).reverse else (l.take (hi + 1)).drop lo) := by
        unfold Hid; rw [HR.out, if_neg (by rintro (h | h); exact h h1; exact h.2 h2), if_pos rfl, zx, zy, z1, z2]; rfl
      rw [z1] at HN1
      rw [z2] at HN2
      by_cases hlt : hi < lo
      · have HR2 : Hid (pickedA ⟨kd, a, b, f, t, 114⟩ l = ((l.take (lo + 1)).drop hi).reverse) := by unfold Hid; rw [HR1.out, if_pos (by omega)]
        have g1 : (hi : Int) < (lo : Int) := by omega
        have HSEG : Hid (Ws W1.heap.size W1 (.slice (some ⟨b0, o0 + hi, none⟩) (lo + 1 - hi) (c - hi)) ((l.take (lo + 1)).drop hi) ∧ ((l.take (lo + 1)).drop hi).length ≤ 1000000) := by
          have el : ((l.take (lo + 1)).drop hi).length = lo + 1 - hi := by rw [List.length_drop, List.length_take, ← HV.out.2]; omega
          have hb1 := HB.out.size
          refine ⟨?_, by omega⟩
          have := ws_of (B := W1.heap.size) (W := W1) (b := b0) (o := o0 + hi) (c := c - hi) (l := (l.take (lo + 1)).drop hi) (Nat.lt_of_lt_of_le hb0 hb1) (by have hq2 : n = l.length := HV.out.2; omega) (fun i hi' => by
            rw [HB.out.cell (p := ⟨b0, o0 + hi + i, none⟩) hb0, List.getElem_drop, List.getElem_take, Nat.add_assoc]
            obtain ⟨b', o', e1', _, e3⟩ := HV2.out (hi + i) (by have hq : i < lo + 1 - hi := el ▸ hi'; have hq2 : n = l.length := HV.out.2; omega)
            simp only [Option.some.injEq, Addr.mk.injEq, and_true] at e1'
            obtain ⟨rfl, rfl⟩ := e1'
            exact e3)
          rw [el] at this
          exact this
        have hnl : n = l.length := HV.out.2
        have s0 : (0 : Int) ≤ (hi : Int) := by omega
        have s1 : (hi : Int) ≤ (lo : Int) + 1 := by omega
        have s2 : (lo : Int) + 1 ≤ (c : Int) := by omega
        have s3 : ((lo : Int) + 1).toNat = lo + 1 := by omega
        clear hnl
        have s4 : ¬ c = hi := by have hnl : n = l.length := HV.out.2; omega
        have s5 : ¬ hi = c := fun h => s4 h.symm
        clear hcl HR HR1 h1 h2 hlo z1 hzz zx hhi z2 zy
        go_enter Tryz.func34, Tryz.ntmps34
        go_upto_region 1 with fail
        rw [← hW1]
        clear hW1
        go_wp2_with fail
        refine (HN1.out _).mono ?_
        rintro e w2 ⟨rfl, rfl⟩
        rw [e1]
        go_wp2_with fail
        refine (HN2.out _).mono ?_
        rintro e w2 ⟨rfl, rfl⟩
        rw [e2]
        go_wp2_with fail
        obtain ⟨R, hR⟩ : ∃ R, R = (l.take (lo + 1)).drop hi := ⟨_, rfl⟩
        rw [← hR] at HSEG HR2
        refine (turned_any _ _ _ R _ HSEG.out.1 (by omega)).mono ?_
        rintro e w3 ⟨v3, rfl, hw3, hb3⟩
        have H3 : Hid (Ws w3.heap.size w3 v3 R.reverse ∧ Below w.heap.size w w3) := ⟨hw3, bt3 HB.out hb3⟩
        clear hw3 hb3 hR
        go_wp2_with fail
        go_ret
        exact ⟨_, rfl, by rw [HR2.out]; exact H3.out.1, H3.out.2⟩
      · have HR2 : Hid (pickedA ⟨kd, a, b, f, t, 114⟩ l = (l.take (hi + 1)).drop lo) := by unfold Hid; rw [HR1.out, if_neg (by omega)]
        have g1 : ¬ (hi : Int) < (lo : Int) := by omega
        have HSEG : Hid (Ws W1.heap.size W1 (.slice (some ⟨b0, o0 + lo, none⟩) (hi + 1 - lo) (c - lo)) ((l.take (hi + 1)).drop lo) ∧ ((l.take (hi + 1)).drop lo).length ≤ 1000000) := by
          have el : ((l.take (hi + 1)).drop lo).length = hi + 1 - lo := by rw [List.length_drop, List.length_take, ← HV.out.2]; omega
          have hb1 := HB.out.size
          refine ⟨?_, by omega⟩
          have := ws_of (B := W1.heap.size) (W := W1) (b := b0) (o := o0 + lo) (c := c - lo) (l := (l.take (hi + 1)).drop lo) (Nat.lt_of_lt_of_le hb0 hb1) (by have hq2 : n = l.length := HV.out.2; omega) (fun i hi' => by
            rw [HB.out.cell (p := ⟨b0, o0 + lo + i, none⟩) hb0, List.getElem_drop, List.getElem_take, Nat.add_assoc]
            obtain ⟨b', o', e1', _, e3⟩ := HV2.out (lo + i) (by have hq : i < hi + 1 - lo := el ▸ hi'; have hq2 : n = l.length := HV.out.2; omega)
            simp only [Option.some.injEq, Addr.mk.injEq, and_true] at e1'
            obtain ⟨rfl, rfl⟩ := e1'
            exact e3)
          rw [el] at this
          exact this
        have hnl : n = l.length := HV.out.2
        have s0 : (0 : Int) ≤ (lo : Int) := by omega
        have s1 : (lo : Int) ≤ (hi : Int) + 1 := by omega
        have s2 : (hi : Int) + 1 ≤ (c : Int) := by omega
        have s3 : ((hi : Int) + 1).toNat = hi + 1 := by omega
        clear hnl
        have s4 : ¬ c = lo := by have hnl : n = l.length := HV.out.2; omega
        have s5 : ¬ lo = c := fun h => s4 h.symm
        clear hcl HR HR1 h1 h2 hlo z1 hzz zx hhi z2 zy
        go_enter Tryz.func34, Tryz.ntmps34
        go_upto_region 1 with fail
        rw [← hW1]
        clear hW1
        go_wp2_with fail
        refine (HN1.out _).mono ?_
        rintro e w2 ⟨rfl, rfl⟩
        rw [e1]
        go_wp2_with fail
        refine (HN2.out _).mono ?_
        rintro e w2 ⟨rfl, rfl⟩
        rw [e2]
        obtain ⟨R, hR⟩ : ∃ R, R = (l.take (hi + 1)).drop lo := ⟨_, rfl⟩
        rw [← hR] at HSEG HR2
        have HRE : Hid ([] ++ R = R) := by unfold Hid; simp
        clear hR
        go_wp2_with (at_builtin; refine append_wr rfl _ _ rfl W1.heap.size W1.heap.size (.slice none 0 0) (.slice (some ⟨b0, o0 + lo, none⟩) (hi + 1 - lo) (c - lo)) [] R R HRE.out rfl (owns_nil _ _ _ _) rfl HSEG.out.1 (by have := HSEG.out.2; simp; omega) (Nat.le_refl _) ?_)
        intro v3 w3 hown3 hgr3
        have H3 : Hid (Ws w3.heap.size w3 v3 R ∧ Below w.heap.size w w3) := ⟨ws_owns hown3 (Nat.le_refl _), bt3 HB.out ((Below.refl _ _).grown hgr3 (Nat.le_refl _) (fun j hj => by simp [Value.ownBlock] at hj))⟩
        clear hown3 hgr3
        go_wp2_with fail
        go_ret
        exact ⟨_, rfl, by rw [HR2.out]; exact H3.out.1, H3.out.2⟩
    · have e2 : decide (1 ≤ y ∧ y ≤ (n : Int)) = false := decide_eq_false h2
      have HR2 : Hid (pickedA ⟨kd, a, b, f, t, 114⟩ l = []) := by unfold Hid; rw [HR.out, if_pos (.inr ⟨rfl, h2⟩)]
      clear hcl HR h1 h2 hlo z1 hzz zx
      go_enter Tryz.func34, Tryz.ntmps34
      go_upto_region 1 with fail
      rw [← hW1]
      clear hW1
      go_wp2_with fail
      refine (HN1.out _).mono ?_
      rintro e w2 ⟨rfl, rfl⟩
      rw [e1]
      go_wp2_with fail
      refine (HN2.out _).mono ?_
      rintro e w2 ⟨rfl, rfl⟩
      rw [e2]
      go_wp2_with fail
      go_ret
      exact ⟨_, rfl, by rw [HR2.out]; exact ws_nil _ _, HB.out⟩
  · have e1 : decide (1 ≤ x ∧ x ≤ (n : Int)) = false := decide_eq_false h1
    have HR2 : Hid (pickedA ⟨kd, a, b, f, t, 114⟩ l = []) := by unfold Hid; rw [HR.out, if_pos (.inl h1)]
    clear h1 HR hcl
    cases e2 : decide (1 ≤ y ∧ y ≤ (n : Int))
    all_goals
      go_enter Tryz.func34, Tryz.ntmps34
      go_upto_region 1 with fail
      rw [← hW1]
      clear hW1
      go_wp2_with fail
      refine (HN1.out _).mono ?_
      rintro e w2 ⟨rfl, rfl⟩
      rw [e1]
      go_wp2_with fail
      refine (HN2.out _).mono ?_
      rintro e w2 ⟨rfl, rfl⟩
      rw [e2]
      go_wp2_with fail
      go_ret
      exact ⟨_, rfl, by rw [HR2.out]; exact ws_nil _ _, HB.out⟩
end Go.Proofs.YtpcpcfnmcfjomaaGreatDoor.DQ
