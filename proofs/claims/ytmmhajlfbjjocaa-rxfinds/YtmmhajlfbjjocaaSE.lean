/-
  Where the document's nodes may end; its Find and Is; RxFinds.
-/
import Derived.Test.YtmmhajlfbjjocaaR1
import Derived.Deep.RegionLaw
import Derived.Deep.RegionHeld3
import Derived.Test.YtmmhajlfbjjocaaRxLaw
import Derived.Test.YtmmhajlfbjjocaaPFind
import Derived.Test.YtmmhajlfbjjocaaRC
namespace Go.Proofs.Ytmmhajlfbjjocaa
open Go.RowKit Go.Shelf RxSem


/-- A row of bools, as a slice. -/
def BV (W : World) (v : Value) (l : List Bool) : Prop := ∃ g, v = .slice (some ⟨g, 0, none⟩) l.length l.length ∧ Br g l W
theorem BV.below {W W' : World} {v : Value} {l : List Bool} (h : BV W v l) (hb : Below W.heap.size W W') : BV W' v l := by
  obtain ⟨g, h1, h2⟩ := h
  exact ⟨g, h1, h2.below hb⟩
def bothL (a c : List Bool) (i : Nat) : List Bool := (both a c).take i ++ List.replicate (a.length - i) false
theorem bothL_len (a c : List Bool) (i : Nat) (h : a.length = c.length) (hi : i ≤ a.length) : (bothL a c i).length = a.length := by
  simp [bothL, both_len h]; omega
theorem bothL_set (a c : List Bool) (i : Nat) (x y : Bool) (h : a.length = c.length) (hx : a[i]? = some x) (hy : c[i]? = some y) : (bothL a c i).set i (x || y) = bothL a c (i + 1) := by
  have hi := (List.getElem?_eq_some_iff.1 hx).1
  have hb : (both a c)[i]? = some (x || y) := by unfold both; rw [List.getElem?_zipWith, hx, hy]
  have hbl := both_len h
  apply List.ext_getElem?
  intro j
  rw [List.getElem?_set, bothL_len a c i h (by omega)]
  have key : ∀ i j, i ≤ a.length → (bothL a c i)[j]? = if j < i then (both a c)[j]? else if j < a.length then some false else none := by
    intro i j hi
    unfold bothL
    by_cases hj : j < i
    · rw [List.getElem?_append_left (by simp; omega), List.getElem?_take_of_lt hj, if_pos hj]
    · rw [List.getElem?_append_right (by simp; omega), if_neg hj, List.getElem?_replicate]
      simp only [List.length_take, hbl]
      by_cases hj2 : j < a.length
      · rw [if_pos (by omega), if_pos hj2]
      · rw [if_neg (by omega), if_neg hj2]
  rw [key (i + 1) j (by omega), key i j (by omega)]
  by_cases e : i = j
  · subst e
    rw [if_pos rfl, if_pos hi, if_pos (by omega), hb]
  · rw [if_neg e]
    by_cases h1 : j < i
    · rw [if_pos h1, if_pos (by omega)]
    · rw [if_neg h1, if_neg (show ¬ j < i + 1 by omega)]
set_option maxRecDepth 20000 in
set_option maxHeartbeats 400000 in
theorem both_any (a c : List Bool) (va vc : Value) (w : World) (ha : BV w va a) (hc : BV w vc c) (hl : a.length = c.length) (hs : a.length ≤ 1000) : Calls Try.prog 39 #[va, vc] w fun e w' => ∃ v, e = .returned v ∧ BV w' v (both a c) ∧ Below w.heap.size w w' := by
  obtain ⟨ga, rfl, hA⟩ := ha
  obtain ⟨gc, rfl, hC⟩ := hc
  obtain ⟨n, hn⟩ : ∃ n, n = a.length := ⟨_, rfl⟩
  have hcn : c.length = n := by omega
  have hmk : (Instr.makeSlice 29 (.int .i64 (n : Int)) (.int .i64 (n : Int))).run Try.prog w = .ok (.slice (some ⟨w.heap.size, 0, none⟩) n n) (w.alloc (.cells (boolC (List.replicate n false)) 4)) := make_bool w n (by omega)
  obtain ⟨wa, hwa, hBa, hSa, hka⟩ := one_box w (.cells (boolC (List.replicate n false)) 4)
  rw [← hwa] at hmk
  have hla := hA.lt
  have hlc := hC.lt
  have H0 : Hid (Br w.heap.size (bothL a c 0) wa ∧ Below w.heap.size w wa) := ⟨by unfold bothL; rw [List.take_zero, List.nil_append, Nat.sub_zero, ← hn]; exact hka, hBa⟩
  have HN : Hid (n = a.length ∧ a.length = c.length ∧ Br ga a w ∧ Br gc c w) := ⟨hn, hl, hA, hC⟩
  have hn9 : n ≤ 1000 := by omega
  rw [← hn, hcn]
  clear hwa hka hBa hSa hA hC hn hcn hl
  go_enter Try.func39, Try.ntmps39
  go_wp2_with fail
  go_loopw [6] (fun vi wr => ∃ i : Nat, i ≤ n ∧ vi = .int .i64 (i : Int) ∧ Hid (Br w.heap.size (bothL a c i) wr ∧ Below w.heap.size w wr)) (fun vi _ => n - (intOf vi).toNat)
  case atStart => exact ⟨0, Nat.zero_le _, rfl, H0⟩
  case round =>
    clear H0 hmk
    obtain ⟨i, hi, rfl, HI⟩ := hrel
    by_cases hlt : i < n
    · have hl2 : (i : Int) < (n : Int) := by omega
      have hia : i < a.length := by have := HN.out.1; omega
      have hic : i < c.length := by have := HN.out; omega
      obtain ⟨x, hx⟩ : ∃ x, a[i]? = some x := ⟨_, List.getElem?_eq_getElem hia⟩
      obtain ⟨y, hy⟩ : ∃ y, c[i]? = some y := ⟨_, List.getElem?_eq_getElem hic⟩
      have hAw : Br ga a wr := (HI.out.2.block ga hla).trans HN.out.2.2.1
      have hCw : Br gc c wr := (HI.out.2.block gc hlc).trans HN.out.2.2.2
      have cA := hAw.cell i x hx
      have cC := hCw.cell i y hy
      have fz := HI.out.1.frozen
      have hgl := HI.out.1.lt
      obtain ⟨z, hz⟩ : ∃ z, (bothL a c i)[i]? = some z := ⟨_, List.getElem?_eq_getElem (by rw [bothL_len a c i HN.out.2.1 (by omega)]; omega)⟩
      have cO := HI.out.1.cell i z hz
      have HS : Hid (Br w.heap.size (bothL a c (i + 1)) (wr.setCell ⟨w.heap.size, i, none⟩ (.bool (x || y))) ∧ Below w.heap.size w (wr.setCell ⟨w.heap.size, i, none⟩ (.bool (x || y)))) := by
        have h := HI.out.1.put i (x || y)
        rw [bothL_set a c i x y HN.out.2.1 hx hy] at h
        exact ⟨h, HI.out.2.setCell (Nat.le_refl _) _⟩
      clear hia hic hx hy hAw hCw hz
      cases x with
      | true =>
        go_wp2_with fail
        go_roundw
        case rel => exact ⟨i + 1, by omega, by go_num, HS⟩
        case measure => simp [intOf]; omega
      | false =>
        go_wp2_with fail
        go_roundw
        case rel => exact ⟨i + 1, by omega, by go_num, HS⟩
        case measure => simp [intOf]; omega
    · have hl2 : ¬ (i : Int) < (n : Int) := by omega
      go_wp2_with fail
      go_ret
      have hin : i = n := by omega
      have h := HI.out
      rw [hin, HN.out.1] at h
      have e : bothL a c a.length = both a c := by
        unfold bothL
        rw [List.take_of_length_le (by rw [both_len HN.out.2.1]; exact Nat.le_refl _), Nat.sub_self, List.replicate_zero, List.append_nil]
      rw [e] at h
      exact ⟨_, rfl, ⟨w.heap.size, by rw [both_len HN.out.2.1, ← HN.out.1]; rfl, h.1⟩, h.2⟩
def fromL (N i : Nat) : List Bool := (List.replicate (N + 1) false).set i true
set_option maxRecDepth 20000 in
set_option maxHeartbeats 400000 in
theorem from_any (s : ByteArray) (i : Nat) (w : World) (hs : s.size ≤ 500) (hi : i ≤ s.size) : Calls Try.prog 26 #[.string s, .int .i64 (i : Int)] w fun e w' => ∃ v, e = .returned v ∧ BV w' v (fromL s.size i) ∧ Below w.heap.size w w' := by
  have hmk : (Instr.makeSlice 29 (.int .i64 ((s.size : Int) + 1)) (.int .i64 ((s.size : Int) + 1))).run Try.prog w = .ok (.slice (some ⟨w.heap.size, 0, none⟩) (s.size + 1) (s.size + 1)) (w.alloc (.cells (boolC (List.replicate (s.size + 1) false)) 4)) := by
    have := make_bool w (s.size + 1) (by omega)
    simpa using this
  obtain ⟨wa, hwa, hBa, hSa, hka⟩ := one_box w (.cells (boolC (List.replicate (s.size + 1) false)) 4)
  rw [← hwa] at hmk
  have hB : Br w.heap.size (List.replicate (s.size + 1) false) wa := hka
  have fz := hB.frozen
  have hl := hB.lt
  have c0 := hB.cell i false (by rw [List.getElem?_replicate, if_pos (by omega)])
  have hi2 : (i : Int) < (s.size : Int) + 1 := by omega
  have HS : Hid (Br w.heap.size (fromL s.size i) (wa.setCell ⟨w.heap.size, i, none⟩ (.bool true)) ∧ Below w.heap.size w (wa.setCell ⟨w.heap.size, i, none⟩ (.bool true))) := ⟨hB.put i true, hBa.setCell (Nat.le_refl _) _⟩
  clear hwa hBa hSa hka hB
  go_enter Try.func26, Try.ntmps26
  go_wp2_with fail
  go_ret
  exact ⟨_, rfl, ⟨w.heap.size, by simp [fromL], HS.out.1⟩, HS.out.2⟩

def EndsC (n : Nd) : Prop := ∀ (s : ByteArray) (a : List Bool) (va : Value) (k : Int) (sv kv : Value) (A : Nat → Prop) (w : World), s.size ≤ 500 → NA w A n k sv kv → BV w va a → a.length = s.size + 1 → Calls Try.prog 25 #[nodeV k sv kv, .string s, va] w fun e w' => ∃ v, e = .returned v ∧ BV w' v (ends (bl s) n a) ∧ Below w.heap.size w w'
/-- The parameter's box, and the row that is made. -/
theorem ends_start (k : Int) (sv kv : Value) (s : ByteArray) (w : World) (hs : s.size ≤ 500) : ∃ wn wa, wn = w.alloc (.cells #[.int .i64 k, sv, kv] 32) ∧ (Instr.makeSlice 29 (.int .i64 ((s.size : Int) + 1)) (.int .i64 ((s.size : Int) + 1))).run Try.prog wn = .ok (.slice (some ⟨w.heap.size + 1, 0, none⟩) (s.size + 1) (s.size + 1)) wa ∧ Br (w.heap.size + 1) (List.replicate (s.size + 1) false) wa ∧ wa.heap[w.heap.size]? = some (.cells #[.int .i64 k, sv, kv] 32 (0, 0)) ∧ Below w.heap.size w wa := by
  obtain ⟨wn, hwn, hBn, hSn, hkn⟩ := one_box w (.cells #[.int .i64 k, sv, kv] 32)
  obtain ⟨wa, hwa, hBa, hSa, hka⟩ := one_box wn (.cells (boolC (List.replicate (s.size + 1) false)) 4)
  have hm := make_bool wn (s.size + 1) (by omega)
  rw [hSn] at hm hka
  refine ⟨wn, wa, hwn, ?_, hka, (hBa.block _ (by omega)).trans hkn, hBn.trans (hBa.mono (by omega))⟩
  rw [hwa]
  simpa using hm
set_option maxRecDepth 20000 in
set_option maxHeartbeats 400000 in
theorem ends_none : EndsC .none := by
  intro s a va k sv kv A w hs hn hv hl
  rw [NA] at hn
  obtain ⟨rfl, rfl, rfl⟩ := hn
  obtain ⟨ga, rfl, hA⟩ := hv
  have hgal := hA.lt
  obtain ⟨wn, wa, hwn, hmk, hB, hnb, hBel⟩ := ends_start 0 (.slice none 0 0) (.slice none 0 0) s w hs
  obtain ⟨N, hN⟩ : ∃ N, N = a.length := ⟨_, rfl⟩
  obtain ⟨x0, x1, x2⟩ := node_cells hnb
  have fz := hB.frozen
  have hgl := hB.lt
  have hAa : Br ga a wa := (hBel.block ga hgal).trans hA
  have H0 : Hid (Br (w.heap.size + 1) (List.replicate (s.size + 1) false) wa ∧ Below w.heap.size w wa ∧ N = a.length ∧ a.length = s.size + 1 ∧ Br ga a wa ∧ wa.heap[w.heap.size]? = some (.cells #[.int .i64 0, (.slice none 0 0), (.slice none 0 0)] 32 (0, 0))) := ⟨hB, hBel, hN, hl, hAa, hnb⟩
  have hNs : N = s.size + 1 := by omega
  rw [hwn] at hmk
  rw [← hN]
  clear hB hBel hN hl hnb hA hAa hwn
  simp only [nodeV]
  go_enter Try.func25, Try.ntmps25
  rw [hNs]
  clear hNs
  go_wp2_with fail
  go_ret
  refine ⟨_, rfl, ⟨w.heap.size + 1, ?_, ?_⟩, H0.out.2.1⟩
  · rw [ends]; simp [bl_length]
  · rw [ends, bl_length]; exact H0.out.1
set_option maxRecDepth 20000 in
set_option maxHeartbeats 400000 in
theorem ends_bol : EndsC .bol := by
  intro s a va k sv kv A w hs hn hv hl
  rw [NA] at hn
  obtain ⟨rfl, rfl, rfl⟩ := hn
  obtain ⟨ga, rfl, hA⟩ := hv
  have hgal := hA.lt
  obtain ⟨wn, wa, hwn, hmk, hB, hnb, hBel⟩ := ends_start 2 (.slice none 0 0) (.slice none 0 0) s w hs
  obtain ⟨N, hN⟩ : ∃ N, N = a.length := ⟨_, rfl⟩
  obtain ⟨x0, x1, x2⟩ := node_cells hnb
  have fz := hB.frozen
  have hgl := hB.lt
  have hAa : Br ga a wa := (hBel.block ga hgal).trans hA
  have H0 : Hid (Br (w.heap.size + 1) (List.replicate (s.size + 1) false) wa ∧ Below w.heap.size w wa ∧ N = a.length ∧ a.length = s.size + 1 ∧ Br ga a wa ∧ wa.heap[w.heap.size]? = some (.cells #[.int .i64 2, (.slice none 0 0), (.slice none 0 0)] 32 (0, 0))) := ⟨hB, hBel, hN, hl, hAa, hnb⟩
  have hNs : N = s.size + 1 := by omega
  rw [hwn] at hmk
  rw [← hN]
  obtain ⟨x, hx⟩ : ∃ x, a[0]? = some x := ⟨a[0]'(by omega), List.getElem?_eq_getElem (by omega)⟩
  have cA := hAa.cell 0 x hx
  have cO := hB.cell 0 false (by rw [List.getElem?_replicate, if_pos (by omega)])
  have HX : Hid (a[0]? = some x) := hx
  clear hx
  clear hB hBel hN hl hnb hA hAa hwn
  simp only [nodeV]
  go_enter Try.func25, Try.ntmps25
  rw [hNs]
  clear hNs
  go_wp2_with fail
  go_ret
  have hb := H0.out.1.put 0 x
  refine ⟨_, rfl, ⟨w.heap.size + 1, ?_, ?_⟩, H0.out.2.1.setCell (show w.heap.size ≤ w.heap.size + 1 from Nat.le_succ _) _⟩
  · rw [ends]; simp [bl_length]
  · have e : ends (bl s) .bol a = (List.replicate (s.size + 1) false).set 0 x := by
      rw [ends, bl_length, List.replicate_succ, List.set_cons_zero]
      cases a with
      | nil => have := HX.out; simp at this
      | cons y t => have := HX.out; simp at this; simp [this]
    rw [e]; exact hb
set_option maxRecDepth 20000 in
set_option maxHeartbeats 400000 in
theorem ends_eol : EndsC .eol := by
  intro s a va k sv kv A w hs hn hv hl
  rw [NA] at hn
  obtain ⟨rfl, rfl, rfl⟩ := hn
  obtain ⟨ga, rfl, hA⟩ := hv
  have hgal := hA.lt
  obtain ⟨wn, wa, hwn, hmk, hB, hnb, hBel⟩ := ends_start 3 (.slice none 0 0) (.slice none 0 0) s w hs
  obtain ⟨N, hN⟩ : ∃ N, N = a.length := ⟨_, rfl⟩
  obtain ⟨x0, x1, x2⟩ := node_cells hnb
  have fz := hB.frozen
  have hgl := hB.lt
  have hAa : Br ga a wa := (hBel.block ga hgal).trans hA
  have H0 : Hid (Br (w.heap.size + 1) (List.replicate (s.size + 1) false) wa ∧ Below w.heap.size w wa ∧ N = a.length ∧ a.length = s.size + 1 ∧ Br ga a wa ∧ wa.heap[w.heap.size]? = some (.cells #[.int .i64 3, (.slice none 0 0), (.slice none 0 0)] 32 (0, 0))) := ⟨hB, hBel, hN, hl, hAa, hnb⟩
  have hNs : N = s.size + 1 := by omega
  rw [hwn] at hmk
  rw [← hN]
  obtain ⟨x, hx⟩ : ∃ x, a[s.size]? = some x := ⟨a[s.size]'(by omega), List.getElem?_eq_getElem (by omega)⟩
  have cA := hAa.cell s.size x hx
  have cO := hB.cell s.size false (by rw [List.getElem?_replicate, if_pos (by omega)])
  have HX : Hid (a[s.size]? = some x) := hx
  clear hx
  clear hB hBel hN hl hnb hA hAa hwn
  simp only [nodeV]
  go_enter Try.func25, Try.ntmps25
  rw [hNs]
  clear hNs
  go_wp2_with fail
  go_ret
  have hb := H0.out.1.put s.size x
  refine ⟨_, rfl, ⟨w.heap.size + 1, ?_, ?_⟩, H0.out.2.1.setCell (show w.heap.size ≤ w.heap.size + 1 from Nat.le_succ _) _⟩
  · rw [ends]; simp [bl_length]
  · have e : ends (bl s) .eol a = (List.replicate (s.size + 1) false).set s.size x := by
      rw [ends, bl_length, List.replicate_succ']
      have h1 := H0.out.2.2.2.1
      have h2 := HX.out
      have h3 : a.getLastD false = x := by
        rw [List.getLastD_eq_getLast?, List.getLast?_eq_getElem?, h1, Nat.add_sub_cancel, h2]; rfl
      rw [h3]
      simp
    rw [e]; exact hb
/-- The places behind a byte of the set, up to i. -/
def setEnds (f : UInt8 → Bool) (l : List UInt8) (a : List Bool) (i : Nat) : List Bool := (false :: List.zipWith (fun x c => x && f c) a l).take (i + 1) ++ List.replicate (l.length - i) false
theorem setEnds_get (f : UInt8 → Bool) (l : List UInt8) (a : List Bool) (ha : a.length = l.length + 1) (i j : Nat) (hi : i ≤ l.length) : (setEnds f l a i)[j]? = if j < i + 1 then (false :: List.zipWith (fun x c => x && f c) a l)[j]? else if j < l.length + 1 then some false else none := by
  have hz : (false :: List.zipWith (fun x c => x && f c) a l).length = l.length + 1 := by simp; omega
  unfold setEnds
  by_cases hj : j < i + 1
  · rw [List.getElem?_append_left (by rw [List.length_take, hz]; omega), List.getElem?_take_of_lt hj, if_pos hj]
  · rw [List.getElem?_append_right (by rw [List.length_take]; omega), if_neg hj, List.getElem?_replicate, List.length_take, hz]
    by_cases hj2 : j < l.length + 1
    · rw [if_pos (by omega), if_pos hj2]
    · rw [if_neg (by omega), if_neg hj2]
theorem setEnds_set (f : UInt8 → Bool) (l : List UInt8) (a : List Bool) (ha : a.length = l.length + 1) (i : Nat) (x : Bool) (c : UInt8) (hx : a[i]? = some x) (hc : l[i]? = some c) : (setEnds f l a i).set (i + 1) (x && f c) = setEnds f l a (i + 1) := by
  have hi := (List.getElem?_eq_some_iff.1 hc).1
  have hlen : (setEnds f l a i).length = l.length + 1 := by unfold setEnds; simp; omega
  have hz : (false :: List.zipWith (fun x c => x && f c) a l)[i + 1]? = some (x && f c) := by
    rw [List.getElem?_cons_succ, List.getElem?_zipWith, hx, hc]
  apply List.ext_getElem?
  intro j
  rw [List.getElem?_set, hlen, setEnds_get f l a ha (i + 1) j (by omega), setEnds_get f l a ha i j (by omega)]
  by_cases e : i + 1 = j
  · subst e
    rw [if_pos rfl, if_pos (by omega), if_pos (by omega), hz]
  · rw [if_neg e]
    by_cases h1 : j < i + 1
    · rw [if_pos h1, if_pos (show j < i + 1 + 1 by omega)]
    · rw [if_neg h1, if_neg (show ¬ j < i + 1 + 1 by omega)]
theorem setEnds_zero (f : UInt8 → Bool) (l : List UInt8) (a : List Bool) : setEnds f l a 0 = List.replicate (l.length + 1) false := by
  unfold setEnds
  simp [List.replicate_succ]
theorem setEnds_all (f : UInt8 → Bool) (l : List UInt8) (a : List Bool) (ha : a.length = l.length + 1) : setEnds f l a l.length = false :: List.zipWith (fun x c => x && f c) a l := by
  unfold setEnds
  rw [Nat.sub_self, List.replicate_zero, List.append_nil, List.take_of_length_le (by simp; omega)]
set_option maxRecDepth 20000 in
set_option maxHeartbeats 400000 in
theorem ends_set (f : UInt8 → Bool) : EndsC (.set f) := by
  intro s a va k sv kv A w hs hn hv hl
  rw [NA] at hn
  obtain ⟨rfl, rfl, gs, ls, rfl, hgs, hbs, hbits⟩ := hn
  obtain ⟨ga, rfl, hA⟩ := hv
  have hgal := hA.lt
  obtain ⟨wn, wa, hwn, hmk, hB, hnb, hBel⟩ := ends_start 1 (.slice (some ⟨gs, 0, none⟩) 256 256) (.slice none 0 0) s w hs
  obtain ⟨N, hN⟩ : ∃ N, N = a.length := ⟨_, rfl⟩
  obtain ⟨x0, x1, x2⟩ := node_cells hnb
  have fz := hB.frozen
  have hgl := hB.lt
  have hAa : Br ga a wa := (hBel.block ga hgal).trans hA
  have H0 : Hid (Br (w.heap.size + 1) (List.replicate (s.size + 1) false) wa ∧ Below w.heap.size w wa ∧ N = a.length ∧ a.length = s.size + 1 ∧ Br ga a wa ∧ wa.heap[w.heap.size]? = some (.cells #[.int .i64 1, (.slice (some ⟨gs, 0, none⟩) 256 256), (.slice none 0 0)] 32 (0, 0))) := ⟨hB, hBel, hN, hl, hAa, hnb⟩
  have hNs : N = s.size + 1 := by omega
  rw [hwn] at hmk
  rw [← hN]
  have hgsl := hbs.lt
  have HBt : Hid (Br gs ls wa ∧ Bits ls f) := ⟨(hBel.block gs hgsl).trans hbs, hbits⟩
  clear hbs hbits hgs
  clear hB hBel hN hl hnb hA hAa hwn
  simp only [nodeV]
  go_enter Try.func25, Try.ntmps25
  rw [hNs]
  clear hNs
  go_wp2_with fail
  go_loopw [8] (fun vi wr => ∃ i : Nat, i ≤ s.size ∧ vi = .int .i64 (i : Int) ∧ Hid (Br (w.heap.size + 1) (setEnds f (bl s) a i) wr ∧ Below (w.heap.size + 1) wa wr)) (fun vi _ => s.size - (intOf vi).toNat)
  case atStart => exact ⟨0, Nat.zero_le _, rfl, by rw [setEnds_zero, bl_length]; exact H0.out.1, Below.refl _ _⟩
  case round =>
    clear fz hgl hmk x0 x1 x2
    obtain ⟨i, hi, rfl, HI⟩ := hrel
    by_cases hlt : i < s.size
    · have hl2 : (i : Int) < (s.size : Int) := by omega
      have hi1 : (i : Int) + 1 < (s.size : Int) + 1 := by omega
      have hwb : w.heap.size + 1 ≤ wa.heap.size := by have := H0.out.1.lt; omega
      obtain ⟨x, hx⟩ : ∃ x, a[i]? = some x := ⟨a[i]'(by have := H0.out.2.2.2.1; omega), List.getElem?_eq_getElem (by have := H0.out.2.2.2.1; omega)⟩
      obtain ⟨xc, hxc⟩ : ∃ xc : Nat, s[i].toNat = xc := ⟨_, rfl⟩
      have hxl : xc < 256 := by rw [← hxc]; exact s[i].toNat_lt
      have hxl2 : (xc : Int) < 256 := by omega
      have hAw : Br ga a wr := (HI.out.2.block ga (by omega)).trans H0.out.2.2.2.2.1
      have hSw : Br gs ls wr := (HI.out.2.block gs (by omega)).trans HBt.out.1
      have hNw : wr.heap[w.heap.size]? = _ := (HI.out.2.block w.heap.size (by omega)).trans H0.out.2.2.2.2.2
      obtain ⟨y0, y1, y2⟩ := node_cells hNw
      have cA := hAw.cell i x hx
      have cS := hSw.cell xc (f s[i]) (by rw [← hxc]; exact HBt.out.2.2 s[i])
      obtain ⟨fc, hfc⟩ : ∃ fc, fc = f s[i] := ⟨_, rfl⟩
      rw [← hfc] at cS
      have fz := HI.out.1.frozen
      have hgl := HI.out.1.lt
      obtain ⟨z, hz⟩ : ∃ z, (setEnds f (bl s) a i)[i + 1]? = some z := ⟨_, List.getElem?_eq_getElem (by unfold setEnds; simp [bl_length]; have := H0.out.2.2.2.1; omega)⟩
      have cO := HI.out.1.cell (i + 1) z hz
      have HS : Hid (Br (w.heap.size + 1) (setEnds f (bl s) a (i + 1)) (wr.setCell ⟨w.heap.size + 1, i + 1, none⟩ (.bool (x && fc))) ∧ Below (w.heap.size + 1) wa (wr.setCell ⟨w.heap.size + 1, i + 1, none⟩ (.bool (x && fc)))) := by
        have h := HI.out.1.put (i + 1) (x && fc)
        rw [hfc, setEnds_set f (bl s) a (by rw [bl_length]; exact H0.out.2.2.2.1) i x s[i] hx (bl_get s i hlt), ← hfc] at h
        exact ⟨h, HI.out.2.setCell (Nat.le_refl _) _⟩
      clear hx hAw hSw hNw hz hfc
      cases x with
      | true =>
        go_wp2_with fail
        have hwrap : IntKind.i64.wrap ((i : Int) + 1) = (i : Int) + 1 := by (simp [IntKind.wrap, IntKind.bits, IntKind.signed]; omega)
        have hi0 : (0 : Int) ≤ (i : Int) := by omega
        have hiN : (i : Int) < (s.size : Int) + 1 := by omega
        go_region_with (fail)
        all_goals
          clear hwrap
          go_wp2_with fail
          exact ⟨⟨i + 1, by omega, by go_num, HS.out.1, HS.out.2.drew⟩, by simp [intOf]; omega⟩
      | false =>
        go_wp2_with fail
        have hwrap : IntKind.i64.wrap ((i : Int) + 1) = (i : Int) + 1 := by (simp [IntKind.wrap, IntKind.bits, IntKind.signed]; omega)
        have hi0 : (0 : Int) ≤ (i : Int) := by omega
        have hiN : (i : Int) < (s.size : Int) + 1 := by omega
        have hgne : ga ≠ w.heap.size + 1 := by omega
        have HKp : Hid (∀ v, (wr.setCell ⟨w.heap.size + 1, i + 1, none⟩ v).cell? ⟨ga, i, none⟩ = some (.bool false)) := fun v => (World.cell?_of_block (Below.heap_setCell _ _ _ _ hgne)).trans cA
        go_region
        all_goals
          clear hwrap
          go_wp2_with fail
          exact ⟨⟨i + 1, by omega, by go_num, HS.out.1, HS.out.2.drew⟩, by simp [intOf]; omega⟩
    · have hl2 : ¬ (i : Int) < (s.size : Int) := by omega
      go_wp2_with fail
      go_ret
      have hin : i = (bl s).length := by rw [bl_length]; omega
      have h := HI.out
      have hlb : a.length = (bl s).length + 1 := by rw [bl_length]; exact H0.out.2.2.2.1
      rw [hin, setEnds_all f (bl s) a hlb] at h
      refine ⟨_, rfl, ⟨w.heap.size + 1, ?_, ?_⟩, H0.out.2.1.trans (h.2.mono (by omega))⟩
      · rw [ends]
        simp [bl_length]
        have := H0.out.2.2.2.1
        omega
      · rw [ends]; exact h.1

theorem NA_below {W W' : World} {A : Nat → Prop} {n : Nd} {k : Int} {sv kv : Value} (h : NA W A n k sv kv) (hb : Below W.heap.size W W') : NA W' A n k sv kv := NA_keep (fun q hq hl => ⟨hq, hb.block q hl⟩) _ _ _ _ h
theorem NA_sl {W : World} {A : Nat → Prop} : ∀ {n : Nd} {k : Int} {sv kv : Value}, NA W A n k sv kv → IsSl sv ∧ IsSl kv := by
  intro n k sv kv h
  cases n with
  | none => rw [NA] at h; obtain ⟨_, rfl, rfl⟩ := h; exact ⟨sl_nil, sl_nil⟩
  | set f => rw [NA] at h; obtain ⟨_, rfl, g, l, rfl, _⟩ := h; exact ⟨⟨_, _, _, rfl⟩, sl_nil⟩
  | bol => rw [NA] at h; obtain ⟨_, rfl, rfl⟩ := h; exact ⟨sl_nil, sl_nil⟩
  | eol => rw [NA] at h; obtain ⟨_, rfl, rfl⟩ := h; exact ⟨sl_nil, sl_nil⟩
  | seq l =>
    rw [NA] at h
    obtain ⟨_, rfl, ⟨rfl, _⟩ | ⟨g, cap, cur, rfl, _⟩⟩ := h
    · exact ⟨sl_nil, sl_nil⟩
    · exact ⟨sl_nil, ⟨_, _, _, rfl⟩⟩
  | alt l =>
    rw [NA] at h
    obtain ⟨_, rfl, ⟨rfl, _⟩ | ⟨g, cap, cur, rfl, _⟩⟩ := h
    · exact ⟨sl_nil, sl_nil⟩
    · exact ⟨sl_nil, ⟨_, _, _, rfl⟩⟩
  | star n => rw [NA] at h; obtain ⟨_, rfl, g, _, _, _, rfl, _⟩ := h; exact ⟨sl_nil, ⟨_, _, _, rfl⟩⟩
  | plus n => rw [NA] at h; obtain ⟨_, rfl, g, _, _, _, rfl, _⟩ := h; exact ⟨sl_nil, ⟨_, _, _, rfl⟩⟩
  | opt n => rw [NA] at h; obtain ⟨_, rfl, g, _, _, _, rfl, _⟩ := h; exact ⟨sl_nil, ⟨_, _, _, rfl⟩⟩
theorem ends_len (s : List UInt8) (n : Nd) (a : List Bool) (h : a.length = s.length + 1) : (ends s n a).length = s.length + 1 := ((ends_ok s n) a h).1
theorem again_len (s : List UInt8) (n : Nd) (a : List Bool) (h : a.length = s.length + 1) (m : Nat) : (again (ends s n) m a).length = s.length + 1 := (again_ok (ends_ok s n) a h m).1
set_option maxRecDepth 20000 in
set_option maxHeartbeats 600000 in
theorem ragain_any (n : Nd) (hE : EndsC n) (s : ByteArray) (a : List Bool) (va : Value) (k : Int) (sv kv : Value) (A : Nat → Prop) (w : World) (hs : s.size ≤ 500) (hn : NA w A n k sv kv) (hv : BV w va a) (hl : a.length = s.size + 1) : Calls Try.prog 40 #[nodeV k sv kv, .string s, va] w fun e w' => ∃ v, e = .returned v ∧ BV w' v (again (ends (bl s) n) (s.size + 1) a) ∧ Below w.heap.size w w' := by
  obtain ⟨⟨a2, n2, c2, rfl⟩, ⟨a3, n3, c3, rfl⟩⟩ := NA_sl hn
  obtain ⟨wn, hwn, hBn, hSn, hkn⟩ := one_box w (.cells #[.int .i64 k, .slice a2 n2 c2, .slice a3 n3 c3] 32)
  have HX : Hid (NA wn A n k (.slice a2 n2 c2) (.slice a3 n3 c3) ∧ BV wn va a ∧ a.length = s.size + 1 ∧ Below w.heap.size w wn ∧ wn.heap.size = w.heap.size + 1 ∧ wn.heap[w.heap.size]? = some (.cells #[.int .i64 k, .slice a2 n2 c2, .slice a3 n3 c3] 32 (0, 0))) := ⟨NA_below hn hBn, hv.below hBn, hl, hBn, hSn, hkn⟩
  have HE : Hid (EndsC n) := hE
  obtain ⟨ga, rfl, hA⟩ := hv
  rw [hl]
  clear hn hA hl hE hBn hSn hkn
  simp only [nodeV]
  go_enter Try.func40, Try.ntmps40
  go_wp2_with fail
  rw [show w.alloc (Obj.cells #[Value.int IntKind.i64 k, Value.slice a2 n2 c2, Value.slice a3 n3 c3] 32) = wn from hwn.symm]
  clear hwn
  go_loopw [7, 8] (fun vo vi wr => ∃ i : Nat, i ≤ s.size + 1 ∧ vi = .int .i64 (i : Int) ∧ ∃ g, vo = .slice (some ⟨g, 0, none⟩) (s.size + 1) (s.size + 1) ∧ Hid (Br g (again (ends (bl s) n) i a) wr ∧ Below wn.heap.size wn wr)) (fun _ vi _ => s.size + 1 - (intOf vi).toNat)
  case atStart =>
    obtain ⟨g, h1, h2⟩ := HX.out.2.1
    rw [HX.out.2.2.1] at h1
    have hg : ga = g := by simpa using h1
    subst hg
    exact ⟨0, Nat.zero_le _, rfl, ga, rfl, by rw [again]; exact h2, Below.refl _ _⟩
  case round =>
    obtain ⟨i, hi, rfl, g, rfl, HI⟩ := hrel
    by_cases hlt : i < s.size + 1
    · have hl2 : (i : Int) ≤ (s.size : Int) := by omega
      have hkw : wr.heap[w.heap.size]? = _ := (HI.out.2.block w.heap.size (by have := HX.out.2.2.2.2.1; omega)).trans HX.out.2.2.2.2.2
      obtain ⟨y0, y1, y2⟩ := node_cells hkw
      clear hkw
      have hla := again_len (bl s) n a (by rw [bl_length]; exact HX.out.2.2.1) i
      rw [bl_length] at hla
      have C1 := HE.out s (again (ends (bl s) n) i a) (.slice (some ⟨g, 0, none⟩) (s.size + 1) (s.size + 1)) k _ _ A wr hs (NA_below HX.out.1 HI.out.2) ⟨g, by rw [hla], HI.out.1⟩ hla
      have HC : Hid (Calls _ _ _ _ _) := C1
      have HL : Hid (List.length _ = _) := hla
      clear C1 hla
      go_wp2_with fail
      refine HC.out.mono ?_
      rintro e w1 ⟨v1, rfl, hb1, hB1⟩
      have hle := ends_len (bl s) n (again (ends (bl s) n) i a) (by rw [bl_length]; exact HL.out)
      rw [bl_length] at hle
      have HC2 : Hid (Calls _ _ _ _ _) := both_any (again (ends (bl s) n) i a) (ends (bl s) n (again (ends (bl s) n) i a)) (.slice (some ⟨g, 0, none⟩) (s.size + 1) (s.size + 1)) v1 w1 ⟨g, by rw [HL.out], HI.out.1.below hB1⟩ hb1 (by rw [HL.out, hle]) (by rw [HL.out]; omega)
      obtain ⟨g1, rfl, hb1⟩ := hb1
      clear hle
      go_wp2_with fail
      refine HC2.out.mono ?_
      rintro e w2 ⟨v2, rfl, ⟨g2, hg2, hb2⟩, hB2⟩
      rw [both_len (by rw [ends_len (bl s) n _ (by rw [bl_length]; exact HL.out), HL.out, bl_length]), HL.out] at hg2
      subst hg2
      go_wp2_with fail
      go_roundw
      case rel => exact ⟨i + 1, by omega, by go_num, g2, rfl, by rw [again]; exact hb2, (HI.out.2.trans (hB1.mono HI.out.2.size)).trans (hB2.mono (by have := HI.out.2.size; have := hB1.size; omega))⟩
      case measure => simp [intOf]; omega
    · have hl2 : ¬ (i : Int) ≤ (s.size : Int) := by omega
      go_wp2_with fail
      go_ret
      have hin : i = s.size + 1 := by omega
      subst hin
      have hla := again_len (bl s) n a (by rw [bl_length]; exact HX.out.2.2.1) (s.size + 1)
      rw [bl_length] at hla
      exact ⟨.slice (some ⟨g, 0, none⟩) (s.size + 1) (s.size + 1), rfl, ⟨g, by rw [hla], HI.out.1⟩, HX.out.2.2.2.1.trans (HI.out.2.mono (HX.out.2.2.2.1.size))⟩

mutual
def Tiny : Nd → Prop
  | .none => True
  | .set _ => True
  | .bol => True
  | .eol => True
  | .seq l => l.length ≤ 1000 ∧ TinyL l
  | .alt l => l.length ≤ 1000 ∧ TinyL l
  | .star n => Tiny n
  | .plus n => Tiny n
  | .opt n => Tiny n
def TinyL : List Nd → Prop
  | [] => True
  | n :: l => Tiny n ∧ TinyL l
end
theorem tiny_post (n : Nd) (r : List UInt8) (h : Tiny n) : Tiny (post n r).1 := by
  unfold post
  split <;> first | exact h | (unfold Tiny; exact h)
theorem P_tiny {g : Tag} {o : Nat} {r : List UInt8} {a : Res} (h : P g o r a) : ∀ {k : List Nd} {r' : List UInt8}, a = .ok k r' → r.length ≤ 500 → k.length + r'.length ≤ r.length + 1 ∧ (g = .way → k.length + r'.length ≤ r.length) ∧ TinyL k := by
  induction h with
  | rep o c t h => intro k r' ha; cases ha
  | dot o t => intro k r' ha _; cases ha; simp [TinyL, Tiny]; omega
  | bol o t => intro k r' ha _; cases ha; simp [TinyL, Tiny]; omega
  | eol o t => intro k r' ha _; cases ha; simp [TinyL, Tiny]; omega
  | deep o t h => intro k r' ha; cases ha
  | inBad o t w l h h1 ih => intro k r' ha; cases ha
  | inEnd o t k h h1 ih => intro k r' ha; cases ha
  | group o t r k h h1 ih =>
    intro k' r' ha hl
    cases ha
    have hl2 : t.length ≤ 500 := by simp at hl; omega
    obtain ⟨i1, i2, i3⟩ := ih rfl hl2
    simp at i1
    refine ⟨?_, ?_, ?_⟩
    · simp; omega
    · intro hh; cases hh
    · simp only [TinyL, Tiny]
      exact ⟨⟨by omega, i3⟩, trivial⟩
  | set o t =>
    intro k r' ha hl
    have h1 := setR_len ha
    obtain ⟨f, r2, e⟩ | ⟨w, l, e⟩ := RxSem.setR_shape t
    · rw [e] at ha
      cases ha
      refine ⟨?_, ?_, ?_⟩
      · simp; omega
      · intro hh; cases hh
      · simp [TinyL, Tiny]
    · rw [e] at ha; cases ha
  | esc o c t => intro k r' ha _; cases ha; simp [TinyL, Tiny, one]; omega
  | escEnd o => intro k r' ha; cases ha
  | byte o c t h => intro k r' ha _; cases ha; simp [TinyL, Tiny, one]; omega
  | wayEnd o r h => intro k r' ha _; cases ha; simp [TinyL]
  | wayBad o r w l h h1 ih => intro k r' ha; cases ha
  | wayNext o r r1 r2 n k h h1 h2 i1 i2 =>
    intro k' r' ha hl
    cases ha
    have a1 := (P.len h1 rfl).2 rfl
    have a2 := post_len n r1
    obtain ⟨_, _, b3⟩ := i1 rfl hl
    obtain ⟨_, c2, c3⟩ := i2 rfl (by omega)
    have c2 := c2 rfl
    refine ⟨?_, ?_, ?_⟩
    · simp; omega
    · intro _; simp; omega
    · rw [TinyL] at b3 ⊢
      exact ⟨tiny_post n r1 b3.1, c3⟩
  | wayLater o r r1 n w l h h1 h2 i1 i2 => intro k r' ha; cases ha
  | waysBad o r w l h1 ih => intro k r' ha; cases ha
  | waysOne o r r1 k h1 h2 ih =>
    intro k' r' ha hl
    cases ha
    obtain ⟨_, b2, b3⟩ := ih rfl hl
    have b2 := b2 rfl
    refine ⟨?_, ?_, ?_⟩
    · simp; omega
    · intro hh; cases hh
    · simp only [TinyL, Tiny]
      exact ⟨⟨by omega, b3⟩, trivial⟩
  | waysNext o r r1 r2 k m h1 h2 i1 i2 =>
    intro k' r' ha hl
    cases ha
    obtain ⟨_, b2, b3⟩ := i1 rfl hl
    have b2 := b2 rfl
    simp at b2
    obtain ⟨c1, _, c3⟩ := i2 rfl (by omega)
    refine ⟨?_, ?_, ?_⟩
    · simp; omega
    · intro hh; cases hh
    · simp only [TinyL, Tiny]
      exact ⟨⟨by omega, b3⟩, c3⟩
  | waysLater o r r1 k w l h1 h2 i1 i2 => intro k r' ha; cases ha
theorem comp_tiny {p : List UInt8} {k : List Nd} (h : Comp p (.inl k)) : Tiny (.alt k) := by
  cases h with
  | ok _ h h1 =>
    obtain ⟨a, _, c⟩ := P_tiny h1 rfl (by omega)
    rw [Tiny]
    simp at a
    exact ⟨by omega, c⟩
theorem tinyL_mem : ∀ {l : List Nd}, TinyL l → ∀ n ∈ l, Tiny n
  | [], _, n, h => by cases h
  | m :: l, h, n, hn => by
    rw [TinyL] at h
    cases hn with
    | head => exact h.1
    | tail _ hn => exact tinyL_mem h.2 n hn
theorem NC_get {W : World} {A : Nat → Prop} : ∀ {l : List Nd} {cs : List Value} (i : Nat) (n : Nd), NC W A l cs → l[i]? = some n → ∃ k sv kv, cs[3 * i]? = some (.int .i64 k) ∧ cs[3 * i + 1]? = some sv ∧ cs[3 * i + 2]? = some kv ∧ NA W A n k sv kv
  | [], cs, i, n, _, h => by simp at h
  | m :: l, cs, i, n, hc, h => by
    rw [NC] at hc
    obtain ⟨k, sv, kv, rest, rfl, h1, h2⟩ := hc
    cases i with
    | zero =>
      simp at h
      subst h
      exact ⟨k, sv, kv, rfl, rfl, rfl, h1⟩
    | succ i =>
      simp at h
      obtain ⟨k', sv', kv', e1, e2, e3, e4⟩ := NC_get i n h2 h
      refine ⟨k', sv', kv', ?_, ?_, ?_, e4⟩
      · rw [← e1]; exact List.getElem?_cons_succ
      · rw [← e2]; exact List.getElem?_cons_succ
      · rw [← e3]; exact List.getElem?_cons_succ

theorem endsS_step (s : List UInt8) : ∀ (l : List Nd) (i : Nat) (n : Nd) (a : List Bool), l[i]? = some n → endsS s (l.take (i + 1)) a = ends s n (endsS s (l.take i) a)
  | [], i, n, a, h => by simp at h
  | m :: l, 0, n, a, h => by
    simp at h
    subst h
    simp [endsS]
  | m :: l, i + 1, n, a, h => by
    simp at h
    simp only [List.take_succ_cons, endsS]
    exact endsS_step s l i n _ h
theorem endsA_step (s : List UInt8) : ∀ (l : List Nd) (i : Nat) (n : Nd) (a o : List Bool), l[i]? = some n → endsA s (l.take (i + 1)) a o = both (endsA s (l.take i) a o) (ends s n a)
  | [], i, n, a, o, h => by simp at h
  | m :: l, 0, n, a, o, h => by
    simp at h
    subst h
    simp [endsA]
  | m :: l, i + 1, n, a, o, h => by
    simp at h
    simp only [List.take_succ_cons, endsA]
    exact endsA_step s l i n _ _ h
theorem endsS_len (s : List UInt8) : ∀ (l : List Nd) (a : List Bool), a.length = s.length + 1 → (endsS s l a).length = s.length + 1
  | [], a, h => by rw [endsS]; exact h
  | m :: l, a, h => by rw [endsS]; exact endsS_len s l _ (ends_len s m a h)
theorem endsA_len (s : List UInt8) : ∀ (l : List Nd) (a o : List Bool), a.length = s.length + 1 → o.length = s.length + 1 → (endsA s l a o).length = s.length + 1
  | [], a, o, h, h2 => by rw [endsA]; exact h2
  | m :: l, a, o, h, h2 => by
    rw [endsA]
    refine endsA_len s l _ _ h ?_
    rw [both_len (by rw [h2, ends_len s m a h]), h2]
/-- The row of kids, in the box: nothing, or its cells. -/
def Kids (W : World) (A : Nat → Prop) (l : List Nd) (kv : Value) : Prop := (kv = .slice none 0 0 ∧ l = []) ∨ ∃ g cap cur, kv = .slice (some ⟨g, 0, none⟩) l.length cap ∧ A g ∧ W.heap[g]? = some (.cells cur 32 (0, 0)) ∧ NC W A l cur.toList
set_option maxRecDepth 20000 in
set_option maxHeartbeats 600000 in
theorem ends_seq (l : List Nd) (hE : ∀ n ∈ l, EndsC n) (ht : l.length ≤ 1000) : EndsC (.seq l) := by
  intro s a va k sv kv A w hs hn hv hl
  rw [NA] at hn
  obtain ⟨rfl, rfl, hK⟩ := hn
  obtain ⟨ga, rfl, hA⟩ := hv
  have hgal := hA.lt
  obtain ⟨o, cap, rfl, HK⟩ : ∃ o cap, kv = .slice o l.length cap ∧ Hid (Kids w A l (.slice o l.length cap)) := by
    rcases hK with ⟨rfl, rfl⟩ | ⟨g, cap, cur, rfl, h⟩
    · exact ⟨none, 0, rfl, .inl ⟨rfl, rfl⟩⟩
    · exact ⟨_, _, rfl, .inr ⟨g, cap, cur, rfl, h⟩⟩
  obtain ⟨L, hL⟩ : ∃ L, L = l.length := ⟨_, rfl⟩
  obtain ⟨wn, wa, hwn, hmk, hB, hnb, hBel⟩ := ends_start 4 (.slice none 0 0) (.slice o l.length cap) s w hs
  obtain ⟨N, hN⟩ : ∃ N, N = a.length := ⟨_, rfl⟩
  obtain ⟨x0, x1, x2⟩ := node_cells hnb
  have hsz := hB.lt
  have H0 : Hid (Below w.heap.size w wa ∧ N = a.length ∧ a.length = s.size + 1 ∧ Br ga a wa ∧ L = l.length ∧ wa.heap[w.heap.size]? = some (.cells #[.int .i64 4, .slice none 0 0, .slice o l.length cap] 32 (0, 0))) := ⟨hBel, hN, hl, (hBel.block ga hgal).trans hA, hL, hnb⟩
  have HE : Hid (∀ n ∈ l, EndsC n) := hE
  have hNs : N = s.size + 1 := by omega
  have hL9 : L ≤ 1000 := by omega
  rw [hwn] at hmk
  rw [← hN]
  rw [← hL] at x2 hmk ⊢
  clear hB hBel hN hl hnb hA hwn hE hK ht hL
  simp only [nodeV]
  go_enter Try.func25, Try.ntmps25
  rw [hNs]
  clear hNs
  go_wp2_with fail
  clear x0 x1 x2 hmk
  go_loopw [7, 9] (fun vo vi wr => ∃ i : Nat, i ≤ L ∧ vi = .int .i64 (i : Int) ∧ ∃ g, vo = .slice (some ⟨g, 0, none⟩) (s.size + 1) (s.size + 1) ∧ Hid (Br g (endsS (bl s) (l.take i) a) wr ∧ Below wa.heap.size wa wr)) (fun _ vi _ => L - (intOf vi).toNat)
  case atStart => exact ⟨0, Nat.zero_le _, rfl, ga, rfl, by rw [List.take_zero, endsS]; exact H0.out.2.2.2.1, Below.refl _ _⟩
  case round =>
    obtain ⟨i, hi, rfl, g, rfl, HI⟩ := hrel
    have hkw : wr.heap[w.heap.size]? = _ := (HI.out.2.block w.heap.size (by omega)).trans H0.out.2.2.2.2.2
    rw [← H0.out.2.2.2.2.1] at hkw
    obtain ⟨y0, y1, y2⟩ := node_cells hkw
    clear hkw
    by_cases hlt : i < L
    · have hl2 : (i : Int) < (L : Int) := by omega
      have hil : i < l.length := by have := H0.out.2.2.2.2.1; omega
      obtain ⟨n, hn⟩ : ∃ n, l[i]? = some n := ⟨_, List.getElem?_eq_getElem hil⟩
      obtain ⟨gk, ck, rfl, k, sv, kv, z0, z1, z2, hna⟩ : ∃ gk ck, o = some ⟨gk, 0, none⟩ ∧ ∃ k sv kv, wr.cell? ⟨gk, i * 3, none⟩ = some (.int .i64 k) ∧ wr.cell? ⟨gk, i * 3 + 1, none⟩ = some sv ∧ wr.cell? ⟨gk, i * 3 + 2, none⟩ = some kv ∧ NA wr A n k sv kv ∧ ck = cap := by
        rcases HK.out with ⟨_, rfl⟩ | ⟨gk, cp, cur, e, _, hc, hnc⟩
        · simp at hil
        · obtain ⟨k, sv, kv, e1, e2, e3, e4⟩ := NC_get i n hnc hn
          have hgk := (Array.getElem?_eq_some_iff.1 hc).1
          have hc2 : wr.heap[gk]? = _ := (HI.out.2.block gk (by have := H0.out.1.size; omega)).trans ((H0.out.1.block gk hgk).trans hc)
          have e5 : o = some ⟨gk, 0, none⟩ := by injection e
          refine ⟨gk, cap, e5, k, sv, kv, ?_, ?_, ?_, NA_below (NA_below e4 H0.out.1) HI.out.2, rfl⟩
          · rw [Nat.mul_comm]; simp only [World.cell?, hc2]; simpa using e1
          · rw [Nat.mul_comm]; simp only [World.cell?, hc2]; simpa using e2
          · rw [Nat.mul_comm]; simp only [World.cell?, hc2]; simpa using e3
      obtain ⟨⟨b2, m2, d2, rfl⟩, ⟨b3, m3, d3, rfl⟩⟩ := NA_sl hna.1
      have hla := endsS_len (bl s) (l.take i) a (by rw [bl_length]; exact H0.out.2.2.1)
      rw [bl_length] at hla
      have HC : Hid (Calls _ _ _ _ _) := HE.out n (List.mem_of_getElem? hn) s (endsS (bl s) (l.take i) a) (.slice (some ⟨g, 0, none⟩) (s.size + 1) (s.size + 1)) k _ _ A wr hs hna.1 ⟨g, by rw [hla], HI.out.1⟩ hla
      have HL : Hid (List.length _ = _ ∧ l[i]? = some n) := ⟨hla, hn⟩
      clear hla hn hna
      go_wp2_with fail
      refine HC.out.mono ?_
      rintro e w1 ⟨v1, rfl, ⟨g2, hg2, hb2⟩, hB1⟩
      have hle := ends_len (bl s) n (endsS (bl s) (l.take i) a) (by rw [bl_length]; exact HL.out.1)
      rw [hle, bl_length] at hg2
      subst hg2
      go_wp2_with fail
      go_roundw
      case rel => exact ⟨i + 1, by omega, by go_num, g2, rfl, by rw [endsS_step (bl s) l i n a HL.out.2]; exact hb2, HI.out.2.trans (hB1.mono HI.out.2.size)⟩
      case measure => simp [intOf]; omega
    · have hl2 : ¬ (i : Int) < (L : Int) := by omega
      go_wp2_with fail
      go_ret
      have hin : i = L := by omega
      subst hin
      have hla := endsS_len (bl s) l a (by rw [bl_length]; exact H0.out.2.2.1)
      rw [bl_length] at hla
      have h := HI.out
      rw [H0.out.2.2.2.2.1, List.take_length] at h
      refine ⟨.slice (some ⟨g, 0, none⟩) (s.size + 1) (s.size + 1), rfl, ⟨g, ?_, ?_⟩, H0.out.1.trans (h.2.mono H0.out.1.size)⟩
      · rw [ends, hla]
      · rw [ends]; exact h.1

set_option maxRecDepth 20000 in
set_option maxHeartbeats 600000 in
theorem ends_alt (l : List Nd) (hE : ∀ n ∈ l, EndsC n) (ht : l.length ≤ 1000) : EndsC (.alt l) := by
  intro s a va k sv kv A w hs hn hv hl
  rw [NA] at hn
  obtain ⟨rfl, rfl, hK⟩ := hn
  obtain ⟨ga, rfl, hA⟩ := hv
  have hgal := hA.lt
  obtain ⟨o, cap, rfl, HK⟩ : ∃ o cap, kv = .slice o l.length cap ∧ Hid (Kids w A l (.slice o l.length cap)) := by
    rcases hK with ⟨rfl, rfl⟩ | ⟨g, cap, cur, rfl, h⟩
    · exact ⟨none, 0, rfl, .inl ⟨rfl, rfl⟩⟩
    · exact ⟨_, _, rfl, .inr ⟨g, cap, cur, rfl, h⟩⟩
  obtain ⟨L, hL⟩ : ∃ L, L = l.length := ⟨_, rfl⟩
  obtain ⟨wn, wa, hwn, hmk, hB, hnb, hBel⟩ := ends_start 5 (.slice none 0 0) (.slice o l.length cap) s w hs
  obtain ⟨N, hN⟩ : ∃ N, N = a.length := ⟨_, rfl⟩
  obtain ⟨x0, x1, x2⟩ := node_cells hnb
  have hsz := hB.lt
  have HB : Hid (Br _ _ _) := hB
  have H0 : Hid (Below w.heap.size w wa ∧ N = a.length ∧ a.length = s.size + 1 ∧ Br ga a wa ∧ L = l.length ∧ wa.heap[w.heap.size]? = some (.cells #[.int .i64 5, .slice none 0 0, .slice o l.length cap] 32 (0, 0))) := ⟨hBel, hN, hl, (hBel.block ga hgal).trans hA, hL, hnb⟩
  have HE : Hid (∀ n ∈ l, EndsC n) := hE
  have hNs : N = s.size + 1 := by omega
  have hL9 : L ≤ 1000 := by omega
  rw [hwn] at hmk
  rw [← hN]
  rw [← hL] at x2 hmk ⊢
  clear hB hBel hN hl hnb hA hwn hE hK ht hL
  simp only [nodeV]
  go_enter Try.func25, Try.ntmps25
  rw [hNs]
  clear hNs
  go_wp2_with fail
  clear x0 x1 x2 hmk
  go_loopw [7, 10] (fun vo vi wr => ∃ i : Nat, i ≤ L ∧ vi = .int .i64 (i : Int) ∧ ∃ g, vo = .slice (some ⟨g, 0, none⟩) (s.size + 1) (s.size + 1) ∧ Hid (Br g (endsA (bl s) (l.take i) a (List.replicate (s.size + 1) false)) wr ∧ Below wa.heap.size wa wr)) (fun _ vi _ => L - (intOf vi).toNat)
  case atStart => exact ⟨0, Nat.zero_le _, rfl, w.heap.size + 1, rfl, by rw [List.take_zero, endsA]; exact HB.out, Below.refl _ _⟩
  case round =>
    obtain ⟨i, hi, rfl, g, rfl, HI⟩ := hrel
    have hkw : wr.heap[w.heap.size]? = _ := (HI.out.2.block w.heap.size (by omega)).trans H0.out.2.2.2.2.2
    rw [← H0.out.2.2.2.2.1] at hkw
    obtain ⟨y0, y1, y2⟩ := node_cells hkw
    clear hkw
    by_cases hlt : i < L
    · have hl2 : (i : Int) < (L : Int) := by omega
      have hil : i < l.length := by have := H0.out.2.2.2.2.1; omega
      obtain ⟨n, hn⟩ : ∃ n, l[i]? = some n := ⟨_, List.getElem?_eq_getElem hil⟩
      obtain ⟨gk, ck, rfl, k, sv, kv, z0, z1, z2, hna⟩ : ∃ gk ck, o = some ⟨gk, 0, none⟩ ∧ ∃ k sv kv, wr.cell? ⟨gk, i * 3, none⟩ = some (.int .i64 k) ∧ wr.cell? ⟨gk, i * 3 + 1, none⟩ = some sv ∧ wr.cell? ⟨gk, i * 3 + 2, none⟩ = some kv ∧ NA wr A n k sv kv ∧ ck = cap := by
        rcases HK.out with ⟨_, rfl⟩ | ⟨gk, cp, cur, e, _, hc, hnc⟩
        · simp at hil
        · obtain ⟨k, sv, kv, e1, e2, e3, e4⟩ := NC_get i n hnc hn
          have hgk := (Array.getElem?_eq_some_iff.1 hc).1
          have hc2 : wr.heap[gk]? = _ := (HI.out.2.block gk (by have := H0.out.1.size; omega)).trans ((H0.out.1.block gk hgk).trans hc)
          have e5 : o = some ⟨gk, 0, none⟩ := by injection e
          refine ⟨gk, cap, e5, k, sv, kv, ?_, ?_, ?_, NA_below (NA_below e4 H0.out.1) HI.out.2, rfl⟩
          · rw [Nat.mul_comm]; simp only [World.cell?, hc2]; simpa using e1
          · rw [Nat.mul_comm]; simp only [World.cell?, hc2]; simpa using e2
          · rw [Nat.mul_comm]; simp only [World.cell?, hc2]; simpa using e3
      obtain ⟨⟨b2, m2, d2, rfl⟩, ⟨b3, m3, d3, rfl⟩⟩ := NA_sl hna.1
      have hla := endsA_len (bl s) (l.take i) a (List.replicate (s.size + 1) false) (by rw [bl_length]; exact H0.out.2.2.1) (by rw [bl_length]; simp)
      rw [bl_length] at hla
      have HC : Hid (Calls _ _ _ _ _) := HE.out n (List.mem_of_getElem? hn) s a (.slice (some ⟨ga, 0, none⟩) (s.size + 1) (s.size + 1)) k _ _ A wr hs hna.1 ⟨ga, by rw [H0.out.2.2.1], (H0.out.2.2.2.1).below HI.out.2⟩ H0.out.2.2.1
      have HL : Hid (List.length _ = _ ∧ l[i]? = some n) := ⟨hla, hn⟩
      clear hla hn hna
      go_wp2_with fail
      refine HC.out.mono ?_
      rintro e w1 ⟨v1, rfl, hb1, hB1⟩
      have hle := ends_len (bl s) n a (by rw [bl_length]; exact H0.out.2.2.1)
      rw [bl_length] at hle
      have HC2 : Hid (Calls _ _ _ _ _) := both_any _ _ (.slice (some ⟨g, 0, none⟩) (s.size + 1) (s.size + 1)) v1 w1 ⟨g, by rw [HL.out.1], HI.out.1.below hB1⟩ hb1 (by rw [HL.out.1, hle]) (by rw [HL.out.1]; omega)
      obtain ⟨g1, rfl, hb1⟩ := hb1
      clear hle
      go_wp2_with fail
      refine HC2.out.mono ?_
      rintro e w2 ⟨v2, rfl, ⟨g2, hg2, hb2⟩, hB2⟩
      rw [both_len (by rw [ends_len (bl s) n _ (by rw [bl_length]; exact H0.out.2.2.1), HL.out.1, bl_length]), HL.out.1] at hg2
      subst hg2
      go_wp2_with fail
      go_roundw
      case rel => exact ⟨i + 1, by omega, by go_num, g2, rfl, by rw [endsA_step (bl s) l i n a _ HL.out.2]; exact hb2, (HI.out.2.trans (hB1.mono HI.out.2.size)).trans (hB2.mono (by have := HI.out.2.size; have := hB1.size; omega))⟩
      case measure => simp [intOf]; omega
    · have hl2 : ¬ (i : Int) < (L : Int) := by omega
      go_wp2_with fail
      go_ret
      have hin : i = L := by omega
      subst hin
      have hla := endsA_len (bl s) l a (List.replicate (s.size + 1) false) (by rw [bl_length]; exact H0.out.2.2.1) (by rw [bl_length]; simp)
      rw [bl_length] at hla
      have h := HI.out
      rw [H0.out.2.2.2.2.1, List.take_length] at h
      refine ⟨.slice (some ⟨g, 0, none⟩) (s.size + 1) (s.size + 1), rfl, ⟨g, ?_, ?_⟩, H0.out.1.trans (h.2.mono H0.out.1.size)⟩
      · rw [ends, bl_length, hla]
      · rw [ends, bl_length]; exact h.1
set_option maxRecDepth 20000 in
set_option maxHeartbeats 600000 in
theorem ends_star (n : Nd) (hE : EndsC n) : EndsC (.star n) := by
  intro s a va k sv kv A w hs hn hv hl
  rw [NA] at hn
  obtain ⟨rfl, rfl, gk, k', sv', kv', rfl, _, hgk, hna⟩ := hn
  obtain ⟨ga, rfl, hA⟩ := hv
  have hgal := hA.lt
  have hgkl := (Array.getElem?_eq_some_iff.1 hgk).1
  obtain ⟨⟨b2, m2, d2, rfl⟩, ⟨b3, m3, d3, rfl⟩⟩ := NA_sl hna
  obtain ⟨wn, wa, hwn, hmk, hB, hnb, hBel⟩ := ends_start 6 (.slice none 0 0) (.slice (some ⟨gk, 0, none⟩) 1 1) s w hs
  obtain ⟨N, hN⟩ : ∃ N, N = a.length := ⟨_, rfl⟩
  obtain ⟨x0, x1, x2⟩ := node_cells hnb
  obtain ⟨z0, z1, z2⟩ := node_cells ((hBel.block gk hgkl).trans hgk)
  have H0 : Hid (Below w.heap.size w wa ∧ N = a.length ∧ a.length = s.size + 1 ∧ Br ga a wa ∧ NA wa A n k' (.slice b2 m2 d2) (.slice b3 m3 d3) ∧ wa.heap[w.heap.size]? = some (.cells #[.int .i64 6, .slice none 0 0, .slice (some ⟨gk, 0, none⟩) 1 1] 32 (0, 0)) ∧ wa.heap[gk]? = some (.cells #[.int .i64 k', .slice b2 m2 d2, .slice b3 m3 d3] 32 (0, 0)) ∧ w.heap.size < wa.heap.size ∧ gk < wa.heap.size) := ⟨hBel, hN, hl, (hBel.block ga hgal).trans hA, NA_below hna hBel, hnb, (hBel.block gk hgkl).trans hgk, by have := hB.lt; omega, by have := hBel.size; omega⟩
  have HE : Hid (EndsC n) := hE
  have hNs : N = s.size + 1 := by omega
  rw [hwn] at hmk
  rw [← hN]
  clear hB hBel hN hl hnb hA hwn hE hna hgk
  simp only [nodeV]
  go_enter Try.func25, Try.ntmps25
  rw [hNs]
  clear hNs
  have HC : Hid (Calls _ _ _ _ _) := ragain_any n HE.out s a (.slice (some ⟨ga, 0, none⟩) (s.size + 1) (s.size + 1)) k' _ _ A wa hs H0.out.2.2.2.2.1 ⟨ga, by rw [H0.out.2.2.1], H0.out.2.2.2.1⟩ H0.out.2.2.1
  simp only [nodeV] at HC
  go_wp2_with fail
  refine HC.out.mono ?_
  rintro e w1 ⟨v1, rfl, ⟨g2, hg2, hb2⟩, hB1⟩
  have hla := again_len (bl s) n a (by rw [bl_length]; exact H0.out.2.2.1) (s.size + 1)
  rw [hla, bl_length] at hg2
  subst hg2
  clear hla
  go_wp2_with fail
  go_ret
  refine ⟨.slice (some ⟨g2, 0, none⟩) (s.size + 1) (s.size + 1), rfl, ⟨g2, ?_, ?_⟩, H0.out.1.trans (hB1.mono H0.out.1.size)⟩
  · rw [ends, bl_length, again_len (bl s) n a (by rw [bl_length]; exact H0.out.2.2.1), bl_length]
  · rw [ends, bl_length]; exact hb2
set_option maxRecDepth 20000 in
set_option maxHeartbeats 600000 in
theorem ends_plus (n : Nd) (hE : EndsC n) : EndsC (.plus n) := by
  intro s a va k sv kv A w hs hn hv hl
  rw [NA] at hn
  obtain ⟨rfl, rfl, gk, k', sv', kv', rfl, _, hgk, hna⟩ := hn
  obtain ⟨ga, rfl, hA⟩ := hv
  have hgal := hA.lt
  have hgkl := (Array.getElem?_eq_some_iff.1 hgk).1
  obtain ⟨⟨b2, m2, d2, rfl⟩, ⟨b3, m3, d3, rfl⟩⟩ := NA_sl hna
  obtain ⟨wn, wa, hwn, hmk, hB, hnb, hBel⟩ := ends_start 7 (.slice none 0 0) (.slice (some ⟨gk, 0, none⟩) 1 1) s w hs
  obtain ⟨N, hN⟩ : ∃ N, N = a.length := ⟨_, rfl⟩
  obtain ⟨x0, x1, x2⟩ := node_cells hnb
  obtain ⟨z0, z1, z2⟩ := node_cells ((hBel.block gk hgkl).trans hgk)
  have H0 : Hid (Below w.heap.size w wa ∧ N = a.length ∧ a.length = s.size + 1 ∧ Br ga a wa ∧ NA wa A n k' (.slice b2 m2 d2) (.slice b3 m3 d3) ∧ wa.heap[w.heap.size]? = some (.cells #[.int .i64 7, .slice none 0 0, .slice (some ⟨gk, 0, none⟩) 1 1] 32 (0, 0)) ∧ wa.heap[gk]? = some (.cells #[.int .i64 k', .slice b2 m2 d2, .slice b3 m3 d3] 32 (0, 0)) ∧ w.heap.size < wa.heap.size ∧ gk < wa.heap.size) := ⟨hBel, hN, hl, (hBel.block ga hgal).trans hA, NA_below hna hBel, hnb, (hBel.block gk hgkl).trans hgk, by have := hB.lt; omega, by have := hBel.size; omega⟩
  have HE : Hid (EndsC n) := hE
  have hNs : N = s.size + 1 := by omega
  rw [hwn] at hmk
  rw [← hN]
  clear hB hBel hN hl hnb hA hwn hE hna hgk
  simp only [nodeV]
  go_enter Try.func25, Try.ntmps25
  rw [hNs]
  clear hNs
  have HKeep : Hid (∀ W, Below wa.heap.size wa W → (Below wa.heap.size wa W ∧ W.cell? ⟨w.heap.size, 2, none⟩ = some (.slice (some ⟨gk, 0, none⟩) 1 1) ∧ W.cell? ⟨gk, 0, none⟩ = some (.int .i64 k') ∧ W.cell? ⟨gk, 1, none⟩ = some (.slice b2 m2 d2) ∧ W.cell? ⟨gk, 2, none⟩ = some (.slice b3 m3 d3))) := fun W hW => by
    have u : ∀ {a : Addr} {v : Value}, wa.cell? a = some v → W.cell? a = some v := fun {a v} ha => (World.cell?_of_block (hW.block a.block (World.block_lt_of_cell? wa a ha))).trans ha
    exact ⟨hW, u x2, u z0, u z1, u z2⟩
  have HC : Hid (∀ W, Below wa.heap.size wa W → Calls Try.prog 25 #[.agg #[.int .i64 k', .slice b2 m2 d2, .slice b3 m3 d3], .string s, (.slice (some ⟨ga, 0, none⟩) (s.size + 1) (s.size + 1))] W fun e w' => ∃ g, e = .returned (.slice (some ⟨g, 0, none⟩) (s.size + 1) (s.size + 1)) ∧ Br g (ends (bl s) n a) w' ∧ Below wa.heap.size wa w') := fun W hW => by
    refine (HE.out s a (.slice (some ⟨ga, 0, none⟩) (s.size + 1) (s.size + 1)) k' _ _ A W hs (NA_below H0.out.2.2.2.2.1 hW) ⟨ga, by rw [H0.out.2.2.1], H0.out.2.2.2.1.below hW⟩ H0.out.2.2.1).mono ?_
    rintro e w1 ⟨v1, rfl, ⟨g2, hg2, hb2⟩, hB1⟩
    rw [ends_len (bl s) n a (by rw [bl_length]; exact H0.out.2.2.1), bl_length] at hg2
    exact ⟨g2, by rw [hg2], hb2, hW.trans (hB1.mono hW.size)⟩
  have HC2 : Hid (∀ W g, Below wa.heap.size wa W → Br g (ends (bl s) n a) W → Calls Try.prog 40 #[.agg #[.int .i64 k', .slice b2 m2 d2, .slice b3 m3 d3], .string s, .slice (some ⟨g, 0, none⟩) (s.size + 1) (s.size + 1)] W fun e w' => ∃ g, e = .returned (.slice (some ⟨g, 0, none⟩) (s.size + 1) (s.size + 1)) ∧ Br g (ends (bl s) (.plus n) a) w' ∧ Below wa.heap.size wa w') := fun W g hW hg => by
    have hle := ends_len (bl s) n a (by rw [bl_length]; exact H0.out.2.2.1)
    refine (ragain_any n HE.out s (ends (bl s) n a) (.slice (some ⟨g, 0, none⟩) (s.size + 1) (s.size + 1)) k' _ _ A W hs (NA_below H0.out.2.2.2.2.1 hW) ⟨g, by rw [hle, bl_length], hg⟩ (by rw [hle, bl_length])).mono ?_
    rintro e w1 ⟨v1, rfl, ⟨g2, hg2, hb2⟩, hB1⟩
    rw [again_len (bl s) n _ hle, bl_length] at hg2
    exact ⟨g2, by rw [hg2], by rw [ends, bl_length]; exact hb2, hW.trans (hB1.mono hW.size)⟩
  go_wp2_with fail
  go_region_held3 (fun W => Below wa.heap.size wa W ∧ W.cell? ⟨w.heap.size, 2, none⟩ = some (.slice (some ⟨gk, 0, none⟩) 1 1) ∧ W.cell? ⟨gk, 0, none⟩ = some (.int .i64 k') ∧ W.cell? ⟨gk, 1, none⟩ = some (.slice b2 m2 d2) ∧ W.cell? ⟨gk, 2, none⟩ = some (.slice b3 m3 d3))
    (first | exact HKeep.out _ (Below.refl _ _).drew | exact HKeep.out _ (Below.refl _ _) | exact HKeep.out _ hq2 | exact HKeep.out _ hq1 | exact HKeep.out _ hq1.drew | exact HKeep.out _ hq2.drew)
    (first | (go_at_call 25; refine (HC.out _ (Below.refl _ wa).drew).mono ?_; rintro e w1 ⟨g1, rfl, hb1, hq1⟩) | (go_at_call 40; refine (HC2.out _ g1 hq1 hb1).mono ?_; rintro e w2 ⟨g2, rfl, hb2, hq2⟩))
  all_goals
    have HZ : Hid (Br g2 (ends (bl s) (.plus n) a) w2 ∧ Below wa.heap.size wa w2) := ⟨hb2, hq2⟩
    clear hb1 hb2 hq1 hq2 x0 x1 x2 z0 z1 z2
    go_wp2_with fail
    go_ret
    refine ⟨.slice (some ⟨g2, 0, none⟩) (s.size + 1) (s.size + 1), rfl, ⟨g2, ?_, HZ.out.1⟩, H0.out.1.trans (HZ.out.2.mono H0.out.1.size)⟩
    rw [ends, again_len (bl s) n _ (ends_len (bl s) n a (by rw [bl_length]; exact H0.out.2.2.1)), bl_length]
set_option maxRecDepth 20000 in
set_option maxHeartbeats 600000 in
theorem ends_opt (n : Nd) (hE : EndsC n) : EndsC (.opt n) := by
  intro s a va k sv kv A w hs hn hv hl
  rw [NA] at hn
  obtain ⟨rfl, rfl, gk, k', sv', kv', rfl, _, hgk, hna⟩ := hn
  obtain ⟨ga, rfl, hA⟩ := hv
  have hgal := hA.lt
  have hgkl := (Array.getElem?_eq_some_iff.1 hgk).1
  obtain ⟨⟨b2, m2, d2, rfl⟩, ⟨b3, m3, d3, rfl⟩⟩ := NA_sl hna
  obtain ⟨wn, wa, hwn, hmk, hB, hnb, hBel⟩ := ends_start 8 (.slice none 0 0) (.slice (some ⟨gk, 0, none⟩) 1 1) s w hs
  obtain ⟨N, hN⟩ : ∃ N, N = a.length := ⟨_, rfl⟩
  obtain ⟨x0, x1, x2⟩ := node_cells hnb
  obtain ⟨z0, z1, z2⟩ := node_cells ((hBel.block gk hgkl).trans hgk)
  have H0 : Hid (Below w.heap.size w wa ∧ N = a.length ∧ a.length = s.size + 1 ∧ Br ga a wa ∧ NA wa A n k' (.slice b2 m2 d2) (.slice b3 m3 d3) ∧ wa.heap[w.heap.size]? = some (.cells #[.int .i64 8, .slice none 0 0, .slice (some ⟨gk, 0, none⟩) 1 1] 32 (0, 0)) ∧ wa.heap[gk]? = some (.cells #[.int .i64 k', .slice b2 m2 d2, .slice b3 m3 d3] 32 (0, 0)) ∧ w.heap.size < wa.heap.size ∧ gk < wa.heap.size) := ⟨hBel, hN, hl, (hBel.block ga hgal).trans hA, NA_below hna hBel, hnb, (hBel.block gk hgkl).trans hgk, by have := hB.lt; omega, by have := hBel.size; omega⟩
  have HE : Hid (EndsC n) := hE
  have hNs : N = s.size + 1 := by omega
  rw [hwn] at hmk
  rw [← hN]
  clear hB hBel hN hl hnb hA hwn hE hna hgk
  simp only [nodeV]
  go_enter Try.func25, Try.ntmps25
  rw [hNs]
  clear hNs
  have HC : Hid (Calls _ _ _ _ _) := HE.out s a (.slice (some ⟨ga, 0, none⟩) (s.size + 1) (s.size + 1)) k' _ _ A wa hs H0.out.2.2.2.2.1 ⟨ga, by rw [H0.out.2.2.1], H0.out.2.2.2.1⟩ H0.out.2.2.1
  simp only [nodeV] at HC
  go_wp2_with fail
  refine HC.out.mono ?_
  rintro e w1 ⟨v1, rfl, hb1, hB1⟩
  have hle := ends_len (bl s) n a (by rw [bl_length]; exact H0.out.2.2.1)
  rw [bl_length] at hle
  obtain ⟨v0, v2, v3⟩ := node_cells ((hB1.block w.heap.size H0.out.2.2.2.2.2.2.2.1).trans H0.out.2.2.2.2.2.1)
  obtain ⟨u0, u1, u2⟩ := node_cells ((hB1.block gk H0.out.2.2.2.2.2.2.2.2).trans H0.out.2.2.2.2.2.2.1)
  have HC2 : Hid (Calls _ _ _ _ _) := both_any a (ends (bl s) n a) (.slice (some ⟨ga, 0, none⟩) (s.size + 1) (s.size + 1)) v1 w1 ⟨ga, by rw [H0.out.2.2.1], H0.out.2.2.2.1.below hB1⟩ hb1 (by rw [hle, H0.out.2.2.1]) (by rw [H0.out.2.2.1]; omega)
  obtain ⟨g1, rfl, hb1⟩ := hb1
  have HL : Hid (List.length _ = _) := hle
  clear hle
  go_wp2_with fail
  refine HC2.out.mono ?_
  rintro e w2 ⟨v2, rfl, ⟨g2, hg2, hb2⟩, hB2⟩
  have hbl : (both a (ends (bl s) n a)).length = s.size + 1 := by rw [both_len (by rw [HL.out, H0.out.2.2.1]), H0.out.2.2.1]
  rw [hbl] at hg2
  subst hg2
  have HM : Hid (List.length _ = _) := hbl
  clear hbl
  go_wp2_with fail
  go_ret
  refine ⟨.slice (some ⟨g2, 0, none⟩) (s.size + 1) (s.size + 1), rfl, ⟨g2, ?_, ?_⟩, (H0.out.1.trans (hB1.mono H0.out.1.size)).trans (hB2.mono (by have := H0.out.1.size; have := hB1.size; omega))⟩
  · rw [ends, HM.out]
  · rw [ends]; exact hb2
mutual
theorem ends_all : (n : Nd) → Tiny n → EndsC n
  | .none, _ => ends_none
  | .set f, _ => ends_set f
  | .bol, _ => ends_bol
  | .eol, _ => ends_eol
  | .seq l, h => by
    rw [Tiny] at h
    exact ends_seq l (ends_allL l h.2) h.1
  | .alt l, h => by
    rw [Tiny] at h
    exact ends_alt l (ends_allL l h.2) h.1
  | .star n, h => by
    rw [Tiny] at h
    exact ends_star n (ends_all n h)
  | .plus n, h => by
    rw [Tiny] at h
    exact ends_plus n (ends_all n h)
  | .opt n, h => by
    rw [Tiny] at h
    exact ends_opt n (ends_all n h)
theorem ends_allL : (l : List Nd) → TinyL l → ∀ n ∈ l, EndsC n
  | [], _ => fun n hn => by cases hn
  | m :: l, h => fun n hn => by
    rw [TinyL] at h
    have h1 := ends_all m h.1
    have h2 := ends_allL l h.2
    cases hn with
    | head => exact h1
    | tail _ hn => exact h2 n hn
end

theorem fromL_from1 (N i : Nat) : fromL N i = from1 N i := by
  apply List.ext_getElem?
  intro j
  unfold fromL from1
  rw [List.getElem?_set, List.length_replicate, List.getElem?_map, List.getElem?_replicate]
  by_cases hj : j < N + 1
  · rw [List.getElem?_range hj]
    by_cases e : i = j
    · subst e; rw [if_pos rfl, if_pos hj]; simp
    · rw [if_neg e, if_pos hj]; simp; omega
  · rw [List.getElem?_eq_none (by simp; omega)]
    by_cases e : i = j
    · subst e; rw [if_pos rfl, if_neg hj]; rfl
    · rw [if_neg e, if_neg hj]; rfl
/-- The first match from a place on, and its last end. -/
def FoundP (s : List UInt8) (n : Nd) (f : Nat) (x : Nat × Nat × Bool) : Prop := (x = (0, 0, false) ∧ ∀ p e, f ≤ p → p ≤ s.length → ¬ M s n p e) ∨ ∃ p e, x = (p, e, true) ∧ f ≤ p ∧ p ≤ s.length ∧ M s n p e ∧ (∀ e', M s n p e' → e' ≤ e) ∧ ∀ p' e', f ≤ p' → p' < p → ¬ M s n p' e'
theorem FoundP.head {s : List UInt8} {n : Nd} {f : Nat} {x : Nat × Nat × Bool} {K : List (Nat × Nat)} (h : FoundP s n f x) (hK : LM s n f K) : headOf K = x := by
  rcases h with ⟨rfl, h⟩ | ⟨p, e, rfl, h1, h2, h3, h4, h5⟩
  · have h' := hK.first
    cases K with
    | nil => rfl
    | cons z K =>
      obtain ⟨z1, z2⟩ := z
      obtain ⟨g1, g2, g3, _⟩ := h'
      exact absurd g3 (h z1 z2 g1 g2)
  · have := hK.head h1 h2 h3 h4 h5
    cases K with
    | nil => simp at this
    | cons z K => simp at this; subst this; rfl
theorem FoundP.none {s : List UInt8} {n : Nd} {f : Nat} {x : Nat × Nat × Bool} (h : FoundP s n f x) (hf : s.length < f) : x = (0, 0, false) := by
  rcases h with ⟨rfl, h⟩ | ⟨p, e, rfl, h1, h2, h3, h4, h5⟩
  · rfl
  · omega
set_option maxRecDepth 20000 in
set_option maxHeartbeats 600000 in
theorem rfind_any (n : Nd) (hT : Tiny n) (s : ByteArray) (f : Nat) (k : Int) (sv kv : Value) (A : Nat → Prop) (w : World) (hs : s.size ≤ 500) (hf : f ≤ 9223372036854775807) (hn : NA w A n k sv kv) : Calls Try.prog 14 #[nodeV k sv kv, .string s, .int .i64 (f : Int)] w fun e w' => ∃ x, e = .returned (findV x) ∧ FoundP (bl s) n f x ∧ Below w.heap.size w w' := by
  obtain ⟨⟨a2, n2, c2, rfl⟩, ⟨a3, n3, c3, rfl⟩⟩ := NA_sl hn
  obtain ⟨wn, hwn, hBn, hSn, hkn⟩ := one_box w (.cells #[.int .i64 k, .slice a2 n2 c2, .slice a3 n3 c3] 32)
  have HX : Hid (NA wn A n k (.slice a2 n2 c2) (.slice a3 n3 c3) ∧ Below w.heap.size w wn ∧ wn.heap.size = w.heap.size + 1 ∧ wn.heap[w.heap.size]? = some (.cells #[.int .i64 k, .slice a2 n2 c2, .slice a3 n3 c3] 32 (0, 0))) := ⟨NA_below hn hBn, hBn, hSn, hkn⟩
  have HE : Hid (EndsC n) := ends_all n hT
  clear hn hBn hSn hkn hT
  have hf0 : ¬ (f : Int) < 0 := by omega
  simp only [nodeV]
  go_enter Try.func14, Try.ntmps14
  go_wp2_with fail
  rw [show w.alloc (Obj.cells #[Value.int IntKind.i64 k, Value.slice a2 n2 c2, Value.slice a3 n3 c3] 32) = wn from hwn.symm]
  clear hwn hf0
  have HMl : Hid (∀ i e, M (bl s) n i e → i ≤ s.size → i ≤ e ∧ e ≤ s.size) := fun i e h hi => ⟨M_le _ _ _ _ h, by have := M_top _ _ _ _ h (by rw [bl_length]; exact hi); rwa [bl_length] at this⟩
  go_loopw [9] (fun vi wr => ∃ i : Nat, f ≤ i ∧ (i ≤ s.size + 1 ∨ i = f) ∧ vi = .int .i64 (i : Int) ∧ Hid (∀ p' e', f ≤ p' → p' < i → ¬ M (bl s) n p' e') ∧ Hid (Below wn.heap.size wn wr)) (fun vi _ => s.size + 1 - (intOf vi).toNat)
  case atStart => exact ⟨f, Nat.le_refl _, .inr rfl, rfl, fun p' e' h1 h2 => by omega, Below.refl _ _⟩
  case round =>
    obtain ⟨i, hi1, hi2, rfl, HQ, HI⟩ := hrel
    by_cases hlt : i ≤ s.size
    · have hl2 : (i : Int) ≤ (s.size : Int) := by omega
      have hkw : wr.heap[w.heap.size]? = _ := (HI.out.block w.heap.size (by have := HX.out.2.2.1; omega)).trans HX.out.2.2.2
      obtain ⟨y0, y1, y2⟩ := node_cells hkw
      clear hkw hi2
      have HKeep : Hid (∀ W, Below wr.heap.size wr W → (Below wr.heap.size wr W ∧ W.cell? ⟨w.heap.size, 0, none⟩ = some (.int .i64 k) ∧ W.cell? ⟨w.heap.size, 1, none⟩ = some (.slice a2 n2 c2) ∧ W.cell? ⟨w.heap.size, 2, none⟩ = some (.slice a3 n3 c3))) := fun W hW => by
        have u : ∀ {a : Addr} {v : Value}, wr.cell? a = some v → W.cell? a = some v := fun {a v} ha => (World.cell?_of_block (hW.block a.block (World.block_lt_of_cell? wr a ha))).trans ha
        exact ⟨hW, u y0, u y1, u y2⟩
      have HC : Hid (∀ W, Below wr.heap.size wr W → Calls Try.prog 26 #[.string s, .int .i64 (i : Int)] W fun e w' => ∃ g, e = .returned (.slice (some ⟨g, 0, none⟩) (s.size + 1) (s.size + 1)) ∧ Br g (fromL s.size i) w' ∧ Below wr.heap.size wr w') := fun W hW => by
        refine (from_any s i W hs hlt).mono ?_
        rintro e w1 ⟨v1, rfl, ⟨g2, hg2, hb2⟩, hB1⟩
        rw [show (fromL s.size i).length = s.size + 1 by simp [fromL]] at hg2
        exact ⟨g2, by rw [hg2], hb2, hW.trans (hB1.mono hW.size)⟩
      have HC2 : Hid (∀ W g, Below wr.heap.size wr W → Br g (fromL s.size i) W → Calls Try.prog 25 #[.agg #[.int .i64 k, .slice a2 n2 c2, .slice a3 n3 c3], .string s, .slice (some ⟨g, 0, none⟩) (s.size + 1) (s.size + 1)] W fun e w' => ∃ g, e = .returned (.slice (some ⟨g, 0, none⟩) (s.size + 1) (s.size + 1)) ∧ Br g (ends (bl s) n (fromL s.size i)) w' ∧ Below wr.heap.size wr w') := fun W g hW hg => by
        have hfl : (fromL s.size i).length = s.size + 1 := by simp [fromL]
        refine (HE.out s (fromL s.size i) (.slice (some ⟨g, 0, none⟩) (s.size + 1) (s.size + 1)) k _ _ A W hs (NA_below (NA_below HX.out.1 HI.out) hW) ⟨g, by rw [hfl], hg⟩ hfl).mono ?_
        rintro e w1 ⟨v1, rfl, ⟨g2, hg2, hb2⟩, hB1⟩
        rw [ends_len (bl s) n _ (by rw [hfl, bl_length]), bl_length] at hg2
        exact ⟨g2, by rw [hg2], hb2, hW.trans (hB1.mono hW.size)⟩
      go_wp2_with fail
      go_region_held3 (fun W => Below wr.heap.size wr W ∧ W.cell? ⟨w.heap.size, 0, none⟩ = some (.int .i64 k) ∧ W.cell? ⟨w.heap.size, 1, none⟩ = some (.slice a2 n2 c2) ∧ W.cell? ⟨w.heap.size, 2, none⟩ = some (.slice a3 n3 c3))
        (first | exact HKeep.out _ (Below.refl _ _).drew | exact HKeep.out _ (Below.refl _ _) | exact HKeep.out _ hq2 | exact HKeep.out _ hq1 | exact HKeep.out _ hq1.drew | exact HKeep.out _ hq2.drew)
        (first | (go_at_call 26; refine (HC.out _ (Below.refl _ wr).drew).mono ?_; rintro e w1 ⟨g1, rfl, hb1, hq1⟩) | (go_at_call 25; refine (HC2.out _ g1 hq1 hb1).mono ?_; rintro e w2 ⟨g2, rfl, hb2, hq2⟩))
      all_goals
        have HZ : Hid (Br g2 (ends (bl s) n (from1 (bl s).length i)) w2 ∧ Below wr.heap.size wr w2) := ⟨by rw [bl_length, ← fromL_from1]; exact hb2, hq2⟩
        have HM : Hid (∀ k, M (bl s) n i k ↔ (ends (bl s) n (from1 (bl s).length i))[k]? = some true) := fun k => M_ends (bl s) n i k (by rw [bl_length]; exact hlt)
        have HL : Hid ((ends (bl s) n (from1 (bl s).length i)).length = s.size + 1) := by have := ends_len (bl s) n (from1 (bl s).length i) (by simp [from1]); rwa [bl_length] at this ⊢
        clear hb1 hb2 hq1 hq2 y0 y1 y2 HC HC2 HKeep
        go_wp2_with fail
        go_loopw [11] (fun vk W => ∃ j : Nat, i ≤ j ∧ j ≤ s.size + 1 ∧ vk = .int .i64 ((j : Int) - 1) ∧ Hid (∀ e', j ≤ e' → ¬ M (bl s) n i e') ∧ W = w2) (fun vk _ => ((intOf vk) + 1).toNat)
        case atStart => exact ⟨s.size + 1, by omega, Nat.le_refl _, by simp, fun e' h1 h2 => by have := (HMl.out i e' h2 hlt).2; omega, rfl⟩
        case round =>
          obtain ⟨j, hj1, hj2, rfl, HJ, hW⟩ := hrel
          subst hW
          by_cases hlt3 : i < j
          · obtain ⟨m, rfl⟩ : ∃ m, j = m + 1 := ⟨j - 1, by omega⟩
            have e1 : ((m + 1 : Nat) : Int) - 1 = (m : Int) := by omega
            rw [e1]
            have hl4 : (i : Int) ≤ (m : Int) := by omega
            have hl5 : (m : Int) < (s.size : Int) + 1 := by omega
            obtain ⟨x, hx⟩ : ∃ x, (ends (bl s) n (from1 (bl s).length i))[m]? = some x := ⟨_, List.getElem?_eq_getElem (by have := HL.out; omega)⟩
            have cE := HZ.out.1.cell m x hx
            have HXm : Hid (_ = some x) := hx
            clear e1 hx
            cases x with
            | true =>
              go_wp2_with fail
              refine bodyPost_ret (by simp [results, Try.results14, go_sem]; try rfl) rfl ?_
              have hM := (HM.out m).2 HXm.out
              refine ⟨(i, m, true), rfl, .inr ⟨i, m, rfl, hi1, by rw [bl_length]; exact hlt, hM, fun e' he => ?_, HQ.out⟩, HX.out.2.1.trans ((HI.out.trans (HZ.out.2.mono HI.out.size)).mono HX.out.2.1.size)⟩
              rcases Nat.lt_or_ge e' (m + 1) with h | h
              · omega
              · exact absurd he (HJ.out e' h)
            | false =>
              have HJ2 : Hid (∀ e', m ≤ e' → ¬ M (bl s) n i e') := fun e' he hM => by
                rcases Nat.lt_or_ge m e' with h | h
                · exact HJ.out e' h hM
                · have : e' = m := by omega
                  subst this
                  have := (HM.out e').1 hM
                  rw [HXm.out] at this
                  cases this
              go_wp2_with fail
              go_roundw
              case rel => exact ⟨m, by omega, by omega, by go_num, HJ2, by first | rfl | trivial⟩
              case measure => simp [intOf]
          · have hjq : j = i := by omega
            subst hjq
            have hl4 : ¬ (j : Int) ≤ (j : Int) - 1 := by omega
            have HQ2 : Hid (∀ p' e', f ≤ p' → p' < j + 1 → ¬ M (bl s) n p' e') := fun p' e' h1 h2 hM => by
              rcases Nat.lt_or_ge p' j with h | h
              · exact HQ.out p' e' h1 h hM
              · have : p' = j := by omega
                subst this
                exact HJ.out e' (HMl.out p' e' hM hlt).1 hM
            go_wp2_with fail
            go_roundw
            case rel => exact ⟨j + 1, by omega, by omega, by go_num, HQ2, HI.out.trans (HZ.out.2.mono HI.out.size)⟩
            case measure => simp [intOf]; omega
    · have hl2 : ¬ (i : Int) ≤ (s.size : Int) := by omega
      go_wp2_with fail
      refine bodyPost_ret (by simp [results, Try.results14, go_sem]; try rfl) rfl ?_
      exact ⟨0, 0, .inl ⟨rfl, .inl ⟨rfl, fun p e h1 h2 => HQ.out p e h1 (by rw [bl_length] at h2; omega)⟩, HX.out.2.1.trans (HI.out.mono HX.out.2.1.size)⟩⟩
set_option maxRecDepth 20000 in
set_option maxHeartbeats 600000 in
theorem rfind_neg (s : ByteArray) (f : Int) (k : Int) (sv kv : Value) (w : World) (h1 : IsSl sv) (h2 : IsSl kv) (hf : f < 0) : Calls Try.prog 14 #[nodeV k sv kv, .string s, .int .i64 f] w fun e w' => e = .returned (findV (0, 0, false)) ∧ Below w.heap.size w w' := by
  obtain ⟨a2, n2, c2, rfl⟩ := h1
  obtain ⟨a3, n3, c3, rfl⟩ := h2
  obtain ⟨wn, hwn, hBn, hSn, hkn⟩ := one_box w (.cells #[.int .i64 k, .slice a2 n2 c2, .slice a3 n3 c3] 32)
  have HX : Hid (Below w.heap.size w wn) := hBn
  clear hBn hSn hkn
  simp only [nodeV]
  go_enter Try.func14, Try.ntmps14
  go_wp2_with fail
  refine bodyPost_ret (by simp [results, Try.results14, go_sem]; try rfl) rfl ?_
  rw [show w.alloc (Obj.cells #[Value.int IntKind.i64 k, Value.slice a2 n2 c2, Value.slice a3 n3 c3] 32) = wn from hwn.symm]
  exact ⟨rfl, HX.out⟩
set_option maxRecDepth 20000 in
set_option maxHeartbeats 600000 in
theorem ris_any (n : Nd) (hT : Tiny n) (s : ByteArray) (k : Int) (sv kv : Value) (A : Nat → Prop) (w : World) (hs : s.size ≤ 500) (hn : NA w A n k sv kv) : Calls Try.prog 16 #[nodeV k sv kv, .string s] w fun e w' => ∃ o, e = .returned (.bool o) ∧ (o = true ↔ M (bl s) n 0 (bl s).length) ∧ Below w.heap.size w w' := by
  obtain ⟨⟨a2, n2, c2, rfl⟩, ⟨a3, n3, c3, rfl⟩⟩ := NA_sl hn
  obtain ⟨wr, hwn, hBn, hSn, hkn⟩ := one_box w (.cells #[.int .i64 k, .slice a2 n2 c2, .slice a3 n3 c3] 32)
  have HX : Hid (NA wr A n k (.slice a2 n2 c2) (.slice a3 n3 c3) ∧ Below w.heap.size w wr) := ⟨NA_below hn hBn, hBn⟩
  have HE : Hid (EndsC n) := ends_all n hT
  obtain ⟨y0, y1, y2⟩ := node_cells hkn
  clear hn hBn hSn hkn hT
  have HKeep : Hid (∀ W, Below wr.heap.size wr W → (Below wr.heap.size wr W ∧ W.cell? ⟨w.heap.size, 0, none⟩ = some (.int .i64 k) ∧ W.cell? ⟨w.heap.size, 1, none⟩ = some (.slice a2 n2 c2) ∧ W.cell? ⟨w.heap.size, 2, none⟩ = some (.slice a3 n3 c3))) := fun W hW => by
    have u : ∀ {a : Addr} {v : Value}, wr.cell? a = some v → W.cell? a = some v := fun {a v} ha => (World.cell?_of_block (hW.block a.block (World.block_lt_of_cell? wr a ha))).trans ha
    exact ⟨hW, u y0, u y1, u y2⟩
  have HC : Hid (∀ W, Below wr.heap.size wr W → Calls Try.prog 26 #[.string s, .int .i64 0] W fun e w' => ∃ g, e = .returned (.slice (some ⟨g, 0, none⟩) (s.size + 1) (s.size + 1)) ∧ Br g (fromL s.size 0) w' ∧ Below wr.heap.size wr w') := fun W hW => by
    refine (from_any s 0 W hs (Nat.zero_le _)).mono ?_
    rintro e w1 ⟨v1, rfl, ⟨g2, hg2, hb2⟩, hB1⟩
    rw [show (fromL s.size 0).length = s.size + 1 by simp [fromL]] at hg2
    exact ⟨g2, by rw [hg2], hb2, hW.trans (hB1.mono hW.size)⟩
  have HC2 : Hid (∀ W g, Below wr.heap.size wr W → Br g (fromL s.size 0) W → Calls Try.prog 25 #[.agg #[.int .i64 k, .slice a2 n2 c2, .slice a3 n3 c3], .string s, .slice (some ⟨g, 0, none⟩) (s.size + 1) (s.size + 1)] W fun e w' => ∃ g o, e = .returned (.slice (some ⟨g, 0, none⟩) (s.size + 1) (s.size + 1)) ∧ w'.cell? ⟨g, s.size, none⟩ = some (.bool o) ∧ (o = true ↔ M (bl s) n 0 (bl s).length) ∧ Below wr.heap.size wr w') := fun W g hW hg => by
    have hfl : (fromL s.size 0).length = s.size + 1 := by simp [fromL]
    refine (HE.out s (fromL s.size 0) (.slice (some ⟨g, 0, none⟩) (s.size + 1) (s.size + 1)) k _ _ A W hs (NA_below HX.out.1 hW) ⟨g, by rw [hfl], hg⟩ hfl).mono ?_
    rintro e w1 ⟨v1, rfl, ⟨g2, hg2, hb2⟩, hB1⟩
    have hel := ends_len (bl s) n (fromL s.size 0) (by rw [hfl, bl_length])
    rw [hel, bl_length] at hg2
    obtain ⟨x, hx⟩ : ∃ x, (ends (bl s) n (fromL s.size 0))[s.size]? = some x := ⟨_, List.getElem?_eq_getElem (by rw [hel, bl_length]; omega)⟩
    refine ⟨g2, x, by rw [hg2], hb2.cell s.size x hx, ?_, hW.trans (hB1.mono hW.size)⟩
    rw [M_ends (bl s) n 0 _ (Nat.zero_le _), bl_length, ← fromL_from1, hx]
    simp
  simp only [nodeV]
  rw [hwn] at HKeep HC HC2 HX y0 y1 y2
  go_enter Try.func16, Try.ntmps16
  go_wp2_with fail
  rw [← hwn] at HKeep HC HC2 HX y0 y1 y2 ⊢
  clear hwn
  go_region_with (first | (go_at_call 26; refine (HC.out _ (Below.refl _ wr).drew).mono ?_; rintro e w1 ⟨g1, rfl, hb1, hq1⟩; have q0 := (HKeep.out _ hq1).2.1; have q1 := (HKeep.out _ hq1).2.2.1; have q2 := (HKeep.out _ hq1).2.2.2) | (go_at_call 25; refine (HC2.out _ g1 hq1 hb1).mono ?_; rintro e w2 ⟨g2, o, rfl, cE, ho, hq2⟩))
  all_goals
    have HZ : Hid ((o = true ↔ M (bl s) n 0 (bl s).length) ∧ Below wr.heap.size wr w2) := ⟨ho, hq2⟩
    clear hb1 hq1 hq2 y0 y1 y2 HC HC2 HKeep ho
    go_wp2_with fail
    go_ret
    exact ⟨o, rfl, HZ.out.1, HX.out.2.trans (HZ.out.2.mono HX.out.2.size)⟩

theorem far_any (p s : ByteArray) (w : World) (hp : p.size ≤ 140737488355328) (hs : s.size ≤ 140737488355328) : Calls Try.prog 12 #[.string p, .string s] w fun e w' => e = .returned (.bool (decide (300 < p.size ∨ 60 < s.size))) ∧ w = w' := by
  by_cases h : 300 < p.size
  · have h1 : (300 : Int) < (p.size : Int) := by omega
    have h2 : decide (300 < p.size ∨ 60 < s.size) = true := by simp; omega
    rw [h2]
    clear h2
    go_enter Try.func12, Try.ntmps12
    go_wp2
    go_ret
    exact ⟨rfl, rfl⟩
  · have h1 : ¬ (300 : Int) < (p.size : Int) := by omega
    by_cases h3 : 60 < s.size
    · have h4 : (60 : Int) < (s.size : Int) := by omega
      have h2 : decide (300 < p.size ∨ 60 < s.size) = true := by simp; omega
      rw [h2]
      clear h2
      go_enter Try.func12, Try.ntmps12
      go_wp2
      go_ret
      exact ⟨rfl, rfl⟩
    · have h4 : ¬ (60 : Int) < (s.size : Int) := by omega
      have h2 : decide (300 < p.size ∨ 60 < s.size) = false := by simp; omega
      rw [h2]
      clear h2
      go_enter Try.func12, Try.ntmps12
      go_wp2
      go_ret
      exact ⟨rfl, rfl⟩
theorem int_range {f : Int} (h : (Lit.int .i64 f).wf = true) : -9223372036854775808 ≤ f ∧ f ≤ 9223372036854775807 := by
  have h2 : (decide (IntKind.i64.min ≤ f) && decide (f ≤ IntKind.i64.max)) = true := h
  simp only [Bool.and_eq_true, decide_eq_true_eq] at h2
  exact h2
/-- What is found, from any place on. -/
def FP (s : List UInt8) (n : Nd) (f : Int) (x : Nat × Nat × Bool) : Prop := (f < 0 ∧ x = (0, 0, false)) ∨ ∃ m : Nat, f = (m : Int) ∧ FoundP s n m x
theorem pfind (b : Nat) (t s : ByteArray) (k : List Nd) (f : Int) (w : World) (h : Made b t k w) (hs : s.size ≤ 500) (hf : f ≤ 9223372036854775807) : Calls Try.prog 13 #[.pointer (some ⟨b, 0, none⟩), .string s, .int .i64 f] w fun e w' => ∃ x1 x2 x3, e = .returned (.tuple #[.int .i64 ((x1 : Nat) : Int), .int .i64 ((x2 : Nat) : Int), .bool x3]) ∧ (∀ y, FP (bl s) (.alt k) f y → y = (x1, x2, x3)) ∧ Made b t k w' ∧ Wrote b w w' := by
  by_cases hn : f < 0
  · refine (find_neg b t s k f w h hn).mono ?_
    rintro e w' ⟨rfl, hB⟩
    refine ⟨0, 0, false, rfl, fun y hy => ?_, h.below hB, .of_below hB⟩
    rcases hy with ⟨_, rfl⟩ | ⟨m, rfl, _⟩
    · rfl
    · omega
  · obtain ⟨m, rfl⟩ : ∃ m : Nat, f = (m : Int) := ⟨f.toNat, by omega⟩
    refine (find_any steps_any b t s k m w h (by omega) (by omega)).mono ?_
    rintro e w' ⟨K, rfl, h1, h2, h3, h4⟩
    refine ⟨(headOf K).1, (headOf K).2.1, (headOf K).2.2, rfl, fun y hy => ?_, h3, h4⟩
    rcases hy with ⟨h0, _⟩ | ⟨m', hm, hy⟩
    · omega
    · have : m' = m := by omega
      subst this
      by_cases hl : m' ≤ s.size
      · exact (hy.head (h1 hl)).symm
      · rw [h2 (by omega), hy.none (by rw [bl_length]; omega)]; rfl
theorem rfind (n : Nd) (hT : Tiny n) (s : ByteArray) (f : Int) (k : Int) (sv kv : Value) (A : Nat → Prop) (w : World) (hs : s.size ≤ 500) (hf : f ≤ 9223372036854775807) (hn : NA w A n k sv kv) : Calls Try.prog 14 #[nodeV k sv kv, .string s, .int .i64 f] w fun e w' => ∃ x, e = .returned (findV x) ∧ FP (bl s) n f x ∧ Below w.heap.size w w' := by
  by_cases h : f < 0
  · obtain ⟨h1, h2⟩ := NA_sl hn
    refine (rfind_neg s f k sv kv w h1 h2 h).mono ?_
    rintro e w' ⟨rfl, hB⟩
    exact ⟨_, rfl, .inl ⟨h, rfl⟩, hB⟩
  · obtain ⟨m, rfl⟩ : ∃ m : Nat, f = (m : Int) := ⟨f.toNat, by omega⟩
    refine (rfind_any n hT s m k sv kv A w hs (by omega) hn).mono ?_
    rintro e w' ⟨x, rfl, h1, hB⟩
    exact ⟨x, rfl, .inr ⟨m, rfl, h1⟩, hB⟩
theorem NA_wrote {W W' : World} {A : Nat → Prop} {n : Nd} {k : Int} {sv kv : Value} {b : Nat} (h : NA W A n k sv kv) (hb : Wrote b W W') (hA : ¬ A b) : NA W' A n k sv kv := NA_keep (fun q hq hl => ⟨hq, hb.block q hl (fun e => hA (e ▸ hq))⟩) _ _ _ _ h
set_option maxRecDepth 20000 in
set_option maxHeartbeats 1000000 in
theorem finds_law (p s : ByteArray) (f : Int) (w : World) (hp : p.size ≤ 140737488355328) (hs : s.size ≤ 140737488355328) (hf2 : f ≤ 9223372036854775807) : Calls Try.prog 4 #[.string p, .string s, .int .i64 f] w fun e w' => e = .returned (.bool true) ∧ Below w.heap.size w w' := by
  have HA : Hid (∀ W, Calls Try.prog 8 #[] W fun e w' => e = .returned (.bool true) ∧ Below W.heap.size W w') := alive_any
  have HFar : Hid (∀ W, Calls Try.prog 12 #[.string p, .string s] W fun e w' => e = .returned (.bool (decide (300 < p.size ∨ 60 < s.size))) ∧ W = w') := fun W => far_any p s W hp hs
  by_cases hfar : 300 < p.size ∨ 60 < s.size
  · have hfd : decide (300 < p.size ∨ 60 < s.size) = true := by simpa using hfar
    rw [hfd] at HFar
    clear hfd hfar
    go_enter Try.func4, Try.ntmps4
    go_wp2_with fail
    refine (HFar.out _).mono ?_
    rintro e w1 ⟨rfl, rfl⟩
    go_wp2_with fail
    refine (HA.out _).mono ?_
    rintro e w1 ⟨rfl, hb⟩
    have HB : Hid (Below w.heap.size w w1) := hb
    clear hb
    go_wp2_with fail
    go_ret
    exact ⟨rfl, HB.out⟩
  · have hfd : decide (300 < p.size ∨ 60 < s.size) = false := by simpa using hfar
    rw [hfd] at HFar
    have hs2 : s.size ≤ 60 := by omega
    obtain ⟨c, hc⟩ := Comp.total (bl p)
    have HC : Hid (∀ W, Calls Try.prog 9 #[.string p] W (MadePost p W c)) := fun W => compile_made p c hc W
    have HR : Hid (∀ W, Calls Try.prog 10 #[.string p] W (RComp c W)) := fun W => rcompile_any p c hc W
    have hbe : ∀ (x y : Bool) (w : World), Sem.run Try.prog (binOp BinOp.eql 4 (.bool x) (.bool y)) w = .ok (.bool (x == y)) w := fun _ _ _ => rfl
    clear hfd hfar hp hs
    go_enter Try.func4, Try.ntmps4
    go_wp2_with fail
    refine (HFar.out _).mono ?_
    rintro e w0 ⟨rfl, rfl⟩
    go_wp2_with fail
    cases c with
    | inr x =>
      obtain ⟨y, a⟩ := x
      have hw : ¬ (y : Int) = 0 := by have := comp_why hc; omega
      have hw2 : ((y : Int) == 0) = false := by simp; omega
      clear hc
      refine (HC.out _).mono ?_
      rintro e w1 ⟨hB1, rfl⟩
      obtain ⟨wa, hwa, hBa, hSa, hka⟩ := one_box w1 (.cells #[.int .i64 (y : Int), .int .i64 (a : Int)] 26)
      obtain ⟨x1, hx1⟩ : ∃ x1, x1 = w1.heap.size := ⟨_, rfl⟩
      rw [← hx1] at hka
      have H1 : Hid (Below w.heap.size w wa ∧ wa.heap[x1]? = some (.cells #[.int .i64 (y : Int), .int .i64 (a : Int)] 26 (0, 0))) := ⟨hB1.trans (hBa.mono hB1.size), hka⟩
      clear hB1 hBa hSa hka HC
      simp only [faultV]
      go_wp2_with fail
      rw [← hwa, ← hx1]
      clear hwa hx1
      refine (HR.out _).mono ?_
      rintro e w2 ⟨hB2, k, sv, kv, ⟨a2, n2, c2, rfl⟩, ⟨a3, n3, c3, rfl⟩, rfl⟩
      obtain ⟨wb, hwb, hBb, hSb, hkn, hkb⟩ := two w2 (.cells #[.int .i64 k, .slice a2 n2 c2, .slice a3 n3 c3] 32) (.cells #[.int .i64 (y : Int), .int .i64 (a : Int)] 26)
      have hl1 := (Array.getElem?_eq_some_iff.1 H1.out.2).1
      have hq1 : wb.heap[x1]? = some (.cells #[.int .i64 (y : Int), .int .i64 (a : Int)] 26 (0, 0)) := (hBb.block _ (Nat.lt_of_lt_of_le hl1 hB2.size)).trans ((hB2.block _ hl1).trans H1.out.2)
      have c0 : wb.cell? ⟨x1, 0, none⟩ = some (.int .i64 (y : Int)) := by simp only [World.cell?, hq1]; rfl
      have c1 : wb.cell? ⟨x1, 1, none⟩ = some (.int .i64 (a : Int)) := by simp only [World.cell?, hq1]; rfl
      have d0 : wb.cell? ⟨w2.heap.size + 1, 0, none⟩ = some (.int .i64 (y : Int)) := by simp only [World.cell?, hkb]; rfl
      have d1 : wb.cell? ⟨w2.heap.size + 1, 1, none⟩ = some (.int .i64 (a : Int)) := by simp only [World.cell?, hkb]; rfl
      have H2 : Hid (Below w.heap.size w wb) := H1.out.1.trans ((hB2.mono H1.out.1.size).trans (hBb.mono (Nat.le_trans H1.out.1.size hB2.size)))
      clear hB2 hBb hSb hkb hkn HR hl1 hq1
      simp only [nodeV, faultV]
      rw [hwb] at c0 c1 d0 d1
      go_wp2_with fail
      rw [← hwb]
      clear hwb c0 c1 d0 d1
      refine (HA.out _).mono ?_
      rintro e w9 ⟨rfl, hb⟩
      have HB : Hid (Below w.heap.size w w9) := H2.out.trans (hb.mono H2.out.size)
      clear hb
      go_wp2_with fail
      go_ret
      exact ⟨rfl, HB.out⟩
    | inl K =>
      have HTn : Hid (Tiny (.alt K)) := comp_tiny hc
      clear hc
      refine (HC.out _).mono ?_
      rintro e w1 ⟨hB1, b, rfl, hl9, hm9⟩
      obtain ⟨wa, hwa, hBa, hSa, hka⟩ := one_box w1 (.cells #[.int .i64 0, .int .i64 0] 26)
      obtain ⟨x1, hx1⟩ : ∃ x1, x1 = w1.heap.size := ⟨_, rfl⟩
      rw [← hx1] at hka
      have HM1 : Hid (Made b p K wa) := hm9.below hBa
      have H1 : Hid (Below w.heap.size w wa ∧ wa.heap[x1]? = some (.cells #[.int .i64 0, .int .i64 0] 26 (0, 0))) := ⟨hB1.trans (hBa.mono hB1.size), hka⟩
      have HBl : Hid (w.heap.size ≤ b ∧ b < wa.heap.size) := ⟨hl9, by have := hm9.lt; have := hBa.size; omega⟩
      clear hB1 hBa hSa hka HC hl9 hm9
      simp only [faultV]
      go_wp2_with fail
      rw [← hwa, ← hx1]
      clear hwa hx1
      refine (HR.out _).mono ?_
      rintro e w2 ⟨hB2, k, sv, kv, ⟨a2, n2, c2, rfl⟩, ⟨a3, n3, c3, rfl⟩, rfl, hna⟩
      obtain ⟨wb, hwb, hBb, hSb, hkn, hkb⟩ := two w2 (.cells #[.int .i64 k, .slice a2 n2 c2, .slice a3 n3 c3] 32) (.cells #[.int .i64 0, .int .i64 0] 26)
      have hl1 := (Array.getElem?_eq_some_iff.1 H1.out.2).1
      have hq1 : wb.heap[x1]? = some (.cells #[.int .i64 0, .int .i64 0] 26 (0, 0)) := (hBb.block _ (Nat.lt_of_lt_of_le hl1 hB2.size)).trans ((hB2.block _ hl1).trans H1.out.2)
      have c0 : wb.cell? ⟨x1, 0, none⟩ = some (.int .i64 0) := by simp only [World.cell?, hq1]; rfl
      have c1 : wb.cell? ⟨x1, 1, none⟩ = some (.int .i64 0) := by simp only [World.cell?, hq1]; rfl
      have d0 : wb.cell? ⟨w2.heap.size + 1, 0, none⟩ = some (.int .i64 0) := by simp only [World.cell?, hkb]; rfl
      have d1 : wb.cell? ⟨w2.heap.size + 1, 1, none⟩ = some (.int .i64 0) := by simp only [World.cell?, hkb]; rfl
      have HB3 : Hid (Made b p K wb ∧ NA wb (fun j => wa.heap.size ≤ j) (.alt K) k (.slice a2 n2 c2) (.slice a3 n3 c3) ∧ wb.heap[w2.heap.size]? = some (.cells #[.int .i64 k, .slice a2 n2 c2, .slice a3 n3 c3] 32 (0, 0)) ∧ wb.heap.size = w2.heap.size + 2 ∧ wa.heap.size ≤ w2.heap.size) := ⟨(HM1.out.below hB2).below hBb, NA_below hna hBb, hkn, by rw [hSb], hB2.size⟩
      have H2 : Hid (Below w.heap.size w wb) := H1.out.1.trans ((hB2.mono H1.out.1.size).trans (hBb.mono (Nat.le_trans H1.out.1.size hB2.size)))
      clear hB2 hBb hSb hkb hkn HR hl1 hq1 hna
      simp only [nodeV, faultV]
      rw [hwb] at c0 c1 d0 d1
      go_wp2_with fail
      rw [← hwb]
      clear hwb c0 c1 d0 d1
      have HNb : Hid (∀ W, Wrote b wb W → NA W (fun j => wa.heap.size ≤ j) (.alt K) k (.slice a2 n2 c2) (.slice a3 n3 c3) ∧ W.cell? ⟨w2.heap.size, 0, none⟩ = some (.int .i64 k) ∧ W.cell? ⟨w2.heap.size, 1, none⟩ = some (.slice a2 n2 c2) ∧ W.cell? ⟨w2.heap.size, 2, none⟩ = some (.slice a3 n3 c3) ∧ Below w.heap.size w W) := fun W hW => by
        have h2 := HB3.out.2.2.2
        have h3 := HBl.out.2
        obtain ⟨y0, y1, y2⟩ := node_cells ((hW.block w2.heap.size (by omega) (by omega)).trans HB3.out.2.2.1)
        exact ⟨NA_wrote HB3.out.2.1 hW (by omega), y0, y1, y2, H2.out.trans (hW.below HBl.out.1 H2.out.size)⟩
      refine (pfind b p s K f wb HB3.out.1 (by omega) hf2).mono ?_
      rintro e w3 ⟨u1, u2, u3, rfl, hu, hm3, hw3⟩
      obtain ⟨hna3, y0, y1, y2, _⟩ := HNb.out _ hw3
      have HF : Hid (Calls Try.prog 14 #[.agg #[.int .i64 k, .slice a2 n2 c2, .slice a3 n3 c3], .string s, .int .i64 f] w3 fun e w' => e = .returned (.tuple #[.int .i64 (u1 : Int), .int .i64 (u2 : Int), .bool u3]) ∧ Below w3.heap.size w3 w') := by
        refine (rfind (.alt K) HTn.out s f k _ _ _ w3 (by omega) hf2 hna3).mono ?_
        rintro e w' ⟨x, rfl, hx, hB⟩
        rw [hu x hx]
        exact ⟨rfl, hB⟩
      have H3 : Hid (Made b p K w3 ∧ Wrote b wb w3) := ⟨hm3, hw3⟩
      clear hu hm3 hw3 hna3
      go_wp2_with fail
      refine HF.out.mono ?_
      rintro e w4 ⟨rfl, hB4⟩
      have H4 : Hid (Made b p K w4 ∧ Wrote b wb w4) := ⟨H3.out.1.below hB4, H3.out.2.trans (.of_below hB4)⟩
      clear hB4 H3 HF y0 y1 y2
      have HI1 : Hid (∀ W, Wrote b wb W → Made b p K W → Calls Try.prog 15 #[.pointer (some ⟨b, 0, none⟩), .string s] W fun e w' => (∃ o, e = .returned (.bool o) ∧ (o = true ↔ M (bl s) (.alt K) 0 (bl s).length)) ∧ Made b p K w' ∧ Wrote b wb w') := fun W h1 h2 => by
        refine (is_any steps_any b p s K W h2 (by omega)).mono ?_
        rintro e w' ⟨h3, h4, h5⟩
        exact ⟨h3, h4, h1.trans h5⟩
      have HI2 : Hid (∀ W o, Wrote b wb W → (o = true ↔ M (bl s) (.alt K) 0 (bl s).length) → Calls Try.prog 16 #[.agg #[.int .i64 k, .slice a2 n2 c2, .slice a3 n3 c3], .string s] W fun e w' => e = .returned (.bool o) ∧ Wrote b wb w') := fun W o h1 h2 => by
        refine (ris_any (.alt K) HTn.out s k _ _ _ W (by omega) (HNb.out W h1).1).mono ?_
        rintro e w' ⟨o', rfl, h3, h4⟩
        have : o' = o := by
          have := h3.trans h2.symm
          cases o <;> cases o' <;> simp_all
        rw [this]
        exact ⟨rfl, h1.trans (.of_below h4)⟩
      have y0 := (HNb.out _ H4.out.2).2.1
      have y1 := (HNb.out _ H4.out.2).2.2.1
      have y2 := (HNb.out _ H4.out.2).2.2.2.1
      have hbx : ∀ b : Bool, (b == b) = true := by decide
      go_wp2_with fail
      have HKeep : Hid (∀ W, Wrote b wb W → (W.cell? ⟨w2.heap.size, 0, none⟩ = some (.int .i64 k) ∧ W.cell? ⟨w2.heap.size, 1, none⟩ = some (.slice a2 n2 c2) ∧ W.cell? ⟨w2.heap.size, 2, none⟩ = some (.slice a3 n3 c3))) := fun W hW => ⟨(HNb.out _ hW).2.1, (HNb.out _ hW).2.2.1, (HNb.out _ hW).2.2.2.1⟩
      go_region_held3 (fun W => W.cell? ⟨w2.heap.size, 0, none⟩ = some (.int .i64 k) ∧ W.cell? ⟨w2.heap.size, 1, none⟩ = some (.slice a2 n2 c2) ∧ W.cell? ⟨w2.heap.size, 2, none⟩ = some (.slice a3 n3 c3))
        (first | exact HKeep.out _ H4.out.2.drew | exact HKeep.out _ H4.out.2 | exact HKeep.out _ hw6 | exact HKeep.out _ hw5 | exact HKeep.out _ hw5.drew | exact HKeep.out _ (hw6.trans (.of_below hb9)))
        (first | (go_at_call 15; refine (HI1.out _ H4.out.2.drew (H4.out.1.below (Below.refl _ _).drew)).mono ?_; rintro e w5 ⟨⟨o5, rfl, ho⟩, hm5, hw5⟩) | (go_at_call 16; refine (HI2.out _ o5 hw5 ho).mono ?_; rintro e w6 ⟨rfl, hw6⟩) | (go_at_call 8; refine (HA.out _).mono ?_; rintro e w9 ⟨rfl, hb9⟩))
      all_goals
        have HB : Hid (Below w.heap.size w w9) := by
          have := (HNb.out _ hw6).2.2.2.2
          exact this.trans (hb9.mono this.size)
        clear hb9 hw6 hw5 hm5 ho y0 y1 y2
        go_wp2_with fail
        go_ret
        exact ⟨rfl, HB.out⟩
theorem finds_rx (p s : ByteArray) (f : Int) (w : World) (hp : p.size ≤ 140737488355328) (hs : s.size ≤ 140737488355328) (hf : (Lit.int .i64 f).wf = true) : Calls Try.prog 4 #[.string p, .string s, .int .i64 f] w fun e w' => e = .returned (.bool true) ∧ Below w.heap.size w w' := finds_law p s f w hp hs (int_range hf).2
end Go.Proofs.Ytmmhajlfbjjocaa
