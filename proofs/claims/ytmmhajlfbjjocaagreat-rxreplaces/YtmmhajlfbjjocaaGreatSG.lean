/-
  Where a part may end, what is found, what is replaced and what is quoted by the document's own package; the law RxReplaces.
-/
import Derived.Test.YtmmhajlfbjjocaaGreatR1
import Derived.Deep.RegionLaw
import Derived.Deep.RegionHeld3
import Derived.Test.YtmmhajlfbjjocaaGreatRxLaw
import Derived.Test.YtmmhajlfbjjocaaGreatPFind
import Derived.Test.YtmmhajlfbjjocaaGreatPRepl
import Derived.Lib.AppendStr
import Derived.Lib.BufferRead
import Derived.Test.YtmmhajlfbjjocaaGreatPQuote
import Derived.Test.YtmmhajlfbjjocaaGreatRC
import Derived.Test.YtmmhajlfbjjocaaGreatPAlive
namespace Go.Proofs.YtmmhajlfbjjocaaGreat
open Go.RowKit Go.Shelf RxSem


/-- A row of bools, as a slice. -/
def BV (W : World) (v : Value) (l : List Bool) : Prop := ∃ g, v = .slice (some ⟨g, 0, none⟩) l.length l.length ∧ Br g l W
theorem BV.below {W W' : World} {v : Value} {l : List Bool} (h : BV W v l) (hb : Below W.heap.size W W') : BV W' v l := by
  obtain ⟨g, h1, h2⟩ := h
  exact ⟨g, h1, h2.below hb⟩
def bothL (a c : List Bool) (i : Nat) : List Bool := (both a c).take i ++ List.replicate (a.length - i) false
theorem bothL_len (a c : List Bool) (i : Nat) (h : a.length = c.length) (hi : i ≤ a.length) : (bothL a c i).length = a.length := by
  simp [bothL, both_len h]; omega
theorem bothL_set (a c : List Bool) (i : Nat) (x y : Bool) (h : a.length = c.length) (hx : a[i]? = some x) (hy : c[i]? = some y) : (bothL a c i).set i (x || y) = bothL a c (i + 1) := by
  have hi := (List.getElem?_eq_some_iff.1 hx).1
  have hb : (both a c)[i]? = some (x || y) := by unfold both; rw [List.getElem?_zipWith, hx, hy]
  have hbl := both_len h
  apply List.ext_getElem?
  intro j
  rw [List.getElem?_set, bothL_len a c i h (by omega)]
  have key : ∀ i j, i ≤ a.length → (bothL a c i)[j]? = if j < i then (both a c)[j]? else if j < a.length then some false else none := by
    intro i j hi
    unfold bothL
    by_cases hj : j < i
    · rw [List.getElem?_append_left (by simp; omega), List.getElem?_take_of_lt hj, if_pos hj]
    · rw [List.getElem?_append_right (by simp; omega), if_neg hj, List.getElem?_replicate]
      simp only [List.length_take, hbl]
      by_cases hj2 : j < a.length
      · rw [if_pos (by omega), if_pos hj2]
      · rw [if_neg (by omega), if_neg hj2]
  rw [key (i + 1) j (by omega), key i j (by omega)]
  by_cases e : i = j
  · subst e
    rw [if_pos rfl, if_pos hi, if_pos (by omega), hb]
  · rw [if_neg e]
    by_cases h1 : j < i
    · rw [if_pos h1, if_pos (by omega)]
    · rw [if_neg h1, if_neg (show ¬ j < i + 1 by omega)]
set_option maxRecDepth 20000 in
set_option maxHeartbeats 400000 in
theorem both_any (a c : List Bool) (va vc : Value) (w : World) (ha : BV w va a) (hc : BV w vc c) (hl : a.length = c.length) (hs : a.length ≤ 1000) : Calls Tryz.prog 46 #[va, vc] w fun e w' => ∃ v, e = .returned v ∧ BV w' v (both a c) ∧ Below w.heap.size w w' := by
  obtain ⟨ga, rfl, hA⟩ := ha
  obtain ⟨gc, rfl, hC⟩ := hc
  obtain ⟨n, hn⟩ : ∃ n, n = a.length := ⟨_, rfl⟩
  have hcn : c.length = n := by omega
  have hmk : (Instr.makeSlice 32 (.int .i64 (n : Int)) (.int .i64 (n : Int))).run Tryz.prog w = .ok (.slice (some ⟨w.heap.size, 0, none⟩) n n) (w.alloc (.cells (boolC (List.replicate n false)) 4)) := make_bool w n (by omega)
  obtain ⟨wa, hwa, hBa, hSa, hka⟩ := one_box w (.cells (boolC (List.replicate n false)) 4)
  rw [← hwa] at hmk
  have hla := hA.lt
  have hlc := hC.lt
  have H0 : Hid (Br w.heap.size (bothL a c 0) wa ∧ Below w.heap.size w wa) := ⟨by unfold bothL; rw [List.take_zero, List.nil_append, Nat.sub_zero, ← hn]; exact hka, hBa⟩
  have HN : Hid (n = a.length ∧ a.length = c.length ∧ Br ga a w ∧ Br gc c w) := ⟨hn, hl, hA, hC⟩
  have hn9 : n ≤ 1000 := by omega
  rw [← hn, hcn]
  clear hwa hka hBa hSa hA hC hn hcn hl
  go_enter Tryz.func46, Tryz.ntmps46
  go_wp2_with fail
  go_loopw [6] (fun vi wr => ∃ i : Nat, i ≤ n ∧ vi = .int .i64 (i : Int) ∧ Hid (Br w.heap.size (bothL a c i) wr ∧ Below w.heap.size w wr)) (fun vi _ => n - (intOf vi).toNat)
  case atStart => exact ⟨0, Nat.zero_le _, rfl, H0⟩
  case round =>
    clear H0 hmk
    obtain ⟨i, hi, rfl, HI⟩ := hrel
    by_cases hlt : i < n
    · have hl2 : (i : Int) < (n : Int) := by omega
      have hia : i < a.length := by have := HN.out.1; omega
      have hic : i < c.length := by have := HN.out; omega
      obtain ⟨x, hx⟩ : ∃ x, a[i]? = some x := ⟨_, List.getElem?_eq_getElem hia⟩
      obtain ⟨y, hy⟩ : ∃ y, c[i]? = some y := ⟨_, List.getElem?_eq_getElem hic⟩
      have hAw : Br ga a wr := (HI.out.2.block ga hla).trans HN.out.2.2.1
      have hCw : Br gc c wr := (HI.out.2.block gc hlc).trans HN.out.2.2.2
      have cA := hAw.cell i x hx
      have cC := hCw.cell i y hy
      have fz := HI.out.1.frozen
      have hgl := HI.out.1.lt
      obtain ⟨z, hz⟩ : ∃ z, (bothL a c i)[i]? = some z := ⟨_, List.getElem?_eq_getElem (by rw [bothL_len a c i HN.out.2.1 (by omega)]; omega)⟩
      have cO := HI.out.1.cell i z hz
      have HS : Hid (Br w.heap.size (bothL a c (i + 1)) (wr.setCell ⟨w.heap.size, i, none⟩ (.bool (x || y))) ∧ Below w.heap.size w (wr.setCell ⟨w.heap.size, i, none⟩ (.bool (x || y)))) := by
        have h := HI.out.1.put i (x || y)
        rw [bothL_set a c i x y HN.out.2.1 hx hy] at h
        exact ⟨h, HI.out.2.setCell (Nat.le_refl _) _⟩
      clear hia hic hx hy hAw hCw hz
      cases x with
      | true =>
        go_wp2_with fail
        go_roundw
        case rel => exact ⟨i + 1, by omega, by go_num, HS⟩
        case measure => simp [intOf]; omega
      | false =>
        go_wp2_with fail
        go_roundw
        case rel => exact ⟨i + 1, by omega, by go_num, HS⟩
        case measure => simp [intOf]; omega
    · have hl2 : ¬ (i : Int) < (n : Int) := by omega
      go_wp2_with fail
      go_ret
      have hin : i = n := by omega
      have h := HI.out
      rw [hin, HN.out.1] at h
      have e : bothL a c a.length = both a c := by
        unfold bothL
        rw [List.take_of_length_le (by rw [both_len HN.out.2.1]; exact Nat.le_refl _), Nat.sub_self, List.replicate_zero, List.append_nil]
      rw [e] at h
      exact ⟨_, rfl, ⟨w.heap.size, by rw [both_len HN.out.2.1, ← HN.out.1]; rfl, h.1⟩, h.2⟩
def fromL (N i : Nat) : List Bool := (List.replicate (N + 1) false).set i true
set_option maxRecDepth 20000 in
set_option maxHeartbeats 400000 in
theorem from_any (s : ByteArray) (i : Nat) (w : World) (hs : s.size ≤ 500) (hi : i ≤ s.size) : Calls Tryz.prog 36 #[.string s, .int .i64 (i : Int)] w fun e w' => ∃ v, e = .returned v ∧ BV w' v (fromL s.size i) ∧ Below w.heap.size w w' := by
  have hmk : (Instr.makeSlice 32 (.int .i64 ((s.size : Int) + 1)) (.int .i64 ((s.size : Int) + 1))).run Tryz.prog w = .ok (.slice (some ⟨w.heap.size, 0, none⟩) (s.size + 1) (s.size + 1)) (w.alloc (.cells (boolC (List.replicate (s.size + 1) false)) 4)) := by
    have := make_bool w (s.size + 1) (by omega)
    simpa using this
  obtain ⟨wa, hwa, hBa, hSa, hka⟩ := one_box w (.cells (boolC (List.replicate (s.size + 1) false)) 4)
  rw [← hwa] at hmk
  have hB : Br w.heap.size (List.replicate (s.size + 1) false) wa := hka
  have fz := hB.frozen
  have hl := hB.lt
  have c0 := hB.cell i false (by rw [List.getElem?_replicate, if_pos (by omega)])
  have hi2 : (i : Int) < (s.size : Int) + 1 := by omega
  have HS : Hid (Br w.heap.size (fromL s.size i) (wa.setCell ⟨w.heap.size, i, none⟩ (.bool true)) ∧ Below w.heap.size w (wa.setCell ⟨w.heap.size, i, none⟩ (.bool true))) := ⟨hB.put i true, hBa.setCell (Nat.le_refl _) _⟩
  clear hwa hBa hSa hka hB
  go_enter Tryz.func36, Tryz.ntmps36
  go_wp2_with fail
  go_ret
  exact ⟨_, rfl, ⟨w.heap.size, by simp [fromL], HS.out.1⟩, HS.out.2⟩

def EndsC (n : Nd) : Prop := ∀ (s : ByteArray) (a : List Bool) (va : Value) (k : Int) (sv kv : Value) (A : Nat → Prop) (w : World), s.size ≤ 500 → NA w A n k sv kv → BV w va a → a.length = s.size + 1 → Calls Tryz.prog 35 #[nodeV k sv kv, .string s, va] w fun e w' => ∃ v, e = .returned v ∧ BV w' v (ends (bl s) n a) ∧ Below w.heap.size w w'
/-- The parameter's box, and the row that is made. -/
theorem ends_start (k : Int) (sv kv : Value) (s : ByteArray) (w : World) (hs : s.size ≤ 500) : ∃ wn wa, wn = w.alloc (.cells #[.int .i64 k, sv, kv] 35) ∧ (Instr.makeSlice 32 (.int .i64 ((s.size : Int) + 1)) (.int .i64 ((s.size : Int) + 1))).run Tryz.prog wn = .ok (.slice (some ⟨w.heap.size + 1, 0, none⟩) (s.size + 1) (s.size + 1)) wa ∧ Br (w.heap.size + 1) (List.replicate (s.size + 1) false) wa ∧ wa.heap[w.heap.size]? = some (.cells #[.int .i64 k, sv, kv] 35 (0, 0)) ∧ Below w.heap.size w wa := by
  obtain ⟨wn, hwn, hBn, hSn, hkn⟩ := one_box w (.cells #[.int .i64 k, sv, kv] 35)
  obtain ⟨wa, hwa, hBa, hSa, hka⟩ := one_box wn (.cells (boolC (List.replicate (s.size + 1) false)) 4)
  have hm := make_bool wn (s.size + 1) (by omega)
  rw [hSn] at hm hka
  refine ⟨wn, wa, hwn, ?_, hka, (hBa.block _ (by omega)).trans hkn, hBn.trans (hBa.mono (by omega))⟩
  rw [hwa]
  simpa using hm
set_option maxRecDepth 20000 in
set_option maxHeartbeats 400000 in
theorem ends_none : EndsC .none := by
  intro s a va k sv kv A w hs hn hv hl
  rw [NA] at hn
  obtain ⟨rfl, rfl, rfl⟩ := hn
  obtain ⟨ga, rfl, hA⟩ := hv
  have hgal := hA.lt
  obtain ⟨wn, wa, hwn, hmk, hB, hnb, hBel⟩ := ends_start 0 (.slice none 0 0) (.slice none 0 0) s w hs
  obtain ⟨N, hN⟩ : ∃ N, N = a.length := ⟨_, rfl⟩
  obtain ⟨x0, x1, x2⟩ := node_cells hnb
  have fz := hB.frozen
  have hgl := hB.lt
  have hAa : Br ga a wa := (hBel.block ga hgal).trans hA
  have H0 : Hid (Br (w.heap.size + 1) (List.replicate (s.size + 1) false) wa ∧ Below w.heap.size w wa ∧ N = a.length ∧ a.length = s.size + 1 ∧ Br ga a wa ∧ wa.heap[w.heap.size]? = some (.cells #[.int .i64 0, (.slice none 0 0), (.slice none 0 0)] 35 (0, 0))) := ⟨hB, hBel, hN, hl, hAa, hnb⟩
  have hNs : N = s.size + 1 := by omega
  rw [hwn] at hmk
  rw [← hN]
  clear hB hBel hN hl hnb hA hAa hwn
  simp only [nodeV]
  go_enter Tryz.func35, Tryz.ntmps35
  rw [hNs]
  clear hNs
  go_wp2_with fail
  go_ret
  refine ⟨_, rfl, ⟨w.heap.size + 1, ?_, ?_⟩, H0.out.2.1⟩
  · rw [ends]; simp [bl_length]
  · rw [ends, bl_length]; exact H0.out.1
set_option maxRecDepth 20000 in
set_option maxHeartbeats 400000 in
theorem ends_bol : EndsC .bol := by
  intro s a va k sv kv A w hs hn hv hl
  rw [NA] at hn
  obtain ⟨rfl, rfl, rfl⟩ := hn
  obtain ⟨ga, rfl, hA⟩ := hv
  have hgal := hA.lt
  obtain ⟨wn, wa, hwn, hmk, hB, hnb, hBel⟩ := ends_start 2 (.slice none 0 0) (.slice none 0 0) s w hs
  obtain ⟨N, hN⟩ : ∃ N, N = a.length := ⟨_, rfl⟩
  obtain ⟨x0, x1, x2⟩ := node_cells hnb
  have fz := hB.frozen
  have hgl := hB.lt
  have hAa : Br ga a wa := (hBel.block ga hgal).trans hA
  have H0 : Hid (Br (w.heap.size + 1) (List.replicate (s.size + 1) false) wa ∧ Below w.heap.size w wa ∧ N = a.length ∧ a.length = s.size + 1 ∧ Br ga a wa ∧ wa.heap[w.heap.size]? = some (.cells #[.int .i64 2, (.slice none 0 0), (.slice none 0 0)] 35 (0, 0))) := ⟨hB, hBel, hN, hl, hAa, hnb⟩
  have hNs : N = s.size + 1 := by omega
  rw [hwn] at hmk
  rw [← hN]
  obtain ⟨x, hx⟩ : ∃ x, a[0]? = some x := ⟨a[0]'(by omega), List.getElem?_eq_getElem (by omega)⟩
  have cA := hAa.cell 0 x hx
  have cO := hB.cell 0 false (by rw [List.getElem?_replicate, if_pos (by omega)])
  have HX : Hid (a[0]? = some x) := hx
  clear hx
  clear hB hBel hN hl hnb hA hAa hwn
  simp only [nodeV]
  go_enter Tryz.func35, Tryz.ntmps35
  rw [hNs]
  clear hNs
  go_wp2_with fail
  go_ret
  have hb := H0.out.1.put 0 x
  refine ⟨_, rfl, ⟨w.heap.size + 1, ?_, ?_⟩, H0.out.2.1.setCell (show w.heap.size ≤ w.heap.size + 1 from Nat.le_succ _) _⟩
  · rw [ends]; simp [bl_length]
  · have e : ends (bl s) .bol a = (List.replicate (s.size + 1) false).set 0 x := by
      rw [ends, bl_length, List.replicate_succ, List.set_cons_zero]
      cases a with
      | nil => have := HX.out; simp at this
      | cons y t => have := HX.out; simp at this; simp [this]
    rw [e]; exact hb
set_option maxRecDepth 20000 in
set_option maxHeartbeats 400000 in
theorem ends_eol : EndsC .eol := by
  intro s a va k sv kv A w hs hn hv hl
  rw [NA] at hn
  obtain ⟨rfl, rfl, rfl⟩ := hn
  obtain ⟨ga, rfl, hA⟩ := hv
  have hgal := hA.lt
  obtain ⟨wn, wa, hwn, hmk, hB, hnb, hBel⟩ := ends_start 3 (.slice none 0 0) (.slice none 0 0) s w hs
  obtain ⟨N, hN⟩ : ∃ N, N = a.length := ⟨_, rfl⟩
  obtain ⟨x0, x1, x2⟩ := node_cells hnb
  have fz := hB.frozen
  have hgl := hB.lt
  have hAa : Br ga a wa := (hBel.block ga hgal).trans hA
  have H0 : Hid (Br (w.heap.size + 1) (List.replicate (s.size + 1) false) wa ∧ Below w.heap.size w wa ∧ N = a.length ∧ a.length = s.size + 1 ∧ Br ga a wa ∧ wa.heap[w.heap.size]? = some (.cells #[.int .i64 3, (.slice none 0 0), (.slice none 0 0)] 35 (0, 0))) := ⟨hB, hBel, hN, hl, hAa, hnb⟩
  have hNs : N = s.size + 1 := by omega
  rw [hwn] at hmk
  rw [← hN]
  obtain ⟨x, hx⟩ : ∃ x, a[s.size]? = some x := ⟨a[s.size]'(by omega), List.getElem?_eq_getElem (by omega)⟩
  have cA := hAa.cell s.size x hx
  have cO := hB.cell s.size false (by rw [List.getElem?_replicate, if_pos (by omega)])
  have HX : Hid (a[s.size]? = some x) := hx
  clear hx
  clear hB hBel hN hl hnb hA hAa hwn
  simp only [nodeV]
  go_enter Tryz.func35, Tryz.ntmps35
  rw [hNs]
  clear hNs
  go_wp2_with fail
  go_ret
  have hb := H0.out.1.put s.size x
  refine ⟨_, rfl, ⟨w.heap.size + 1, ?_, ?_⟩, H0.out.2.1.setCell (show w.heap.size ≤ w.heap.size + 1 from Nat.le_succ _) _⟩
  · rw [ends]; simp [bl_length]
  · have e : ends (bl s) .eol a = (List.replicate (s.size + 1) false).set s.size x := by
      rw [ends, bl_length, List.replicate_succ']
      have h1 := H0.out.2.2.2.1
      have h2 := HX.out
      have h3 : a.getLastD false = x := by
        rw [List.getLastD_eq_getLast?, List.getLast?_eq_getElem?, h1, Nat.add_sub_cancel, h2]; rfl
      rw [h3]
      simp
    rw [e]; exact hb
/-- The places behind a byte of the set, up to i. -/
def setEnds (f : UInt8 → Bool) (l : List UInt8) (a : List Bool) (i : Nat) : List Bool := (false :: List.zipWith (fun x c => x && f c) a l).take (i + 1) ++ List.replicate (l.length - i) false
theorem setEnds_get (f : UInt8 → Bool) (l : List UInt8) (a : List Bool) (ha : a.length = l.length + 1) (i j : Nat) (hi : i ≤ l.length) : (setEnds f l a i)[j]? = if j < i + 1 then (false :: List.zipWith (fun x c => x && f c) a l)[j]? else if j < l.length + 1 then some false else none := by
  have hz : (false :: List.zipWith (fun x c => x && f c) a l).length = l.length + 1 := by simp; omega
  unfold setEnds
  by_cases hj : j < i + 1
  · rw [List.getElem?_append_left (by rw [List.length_take, hz]; omega), List.getElem?_take_of_lt hj, if_pos hj]
  · rw [List.getElem?_append_right (by rw [List.length_take]; omega), if_neg hj, List.getElem?_replicate, List.length_take, hz]
    by_cases hj2 : j < l.length + 1
    · rw [if_pos (by omega), if_pos hj2]
    · rw [if_neg (by omega), if_neg hj2]
theorem setEnds_set (f : UInt8 → Bool) (l : List UInt8) (a : List Bool) (ha : a.length = l.length + 1) (i : Nat) (x : Bool) (c : UInt8) (hx : a[i]? = some x) (hc : l[i]? = some c) : (setEnds f l a i).set (i + 1) (x && f c) = setEnds f l a (i + 1) := by
  have hi := (List.getElem?_eq_some_iff.1 hc).1
  have hlen : (setEnds f l a i).length = l.length + 1 := by unfold setEnds; simp; omega
  have hz : (false :: List.zipWith (fun x c => x && f c) a l)[i + 1]? = some (x && f c) := by
    rw [List.getElem?_cons_succ, List.getElem?_zipWith, hx, hc]
  apply List.ext_getElem?
  intro j
  rw [List.getElem?_set, hlen, setEnds_get f l a ha (i + 1) j (by omega), setEnds_get f l a ha i j (by omega)]
  by_cases e : i + 1 = j
  · subst e
    rw [if_pos rfl, if_pos (by omega), if_pos (by omega), hz]
  · rw [if_neg e]
    by_cases h1 : j < i + 1
    · rw [if_pos h1, if_pos (show j < i + 1 + 1 by omega)]
    · rw [if_neg h1, if_neg (show ¬ j < i + 1 + 1 by omega)]
theorem setEnds_zero (f : UInt8 → Bool) (l : List UInt8) (a : List Bool) : setEnds f l a 0 = List.replicate (l.length + 1) false := by
  unfold setEnds
  simp [List.replicate_succ]
theorem setEnds_all (f : UInt8 → Bool) (l : List UInt8) (a : List Bool) (ha : a.length = l.length + 1) : setEnds f l a l.length = false :: List.zipWith (fun x c => x && f c) a l := by
  unfold setEnds
  rw [Nat.sub_self, List.replicate_zero, List.append_nil, List.take_of_length_le (by simp; omega)]
set_option maxRecDepth 20000 in
set_option maxHeartbeats 400000 in
theorem ends_set (f : UInt8 → Bool) : EndsC (.set f) := by
  intro s a va k sv kv A w hs hn hv hl
  rw [NA] at hn
  obtain ⟨rfl, rfl, gs, ls, rfl, hgs, hbs, hbits⟩ := hn
  obtain ⟨ga, rfl, hA⟩ := hv
  have hgal := hA.lt
  obtain ⟨wn, wa, hwn, hmk, hB, hnb, hBel⟩ := ends_start 1 (.slice (some ⟨gs, 0, none⟩) 256 256) (.slice none 0 0) s w hs
  obtain ⟨N, hN⟩ : ∃ N, N = a.length := ⟨_, rfl⟩
  obtain ⟨x0, x1, x2⟩ := node_cells hnb
  have fz := hB.frozen
  have hgl := hB.lt
  have hAa : Br ga a wa := (hBel.block ga hgal).trans hA
  have H0 : Hid (Br (w.heap.size + 1) (List.replicate (s.size + 1) false) wa ∧ Below w.heap.size w wa ∧ N = a.length ∧ a.length = s.size + 1 ∧ Br ga a wa ∧ wa.heap[w.heap.size]? = some (.cells #[.int .i64 1, (.slice (some ⟨gs, 0, none⟩) 256 256), (.slice none 0 0)] 35 (0, 0))) := ⟨hB, hBel, hN, hl, hAa, hnb⟩
  have hNs : N = s.size + 1 := by omega
  rw [hwn] at hmk
  rw [← hN]
  have hgsl := hbs.lt
  have HBt : Hid (Br gs ls wa ∧ Bits ls f) := ⟨(hBel.block gs hgsl).trans hbs, hbits⟩
  clear hbs hbits hgs
  clear hB hBel hN hl hnb hA hAa hwn
  simp only [nodeV]
  go_enter Tryz.func35, Tryz.ntmps35
  rw [hNs]
  clear hNs
  go_wp2_with fail
  go_loopw [8] (fun vi wr => ∃ i : Nat, i ≤ s.size ∧ vi = .int .i64 (i : Int) ∧ Hid (Br (w.heap.size + 1) (setEnds f (bl s) a i) wr ∧ Below (w.heap.size + 1) wa wr)) (fun vi _ => s.size - (intOf vi).toNat)
  case atStart => exact ⟨0, Nat.zero_le _, rfl, by rw [setEnds_zero, bl_length]; exact H0.out.1, Below.refl _ _⟩
  case round =>
    clear fz hgl hmk x0 x1 x2
    obtain ⟨i, hi, rfl, HI⟩ := hrel
    by_cases hlt : i < s.size
    · have hl2 : (i : Int) < (s.size : Int) := by omega
      have hi1 : (i : Int) + 1 < (s.size : Int) + 1 := by omega
      have hwb : w.heap.size + 1 ≤ wa.heap.size := by have := H0.out.1.lt; omega
      obtain ⟨x, hx⟩ : ∃ x, a[i]? = some x := ⟨a[i]'(by have := H0.out.2.2.2.1; omega), List.getElem?_eq_getElem (by have := H0.out.2.2.2.1; omega)⟩
      obtain ⟨xc, hxc⟩ : ∃ xc : Nat, s[i].toNat = xc := ⟨_, rfl⟩
      have hxl : xc < 256 := by rw [← hxc]; exact s[i].toNat_lt
      have hxl2 : (xc : Int) < 256 := by omega
      have hAw : Br ga a wr := (HI.out.2.block ga (by omega)).trans H0.out.2.2.2.2.1
      have hSw : Br gs ls wr := (HI.out.2.block gs (by omega)).trans HBt.out.1
      have hNw : wr.heap[w.heap.size]? = _ := (HI.out.2.block w.heap.size (by omega)).trans H0.out.2.2.2.2.2
      obtain ⟨y0, y1, y2⟩ := node_cells hNw
      have cA := hAw.cell i x hx
      have cS := hSw.cell xc (f s[i]) (by rw [← hxc]; exact HBt.out.2.2 s[i])
      obtain ⟨fc, hfc⟩ : ∃ fc, fc = f s[i] := ⟨_, rfl⟩
      rw [← hfc] at cS
      have fz := HI.out.1.frozen
      have hgl := HI.out.1.lt
      obtain ⟨z, hz⟩ : ∃ z, (setEnds f (bl s) a i)[i + 1]? = some z := ⟨_, List.getElem?_eq_getElem (by unfold setEnds; simp [bl_length]; have := H0.out.2.2.2.1; omega)⟩
      have cO := HI.out.1.cell (i + 1) z hz
      have HS : Hid (Br (w.heap.size + 1) (setEnds f (bl s) a (i + 1)) (wr.setCell ⟨w.heap.size + 1, i + 1, none⟩ (.bool (x && fc))) ∧ Below (w.heap.size + 1) wa (wr.setCell ⟨w.heap.size + 1, i + 1, none⟩ (.bool (x && fc)))) := by
        have h := HI.out.1.put (i + 1) (x && fc)
        rw [hfc, setEnds_set f (bl s) a (by rw [bl_length]; exact H0.out.2.2.2.1) i x s[i] hx (bl_get s i hlt), ← hfc] at h
        exact ⟨h, HI.out.2.setCell (Nat.le_refl _) _⟩
      clear hx hAw hSw hNw hz hfc
      cases x with
      | true =>
        go_wp2_with fail
        have hwrap : IntKind.i64.wrap ((i : Int) + 1) = (i : Int) + 1 := by (simp [IntKind.wrap, IntKind.bits, IntKind.signed]; omega)
        have hi0 : (0 : Int) ≤ (i : Int) := by omega
        have hiN : (i : Int) < (s.size : Int) + 1 := by omega
        go_region_with (fail)
        all_goals
          clear hwrap
          go_wp2_with fail
          exact ⟨⟨i + 1, by omega, by go_num, HS.out.1, HS.out.2.drew⟩, by simp [intOf]; omega⟩
      | false =>
        go_wp2_with fail
        have hwrap : IntKind.i64.wrap ((i : Int) + 1) = (i : Int) + 1 := by (simp [IntKind.wrap, IntKind.bits, IntKind.signed]; omega)
        have hi0 : (0 : Int) ≤ (i : Int) := by omega
        have hiN : (i : Int) < (s.size : Int) + 1 := by omega
        have hgne : ga ≠ w.heap.size + 1 := by omega
        have HKp : Hid (∀ v, (wr.setCell ⟨w.heap.size + 1, i + 1, none⟩ v).cell? ⟨ga, i, none⟩ = some (.bool false)) := fun v => (World.cell?_of_block (Below.heap_setCell _ _ _ _ hgne)).trans cA
        go_region
        all_goals
          clear hwrap
          go_wp2_with fail
          exact ⟨⟨i + 1, by omega, by go_num, HS.out.1, HS.out.2.drew⟩, by simp [intOf]; omega⟩
    · have hl2 : ¬ (i : Int) < (s.size : Int) := by omega
      go_wp2_with fail
      go_ret
      have hin : i = (bl s).length := by rw [bl_length]; omega
      have h := HI.out
      have hlb : a.length = (bl s).length + 1 := by rw [bl_length]; exact H0.out.2.2.2.1
      rw [hin, setEnds_all f (bl s) a hlb] at h
      refine ⟨_, rfl, ⟨w.heap.size + 1, ?_, ?_⟩, H0.out.2.1.trans (h.2.mono (by omega))⟩
      · rw [ends]
        simp [bl_length]
        have := H0.out.2.2.2.1
        omega
      · rw [ends]; exact h.1

theorem NA_below {W W' : World} {A : Nat → Prop} {n : Nd} {k : Int} {sv kv : Value} (h : NA W A n k sv kv) (hb : Below W.heap.size W W') : NA W' A n k sv kv := NA_keep (fun q hq hl => ⟨hq, hb.block q hl⟩) _ _ _ _ h
theorem NA_sl {W : World} {A : Nat → Prop} : ∀ {n : Nd} {k : Int} {sv kv : Value}, NA W A n k sv kv → IsSl sv ∧ IsSl kv := by
  intro n k sv kv h
  cases n with
  | none => rw [NA] at h; obtain ⟨_, rfl, rfl⟩ := h; exact ⟨sl_nil, sl_nil⟩
  | set f => rw [NA] at h; obtain ⟨_, rfl, g, l, rfl, _⟩ := h; exact ⟨⟨_, _, _, rfl⟩, sl_nil⟩
  | bol => rw [NA] at h; obtain ⟨_, rfl, rfl⟩ := h; exact ⟨sl_nil, sl_nil⟩
  | eol => rw [NA] at h; obtain ⟨_, rfl, rfl⟩ := h; exact ⟨sl_nil, sl_nil⟩
  | seq l =>
    rw [NA] at h
    obtain ⟨_, rfl, ⟨rfl, _⟩ | ⟨g, cap, cur, rfl, _⟩⟩ := h
    · exact ⟨sl_nil, sl_nil⟩
    · exact ⟨sl_nil, ⟨_, _, _, rfl⟩⟩
  | alt l =>
    rw [NA] at h
    obtain ⟨_, rfl, ⟨rfl, _⟩ | ⟨g, cap, cur, rfl, _⟩⟩ := h
    · exact ⟨sl_nil, sl_nil⟩
    · exact ⟨sl_nil, ⟨_, _, _, rfl⟩⟩
  | star n => rw [NA] at h; obtain ⟨_, rfl, g, _, _, _, rfl, _⟩ := h; exact ⟨sl_nil, ⟨_, _, _, rfl⟩⟩
  | plus n => rw [NA] at h; obtain ⟨_, rfl, g, _, _, _, rfl, _⟩ := h; exact ⟨sl_nil, ⟨_, _, _, rfl⟩⟩
  | opt n => rw [NA] at h; obtain ⟨_, rfl, g, _, _, _, rfl, _⟩ := h; exact ⟨sl_nil, ⟨_, _, _, rfl⟩⟩
theorem ends_len (s : List UInt8) (n : Nd) (a : List Bool) (h : a.length = s.length + 1) : (ends s n a).length = s.length + 1 := ((ends_ok s n) a h).1
theorem again_len (s : List UInt8) (n : Nd) (a : List Bool) (h : a.length = s.length + 1) (m : Nat) : (again (ends s n) m a).length = s.length + 1 := (again_ok (ends_ok s n) a h m).1
set_option maxRecDepth 20000 in
set_option maxHeartbeats 600000 in
theorem ragain_any (n : Nd) (hE : EndsC n) (s : ByteArray) (a : List Bool) (va : Value) (k : Int) (sv kv : Value) (A : Nat → Prop) (w : World) (hs : s.size ≤ 500) (hn : NA w A n k sv kv) (hv : BV w va a) (hl : a.length = s.size + 1) : Calls Tryz.prog 47 #[nodeV k sv kv, .string s, va] w fun e w' => ∃ v, e = .returned v ∧ BV w' v (again (ends (bl s) n) (s.size + 1) a) ∧ Below w.heap.size w w' := by
  obtain ⟨⟨a2, n2, c2, rfl⟩, ⟨a3, n3, c3, rfl⟩⟩ := NA_sl hn
  obtain ⟨wn, hwn, hBn, hSn, hkn⟩ := one_box w (.cells #[.int .i64 k, .slice a2 n2 c2, .slice a3 n3 c3] 35)
  have HX : Hid (NA wn A n k (.slice a2 n2 c2) (.slice a3 n3 c3) ∧ BV wn va a ∧ a.length = s.size + 1 ∧ Below w.heap.size w wn ∧ wn.heap.size = w.heap.size + 1 ∧ wn.heap[w.heap.size]? = some (.cells #[.int .i64 k, .slice a2 n2 c2, .slice a3 n3 c3] 35 (0, 0))) := ⟨NA_below hn hBn, hv.below hBn, hl, hBn, hSn, hkn⟩
  have HE : Hid (EndsC n) := hE
  obtain ⟨ga, rfl, hA⟩ := hv
  rw [hl]
  clear hn hA hl hE hBn hSn hkn
  simp only [nodeV]
  go_enter Tryz.func47, Tryz.ntmps47
  go_wp2_with fail
  rw [show w.alloc (Obj.cells #[Value.int IntKind.i64 k, Value.slice a2 n2 c2, Value.slice a3 n3 c3] 35) = wn from hwn.symm]
  clear hwn
  go_loopw [7, 8] (fun vo vi wr => ∃ i : Nat, i ≤ s.size + 1 ∧ vi = .int .i64 (i : Int) ∧ ∃ g, vo = .slice (some ⟨g, 0, none⟩) (s.size + 1) (s.size + 1) ∧ Hid (Br g (again (ends (bl s) n) i a) wr ∧ Below wn.heap.size wn wr)) (fun _ vi _ => s.size + 1 - (intOf vi).toNat)
  case atStart =>
    obtain ⟨g, h1, h2⟩ := HX.out.2.1
    rw [HX.out.2.2.1] at h1
    have hg : ga = g := by simpa using h1
    subst hg
    exact ⟨0, Nat.zero_le _, rfl, ga, rfl, by rw [again]; exact h2, Below.refl _ _⟩
  case round =>
    obtain ⟨i, hi, rfl, g, rfl, HI⟩ := hrel
    by_cases hlt : i < s.size + 1
    · have hl2 : (i : Int) ≤ (s.size : Int) := by omega
      have hkw : wr.heap[w.heap.size]? = _ := (HI.out.2.block w.heap.size (by have := HX.out.2.2.2.2.1; omega)).trans HX.out.2.2.2.2.2
      obtain ⟨y0, y1, y2⟩ := node_cells hkw
      clear hkw
      have hla := again_len (bl s) n a (by rw [bl_length]; exact HX.out.2.2.1) i
      rw [bl_length] at hla
      have C1 := HE.out s (again (ends (bl s) n) i a) (.slice (some ⟨g, 0, none⟩) (s.size + 1) (s.size + 1)) k _ _ A wr hs (NA_below HX.out.1 HI.out.2) ⟨g, by rw [hla], HI.out.1⟩ hla
      have HC : Hid (Calls _ _ _ _ _) := C1
      have HL : Hid (List.length _ = _) := hla
      clear C1 hla
      go_wp2_with fail
      refine HC.out.mono ?_
      rintro e w1 ⟨v1, rfl, hb1, hB1⟩
      have hle := ends_len (bl s) n (again (ends (bl s) n) i a) (by rw [bl_length]; exact HL.out)
      rw [bl_length] at hle
      have HC2 : Hid (Calls _ _ _ _ _) := both_any (again (ends (bl s) n) i a) (ends (bl s) n (again (ends (bl s) n) i a)) (.slice (some ⟨g, 0, none⟩) (s.size + 1) (s.size + 1)) v1 w1 ⟨g, by rw [HL.out], HI.out.1.below hB1⟩ hb1 (by rw [HL.out, hle]) (by rw [HL.out]; omega)
      obtain ⟨g1, rfl, hb1⟩ := hb1
      clear hle
      go_wp2_with fail
      refine HC2.out.mono ?_
      rintro e w2 ⟨v2, rfl, ⟨g2, hg2, hb2⟩, hB2⟩
      rw [both_len (by rw [ends_len (bl s) n _ (by rw [bl_length]; exact HL.out), HL.out, bl_length]), HL.out] at hg2
      subst hg2
      go_wp2_with fail
      go_roundw
      case rel => exact ⟨i + 1, by omega, by go_num, g2, rfl, by rw [again]; exact hb2, (HI.out.2.trans (hB1.mono HI.out.2.size)).trans (hB2.mono (by have := HI.out.2.size; have := hB1.size; omega))⟩
      case measure => simp [intOf]; omega
    · have hl2 : ¬ (i : Int) ≤ (s.size : Int) := by omega
      go_wp2_with fail
      go_ret
      have hin : i = s.size + 1 := by omega
      subst hin
      have hla := again_len (bl s) n a (by rw [bl_length]; exact HX.out.2.2.1) (s.size + 1)
      rw [bl_length] at hla
      exact ⟨.slice (some ⟨g, 0, none⟩) (s.size + 1) (s.size + 1), rfl, ⟨g, by rw [hla], HI.out.1⟩, HX.out.2.2.2.1.trans (HI.out.2.mono (HX.out.2.2.2.1.size))⟩

mutual
def Tiny : Nd → Prop
  | .none => True
  | .set _ => True
  | .bol => True
  | .eol => True
  | .seq l => l.length ≤ 1000 ∧ TinyL l
  | .alt l => l.length ≤ 1000 ∧ TinyL l
  | .star n => Tiny n
  | .plus n => Tiny n
  | .opt n => Tiny n
def TinyL : List Nd → Prop
  | [] => True
  | n :: l => Tiny n ∧ TinyL l
end
theorem tiny_post (n : Nd) (r : List UInt8) (h : Tiny n) : Tiny (post n r).1 := by
  unfold post
  split <;> first | exact h | (unfold Tiny; exact h)
theorem P_tiny {g : Tag} {o : Nat} {r : List UInt8} {a : Res} (h : P g o r a) : ∀ {k : List Nd} {r' : List UInt8}, a = .ok k r' → r.length ≤ 500 → k.length + r'.length ≤ r.length + 1 ∧ (g = .way → k.length + r'.length ≤ r.length) ∧ TinyL k := by
  induction h with
  | rep o c t h => intro k r' ha; cases ha
  | dot o t => intro k r' ha _; cases ha; simp [TinyL, Tiny]; omega
  | bol o t => intro k r' ha _; cases ha; simp [TinyL, Tiny]; omega
  | eol o t => intro k r' ha _; cases ha; simp [TinyL, Tiny]; omega
  | deep o t h => intro k r' ha; cases ha
  | inBad o t w l h h1 ih => intro k r' ha; cases ha
  | inEnd o t k h h1 ih => intro k r' ha; cases ha
  | group o t r k h h1 ih =>
    intro k' r' ha hl
    cases ha
    have hl2 : t.length ≤ 500 := by simp at hl; omega
    obtain ⟨i1, i2, i3⟩ := ih rfl hl2
    simp at i1
    refine ⟨?_, ?_, ?_⟩
    · simp; omega
    · intro hh; cases hh
    · simp only [TinyL, Tiny]
      exact ⟨⟨by omega, i3⟩, trivial⟩
  | set o t =>
    intro k r' ha hl
    have h1 := setR_len ha
    obtain ⟨f, r2, e⟩ | ⟨w, l, e⟩ := RxSem.setR_shape t
    · rw [e] at ha
      cases ha
      refine ⟨?_, ?_, ?_⟩
      · simp; omega
      · intro hh; cases hh
      · simp [TinyL, Tiny]
    · rw [e] at ha; cases ha
  | esc o c t => intro k r' ha _; cases ha; simp [TinyL, Tiny, one]; omega
  | escEnd o => intro k r' ha; cases ha
  | byte o c t h => intro k r' ha _; cases ha; simp [TinyL, Tiny, one]; omega
  | wayEnd o r h => intro k r' ha _; cases ha; simp [TinyL]
  | wayBad o r w l h h1 ih => intro k r' ha; cases ha
  | wayNext o r r1 r2 n k h h1 h2 i1 i2 =>
    intro k' r' ha hl
    cases ha
    have a1 := (P.len h1 rfl).2 rfl
    have a2 := post_len n r1
    obtain ⟨_, _, b3⟩ := i1 rfl hl
    obtain ⟨_, c2, c3⟩ := i2 rfl (by omega)
    have c2 := c2 rfl
    refine ⟨?_, ?_, ?_⟩
    · simp; omega
    · intro _; simp; omega
    · rw [TinyL] at b3 ⊢
      exact ⟨tiny_post n r1 b3.1, c3⟩
  | wayLater o r r1 n w l h h1 h2 i1 i2 => intro k r' ha; cases ha
  | waysBad o r w l h1 ih => intro k r' ha; cases ha
  | waysOne o r r1 k h1 h2 ih =>
    intro k' r' ha hl
    cases ha
    obtain ⟨_, b2, b3⟩ := ih rfl hl
    have b2 := b2 rfl
    refine ⟨?_, ?_, ?_⟩
    · simp; omega
    · intro hh; cases hh
    · simp only [TinyL, Tiny]
      exact ⟨⟨by omega, b3⟩, trivial⟩
  | waysNext o r r1 r2 k m h1 h2 i1 i2 =>
    intro k' r' ha hl
    cases ha
    obtain ⟨_, b2, b3⟩ := i1 rfl hl
    have b2 := b2 rfl
    simp at b2
    obtain ⟨c1, _, c3⟩ := i2 rfl (by omega)
    refine ⟨?_, ?_, ?_⟩
    · simp; omega
    · intro hh; cases hh
    · simp only [TinyL, Tiny]
      exact ⟨⟨by omega, b3⟩, c3⟩
  | waysLater o r r1 k w l h1 h2 i1 i2 => intro k r' ha; cases ha
theorem comp_tiny {p : List UInt8} {k : List Nd} (h : Comp p (.inl k)) : Tiny (.alt k) := by
  cases h with
  | ok _ h h1 =>
    obtain ⟨a, _, c⟩ := P_tiny h1 rfl (by omega)
    rw [Tiny]
    simp at a
    exact ⟨by omega, c⟩
theorem tinyL_mem : ∀ {l : List Nd}, TinyL l → ∀ n ∈ l, Tiny n
  | [], _, n, h => by cases h
  | m :: l, h, n, hn => by
    rw [TinyL] at h
    cases hn with
    | head => exact h.1
    | tail _ hn => exact tinyL_mem h.2 n hn
theorem NC_get {W : World} {A : Nat → Prop} : ∀ {l : List Nd} {cs : List Value} (i : Nat) (n : Nd), NC W A l cs → l[i]? = some n → ∃ k sv kv, cs[3 * i]? = some (.int .i64 k) ∧ cs[3 * i + 1]? = some sv ∧ cs[3 * i + 2]? = some kv ∧ NA W A n k sv kv
  | [], cs, i, n, _, h => by simp at h
  | m :: l, cs, i, n, hc, h => by
    rw [NC] at hc
    obtain ⟨k, sv, kv, rest, rfl, h1, h2⟩ := hc
    cases i with
    | zero =>
      simp at h
      subst h
      exact ⟨k, sv, kv, rfl, rfl, rfl, h1⟩
    | succ i =>
      simp at h
      obtain ⟨k', sv', kv', e1, e2, e3, e4⟩ := NC_get i n h2 h
      refine ⟨k', sv', kv', ?_, ?_, ?_, e4⟩
      · rw [← e1]; exact List.getElem?_cons_succ
      · rw [← e2]; exact List.getElem?_cons_succ
      · rw [← e3]; exact List.getElem?_cons_succ

theorem endsS_step (s : List UInt8) : ∀ (l : List Nd) (i : Nat) (n : Nd) (a : List Bool), l[i]? = some n → endsS s (l.take (i + 1)) a = ends s n (endsS s (l.take i) a)
  | [], i, n, a, h => by simp at h
  | m :: l, 0, n, a, h => by
    simp at h
    subst h
    simp [endsS]
  | m :: l, i + 1, n, a, h => by
    simp at h
    simp only [List.take_succ_cons, endsS]
    exact endsS_step s l i n _ h
theorem endsA_step (s : List UInt8) : ∀ (l : List Nd) (i : Nat) (n : Nd) (a o : List Bool), l[i]? = some n → endsA s (l.take (i + 1)) a o = both (endsA s (l.take i) a o) (ends s n a)
  | [], i, n, a, o, h => by simp at h
  | m :: l, 0, n, a, o, h => by
    simp at h
    subst h
    simp [endsA]
  | m :: l, i + 1, n, a, o, h => by
    simp at h
    simp only [List.take_succ_cons, endsA]
    exact endsA_step s l i n _ _ h
theorem endsS_len (s : List UInt8) : ∀ (l : List Nd) (a : List Bool), a.length = s.length + 1 → (endsS s l a).length = s.length + 1
  | [], a, h => by rw [endsS]; exact h
  | m :: l, a, h => by rw [endsS]; exact endsS_len s l _ (ends_len s m a h)
theorem endsA_len (s : List UInt8) : ∀ (l : List Nd) (a o : List Bool), a.length = s.length + 1 → o.length = s.length + 1 → (endsA s l a o).length = s.length + 1
  | [], a, o, h, h2 => by rw [endsA]; exact h2
  | m :: l, a, o, h, h2 => by
    rw [endsA]
    refine endsA_len s l _ _ h ?_
    rw [both_len (by rw [h2, ends_len s m a h]), h2]
/-- The row of kids, in the box: nothing, or its cells. -/
def Kids (W : World) (A : Nat → Prop) (l : List Nd) (kv : Value) : Prop := (kv = .slice none 0 0 ∧ l = []) ∨ ∃ g cap cur, kv = .slice (some ⟨g, 0, none⟩) l.length cap ∧ A g ∧ W.heap[g]? = some (.cells cur 35 (0, 0)) ∧ NC W A l cur.toList
set_option maxRecDepth 20000 in
set_option maxHeartbeats 600000 in
theorem ends_seq (l : List Nd) (hE : ∀ n ∈ l, EndsC n) (ht : l.length ≤ 1000) : EndsC (.seq l) := by
  intro s a va k sv kv A w hs hn hv hl
  rw [NA] at hn
  obtain ⟨rfl, rfl, hK⟩ := hn
  obtain ⟨ga, rfl, hA⟩ := hv
  have hgal := hA.lt
  obtain ⟨o, cap, rfl, HK⟩ : ∃ o cap, kv = .slice o l.length cap ∧ Hid (Kids w A l (.slice o l.length cap)) := by
    rcases hK with ⟨rfl, rfl⟩ | ⟨g, cap, cur, rfl, h⟩
    · exact ⟨none, 0, rfl, .inl ⟨rfl, rfl⟩⟩
    · exact ⟨_, _, rfl, .inr ⟨g, cap, cur, rfl, h⟩⟩
  obtain ⟨L, hL⟩ : ∃ L, L = l.length := ⟨_, rfl⟩
  obtain ⟨wn, wa, hwn, hmk, hB, hnb, hBel⟩ := ends_start 4 (.slice none 0 0) (.slice o l.length cap) s w hs
  obtain ⟨N, hN⟩ : ∃ N, N = a.length := ⟨_, rfl⟩
  obtain ⟨x0, x1, x2⟩ := node_cells hnb
  have hsz := hB.lt
  have H0 : Hid (Below w.heap.size w wa ∧ N = a.length ∧ a.length = s.size + 1 ∧ Br ga a wa ∧ L = l.length ∧ wa.heap[w.heap.size]? = some (.cells #[.int .i64 4, .slice none 0 0, .slice o l.length cap] 35 (0, 0))) := ⟨hBel, hN, hl, (hBel.block ga hgal).trans hA, hL, hnb⟩
  have HE : Hid (∀ n ∈ l, EndsC n) := hE
  have hNs : N = s.size + 1 := by omega
  have hL9 : L ≤ 1000 := by omega
  rw [hwn] at hmk
  rw [← hN]
  rw [← hL] at x2 hmk ⊢
  clear hB hBel hN hl hnb hA hwn hE hK ht hL
  simp only [nodeV]
  go_enter Tryz.func35, Tryz.ntmps35
  rw [hNs]
  clear hNs
  go_wp2_with fail
  clear x0 x1 x2 hmk
  go_loopw [7, 9] (fun vo vi wr => ∃ i : Nat, i ≤ L ∧ vi = .int .i64 (i : Int) ∧ ∃ g, vo = .slice (some ⟨g, 0, none⟩) (s.size + 1) (s.size + 1) ∧ Hid (Br g (endsS (bl s) (l.take i) a) wr ∧ Below wa.heap.size wa wr)) (fun _ vi _ => L - (intOf vi).toNat)
  case atStart => exact ⟨0, Nat.zero_le _, rfl, ga, rfl, by rw [List.take_zero, endsS]; exact H0.out.2.2.2.1, Below.refl _ _⟩
  case round =>
    obtain ⟨i, hi, rfl, g, rfl, HI⟩ := hrel
    have hkw : wr.heap[w.heap.size]? = _ := (HI.out.2.block w.heap.size (by omega)).trans H0.out.2.2.2.2.2
    rw [← H0.out.2.2.2.2.1] at hkw
    obtain ⟨y0, y1, y2⟩ := node_cells hkw
    clear hkw
    by_cases hlt : i < L
    · have hl2 : (i : Int) < (L : Int) := by omega
      have hil : i < l.length := by have := H0.out.2.2.2.2.1; omega
      obtain ⟨n, hn⟩ : ∃ n, l[i]? = some n := ⟨_, List.getElem?_eq_getElem hil⟩
      obtain ⟨gk, ck, rfl, k, sv, kv, z0, z1, z2, hna⟩ : ∃ gk ck, o = some ⟨gk, 0, none⟩ ∧ ∃ k sv kv, wr.cell? ⟨gk, i * 3, none⟩ = some (.int .i64 k) ∧ wr.cell? ⟨gk, i * 3 + 1, none⟩ = some sv ∧ wr.cell? ⟨gk, i * 3 + 2, none⟩ = some kv ∧ NA wr A n k sv kv ∧ ck = cap := by
        rcases HK.out with ⟨_, rfl⟩ | ⟨gk, cp, cur, e, _, hc, hnc⟩
        · simp at hil
        · obtain ⟨k, sv, kv, e1, e2, e3, e4⟩ := NC_get i n hnc hn
          have hgk := (Array.getElem?_eq_some_iff.1 hc).1
          have hc2 : wr.heap[gk]? = _ := (HI.out.2.block gk (by have := H0.out.1.size; omega)).trans ((H0.out.1.block gk hgk).trans hc)
          have e5 : o = some ⟨gk, 0, none⟩ := by injection e
          refine ⟨gk, cap, e5, k, sv, kv, ?_, ?_, ?_, NA_below (NA_below e4 H0.out.1) HI.out.2, rfl⟩
          · rw [Nat.mul_comm]; simp only [World.cell?, hc2]; simpa using e1
          · rw [Nat.mul_comm]; simp only [World.cell?, hc2]; simpa using e2
          · rw [Nat.mul_comm]; simp only [World.cell?, hc2]; simpa using e3
      obtain ⟨⟨b2, m2, d2, rfl⟩, ⟨b3, m3, d3, rfl⟩⟩ := NA_sl hna.1
      have hla := endsS_len (bl s) (l.take i) a (by rw [bl_length]; exact H0.out.2.2.1)
      rw [bl_length] at hla
      have HC : Hid (Calls _ _ _ _ _) := HE.out n (List.mem_of_getElem? hn) s (endsS (bl s) (l.take i) a) (.slice (some ⟨g, 0, none⟩) (s.size + 1) (s.size + 1)) k _ _ A wr hs hna.1 ⟨g, by rw [hla], HI.out.1⟩ hla
      have HL : Hid (List.length _ = _ ∧ l[i]? = some n) := ⟨hla, hn⟩
      clear hla hn hna
      go_wp2_with fail
      refine HC.out.mono ?_
      rintro e w1 ⟨v1, rfl, ⟨g2, hg2, hb2⟩, hB1⟩
      have hle := ends_len (bl s) n (endsS (bl s) (l.take i) a) (by rw [bl_length]; exact HL.out.1)
      rw [hle, bl_length] at hg2
      subst hg2
      go_wp2_with fail
      go_roundw
      case rel => exact ⟨i + 1, by omega, by go_num, g2, rfl, by rw [endsS_step (bl s) l i n a HL.out.2]; exact hb2, HI.out.2.trans (hB1.mono HI.out.2.size)⟩
      case measure => simp [intOf]; omega
    · have hl2 : ¬ (i : Int) < (L : Int) := by omega
      go_wp2_with fail
      go_ret
      have hin : i = L := by omega
      subst hin
      have hla := endsS_len (bl s) l a (by rw [bl_length]; exact H0.out.2.2.1)
      rw [bl_length] at hla
      have h := HI.out
      rw [H0.out.2.2.2.2.1, List.take_length] at h
      refine ⟨.slice (some ⟨g, 0, none⟩) (s.size + 1) (s.size + 1), rfl, ⟨g, ?_, ?_⟩, H0.out.1.trans (h.2.mono H0.out.1.size)⟩
      · rw [ends, hla]
      · rw [ends]; exact h.1

set_option maxRecDepth 20000 in
set_option maxHeartbeats 600000 in
theorem ends_alt (l : List Nd) (hE : ∀ n ∈ l, EndsC n) (ht : l.length ≤ 1000) : EndsC (.alt l) := by
  intro s a va k sv kv A w hs hn hv hl
  rw [NA] at hn
  obtain ⟨rfl, rfl, hK⟩ := hn
  obtain ⟨ga, rfl, hA⟩ := hv
  have hgal := hA.lt
  obtain ⟨o, cap, rfl, HK⟩ : ∃ o cap, kv = .slice o l.length cap ∧ Hid (Kids w A l (.slice o l.length cap)) := by
    rcases hK with ⟨rfl, rfl⟩ | ⟨g, cap, cur, rfl, h⟩
    · exact ⟨none, 0, rfl, .inl ⟨rfl, rfl⟩⟩
    · exact ⟨_, _, rfl, .inr ⟨g, cap, cur, rfl, h⟩⟩
  obtain ⟨L, hL⟩ : ∃ L, L = l.length := ⟨_, rfl⟩
  obtain ⟨wn, wa, hwn, hmk, hB, hnb, hBel⟩ := ends_start 5 (.slice none 0 0) (.slice o l.length cap) s w hs
  obtain ⟨N, hN⟩ : ∃ N, N = a.length := ⟨_, rfl⟩
  obtain ⟨x0, x1, x2⟩ := node_cells hnb
  have hsz := hB.lt
  have HB : Hid (Br _ _ _) := hB
  have H0 : Hid (Below w.heap.size w wa ∧ N = a.length ∧ a.length = s.size + 1 ∧ Br ga a wa ∧ L = l.length ∧ wa.heap[w.heap.size]? = some (.cells #[.int .i64 5, .slice none 0 0, .slice o l.length cap] 35 (0, 0))) := ⟨hBel, hN, hl, (hBel.block ga hgal).trans hA, hL, hnb⟩
  have HE : Hid (∀ n ∈ l, EndsC n) := hE
  have hNs : N = s.size + 1 := by omega
  have hL9 : L ≤ 1000 := by omega
  rw [hwn] at hmk
  rw [← hN]
  rw [← hL] at x2 hmk ⊢
  clear hB hBel hN hl hnb hA hwn hE hK ht hL
  simp only [nodeV]
  go_enter Tryz.func35, Tryz.ntmps35
  rw [hNs]
  clear hNs
  go_wp2_with fail
  clear x0 x1 x2 hmk
  go_loopw [7, 10] (fun vo vi wr => ∃ i : Nat, i ≤ L ∧ vi = .int .i64 (i : Int) ∧ ∃ g, vo = .slice (some ⟨g, 0, none⟩) (s.size + 1) (s.size + 1) ∧ Hid (Br g (endsA (bl s) (l.take i) a (List.replicate (s.size + 1) false)) wr ∧ Below wa.heap.size wa wr)) (fun _ vi _ => L - (intOf vi).toNat)
  case atStart => exact ⟨0, Nat.zero_le _, rfl, w.heap.size + 1, rfl, by rw [List.take_zero, endsA]; exact HB.out, Below.refl _ _⟩
  case round =>
    obtain ⟨i, hi, rfl, g, rfl, HI⟩ := hrel
    have hkw : wr.heap[w.heap.size]? = _ := (HI.out.2.block w.heap.size (by omega)).trans H0.out.2.2.2.2.2
    rw [← H0.out.2.2.2.2.1] at hkw
    obtain ⟨y0, y1, y2⟩ := node_cells hkw
    clear hkw
    by_cases hlt : i < L
    · have hl2 : (i : Int) < (L : Int) := by omega
      have hil : i < l.length := by have := H0.out.2.2.2.2.1; omega
      obtain ⟨n, hn⟩ : ∃ n, l[i]? = some n := ⟨_, List.getElem?_eq_getElem hil⟩
      obtain ⟨gk, ck, rfl, k, sv, kv, z0, z1, z2, hna⟩ : ∃ gk ck, o = some ⟨gk, 0, none⟩ ∧ ∃ k sv kv, wr.cell? ⟨gk, i * 3, none⟩ = some (.int .i64 k) ∧ wr.cell? ⟨gk, i * 3 + 1, none⟩ = some sv ∧ wr.cell? ⟨gk, i * 3 + 2, none⟩ = some kv ∧ NA wr A n k sv kv ∧ ck = cap := by
        rcases HK.out with ⟨_, rfl⟩ | ⟨gk, cp, cur, e, _, hc, hnc⟩
        · simp at hil
        · obtain ⟨k, sv, kv, e1, e2, e3, e4⟩ := NC_get i n hnc hn
          have hgk := (Array.getElem?_eq_some_iff.1 hc).1
          have hc2 : wr.heap[gk]? = _ := (HI.out.2.block gk (by have := H0.out.1.size; omega)).trans ((H0.out.1.block gk hgk).trans hc)
          have e5 : o = some ⟨gk, 0, none⟩ := by injection e
          refine ⟨gk, cap, e5, k, sv, kv, ?_, ?_, ?_, NA_below (NA_below e4 H0.out.1) HI.out.2, rfl⟩
          · rw [Nat.mul_comm]; simp only [World.cell?, hc2]; simpa using e1
          · rw [Nat.mul_comm]; simp only [World.cell?, hc2]; simpa using e2
          · rw [Nat.mul_comm]; simp only [World.cell?, hc2]; simpa using e3
      obtain ⟨⟨b2, m2, d2, rfl⟩, ⟨b3, m3, d3, rfl⟩⟩ := NA_sl hna.1
      have hla := endsA_len (bl s) (l.take i) a (List.replicate (s.size + 1) false) (by rw [bl_length]; exact H0.out.2.2.1) (by rw [bl_length]; simp)
      rw [bl_length] at hla
      have HC : Hid (Calls _ _ _ _ _) := HE.out n (List.mem_of_getElem? hn) s a (.slice (some ⟨ga, 0, none⟩) (s.size + 1) (s.size + 1)) k _ _ A wr hs hna.1 ⟨ga, by rw [H0.out.2.2.1], (H0.out.2.2.2.1).below HI.out.2⟩ H0.out.2.2.1
      have HL : Hid (List.length _ = _ ∧ l[i]? = some n) := ⟨hla, hn⟩
      clear hla hn hna
      go_wp2_with fail
      refine HC.out.mono ?_
      rintro e w1 ⟨v1, rfl, hb1, hB1⟩
      have hle := ends_len (bl s) n a (by rw [bl_length]; exact H0.out.2.2.1)
      rw [bl_length] at hle
      have HC2 : Hid (Calls _ _ _ _ _) := both_any _ _ (.slice (some ⟨g, 0, none⟩) (s.size + 1) (s.size + 1)) v1 w1 ⟨g, by rw [HL.out.1], HI.out.1.below hB1⟩ hb1 (by rw [HL.out.1, hle]) (by rw [HL.out.1]; omega)
      obtain ⟨g1, rfl, hb1⟩ := hb1
      clear hle
      go_wp2_with fail
      refine HC2.out.mono ?_
      rintro e w2 ⟨v2, rfl, ⟨g2, hg2, hb2⟩, hB2⟩
      rw [both_len (by rw [ends_len (bl s) n _ (by rw [bl_length]; exact H0.out.2.2.1), HL.out.1, bl_length]), HL.out.1] at hg2
      subst hg2
      go_wp2_with fail
      go_roundw
      case rel => exact ⟨i + 1, by omega, by go_num, g2, rfl, by rw [endsA_step (bl s) l i n a _ HL.out.2]; exact hb2, (HI.out.2.trans (hB1.mono HI.out.2.size)).trans (hB2.mono (by have := HI.out.2.size; have := hB1.size; omega))⟩
      case measure => simp [intOf]; omega
    · have hl2 : ¬ (i : Int) < (L : Int) := by omega
      go_wp2_with fail
      go_ret
      have hin : i = L := by omega
      subst hin
      have hla := endsA_len (bl s) l a (List.replicate (s.size + 1) false) (by rw [bl_length]; exact H0.out.2.2.1) (by rw [bl_length]; simp)
      rw [bl_length] at hla
      have h := HI.out
      rw [H0.out.2.2.2.2.1, List.take_length] at h
      refine ⟨.slice (some ⟨g, 0, none⟩) (s.size + 1) (s.size + 1), rfl, ⟨g, ?_, ?_⟩, H0.out.1.trans (h.2.mono H0.out.1.size)⟩
      · rw [ends, bl_length, hla]
      · rw [ends, bl_length]; exact h.1
set_option maxRecDepth 20000 in
set_option maxHeartbeats 600000 in
theorem ends_star (n : Nd) (hE : EndsC n) : EndsC (.star n) := by
  intro s a va k sv kv A w hs hn hv hl
  rw [NA] at hn
  obtain ⟨rfl, rfl, gk, k', sv', kv', rfl, _, hgk, hna⟩ := hn
  obtain ⟨ga, rfl, hA⟩ := hv
  have hgal := hA.lt
  have hgkl := (Array.getElem?_eq_some_iff.1 hgk).1
  obtain ⟨⟨b2, m2, d2, rfl⟩, ⟨b3, m3, d3, rfl⟩⟩ := NA_sl hna
  obtain ⟨wn, wa, hwn, hmk, hB, hnb, hBel⟩ := ends_start 6 (.slice none 0 0) (.slice (some ⟨gk, 0, none⟩) 1 1) s w hs
  obtain ⟨N, hN⟩ : ∃ N, N = a.length := ⟨_, rfl⟩
  obtain ⟨x0, x1, x2⟩ := node_cells hnb
  obtain ⟨z0, z1, z2⟩ := node_cells ((hBel.block gk hgkl).trans hgk)
  have H0 : Hid (Below w.heap.size w wa ∧ N = a.length ∧ a.length = s.size + 1 ∧ Br ga a wa ∧ NA wa A n k' (.slice b2 m2 d2) (.slice b3 m3 d3) ∧ wa.heap[w.heap.size]? = some (.cells #[.int .i64 6, .slice none 0 0, .slice (some ⟨gk, 0, none⟩) 1 1] 35 (0, 0)) ∧ wa.heap[gk]? = some (.cells #[.int .i64 k', .slice b2 m2 d2, .slice b3 m3 d3] 35 (0, 0)) ∧ w.heap.size < wa.heap.size ∧ gk < wa.heap.size) := ⟨hBel, hN, hl, (hBel.block ga hgal).trans hA, NA_below hna hBel, hnb, (hBel.block gk hgkl).trans hgk, by have := hB.lt; omega, by have := hBel.size; omega⟩
  have HE : Hid (EndsC n) := hE
  have hNs : N = s.size + 1 := by omega
  rw [hwn] at hmk
  rw [← hN]
  clear hB hBel hN hl hnb hA hwn hE hna hgk
  simp only [nodeV]
  go_enter Tryz.func35, Tryz.ntmps35
  rw [hNs]
  clear hNs
  have HC : Hid (Calls _ _ _ _ _) := ragain_any n HE.out s a (.slice (some ⟨ga, 0, none⟩) (s.size + 1) (s.size + 1)) k' _ _ A wa hs H0.out.2.2.2.2.1 ⟨ga, by rw [H0.out.2.2.1], H0.out.2.2.2.1⟩ H0.out.2.2.1
  simp only [nodeV] at HC
  go_wp2_with fail
  refine HC.out.mono ?_
  rintro e w1 ⟨v1, rfl, ⟨g2, hg2, hb2⟩, hB1⟩
  have hla := again_len (bl s) n a (by rw [bl_length]; exact H0.out.2.2.1) (s.size + 1)
  rw [hla, bl_length] at hg2
  subst hg2
  clear hla
  go_wp2_with fail
  go_ret
  refine ⟨.slice (some ⟨g2, 0, none⟩) (s.size + 1) (s.size + 1), rfl, ⟨g2, ?_, ?_⟩, H0.out.1.trans (hB1.mono H0.out.1.size)⟩
  · rw [ends, bl_length, again_len (bl s) n a (by rw [bl_length]; exact H0.out.2.2.1), bl_length]
  · rw [ends, bl_length]; exact hb2
set_option maxRecDepth 20000 in
set_option maxHeartbeats 600000 in
theorem ends_plus (n : Nd) (hE : EndsC n) : EndsC (.plus n) := by
  intro s a va k sv kv A w hs hn hv hl
  rw [NA] at hn
  obtain ⟨rfl, rfl, gk, k', sv', kv', rfl, _, hgk, hna⟩ := hn
  obtain ⟨ga, rfl, hA⟩ := hv
  have hgal := hA.lt
  have hgkl := (Array.getElem?_eq_some_iff.1 hgk).1
  obtain ⟨⟨b2, m2, d2, rfl⟩, ⟨b3, m3, d3, rfl⟩⟩ := NA_sl hna
  obtain ⟨wn, wa, hwn, hmk, hB, hnb, hBel⟩ := ends_start 7 (.slice none 0 0) (.slice (some ⟨gk, 0, none⟩) 1 1) s w hs
  obtain ⟨N, hN⟩ : ∃ N, N = a.length := ⟨_, rfl⟩
  obtain ⟨x0, x1, x2⟩ := node_cells hnb
  obtain ⟨z0, z1, z2⟩ := node_cells ((hBel.block gk hgkl).trans hgk)
  have H0 : Hid (Below w.heap.size w wa ∧ N = a.length ∧ a.length = s.size + 1 ∧ Br ga a wa ∧ NA wa A n k' (.slice b2 m2 d2) (.slice b3 m3 d3) ∧ wa.heap[w.heap.size]? = some (.cells #[.int .i64 7, .slice none 0 0, .slice (some ⟨gk, 0, none⟩) 1 1] 35 (0, 0)) ∧ wa.heap[gk]? = some (.cells #[.int .i64 k', .slice b2 m2 d2, .slice b3 m3 d3] 35 (0, 0)) ∧ w.heap.size < wa.heap.size ∧ gk < wa.heap.size) := ⟨hBel, hN, hl, (hBel.block ga hgal).trans hA, NA_below hna hBel, hnb, (hBel.block gk hgkl).trans hgk, by have := hB.lt; omega, by have := hBel.size; omega⟩
  have HE : Hid (EndsC n) := hE
  have hNs : N = s.size + 1 := by omega
  rw [hwn] at hmk
  rw [← hN]
  clear hB hBel hN hl hnb hA hwn hE hna hgk
  simp only [nodeV]
  go_enter Tryz.func35, Tryz.ntmps35
  rw [hNs]
  clear hNs
  have HKeep : Hid (∀ W, Below wa.heap.size wa W → (Below wa.heap.size wa W ∧ W.cell? ⟨w.heap.size, 2, none⟩ = some (.slice (some ⟨gk, 0, none⟩) 1 1) ∧ W.cell? ⟨gk, 0, none⟩ = some (.int .i64 k') ∧ W.cell? ⟨gk, 1, none⟩ = some (.slice b2 m2 d2) ∧ W.cell? ⟨gk, 2, none⟩ = some (.slice b3 m3 d3))) := fun W hW => by
    have u : ∀ {a : Addr} {v : Value}, wa.cell? a = some v → W.cell? a = some v := fun {a v} ha => (World.cell?_of_block (hW.block a.block (World.block_lt_of_cell? wa a ha))).trans ha
    exact ⟨hW, u x2, u z0, u z1, u z2⟩
  have HC : Hid (∀ W, Below wa.heap.size wa W → Calls Tryz.prog 35 #[.agg #[.int .i64 k', .slice b2 m2 d2, .slice b3 m3 d3], .string s, (.slice (some ⟨ga, 0, none⟩) (s.size + 1) (s.size + 1))] W fun e w' => ∃ g, e = .returned (.slice (some ⟨g, 0, none⟩) (s.size + 1) (s.size + 1)) ∧ Br g (ends (bl s) n a) w' ∧ Below wa.heap.size wa w') := fun W hW => by
    refine (HE.out s a (.slice (some ⟨ga, 0, none⟩) (s.size + 1) (s.size + 1)) k' _ _ A W hs (NA_below H0.out.2.2.2.2.1 hW) ⟨ga, by rw [H0.out.2.2.1], H0.out.2.2.2.1.below hW⟩ H0.out.2.2.1).mono ?_
    rintro e w1 ⟨v1, rfl, ⟨g2, hg2, hb2⟩, hB1⟩
    rw [ends_len (bl s) n a (by rw [bl_length]; exact H0.out.2.2.1), bl_length] at hg2
    exact ⟨g2, by rw [hg2], hb2, hW.trans (hB1.mono hW.size)⟩
  have HC2 : Hid (∀ W g, Below wa.heap.size wa W → Br g (ends (bl s) n a) W → Calls Tryz.prog 47 #[.agg #[.int .i64 k', .slice b2 m2 d2, .slice b3 m3 d3], .string s, .slice (some ⟨g, 0, none⟩) (s.size + 1) (s.size + 1)] W fun e w' => ∃ g, e = .returned (.slice (some ⟨g, 0, none⟩) (s.size + 1) (s.size + 1)) ∧ Br g (ends (bl s) (.plus n) a) w' ∧ Below wa.heap.size wa w') := fun W g hW hg => by
    have hle := ends_len (bl s) n a (by rw [bl_length]; exact H0.out.2.2.1)
    refine (ragain_any n HE.out s (ends (bl s) n a) (.slice (some ⟨g, 0, none⟩) (s.size + 1) (s.size + 1)) k' _ _ A W hs (NA_below H0.out.2.2.2.2.1 hW) ⟨g, by rw [hle, bl_length], hg⟩ (by rw [hle, bl_length])).mono ?_
    rintro e w1 ⟨v1, rfl, ⟨g2, hg2, hb2⟩, hB1⟩
    rw [again_len (bl s) n _ hle, bl_length] at hg2
    exact ⟨g2, by rw [hg2], by rw [ends, bl_length]; exact hb2, hW.trans (hB1.mono hW.size)⟩
  go_wp2_with fail
  go_region_held3 (fun W => Below wa.heap.size wa W ∧ W.cell? ⟨w.heap.size, 2, none⟩ = some (.slice (some ⟨gk, 0, none⟩) 1 1) ∧ W.cell? ⟨gk, 0, none⟩ = some (.int .i64 k') ∧ W.cell? ⟨gk, 1, none⟩ = some (.slice b2 m2 d2) ∧ W.cell? ⟨gk, 2, none⟩ = some (.slice b3 m3 d3))
    (first | exact HKeep.out _ (Below.refl _ _).drew | exact HKeep.out _ (Below.refl _ _) | exact HKeep.out _ hq2 | exact HKeep.out _ hq1 | exact HKeep.out _ hq1.drew | exact HKeep.out _ hq2.drew)
    (first | (go_at_call 35; refine (HC.out _ (Below.refl _ wa).drew).mono ?_; rintro e w1 ⟨g1, rfl, hb1, hq1⟩) | (go_at_call 47; refine (HC2.out _ g1 hq1 hb1).mono ?_; rintro e w2 ⟨g2, rfl, hb2, hq2⟩))
  all_goals
    have HZ : Hid (Br g2 (ends (bl s) (.plus n) a) w2 ∧ Below wa.heap.size wa w2) := ⟨hb2, hq2⟩
    clear hb1 hb2 hq1 hq2 x0 x1 x2 z0 z1 z2
    go_wp2_with fail
    go_ret
    refine ⟨.slice (some ⟨g2, 0, none⟩) (s.size + 1) (s.size + 1), rfl, ⟨g2, ?_, HZ.out.1⟩, H0.out.1.trans (HZ.out.2.mono H0.out.1.size)⟩
    rw [ends, again_len (bl s) n _ (ends_len (bl s) n a (by rw [bl_length]; exact H0.out.2.2.1)), bl_length]
set_option maxRecDepth 20000 in
set_option maxHeartbeats 600000 in
theorem ends_opt (n : Nd) (hE : EndsC n) : EndsC (.opt n) := by
  intro s a va k sv kv A w hs hn hv hl
  rw [NA] at hn
  obtain ⟨rfl, rfl, gk, k', sv', kv', rfl, _, hgk, hna⟩ := hn
  obtain ⟨ga, rfl, hA⟩ := hv
  have hgal := hA.lt
  have hgkl := (Array.getElem?_eq_some_iff.1 hgk).1
  obtain ⟨⟨b2, m2, d2, rfl⟩, ⟨b3, m3, d3, rfl⟩⟩ := NA_sl hna
  obtain ⟨wn, wa, hwn, hmk, hB, hnb, hBel⟩ := ends_start 8 (.slice none 0 0) (.slice (some ⟨gk, 0, none⟩) 1 1) s w hs
  obtain ⟨N, hN⟩ : ∃ N, N = a.length := ⟨_, rfl⟩
  obtain ⟨x0, x1, x2⟩ := node_cells hnb
  obtain ⟨z0, z1, z2⟩ := node_cells ((hBel.block gk hgkl).trans hgk)
  have H0 : Hid (Below w.heap.size w wa ∧ N = a.length ∧ a.length = s.size + 1 ∧ Br ga a wa ∧ NA wa A n k' (.slice b2 m2 d2) (.slice b3 m3 d3) ∧ wa.heap[w.heap.size]? = some (.cells #[.int .i64 8, .slice none 0 0, .slice (some ⟨gk, 0, none⟩) 1 1] 35 (0, 0)) ∧ wa.heap[gk]? = some (.cells #[.int .i64 k', .slice b2 m2 d2, .slice b3 m3 d3] 35 (0, 0)) ∧ w.heap.size < wa.heap.size ∧ gk < wa.heap.size) := ⟨hBel, hN, hl, (hBel.block ga hgal).trans hA, NA_below hna hBel, hnb, (hBel.block gk hgkl).trans hgk, by have := hB.lt; omega, by have := hBel.size; omega⟩
  have HE : Hid (EndsC n) := hE
  have hNs : N = s.size + 1 := by omega
  rw [hwn] at hmk
  rw [← hN]
  clear hB hBel hN hl hnb hA hwn hE hna hgk
  simp only [nodeV]
  go_enter Tryz.func35, Tryz.ntmps35
  rw [hNs]
  clear hNs
  have HC : Hid (Calls _ _ _ _ _) := HE.out s a (.slice (some ⟨ga, 0, none⟩) (s.size + 1) (s.size + 1)) k' _ _ A wa hs H0.out.2.2.2.2.1 ⟨ga, by rw [H0.out.2.2.1], H0.out.2.2.2.1⟩ H0.out.2.2.1
  simp only [nodeV] at HC
  go_wp2_with fail
  refine HC.out.mono ?_
  rintro e w1 ⟨v1, rfl, hb1, hB1⟩
  have hle := ends_len (bl s) n a (by rw [bl_length]; exact H0.out.2.2.1)
  rw [bl_length] at hle
  obtain ⟨v0, v2, v3⟩ := node_cells ((hB1.block w.heap.size H0.out.2.2.2.2.2.2.2.1).trans H0.out.2.2.2.2.2.1)
  obtain ⟨u0, u1, u2⟩ := node_cells ((hB1.block gk H0.out.2.2.2.2.2.2.2.2).trans H0.out.2.2.2.2.2.2.1)
  have HC2 : Hid (Calls _ _ _ _ _) := both_any a (ends (bl s) n a) (.slice (some ⟨ga, 0, none⟩) (s.size + 1) (s.size + 1)) v1 w1 ⟨ga, by rw [H0.out.2.2.1], H0.out.2.2.2.1.below hB1⟩ hb1 (by rw [hle, H0.out.2.2.1]) (by rw [H0.out.2.2.1]; omega)
  obtain ⟨g1, rfl, hb1⟩ := hb1
  have HL : Hid (List.length _ = _) := hle
  clear hle
  go_wp2_with fail
  refine HC2.out.mono ?_
  rintro e w2 ⟨v2, rfl, ⟨g2, hg2, hb2⟩, hB2⟩
  have hbl : (both a (ends (bl s) n a)).length = s.size + 1 := by rw [both_len (by rw [HL.out, H0.out.2.2.1]), H0.out.2.2.1]
  rw [hbl] at hg2
  subst hg2
  have HM : Hid (List.length _ = _) := hbl
  clear hbl
  go_wp2_with fail
  go_ret
  refine ⟨.slice (some ⟨g2, 0, none⟩) (s.size + 1) (s.size + 1), rfl, ⟨g2, ?_, ?_⟩, (H0.out.1.trans (hB1.mono H0.out.1.size)).trans (hB2.mono (by have := H0.out.1.size; have := hB1.size; omega))⟩
  · rw [ends, HM.out]
  · rw [ends]; exact hb2
mutual
theorem ends_all : (n : Nd) → Tiny n → EndsC n
  | .none, _ => ends_none
  | .set f, _ => ends_set f
  | .bol, _ => ends_bol
  | .eol, _ => ends_eol
  | .seq l, h => by
    rw [Tiny] at h
    exact ends_seq l (ends_allL l h.2) h.1
  | .alt l, h => by
    rw [Tiny] at h
    exact ends_alt l (ends_allL l h.2) h.1
  | .star n, h => by
    rw [Tiny] at h
    exact ends_star n (ends_all n h)
  | .plus n, h => by
    rw [Tiny] at h
    exact ends_plus n (ends_all n h)
  | .opt n, h => by
    rw [Tiny] at h
    exact ends_opt n (ends_all n h)
theorem ends_allL : (l : List Nd) → TinyL l → ∀ n ∈ l, EndsC n
  | [], _ => fun n hn => by cases hn
  | m :: l, h => fun n hn => by
    rw [TinyL] at h
    have h1 := ends_all m h.1
    have h2 := ends_allL l h.2
    cases hn with
    | head => exact h1
    | tail _ hn => exact h2 n hn
end

theorem fromL_from1 (N i : Nat) : fromL N i = from1 N i := by
  apply List.ext_getElem?
  intro j
  unfold fromL from1
  rw [List.getElem?_set, List.length_replicate, List.getElem?_map, List.getElem?_replicate]
  by_cases hj : j < N + 1
  · rw [List.getElem?_range hj]
    by_cases e : i = j
    · subst e; rw [if_pos rfl, if_pos hj]; simp
    · rw [if_neg e, if_pos hj]; simp; omega
  · rw [List.getElem?_eq_none (by simp; omega)]
    by_cases e : i = j
    · subst e; rw [if_pos rfl, if_neg hj]; rfl
    · rw [if_neg e, if_neg hj]; rfl
/-- The first match from a place on, and its last end. -/
def FoundP (s : List UInt8) (n : Nd) (f : Nat) (x : Nat × Nat × Bool) : Prop := (x = (0, 0, false) ∧ ∀ p e, f ≤ p → p ≤ s.length → ¬ M s n p e) ∨ ∃ p e, x = (p, e, true) ∧ f ≤ p ∧ p ≤ s.length ∧ M s n p e ∧ (∀ e', M s n p e' → e' ≤ e) ∧ ∀ p' e', f ≤ p' → p' < p → ¬ M s n p' e'
theorem FoundP.head {s : List UInt8} {n : Nd} {f : Nat} {x : Nat × Nat × Bool} {K : List (Nat × Nat)} (h : FoundP s n f x) (hK : LM s n f K) : headOf K = x := by
  rcases h with ⟨rfl, h⟩ | ⟨p, e, rfl, h1, h2, h3, h4, h5⟩
  · have h' := hK.first
    cases K with
    | nil => rfl
    | cons z K =>
      obtain ⟨z1, z2⟩ := z
      obtain ⟨g1, g2, g3, _⟩ := h'
      exact absurd g3 (h z1 z2 g1 g2)
  · have := hK.head h1 h2 h3 h4 h5
    cases K with
    | nil => simp at this
    | cons z K => simp at this; subst this; rfl
theorem FoundP.none {s : List UInt8} {n : Nd} {f : Nat} {x : Nat × Nat × Bool} (h : FoundP s n f x) (hf : s.length < f) : x = (0, 0, false) := by
  rcases h with ⟨rfl, h⟩ | ⟨p, e, rfl, h1, h2, h3, h4, h5⟩
  · rfl
  · omega
set_option maxRecDepth 20000 in
set_option maxHeartbeats 600000 in
theorem rfind_any (n : Nd) (hT : Tiny n) (s : ByteArray) (f : Nat) (k : Int) (sv kv : Value) (A : Nat → Prop) (w : World) (hs : s.size ≤ 500) (hf : f ≤ 9223372036854775807) (hn : NA w A n k sv kv) : Calls Tryz.prog 23 #[nodeV k sv kv, .string s, .int .i64 (f : Int)] w fun e w' => ∃ x, e = .returned (findV x) ∧ FoundP (bl s) n f x ∧ Below w.heap.size w w' := by
  obtain ⟨⟨a2, n2, c2, rfl⟩, ⟨a3, n3, c3, rfl⟩⟩ := NA_sl hn
  obtain ⟨wn, hwn, hBn, hSn, hkn⟩ := one_box w (.cells #[.int .i64 k, .slice a2 n2 c2, .slice a3 n3 c3] 35)
  have HX : Hid (NA wn A n k (.slice a2 n2 c2) (.slice a3 n3 c3) ∧ Below w.heap.size w wn ∧ wn.heap.size = w.heap.size + 1 ∧ wn.heap[w.heap.size]? = some (.cells #[.int .i64 k, .slice a2 n2 c2, .slice a3 n3 c3] 35 (0, 0))) := ⟨NA_below hn hBn, hBn, hSn, hkn⟩
  have HE : Hid (EndsC n) := ends_all n hT
  clear hn hBn hSn hkn hT
  have hf0 : ¬ (f : Int) < 0 := by omega
  simp only [nodeV]
  go_enter Tryz.func23, Tryz.ntmps23
  go_wp2_with fail
  rw [show w.alloc (Obj.cells #[Value.int IntKind.i64 k, Value.slice a2 n2 c2, Value.slice a3 n3 c3] 35) = wn from hwn.symm]
  clear hwn hf0
  have HMl : Hid (∀ i e, M (bl s) n i e → i ≤ s.size → i ≤ e ∧ e ≤ s.size) := fun i e h hi => ⟨M_le _ _ _ _ h, by have := M_top _ _ _ _ h (by rw [bl_length]; exact hi); rwa [bl_length] at this⟩
  go_loopw [9] (fun vi wr => ∃ i : Nat, f ≤ i ∧ (i ≤ s.size + 1 ∨ i = f) ∧ vi = .int .i64 (i : Int) ∧ Hid (∀ p' e', f ≤ p' → p' < i → ¬ M (bl s) n p' e') ∧ Hid (Below wn.heap.size wn wr)) (fun vi _ => s.size + 1 - (intOf vi).toNat)
  case atStart => exact ⟨f, Nat.le_refl _, .inr rfl, rfl, fun p' e' h1 h2 => by omega, Below.refl _ _⟩
  case round =>
    obtain ⟨i, hi1, hi2, rfl, HQ, HI⟩ := hrel
    by_cases hlt : i ≤ s.size
    · have hl2 : (i : Int) ≤ (s.size : Int) := by omega
      have hkw : wr.heap[w.heap.size]? = _ := (HI.out.block w.heap.size (by have := HX.out.2.2.1; omega)).trans HX.out.2.2.2
      obtain ⟨y0, y1, y2⟩ := node_cells hkw
      clear hkw hi2
      have HKeep : Hid (∀ W, Below wr.heap.size wr W → (Below wr.heap.size wr W ∧ W.cell? ⟨w.heap.size, 0, none⟩ = some (.int .i64 k) ∧ W.cell? ⟨w.heap.size, 1, none⟩ = some (.slice a2 n2 c2) ∧ W.cell? ⟨w.heap.size, 2, none⟩ = some (.slice a3 n3 c3))) := fun W hW => by
        have u : ∀ {a : Addr} {v : Value}, wr.cell? a = some v → W.cell? a = some v := fun {a v} ha => (World.cell?_of_block (hW.block a.block (World.block_lt_of_cell? wr a ha))).trans ha
        exact ⟨hW, u y0, u y1, u y2⟩
      have HC : Hid (∀ W, Below wr.heap.size wr W → Calls Tryz.prog 36 #[.string s, .int .i64 (i : Int)] W fun e w' => ∃ g, e = .returned (.slice (some ⟨g, 0, none⟩) (s.size + 1) (s.size + 1)) ∧ Br g (fromL s.size i) w' ∧ Below wr.heap.size wr w') := fun W hW => by
        refine (from_any s i W hs hlt).mono ?_
        rintro e w1 ⟨v1, rfl, ⟨g2, hg2, hb2⟩, hB1⟩
        rw [show (fromL s.size i).length = s.size + 1 by simp [fromL]] at hg2
        exact ⟨g2, by rw [hg2], hb2, hW.trans (hB1.mono hW.size)⟩
      have HC2 : Hid (∀ W g, Below wr.heap.size wr W → Br g (fromL s.size i) W → Calls Tryz.prog 35 #[.agg #[.int .i64 k, .slice a2 n2 c2, .slice a3 n3 c3], .string s, .slice (some ⟨g, 0, none⟩) (s.size + 1) (s.size + 1)] W fun e w' => ∃ g, e = .returned (.slice (some ⟨g, 0, none⟩) (s.size + 1) (s.size + 1)) ∧ Br g (ends (bl s) n (fromL s.size i)) w' ∧ Below wr.heap.size wr w') := fun W g hW hg => by
        have hfl : (fromL s.size i).length = s.size + 1 := by simp [fromL]
        refine (HE.out s (fromL s.size i) (.slice (some ⟨g, 0, none⟩) (s.size + 1) (s.size + 1)) k _ _ A W hs (NA_below (NA_below HX.out.1 HI.out) hW) ⟨g, by rw [hfl], hg⟩ hfl).mono ?_
        rintro e w1 ⟨v1, rfl, ⟨g2, hg2, hb2⟩, hB1⟩
        rw [ends_len (bl s) n _ (by rw [hfl, bl_length]), bl_length] at hg2
        exact ⟨g2, by rw [hg2], hb2, hW.trans (hB1.mono hW.size)⟩
      go_wp2_with fail
      go_region_held3 (fun W => Below wr.heap.size wr W ∧ W.cell? ⟨w.heap.size, 0, none⟩ = some (.int .i64 k) ∧ W.cell? ⟨w.heap.size, 1, none⟩ = some (.slice a2 n2 c2) ∧ W.cell? ⟨w.heap.size, 2, none⟩ = some (.slice a3 n3 c3))
        (first | exact HKeep.out _ (Below.refl _ _).drew | exact HKeep.out _ (Below.refl _ _) | exact HKeep.out _ hq2 | exact HKeep.out _ hq1 | exact HKeep.out _ hq1.drew | exact HKeep.out _ hq2.drew)
        (first | (go_at_call 36; refine (HC.out _ (Below.refl _ wr).drew).mono ?_; rintro e w1 ⟨g1, rfl, hb1, hq1⟩) | (go_at_call 35; refine (HC2.out _ g1 hq1 hb1).mono ?_; rintro e w2 ⟨g2, rfl, hb2, hq2⟩))
      all_goals
        have HZ : Hid (Br g2 (ends (bl s) n (from1 (bl s).length i)) w2 ∧ Below wr.heap.size wr w2) := ⟨by rw [bl_length, ← fromL_from1]; exact hb2, hq2⟩
        have HM : Hid (∀ k, M (bl s) n i k ↔ (ends (bl s) n (from1 (bl s).length i))[k]? = some true) := fun k => M_ends (bl s) n i k (by rw [bl_length]; exact hlt)
        have HL : Hid ((ends (bl s) n (from1 (bl s).length i)).length = s.size + 1) := by have := ends_len (bl s) n (from1 (bl s).length i) (by simp [from1]); rwa [bl_length] at this ⊢
        clear hb1 hb2 hq1 hq2 y0 y1 y2 HC HC2 HKeep
        go_wp2_with fail
        go_loopw [11] (fun vk W => ∃ j : Nat, i ≤ j ∧ j ≤ s.size + 1 ∧ vk = .int .i64 ((j : Int) - 1) ∧ Hid (∀ e', j ≤ e' → ¬ M (bl s) n i e') ∧ W = w2) (fun vk _ => ((intOf vk) + 1).toNat)
        case atStart => exact ⟨s.size + 1, by omega, Nat.le_refl _, by simp, fun e' h1 h2 => by have := (HMl.out i e' h2 hlt).2; omega, rfl⟩
        case round =>
          obtain ⟨j, hj1, hj2, rfl, HJ, hW⟩ := hrel
          subst hW
          by_cases hlt3 : i < j
          · obtain ⟨m, rfl⟩ : ∃ m, j = m + 1 := ⟨j - 1, by omega⟩
            have e1 : ((m + 1 : Nat) : Int) - 1 = (m : Int) := by omega
            rw [e1]
            have hl4 : (i : Int) ≤ (m : Int) := by omega
            have hl5 : (m : Int) < (s.size : Int) + 1 := by omega
            obtain ⟨x, hx⟩ : ∃ x, (ends (bl s) n (from1 (bl s).length i))[m]? = some x := ⟨_, List.getElem?_eq_getElem (by have := HL.out; omega)⟩
            have cE := HZ.out.1.cell m x hx
            have HXm : Hid (_ = some x) := hx
            clear e1 hx
            cases x with
            | true =>
              go_wp2_with fail
              refine bodyPost_ret (by simp [results, Tryz.results23, go_sem]; try rfl) rfl ?_
              have hM := (HM.out m).2 HXm.out
              refine ⟨(i, m, true), rfl, .inr ⟨i, m, rfl, hi1, by rw [bl_length]; exact hlt, hM, fun e' he => ?_, HQ.out⟩, HX.out.2.1.trans ((HI.out.trans (HZ.out.2.mono HI.out.size)).mono HX.out.2.1.size)⟩
              rcases Nat.lt_or_ge e' (m + 1) with h | h
              · omega
              · exact absurd he (HJ.out e' h)
            | false =>
              have HJ2 : Hid (∀ e', m ≤ e' → ¬ M (bl s) n i e') := fun e' he hM => by
                rcases Nat.lt_or_ge m e' with h | h
                · exact HJ.out e' h hM
                · have : e' = m := by omega
                  subst this
                  have := (HM.out e').1 hM
                  rw [HXm.out] at this
                  cases this
              go_wp2_with fail
              go_roundw
              case rel => exact ⟨m, by omega, by omega, by go_num, HJ2, by first | rfl | trivial⟩
              case measure => simp [intOf]
          · have hjq : j = i := by omega
            subst hjq
            have hl4 : ¬ (j : Int) ≤ (j : Int) - 1 := by omega
            have HQ2 : Hid (∀ p' e', f ≤ p' → p' < j + 1 → ¬ M (bl s) n p' e') := fun p' e' h1 h2 hM => by
              rcases Nat.lt_or_ge p' j with h | h
              · exact HQ.out p' e' h1 h hM
              · have : p' = j := by omega
                subst this
                exact HJ.out e' (HMl.out p' e' hM hlt).1 hM
            go_wp2_with fail
            go_roundw
            case rel => exact ⟨j + 1, by omega, by omega, by go_num, HQ2, HI.out.trans (HZ.out.2.mono HI.out.size)⟩
            case measure => simp [intOf]; omega
    · have hl2 : ¬ (i : Int) ≤ (s.size : Int) := by omega
      go_wp2_with fail
      refine bodyPost_ret (by simp [results, Tryz.results23, go_sem]; try rfl) rfl ?_
      exact ⟨0, 0, .inl ⟨rfl, .inl ⟨rfl, fun p e h1 h2 => HQ.out p e h1 (by rw [bl_length] at h2; omega)⟩, HX.out.2.1.trans (HI.out.mono HX.out.2.1.size)⟩⟩
set_option maxRecDepth 20000 in
set_option maxHeartbeats 600000 in
theorem rfind_neg (s : ByteArray) (f : Int) (k : Int) (sv kv : Value) (w : World) (h1 : IsSl sv) (h2 : IsSl kv) (hf : f < 0) : Calls Tryz.prog 23 #[nodeV k sv kv, .string s, .int .i64 f] w fun e w' => e = .returned (findV (0, 0, false)) ∧ Below w.heap.size w w' := by
  obtain ⟨a2, n2, c2, rfl⟩ := h1
  obtain ⟨a3, n3, c3, rfl⟩ := h2
  obtain ⟨wn, hwn, hBn, hSn, hkn⟩ := one_box w (.cells #[.int .i64 k, .slice a2 n2 c2, .slice a3 n3 c3] 35)
  have HX : Hid (Below w.heap.size w wn) := hBn
  clear hBn hSn hkn
  simp only [nodeV]
  go_enter Tryz.func23, Tryz.ntmps23
  go_wp2_with fail
  refine bodyPost_ret (by simp [results, Tryz.results23, go_sem]; try rfl) rfl ?_
  rw [show w.alloc (Obj.cells #[Value.int IntKind.i64 k, Value.slice a2 n2 c2, Value.slice a3 n3 c3] 35) = wn from hwn.symm]
  exact ⟨rfl, HX.out⟩

/-- The matches that are chosen: none begins ahead of the last one's end. -/
def cho : Nat → List (Nat × Nat) → List (Nat × Nat)
  | _, [] => []
  | l, m :: r => if m.1 < l then cho l r else m :: cho m.2 r
theorem foldl_cho : ∀ (ms : List (Nat × Nat)) (a : List (Nat × Nat)) (l : Nat), (ms.foldl (fun x m => if m.1 < x.2 then x else (x.1 ++ [m], m.2)) (a, l)).1 = a ++ cho l ms
  | [], a, l => by simp [cho]
  | m :: r, a, l => by
    rw [List.foldl_cons, cho]
    by_cases h : m.1 < l
    · rw [if_pos h, if_pos h]; exact foldl_cho r a l
    · rw [if_neg h, if_neg h, foldl_cho r]; simp
theorem chosen_cho (K : List (Nat × Nat)) : chosenOf true K = cho 0 K := by
  unfold chosenOf chs
  rw [if_pos rfl, foldl_cho, List.nil_append]
/-- From a later place on the same are chosen. -/
theorem LM.later {s : List UInt8} {n : Nd} {f : Nat} {K : List (Nat × Nat)} (h : LM s n f K) (g l : Nat) (hg : f ≤ g) (hl : g ≤ l) (h2 : g ≤ s.length + 1) : ∃ K2, LM s n g K2 ∧ cho l K = cho l K2 := by
  induction h with
  | top =>
    have : g = s.length + 1 := by omega
    subst this
    exact ⟨[], .top, rfl⟩
  | @no p K h hp hn ih =>
    by_cases e : g = p
    · subst e; exact ⟨K, .no h hp hn, rfl⟩
    · exact ih (by omega)
  | @yes p e K h hp he hm ih =>
    by_cases e' : g = p
    · subst e'; exact ⟨_, .yes h hp he hm, rfl⟩
    · obtain ⟨K2, h3, h4⟩ := ih (by omega)
      refine ⟨K2, h3, ?_⟩
      rw [cho, if_pos (by simp only; omega)]
      exact h4
/-- What is chosen first, and what then. -/
theorem LM.cons {s : List UInt8} {n : Nd} {f : Nat} {i k : Nat} {K : List (Nat × Nat)} (h : LM s n f ((i, k) :: K)) : f ≤ i ∧ i ≤ s.length ∧ M s n i k ∧ LM s n (i + 1) K := by
  generalize hL : (i, k) :: K = L at h
  induction h with
  | top => cases hL
  | @no p K' h hp hn ih =>
    obtain ⟨a, b⟩ := ih hL
    exact ⟨by omega, b⟩
  | @yes p e K' h hp he hm ih =>
    cases hL
    exact ⟨Nat.le_refl _, hp, he, h⟩
theorem strCells_bytes (s : ByteArray) : Lib.strCells s = Lib.byteCells (bl s) := by unfold Lib.strCells Lib.byteCells bl; rfl
theorem info5 : (Tryz.prog.info? 5).map (fun i => (i.zero, i.size, i.bytes)) = some (some (.int .u8 0), 1, 1) := by kernel_rfl
theorem run_conv {w : World} {base : Nat} {v : Value} {l : List UInt8} (h : w.ownsRow base 5 1 v l.length (Lib.byteCells l)) : (convert 71 9 v).run Tryz.prog w = .ok (.string (ba l)) w := by
  obtain ⟨hxl, ⟨hv, hn0⟩ | ⟨g, cap, cur, hv, hg, hcur, hcap, hcm, hcs, hct⟩⟩ := h
  · have hqn : l = [] := List.length_eq_zero_iff.mp hn0
    rw [hv, hqn]
    exact Lib.run_convert_nil_bytes w 71 9 5 0 Tryz.underlying71 Tryz.underlying5 Tryz.underlying9
  · rw [hv]
    refine run_convert_bytes_back w 71 9 5 ⟨g, 0, none⟩ cap l Tryz.underlying71 Tryz.underlying5 Tryz.underlying9 ?_
    intro j hj
    have hjc : cur.toList[j]? = some (.int .u8 (l[j].toNat : Int)) := by
      have h2 : (cur.toList.take (l.length * 1))[j]? = (Lib.byteCells l)[j]? := by rw [hct]
      rw [List.getElem?_take_of_lt (by omega)] at h2
      rw [h2]; simp [Lib.byteCells, List.getElem?_map, List.getElem?_eq_getElem hj]
    have hc : w.cell? ⟨g, j, none⟩ = some (.int .u8 (l[j].toNat : Int)) := by
      simp only [World.cell?, hcur]
      simpa using hjc
    simp only [Addr.add]
    split
    · rename_i h0; subst h0; exact hc
    · simpa using hc
theorem bytes_slice {base : Nat} {w : World} {v : Value} {n : Nat} {xs : List Value} (h : w.ownsRow base 5 1 v n xs) : ∃ a cap, v = .slice a n cap := by
  rcases h.2 with ⟨rfl, rfl⟩ | ⟨g, cap, cur, rfl, _⟩
  · exact ⟨_, _, rfl⟩
  · exact ⟨_, _, rfl⟩
set_option maxRecDepth 20000 in
set_option maxHeartbeats 600000 in
theorem put_any (y m : ByteArray) (w : World) (hy : y.size ≤ 1000) (hm : m.size ≤ 1000) : Calls Tryz.prog 24 #[.string y, .string m] w fun e w' => e = .returned (.string (ba (fillL (bl m) (bl y)))) ∧ Below w.heap.size w w' := by
  obtain ⟨i0, hi, hz0, hz1, hz2⟩ := info_parts info5
  obtain ⟨z, hz⟩ : ∃ z, z = ba (fillL (bl m) (bl y)) := ⟨_, rfl⟩
  rw [← hz]
  have HZ : Hid (z = ba (fillL (bl m) (bl y))) := hz
  clear hz
  have hmx : (fillL (bl m) (bl y)).length ≤ 2000000 := by
    have h := fillL_len (bl m) (bl y)
    rw [bl_length, bl_length] at h
    have h2 : y.size * (m.size + 1) ≤ 1000 * 1001 := Nat.mul_le_mul hy (by omega)
    omega
  have HM : Hid ((fillL (bl m) (bl y)).length ≤ 2000000) := hmx
  clear hmx
  go_enter Tryz.func24, Tryz.ntmps24
  go_wp2_with fail
  go_loopw [5, 6] (fun v vi wr => ∃ (k : Nat) (x : List UInt8), k ≤ y.size ∧ vi = .int .i64 (k : Int) ∧ Hid (fillL (bl m) (bl y) = x ++ fillL (bl m) ((bl y).drop k)) ∧ wr.ownsRow w.heap.size 5 1 v x.length (Lib.byteCells x) ∧ Below w.heap.size w wr)
    (fun _ vi _ => y.size - (intOf vi).toNat)
  case atStart => exact ⟨0, [], Nat.zero_le _, rfl, by unfold Hid; simp, World.ownsRow_nil _ _ _ _, Below.refl _ _⟩
  case round =>
    obtain ⟨k, x, hk, rfl, HX, hown, hb⟩ := hrel
    have hbs := hb.size
    have hxl : x.length ≤ 2000000 := by
      have h1 := congrArg List.length HX.out
      have h2 := HM.out
      simp only [List.length_append] at h1
      omega
    obtain ⟨L, hll⟩ : ∃ L, x.length = L := ⟨_, rfl⟩
    rw [hll] at hown hxl
    by_cases hlt : k < y.size
    · have hil : (k : Int) < (y.size : Int) := by omega
      have hd : (bl y).drop k = y[k] :: (bl y).drop (k + 1) := by
        rw [List.drop_eq_getElem_cons (by rw [bl_length]; exact hlt)]
        congr 1
      by_cases h1 : y[k].toNat = 38
      · have hX2 : Hid (fillL (bl m) (bl y) = (x ++ bl m) ++ fillL (bl m) ((bl y).drop (k + 1))) := by
          unfold Hid
          rw [HX.out, hd, (u8_eq_iff _ 38).2 h1, fillL_amp, List.append_assoc]
        have g1 : ((y[k].toNat : Int) == 38) = true := by simp; omega
        clear hd h1
        go_wp2_with (at_builtin; refine Lib.wpList_append_own_string _ rfl _ _ 71 9 rfl w.heap.size 5 i0 Tryz.underlying71 Tryz.underlying9 hi hz0 hz1 hz2 _ _ _ rfl hown m rfl (by unfold maxLen; omega) (by omega) hbs ?_; intro v' w2 hown' hgrow _; have HG1 : Hid (Below w.heap.size w w2) := hb.grown hgrow hbs (fun k hk => (hown.lt k hk).1); have HG2 : Hid (w2.ownsRow w.heap.size 5 1 v' (x ++ bl m).length (Lib.byteCells (x ++ bl m))) := (by unfold Hid; rw [List.length_append, hll, bl_length]; rw [strCells_bytes] at hown'; simpa [Lib.byteCells] using hown'); clear hown' hgrow hown hb)
        go_roundw
        case rel => exact ⟨k + 1, x ++ bl m, by omega, by go_num, hX2, HG2.out, HG1.out⟩
        case measure => simp [intOf]; omega
      · have g1 : ((y[k].toNat : Int) == 38) = false := by simp; omega
        have n1 : y[k] ≠ 38 := fun e => h1 ((u8_eq_iff _ 38).1 e)
        by_cases h2 : y[k].toNat = 92
        · have g2 : ((y[k].toNat : Int) == 92) = true := by simp; omega
          by_cases h3 : k + 1 < y.size
          · have hil2 : (k : Int) + 1 < (y.size : Int) := by omega
            have hd2 : (bl y).drop (k + 1) = y[k + 1] :: (bl y).drop (k + 1 + 1) := by
              rw [List.drop_eq_getElem_cons (by rw [bl_length]; exact h3)]
              congr 1
            have hX2 : Hid (fillL (bl m) (bl y) = (x ++ [y[k + 1]]) ++ fillL (bl m) ((bl y).drop (k + 1 + 1))) := by
              unfold Hid
              rw [HX.out, hd, hd2, (u8_eq_iff _ 92).2 h2, fillL_esc]; simp
            obtain ⟨c, hc⟩ : ∃ c, c = y[k + 1] := ⟨_, rfl⟩
            rw [← hc] at hX2
            have hcn : (y[k + 1].toNat : Int) = (c.toNat : Int) := by rw [hc]
            clear hd hd2 h1 h2 n1 hc
            go_wp2_with (at_builtin; refine wpList_append_own _ rfl _ _ 71 rfl w.heap.size 5 i0 (.int .u8 0) 1 1 Tryz.underlying71 hi hz0 hz1 hz2 rfl (by decide) _ _ _ rfl (hown.alloc _) ⟨wr.heap.size, 0, none⟩ 1 1 [.int .u8 (c.toNat : Int)] rfl rfl (by intro j u hj; match j, hj with | 0, hj => simp at hj; subst hj; simp [Addr.add]) (by intro u hu; simp at hu; subst hu; rfl) (by unfold maxLen; omega) (by omega) (by simp; omega) ?_; intro v' w2 hown' hgrow _; have HG1 : Hid (Below w.heap.size w w2) := (hb.alloc hbs _).grown hgrow (by simp; omega) (fun k hk => (hown.lt k hk).1); have HG2 : Hid (w2.ownsRow w.heap.size 5 1 v' (x ++ [c]).length (Lib.byteCells (x ++ [c]))) := (by unfold Hid; simpa [Lib.byteCells, hll] using hown'); clear hown' hgrow hown hb)
            go_roundw
            case rel => exact ⟨k + 1 + 1, x ++ [c], by omega, by go_num, hX2, HG2.out, HG1.out⟩
            case measure => simp [intOf]; omega
          · have hil2 : ¬ (k : Int) + 1 < (y.size : Int) := by omega
            have hX2 : Hid (fillL (bl m) (bl y) = (x ++ [y[k]]) ++ fillL (bl m) ((bl y).drop (k + 1))) := by
              unfold Hid
              rw [HX.out, hd, fillL_plain _ _ _ n1 (.inr (List.drop_eq_nil_of_le (by rw [bl_length]; omega)))]; simp
            clear hd h1 h2 n1
            go_wp2_with (at_builtin; refine wpList_append_own _ rfl _ _ 71 rfl w.heap.size 5 i0 (.int .u8 0) 1 1 Tryz.underlying71 hi hz0 hz1 hz2 rfl (by decide) _ _ _ rfl (hown.alloc _) ⟨wr.heap.size, 0, none⟩ 1 1 [.int .u8 y[k].toNat] rfl rfl (by intro j u hj; match j, hj with | 0, hj => simp at hj; subst hj; simp [Addr.add]) (by intro u hu; simp at hu; subst hu; rfl) (by unfold maxLen; omega) (by omega) (by simp; omega) ?_; intro v' w2 hown' hgrow _; have HG1 : Hid (Below w.heap.size w w2) := (hb.alloc hbs _).grown hgrow (by simp; omega) (fun k hk => (hown.lt k hk).1); have HG2 : Hid (w2.ownsRow w.heap.size 5 1 v' (x ++ [y[k]]).length (Lib.byteCells (x ++ [y[k]]))) := (by unfold Hid; simpa [Lib.byteCells, hll] using hown'); clear hown' hgrow hown hb)
            go_roundw
            case rel => exact ⟨k + 1, x ++ [y[k]], by omega, by go_num, hX2, HG2.out, HG1.out⟩
            case measure => simp [intOf]; omega
        · have g2 : ((y[k].toNat : Int) == 92) = false := by simp; omega
          have hX2 : Hid (fillL (bl m) (bl y) = (x ++ [y[k]]) ++ fillL (bl m) ((bl y).drop (k + 1))) := by
            unfold Hid
            rw [HX.out, hd, fillL_plain _ _ _ n1 (.inl fun e => h2 ((u8_eq_iff _ 92).1 e))]; simp
          clear hd h1 h2 n1
          go_wp2_with (at_builtin; refine wpList_append_own _ rfl _ _ 71 rfl w.heap.size 5 i0 (.int .u8 0) 1 1 Tryz.underlying71 hi hz0 hz1 hz2 rfl (by decide) _ _ _ rfl (hown.alloc _) ⟨wr.heap.size, 0, none⟩ 1 1 [.int .u8 y[k].toNat] rfl rfl (by intro j u hj; match j, hj with | 0, hj => simp at hj; subst hj; simp [Addr.add]) (by intro u hu; simp at hu; subst hu; rfl) (by unfold maxLen; omega) (by omega) (by simp; omega) ?_; intro v' w2 hown' hgrow _; have HG1 : Hid (Below w.heap.size w w2) := (hb.alloc hbs _).grown hgrow (by simp; omega) (fun k hk => (hown.lt k hk).1); have HG2 : Hid (w2.ownsRow w.heap.size 5 1 v' (x ++ [y[k]]).length (Lib.byteCells (x ++ [y[k]]))) := (by unfold Hid; simpa [Lib.byteCells, hll] using hown'); clear hown' hgrow hown hb)
          go_roundw
          case rel => exact ⟨k + 1, x ++ [y[k]], by omega, by go_num, hX2, HG2.out, HG1.out⟩
          case measure => simp [intOf]; omega
    · have hil : ¬ (k : Int) < (y.size : Int) := by omega
      have hcv : (convert 71 9 u5).run Tryz.prog wr = .ok (.string z) wr := by
        have e : z = ba x := by
          rw [HZ.out, HX.out, List.drop_eq_nil_of_le (by rw [bl_length]; omega)]
          simp [fillL]
        rw [e]; exact run_conv (by rw [hll]; exact hown)
      obtain ⟨a, cap, hv⟩ := bytes_slice hown
      have HB : Hid (Below w.heap.size w wr) := hb
      subst hv
      clear hown hb
      go_wp2_with fail
      go_ret
      exact ⟨rfl, HB.out⟩

theorem bl_app (a c : ByteArray) : bl (a ++ c) = bl a ++ bl c := by simp [bl]
/-- Of the matches that are left: those that are chosen, or the first one alone. -/
def pickOf (al : Bool) (d : Nat) (K : List (Nat × Nat)) : List (Nat × Nat) := if al then cho d K else K.take 1
set_option maxRecDepth 20000 in
set_option maxHeartbeats 600000 in
theorem rreplace_any (n : Nd) (hT : Tiny n) (s y : ByteArray) (al : Bool) (K : List (Nat × Nat)) (k : Int) (sv kv : Value) (A : Nat → Prop) (w : World) (hs : s.size ≤ 100) (hy : y.size ≤ 100) (hK : LM (bl s) n 0 K) (hn : NA w A n k sv kv) : Calls Tryz.prog 9 #[nodeV k sv kv, .string s, .string y, .bool al] w fun e w' => e = .returned (.string (ba (putL (bl s) (bl y) 0 (chosenOf al K)))) ∧ Below w.heap.size w w' := by
  obtain ⟨⟨a2, n2, c2, rfl⟩, ⟨a3, n3, c3, rfl⟩⟩ := NA_sl hn
  obtain ⟨wn, hwn, hBn, hSn, hkn⟩ := one_box w (.cells #[.int .i64 k, .slice a2 n2 c2, .slice a3 n3 c3] 35)
  obtain ⟨z, hz⟩ : ∃ z, z = ba (putL (bl s) (bl y) 0 (chosenOf al K)) := ⟨_, rfl⟩
  rw [← hz]
  have HX : Hid (NA wn A n k (.slice a2 n2 c2) (.slice a3 n3 c3) ∧ Below w.heap.size w wn ∧ wn.heap.size = w.heap.size + 1 ∧ wn.heap[w.heap.size]? = some (.cells #[.int .i64 k, .slice a2 n2 c2, .slice a3 n3 c3] 35 (0, 0)) ∧ Tiny n) := ⟨NA_below hn hBn, hBn, hSn, hkn, hT⟩
  have HZ : Hid (bl z = putL (bl s) (bl y) 0 (pickOf al 0 K)) := by
    unfold Hid
    rw [hz, bl_ba]
    cases al with
    | true => rw [chosen_cho]; rfl
    | false => rfl
  have HK : Hid (LM (bl s) n 0 K) := hK
  clear hn hBn hSn hkn hT hz hK
  simp only [nodeV]
  go_enter Tryz.func9, Tryz.ntmps9
  go_wp2_with fail
  rw [show w.alloc (Obj.cells #[Value.int IntKind.i64 k, Value.slice a2 n2 c2, Value.slice a3 n3 c3] 35) = wn from hwn.symm]
  clear hwn
  go_loopw [9, 10, 11] (fun vo vd va wr => ∃ (o : ByteArray) (d a : Nat) (K' : List (Nat × Nat)), vo = .string o ∧ vd = .int .i64 (d : Int) ∧ va = .int .i64 (a : Int) ∧ d ≤ a ∧ d ≤ s.size ∧ a ≤ s.size + 1 ∧ o.size ≤ 20000 * a ∧ Hid (LM (bl s) n a K' ∧ bl z = bl o ++ putL (bl s) (bl y) d (pickOf al d K') ∧ Below wn.heap.size wn wr)) (fun _ _ va _ => s.size + 1 - (intOf va).toNat)
  case atStart => exact ⟨_, 0, 0, K, rfl, rfl, rfl, Nat.le_refl _, Nat.zero_le _, Nat.zero_le _, Nat.le_refl _, HK.out, by rw [HZ.out]; rfl, Below.refl _ _⟩
  case round =>
    obtain ⟨o, d, a, K', rfl, rfl, rfl, hda, hds, has, hos, HI⟩ := hrel
    have hkw : wr.heap[w.heap.size]? = _ := (HI.out.2.2.block w.heap.size (by have := HX.out.2.2.1; omega)).trans HX.out.2.2.2.1
    obtain ⟨y0, y1, y2⟩ := node_cells hkw
    clear hkw
    have HF : Hid (Calls Tryz.prog 23 #[.agg #[.int .i64 k, .slice a2 n2 c2, .slice a3 n3 c3], .string s, .int .i64 (a : Int)] wr fun e w' => e = .returned (findV (headOf K')) ∧ Below wr.heap.size wr w') := by
      refine (rfind_any n HX.out.2.2.2.2 s a k _ _ A wr (by omega) (by omega) (NA_below HX.out.1 HI.out.2.2)).mono ?_
      rintro e w' ⟨x, rfl, h1, h2⟩
      rw [h1.head HI.out.1]
      exact ⟨rfl, h2⟩
    cases K' with
    | nil =>
      simp only [headOf, findV] at HF
      go_wp2_with fail
      refine HF.out.mono ?_
      rintro e w1 ⟨rfl, hB1⟩
      have HB : Hid (Below w.heap.size w w1) := HX.out.2.1.trans ((HI.out.2.2.trans (hB1.mono HI.out.2.2.size)).mono HX.out.2.1.size)
      clear hB1
      go_wp2_with fail
      have he : o ++ s.extract d s.size = z := by
        apply bl_inj
        rw [HI.out.2.1, bl_app, bl_extract, show pickOf al d [] = [] by unfold pickOf; cases al <;> rfl, putL, List.take_of_length_le (by rw [bl_length]; exact Nat.le_refl _)]
      rw [he]
      go_ret
      exact ⟨rfl, HB.out⟩
    | cons m K' =>
      obtain ⟨i, e⟩ := m
      simp only [headOf, findV] at HF
      obtain ⟨h1, h2, h3, h4⟩ := LM.cons HI.out.1
      have h5 := M_le _ _ _ _ h3
      have h6 := M_top _ _ _ _ h3 h2
      rw [bl_length] at h2 h6
      obtain ⟨q, hq⟩ : ∃ q, q = ba (fillL (bl (s.extract i e)) (bl y)) := ⟨_, rfl⟩
      have hqs : q.size ≤ 10100 := by
        rw [hq, ba_size]
        have h := fillL_len (bl (s.extract i e)) (bl y)
        rw [bl_length, bl_length] at h
        have h2 : y.size * ((s.extract i e).size + 1) ≤ 100 * 101 := Nat.mul_le_mul hy (by simp; omega)
        omega
      have HP : Hid (∀ W, Calls Tryz.prog 24 #[.string y, .string (s.extract i e)] W fun r w' => r = .returned (.string q) ∧ Below W.heap.size W w') := fun W => by
        rw [hq]; exact put_any y (s.extract i e) W (by omega) (by simp; omega)
      have HE : Hid (∃ K2, LM (bl s) n (if i = e then e + 1 else e) K2 ∧ bl z = bl (o ++ (s.extract d i ++ q)) ++ putL (bl s) (bl y) e (if al then cho e K2 else [])) := by
        have hp : ∀ R, putL (bl s) (bl y) d ((i, e) :: R) = bl (s.extract d i) ++ bl q ++ putL (bl s) (bl y) e R := by
          intro R
          rw [putL, hq, bl_ba, bl_extract, bl_extract]
          simp only [List.drop_take]
        obtain ⟨K2, hk1, hk2⟩ : ∃ K2, LM (bl s) n (if i = e then e + 1 else e) K2 ∧ cho e K' = cho e K2 := by
          by_cases hie : i = e
          · subst hie
            rw [if_pos rfl]
            exact ⟨K', h4, rfl⟩
          · rw [if_neg hie]
            exact LM.later h4 e e (by omega) (Nat.le_refl _) (by rw [bl_length]; omega)
        refine ⟨K2, hk1, ?_⟩
        rw [HI.out.2.1]
        unfold pickOf
        cases al with
        | true =>
          rw [if_pos rfl, if_pos rfl, cho, if_neg (by simp only; omega), hp, hk2]
          simp [bl_app]
        | false =>
          rw [if_neg (by decide), if_neg (by decide)]
          simp only [List.take_succ_cons, List.take_zero]
          rw [hp]
          simp [bl_app]
      clear h3 h4 hq
      go_wp2_with fail
      refine HF.out.mono ?_
      rintro r w1 ⟨rfl, hB1⟩
      have HB : Hid (Below wn.heap.size wn w1) := HI.out.2.2.trans (hB1.mono HI.out.2.2.size)
      clear hB1 y0 y1 y2
      have hdi : (d : Int) ≤ (i : Int) := by omega
      have his : (i : Int) ≤ (s.size : Int) := by omega
      have hie : (i : Int) ≤ (e : Int) := by omega
      have hes : (e : Int) ≤ (s.size : Int) := by omega
      go_wp2_with fail
      go_region_with (first | (go_at_call 24; refine (HP.out _).mono ?_; rintro r w2 ⟨rfl, hB2⟩))
      all_goals
        have HB2 : Hid (Below wn.heap.size wn w2) := HB.out.drew.trans (hB2.mono HB.out.size)
        have hos2 : (o ++ (s.extract d i ++ q)).size ≤ 20000 * (a + 1) := by
          rw [ByteArray.size_append, ByteArray.size_append]; simp; omega
        obtain ⟨o2, ho2⟩ : ∃ o2, o2 = o ++ (s.extract d i ++ q) := ⟨_, rfl⟩
        rw [← ho2] at HE hos2 ⊢
        have hes2 : e ≤ s.size := by omega
        clear hB2 HP HF HB ho2
        cases al with
        | true =>
          by_cases hie2 : i = e
          · subst hie2
            obtain ⟨K2, hk1, hk2⟩ := HE.out
            rw [if_pos rfl] at hk1
            have HK2 : Hid (LM (bl s) n (i + 1) K2 ∧ bl z = bl o2 ++ putL (bl s) (bl y) i (pickOf true i K2)) := ⟨hk1, hk2⟩
            clear hk1 hk2
            go_wp2_with fail
            go_roundw
            case rel => exact ⟨o2, i, i + 1, K2, rfl, rfl, by go_num, by omega, by omega, by omega, by omega, HK2.out.1, HK2.out.2, HB2.out⟩
            case measure => simp [intOf]; omega
          · have hie3 : ¬ (i : Int) = (e : Int) := by omega
            have hie4 : ((i : Int) == (e : Int)) = false := by simp; omega
            obtain ⟨K2, hk1, hk2⟩ := HE.out
            rw [if_neg hie2] at hk1
            have HK2 : Hid (LM (bl s) n e K2 ∧ bl z = bl o2 ++ putL (bl s) (bl y) e (pickOf true e K2)) := ⟨hk1, hk2⟩
            clear hk1 hk2
            go_wp2_with fail
            go_roundw
            case rel => exact ⟨o2, e, e, K2, rfl, rfl, rfl, by omega, by omega, by omega, by omega, HK2.out.1, HK2.out.2, HB2.out⟩
            case measure => simp [intOf]; omega
        | false =>
          have he : o2 ++ s.extract e s.size = z := by
            obtain ⟨K2, hk1, hk2⟩ := HE.out
            apply bl_inj
            rw [hk2, bl_app, bl_extract, if_neg (by decide), putL, List.take_of_length_le (by rw [bl_length]; exact Nat.le_refl _)]
          have HB : Hid (Below w.heap.size w w2) := HX.out.2.1.trans (HB2.out.mono HX.out.2.1.size)
          by_cases hie2 : i = e
          · subst hie2
            go_wp2_with fail
            go_ret
            exact ⟨rfl, HB.out⟩
          · have hie3 : ¬ (i : Int) = (e : Int) := by omega
            have hie4 : ((i : Int) == (e : Int)) = false := by simp; omega
            go_wp2_with fail
            go_ret
            exact ⟨rfl, HB.out⟩

theorem spc_apart : ∀ k : Fin 12, ((bl spc).take k.val).contains ((bl spc).getD k.val 0) = false := by decide
theorem spc_all : ∀ n : Fin 256, (bl spc).contains (UInt8.ofNat n.val) = special (UInt8.ofNat n.val) := by decide +kernel
def mark1 (c : UInt8) (k : Nat) : List UInt8 := if ((bl spc).take k).contains c then [92] else []
theorem spc_size : spc.size = 12 := rfl
theorem mark1_step (c d : UInt8) (k : Nat) (h : (bl spc)[k]? = some d) : (d = c → mark1 c k = [] ∧ mark1 c (k + 1) = [92]) ∧ (¬ d = c → mark1 c (k + 1) = mark1 c k) := by
  obtain ⟨hk, hg⟩ := List.getElem?_eq_some_iff.1 h
  have hk2 : k < 12 := by rw [bl_length, spc_size] at hk; exact hk
  have ht : (bl spc).take (k + 1) = (bl spc).take k ++ [d] := by
    rw [← hg, List.take_append_getElem]
  constructor
  · intro e
    have h1 := spc_apart ⟨k, hk2⟩
    have h2 : (bl spc).getD k 0 = c := by rw [List.getD_eq_getElem?_getD, h, e]; rfl
    simp only [h2] at h1
    unfold mark1
    rw [ht, h1, e]
    simp
  · intro e
    unfold mark1
    rw [ht]
    have : ((bl spc).take k ++ [d]).contains c = ((bl spc).take k).contains c := by
      rw [List.contains_eq_any_beq, List.contains_eq_any_beq, List.any_append]
      have : (c == d) = false := by simp; exact fun h => e h.symm
      simp [this]
    rw [this]
theorem mark1_all (c : UInt8) : mark1 c 12 = if special c then [92] else [] := by
  have h := spc_all ⟨c.toNat, c.toNat_lt⟩
  simp only [UInt8.ofNat_toNat] at h
  unfold mark1
  rw [List.take_of_length_le (by rw [bl_length, spc_size]; exact Nat.le_refl _), h]
theorem quote_snoc : ∀ (l : List UInt8) (c : UInt8), quote (l ++ [c]) = quote l ++ (mark1 c 12 ++ [c])
  | [], c => by rw [mark1_all]; simp only [List.nil_append, quote]; split <;> rfl
  | d :: l, c => by
    rw [List.cons_append, quote, quote, quote_snoc l c]
    split <;> simp
set_option maxRecDepth 20000 in
set_option maxHeartbeats 600000 in
theorem rquote_any (y : ByteArray) (w : World) (hy : y.size ≤ 1000) : Calls Tryz.prog 11 #[.string y] w fun e w' => e = .returned (.string (ba (quote (bl y)))) ∧ Below w.heap.size w w' := by
  obtain ⟨i0, hi, hz0, hz1, hz2⟩ := info_parts info5
  obtain ⟨z, hz⟩ : ∃ z, z = ba (quote (bl y)) := ⟨_, rfl⟩
  rw [← hz]
  have HZ : Hid (z = ba (quote (bl y))) := hz
  clear hz
  obtain ⟨wa, hwa, hBa, hSa, hka⟩ := one_box w (.cells #[.int .u8 92] 5)
  have hcv0 : (convert 71 9 (.slice (some ⟨w.heap.size, 0, none⟩) 1 1)).run Tryz.prog (w.alloc (.cells #[.int .u8 92] 5)) = .ok (.string ⟨#[92]⟩) (w.alloc (.cells #[.int .u8 92] 5)) := by
    rw [← hwa]
    refine run_convert_bytes_back wa 71 9 5 ⟨w.heap.size, 0, none⟩ 1 [92] Tryz.underlying71 Tryz.underlying5 Tryz.underlying9 ?_
    intro j hj
    have : j = 0 := by simp at hj; exact hj
    subst this
    simp only [Addr.add, World.cell?]
    simp [hka]
  have HW : Hid (Below w.heap.size w wa ∧ wa.heap.size = w.heap.size + 1) := ⟨hBa, hSa⟩
  clear hBa hSa hka
  go_enter Tryz.func11, Tryz.ntmps11
  go_wp2_with fail
  rw [← hwa]
  rw [show (({ data := #[46, 94, 36, 42, 43, 63, 124, 40, 41, 91, 93] } : ByteArray) ++ { data := #[92] }) = spc from rfl]
  clear hcv0 hwa
  obtain ⟨sp, hsp⟩ : ∃ sp, sp = spc := ⟨_, rfl⟩
  rw [← hsp]
  have hz12 : sp.size = 12 := by rw [hsp]; rfl
  have HSp : Hid (sp = spc) := hsp
  clear hsp
  go_loopw [4, 5] (fun v vi wr => ∃ (k : Nat), k ≤ y.size ∧ vi = .int .i64 (k : Int) ∧ wr.ownsRow (w.heap.size + 1) 5 1 v (quote ((bl y).take k)).length (Lib.byteCells (quote ((bl y).take k))) ∧ Below (w.heap.size + 1) wa wr)
    (fun _ vi _ => y.size - (intOf vi).toNat)
  case atStart => exact ⟨0, Nat.zero_le _, rfl, World.ownsRow_nil _ _ _ _, Below.refl _ _⟩
  case round =>
    obtain ⟨k, hk, rfl, hown, hb⟩ := hrel
    have hxl : (quote ((bl y).take k)).length ≤ 2000 := by
      have h1 := quote_len ((bl y).take k)
      rw [List.length_take, bl_length] at h1
      omega
    by_cases hlt : k < y.size
    · have hil : (k : Int) < (y.size : Int) := by omega
      obtain ⟨x, hx⟩ : ∃ x, x = quote ((bl y).take k) := ⟨_, rfl⟩
      have HX : Hid (quote ((bl y).take (k + 1)) = x ++ (mark1 y[k] 12 ++ [y[k]])) := by
        unfold Hid
        rw [hx, ← List.take_append_getElem (by rw [bl_length]; exact hlt : k < (bl y).length), quote_snoc]; rfl
      rw [← hx] at hown hxl
      clear hx
      go_wp2_with fail
      go_loopw [4, 6] (fun v vj wr => ∃ (j : Nat) (x' : List UInt8), j ≤ 12 ∧ vj = .int .i64 (j : Int) ∧ x' = x ++ mark1 y[k] j ∧ wr.ownsRow (w.heap.size + 1) 5 1 v x'.length (Lib.byteCells x') ∧ Below (w.heap.size + 1) wa wr)
        (fun _ vj _ => 12 - (intOf vj).toNat)
      case atStart => exact ⟨0, x, Nat.zero_le _, rfl, by simp [mark1], hown, hb⟩
      case round =>
        clear hown hb
        obtain ⟨j, x', hj, rfl, hx', hown, hb⟩ := hrel
        have hbs : w.heap.size + 1 ≤ wr.heap.size := by have := hb.size; have := HW.out.2; omega
        have hx2 : x'.length ≤ 2001 := by
          rw [hx', List.length_append]
          have : (mark1 y[k] j).length ≤ 1 := by unfold mark1; split <;> simp
          omega
        obtain ⟨L, hll⟩ : ∃ L, x'.length = L := ⟨_, rfl⟩
        rw [hll] at hown hx2
        by_cases hlt2 : j < 12
        · have hjl : (j : Int) < 12 := by omega
          have hjs : (j : Int) < (sp.size : Int) := by omega
          have hjs2 : j < sp.size := by omega
          have hst := mark1_step y[k] sp[j] j (by rw [← HSp.out]; exact bl_get sp j hjs2)
          obtain ⟨d, hd⟩ : ∃ d : Nat, sp[j].toNat = d := ⟨_, rfl⟩
          by_cases he : sp[j] = y[k]
          · have hdy : y[k].toNat = d := by rw [← hd, he]
            have hde : ((d : Int) == (d : Int)) = true := by simp
            obtain ⟨s1, s2⟩ := hst.1 he
            have HX2 : Hid (x' ++ [92] = x ++ mark1 y[k] (j + 1)) := by unfold Hid; rw [hx', s1, s2]; simp
            clear hst s1 s2 he hx'
            go_wp2_with fail
            go_quiet (fail)
            obtain ⟨wq, hwq⟩ : ∃ wq, wq = wr.drewN nq := ⟨_, rfl⟩
            replace hown : wq.ownsRow (w.heap.size + 1) 5 1 u4 L (Lib.byteCells x') := by rw [hwq]; exact hown
            replace hb : Below (w.heap.size + 1) wa wq := by rw [hwq]; exact below_drewN hb _
            replace hbs : w.heap.size + 1 ≤ wq.heap.size := by rw [hwq]; exact hbs
            rw [← hwq]
            clear hwq nq
            go_wp2_with (at_builtin; refine wpList_append_own _ rfl _ _ 71 rfl (w.heap.size + 1) 5 i0 (.int .u8 0) 1 1 Tryz.underlying71 hi hz0 hz1 hz2 rfl (by decide) _ _ _ rfl (hown.alloc _) ⟨wq.heap.size, 0, none⟩ 1 1 [.int .u8 92] rfl rfl (by intro j u hj; match j, hj with | 0, hj => simp at hj; subst hj; simp [Addr.add]) (by intro u hu; simp at hu; subst hu; rfl) (by unfold maxLen; omega) (by omega) (by simp; omega) ?_; intro v' w2 hown' hgrow _; have HG1 : Hid (Below (w.heap.size + 1) wa w2) := (hb.alloc hbs _).grown hgrow (by simp; omega) (fun k hk => (hown.lt k hk).1); have HG2 : Hid (w2.ownsRow (w.heap.size + 1) 5 1 v' (x' ++ [92]).length (Lib.byteCells (x' ++ [92]))) := (by unfold Hid; simpa [Lib.byteCells, hll] using hown'); clear hown' hgrow hown hb)
            go_roundw
            case rel => exact ⟨j + 1, x' ++ [92], by omega, by go_num, HX2.out, HG2.out, HG1.out⟩
            case measure => simp [intOf]; omega
          · obtain ⟨c, hc⟩ : ∃ c : Nat, y[k].toNat = c := ⟨_, rfl⟩
            have hne : ¬ d = c := fun e => he (by rw [u8_eq_iff, hd, hc, e])
            have hne2 : ((d : Int) == (c : Int)) = false := by simp; omega
            have HX2 : Hid (x' = x ++ mark1 y[k] (j + 1)) := by unfold Hid; rw [hst.2 he]; exact hx'
            clear hst he hx'
            go_wp2_with fail
            go_quiet (fail)
            obtain ⟨wq, hwq⟩ : ∃ wq, wq = wr.drewN nq := ⟨_, rfl⟩
            replace hown : wq.ownsRow (w.heap.size + 1) 5 1 u4 L (Lib.byteCells x') := by rw [hwq]; exact hown
            replace hb : Below (w.heap.size + 1) wa wq := by rw [hwq]; exact below_drewN hb _
            replace hbs : w.heap.size + 1 ≤ wq.heap.size := by rw [hwq]; exact hbs
            rw [← hwq]
            clear hwq nq
            have HO : Hid (wq.ownsRow (w.heap.size + 1) 5 1 u4 x'.length (Lib.byteCells x') ∧ Below (w.heap.size + 1) wa wq) := ⟨by rw [hll]; exact hown, hb⟩
            clear hown hb
            go_wp2_with fail
            go_roundw
            case rel => exact ⟨j + 1, x', by omega, by go_num, HX2.out, HO.out.1, HO.out.2⟩
            case measure => simp [intOf]; omega
        · have hjl : ¬ (j : Int) < 12 := by omega
          have hjs : ¬ (j : Int) < (sp.size : Int) := by omega
          have hj12 : j = 12 := by omega
          subst hj12
          have HX2 : Hid (x' ++ [y[k]] = quote ((bl y).take (k + 1))) := by unfold Hid; rw [HX.out, hx']; simp
          clear hx'
          go_wp2_with (at_builtin; refine wpList_append_own _ rfl _ _ 71 rfl (w.heap.size + 1) 5 i0 (.int .u8 0) 1 1 Tryz.underlying71 hi hz0 hz1 hz2 rfl (by decide) _ _ _ rfl (hown.alloc _) ⟨wr.heap.size, 0, none⟩ 1 1 [.int .u8 y[k].toNat] rfl rfl (by intro j u hj; match j, hj with | 0, hj => simp at hj; subst hj; simp [Addr.add]) (by intro u hu; simp at hu; subst hu; rfl) (by unfold maxLen; omega) (by omega) (by simp; omega) ?_; intro v' w2 hown' hgrow _; have HG1 : Hid (Below (w.heap.size + 1) wa w2) := (hb.alloc hbs _).grown hgrow (by simp; omega) (fun k hk => (hown.lt k hk).1); have HG2 : Hid (w2.ownsRow (w.heap.size + 1) 5 1 v' (x' ++ [y[k]]).length (Lib.byteCells (x' ++ [y[k]]))) := (by unfold Hid; simpa [Lib.byteCells, hll] using hown'); clear hown' hgrow hown hb)
          go_roundw
          case rel => exact ⟨k + 1, by omega, by go_num, by rw [← HX2.out]; exact HG2.out, HG1.out⟩
          case measure => simp [intOf]; omega
    · have hil : ¬ (k : Int) < (y.size : Int) := by omega
      have hcv : (convert 71 9 u4).run Tryz.prog wr = .ok (.string z) wr := by
        have e : z = ba (quote ((bl y).take k)) := by
          rw [HZ.out, List.take_of_length_le (by rw [bl_length]; omega)]
        rw [e]; exact run_conv hown
      obtain ⟨a, cap, hv⟩ := bytes_slice hown
      have HB : Hid (Below w.heap.size w wr) := HW.out.1.trans (hb.mono (by omega))
      subst hv
      clear hown hb
      go_wp2_with fail
      go_ret
      exact ⟨rfl, HB.out⟩

set_option maxRecDepth 20000 in
set_option maxHeartbeats 400000 in
theorem far_any (p s : ByteArray) (w : World) (hp : p.size ≤ 9223372036854775807) (hs : s.size ≤ 9223372036854775807) : Calls Tryz.prog 4 #[.string p, .string s] w fun e w' => e = .returned (.bool (decide (300 < p.size ∨ 60 < s.size))) ∧ w = w' := by
  by_cases h : 300 < p.size
  · have h1 : (300 : Int) < (p.size : Int) := by omega
    have h2 : decide (300 < p.size ∨ 60 < s.size) = true := by simp; omega
    rw [h2]
    clear h2
    go_enter Tryz.func4, Tryz.ntmps4
    go_wp2
    go_ret
    exact ⟨rfl, rfl⟩
  · have h1 : ¬ (300 : Int) < (p.size : Int) := by omega
    by_cases h3 : 60 < s.size
    · have h4 : (60 : Int) < (s.size : Int) := by omega
      have h2 : decide (300 < p.size ∨ 60 < s.size) = true := by simp; omega
      rw [h2]
      clear h2
      go_enter Tryz.func4, Tryz.ntmps4
      go_wp2
      go_ret
      exact ⟨rfl, rfl⟩
    · have h4 : ¬ (60 : Int) < (s.size : Int) := by omega
      have h2 : decide (300 < p.size ∨ 60 < s.size) = false := by simp; omega
      rw [h2]
      clear h2
      go_enter Tryz.func4, Tryz.ntmps4
      go_wp2
      go_ret
      exact ⟨rfl, rfl⟩
theorem NA_wrote {W W' : World} {A : Nat → Prop} {n : Nd} {k : Int} {sv kv : Value} {b : Nat} (h : NA W A n k sv kv) (hb : Wrote b W W') (hA : ¬ A b) : NA W' A n k sv kv := NA_keep (fun q hq hl => ⟨hq, hb.block q hl (fun e => hA (e ▸ hq))⟩) _ _ _ _ h
def Tri (X : World) (B : Nat) (s y : ByteArray) (al : Bool) : Prop := X.heap[B]? = some (.cells #[.string s, .string y, .bool al] 23 (0, 0))
theorem Tri.cells {X : World} {B : Nat} {s y : ByteArray} {al : Bool} (h : Tri X B s y al) : X.cell? ⟨B, 0, none⟩ = some (.string s) ∧ X.cell? ⟨B, 1, none⟩ = some (.string y) ∧ X.cell? ⟨B, 2, none⟩ = some (.bool al) := by
  refine ⟨?_, ?_, ?_⟩ <;> (simp only [World.cell?]; rw [show X.heap[B]? = _ from h]; rfl)
theorem Tri.lt {X : World} {B : Nat} {s y : ByteArray} {al : Bool} (h : Tri X B s y al) : B < X.heap.size := (Array.getElem?_eq_some_iff.1 h).1
theorem Tri.below {X Y : World} {B : Nat} {s y : ByteArray} {al : Bool} (h : Tri X B s y al) (hb : Below X.heap.size X Y) : Tri Y B s y al := (hb.block B h.lt).trans h
theorem Tri.wrote {X Y : World} {B b : Nat} {s y : ByteArray} {al : Bool} (h : Tri X B s y al) (hb : Wrote b X Y) (hne : ¬ B = b) : Tri Y B s y al := (hb.block B h.lt hne).trans h
set_option maxRecDepth 20000 in
set_option maxHeartbeats 1000000 in
theorem replaces_law (p s y : ByteArray) (al : Bool) (w : World) (hp : p.size ≤ 9223372036854775807) (hs : s.size ≤ 9223372036854775807) (hy : y.size ≤ 9223372036854775807) : Calls Tryz.prog 3 #[.string p, .agg #[.string s, .string y, .bool al]] w fun e w' => e = .returned (.bool true) ∧ Below w.heap.size w w' := by
  have HA : Hid (∀ W, Calls Tryz.prog 5 #[] W fun e w' => e = .returned (.bool true) ∧ Below W.heap.size W w') := alive_any
  have HFar : Hid (∀ W, Calls Tryz.prog 4 #[.string p, .string s] W fun e w' => e = .returned (.bool (decide (300 < p.size ∨ 60 < s.size))) ∧ W = w') := fun W => far_any p s W hp hs
  obtain ⟨wn, hwn, hBn, hSn, hkn⟩ := one_box w (.cells #[.string s, .string y, .bool al] 23)
  obtain ⟨x0, hx0⟩ : ∃ x0, x0 = w.heap.size := ⟨_, rfl⟩
  have HT : Hid (Tri wn x0 s y al) := by rw [hx0]; exact hkn
  have HN : Hid (Below w.heap.size w wn ∧ wn.heap.size = w.heap.size + 1 ∧ x0 = w.heap.size) := ⟨hBn, hSn, hx0⟩
  clear hBn hSn hkn
  have hbe : ∀ (x y : Bool) (w : World), Sem.run Tryz.prog (binOp BinOp.eql 4 (.bool x) (.bool y)) w = .ok (.bool (x == y)) w := fun _ _ _ => rfl
  by_cases hfar : 300 < p.size ∨ 60 < s.size
  · have hfd : decide (300 < p.size ∨ 60 < s.size) = true := by simpa using hfar
    rw [hfd] at HFar
    clear hfd hfar
    go_enter Tryz.func3, Tryz.ntmps3
    go_wp2_with fail
    rw [← hwn]
    clear hwn
    refine (HFar.out _).mono ?_
    rintro e w1 ⟨rfl, rfl⟩
    go_wp2_with fail
    refine (HA.out _).mono ?_
    rintro e w1 ⟨rfl, hb⟩
    have HB : Hid (Below w.heap.size w w1) := HN.out.1.trans (hb.mono HN.out.1.size)
    clear hb
    go_wp2_with fail
    go_ret
    exact ⟨rfl, HB.out⟩
  · have hfd : decide (300 < p.size ∨ 60 < s.size) = false := by simpa using hfar
    rw [hfd] at HFar
    have hs2 : s.size ≤ 60 := by omega
    obtain ⟨g0, g1, g2⟩ := HT.out.cells
    by_cases hyy : 60 < y.size
    · have hyi : (60 : Int) < (y.size : Int) := by omega
      clear hfd hfar
      go_enter Tryz.func3, Tryz.ntmps3
      go_wp2_with fail
      rw [← hwn, ← hx0]
      clear hwn hx0
      refine (HFar.out _).mono ?_
      rintro e w1 ⟨rfl, rfl⟩
      go_wp2_with fail
      refine (HA.out _).mono ?_
      rintro e w1 ⟨rfl, hb⟩
      have HB : Hid (Below w.heap.size w w1) := HN.out.1.trans (hb.mono HN.out.1.size)
      clear hb
      go_wp2_with fail
      go_ret
      exact ⟨rfl, HB.out⟩
    have hyi : ¬ (60 : Int) < (y.size : Int) := by omega
    obtain ⟨c, hc⟩ := Comp.total (bl p)
    have HC : Hid (∀ W, Calls Tryz.prog 6 #[.string p] W (MadePost p W c)) := fun W => compile_made p c hc W
    have HR : Hid (∀ W, Calls Tryz.prog 7 #[.string p] W (RComp c W)) := fun W => rcompile_any p c hc W
    clear hfd hfar hp hs
    go_enter Tryz.func3, Tryz.ntmps3
    go_wp2_with fail
    rw [← hwn, ← hx0]
    clear hwn hx0
    refine (HFar.out _).mono ?_
    rintro e w0 ⟨rfl, rfl⟩
    go_wp2_with fail
    clear g0 g1 g2
    cases c with
    | inr x =>
      obtain ⟨y', a⟩ := x
      have hw : ¬ (y' : Int) = 0 := by have := comp_why hc; omega
      have hw2 : ((y' : Int) == 0) = false := by simp; omega
      clear hc
      refine (HC.out _).mono ?_
      rintro e w1 ⟨hB1, rfl⟩
      obtain ⟨wa, hwa, hBa, hSa, hka⟩ := one_box w1 (.cells #[.int .i64 (y' : Int), .int .i64 (a : Int)] 29)
      obtain ⟨x1, hx1⟩ : ∃ x1, x1 = w1.heap.size := ⟨_, rfl⟩
      rw [← hx1] at hka
      have H1 : Hid (Below w.heap.size w wa ∧ wa.heap[x1]? = some (.cells #[.int .i64 (y' : Int), .int .i64 (a : Int)] 29 (0, 0))) := ⟨HN.out.1.trans ((hB1.trans (hBa.mono hB1.size)).mono HN.out.1.size), hka⟩
      clear hB1 hBa hSa hka HC
      simp only [faultV]
      go_wp2_with fail
      rw [← hwa, ← hx1]
      clear hwa hx1
      refine (HR.out _).mono ?_
      rintro e w2 ⟨hB2, k, sv, kv, ⟨a2, n2, c2, rfl⟩, ⟨a3, n3, c3, rfl⟩, rfl⟩
      obtain ⟨wb, hwb, hBb, hSb, hkn, hkb⟩ := two w2 (.cells #[.int .i64 k, .slice a2 n2 c2, .slice a3 n3 c3] 35) (.cells #[.int .i64 (y' : Int), .int .i64 (a : Int)] 29)
      have hl1 := (Array.getElem?_eq_some_iff.1 H1.out.2).1
      have hq1 : wb.heap[x1]? = some (.cells #[.int .i64 (y' : Int), .int .i64 (a : Int)] 29 (0, 0)) := (hBb.block _ (Nat.lt_of_lt_of_le hl1 hB2.size)).trans ((hB2.block _ hl1).trans H1.out.2)
      have c0 : wb.cell? ⟨x1, 0, none⟩ = some (.int .i64 (y' : Int)) := by simp only [World.cell?, hq1]; rfl
      have c1 : wb.cell? ⟨x1, 1, none⟩ = some (.int .i64 (a : Int)) := by simp only [World.cell?, hq1]; rfl
      have d0 : wb.cell? ⟨w2.heap.size + 1, 0, none⟩ = some (.int .i64 (y' : Int)) := by simp only [World.cell?, hkb]; rfl
      have d1 : wb.cell? ⟨w2.heap.size + 1, 1, none⟩ = some (.int .i64 (a : Int)) := by simp only [World.cell?, hkb]; rfl
      have H2 : Hid (Below w.heap.size w wb) := H1.out.1.trans ((hB2.mono H1.out.1.size).trans (hBb.mono (Nat.le_trans H1.out.1.size hB2.size)))
      clear hB2 hBb hSb hkb hkn HR hl1 hq1
      simp only [nodeV, faultV]
      rw [hwb] at c0 c1 d0 d1
      go_wp2_with fail
      rw [← hwb]
      clear hwb c0 c1 d0 d1
      refine (HA.out _).mono ?_
      rintro e w9 ⟨rfl, hb⟩
      have HB : Hid (Below w.heap.size w w9) := H2.out.trans (hb.mono H2.out.size)
      clear hb
      go_wp2_with fail
      go_ret
      exact ⟨rfl, HB.out⟩
    | inl K =>
      have HTn : Hid (Tiny (.alt K)) := comp_tiny hc
      clear hc
      refine (HC.out _).mono ?_
      rintro e w1 ⟨hB1, b, rfl, hl9, hm9⟩
      obtain ⟨wa, hwa, hBa, hSa, hka⟩ := one_box w1 (.cells #[.int .i64 0, .int .i64 0] 29)
      obtain ⟨x1, hx1⟩ : ∃ x1, x1 = w1.heap.size := ⟨_, rfl⟩
      rw [← hx1] at hka
      have HM1 : Hid (Made b p K wa) := hm9.below hBa
      have HT1 : Hid (Tri wa x0 s y al) := (HT.out.below hB1).below hBa
      have H1 : Hid (Below w.heap.size w wa ∧ wa.heap[x1]? = some (.cells #[.int .i64 0, .int .i64 0] 29 (0, 0))) := ⟨HN.out.1.trans ((hB1.trans (hBa.mono hB1.size)).mono HN.out.1.size), hka⟩
      have HBl : Hid (w.heap.size ≤ b ∧ b < wa.heap.size ∧ ¬ x0 = b) := ⟨by have := HN.out.2.1; omega, by have := hm9.lt; have := hBa.size; omega, by have := HN.out.2.1; have := HN.out.2.2; omega⟩
      clear hB1 hBa hSa hka HC hl9 hm9
      simp only [faultV]
      go_wp2_with fail
      rw [← hwa, ← hx1]
      clear hwa hx1
      refine (HR.out _).mono ?_
      rintro e w2 ⟨hB2, k, sv, kv, ⟨a2, n2, c2, rfl⟩, ⟨a3, n3, c3, rfl⟩, rfl, hna⟩
      obtain ⟨wb, hwb, hBb, hSb, hkn, hkb⟩ := two w2 (.cells #[.int .i64 k, .slice a2 n2 c2, .slice a3 n3 c3] 35) (.cells #[.int .i64 0, .int .i64 0] 29)
      have hl1 := (Array.getElem?_eq_some_iff.1 H1.out.2).1
      have hq1 : wb.heap[x1]? = some (.cells #[.int .i64 0, .int .i64 0] 29 (0, 0)) := (hBb.block _ (Nat.lt_of_lt_of_le hl1 hB2.size)).trans ((hB2.block _ hl1).trans H1.out.2)
      have c0 : wb.cell? ⟨x1, 0, none⟩ = some (.int .i64 0) := by simp only [World.cell?, hq1]; rfl
      have c1 : wb.cell? ⟨x1, 1, none⟩ = some (.int .i64 0) := by simp only [World.cell?, hq1]; rfl
      have d0 : wb.cell? ⟨w2.heap.size + 1, 0, none⟩ = some (.int .i64 0) := by simp only [World.cell?, hkb]; rfl
      have d1 : wb.cell? ⟨w2.heap.size + 1, 1, none⟩ = some (.int .i64 0) := by simp only [World.cell?, hkb]; rfl
      have HB3 : Hid (Made b p K wb ∧ NA wb (fun j => wa.heap.size ≤ j) (.alt K) k (.slice a2 n2 c2) (.slice a3 n3 c3) ∧ wb.heap[w2.heap.size]? = some (.cells #[.int .i64 k, .slice a2 n2 c2, .slice a3 n3 c3] 35 (0, 0)) ∧ wb.heap.size = w2.heap.size + 2 ∧ wa.heap.size ≤ w2.heap.size ∧ Tri wb x0 s y al) := ⟨(HM1.out.below hB2).below hBb, NA_below hna hBb, hkn, by rw [hSb], hB2.size, (HT1.out.below hB2).below hBb⟩
      have H2 : Hid (Below w.heap.size w wb) := H1.out.1.trans ((hB2.mono H1.out.1.size).trans (hBb.mono (Nat.le_trans H1.out.1.size hB2.size)))
      clear hB2 hBb hSb hkb hkn HR hl1 hq1 hna
      simp only [nodeV, faultV]
      rw [hwb] at c0 c1 d0 d1
      go_wp2_with fail
      rw [← hwb]
      clear hwb c0 c1 d0 d1
      have HNb : Hid (∀ W, Wrote b wb W → NA W (fun j => wa.heap.size ≤ j) (.alt K) k (.slice a2 n2 c2) (.slice a3 n3 c3) ∧ (W.cell? ⟨w2.heap.size, 0, none⟩ = some (.int .i64 k) ∧ W.cell? ⟨w2.heap.size, 1, none⟩ = some (.slice a2 n2 c2) ∧ W.cell? ⟨w2.heap.size, 2, none⟩ = some (.slice a3 n3 c3) ∧ W.cell? ⟨x0, 0, none⟩ = some (.string s) ∧ W.cell? ⟨x0, 1, none⟩ = some (.string y) ∧ W.cell? ⟨x0, 2, none⟩ = some (.bool al)) ∧ Below w.heap.size w W) := fun W hW => by
        have h2 := HB3.out.2.2.2
        have h3 := HBl.out.2.1
        obtain ⟨y0, y1, y2⟩ := node_cells ((hW.block w2.heap.size (by omega) (by omega)).trans HB3.out.2.2.1)
        obtain ⟨g0, g1, g2⟩ := (h2.2.2.wrote hW HBl.out.2.2).cells
        exact ⟨NA_wrote HB3.out.2.1 hW (by omega), ⟨y0, y1, y2, g0, g1, g2⟩, H2.out.trans (hW.below HBl.out.1 H2.out.size)⟩
      have HKeep : Hid (∀ W, Wrote b wb W → (W.cell? ⟨w2.heap.size, 0, none⟩ = some (.int .i64 k) ∧ W.cell? ⟨w2.heap.size, 1, none⟩ = some (.slice a2 n2 c2) ∧ W.cell? ⟨w2.heap.size, 2, none⟩ = some (.slice a3 n3 c3) ∧ W.cell? ⟨x0, 0, none⟩ = some (.string s) ∧ W.cell? ⟨x0, 1, none⟩ = some (.string y) ∧ W.cell? ⟨x0, 2, none⟩ = some (.bool al))) := fun W hW => (HNb.out _ hW).2.1
      have HI1 : Hid (∀ W, Wrote b wb W → Made b p K W → Calls Tryz.prog 8 #[.pointer (some ⟨b, 0, none⟩), .string s, .string y, .bool al] W fun e w' => (∃ z, e = .returned (.string z) ∧ ∀ W2, Wrote b wb W2 → Calls Tryz.prog 9 #[.agg #[.int .i64 k, .slice a2 n2 c2, .slice a3 n3 c3], .string s, .string y, .bool al] W2 fun e w' => e = .returned (.string z) ∧ Wrote b wb w') ∧ Wrote b wb w') := fun W h1 h2 => by
        refine (replace_any steps_any b p s y K al W h2 (by omega) (by omega)).mono ?_
        rintro e w' ⟨K', rfl, hLM, hM', hw'⟩
        refine ⟨⟨_, rfl, fun W2 hW2 => ?_⟩, h1.trans hw'⟩
        refine (rreplace_any (.alt K) HTn.out s y al K' k _ _ _ W2 (by omega) (by omega) hLM (HNb.out W2 hW2).1).mono ?_
        rintro e w'' ⟨rfl, hB⟩
        exact ⟨rfl, hW2.trans (.of_below hB)⟩
      have HQ1 : Hid (∀ W, Wrote b wb W → Calls Tryz.prog 10 #[.string s] W fun e w' => e = .returned (.string (ba (quote (bl s)))) ∧ Wrote b wb w') := fun W h1 => by
        refine (quote_any s W (by omega)).mono ?_
        rintro e w' ⟨rfl, h4⟩
        exact ⟨rfl, h1.trans (.of_below h4)⟩
      have HQ2 : Hid (∀ W, Wrote b wb W → Calls Tryz.prog 11 #[.string s] W fun e w' => e = .returned (.string (ba (quote (bl s)))) ∧ Wrote b wb w') := fun W h1 => by
        refine (rquote_any s W (by omega)).mono ?_
        rintro e w' ⟨rfl, h4⟩
        exact ⟨rfl, h1.trans (.of_below h4)⟩
      have HW0 : Hid (Wrote b wb wb) := .of_below (Below.refl _ _)
      obtain ⟨q, hq⟩ : ∃ q, q = ba (quote (bl s)) := ⟨_, rfl⟩
      rw [← hq] at HQ1 HQ2
      clear hq
      obtain ⟨y0, y1, y2, g0, g1, g2⟩ := HKeep.out _ HW0.out
      go_wp2_with fail
      go_region_held3 (fun W => W.cell? ⟨w2.heap.size, 0, none⟩ = some (.int .i64 k) ∧ W.cell? ⟨w2.heap.size, 1, none⟩ = some (.slice a2 n2 c2) ∧ W.cell? ⟨w2.heap.size, 2, none⟩ = some (.slice a3 n3 c3) ∧ W.cell? ⟨x0, 0, none⟩ = some (.string s) ∧ W.cell? ⟨x0, 1, none⟩ = some (.string y) ∧ W.cell? ⟨x0, 2, none⟩ = some (.bool al))
        (first | exact HKeep.out _ HW0.out | exact HKeep.out _ HW0.out.drew | exact HKeep.out _ hw5 | exact HKeep.out _ hw6 | exact HKeep.out _ hw7 | exact HKeep.out _ hw8 | exact HKeep.out _ (hw8.trans (.of_below hb9)))
        (first | (go_at_call 8; refine (HI1.out _ (by first | exact HW0.out | exact HW0.out.drew) (by first | exact HB3.out.1 | exact HB3.out.1.below (Below.refl _ _).drew)).mono ?_; rintro e w5 ⟨⟨z, rfl, hz⟩, hw5⟩) | (go_at_call 9; refine (hz _ hw5).mono ?_; rintro e w6 ⟨rfl, hw6⟩) | (go_at_call 10; refine (HQ1.out _ hw6).mono ?_; rintro e w7 ⟨rfl, hw7⟩) | (go_at_call 11; refine (HQ2.out _ hw7).mono ?_; rintro e w8 ⟨rfl, hw8⟩) | (go_at_call 5; refine (HA.out _).mono ?_; rintro e w9 ⟨rfl, hb9⟩))
      all_goals
        have HB : Hid (Below w.heap.size w w9) := by
          have := (HNb.out _ hw8).2.2
          exact this.trans (hb9.mono this.size)
        clear hb9 hw8 hw7 hw6 hw5 hz y0 y1 y2 g0 g1 g2
        go_wp2_with fail
        go_ret
        exact ⟨rfl, HB.out⟩
end Go.Proofs.YtmmhajlfbjjocaaGreat
