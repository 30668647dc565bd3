/-
  Backward: a row's places, from the last one.
-/
import Derived.RangeFuncNested
import Derived.RangeFuncBound
import Derived.RangeFuncCalls
import Derived.RangeFuncLeaves
import Derived.RangeFuncBox
import Derived.Shelf.RegionOpen
import Derived.WalkKit
import Derived.OwnWalkIn
import Derived.TacticsInMore
import Derived.LoopNIn
import Derived.LoopIn
import Derived.Test.YtmmhajlfbjjocaaGreatPEachA
namespace Go.Proofs.YtmmhajlfbjjocaaGreat
open Go.RowKit Go.Shelf RxSem
attribute [local go_sem] Oper.semAt_some

def seqOf (L : List (Nat × Nat)) : List (Nat × (Nat × Nat)) := (L.zipIdx.map (fun x => (x.2, x.1))).reverse
theorem seqOf_snoc (A : List (Nat × Nat)) (x : Nat × Nat) : seqOf (A ++ [x]) = (A.length, x) :: seqOf A := by
  simp [seqOf, List.zipIdx_append]
theorem seqOf_take (L : List (Nat × Nat)) (j : Nat) (hj : j < L.length) : seqOf (L.take (j + 1)) = (j, L[j]) :: seqOf (L.take j) := by
  rw [List.take_succ_eq_append_getElem hj, seqOf_snoc]
  simp [Nat.min_eq_left (Nat.le_of_lt hj)]
theorem seqOf_len (L : List (Nat × Nat)) : (seqOf L).length = L.length := by simp [seqOf]
theorem seqOf_map (L : List (Nat × Nat)) : (seqOf L).map (·.2) = L.reverse := by
  simp [seqOf, Function.comp_def]
def encS (x : Nat × (Nat × Nat)) : Array Value := #[.int .i64 (x.1 : Int), .agg #[.int .i64 (x.2.1 : Int), .int .i64 (x.2.2 : Int)]]
/-- The box and the row stay. -/
def KpB (Bn : Nat) (v : Value) (W W' : World) : Prop := ∀ k, k = Bn ∨ v.ownBlock = some k → W'.heap[k]? = W.heap[k]?
theorem KpB.trans {Bn : Nat} {v : Value} {A B C : World} (h : KpB Bn v A B) (h2 : KpB Bn v B C) : KpB Bn v A C := fun k hk => (h2 k hk).trans (h k hk)
/-- The row lies in a box. -/
structure Held (Bn : Nat) (v : Value) (L : List (Nat × Nat)) (w : World) : Prop where
  box : w.cell? ⟨Bn, 0, none⟩ = some v
  row : (v = .slice none 0 0 ∧ L = []) ∨ ∃ g cap, v = .slice (some ⟨g, 0, none⟩) L.length cap ∧ ∀ j (hj : j < L.length), w.cell? ⟨g, j * 2, none⟩ = some (.int .i64 (L[j].1 : Int)) ∧ w.cell? ⟨g, j * 2 + 1, none⟩ = some (.int .i64 (L[j].2 : Int))
theorem cell_heap {w w' : World} {k j : Nat} {x : Value} (h : w'.heap[k]? = w.heap[k]?) (hc : w.cell? ⟨k, j, none⟩ = some x) : w'.cell? ⟨k, j, none⟩ = some x := by
  simp only [World.cell?] at hc ⊢
  rw [h]; exact hc
theorem Held.keep {Bn : Nat} {v : Value} {L : List (Nat × Nat)} {w w' : World} (h : Held Bn v L w) (hb : KpB Bn v w w') : Held Bn v L w' := by
  refine ⟨cell_heap (hb Bn (.inl rfl)) h.box, ?_⟩
  rcases h.row with h0 | ⟨g, cap, h1, h3⟩
  · exact .inl h0
  · have hg := hb g (.inr (by rw [h1]; rfl))
    exact .inr ⟨g, cap, h1, fun j hj => ⟨cell_heap hg (h3 j hj).1, cell_heap hg (h3 j hj).2⟩⟩

set_option maxRecDepth 100000 in
set_option maxHeartbeats 1000000 in
theorem backward1_in (n : Nat) (hn : 1 ≤ n) (l Bn : Nat) (v : Value) (L : List (Nat × Nat)) (hL : L.length ≤ 100000) (J Jx : List (Nat × (Nat × Nat)) → World → Prop)
    (hY : ∀ pre x W, J pre W → pre.length < (seqOf L).length → YieldAt Fence.wide (n - 1) Tryz.prog l (encS x) W fun e W' =>
      (e = .returned (.bool true) ∧ J (pre ++ [x]) W' ∧ KpB Bn v W W') ∨ (e = .returned (.bool false) ∧ Jx (pre ++ [x]) W'))
    (W : World) (hH : Held Bn v L W) (h0 : J [] W) :
    CallsIn Fence.wide n Tryz.prog 44 #[.func (.yield l) #[] #[], .pointer (some ⟨Bn, 0, none⟩)] W fun e W' => (∃ v, e = .returned v) ∧
      ((∃ ys, ys = seqOf L ∧ J ys W') ∨ (∃ pre, pre <+: seqOf L ∧ Jx pre W')) := by
  obtain ⟨m, hm⟩ : ∃ m, m = L.length := ⟨_, rfl⟩
  have hv : ∃ a c, v = .slice a m c := by
    rcases hH.row with ⟨h1, h2⟩ | ⟨g, cap, h1, _⟩
    · rw [h2] at hm; exact ⟨none, 0, by rw [h1, hm]; rfl⟩
    · exact ⟨_, _, by rw [hm]; exact h1⟩
  obtain ⟨a, c, hv⟩ := hv
  have HH : Hid (Held Bn v L W ∧ m = L.length) := ⟨hH, hm⟩
  have hc := hH.box
  rw [← hm] at hL
  subst hv
  clear hm hH
  refine callsIn_of_wp Tryz.func44 rfl trivial ?_ rfl
  simp only [Tryz.ntmps44, List.size_toArray, List.length_cons, List.length_nil, Nat.reduceAdd, Nat.reduceSub, Array.replicate_succ, Array.replicate_zero, List.push_toArray, List.append_toArray, List.nil_append, List.cons_append]
  gi_wp2
  gi_loopw [3] (fun vi wr => ∃ (i : Nat) (pre : List (Nat × (Nat × Nat))), i ≤ m ∧ vi = .int .i64 ((i : Int) - 1) ∧ Hid (seqOf L = pre ++ seqOf (L.take i)) ∧ J pre wr ∧ Hid (Held Bn (.slice a m c) L wr)) (fun vi _ => ((intOf vi) + 1).toNat)
  case atStart => exact ⟨m, [], Nat.le_refl _, by go_num, by rw [HH.out.2, List.take_length]; simp [Hid], h0, HH.out.1⟩
  case round =>
    clear h0 hc
    obtain ⟨i, pre, him, rfl, HP, hJ, HD⟩ := hrel
    by_cases hi : i = 0
    · subst hi
      gi_wp2
      go_end0
      exact ⟨⟨_, rfl⟩, .inl ⟨pre, by have := HP.out; simp [seqOf] at this; rw [← this]; rfl, hJ⟩⟩
    · obtain ⟨j, rfl⟩ : ∃ j, i = j + 1 := ⟨i - 1, by omega⟩
      have hjL : j < L.length := by rw [← HH.out.2]; omega
      have e1 : (((j + 1 : Nat) : Int) - 1) = (j : Int) := by omega
      have hjm : (j : Int) < (m : Int) := by omega
      have hj0 : (0 : Int) ≤ (j : Int) := by omega
      rcases HD.out.row with ⟨h1, h2⟩ | ⟨g, cap, h1, h3⟩
      · rw [h2] at hjL; simp at hjL
      · simp only [Value.slice.injEq] at h1
        obtain ⟨rfl, h1m, rfl⟩ := h1
        obtain ⟨k0, k1⟩ := h3 j hjL
        have hc := HD.out.box
        have HT : Hid (seqOf L = (pre ++ [(j, L[j])]) ++ seqOf (L.take j)) := by rw [Hid, HP.out, seqOf_take L j hjL]; simp
        obtain ⟨x, hx⟩ : ∃ x, x = L[j] := ⟨_, rfl⟩
        rw [← hx] at HT k0 k1
        have hlen : pre.length < (seqOf L).length := by rw [HT.out]; simp
        obtain ⟨fn, tmps, assign, body, hy, hR⟩ := hY pre (j, x) wr hJ hlen
        simp only [encS] at hy
        rw [e1]
        clear h1m h3 hx HP hlen hJ e1 hjL
        gi_wp2
        refine hR.mono ?_
        rintro e W3 (⟨rfl, hJ3, hk3⟩ | ⟨rfl, hJx3⟩)
        · gi_wp2
          go_roundw
          case rel => exact ⟨j, pre ++ [(j, x)], by omega, by go_num, HT, hJ3, HD.out.keep hk3⟩
          case measure => simp [intOf]
        · gi_wp2
          refine bodyPost_ret (results_none rfl _ _ _) rfl ?_
          exact ⟨⟨_, rfl⟩, .inr ⟨pre ++ [(j, x)], ⟨_, HT.out.symm⟩, hJx3⟩⟩
theorem backward_stops (n : Nat) (hn : 1 ≤ n) (Bn : Nat) (v : Value) (L : List (Nat × Nat)) (hL : L.length ≤ 100000) (w : World) (hH : Held Bn v L w) (hB : Bn < w.heap.size) (hg : ∀ g, v.ownBlock = some g → g < w.heap.size) :
    SeqStopsK Fence.wide n Tryz.prog 44 #[.pointer (some ⟨Bn, 0, none⟩)] encS (KpB Bn v) (fun ys => ys = seqOf L) (fun pre => pre <+: seqOf L) (seqOf L).length w := fun l J Jx W hW _ _ hY h0 =>
  backward1_in n hn l Bn v L hL J Jx hY W (hH.keep fun k hk => hW.block k (by rcases hk with rfl | hk; exact hB; exact hg k hk)) h0
set_option maxHeartbeats 1000000 in
theorem backward_in (n : Nat) (a : Option Addr) (m c : Nat) (w : World) : CallsIn Fence.wide n Tryz.prog 33 #[.slice a m c] w fun e w' => e = .returned (.func (.func 44) #[] #[.pointer (some ⟨w.heap.size, 0, none⟩)]) ∧ w' = w.alloc (.cells #[.slice a m c] 74) := by
  refine callsIn_of_wp Tryz.func33 rfl trivial ?_ rfl
  simp only [Tryz.ntmps33, List.size_toArray, List.length_cons, List.length_nil, Nat.reduceAdd, Nat.reduceSub, Array.replicate_succ, Array.replicate_zero, List.push_toArray, List.append_toArray, List.nil_append, List.cons_append]
  gi_wp2
  go_ret
  exact ⟨rfl, rfl⟩
end Go.Proofs.YtmmhajlfbjjocaaGreat
