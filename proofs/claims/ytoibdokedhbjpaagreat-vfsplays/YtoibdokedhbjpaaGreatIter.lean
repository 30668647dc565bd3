/-
  What the program's walk over a path's pieces gives, for every loop body that keeps what was there: the pieces between slashes, in order.
-/
import Derived.RangeFuncNested
import Derived.RangeFuncBound
import Derived.RangeFuncCalls
import Derived.RangeFuncLeaves
import Derived.RangeFuncBox
import Derived.Shelf.Abstract
import Derived.Shelf.RegionOpen
import Derived.WalkKit
import Derived.OwnWalkIn
import Derived.TacticsInMore
import Derived.LoopNIn
import Derived.LoopIn
import Derived.Deep.QuietTactic
import Derived.BigQuiet
import Derived.Lib.IndexLaws
import Derived.Test.YtoibdokedhbjpaaGreatShelf
import Derived.Test.YtoibdokedhbjpaaGreatPlain
namespace Go.Proofs.YtoibdokedhbjpaaGreat
open Go.RowKit Go.Shelf
attribute [local go_sem] Oper.semAt_some

def bl (x : ByteArray) : List UInt8 := x.data.toList
def ba (l : List UInt8) : ByteArray := ⟨l.toArray⟩
theorem bl_ba (l : List UInt8) : bl (ba l) = l := by simp [bl, ba]
theorem ba_bl (x : ByteArray) : ba (bl x) = x := by simp [bl, ba]
theorem bl_inj {x y : ByteArray} (h : bl x = bl y) : x = y := by rw [← ba_bl x, ← ba_bl y, h]
theorem bl_length (x : ByteArray) : (bl x).length = x.size := by simp [bl]

/-- What a cut at the first slash is. -/
def CutOk (s a b : ByteArray) (f : Bool) : Prop := G.splitL (bl s) = bl a :: (if f then G.splitL (bl b) else []) ∧ (f = true → b.size < s.size) ∧ a.size ≤ s.size ∧ b.size ≤ s.size
theorem cut_miss {s : ByteArray} (h : Lib.indexByte s.data.toList 47 = -1) : CutOk s s ⟨#[]⟩ false := by
  refine ⟨?_, (fun h => Bool.noConfusion h), Nat.le_refl _, Nat.zero_le _⟩
  rw [if_neg (by simp)]
  refine G.splitL_none fun hm => ?_
  obtain ⟨k, hk⟩ := List.getElem?_of_mem hm
  exact Lib.indexByte_none h k hk
theorem cut_hit {s : ByteArray} {i : Nat} (h : Lib.indexByte s.data.toList 47 = i) : i < s.size ∧ CutOk s (s.extract 0 i) (s.extract (i + 1) s.size) true := by
  obtain ⟨h1, h2⟩ := Lib.indexByte_some h
  obtain ⟨hi, hv⟩ := List.getElem?_eq_some_iff.1 h1
  have hi' : i < s.size := by simpa using hi
  refine ⟨hi', ?_, fun _ => by simp; omega, by simp; omega, by simp⟩
  rw [if_pos rfl]
  have e1 : bl (s.extract 0 i) = (bl s).take i := by simp [bl]
  have e2 : bl (s.extract (i + 1) s.size) = (bl s).drop (i + 1) := by
    simp only [bl, ByteArray.data_extract, Array.toList_extract, List.extract_eq_take_drop]
    exact List.take_of_length_le (by simp)
  have e0 : bl s = (bl s).take i ++ 47 :: (bl s).drop (i + 1) := by
    have := List.drop_eq_getElem_cons hi
    rw [show s.data.toList[i] = 47 from hv] at this
    calc bl s = (bl s).take i ++ (bl s).drop i := (List.take_append_drop i (bl s)).symm
      _ = _ := by rw [show (bl s).drop i = 47 :: (bl s).drop (i + 1) from this]
  have hn : 47 ∉ (bl s).take i := by
    intro hm
    obtain ⟨k, hk⟩ := List.getElem?_of_mem hm
    have hki : k < i := by
      have := (List.getElem?_eq_some_iff.1 hk).1
      simp at this; omega
    rw [List.getElem?_take_of_lt hki] at hk
    exact h2 k hki hk
  rw [e1, e2]
  conv => lhs; rw [e0]
  rw [G.splitL_append, G.splitL_none hn]; rfl

set_option maxHeartbeats 1000000 in
theorem lcut_any (s : ByteArray) (w : World) (hs : s.size ≤ 2000000) :
    Calls Tryz.prog 106 #[.string s, .string ⟨#[47]⟩] w fun e w' => ∃ a b f, e = .returned (.tuple #[.string a, .string b, .bool f]) ∧ CutOk s a b f ∧ ∃ n, w' = w.drewN n := by
  have HO : Hid (∀ W, Calls Tryz.prog 111 #[.string s, .string ⟨#[47]⟩] W fun e w' => e = .returned (.int .i64 (Lib.indexByte s.data.toList 47)) ∧ w' = W) := fun W => Tryz.stringslite_Index_one s 47 W
  have hge := Lib.indexByte_ge s.data.toList 47
  by_cases hx : Lib.indexByte s.data.toList 47 = -1
  · have HC : Hid (CutOk s s ⟨#[]⟩ false) := cut_miss hx
    rw [hx] at HO
    clear hge hx
    go_enter Tryz.func106, Tryz.ntmps106
    go_wp2_with fail
    refine (HO.out _).mono ?_
    rintro e w' ⟨rfl, rfl⟩
    go_wp2
    go_ret3
    exact ⟨_, _, _, rfl, HC.out, 0, rfl⟩
  · obtain ⟨i, hi⟩ : ∃ i : Nat, Lib.indexByte s.data.toList 47 = i := ⟨(Lib.indexByte s.data.toList 47).toNat, by omega⟩
    obtain ⟨hlt, hc⟩ := cut_hit hi
    have HC : Hid (CutOk s (s.extract 0 i) (s.extract (i + 1) s.size) true) := hc
    rw [hi] at HO
    have c1 : (0 : Int) ≤ ↑i := by omega
    have c2 : (↑i : Int) ≤ ↑s.size := by omega
    have c3 : (0 : Int) ≤ ↑i + 1 := by omega
    have c4 : (↑i + 1 : Int) ≤ ↑s.size := by omega
    clear hge hx hi hc
    go_enter Tryz.func106, Tryz.ntmps106
    go_wp2_with fail
    refine (HO.out _).mono ?_
    rintro e w' ⟨rfl, rfl⟩
    go_wp2
    go_quiet (fail)
    go_wp2
    go_ret3
    exact ⟨_, _, _, rfl, HC.out, nq, rfl⟩

set_option maxHeartbeats 1000000 in
theorem cut_any (s : ByteArray) (w : World) (hs : s.size ≤ 2000000) :
    Calls Tryz.prog 95 #[.string s, .string ⟨#[47]⟩] w fun e w' => ∃ a b f, e = .returned (.tuple #[.string a, .string b, .bool f]) ∧ CutOk s a b f ∧ ∃ n, w' = w.drewN n := by
  have HO : Hid (∀ W, Calls Tryz.prog 106 #[.string s, .string ⟨#[47]⟩] W fun e w' => ∃ a b f, e = .returned (.tuple #[.string a, .string b, .bool f]) ∧ CutOk s a b f ∧ ∃ n, w' = W.drewN n) := fun W => lcut_any s W hs
  go_enter Tryz.func95, Tryz.ntmps95
  go_wp2_with fail
  refine (HO.out _).mono ?_
  rintro e w' ⟨a, b, f, rfl, hc, n, rfl⟩
  have HC : Hid (CutOk s a b f) := hc
  clear hc
  go_wp2
  go_ret3
  exact ⟨_, _, _, rfl, HC.out, n, rfl⟩

/-- The pieces between slashes, as texts. -/
def pieces (p : ByteArray) : List ByteArray := (G.splitL (bl p)).map ba
theorem pieces_cut {s a b : ByteArray} {f : Bool} (h : CutOk s a b f) : pieces s = a :: (if f then pieces b else []) := by
  unfold pieces
  rw [h.1, List.map_cons, ba_bl]
  cases f <;> rfl
def left (v m : Value) : Nat :=
  match v, m with
  | .string s, .bool true => s.size + 1
  | _, _ => 0

set_option maxRecDepth 100000 in
set_option maxHeartbeats 1000000 in
theorem pieces1_in (n : Nat) (hn : 1 ≤ n) (l Bn n₀ : Nat) (p : ByteArray) (hp : p.size ≤ 2000000) (J Jx : List ByteArray → World → Prop)
    (hY : ∀ pre x W, J pre W → pre.length < (pieces p).length → YieldAt Fence.wide (n - 1) Tryz.prog l #[.string x] W fun e W' =>
      (e = .returned (.bool true) ∧ J (pre ++ [x]) W' ∧ Below n₀ W W') ∨ (e = .returned (.bool false) ∧ Jx (pre ++ [x]) W'))
    (hJd : ∀ pre W k, J pre W → J pre (W.drewN k))
    (W : World) (hBn : W.cell? ⟨Bn, 0, none⟩ = some (.string p)) (h0 : J [] W) :
    CallsIn Fence.wide n Tryz.prog 94 #[.func (.yield l) #[] #[], .pointer (some ⟨Bn, 0, none⟩)] W fun e W' => (∃ v, e = .returned v) ∧
      ((∃ ys, ys = pieces p ∧ J ys W') ∨ (∃ pre, pre <+: pieces p ∧ Jx pre W')) := by
  have HO : Hid (∀ s W, s.size ≤ 2000000 → Calls Tryz.prog 95 #[.string s, .string ⟨#[47]⟩] W fun e w' => ∃ a b f, e = .returned (.tuple #[.string a, .string b, .bool f]) ∧ CutOk s a b f ∧ ∃ n, w' = W.drewN n) := fun s W h => cut_any s W h
  refine callsIn_of_wp Tryz.func94 rfl trivial ?_ rfl
  simp only [Tryz.ntmps94, List.size_toArray, List.length_cons, List.length_nil, Nat.reduceAdd, Nat.reduceSub, Array.replicate_succ, Array.replicate_zero, List.push_toArray, List.append_toArray, List.nil_append, List.cons_append]
  gi_wp2
  gi_loopw [3, 4] (fun r m wr => ∃ (pre : List ByteArray) (s : ByteArray) (f : Bool), r = .string s ∧ m = .bool f ∧ s.size ≤ 2000000 ∧ Hid (pieces p = pre ++ (if f then pieces s else [])) ∧ J pre wr)
    (fun r m _ => left r m)
  case atStart =>
    exact ⟨[], p, true, rfl, rfl, hp, by simp [Hid], h0⟩
  case round =>
    obtain ⟨pre, s, f, rfl, rfl, hss, HP, hJs⟩ := hrel
    cases f with
    | false =>
      gi_wp2
      go_end0
      exact ⟨⟨_, rfl⟩, .inl ⟨pre, by have := HP.out; simp at this; exact this.symm, hJs⟩⟩
    | true =>
      gi_wp2_with fail
      refine ⟨trivial, ?_⟩
      refine (callsIn_wide.2 (HO.out s _ hss)).mono ?_
      rintro e w2 ⟨a, b, f, rfl, hc, k, hw2⟩
      have hJ2 : J pre w2 := by rw [hw2]; exact hJd _ _ _ hJs
      clear hw2
      have HP2 : Hid (pieces p = (pre ++ [a]) ++ (if f then pieces b else [])) := by
        have := HP.out
        rw [if_pos trivial, pieces_cut hc] at this
        rw [Hid, this]; simp
      have hbs : b.size ≤ 2000000 := by have := hc.2.2.2; omega
      have hlt : left (.string b) (.bool f) < s.size + 1 := by
        have := hc.2.1
        cases f
        · simp [left]
        · have := this rfl; simp [left]; omega
      have hlen : pre.length < (pieces p).length := by rw [HP2.out]; simp
      obtain ⟨fn, tmps, assign, body, hy, hR⟩ := hY pre a w2 hJ2 hlen
      clear HP hc hlen hJs
      gi_wp2
      refine hR.mono ?_
      rintro e W3 (⟨rfl, hJ3, hk3⟩ | ⟨rfl, hJx3⟩)
      · gi_wp2
        go_roundw
        case rel => exact ⟨pre ++ [a], b, f, rfl, rfl, hbs, HP2, hJ3⟩
        case measure => simpa [left] using hlt
      · gi_wp2
        refine bodyPost_ret (results_none rfl _ _ _) rfl ?_
        exact ⟨⟨_, rfl⟩, .inr ⟨pre ++ [a], ⟨_, HP2.out.symm⟩, hJx3⟩⟩

theorem abides_drewN {β : Type} {B : Nat} {J : β → World → Prop} (h : AbidesFrom B J) (s : β) (W : World) (k : Nat) (hs : J s W) : J s (W.drewN k) :=
  h s W _ none hs ⟨rfl, rfl, rfl, Nat.le_refl _, fun _ _ _ => rfl⟩ (fun r e => by cases e)

theorem pieces_stops (n : Nat) (hn : 1 ≤ n) (Bn n₀ : Nat) (p : ByteArray) (hp : p.size ≤ 2000000) (w : World) (hBn : Bn < w.heap.size) (hc : w.cell? ⟨Bn, 0, none⟩ = some (.string p)) :
    SeqStopsK Fence.wide n Tryz.prog 94 #[.pointer (some ⟨Bn, 0, none⟩)] (fun x : ByteArray => #[Value.string x]) (Below n₀) (fun ys => ys = pieces p) (fun pre => pre <+: pieces p) (pieces p).length w := fun l J Jx W hW hJ _ hY h0 =>
  pieces1_in n hn l Bn n₀ p hp J Jx hY (fun pre W' k h => abides_drewN hJ pre W' k h) W ((hW.cell (p := ⟨Bn, 0, none⟩) hBn).trans hc) h0

set_option maxHeartbeats 1000000 in
theorem pieces_in (n : Nat) (p : ByteArray) (w : World) :
    CallsIn Fence.wide n Tryz.prog 74 #[.string p] w fun e w' => e = .returned (.func (.func 94) #[] #[.pointer (some ⟨w.heap.size, 0, none⟩)]) ∧ w' = w.alloc (.cells #[.string p] 9) := by
  refine callsIn_of_wp Tryz.func74 rfl trivial ?_ rfl
  simp only [Tryz.ntmps74, List.size_toArray, List.length_cons, List.length_nil, Nat.reduceAdd, Nat.reduceSub, Array.replicate_succ, Array.replicate_zero, List.push_toArray, List.append_toArray, List.nil_append, List.cons_append]
  gi_wp2
  go_ret
  exact ⟨rfl, rfl⟩

set_option maxHeartbeats 400000 in
theorem atRoot_any (p : ByteArray) (w : World) :
    Calls Tryz.prog 75 #[.string p] w fun e w' => e = .returned (.bool (G.rootedL (bl p))) ∧ w' = w := by
  have hr : Lib.hasPrefix p.data.toList (⟨#[47]⟩ : ByteArray).data.toList = G.rootedL (bl p) := by
    show Lib.hasPrefix p.data.toList [47] = _
    unfold bl
    cases p.data.toList with
    | nil => rfl
    | cons c t => simp [Lib.hasPrefix, G.rootedL, List.isPrefixOf]; rw [Bool.eq_iff_iff]; simp; exact eq_comm
  have HO : Hid (∀ W, Calls Tryz.prog 96 #[.string p, .string ⟨#[47]⟩] W fun e w' => e = .returned (.bool (G.rootedL (bl p))) ∧ w' = W) := by
    intro W; rw [← hr]; exact Tryz.strings_HasPrefix p ⟨#[47]⟩ W
  clear hr
  go_enter Tryz.func75, Tryz.ntmps75
  go_wp2_with fail
  refine (HO.out _).mono ?_
  rintro e w' ⟨rfl, rfl⟩
  go_wp2
  go_ret
  exact ⟨rfl, rfl⟩
end Go.Proofs.YtoibdokedhbjpaaGreat
