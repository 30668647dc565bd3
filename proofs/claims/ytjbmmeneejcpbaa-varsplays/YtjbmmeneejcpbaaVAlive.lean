/-
  The package is alive; scripts cut short.
-/
import Derived.Test.YtjbmmeneejcpbaaVDoes
namespace Go.Proofs.Ytjbmmeneejcpbaa
open Go.RowKit Go.Shelf Go.Maps

namespace Al
def cc : ByteArray := ⟨#[67, 67]⟩
def gcc : ByteArray := ⟨#[103, 99, 99]⟩
def lcc : ByteArray := ⟨#[99, 99]⟩
def s1 : VS := (VS.none_.put 3 cc gcc).1
def s2 : VS := (s1.put 2 cc lcc).1
def s3 : VS := (s2.drop 2 cc).1
theorem r1 : (VS.none_.put 3 cc gcc).2 = 0 := by decide +kernel
theorem r2 : (s1.put 2 cc lcc).2 = 0 := by decide +kernel
theorem g2 : s2.get cc = some lcc := by decide +kernel
theorem r3 : (s2.drop 2 cc).2 = 0 := by decide +kernel
theorem g3 : s3.get cc = some gcc := by decide +kernel
theorem rt : rightB cc = true := by decide +kernel
end Al

set_option maxRecDepth 20000 in
set_option maxHeartbeats 1000000 in
theorem alive_any (w : World) : Calls Try.prog 12 #[] w fun e w' => e = .returned (.bool true) ∧ Below w.heap.size w w' := by
  have HN : Hid (Calls Try.prog 9 #[] w fun e w' => e = .returned (ptr w.heap.size) ∧ VSet w.heap.size w.heap.size (newM w.heap.size) VS.none_ w' ∧ Below w.heap.size w w') := new_any w
  obtain ⟨B, hB⟩ : ∃ B, B = w.heap.size := ⟨_, rfl⟩
  obtain ⟨M, hM⟩ : ∃ M, M = newM w.heap.size := ⟨_, rfl⟩
  rw [← hM] at HN
  have H1 : Hid (∀ W, VSet w.heap.size w.heap.size M VS.none_ W → Calls Try.prog 24 #[ptr w.heap.size, .int .i64 3, .string ⟨#[67, 67]⟩, .string ⟨#[103, 99, 99]⟩] W fun e w' => e = .returned (.int .i64 0) ∧ VSet w.heap.size w.heap.size M Al.s1 w' ∧ Turn M W w') := fun W h => by
    have := put_any 3 Al.cc Al.gcc W h (by decide)
    rw [Al.r1] at this; exact this
  have H2 : Hid (∀ W, VSet w.heap.size w.heap.size M Al.s1 W → Calls Try.prog 24 #[ptr w.heap.size, .int .i64 2, .string ⟨#[67, 67]⟩, .string ⟨#[99, 99]⟩] W fun e w' => e = .returned (.int .i64 0) ∧ VSet w.heap.size w.heap.size M Al.s2 w' ∧ Turn M W w') := fun W h => by
    have := put_any 2 Al.cc Al.lcc W h (by decide)
    rw [Al.r2] at this; exact this
  have H3 : Hid (∀ W, VSet w.heap.size w.heap.size M Al.s2 W → Calls Try.prog 16 #[ptr w.heap.size, .string ⟨#[67, 67]⟩] W fun e w' => e = .returned (.tuple #[.string ⟨#[99, 99]⟩, .bool true]) ∧ Below W.heap.size W w') := fun W h => by
    have := get_any Al.cc W h (by decide)
    rw [Al.g2] at this; exact this
  have H4 : Hid (∀ W, VSet w.heap.size w.heap.size M Al.s2 W → Calls Try.prog 23 #[ptr w.heap.size, .int .i64 2, .string ⟨#[67, 67]⟩] W fun e w' => e = .returned (.int .i64 0) ∧ VSet w.heap.size w.heap.size M Al.s3 w' ∧ Turn M W w') := fun W h => by
    have := drop_any 2 Al.cc W h (by decide)
    rw [Al.r3] at this; exact this
  have H5 : Hid (∀ W, VSet w.heap.size w.heap.size M Al.s3 W → Calls Try.prog 16 #[ptr w.heap.size, .string ⟨#[67, 67]⟩] W fun e w' => e = .returned (.tuple #[.string ⟨#[103, 99, 99]⟩, .bool true]) ∧ Below W.heap.size W w') := fun W h => by
    have := get_any Al.cc W h (by decide)
    rw [Al.g3] at this; exact this
  have H6 : Hid (∀ W : World, Calls Try.prog 10 #[.string ⟨#[67, 67]⟩] W fun e w' => e = .returned (.bool true) ∧ Below W.heap.size W w') := fun W => by
    have := right_any Al.cc W
    rw [Al.rt] at this; exact this
  clear hM hB
  go_enter Try.func12, Try.ntmps12
  go_wp2_with fail
  refine HN.out.mono ?_
  rintro e w1 ⟨rfl, hv1, hb1⟩
  go_wp2_with fail
  refine (H1.out _ hv1).mono ?_
  rintro e w2 ⟨rfl, hv2, ht2⟩
  have hb2 : Below w.heap.size w w2 := hb1.trans (hv1.low ht2)
  clear hv1 ht2 hb1
  go_wp2_with fail
  refine (H2.out _ hv2).mono ?_
  rintro e w3 ⟨rfl, hv3, ht3⟩
  have hb3 : Below w.heap.size w w3 := hb2.trans (hv2.low ht3)
  clear hv2 ht3 hb2
  go_wp2_with fail
  refine (H3.out _ hv3).mono ?_
  rintro e w4 ⟨rfl, hb4⟩
  have hv4 := hv3.below hb4
  have hb4' : Below w.heap.size w w4 := hb3.trans (hb4.mono hb3.size)
  clear hv3 hb4 hb3
  go_wp2_with fail
  refine (H4.out _ hv4).mono ?_
  rintro e w5 ⟨rfl, hv5, ht5⟩
  have hb5 : Below w.heap.size w w5 := hb4'.trans (hv4.low ht5)
  clear hv4 ht5 hb4'
  go_wp2_with fail
  refine (H5.out _ hv5).mono ?_
  rintro e w6 ⟨rfl, hb6⟩
  have hb6' : Below w.heap.size w w6 := hb5.trans (hb6.mono hb5.size)
  clear hv5 hb6 hb5
  go_wp2_with fail
  refine (H6.out _).mono ?_
  rintro e w7 ⟨rfl, hb7⟩
  have hb7' : Below w.heap.size w w7 := hb6'.trans (hb7.mono hb6'.size)
  clear hb7 hb6'
  go_wp2
  go_ret
  exact ⟨rfl, hb7'⟩

/-- A script cut short. -/
theorem Acts.cut {B : Nat} {W : World} {a : Option Addr} {n c : Nat} {l : List Act} (h : Acts B W (.slice a n c) l) (k : Nat) (c' : Nat) (hk : k ≤ n) : Acts B W (.slice a k c') (l.take k) := by
  obtain ⟨a', n', c'', e1, e2, e3⟩ := h
  simp only [Value.slice.injEq] at e1
  obtain ⟨rfl, rfl, rfl⟩ := e1
  refine ⟨a, k, c', rfl, by rw [List.length_take]; omega, fun i hi => ?_⟩
  have hi' : i < l.length := by rw [List.length_take] at hi; omega
  obtain ⟨b, o, f1, f2, f3⟩ := e3 i hi'
  refine ⟨b, o, f1, f2, fun j u hu => f3 j u ?_⟩
  rw [List.getElem_take] at hu; exact hu

theorem ret_slice {a : Option Addr} {n k c : Nat} (h : n = k) : Ending.returned (.slice a n c) = .returned (.slice a k c) := by rw [h]
set_option maxHeartbeats 400000 in
theorem short_any (a : Option Addr) (n c : Nat) (w : World) (hn : n ≤ 140737488355328) (hc : n ≤ c) :
    Calls Try.prog 13 #[.slice a n c] w fun e w' => e = .returned (.slice a (min n 1500) c) ∧ w = w' := by
  have HM : Hid ((min (n : Int) 1500).toNat = min n 1500) := by unfold Hid; omega
  go_enter Try.func13, Try.ntmps13
  go_wp2
  go_ret
  exact ⟨ret_slice HM.out, rfl⟩

def VS.run (s : VS) (l : List Act) : VS := l.foldl (fun s a => (s.act a).1) s
theorem run_succ (s : VS) (l : List Act) (k : Nat) (h : k < l.length) : s.run (l.take (k + 1)) = ((s.run (l.take k)).act l[k]).1 := by
  unfold VS.run; rw [List.take_succ_eq_append_getElem h, List.foldl_append]; rfl
def Fine (l : List Act) : Prop := ∀ x ∈ l, x.Fine

/-- One round of a script: the next call, and what it leaves. -/
theorem round_any {base b : Nat} {m : Int → Nat} {s0 : VS} {l : List Act} (hf : Fine l) (k : Nat) (hk : k < l.length) (w : World) (h : VSet base b m (s0.run (l.take k)) w) :
    Calls Try.prog 14 #[ptr b, .agg #[.int .u8 l[k].kind, .int .i64 l[k].n, .string l[k].q, .string l[k].t]] w fun e w' => (∃ r, e = .returned (.int .i64 r)) ∧ VSet base b m (s0.run (l.take (k + 1))) w' ∧ Turn m w w' := by
  refine (does_any l[k] w h (hf _ (List.getElem_mem hk))).mono ?_
  rintro e w' ⟨rfl, hst, ht⟩
  rw [run_succ s0 l k hk]
  exact ⟨⟨_, rfl⟩, hst, ht⟩
end Go.Proofs.Ytjbmmeneejcpbaa
