/-
  A call of a script, and a script, as they lie in memory.
-/
import Derived.WalkKit
import Derived.ProofKit
import Derived.OpenShut
import Derived.SizedLaws
import Derived.Deep.Slices
import Derived.Test.YtoibdokedhbjpaaGreatKept
namespace Go.Proofs.YtoibdokedhbjpaaGreat
open Go.RowKit Go.Shelf

structure Act where
  kind : Int
  p : ByteArray
  q : ByteArray
  t : ByteArray
  n : Int
def Act.cells (a : Act) : List Value := [.int .u8 a.kind, .string a.p, .string a.q, .string a.t, .int .i64 a.n]
structure Act.Ok (a : Act) : Prop where
  k0 : 0 ≤ a.kind
  k1 : a.kind ≤ 255
  n0 : -9223372036854775808 ≤ a.n
  n1 : a.n ≤ 9223372036854775807
def Act.dat {H : Type} (a : Act) : DataW H := .agg [.lit (.int .u8 a.kind), .lit (.string (bl a.p)), .lit (.string (bl a.q)), .lit (.string (bl a.t)), .lit (.int .i64 a.n)]

theorem cellsAct : Tryz.prog.cellsOf 36 = 5 := by kernel_rfl
theorem bytesAct : Tryz.prog.bytesOf 36 = 64 := by kernel_rfl
theorem cellsF5 : Tryz.prog.cellsOf 5 = 1 := by kernel_rfl
theorem cellsF9 : Tryz.prog.cellsOf 9 = 1 := by kernel_rfl
theorem cellsF3 : Tryz.prog.cellsOf 3 = 1 := by kernel_rfl

theorem five {α : Type} {l : List α} (h : l.length = 5) : ∃ a b c d e, l = [a, b, c, d, e] := by
  match l, h with
  | [a, b, c, d, e], _ => exact ⟨a, b, c, d, e, rfl⟩

set_option maxRecDepth 20000 in
theorem act_of {H : Type} {enc : TypeId × Value → H} {W : World} {base : Nat} {sp : Nat → Bool} {held : Bool} {n : Nat} {cs : List Value} {x : DataW H × List MemPlace} (h : DataW.trod enc Tryz.prog W base sp held n 36 cs = some x) :
    ∃ a : Act, cs = a.cells ∧ x.1 = a.dat ∧ a.Ok := by
  obtain ⟨xs, m, _, rfl, hl, hlen, hf⟩ := DataW.trod_struct Tryz.underlying36 h
  rw [cellsAct] at hl
  obtain ⟨c0, c1, c2, c3, c4, rfl⟩ := five hl
  have e0 : DataW.trod enc Tryz.prog W base sp held m 5 (([c0, c1, c2, c3, c4].drop 0).take (Tryz.prog.cellsOf 5)) = xs[0]? := hf 0 _ rfl
  rw [cellsF5] at e0
  have e1 : DataW.trod enc Tryz.prog W base sp held m 9 (([c0, c1, c2, c3, c4].drop 1).take (Tryz.prog.cellsOf 9)) = xs[1]? := hf 1 _ rfl
  rw [cellsF9] at e1
  have e2 : DataW.trod enc Tryz.prog W base sp held m 9 (([c0, c1, c2, c3, c4].drop 2).take (Tryz.prog.cellsOf 9)) = xs[2]? := hf 2 _ rfl
  rw [cellsF9] at e2
  have e3 : DataW.trod enc Tryz.prog W base sp held m 9 (([c0, c1, c2, c3, c4].drop 3).take (Tryz.prog.cellsOf 9)) = xs[3]? := hf 3 _ rfl
  rw [cellsF9] at e3
  have e4 : DataW.trod enc Tryz.prog W base sp held m 3 (([c0, c1, c2, c3, c4].drop 4).take (Tryz.prog.cellsOf 3)) = xs[4]? := hf 4 _ rfl
  rw [cellsF3] at e4
  simp only [List.drop_zero, List.drop_succ_cons, List.take_succ_cons, List.take_zero] at e0 e1 e2 e3 e4
  have hx : ∀ i, i < 5 → ∃ y, xs[i]? = some y := fun i hi => ⟨_, List.getElem?_eq_getElem (by rw [hlen]; exact hi)⟩
  obtain ⟨y0, h0⟩ := hx 0 (by omega)
  obtain ⟨y1, h1⟩ := hx 1 (by omega)
  obtain ⟨y2, h2⟩ := hx 2 (by omega)
  obtain ⟨y3, h3⟩ := hx 3 (by omega)
  obtain ⟨y4, h4⟩ := hx 4 (by omega)
  obtain ⟨k, k1, rfl, k2⟩ := DataW.trod_int Tryz.underlying5 (e0.trans h0)
  obtain ⟨p, p1, rfl, _⟩ := DataW.trod_string Tryz.underlying9 (e1.trans h1)
  obtain ⟨q, q1, rfl, _⟩ := DataW.trod_string Tryz.underlying9 (e2.trans h2)
  obtain ⟨t, t1, rfl, _⟩ := DataW.trod_string Tryz.underlying9 (e3.trans h3)
  obtain ⟨n', n1, rfl, n2⟩ := DataW.trod_int Tryz.underlying3 (e4.trans h4)
  have hxs : xs = [(.lit (.int .u8 k), []), (.lit (.string p.data.toList), []), (.lit (.string q.data.toList), []), (.lit (.string t.data.toList), []), (.lit (.int .i64 n'), [])] := by
    obtain ⟨a0, a1, a2, a3, a4, rfl⟩ := five (show xs.length = 5 from hlen)
    simp at h0 h1 h2 h3 h4
    rw [h0, h1, h2, h3, h4]
  refine ⟨⟨k, p, q, t, n'⟩, ?_, ?_, ?_⟩
  · simp only [List.cons.injEq, and_true] at k1 p1 q1 t1 n1
    rw [k1, p1, q1, t1, n1]; rfl
  · rw [hxs]; rfl
  · have b1 := bounds_u8 k2
    have b2 := bounds_i64 n2
    exact ⟨b1.1, b1.2, b2.1, b2.2⟩

/-- A script in memory. -/
def Acts (B : Nat) (W : World) (v : Value) (l : List Act) : Prop :=
  ∃ a n c, v = .slice a n c ∧ n = l.length ∧ ∀ i (h : i < l.length), ∃ b o, a = some ⟨b, o, none⟩ ∧ b < B ∧ ∀ j u, (l[i].cells)[j]? = some u → W.cell? ⟨b, o + i * 5 + j, none⟩ = some u
theorem Acts.below {B : Nat} {W W1 : World} {v : Value} {l : List Act} (h : Acts B W v l) (hb : Below B W W1) : Acts B W1 v l := by
  obtain ⟨a, n, c, h1, h2, h3⟩ := h
  refine ⟨a, n, c, h1, h2, fun i hi => ?_⟩
  obtain ⟨b, o, e1, e2, e3⟩ := h3 i hi
  exact ⟨b, o, e1, e2, fun j u hu => (hb.cell (p := ⟨b, o + i * 5 + j, none⟩) e2).trans (e3 j u hu)⟩
theorem Acts.len {B : Nat} {W : World} {a : Option Addr} {n c : Nat} {l : List Act} (h : Acts B W (.slice a n c) l) : n = l.length := by
  obtain ⟨a', n', c', e1, e2, e3⟩ := h
  simp only [Value.slice.injEq] at e1
  exact e1.2.1.trans e2
theorem Acts.pick {B : Nat} {W : World} {a : Option Addr} {n c : Nat} {l : List Act} (h : Acts B W (.slice a n c) l) (i : Nat) (hi : i < l.length) :
    ∃ b o, a = some ⟨b, o, none⟩ ∧ b < B ∧ W.cell? ⟨b, o + i * 5, none⟩ = some (.int .u8 l[i].kind) ∧ W.cell? ⟨b, o + i * 5 + 1, none⟩ = some (.string l[i].p) ∧ W.cell? ⟨b, o + i * 5 + 2, none⟩ = some (.string l[i].q) ∧
      W.cell? ⟨b, o + i * 5 + 3, none⟩ = some (.string l[i].t) ∧ W.cell? ⟨b, o + i * 5 + 4, none⟩ = some (.int .i64 l[i].n) := by
  obtain ⟨a', n', c', e1, e2, e3⟩ := h
  simp only [Value.slice.injEq] at e1
  obtain ⟨b, o, f1, f2, f3⟩ := e3 i hi
  exact ⟨b, o, e1.1.trans f1, f2, f3 0 _ rfl, f3 1 _ rfl, f3 2 _ rfl, f3 3 _ rfl, f3 4 _ rfl⟩
end Go.Proofs.YtoibdokedhbjpaaGreat
