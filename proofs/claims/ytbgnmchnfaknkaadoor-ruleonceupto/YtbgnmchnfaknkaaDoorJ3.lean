/-
  Rules in memory; the map of places; what has been joined; whether two rules clash.
-/
import Derived.Test.YtbgnmchnfaknkaaDoorJ2
import Derived.Maps.Ext
import Derived.Maps.OwnSet
namespace Go.Proofs.YtbgnmchnfaknkaaDoor
open Go.RowKit Go.Shelf Go.Maps

theorem extend_any (base B bt o : Nat) (cs : Array Value) (kd : Int) (vs vc : Value) (S C : List ByteArray) (r : Q.Ru) (v : Value) (w : World)
    (hblk : w.heap[bt]? = some (.cells cs 24 (0, 0))) (h1 : cs[o + 1]? = some (.int .i64 kd)) (h2 : cs[o + 2]? = some vs) (h3 : cs[o + 3]? = some vc)
    (hS : w.ownsRow base 9 1 vs S.length (S.map Value.string)) (hC : w.ownsRow base 9 1 vc C.length (C.map Value.string)) (hap : ∀ b, vs.ownBlock = some b → vc.ownBlock ≠ some b)
    (hv : RuV B w v r) (hB : B ≤ base) (hbt : base ≤ bt) (hb : base ≤ w.heap.size) (hns : S.length + r.sources.length ≤ 1000000000000) (hnc : C.length + r.commands.length ≤ 1000000000000) :
    Calls Tryd.prog 49 #[.pointer (some ⟨bt, o, none⟩), v] w fun e w' => e = .returned (.tuple #[]) ∧ ∃ vs' vc', ExtPost base bt o cs vs vc S C r.kind (r.sources.map ba) (r.commands.map ba) w w' vs' vc' := by
  obtain ⟨vt, vss, vcc, rfl, a1, a2, a3⟩ := hv
  obtain ⟨kr, hkr⟩ : ∃ k, k = r.kind := ⟨_, rfl⟩
  rw [← hkr]
  have hrt : ∃ a n c, vt = .slice a n c := by obtain ⟨a, n, c, h, _⟩ := a1; exact ⟨a, n, c, h⟩
  by_cases hk : kr = 2
  · subst hk
    exact extend_two base B bt o cs kd vs vc S C _ _ r.at_ vt vss vcc w hblk h1 h2 h3 hS hC hap hrt a2 a3 hB hbt hb (by rw [List.length_map]; exact hns) (by rw [List.length_map]; exact hnc)
  · exact extend_other base B bt o cs kd vs vc S C _ _ kr r.at_ vt vss vcc w hblk h1 h2 h3 hS hC hap hrt a2 a3 hB hbt hb (by rw [List.length_map]; exact hns) (by rw [List.length_map]; exact hnc) hk

/-! A list of rules in memory. -/
def RLst (B : Nat) (W : World) (v : Value) (rs : List Q.Ru) : Prop :=
  ∃ a n c, v = .slice a n c ∧ n = rs.length ∧ n ≤ c ∧ ∀ (i : Nat) (r : Q.Ru), rs[i]? = some r → ∃ b o vt vs vc, a = some ⟨b, o, none⟩ ∧ b < B ∧ W.cell? ⟨b, o + i * 5, none⟩ = some vt ∧ W.cell? ⟨b, o + i * 5 + 1, none⟩ = some (.int .i64 r.kind) ∧ W.cell? ⟨b, o + i * 5 + 2, none⟩ = some vs ∧ W.cell? ⟨b, o + i * 5 + 3, none⟩ = some vc ∧ W.cell? ⟨b, o + i * 5 + 4, none⟩ = some (.int .i64 r.at_) ∧ Words B W vt (r.targets.map ba) ∧ Words B W vs (r.sources.map ba) ∧ Words B W vc (r.commands.map ba)
theorem RLst.below {B : Nat} {W W1 : World} {v : Value} {rs : List Q.Ru} (h : RLst B W v rs) (hb : Below B W W1) : RLst B W1 v rs := by
  obtain ⟨a, n, c, e1, e2, e3, h⟩ := h
  refine ⟨a, n, c, e1, e2, e3, fun i r hi => ?_⟩
  obtain ⟨b, o, vt, vs, vc, q1, q2, q3, q4, q5, q6, q7, q8, q9, q10⟩ := h i r hi
  refine ⟨b, o, vt, vs, vc, q1, q2, ?_, ?_, ?_, ?_, ?_, q8.below hb, q9.below hb, q10.below hb⟩
  · rw [hb.cell q2]; exact q3
  · rw [hb.cell q2]; exact q4
  · rw [hb.cell q2]; exact q5
  · rw [hb.cell q2]; exact q6
  · rw [hb.cell q2]; exact q7
theorem RLst.mono {B B' : Nat} {W : World} {v : Value} {rs : List Q.Ru} (h : RLst B W v rs) (hB : B ≤ B') : RLst B' W v rs := by
  obtain ⟨a, n, c, e1, e2, e3, h⟩ := h
  refine ⟨a, n, c, e1, e2, e3, fun i r hi => ?_⟩
  obtain ⟨b, o, vt, vs, vc, q1, q2, q3, q4, q5, q6, q7, q8, q9, q10⟩ := h i r hi
  exact ⟨b, o, vt, vs, vc, q1, by omega, q3, q4, q5, q6, q7, q8.mono hB, q9.mono hB, q10.mono hB⟩
/-- The i-th rule. -/
theorem RLst.pick {B : Nat} {W : World} {a : Option Addr} {n c : Nat} {rs : List Q.Ru} (h : RLst B W (.slice a n c) rs) {i : Nat} {r : Q.Ru} (hi : rs[i]? = some r) :
    ∃ b o ta tn tc sa sn sc ca cn cc, a = some ⟨b, o, none⟩ ∧ b < B ∧ W.cell? ⟨b, o + i * 5, none⟩ = some (.slice ta tn tc) ∧ W.cell? ⟨b, o + i * 5 + 1, none⟩ = some (.int .i64 r.kind) ∧ W.cell? ⟨b, o + i * 5 + 2, none⟩ = some (.slice sa sn sc) ∧ W.cell? ⟨b, o + i * 5 + 3, none⟩ = some (.slice ca cn cc) ∧ W.cell? ⟨b, o + i * 5 + 4, none⟩ = some (.int .i64 r.at_) ∧ Words B W (.slice ta tn tc) (r.targets.map ba) ∧ Words B W (.slice sa sn sc) (r.sources.map ba) ∧ Words B W (.slice ca cn cc) (r.commands.map ba) := by
  obtain ⟨a', n', c', e1, e2, e3, h⟩ := h
  cases e1
  obtain ⟨b, o, vt, vs, vc, q1, q2, q3, q4, q5, q6, q7, q8, q9, q10⟩ := h i r hi
  obtain ⟨ta, tn, tc, rfl⟩ : ∃ a n c, vt = .slice a n c := by obtain ⟨a, n, c, h, _⟩ := q8; exact ⟨a, n, c, h⟩
  obtain ⟨sa, sn, sc, rfl⟩ : ∃ a n c, vs = .slice a n c := by obtain ⟨a, n, c, h, _⟩ := q9; exact ⟨a, n, c, h⟩
  obtain ⟨ca, cn, cc, rfl⟩ : ∃ a n c, vc = .slice a n c := by obtain ⟨a, n, c, h, _⟩ := q10; exact ⟨a, n, c, h⟩
  exact ⟨b, o, ta, tn, tc, sa, sn, sc, ca, cn, cc, q1, q2, q3, q4, q5, q6, q7, q8, q9, q10⟩
theorem RLst.len {B : Nat} {W : World} {a : Option Addr} {n c : Nat} {rs : List Q.Ru} (h : RLst B W (.slice a n c) rs) : n = rs.length ∧ n ≤ c := by
  obtain ⟨a', n', c', e1, e2, e3, h⟩ := h
  cases e1; exact ⟨e2, e3⟩

/-! A map of numbers. -/
def intR : Value → Option (DataW Unit × List MemPlace)
  | .int .i64 n => some (.lit (.int .i64 n), [])
  | _ => none
theorem intR_mk (n : Int) : intR (.int .i64 n) = some (.lit (.int .i64 n), []) := rfl
theorem intR_inv {v : Value} {y : DataW Unit × List MemPlace} (h : intR v = some y) : ∃ n, v = .int .i64 n ∧ y = (.lit (.int .i64 n), []) := by
  unfold intR at h
  split at h
  · rename_i n; exact ⟨n, rfl, (Option.some.inj h).symm⟩
  · cases h
abbrev keyL (q : ByteArray) : Lit := .string (bl q)
theorem key_isLit (q : ByteArray) : WideAt.IsKeyLit (keyL q) := trivial
theorem keyL_ne {p q : ByteArray} (h : p ≠ q) : keyL p ≠ keyL q := fun e => h (bl_inj (by simpa [keyL] using e))
structure IRep (D : DataW Unit) (f : ByteArray → Option Nat) : Prop where
  look : ∀ q, Maps.has D (keyL q) = (f q).isSome
  at_ : ∀ q i z, f q = some i → D.atKey (keyL q) z = .lit (.int .i64 (i : Int))
def gotI (f : ByteArray → Option Nat) (q : ByteArray) : Int := ((f q).getD 0 : Nat)
theorem IRep.got {D : DataW Unit} {f : ByteArray → Option Nat} (h : IRep D f) (q : ByteArray) : D.atKey (keyL q) (.lit (.int .i64 0)) = .lit (.int .i64 (gotI f q)) := by
  unfold gotI
  cases hl : f q with
  | none => exact atKey_of_not_has (by rw [h.look, hl]; rfl) _
  | some e => exact h.at_ q e _ hl
theorem IRep.put {D : DataW Unit} {f g : ByteArray → Option Nat} (h : IRep D f) (ht : Tidy D) (q : ByteArray) (i : Nat) (hg : ∀ p, g p = if p = q then some i else f p) : IRep (D.put (keyL q) (.lit (.int .i64 (i : Int)))) g := by
  refine ⟨fun p => ?_, fun p x z hx => ?_⟩
  · rw [hg]
    by_cases hp : p = q
    · subst hp; rw [has_put_same ht.isMap (key_isLit p), if_pos rfl]; rfl
    · rw [has_put_other (keyL_ne hp), h.look, if_neg hp]
  · rw [hg] at hx
    by_cases hp : p = q
    · subst hp; rw [if_pos rfl] at hx; cases hx; exact atKey_put_same ht.isMap (key_isLit p) _ _
    · rw [if_neg hp] at hx; rw [atKey_put_other (keyL_ne hp)]; exact h.at_ _ _ _ hx
def MapI (w : World) (m : Nat) (f : ByteArray → Option Nat) (k : Nat) : Prop := ∃ D, w.ownsMap Tryd.prog 9 intR m k D ∧ IRep D f
theorem keyed9 : Keyed Tryd.prog 9 := string_keyed Tryd.underlying9
theorem keyOf_str {q : ByteArray} (hq : q.size ≤ 140737488355328) : keyOf Tryd.prog 9 (.string q) = some (keyL q) := Go.WideMaps.keyOf_string_mk (P := Tryd.prog) Tryd.underlying9 (s := q) (by unfold maxLen; omega)
section
variable {w w' : World} {m k : Nat} {f g : ByteArray → Option Nat}
theorem MapI.of_block (h : MapI w m f k) (e : w'.heap[m]? = w.heap[m]?) : MapI w' m f k := by
  obtain ⟨D, ⟨es, clock, hb, r⟩, hR⟩ := h
  exact ⟨D, ⟨es, clock, e.trans hb, r⟩, hR⟩
theorem MapI.lt (h : MapI w m f k) : m < w.heap.size := by obtain ⟨D, h, _⟩ := h; exact h.lt
theorem MapI.isMap (h : MapI w m f k) : ∃ es clock, w.heap[m]? = some (.map es clock) := by
  obtain ⟨D, ⟨es, clock, hb, r⟩, hR⟩ := h
  exact ⟨es, clock, hb⟩
theorem MapI.empty {clock : Nat} (hb : w.heap[m]? = some (.map #[] clock)) : MapI w m (fun _ => none) 0 :=
  ⟨.map [], ⟨#[], clock, hb, ⟨by simp, MapKept.stamped_empty clock, by simp⟩, Nat.le_refl _, rfl⟩, ⟨fun q => rfl, fun q i z h => by cases h⟩⟩
theorem MapI.see (h : MapI w m f k) {q : ByteArray} (hq : q.size ≤ 140737488355328) (W : World) (hW : W.heap[m]? = w.heap[m]?) :
    (Instr.lookup 54 (.map (some m)) (.string q) true).run Tryd.prog W = .ok (.tuple #[.int .i64 (gotI f q), .bool (f q).isSome]) W := by
  obtain ⟨D, hown, hR⟩ := h.of_block hW
  obtain ⟨v, ps, hrun, hv⟩ := hown.look_ok keyed9 Tryd.underlying54 (Tryd.zeroValue3 W) (intR_mk 0) (keyOf_str hq)
  obtain ⟨n, rfl, he⟩ := intR_inv hv
  have h2 : D.atKey (keyL q) (.lit (.int .i64 0)) = .lit (.int .i64 n) := congrArg Prod.fst he
  rw [hR.got] at h2
  have h3 : gotI f q = n := by simpa using h2
  rw [hrun, h3, hR.look q]
structure Turned (m : Nat) (w w' : World) : Prop where
  os : w'.os = w.os
  tape : w'.tape = w.tape
  output : w'.output = w.output
  size : w'.heap.size = w.heap.size
  block : ∀ j, j ≠ m → w'.heap[j]? = w.heap[j]?
theorem turned_of (h : w.mapTurned w' m) : Turned m w w' := by
  obtain ⟨es, clock, es', clock', hb, rfl⟩ := h
  exact ⟨rfl, rfl, rfl, by simp [ChangeMaps.setBlock], fun j hj => ChangeMaps.heap_setBlock_other hb _ hj⟩
theorem MapI.put (h : MapI w m f k) (hl : k ≤ 1000000) {q : ByteArray} (hq : q.size ≤ 140737488355328) (i : Nat) (hg : ∀ p, g p = if p = q then some i else f p) :
    ∃ w', (Instr.mapUpdate 54 (.map (some m)) (.string q) (.int .i64 (i : Int))).run Tryd.prog w = .ok () w' ∧ MapI w' m g (k + 1) ∧ Turned m w w' := by
  obtain ⟨D, hown, hR⟩ := h
  obtain ⟨w', hrun, h1, h2⟩ := hown.store keyed9 Tryd.underlying54 (by unfold maxLen; omega) (keyOf_str hq) (intR_mk (i : Int))
  exact ⟨w', hrun, ⟨_, h1, hR.put (hown.tidy keyed9) q i hg⟩, turned_of h2⟩
end

/-! What has been joined. -/
structure JE where
  vt : Value
  vs : Value
  vc : Value
  r : Q.Ru
def JE.cells (e : JE) : List Value := [e.vt, .int .i64 e.r.kind, e.vs, e.vc, .int .i64 e.r.at_]
def JE.v (e : JE) : Nat → Value
  | 0 => e.vt
  | 1 => e.vs
  | _ => e.vc
def JE.l (e : JE) : Nat → List ByteArray
  | 0 => e.r.targets.map ba
  | 1 => e.r.sources.map ba
  | _ => e.r.commands.map ba
structure JS (base bj bm : Nat) (vr : Value) (es : List JE) (k : Nat) (W : World) : Prop where
  blk : W.heap[bj]? = some (.cells #[vr, .map (some bm)] 56 (0, 0))
  map : MapI W bm (fun q => Q.lastI (bl q) (es.map JE.r)) k
  row : W.ownsRow base 24 5 vr es.length (es.flatMap JE.cells)
  own : ∀ (i : Nat) (e : JE) (c : Nat), es[i]? = some e → c < 3 → W.ownsRow base 9 1 (e.v c) (e.l c).length ((e.l c).map Value.string)
  apart : ∀ (i j : Nat) (e f : JE) (c d b : Nat), es[i]? = some e → es[j]? = some f → c < 3 → d < 3 → (e.v c).ownBlock = some b → (f.v d).ownBlock = some b → i = j ∧ c = d
  lo : base ≤ bj ∧ base ≤ bm ∧ base ≤ W.heap.size
theorem cells_len (e : JE) : e.cells.length = 5 := rfl
theorem JS.fr {base bj bm k : Nat} {vr : Value} {es : List JE} {W W' : World} {D : Nat → Prop} (h : JS base bj bm vr es k W) (hf : Fr D W W') (h1 : ¬ D bj) (h2 : ¬ D bm) (h3 : ∀ g, vr.ownBlock = some g → ¬ D g) (h4 : ∀ (i : Nat) (e : JE) (c g : Nat), es[i]? = some e → c < 3 → (e.v c).ownBlock = some g → ¬ D g) : JS base bj bm vr es k W' :=
  ⟨(hf.block bj (Array.getElem?_eq_some_iff.1 h.blk).1 h1).trans h.blk, h.map.of_block (hf.block bm h.map.lt h2), row_fr h.row hf h3, fun i e c he hc => row_fr (h.own i e c he hc) hf fun g hg => h4 i e c g he hc hg, h.apart, h.lo.1, h.lo.2.1, Nat.le_trans h.lo.2.2 hf.size⟩
theorem JS.below {base bj bm k : Nat} {vr : Value} {es : List JE} {W W' : World} (h : JS base bj bm vr es k W) (hb : Below W.heap.size W W') : JS base bj bm vr es k W' :=
  h.fr (D := fun _ => False) (Fr.of_below hb) (fun e => e) (fun e => e) (fun _ _ e => e) (fun _ _ _ _ _ _ _ e => e)
theorem words_own {base n : Nat} {W : World} {v : Value} {l : List ByteArray} (h : W.ownsRow base 9 1 v n (l.map Value.string)) (hn : n = l.length) : Words W.heap.size W v l := by
  subst hn; exact words_of_owns h (Nat.le_refl _)
theorem JS.list {base bj bm k : Nat} {vr : Value} {es : List JE} {W : World} (h : JS base bj bm vr es k W) : RLst W.heap.size W vr (es.map JE.r) := by
  rcases row_src h.row with ⟨e1, e2, e3⟩ | ⟨g, cap, e1, hg, hc, hl, hcells⟩
  · refine ⟨none, 0, 0, e1, ?_, Nat.le_refl _, fun i r hi => ?_⟩
    · rw [List.length_map]; exact e2.symm
    · rw [List.length_eq_zero_iff.1 e2] at hi; simp at hi
  · refine ⟨some ⟨g, 0, none⟩, es.length, cap, e1, by rw [List.length_map], hc, fun i r hi => ?_⟩
    rw [List.getElem?_map] at hi
    cases he : es[i]? with
    | none => rw [he] at hi; simp at hi
    | some e =>
      rw [he] at hi; simp at hi; subst hi
      have cell : ∀ j u, j < 5 → e.cells[j]? = some u → W.cell? ⟨g, 0 + i * 5 + j, none⟩ = some u := by
        intro j u hj hu
        have := hcells (i * 5 + j) u (by rw [fl_get JE.cells 5 cells_len es i j e he hj]; exact hu)
        rw [add_none] at this
        rw [show 0 + i * 5 + j = 0 + (i * 5 + j) by omega]; exact this
      exact ⟨g, 0, e.vt, e.vs, e.vc, rfl, hg, cell 0 _ (by omega) rfl, cell 1 _ (by omega) rfl, cell 2 _ (by omega) rfl, cell 3 _ (by omega) rfl, cell 4 _ (by omega) rfl,
        words_own (h.own i e 0 he (by omega)) rfl, words_own (h.own i e 1 he (by omega)) rfl, words_own (h.own i e 2 he (by omega)) rfl⟩
end Go.Proofs.YtbgnmchnfaknkaaDoor
