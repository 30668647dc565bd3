/-
  A set of variables in memory: what its blocks hold, and what stays of it while others are written.
-/
import Derived.Test.YtjbmmeneejcpbaaVSpec
import Derived.Maps.Ext
import Derived.Maps.OwnSet
namespace Go.Proofs.Ytjbmmeneejcpbaa
open Go.RowKit Go.Shelf Go.Maps

/-! A value as a map's element. -/
abbrev entV (e : ByteArray) : Value := .agg #[.string e]
def entD (e : ByteArray) : DataW Unit := .agg [.lit (.string (bl e))]
def entR : Value → Option (DataW Unit × List MemPlace)
  | .agg cs => match cs.toList with
    | [.string t] => some (entD t, [])
    | _ => none
  | _ => none
theorem entR_mk (e : ByteArray) : entR (entV e) = some (entD e, []) := rfl
theorem entR_inv {v : Value} {y : DataW Unit × List MemPlace} (h : entR v = some y) : ∃ e, v = entV e ∧ y = (entD e, []) := by
  unfold entR at h
  split at h
  · rename_i cs
    split at h
    · rename_i t hc
      refine ⟨t, ?_, (Option.some.inj h).symm⟩
      unfold entV
      rw [← Array.toArray_toList (xs := cs), hc]
    · cases h
  · cases h
theorem entD_inj {a c : ByteArray} (h : entD a = entD c) : a = c := by
  unfold entD at h
  simp only [DataW.agg.injEq, List.cons.injEq, DataW.lit.injEq, Lit.string.injEq, and_true] at h
  exact bl_inj h
def gotE (L : Sc) (q : ByteArray) : ByteArray := (L.look q).getD E
abbrev keyL (q : ByteArray) : Lit := .string (bl q)
theorem key_isLit (q : ByteArray) : WideAt.IsKeyLit (keyL q) := trivial
theorem keyL_ne {p q : ByteArray} (h : p ≠ q) : keyL p ≠ keyL q := fun e => h (bl_inj (by simpa [keyL] using e))

/-- What a map's datum says, as a list. -/
structure Rep (D : DataW Unit) (L : Sc) : Prop where
  uniq : L.Uniq
  size : Maps.size D = L.length
  look : ∀ q, Maps.has D (keyL q) = (L.look q).isSome
  at_ : ∀ q e z, L.look q = some e → D.atKey (keyL q) z = entD e

theorem Rep.got {D : DataW Unit} {L : Sc} (h : Rep D L) (q : ByteArray) : D.atKey (keyL q) (entD E) = entD (gotE L q) := by
  unfold gotE
  cases hl : L.look q with
  | none => exact atKey_of_not_has (by rw [h.look, hl]; rfl) _
  | some e => exact h.at_ q e _ hl
theorem Rep.put {D : DataW Unit} {L : Sc} (h : Rep D L) (ht : Tidy D) (q : ByteArray) (e : ByteArray) : Rep (D.put (keyL q) (entD e)) (L.set q e) := by
  refine ⟨Sc.uniq_set h.uniq q e, ?_, fun p => ?_, fun p x z hx => ?_⟩
  · rw [size_put ht, h.look, Sc.length_set, h.size]
  · by_cases hp : p = q
    · subst hp; rw [has_put_same ht.isMap (key_isLit p), Sc.look_set_same]; rfl
    · rw [has_put_other (keyL_ne hp), Sc.look_set_other _ _ _ _ hp, h.look]
  · by_cases hp : p = q
    · subst hp; rw [Sc.look_set_same] at hx; cases hx; exact atKey_put_same ht.isMap (key_isLit p) _ _
    · rw [Sc.look_set_other _ _ _ _ hp] at hx; rw [atKey_put_other (keyL_ne hp)]; exact h.at_ _ _ _ hx
theorem Rep.del {D : DataW Unit} {L : Sc} (h : Rep D L) (ht : Tidy D) (q : ByteArray) : Rep (D.del (keyL q)) (L.del q) := by
  refine ⟨Sc.uniq_del h.uniq q, ?_, fun p => ?_, fun p x z hx => ?_⟩
  · have h1 := size_del (k := keyL q) ht
    have h2 := Sc.length_del h.uniq q
    rw [h.look] at h1
    have h3 := h.size
    cases hl : (L.look q).isSome <;> rw [hl] at h1 h2 <;> simp at h1 h2 <;> omega
  · by_cases hp : p = q
    · subst hp; rw [has_del_same, Sc.look_del_same]; rfl
    · rw [has_del_other (keyL_ne hp), Sc.look_del_other _ _ _ hp, h.look]
  · by_cases hp : p = q
    · subst hp; rw [Sc.look_del_same] at hx; cases hx
    · rw [Sc.look_del_other _ _ _ hp] at hx; rw [atKey_del_other (keyL_ne hp)]; exact h.at_ _ _ _ hx

/-- A map's block, with what it holds. -/
def Files (w : World) (m : Nat) (L : Sc) : Prop := ∃ D, w.ownsMap Try.prog 9 entR m L.length D ∧ Rep D L
theorem keyed9 : Keyed Try.prog 9 := string_keyed Try.underlying9
section
variable {w w' : World} {m : Nat} {L : Sc}
theorem Files.lt (h : Files w m L) : m < w.heap.size := by obtain ⟨D, h, _⟩ := h; exact h.lt
theorem Files.of_block (h : Files w m L) (e : w'.heap[m]? = w.heap[m]?) : Files w' m L := by
  obtain ⟨D, ⟨es, clock, hb, r⟩, hR⟩ := h
  exact ⟨D, ⟨es, clock, e.trans hb, r⟩, hR⟩
theorem Files.isMap (h : Files w m L) : ∃ es clock, w.heap[m]? = some (.map es clock) := by
  obtain ⟨D, ⟨es, clock, hb, r⟩, hR⟩ := h
  exact ⟨es, clock, hb⟩
theorem ownsMap_exact {b n : Nat} {D : DataW Unit} (h : w.ownsMap Try.prog 9 entR b n D) {m : Nat} (hm : Maps.size D = m) : w.ownsMap Try.prog 9 entR b m D := by
  obtain ⟨es, clock, hb, F, hs, rfl⟩ := h
  refine ⟨es, clock, hb, F, ?_, rfl⟩
  rw [← hm]
  simp [Maps.size, length_sorted]
theorem zeroEnt (w : World) : (zeroValue 64).run Try.prog w = .ok (entV E) w := Try.zeroValue64 w
theorem keyOf_str {q : ByteArray} (hq : q.size ≤ 140737488355328) : keyOf Try.prog 9 (.string q) = some (keyL q) := Go.WideMaps.keyOf_string_mk (P := Try.prog) Try.underlying9 (s := q) (by unfold maxLen; omega)
theorem Files.see (h : Files w m L) {q : ByteArray} (hq : q.size ≤ 140737488355328) (W : World) (hW : W.heap[m]? = w.heap[m]?) :
    (Instr.lookup 52 (.map (some m)) (.string q) true).run Try.prog W = .ok (.tuple #[entV (gotE L q), .bool (L.look q).isSome]) W := by
  obtain ⟨D, hown, hR⟩ := h.of_block hW
  obtain ⟨v, ps, hrun, hv⟩ := hown.look_ok keyed9 Try.underlying52 (zeroEnt W) (entR_mk E) (keyOf_str hq)
  obtain ⟨e, rfl, he⟩ := entR_inv hv
  have h2 : D.atKey (keyL q) (entD E) = entD e := congrArg Prod.fst he
  rw [hR.got] at h2
  rw [hrun, ← entD_inj h2]
  rw [hR.look q]
theorem see_nil {q : ByteArray} (hq : q.size ≤ 140737488355328) (W : World) :
    (Instr.lookup 52 (.map none) (.string q) true).run Try.prog W = .ok (.tuple #[entV E, .bool false]) W := by
  rw [Maps.look_nil true keyed9 Try.underlying52 (zeroEnt W) (keyOf_str hq)]; rfl
theorem Files.count (h : Files w m L) (ty : TypeId) (W : World) (hW : W.heap[m]? = w.heap[m]?) : (Builtin.len_ #[52] ty #[.map (some m)]).run Try.prog W = .ok (.int .i64 L.length) W := by
  obtain ⟨D, hown, hR⟩ := h.of_block hW
  rw [hown.len Try.underlying52, hR.size]
/-- One block alone is another. -/
structure Turned (m : Nat) (w w' : World) : Prop where
  os : w'.os = w.os
  tape : w'.tape = w.tape
  output : w'.output = w.output
  size : w'.heap.size = w.heap.size
  block : ∀ j, j ≠ m → w'.heap[j]? = w.heap[j]?
theorem turned_of (h : w.mapTurned w' m) : Turned m w w' := by
  obtain ⟨es, clock, es', clock', hb, rfl⟩ := h
  exact ⟨rfl, rfl, rfl, by simp [ChangeMaps.setBlock], fun j hj => ChangeMaps.heap_setBlock_other hb _ hj⟩
theorem Files.put (h : Files w m L) (hl : L.length ≤ 1000000) {q e : ByteArray} (hq : q.size ≤ 140737488355328) :
    ∃ w', (Instr.mapUpdate 52 (.map (some m)) (.string q) (entV e)).run Try.prog w = .ok () w' ∧ Files w' m (L.set q e) ∧ Turned m w w' := by
  obtain ⟨D, hown, hR⟩ := h
  obtain ⟨w', hrun, h1, h2⟩ := hown.store keyed9 Try.underlying52 (by unfold maxLen; omega) (keyOf_str hq) (entR_mk e)
  have hr := hR.put (hown.tidy keyed9) q e
  exact ⟨w', hrun, ⟨_, ownsMap_exact h1 hr.size, hr⟩, turned_of h2⟩
theorem Files.drop (h : Files w m L) (ty : TypeId) {q : ByteArray} (hq : q.size ≤ 140737488355328) :
    ∃ w', (Builtin.delete_ #[52, 9] ty #[.map (some m), .string q]).run Try.prog w = .ok (.tuple #[]) w' ∧ Files w' m (L.del q) ∧ Turned m w w' := by
  obtain ⟨D, hown, hR⟩ := h
  obtain ⟨w', hrun, h1, h2⟩ := hown.drop keyed9 Try.underlying52 (keyOf_str hq) ty
  have hr := hR.del (hown.tidy keyed9) q
  exact ⟨w', hrun, ⟨_, ownsMap_exact h1 hr.size, hr⟩, turned_of h2⟩
end

def cellsOf (m : Int → Nat) : Array Value := #[.bool true, .map (some (m 1)), .map (some (m 2)), .map (some (m 3)), .map (some (m 4))]
abbrev ptr (b : Nat) : Value := .pointer (some ⟨b, 0, none⟩)

structure VSet (base b : Nat) (m : Int → Nat) (s : VS) (w : World) : Prop where
  blk : w.heap[b]? = some (.cells (cellsOf m) 55 (0, 0))
  map : ∀ n, isSc n = true → Files w (m n) (s n)
  inj : ∀ i j, isSc i = true → isSc j = true → i ≠ j → m i ≠ m j
  hb : base ≤ b
  hm : ∀ n, isSc n = true → base ≤ m n
  ok : s.Ok

/-- What a call on a set may turn: its maps, and new memory. -/
structure Turn (m : Int → Nat) (w w' : World) : Prop where
  os : w'.os = w.os
  tape : w'.tape = w.tape
  output : w'.output = w.output
  size : w.heap.size ≤ w'.heap.size
  block : ∀ j, j < w.heap.size → (∀ n, isSc n = true → j ≠ m n) → w'.heap[j]? = w.heap[j]?

theorem isSc_cases {n : Int} (h : isSc n = true) : n = 1 ∨ n = 2 ∨ n = 3 ∨ n = 4 := by
  unfold isSc at h
  simp at h
  omega

section
variable {base b : Nat} {m : Int → Nat} {s : VS} {w w' w'' : World}
theorem Turn.trans (h : Turn m w w') (k : Turn m w' w'') : Turn m w w'' :=
  ⟨k.os.trans h.os, k.tape.trans h.tape, k.output.trans h.output, Nat.le_trans h.size k.size, fun j hj hn => (k.block j (Nat.lt_of_lt_of_le hj h.size) hn).trans (h.block j hj hn)⟩
theorem Turn.of_below (h : Below w.heap.size w w') : Turn m w w' := ⟨h.os, h.tape, h.output, h.size, fun j hj _ => h.block j hj⟩
theorem Turn.refl (m : Int → Nat) (w : World) : Turn m w w := Turn.of_below (Below.refl _ _)
theorem Turn.of_turned {n : Int} (hn : isSc n = true) (h : Turned (m n) w w') : Turn m w w' :=
  ⟨h.os, h.tape, h.output, Nat.le_of_eq h.size.symm, fun j _ hj => h.block j (hj n hn)⟩
theorem VSet.lt (h : VSet base b m s w) : b < w.heap.size := (Array.getElem?_eq_some_iff.1 h.blk).1
theorem VSet.ltm (h : VSet base b m s w) {n : Int} (hn : isSc n = true) : m n < w.heap.size := (h.map n hn).lt
theorem VSet.of_block (h : VSet base b m s w) (h1 : w'.heap[b]? = w.heap[b]?) (h2 : ∀ n, isSc n = true → w'.heap[m n]? = w.heap[m n]?) : VSet base b m s w' :=
  ⟨h1.trans h.blk, fun n hn => (h.map n hn).of_block (h2 n hn), h.inj, h.hb, h.hm, h.ok⟩
theorem VSet.below (h : VSet base b m s w) (hb : Below w.heap.size w w') : VSet base b m s w' :=
  h.of_block (hb.block b h.lt) fun n hn => hb.block (m n) (h.ltm hn)
theorem VSet.lower (h : VSet base b m s w) {base' : Nat} (hb : base' ≤ base) : VSet base' b m s w :=
  ⟨h.blk, h.map, h.inj, Nat.le_trans hb h.hb, fun n hn => Nat.le_trans hb (h.hm n hn), h.ok⟩
theorem VSet.low (h : VSet base b m s w) (ht : Turn m w w') : Below base w w' :=
  ⟨ht.os, ht.tape, ht.output, ht.size, fun j hj => by
    have h1 := h.lt; have h2 := h.hb
    refine ht.block j (by omega) (fun n hn => ?_)
    have := h.hm n hn
    omega⟩
theorem VSet.bm (h : VSet base b m s w) {n : Int} (hn : isSc n = true) : b ≠ m n := by
  intro e
  obtain ⟨es, clock, hm⟩ := (h.map n hn).isMap
  have := h.blk
  rw [e, hm] at this; cases this
theorem VSet.upd (h : VSet base b m s w) {n : Int} (hn : isSc n = true) {L : Sc} (hk : (s.upd n L).Ok) (hf : Files w' (m n) L) (ht : Turned (m n) w w') : VSet base b m (s.upd n L) w' := by
  refine ⟨(ht.block b (h.bm hn)).trans h.blk, fun k hk' => ?_, h.inj, h.hb, h.hm, hk⟩
  by_cases e : k = n
  · subst e; rw [VS.upd_same]; exact hf
  · rw [VS.upd_other _ _ e]; exact (h.map k hk').of_block (ht.block _ (h.inj k n hk' hn e))
theorem VSet.cell (h : VSet base b m s w) (i : Nat) {u : Value} (hu : (cellsOf m)[i]? = some u) : w.cell? ⟨b, i, none⟩ = some u := by
  simp only [World.cell?, h.blk]; exact hu
theorem VSet.c0 (h : VSet base b m s w) : w.cell? ⟨b, 0, none⟩ = some (.bool true) := h.cell 0 rfl
theorem VSet.c1 (h : VSet base b m s w) : w.cell? ⟨b, 1, none⟩ = some (.map (some (m 1))) := h.cell 1 rfl
theorem VSet.c2 (h : VSet base b m s w) : w.cell? ⟨b, 2, none⟩ = some (.map (some (m 2))) := h.cell 2 rfl
theorem VSet.c3 (h : VSet base b m s w) : w.cell? ⟨b, 3, none⟩ = some (.map (some (m 3))) := h.cell 3 rfl
theorem VSet.c4 (h : VSet base b m s w) : w.cell? ⟨b, 4, none⟩ = some (.map (some (m 4))) := h.cell 4 rfl
/-- Another set is turned. -/
theorem VSet.other (h : VSet base b m s w) {m' : Int → Nat} (ht : Turn m' w w') (hb : ∀ n, isSc n = true → b ≠ m' n) (hm : ∀ i j, isSc i = true → isSc j = true → m i ≠ m' j) : VSet base b m s w' :=
  h.of_block (ht.block b h.lt hb) fun n hn => ht.block (m n) (h.ltm hn) (fun k hk => hm n k hn hk)
end
end Go.Proofs.Ytjbmmeneejcpbaa
