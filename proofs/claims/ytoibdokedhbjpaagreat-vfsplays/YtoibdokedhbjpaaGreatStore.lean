/-
  A store of files in memory: what its blocks hold, and what stays of it while others are written.
-/
import Derived.Test.YtoibdokedhbjpaaGreatSpec
import Derived.Maps.Ext
import Derived.Maps.OwnSet
import Derived.Maps.RangeWalk
import Derived.Sort.KeysCollected
import Derived.Sort.OwnSorted
namespace Go.Proofs.YtoibdokedhbjpaaGreat
open Go.RowKit Go.Shelf Go.Maps

/-! An entry as a map's element. -/
def entV (e : Ent) : Value := .agg #[.string e.text, .int .i64 e.time, .bool e.dir]
def entD (e : Ent) : DataW Unit := .agg [.lit (.string (bl e.text)), .lit (.int .i64 e.time), .lit (.bool e.dir)]
def entR : Value → Option (DataW Unit × List MemPlace)
  | .agg cs => match cs.toList with
    | [.string t, .int .i64 n, .bool d] => some (entD ⟨t, n, d⟩, [])
    | _ => none
  | _ => none
theorem entR_mk (e : Ent) : entR (entV e) = some (entD e, []) := rfl
theorem entR_inv {v : Value} {y : DataW Unit × List MemPlace} (h : entR v = some y) : ∃ e, v = entV e ∧ y = (entD e, []) := by
  unfold entR at h
  split at h
  · rename_i cs
    split at h
    · rename_i t n d hc
      refine ⟨⟨t, n, d⟩, ?_, (Option.some.inj h).symm⟩
      unfold entV
      rw [← Array.toArray_toList (xs := cs), hc]
    · cases h
  · cases h
theorem entD_inj {a c : Ent} (h : entD a = entD c) : a = c := by
  unfold entD at h
  simp only [DataW.agg.injEq, List.cons.injEq, DataW.lit.injEq, Lit.string.injEq, Lit.int.injEq, Lit.bool.injEq, and_true, true_and] at h
  cases a; cases c
  simp only [Ent.mk.injEq]
  exact ⟨bl_inj h.1, h.2.1, h.2.2⟩
def noE : Ent := ⟨E, 0, false⟩
def gotE (L : Fs) (q : ByteArray) : Ent := (L.look q).getD noE
abbrev keyL (q : ByteArray) : Lit := .string (bl q)
theorem key_isLit (q : ByteArray) : WideAt.IsKeyLit (keyL q) := trivial
theorem keyL_ne {p q : ByteArray} (h : p ≠ q) : keyL p ≠ keyL q := fun e => h (bl_inj (by simpa [keyL] using e))

/-- What a map's datum says, as a list. -/
structure Rep (D : DataW Unit) (L : Fs) : Prop where
  uniq : L.Uniq
  size : Maps.size D = L.length
  look : ∀ q, Maps.has D (keyL q) = (L.look q).isSome
  at_ : ∀ q e z, L.look q = some e → D.atKey (keyL q) z = entD e

theorem Rep.got {D : DataW Unit} {L : Fs} (h : Rep D L) (q : ByteArray) : D.atKey (keyL q) (entD noE) = entD (gotE L q) := by
  unfold gotE
  cases hl : L.look q with
  | none => exact atKey_of_not_has (by rw [h.look, hl]; rfl) _
  | some e => exact h.at_ q e _ hl
theorem Rep.put {D : DataW Unit} {L : Fs} (h : Rep D L) (ht : Tidy D) (q : ByteArray) (e : Ent) : Rep (D.put (keyL q) (entD e)) (L.set q e) := by
  refine ⟨Fs.uniq_set h.uniq q e, ?_, fun p => ?_, fun p x z hx => ?_⟩
  · rw [size_put ht, h.look, Fs.length_set, h.size]
  · by_cases hp : p = q
    · subst hp; rw [has_put_same ht.isMap (key_isLit p), Fs.look_set_same]; rfl
    · rw [has_put_other (keyL_ne hp), Fs.look_set_other _ _ _ _ hp, h.look]
  · by_cases hp : p = q
    · subst hp; rw [Fs.look_set_same] at hx; cases hx; exact atKey_put_same ht.isMap (key_isLit p) _ _
    · rw [Fs.look_set_other _ _ _ _ hp] at hx; rw [atKey_put_other (keyL_ne hp)]; exact h.at_ _ _ _ hx
theorem Rep.del {D : DataW Unit} {L : Fs} (h : Rep D L) (ht : Tidy D) (q : ByteArray) : Rep (D.del (keyL q)) (L.del q) := by
  refine ⟨Fs.uniq_del h.uniq q, ?_, fun p => ?_, fun p x z hx => ?_⟩
  · have h1 := size_del (k := keyL q) ht
    have h2 := Fs.length_del h.uniq q
    rw [h.look] at h1
    have h3 := h.size
    cases hl : (L.look q).isSome <;> rw [hl] at h1 h2 <;> simp at h1 h2 <;> omega
  · by_cases hp : p = q
    · subst hp; rw [has_del_same, Fs.look_del_same]; rfl
    · rw [has_del_other (keyL_ne hp), Fs.look_del_other _ _ _ hp, h.look]
  · by_cases hp : p = q
    · subst hp; rw [Fs.look_del_same] at hx; cases hx
    · rw [Fs.look_del_other _ _ _ hp] at hx; rw [atKey_del_other (keyL_ne hp)]; exact h.at_ _ _ _ hx

/-- A map's block, with what it holds. -/
def Files (w : World) (m : Nat) (L : Fs) : Prop := ∃ D, w.ownsMap Tryz.prog 9 entR m L.length D ∧ Rep D L
theorem keyed9 : Keyed Tryz.prog 9 := string_keyed Tryz.underlying9
theorem Files.lt {w : World} {m : Nat} {L : Fs} (h : Files w m L) : m < w.heap.size := by obtain ⟨D, h, _⟩ := h; exact h.lt
theorem Files.of_block {w w' : World} {m : Nat} {L : Fs} (h : Files w m L) (e : w'.heap[m]? = w.heap[m]?) : Files w' m L := by
  obtain ⟨D, ⟨es, clock, hb, r⟩, hR⟩ := h
  exact ⟨D, ⟨es, clock, e.trans hb, r⟩, hR⟩
theorem Files.isMap {w : World} {m : Nat} {L : Fs} (h : Files w m L) : ∃ es clock, w.heap[m]? = some (.map es clock) := by
  obtain ⟨D, ⟨es, clock, hb, r⟩, hR⟩ := h
  exact ⟨es, clock, hb⟩
theorem ownsMap_exact {w : World} {b n : Nat} {D : DataW Unit} (h : w.ownsMap Tryz.prog 9 entR b n D) {m : Nat} (hm : Maps.size D = m) : w.ownsMap Tryz.prog 9 entR b m D := by
  obtain ⟨es, clock, hb, F, hs, rfl⟩ := h
  refine ⟨es, clock, hb, F, ?_, rfl⟩
  rw [← hm]
  simp [Maps.size, length_sorted]

def notesV (l : List (Int × ByteArray)) : List Value := l.flatMap fun x => [.int .i64 x.1, .string x.2]
def cellsOf (s : St) (m : Nat) (v : Value) : Array Value := #[.bool true, .int .i64 s.room, .int .i64 s.now, .map (some m), .bool s.noting, v]

structure Store (base b m : Nat) (v : Value) (s : St) (w : World) : Prop where
  blk : w.heap[b]? = some (.cells (cellsOf s m v) 68 (0, 0))
  map : Files w m s.L
  row : w.ownsRow base 74 2 v s.notes.length (notesV s.notes)
  hb : base ≤ b
  hm : base ≤ m
  ok : s.Ok

/-- What a call on a store may turn. -/
structure Turn (b m : Nat) (v v' : Value) (w w' : World) : Prop where
  os : w'.os = w.os
  tape : w'.tape = w.tape
  output : w'.output = w.output
  size : w.heap.size ≤ w'.heap.size
  block : ∀ j, j < w.heap.size → j ≠ b → j ≠ m → v.ownBlock ≠ some j → w'.heap[j]? = w.heap[j]?
  own : ∀ g, v'.ownBlock = some g → v.ownBlock = some g ∨ w.heap.size ≤ g

theorem Turn.trans {b m : Nat} {v v' v'' : Value} {w w' w'' : World} (h : Turn b m v v' w w') (k : Turn b m v' v'' w' w'') : Turn b m v v'' w w'' := by
  refine ⟨k.os.trans h.os, k.tape.trans h.tape, k.output.trans h.output, Nat.le_trans h.size k.size, fun j hj hb hm hv => ?_, fun g hg => ?_⟩
  · rw [k.block j (Nat.lt_of_lt_of_le hj h.size) hb hm (fun e => ?_)]
    · exact h.block j hj hb hm hv
    · rcases h.own j e with e' | e'
      · exact hv e'
      · omega
  · rcases k.own g hg with e | e
    · exact h.own g e
    · exact .inr (Nat.le_trans h.size e)
theorem Turn.of_below {b m : Nat} {v : Value} {w w' : World} (h : Below w.heap.size w w') : Turn b m v v w w' :=
  ⟨h.os, h.tape, h.output, h.size, fun j hj _ _ _ => h.block j hj, fun _ hg => .inl hg⟩
theorem Turn.refl (b m : Nat) (v : Value) (w : World) : Turn b m v v w w := Turn.of_below (Below.refl _ _)

section
variable {base b m : Nat} {v : Value} {s : St} {w w' : World}
theorem Store.lt (h : Store base b m v s w) : b < w.heap.size := (Array.getElem?_eq_some_iff.1 h.blk).1
theorem Store.ltm (h : Store base b m v s w) : m < w.heap.size := h.map.lt
theorem Store.ltv (h : Store base b m v s w) : ∀ g, v.ownBlock = some g → base ≤ g ∧ g < w.heap.size := h.row.lt
theorem Store.below (h : Store base b m v s w) (hb : Below w.heap.size w w') : Store base b m v s w' :=
  ⟨(hb.block b h.lt).trans h.blk, h.map.of_block (hb.block m h.ltm), owns_below h.row hb, h.hb, h.hm, h.ok⟩
theorem Store.low (h : Store base b m v s w) {v' : Value} (ht : Turn b m v v' w w') : Below base w w' :=
  ⟨ht.os, ht.tape, ht.output, ht.size, fun j hj => by
    have h1 := h.lt; have h2 := h.hb; have h3 := h.hm
    refine ht.block j (by omega) (by omega) (by omega) (fun e => ?_)
    have := (h.ltv j e).1
    omega⟩
theorem Store.cell (h : Store base b m v s w) (i : Nat) {u : Value} (hu : (cellsOf s m v)[i]? = some u) : w.cell? ⟨b, i, none⟩ = some u := by
  simp only [World.cell?, h.blk]; exact hu
theorem Store.frozen (h : Store base b m v s w) (i : Nat) : w.frozen? ⟨b, i, none⟩ = false := by
  simp [World.frozen?, h.blk]
theorem Store.c0 (h : Store base b m v s w) : w.cell? ⟨b, 0, none⟩ = some (.bool true) := h.cell 0 rfl
theorem Store.c1 (h : Store base b m v s w) : w.cell? ⟨b, 1, none⟩ = some (.int .i64 s.room) := h.cell 1 rfl
theorem Store.c2 (h : Store base b m v s w) : w.cell? ⟨b, 2, none⟩ = some (.int .i64 s.now) := h.cell 2 rfl
theorem Store.c3 (h : Store base b m v s w) : w.cell? ⟨b, 3, none⟩ = some (.map (some m)) := h.cell 3 rfl
theorem Store.c4 (h : Store base b m v s w) : w.cell? ⟨b, 4, none⟩ = some (.bool s.noting) := h.cell 4 rfl
theorem Store.c5 (h : Store base b m v s w) : w.cell? ⟨b, 5, none⟩ = some v := h.cell 5 rfl
theorem Store.bm (h : Store base b m v s w) : b ≠ m := by
  intro e; subst e
  obtain ⟨es, clock, hm⟩ := h.map.isMap
  have := h.blk
  rw [hm] at this; cases this
theorem row_type {e : TypeId} {n k : Nat} {xs : List Value} (h : w.ownsRow base e k v n xs) {g : Nat} (hg : v.ownBlock = some g) : ∃ cur, w.heap[g]? = some (.cells cur e (0, 0)) := by
  rcases h.2 with ⟨rfl, _⟩ | ⟨g', cap, cur, rfl, _, hgg, _⟩
  · simp [Value.ownBlock] at hg
  · simp [Value.ownBlock] at hg; subst hg; exact ⟨cur, hgg⟩
theorem Store.vb (h : Store base b m v s w) : v.ownBlock ≠ some b := by
  intro e
  obtain ⟨cur, hc⟩ := row_type h.row e
  have := h.blk
  rw [hc] at this
  simp at this
theorem Store.vm (h : Store base b m v s w) : v.ownBlock ≠ some m := by
  intro e
  obtain ⟨cur, hc⟩ := row_type h.row e
  obtain ⟨es, clock, hm⟩ := h.map.isMap
  rw [hc] at hm; cases hm

/-- Another store is turned. -/
theorem Store.other (h : Store base b m v s w) {b' m' base' : Nat} {u u' : Value} {s' : St} (h' : Store base' b' m' u s' w) (ht : Turn b' m' u u' w w') (hb : b ≠ b') (hm : m ≠ m') (hu : ∀ g, v.ownBlock = some g → u.ownBlock ≠ some g) : Store base b m v s w' := by
  have hbm : b ≠ m' := fun e => by
    obtain ⟨es, clock, hx⟩ := h'.map.isMap
    have := h.blk; rw [e, hx] at this; cases this
  have hmb : m ≠ b' := fun e => by
    obtain ⟨es, clock, hx⟩ := h.map.isMap
    have := h'.blk; rw [← e, hx] at this; cases this
  have hub : u.ownBlock ≠ some b := fun e => by
    obtain ⟨cur, hc⟩ := row_type h'.row e
    have := h.blk; rw [hc] at this; simp at this
  have hum : u.ownBlock ≠ some m := fun e => by
    obtain ⟨cur, hc⟩ := row_type h'.row e
    obtain ⟨es, clock, hx⟩ := h.map.isMap
    rw [hc] at hx; cases hx
  refine ⟨(ht.block b h.lt hb hbm hub).trans h.blk, h.map.of_block (ht.block m h.ltm hmb hm hum), ⟨h.row.1, ?_⟩, h.hb, h.hm, h.ok⟩
  rcases h.row.2 with hn | ⟨g, cap, cur, hv, hg, hgg, rest⟩
  · exact .inl hn
  · have hvg : v.ownBlock = some g := by rw [hv]; rfl
    refine .inr ⟨g, cap, cur, hv, hg, ?_, rest⟩
    rw [ht.block g (Array.getElem?_eq_some_iff.1 hgg).1 (fun e => ?_) (fun e => ?_) (hu g hvg)]
    · exact hgg
    · have := h'.blk; rw [← e, hgg] at this; simp at this
    · obtain ⟨es, clock, hx⟩ := h'.map.isMap
      rw [← e, hgg] at hx; cases hx
end
end Go.Proofs.YtoibdokedhbjpaaGreat
