/-
  Sets of texts (maps whose elements say nothing); rows of a search in memory.
-/
import Derived.Test.YtfcoihklihkngaaS6
import Derived.Maps.Ext
import Derived.Maps.OwnSet
import Derived.Maps.AppendAt
namespace Go.Proofs.Ytfcoihklihkngaa
open Go.RowKit Go.Shelf Go.Maps

abbrev setV : Value := .agg #[]
def setD : DataW Unit := .agg []
def setR : Value → Option (DataW Unit × List MemPlace)
  | .agg cs => match cs.toList with
    | [] => some (setD, [])
    | _ => none
  | _ => none
theorem setR_mk : setR setV = some (setD, []) := rfl
theorem setR_inv {v : Value} {y : DataW Unit × List MemPlace} (h : setR v = some y) : v = setV := by
  unfold setR at h
  split at h
  · rename_i cs
    split at h
    · rename_i hc
      unfold setV
      rw [← Array.toArray_toList (xs := cs), hc]
    · cases h
  · cases h
abbrev keyL (q : ByteArray) : Lit := .string (bl q)
theorem key_isLit (q : ByteArray) : WideAt.IsKeyLit (keyL q) := trivial
theorem keyL_ne {p q : ByteArray} (h : p ≠ q) : keyL p ≠ keyL q := fun e => h (bl_inj (by simpa [keyL] using e))
/-- Block m is a map; f tells which texts are its keys; at most n of them. -/
def SetF (w : World) (m : Nat) (f : S.Tx → Bool) (n : Nat) : Prop := ∃ D, w.ownsMap Try.prog 9 setR m n D ∧ ∀ q : ByteArray, Maps.has D (keyL q) = f (bl q)
theorem keyed9 : Keyed Try.prog 9 := string_keyed Try.underlying9
section
variable {w w' : World} {m n : Nat} {f : S.Tx → Bool}
theorem SetF.of_block (h : SetF w m f n) (e : w'.heap[m]? = w.heap[m]?) : SetF w' m f n := by
  obtain ⟨D, ⟨es, clock, hb, r⟩, hR⟩ := h
  exact ⟨D, ⟨es, clock, e.trans hb, r⟩, hR⟩
theorem SetF.lt (h : SetF w m f n) : m < w.heap.size := by obtain ⟨D, h, _⟩ := h; exact h.lt
theorem SetF.empty {clock : Nat} (hb : w.heap[m]? = some (.map #[] clock)) : SetF w m (fun _ => false) 0 :=
  ⟨.map [], ⟨#[], clock, hb, ⟨by simp, MapKept.stamped_empty clock, by simp⟩, Nat.le_refl _, rfl⟩, fun q => rfl⟩
theorem keyOf_str {q : ByteArray} (hq : q.size ≤ 9223372036854775807) : keyOf Try.prog 9 (.string q) = some (keyL q) := Go.WideMaps.keyOf_string_mk (P := Try.prog) Try.underlying9 (s := q) (by unfold maxLen; omega)
theorem SetF.see (h : SetF w m f n) {q : ByteArray} (hq : q.size ≤ 9223372036854775807) (W : World) (hW : W.heap[m]? = w.heap[m]?) :
    (Instr.lookup 41 (.map (some m)) (.string q) true).run Try.prog W = .ok (.tuple #[setV, .bool (f (bl q))]) W := by
  obtain ⟨D, hown, hR⟩ := h.of_block hW
  obtain ⟨v, ps, hrun, hv⟩ := hown.look_ok keyed9 Try.underlying41 (Try.zeroValue42 W) setR_mk (keyOf_str hq)
  obtain rfl := setR_inv hv
  rw [hrun, hR q]
structure Turned (m : Nat) (w w' : World) : Prop where
  os : w'.os = w.os
  tape : w'.tape = w.tape
  output : w'.output = w.output
  size : w'.heap.size = w.heap.size
  block : ∀ j, j ≠ m → w'.heap[j]? = w.heap[j]?
theorem turned_of (h : w.mapTurned w' m) : Turned m w w' := by
  obtain ⟨es, clock, es', clock', hb, rfl⟩ := h
  exact ⟨rfl, rfl, rfl, by simp [ChangeMaps.setBlock], fun j hj => ChangeMaps.heap_setBlock_other hb _ hj⟩
theorem Turned.below {m B : Nat} {w w' : World} (h : Turned m w w') (hm : B ≤ m) : Below B w w' := ⟨h.os, h.tape, h.output, Nat.le_of_eq h.size.symm, fun j hj => h.block j (by omega)⟩
theorem SetF.put (h : SetF w m f n) (hl : n ≤ 1000000) {q : ByteArray} (hq : q.size ≤ 9223372036854775807) :
    ∃ w', (Instr.mapUpdate 41 (.map (some m)) (.string q) setV).run Try.prog w = .ok () w' ∧ SetF w' m (fun t => f t || t == bl q) (n + 1) ∧ Turned m w w' := by
  obtain ⟨D, hown, hR⟩ := h
  obtain ⟨w', hrun, h1, h2⟩ := hown.store keyed9 Try.underlying41 (by unfold maxLen; omega) (keyOf_str hq) setR_mk
  refine ⟨w', hrun, ⟨_, h1, fun p => ?_⟩, turned_of h2⟩
  have ht := hown.tidy keyed9
  by_cases hp : p = q
  · subst hp; rw [has_put_same ht.isMap (key_isLit p)]; simp
  · rw [has_put_other (keyL_ne hp), hR p]
    have : (bl p == bl q) = false := by
      rw [← Bool.not_eq_true, beq_iff_eq]; exact fun e => hp (bl_inj e)
    show f (bl p) = (f (bl p) || bl p == bl q)
    rw [this]; simp
theorem SetF.drop (h : SetF w m f n) (ty : TypeId) {q : ByteArray} (hq : q.size ≤ 9223372036854775807) :
    ∃ w', (Builtin.delete_ #[41, 9] ty #[.map (some m), .string q]).run Try.prog w = .ok (.tuple #[]) w' ∧ SetF w' m (fun t => f t && t != bl q) n ∧ Turned m w w' := by
  obtain ⟨D, hown, hR⟩ := h
  obtain ⟨w', hrun, h1, h2⟩ := hown.drop keyed9 Try.underlying41 (keyOf_str hq) ty
  refine ⟨w', hrun, ⟨_, h1, fun p => ?_⟩, turned_of h2⟩
  by_cases hp : p = q
  · subst hp; rw [has_del_same]; simp
  · rw [has_del_other (keyL_ne hp), hR p]
    have : (bl p != bl q) = true := by
      rw [bne_iff_ne]; exact fun e => hp (bl_inj e)
    show f (bl p) = (f (bl p) && bl p != bl q)
    rw [this]; simp
theorem SetF.congr (h : SetF w m f n) {g : S.Tx → Bool} (e : ∀ t, f t = g t) : SetF w m g n := by
  have : f = g := funext e
  rw [← this]; exact h
end
/-- A value that answers look-ups as f does, in every world that keeps the blocks below B. -/
def Looks (B : Nat) (w : World) (v : Value) (f : S.Tx → Bool) : Prop := ∀ W, Below B w W → ∀ q : ByteArray, q.size ≤ 9223372036854775807 → (Instr.lookup 41 v (.string q) true).run Try.prog W = .ok (.tuple #[setV, .bool (f (bl q))]) W
theorem looks_none (B : Nat) (w : World) : Looks B w (.map none) S.noW := fun W _ q hq => by
  rw [Maps.look_nil true keyed9 Try.underlying41 (Try.zeroValue42 W) (keyOf_str hq)]; rfl
theorem looks_set {B : Nat} {w : World} {m n : Nat} {f : S.Tx → Bool} (h : SetF w m f n) (hm : m < B) : Looks B w (.map (some m)) f := fun W hW _ hq => h.see hq W (hW.block m hm)
theorem Looks.below {B : Nat} {w w' : World} {v : Value} {f : S.Tx → Bool} (h : Looks B w v f) (hb : Below B w w') : Looks B w' v f := fun W hW => h W (below_trans hb hW (Nat.le_refl _))

theorem row_turned {w w' : World} {base m n k : Nat} {v : Value} {e : TypeId} {xs : List Value} (h : w.ownsRow base e k v n xs) (ht : Turned m w w') (hm : v.ownBlock ≠ some m) : w'.ownsRow base e k v n xs := by
  refine ⟨h.1, ?_⟩
  rcases h.2 with h0 | ⟨g, cap, cur, hv, hg, hgg, rest⟩
  · exact .inl h0
  · refine .inr ⟨g, cap, cur, hv, hg, ?_, rest⟩
    rw [ht.block g (fun e => hm (by rw [hv, e]; rfl))]; exact hgg
/-! Rows of a search. -/
def rowC (x : S.Row) : List Value := [.string (ba x.1), .int .i64 x.2]
def flat (l : List S.Row) : List Value := l.flatMap rowC
theorem rowC_len (x : S.Row) : (rowC x).length = 2 := rfl
theorem flat_len (l : List S.Row) : (flat l).length = l.length * 2 := fl_len rowC 2 rowC_len l
theorem flat_snoc (l : List S.Row) (x : S.Row) : flat (l ++ [x]) = flat l ++ rowC x := by unfold flat; rw [List.flatMap_append]; simp
theorem row_at {w : World} {base : Nat} {v : Value} {l : List S.Row} (h : w.ownsRow base 47 2 v l.length (flat l)) {k : Nat} {x : S.Row} (hx : l[k]? = some x) :
    ∃ g cap, v = .slice (some ⟨g, 0, none⟩) l.length cap ∧ g < w.heap.size ∧ l.length ≤ cap ∧ w.cell? ⟨g, k * 2, none⟩ = some (.string (ba x.1)) ∧ w.cell? ⟨g, k * 2 + 1, none⟩ = some (.int .i64 x.2) := by
  have hk := (List.getElem?_eq_some_iff.1 hx).1
  rcases row_src h with ⟨_, h2, _⟩ | ⟨g, cap, hv, hg, hcap, _, hc⟩
  · omega
  · refine ⟨g, cap, hv, hg, hcap, ?_, ?_⟩
    · have := hc (k * 2 + 0) (.string (ba x.1)) (by unfold flat; rw [fl_get rowC 2 rowC_len l k 0 x hx (by omega)]; rfl)
      rw [add_none] at this
      simpa using this
    · have := hc (k * 2 + 1) (.int .i64 x.2) (by unfold flat; rw [fl_get rowC 2 rowC_len l k 1 x hx (by omega)]; rfl)
      rw [add_none] at this
      simpa [Nat.add_assoc] using this
theorem infoStep : (Try.prog.info? 47).map (fun i => (i.zero, i.size, i.bytes)) = some (some (.agg #[.string ⟨#[]⟩, .int .i64 0]), 2, 24) := by kernel_rfl
theorem row_one (x : S.Row) : ∀ u ∈ rowC x, u.oneCell' = true := by
  intro u hu
  unfold rowC at hu
  simp at hu
  rcases hu with rfl | rfl <;> rfl
end Go.Proofs.Ytfcoihklihkngaa
