/-
  What a call that writes leaves of a store: a clock that has gone on, an entry that is set or struck, a note more.
-/
import Derived.Test.YtoibdokedhbjpaaGreatPlace
import Derived.Maps.AppendAt
namespace Go.Proofs.YtoibdokedhbjpaaGreat
open Go.RowKit Go.Shelf Go.Maps

theorem heap_set {w : World} {b i : Nat} {cs : Array Value} {T : TypeId} (h : w.heap[b]? = some (.cells cs T (0, 0))) (x : Value) : (w.setCell ⟨b, i, none⟩ x).heap[b]? = some (.cells (cs.setIfInBounds i x) T (0, 0)) := by
  simp [World.setCell, Array.getElem?_modify, h]
theorem size_set (w : World) (a : Addr) (x : Value) : (w.setCell a x).heap.size = w.heap.size := by simp [World.setCell]
theorem Turn.drew {b m : Nat} {v v' : Value} {w w' : World} (h : Turn b m v v' w w') : Turn b m v v' w w'.drew := ⟨h.os, h.tape, h.output, h.size, h.block, h.own⟩
theorem Turn.set (b m : Nat) (v : Value) (w : World) (i : Nat) (x : Value) : Turn b m v v w (w.setCell ⟨b, i, none⟩ x) :=
  ⟨rfl, rfl, rfl, by rw [size_set]; exact Nat.le_refl _, fun j _ hb _ _ => Below.heap_setCell _ _ _ _ hb, fun _ hg => .inl hg⟩
theorem Turn.map {b m : Nat} {v : Value} {w w' : World} (h : w.grownBy w' (some m)) : Turn b m v v w w' :=
  ⟨h.os, h.tape, h.output, h.size, fun j hj _ hm _ => h.block j hj (fun e => hm (Option.some.inj e)), fun _ hg => .inl hg⟩

section
variable {base b m : Nat} {v : Value} {s : St} {w : World}
theorem Store.drew (h : Store base b m v s w) : Store base b m v s w.drew := ⟨h.blk, h.map, h.row, h.hb, h.hm, h.ok⟩
theorem row_set {e : TypeId} {k n : Nat} {xs : List Value} {i : Nat} (h : w.ownsRow base e k v n xs) (hb : v.ownBlock ≠ some b) (x : Value) : (w.setCell ⟨b, i, none⟩ x).ownsRow base e k v n xs := by
  refine ⟨h.1, ?_⟩
  rcases h.2 with h0 | ⟨g, cap, cur, hv, hg, hgg, rest⟩
  · exact .inl h0
  · refine .inr ⟨g, cap, cur, hv, hg, ?_, rest⟩
    rw [Below.heap_setCell _ _ _ _ (fun e => hb (by rw [hv, e]; rfl))]
    exact hgg
theorem Store.clock (h : Store base b m v s w) (x : Int) (hx : s.now ≤ x) : Store base b m v { s with now := x } (w.setCell ⟨b, 2, none⟩ (.int .i64 x)) := by
  refine ⟨heap_set h.blk _, h.map.of_block (Below.heap_setCell _ _ _ _ (Ne.symm h.bm)), row_set h.row h.vb _, h.hb, h.hm, ?_⟩
  have o := h.ok
  exact ⟨o.room0, o.room1, Int.le_trans o.now0 hx, o.uniq, o.len, o.used, o.path, fun y hy => Int.le_trans (o.time y hy) hx, o.note⟩
theorem Store.begin (h : Store base b m v s w) (f : Bool) : Store base b m (.slice none 0 0) (s.tell f) ((w.setCell ⟨b, 5, none⟩ (.slice none 0 0)).setCell ⟨b, 4, none⟩ (.bool f)) := by
  have h1 : (w.setCell ⟨b, 5, none⟩ (.slice none 0 0)).heap[b]? = some (.cells ((cellsOf s m v).setIfInBounds 5 (.slice none 0 0)) 68 (0, 0)) := heap_set h.blk _
  refine ⟨heap_set h1 _, h.map.of_block ?_, World.ownsRow_nil _ _ _ _, h.hb, h.hm, ?_⟩
  · rw [Below.heap_setCell _ _ _ _ (Ne.symm h.bm), Below.heap_setCell _ _ _ _ (Ne.symm h.bm)]
  · have o := h.ok
    exact ⟨o.room0, o.room1, o.now0, o.uniq, o.len, o.used, o.path, o.time, by simp [St.tell]⟩
/-- An entry is set. -/
theorem Store.put (h : Store base b m v s w) {q : ByteArray} (hq : q.size ≤ 140737488355328) (e : Ent) (hok : St.Ok { s with L := s.L.set q e }) :
    ∃ w', (Instr.mapUpdate 61 (.map (some m)) (.string q) (entV e)).run Tryz.prog w = .ok () w' ∧ Store base b m v { s with L := s.L.set q e } w' ∧ Turn b m v v w w' := by
  obtain ⟨D, hown, hR⟩ := h.map
  have hl := h.ok.len
  obtain ⟨w', hrun, hown', ht⟩ := hown.store keyed9 Tryz.underlying61 (by unfold maxLen; omega) (WideMaps.keyOf_string_mk (P := Tryz.prog) Tryz.underlying9 (s := q) (by unfold maxLen; omega)) (entR_mk e)
  have hg := ht.grown
  have hR' := hR.put (hown.tidy keyed9) q e
  refine ⟨w', hrun, ⟨(hg.block b h.lt (fun e => h.bm (Option.some.inj e))).trans h.blk, ⟨_, ownsMap_exact hown' hR'.size, hR'⟩, ?_, h.hb, h.hm, hok⟩, Turn.map hg⟩
  exact h.row.kept hg (.inr h.vm)
/-- An entry is struck. -/
theorem Store.del (h : Store base b m v s w) {q : ByteArray} (hq : q.size ≤ 140737488355328) (hok : St.Ok { s with L := s.L.del q }) (ty : TypeId) :
    ∃ w', (Builtin.delete_ #[61, 9] ty #[.map (some m), .string q]).run Tryz.prog w = .ok (.tuple #[]) w' ∧ Store base b m v { s with L := s.L.del q } w' ∧ Turn b m v v w w' := by
  obtain ⟨D, hown, hR⟩ := h.map
  obtain ⟨w', hrun, hown', ht⟩ := hown.drop keyed9 Tryz.underlying61 (WideMaps.keyOf_string_mk (P := Tryz.prog) Tryz.underlying9 (s := q) (by unfold maxLen; omega)) ty
  have hg := ht.grown
  have hR' := hR.del (hown.tidy keyed9) q
  refine ⟨w', hrun, ⟨(hg.block b h.lt (fun e => h.bm (Option.some.inj e))).trans h.blk, ⟨_, ownsMap_exact hown' hR'.size, hR'⟩, ?_, h.hb, h.hm, hok⟩, Turn.map hg⟩
  exact h.row.kept hg (.inr h.vm)
end

theorem ok_set {s : St} (o : s.Ok) {q : ByteArray} {e : Ent} (hw : wh q = some q) (hs : q.size ≤ 1100000) (ht : e.time ≤ s.now) (hl : (s.L.look q).isSome = true ∨ s.L.length < 512) (hu : ((s.L.set q e).used : Int) ≤ s.room) : St.Ok { s with L := s.L.set q e } := by
  refine ⟨o.room0, o.room1, o.now0, Fs.uniq_set o.uniq q e, ?_, hu, fun x hx => ?_, fun x hx => ?_, o.note⟩
  · have := o.len
    show (s.L.set q e).length ≤ 512
    rw [Fs.length_set]
    split
    · exact this
    · rcases hl with hl | hl
      · contradiction
      · omega
  · rcases Fs.mem_set hx with rfl | hx
    · exact ⟨hw, hs⟩
    · exact o.path x hx
  · rcases Fs.mem_set hx with rfl | hx
    · exact ht
    · exact o.time x hx
theorem ok_del {s : St} (o : s.Ok) (q : ByteArray) : St.Ok { s with L := s.L.del q } := by
  have h1 := Fs.length_del o.uniq q
  have h2 := Fs.used_del o.uniq q
  have h3 := o.len
  have h4 := o.used
  refine ⟨o.room0, o.room1, o.now0, Fs.uniq_del o.uniq q, ?_, ?_, fun x hx => o.path x (Fs.mem_del hx).1, fun x hx => o.time x (Fs.mem_del hx).1, o.note⟩
  · show (s.L.del q).length ≤ 512; omega
  · show ((s.L.del q).used : Int) ≤ s.room; omega
theorem ok_now {s : St} (o : s.Ok) {x : Int} (hx : s.now ≤ x) : St.Ok { s with now := x } :=
  ⟨o.room0, o.room1, Int.le_trans o.now0 hx, o.uniq, o.len, o.used, o.path, fun y hy => Int.le_trans (o.time y hy) hx, o.note⟩

theorem infoT : (Tryz.prog.info? 74).map (fun i => (i.zero, i.size, i.bytes)) = some (some (.agg #[.int .i64 0, .string ⟨#[]⟩]), 2, 24) := by kernel_rfl

set_option maxRecDepth 20000 in
set_option maxHeartbeats 1000000 in
theorem note_any {base b m : Nat} {v : Value} {s : St} (k : Int) (q : ByteArray) (w : World) (h : Store base b m v s w) :
    Calls Tryz.prog 49 #[ptr b, .int .i64 k, .string q] w fun e w' => e = .returned (.tuple #[]) ∧ ∃ v', Store base b m v' (s.note k q) w' ∧ Turn b m v v' w w' := by
  obtain ⟨i0, hi, hz0, hz1, hz2⟩ := info_parts infoT
  have c4 := h.c4
  have c5 := h.c5
  have HS : Hid (Store base b m v s w) := h
  have hrow := h.row
  have hbs : base ≤ w.heap.size := by have := h.lt; have := h.hb; omega
  have hbl := h.lt
  have hvb := h.vb
  have hvm := h.vm
  cases hn : s.noting with
  | false =>
    have HN : Hid (s.note k q = s) := by unfold Hid St.note; rw [hn]; rfl
    rw [hn] at c4
    clear hrow h hn hvb hvm
    go_enter Tryz.func49, Tryz.ntmps49
    go_wp2
    go_end0
    exact ⟨rfl, v, by rw [HN.out]; exact HS.out, Turn.refl _ _ _ _⟩
  | true =>
    rw [hn] at c4
    obtain ⟨n, hnl⟩ : ∃ n, n = s.notes.length := ⟨_, rfl⟩
    have hn4 := h.ok.note
    rw [← hnl] at hrow hn4
    have hsl : ∃ a cap, v = .slice a n cap := by
      rcases hrow.2 with ⟨rfl, rfl⟩ | ⟨g, cap, cur, rfl, _⟩
      · exact ⟨_, _, rfl⟩
      · exact ⟨_, _, rfl⟩
    obtain ⟨a, cap, rfl⟩ := hsl
    have HL : Hid (n = s.notes.length ∧ s.noting = true) := ⟨hnl, hn⟩
    clear hn hnl h
    by_cases hlt : n < 4096
    · have HN : Hid (s.note k q = { s with notes := s.notes ++ [(k, q)] }) := by
        unfold Hid St.note; rw [HL.out.2, ← HL.out.1]; simp [hlt]
      have hil : (n : Int) < 4096 := by omega
      go_enter Tryz.func49, Tryz.ntmps49
      go_wp2_with (first | (at_builtin; refine wpList_append_own_at _ rfl _ _ 28 rfl base 74 i0 (.agg #[.int .i64 0, .string ⟨#[]⟩]) 2 24 Tryz.underlying28 hi hz0 hz1 hz2 rfl (by decide) _ _ _ rfl (hrow.alloc _) ⟨w.heap.size, 0, none⟩ 1 1 [.int .i64 k, .string q] rfl rfl ?c1 ?c2 ?c3 ?c4 ?c5 ?_) | go_in)
      case c1 =>
        intro j u hj
        match j, hj with
        | 0, hj => simp at hj; subst hj; simp [Addr.add]
        | 1, hj => simp at hj; subst hj; simp [Addr.add]
      case c2 => intro u hu; simp at hu; rcases hu with rfl | rfl <;> rfl
      case c3 => unfold maxLen; omega
      case c4 => omega
      case c5 => simp; omega
      intro v0 w3 hown' hgrow _ hloc
      obtain ⟨g', cap', hv0⟩ : ∃ g' cap', v0 = .slice (some ⟨g', 0, none⟩) (n + 1) cap' := by
        rcases hown'.2 with ⟨_, h0⟩ | ⟨g', cap', cur', hv', _⟩
        · omega
        · exact ⟨g', cap', hv'⟩
      subst hv0
      have hb3 : w3.heap[b]? = w.heap[b]? := by
        rw [hgrow.block b (by simp; omega) (fun e => hvb e.symm)]; exact Below.heap_alloc _ _ _ hbl
      have hm3 : w3.heap[m]? = w.heap[m]? := by
        have := HS.out.ltm
        rw [hgrow.block m (by simp; omega) (fun e => hvm e.symm)]; exact Below.heap_alloc _ _ _ this
      have hbk : w3.heap[b]? = some (.cells (cellsOf s m (.slice a n cap)) 68 (0, 0)) := hb3.trans HS.out.blk
      have d5 : w3.cell? ⟨b, 5, none⟩ = some (.slice a n cap) := by simp only [World.cell?, hbk]; rfl
      have f5 : w3.frozen? ⟨b, 5, none⟩ = false := by simp [World.frozen?, hbk]
      have hs3 := hgrow.size
      have HT : Hid (Turn b m (.slice a n cap) (.slice (some ⟨g', 0, none⟩) (n + 1) cap') w w3) := by
        refine ⟨hgrow.os, hgrow.tape, hgrow.output, by simp at hs3; omega, fun j hj _ _ hv => ?_, fun g hg => ?_⟩
        · rw [hgrow.block j (by simp; omega) (fun e => hv e.symm)]; exact Below.heap_alloc _ _ _ hj
        · rcases hloc with e | e
          · exact .inl (e ▸ hg)
          · rw [e] at hg; have := Option.some.inj hg; exact .inr (by first | omega | (simp at this; omega))
      have HO : Hid (w3.ownsRow base 74 2 (.slice (some ⟨g', 0, none⟩) (n + 1) cap') (s.notes ++ [(k, q)]).length (notesV (s.notes ++ [(k, q)]))) := by
        unfold Hid notesV
        rw [List.flatMap_append, List.length_append, ← HL.out.1]
        exact hown'
      have HB : Hid (w3.heap[b]? = some (.cells (cellsOf s m (.slice a n cap)) 68 (0, 0)) ∧ w3.heap[m]? = w.heap[m]?) := ⟨hbk, hm3⟩
      clear hown' hgrow hloc hb3 hm3 hbk hs3 hrow c4 c5
      go_wp2
      go_end0
      refine ⟨rfl, .slice (some ⟨g', 0, none⟩) (n + 1) cap', ?_, HT.out.trans (Turn.set _ _ _ _ _ _)⟩
      have hvb' : (Value.slice (some ⟨g', 0, none⟩) (n + 1) cap').ownBlock ≠ some b := fun e => by
        obtain ⟨cur, hc⟩ := row_type HO.out e
        have := HB.out.1
        rw [hc] at this; simp at this
      rw [HN.out]
      have o := HS.out.ok
      refine ⟨heap_set HB.out.1 _, HS.out.map.of_block ?_, row_set HO.out hvb' _, HS.out.hb, HS.out.hm, ⟨o.room0, o.room1, o.now0, o.uniq, o.len, o.used, o.path, o.time, ?_⟩⟩
      · rw [Below.heap_setCell _ _ _ _ (Ne.symm HS.out.bm)]; exact HB.out.2
      · show (s.notes ++ [(k, q)]).length ≤ 4096
        rw [List.length_append, ← HL.out.1]; simp; omega
    · have HN : Hid (s.note k q = s) := by unfold Hid St.note; rw [HL.out.2, ← HL.out.1]; simp [hlt]
      have hil : ¬ (n : Int) < 4096 := by omega
      clear hrow hvb hvm
      go_enter Tryz.func49, Tryz.ntmps49
      go_wp2
      go_end0
      exact ⟨rfl, _, by rw [HN.out]; exact HS.out, Turn.refl _ _ _ _⟩
end Go.Proofs.YtoibdokedhbjpaaGreat
