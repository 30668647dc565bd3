/-
  What hold writes.
-/
import Derived.Test.YtbciedpjaajhcaaDoorX1
namespace Go.Proofs.YtbciedpjaajhcaaDoor.Ex
open Go.RowKit Go.Shelf

/-- Of the blocks that were there none is written but those of D. -/
structure Fr (D : Nat → Prop) (w w' : World) : Prop where
  os : w'.os = w.os
  tape : w'.tape = w.tape
  output : w'.output = w.output
  size : w.heap.size ≤ w'.heap.size
  block : ∀ j, j < w.heap.size → ¬ D j → w'.heap[j]? = w.heap[j]?
theorem Fr.refl (D : Nat → Prop) (w : World) : Fr D w w := ⟨rfl, rfl, rfl, Nat.le_refl _, fun _ _ _ => rfl⟩
theorem Fr.trans {D : Nat → Prop} {w w1 w2 : World} (h : Fr D w w1) (k : Fr D w1 w2) : Fr D w w2 :=
  ⟨k.os.trans h.os, k.tape.trans h.tape, k.output.trans h.output, Nat.le_trans h.size k.size, fun j hj hD => (k.block j (Nat.lt_of_lt_of_le hj h.size) hD).trans (h.block j hj hD)⟩
theorem Fr.mono {D D' : Nat → Prop} {w w' : World} (h : Fr D w w') (hD : ∀ j, j < w.heap.size → D j → D' j) : Fr D' w w' := ⟨h.os, h.tape, h.output, h.size, fun j hj hn => h.block j hj (fun e => hn (hD j hj e))⟩
theorem Fr.of_below {D : Nat → Prop} {w w' : World} (h : Below w.heap.size w w') : Fr D w w' := ⟨h.os, h.tape, h.output, h.size, fun j hj _ => h.block j hj⟩
theorem Fr.set {D : Nat → Prop} (b i : Nat) (w : World) (x : Value) (hD : D b) : Fr D w (w.setCell ⟨b, i, none⟩ x) :=
  ⟨rfl, rfl, rfl, by rw [size_set]; exact Nat.le_refl _, fun j _ hn => Below.heap_setCell _ _ _ _ (fun e => hn (e ▸ hD))⟩
theorem Fr.alloc {D : Nat → Prop} (w : World) (o : Obj) : Fr D w (w.alloc o) := .of_below ((Below.refl _ _).alloc (Nat.le_refl _) _)
theorem Fr.drewN {D : Nat → Prop} (w : World) (n : Nat) : Fr D w (w.drewN n) := .of_below (below_drewN (Below.refl _ _) n)
theorem Fr.drew {D : Nat → Prop} (w : World) : Fr D w w.drew := ⟨rfl, rfl, rfl, Nat.le_refl _, fun _ _ _ => rfl⟩
theorem Fr.grown {D : Nat → Prop} {w w' : World} {v : Value} (h : w.grownBy w' v.ownBlock) (hD : ∀ g, v.ownBlock = some g → D g) : Fr D w w' :=
  ⟨h.os, h.tape, h.output, h.size, fun j hj hn => h.block j hj (fun e => hn (hD j e.symm))⟩
theorem Fr.below {D : Nat → Prop} {w w' : World} {base : Nat} (h : Fr D w w') (hb : base ≤ w.heap.size) (hD : ∀ j, D j → base ≤ j) : Below base w w' :=
  ⟨h.os, h.tape, h.output, h.size, fun j hj => h.block j (by omega) (fun e => by have := hD j e; omega)⟩
theorem row_fr {D : Nat → Prop} {w w' : World} {base n k : Nat} {v : Value} {e : TypeId} {xs : List Value} (h : w.ownsRow base e k v n xs) (hf : Fr D w w') (hD : ∀ g, v.ownBlock = some g → ¬ D g) : w'.ownsRow base e k v n xs := by
  refine ⟨h.1, ?_⟩
  rcases h.2 with h0 | ⟨g, cap, cur, hv, hg, hgg, rest⟩
  · exact .inl h0
  · refine .inr ⟨g, cap, cur, hv, hg, ?_, rest⟩
    rw [hf.block g (Array.getElem?_eq_some_iff.1 hgg).1 (hD g (by rw [hv]; rfl))]
    exact hgg
theorem row_has {w : World} {base n k : Nat} {v : Value} {e : TypeId} {xs : List Value} (h : w.ownsRow base e k v n xs) : ∀ g, v.ownBlock = some g → base ≤ g ∧ g < w.heap.size := fun g hg => h.lt g hg

theorem step_append_own {P : Program} (w : World) {ops : Array Oper} {o : Oper} {a : Go.Act} {K : Go.Act → World → Prop} {Q : Exit → Go.Act → World → Prop} {E : Prop} (hgd : o.guard = none) (s x : Operand) (t : TypeId)
    (ho : o.op = .call { callee := .builtin .append, args := #[s, x], argTypes := #[t, t] })
    (base : Nat) (e : TypeId) (i : TypeInfo) (z : Value) (size bytes : Nat) (ht : P.underlying t = some (.slice e)) (hi : P.info? e = some i) (hz : i.zero = some z)
    (hsize : i.size = size) (hby : i.bytes = bytes) (hzs : z.cells.size = size) (hsz : 0 < size)
    (v : Value) (n : Nat) (xs : List Value) (hs : a.eval s = v) (hown : w.ownsRow base e size v n xs)
    (ad : Addr) (m c : Nat) (news : List Value) (hx : a.eval x = .slice (some ad) m c) (hl : news.length = m * size) (hnews : ∀ j u, news[j]? = some u → w.cell? (ad.add j) = some u) (h1 : ∀ u ∈ news, u.oneCell' = true)
    (h63 : n + m ≤ maxLen) (hbytes : (n + m) * bytes ≤ 140737488355328) (hbase : base ≤ w.heap.size)
    (h : ∀ v' w', w'.ownsRow base e size v' (n + m) (xs ++ news) → w.grownBy w' v.ownBlock → K (a.put o.dst v') w') :
    if Region.wanted o (yielded ops a.tmps) = true then Oper.wp P o a w K Q else E := by
  have hw : Region.wanted o (yielded ops a.tmps) = true := by simp [Region.wanted, hgd]
  rw [if_pos hw]
  exact wp_append_own w s x t ho base e i z size bytes ht hi hz hsize hby hzs hsz v n xs hs hown ad m c news hx hl hnews h1 h63 hbytes hbase fun v' w' h2 h3 _ => h v' w' h2 h3

/-- What hold is called at: the scanner's block, and the dollar's own. -/
structure HoldIn (base b bd : Nat) (s : ByteArray) (pos : Nat) (vf vo : Value) (nf no : Nat) (xo : List Value) (x : Fin 6 → Value) (w : World) : Prop where
  blk : w.heap[b]? = some (.cells #[.string s, .int .i64 (pos : Int), vf, vo] 121 (0, 0))
  box : w.heap[bd]? = some (.cells #[x 0, x 1, x 2, x 3, x 4, x 5] 142 (0, 0))
  ro : w.ownsRow base 147 4 vo no xo
  vf : ∃ a c, vf = .slice a nf c
  hb : base ≤ w.heap.size

set_option maxRecDepth 20000 in
set_option maxHeartbeats 1000000 in
theorem hold_any (base b bd : Nat) (s : ByteArray) (pos : Nat) (vf vo : Value) (nf no : Nat) (xo : List Value) (x : Fin 6 → Value) (o c : Nat) (w : World) (h : HoldIn base b bd s pos vf vo nf no xo x w) (hno : no ≤ 10000000) :
    Calls Tryd.prog 89 #[.pointer (some ⟨b, 0, none⟩), .int .u8 (o : Int), .int .u8 (c : Int), .pointer (some ⟨bd, 0, none⟩)] w fun e w' => e = .returned (.tuple #[]) ∧
      ∃ vo', w'.heap[b]? = some (.cells #[.string s, .int .i64 (pos : Int), vf, vo'] 121 (0, 0)) ∧ w'.heap[bd]? = some (.cells #[x 0, .int .i64 0, .int .i64 (pos : Int), x 3, x 4, x 5] 142 (0, 0)) ∧
        w'.ownsRow base 147 4 vo' (no + 1) (xo ++ [.int .i64 (nf : Int), .int .u8 (o : Int), .int .u8 (c : Int), .int .i64 0]) ∧ Fr (fun j => j = b ∨ j = bd ∨ vo.ownBlock = some j) w w' := by
  obtain ⟨i0, hi, hz0, hz1, hz2⟩ := info_of infoB
  obtain ⟨av, cv, rfl⟩ := h.vf
  obtain ⟨ao, co, rfl⟩ := V.owns_slice h.ro
  have hbb : b ≠ bd := fun e => by have h1 := h.blk; rw [e, h.box] at h1; simp at h1
  have hob : (Value.slice ao no co).ownBlock ≠ some b := row_ne' h.ro h.blk (by decide)
  have hod : (Value.slice ao no co).ownBlock ≠ some bd := row_ne' h.ro h.box (by decide)
  have d1 : w.cell? ⟨bd, 1, none⟩ = some (x 1) := V.cell_in h.box 1 rfl
  have d2 : w.cell? ⟨bd, 2, none⟩ = some (x 2) := V.cell_in h.box 2 rfl
  have fd : ∀ i, w.frozen? ⟨bd, i, none⟩ = false := fun i => by simp [World.frozen?, h.box]
  have f1 := fd 1
  have f2 := fd 2
  have c1 : w.cell? ⟨b, 1, none⟩ = some (.int .i64 (pos : Int)) := V.cell_in h.blk 1 rfl
  have HH : Hid (HoldIn base b bd s pos (.slice av nf cv) (.slice ao no co) nf no xo x w ∧ b ≠ bd ∧ (Value.slice ao no co).ownBlock ≠ some b ∧ (Value.slice ao no co).ownBlock ≠ some bd) := ⟨h, hbb, hob, hod⟩
  clear h hob hod fd
  go_enter Tryd.func89, Tryd.ntmps89
  go_wp2_with fail
  obtain ⟨w1, hw1⟩ : ∃ w1, w1 = (w.setCell ⟨bd, 1, none⟩ (.int .i64 0)).setCell ⟨bd, 2, none⟩ (.int .i64 (pos : Int)) := ⟨_, rfl⟩
  rw [← hw1]
  have HW : Hid (w1.heap[b]? = some (.cells #[.string s, .int .i64 (pos : Int), .slice av nf cv, .slice ao no co] 121 (0, 0)) ∧ w1.heap[bd]? = some (.cells #[x 0, .int .i64 0, .int .i64 (pos : Int), x 3, x 4, x 5] 142 (0, 0)) ∧ w1.ownsRow base 147 4 (.slice ao no co) no xo ∧ Fr (fun j => j = b ∨ j = bd ∨ (Value.slice ao no co).ownBlock = some j) w w1 ∧ base ≤ w1.heap.size) := by
    obtain ⟨h, h1, h2, h3⟩ := HH.out
    rw [hw1]
    refine ⟨?_, ?_, row_set (row_set h.ro h3 _) h3 _, (Fr.set bd 1 w _ (.inr (.inl rfl))).trans (Fr.set bd 2 _ _ (.inr (.inl rfl))), by rw [size_set, size_set]; exact h.hb⟩
    · rw [Below.heap_setCell _ _ _ _ h1, Below.heap_setCell _ _ _ _ h1]; exact h.blk
    · exact heap_set (heap_set h.box _) _
  clear hw1 d1 d2 f1 f2 c1
  have e2 : w1.cell? ⟨b, 2, none⟩ = some (.slice av nf cv) := V.cell_in HW.out.1 2 rfl
  have e3 : w1.cell? ⟨b, 3, none⟩ = some (.slice ao no co) := V.cell_in HW.out.1 3 rfl
  have g3 : w1.frozen? ⟨b, 3, none⟩ = false := by simp [World.frozen?, HW.out.1]
  have hro := HW.out.2.2.1
  have hbs := HW.out.2.2.2.2
  have hbl : b < w1.heap.size := (Array.getElem?_eq_some_iff.1 HW.out.1).1
  have HG : Hid (∀ (w2 : World) (o2 : Obj), (w1.drew.alloc o2).grownBy w2 (Value.slice ao no co).ownBlock → w2.heap[b]? = some (.cells #[.string s, .int .i64 (pos : Int), .slice av nf cv, .slice ao no co] 121 (0, 0)) ∧ w2.heap[bd]? = some (.cells #[x 0, .int .i64 0, .int .i64 (pos : Int), x 3, x 4, x 5] 142 (0, 0))) := by
    intro w2 o2 hgr
    obtain ⟨_, _, h2, h3⟩ := HH.out
    have l1 : b < w1.heap.size := (Array.getElem?_eq_some_iff.1 HW.out.1).1
    have l2 : bd < w1.heap.size := (Array.getElem?_eq_some_iff.1 HW.out.2.1).1
    have hf : Fr (fun j => (Value.slice ao no co).ownBlock = some j) w1 w2 := ((Fr.drew _).trans (Fr.alloc _ o2)).trans (Fr.grown hgr (fun g hg => hg))
    exact ⟨(hf.block b l1 h2).trans HW.out.1, (hf.block bd l2 h3).trans HW.out.2.1⟩
  go_region_law (first | (refine step_append_own _ (by rfl) (.tmp 24) (.tmp 33) 119 (by rfl) base 147 i0 (.agg #[.int .i64 0, .int .u8 0, .int .u8 0, .int .i64 0]) 4 24 Tryd.underlying119 hi hz0 hz1 hz2 rfl (by decide) (.slice ao no co) no xo (by rfl) (hro.kept (row := none) ⟨rfl, rfl, rfl, by simp, fun k hk _ => Below.heap_alloc _ _ _ hk⟩ (Classical.em _)) ⟨w1.heap.size, 0, none⟩ 1 1 [.int .i64 (nf : Int), .int .u8 (o : Int), .int .u8 (c : Int), .int .i64 0] (by rfl) rfl (by intro j u hj; match j, hj with | 0, hj => simp at hj; subst hj; simp [Addr.add] | 1, hj => simp at hj; subst hj; simp [Addr.add] | 2, hj => simp at hj; subst hj; simp [Addr.add] | 3, hj => simp at hj; subst hj; simp [Addr.add]) (by intro u hu; simp only [List.mem_cons, List.not_mem_nil, or_false] at hu; rcases hu with rfl | rfl | rfl | rfl <;> rfl) (by unfold maxLen; omega) (by omega) (by simp; omega) ?_; intro v' w2 hown hgr; obtain ⟨a2, c2, hv2⟩ := V.owns_slice hown; subst hv2; have hfr : Fr (fun j => j = b ∨ j = bd ∨ (Value.slice ao no co).ownBlock = some j) w1 w2 := ((Fr.drew _).trans (Fr.alloc _ _)).trans (Fr.grown hgr (fun g hg => .inr (.inr hg))); obtain ⟨y1, y2⟩ := HG.out w2 _ hgr; have k3 : w2.cell? ⟨b, 3, none⟩ = some (.slice ao no co) := V.cell_in y1 3 rfl; have g4 : w2.frozen? ⟨b, 3, none⟩ = false := (by simp [World.frozen?, y1])))
  all_goals
    go_wp2
    go_end0
    refine ⟨rfl, .slice a2 (no + 1) c2, heap_set y1 _, ?_, row_set hown ?_ _, (HW.out.2.2.2.1.trans hfr).trans (Fr.set b 3 _ _ (.inl rfl))⟩
    · rw [Below.heap_setCell _ _ _ _ (Ne.symm HH.out.2.1)]; exact y2
    · exact row_ne' hown y1 (by decide)
end Go.Proofs.YtbciedpjaajhcaaDoor.Ex
