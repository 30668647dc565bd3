/-
  QA1 QA2
-/
import Derived.Test.YtpcpcfnmcfjomaaGreatDoorK31
import Derived.Test.YtpcpcfnmcfjomaaGreatDoorK32
import Derived.Test.YtpcpcfnmcfjomaaGreatDoorK33
import Derived.Lib.LaidTab
import Derived.Lib.ItoaNum
namespace Go.Proofs.YtpcpcfnmcfjomaaGreatDoor
open Go.RowKit Go.Shelf Go.Sort
def OwnW (base : Nat) (W : World) (v : Value) (l : List ByteArray) : Prop := (v = .slice none 0 0 ∧ l = []) ∨ ∃ g o c cur, v = .slice (some ⟨g, o, none⟩) l.length c ∧ base ≤ g ∧ W.heap[g]? = some (.cells cur 9 (0, 0)) ∧ l.length ≤ c ∧ o + c ≤ cur.size ∧ ∀ i (h : i < l.length), cur[o + i]? = some (.string l[i])
theorem OwnW.of_owns {base : Nat} {W : World} {v : Value} {l : List ByteArray} (h : W.ownsRow base 9 1 v l.length (l.map Value.string)) : OwnW base W v l := by
  obtain ⟨hx, ⟨rfl, hn⟩ | ⟨g, cap, cur, rfl, hg, hcur, hcap, hcm, hcs, hct⟩⟩ := h
  · exact .inl ⟨rfl, List.length_eq_zero_iff.1 hn⟩
  · refine .inr ⟨g, 0, cap, cur, rfl, hg, hcur, hcap, by omega, fun i hi => ?_⟩
    have h2 : (cur.toList.take (l.length * 1))[i]? = (l.map Value.string)[i]? := by rw [hct]
    rw [List.getElem?_take_of_lt (by omega)] at h2
    rw [Nat.zero_add, ← Array.getElem?_toList, h2]
    simp [List.getElem?_eq_getElem hi]
theorem OwnW.words {base : Nat} {W : World} {v : Value} {l : List ByteArray} (h : OwnW base W v l) : Words W.heap.size W v l := by
  rcases h with ⟨rfl, rfl⟩ | ⟨g, o, c, cur, rfl, hg, hcur, hc, ho, hcell⟩
  · exact ⟨none, 0, 0, rfl, rfl, fun i hi => by simp at hi⟩
  · refine ⟨_, l.length, c, rfl, rfl, fun i hi => ⟨g, o, rfl, (Array.getElem?_eq_some_iff.1 hcur).1, ?_⟩⟩
    simp only [World.cell?, hcur]
    simpa using hcell i hi
theorem OwnW.base {b b' : Nat} {W : World} {v : Value} {l : List ByteArray} (h : OwnW b W v l) (hb : b' ≤ b) : OwnW b' W v l := by
  rcases h with h | ⟨g, o, c, cur, h1, hg, rest⟩
  · exact .inl h
  · exact .inr ⟨g, o, c, cur, h1, Nat.le_trans hb hg, rest⟩
theorem OwnW.slice {base : Nat} {W : World} {v : Value} {l : List ByteArray} (h : OwnW base W v l) : ∃ a c, v = .slice a l.length c := by
  rcases h with ⟨rfl, rfl⟩ | ⟨g, o, c, cur, rfl, _⟩
  · exact ⟨none, 0, rfl⟩
  · exact ⟨_, c, rfl⟩
theorem OwnW.cap {base : Nat} {W : World} {a : Option Addr} {n c : Nat} {l : List ByteArray} (h : OwnW base W (.slice a n c) l) : n ≤ c := by
  rcases h with ⟨h, rfl⟩ | ⟨g, o, c, cur, h, _, _, hc, _⟩
  · simp only [Value.slice.injEq] at h; omega
  · simp only [Value.slice.injEq] at h; omega
theorem OwnW.nil {base : Nat} {W : World} : OwnW base W (.slice none 0 0) [] := .inl ⟨rfl, rfl⟩
theorem OwnW.own {base : Nat} {W : World} {v : Value} {l : List ByteArray} (h : OwnW base W v l) {j : Nat} (hj : v.ownBlock = some j) : base ≤ j ∧ ∃ cur, W.heap[j]? = some (.cells cur 9 (0, 0)) := by
  rcases h with ⟨rfl, _⟩ | ⟨g, o, c, cur, rfl, hg, hcur, _⟩
  · simp [Value.ownBlock] at hj
  · simp [Value.ownBlock] at hj
    subst hj
    exact ⟨hg, cur, hcur⟩
theorem OwnW.below {base : Nat} {W W' : World} {v : Value} {l : List ByteArray} (h : OwnW base W v l) (hb : Below W.heap.size W W') : OwnW base W' v l := by
  rcases h with h | ⟨g, o, c, cur, h1, hg, hcur, rest⟩
  · exact .inl h
  · exact .inr ⟨g, o, c, cur, h1, hg, (hb.block g (Array.getElem?_eq_some_iff.1 hcur).1).trans hcur, rest⟩
def Tz (W : World) : Prop := Lib.TabIs Tryz.prog W "internal/strconv.uint64pow10" .u64 Lib.pow10Tab
theorem glob3 : Tryz.prog.globalNamed "internal/strconv.uint64pow10" = some 3 := by kernel_rfl
theorem Tz.pos {w : World} (h : Tz w) : 3 < w.heap.size := by
  unfold Tz Lib.TabIs World.var? at h
  rw [glob3] at h
  simp only [Option.bind_some] at h
  cases hb : w.heap[(3 : Nat)]? with
  | none => rw [hb] at h; simp at h
  | some o => exact (Array.getElem?_eq_some_iff.1 hb).1
theorem Tz.below {w w' : World} {B : Nat} (h : Tz w) (hb : Below B w w') (hB : 3 < B) : Tz w' := by
  unfold Tz Lib.TabIs World.var? at h ⊢
  rw [glob3] at h ⊢
  simp only [Option.bind_some] at h ⊢
  rw [hb.block 3 hB]; exact h
def Gz (W : World) : Prop := Mx W ∧ Tz W
theorem Gz.below {w w' : World} (h : Gz w) (hb : Below w.heap.size w w') : Gz w' := ⟨h.1.below hb h.1.pos, h.2.below hb h.2.pos⟩
def ApD (v : Value) (m : Md) (j : Nat) : Prop := v.ownBlock = some j ∨ m.ex = some ⟨j, 0, none⟩
def ApPost (g : Option (List ByteArray)) (base : Nat) (v : Value) (m : Md) (u : Um) (lo : Nat) (w : World) (e : Ending) (w' : World) : Prop := X.Fr (ApD v m) w w' ∧ Fits m u lo w' ∧ match g with
    | none => ∃ v', e = .returned (.tuple #[v', .bool false])
    | some r => ∃ v', e = .returned (.tuple #[v', .bool true]) ∧ OwnW base w' v' r
def AppliesU (u : Um) (g : List ByteArray → Option (List ByteArray)) : Prop :=
  (∀ l r, Few l → g l = some r → Few r) ∧ ∀ base v l w m lo, OwnW base w v l → Few l → Gz w → 0 < base → base ≤ w.heap.size → Fits m u lo w →
  Calls Tryz.prog 15 #[.agg m.cells, v] w (ApPost (g l) base v m u lo w)
theorem appliesU_of {u : Um} {act : ActF}
    (h : ∀ (a : Option Addr) (n c : Nat) (l : List ByteArray) (w : World), Words w.heap.size w (.slice a n c) l → n ≤ 10000 → (∀ y ∈ l, y.size ≤ 1000000) → Mx w → Calls Tryz.prog 15 #[.agg u.md.cells, .slice a n c] w fun e w' => ApplyPost w (foldA act [] false l) e w') :
    AppliesU u (foldA act [] false) := by
  refine ⟨fun l r hf hr => ?_, fun base v l w m lo ho hf hm hb hbs hfit => ?_⟩
  · have := foldA_few act l [] false r hr (Nat.zero_le _)
    simp only [List.length_nil, Nat.zero_add] at this
    exact ⟨by have := hf.1; omega, this.1⟩
  · have hmu : m = u.md := hfit
    have hfit' : ∀ w', Fits m u lo w' := fun w' => hmu
    obtain ⟨a, c, rfl⟩ := ho.slice
    rw [hmu]
    refine (h a l.length c l w ho.words (by have := hf.1; omega) (fun y hy => by have := size_mem hy; have := hf.2; omega) hm.1).mono ?_
    rintro e w' ⟨h1, h2⟩
    rw [← hmu]
    refine ⟨.of_below h1, hfit' w', ?_⟩
    cases hr : foldA act [] false l with
    | none => rw [hr] at h2; exact ⟨_, h2⟩
    | some r =>
      rw [hr] at h2
      obtain ⟨v', e1, e2⟩ := h2
      exact ⟨v', e1, (OwnW.of_owns e2).base hbs⟩
theorem get_put (o : Nat) (ts : List ByteArray) (cur : Array Value) (hc : o + ts.length ≤ cur.size) (i : Nat) (hi : i < ts.length) : (putCells encStr o (ts.map bl).toArray cur)[o + i]? = some (.string ts[i]) := by
  unfold putCells
  rw [Array.getElem?_mapIdx, Array.getElem?_eq_getElem (by omega)]
  simp only [Option.map_some, Option.some.injEq]
  rw [if_pos ⟨by omega, by simp; omega⟩]
  rw [show o + i - o = i by omega]
  have e : ((ts.map bl).toArray[i]!) = bl ts[i] := by simp [hi]
  rw [e]
  show Value.string (ba (bl ts[i])) = _
  rw [ba_bl]
theorem heap_put {w : World} {g n o : Nat} {os : Array Obj} {cur : Array Value} {e : TypeId} {fr : Nat × Nat} (d : Array (List UInt8)) (hb : w.heap[g]? = some (.cells cur e fr)) :
    (grow (putRow encStr (Sort.ahead w n) g o d) os).heap[g]? = some (.cells (putCells encStr o d cur) e fr) := by
  have hg : g < w.heap.size := (Array.getElem?_eq_some_iff.1 hb).1
  rw [heap_grow_old _ _ (by simpa using hg)]
  simp [putRow, mapBlock, Sort.ahead, Array.getElem?_modify, hb, onCells]
theorem fr_put {w : World} {g n o : Nat} {os : Array Obj} (d : Array (List UInt8)) (D : Nat → Prop) (hD : D g) : X.Fr D w (grow (putRow encStr (Sort.ahead w n) g o d) os) := by
  refine ⟨rfl, rfl, rfl, by simp, fun k hk hne => ?_⟩
  rw [heap_grow_old _ _ (by simpa using hk)]
  have : g ≠ k := fun e => hne (e ▸ hD)
  simp [putRow, mapBlock, Sort.ahead, Array.getElem?_modify, this]
theorem own_holds {W : World} {g o : Nat} {cur : Array Value} {l : List ByteArray} (hcur : W.heap[g]? = some (.cells cur 9 (0, 0))) (hcell : ∀ i (h : i < l.length), cur[o + i]? = some (.string l[i])) : Go.Sort.Holds encStr W g o (l.map bl).toArray := by
  intro j hj
  have hj' : j < l.length := by simpa using hj
  refine ⟨?_, by simp [World.frozen?, hcur]⟩
  simp only [World.cell?, hcur]
  have := hcell j hj'
  simp only [Option.isSome_none, Bool.false_eq_true, if_false]
  rw [this]
  have e : ((l.map bl).toArray[j]!) = bl l[j] := by simp [hj']
  rw [e]
  show some (Value.string l[j]) = some (Value.string (ba (bl l[j])))
  rw [ba_bl]
theorem own_put {base : Nat} {w : World} {g o c n : Nat} {cur : Array Value} {os : Array Obj} {l ts : List ByteArray} (hl : ts.length = l.length) (hbase : base ≤ g) (hcur : w.heap[g]? = some (.cells cur 9 (0, 0))) (hc : l.length ≤ c) (ho : o + c ≤ cur.size) :
    OwnW base (grow (putRow encStr (Sort.ahead w n) g o (ts.map bl).toArray) os) (.slice (some ⟨g, o, none⟩) l.length c) ts :=
  .inr ⟨g, o, c, _, by rw [hl], hbase, heap_put _ hcur, by omega, by unfold putCells; simp; exact ho, fun i hi => get_put o ts cur (by omega) i hi⟩
def InPost (base : Nat) (v : Value) (r : List ByteArray) (w : World) (e : Ending) (w' : World) : Prop := e = .returned (.tuple #[]) ∧ OwnW base w' v r ∧ X.Fr (fun j => v.ownBlock = some j) w w'
theorem sort_in (v : Value) (l : List ByteArray) (base : Nat) (w : World) (h : OwnW base w v l) (hn : l.length ≤ 1000000) : Calls Tryz.prog 56 #[v] w (InPost base v (sortedL l) w) := by
  by_cases hne : l = []
  · subst hne
    obtain ⟨a, c, rfl⟩ := h.slice
    refine (Tryz.slices_Sort_string_none a c w).mono ?_
    rintro e w' ⟨rfl, rfl⟩
    exact ⟨rfl, by simpa [sortedL] using h, .refl _ _⟩
  · obtain ⟨g, o, c, cur, rfl, hg, hcur, hc, ho, hcell⟩ := h.resolve_left (fun e => hne e.2)
    have hl : (l.map bl).length = l.length := by simp
    have hk := Tryz.slices_Sort_string g o c (l.map bl) w (own_holds hcur hcell) (Array.getElem?_eq_some_iff.1 hcur).1 (by rw [hl]; omega)
    rw [hl] at hk
    refine hk.mono ?_
    rintro e w' ⟨rfl, n, os, rfl⟩
    have e1 : ((l.map bl).mergeSort fun x y => decide (x ≤ y)) = (sortedL l).map bl := by
      unfold sortedL; rw [List.map_map]
      exact (List.map_id _).symm.trans (List.map_congr_left fun x _ => (bl_ba x).symm)
    rw [e1]
    exact ⟨rfl, own_put (sorted_length l) hg hcur hc ho, fr_put _ _ rfl⟩
theorem rev_in (v : Value) (l : List ByteArray) (base : Nat) (w : World) (h : OwnW base w v l) (hn : l.length ≤ 1000000) : Calls Tryz.prog 57 #[v] w (InPost base v l.reverse w) := by
  by_cases hne : l = []
  · subst hne
    obtain ⟨a, c, rfl⟩ := h.slice
    refine (Tryz.slices_Reverse_string_empty a c w).mono ?_
    rintro e w' ⟨rfl, rfl⟩
    exact ⟨rfl, h, .refl _ _⟩
  · obtain ⟨g, o, c, cur, rfl, hg, hcur, hc, ho, hcell⟩ := h.resolve_left (fun e => hne e.2)
    have hl : (l.map bl).length = l.length := by simp
    have hk := Tryz.slices_Reverse_string g o c (l.map bl) w (own_holds hcur hcell) (by rw [hl]; omega)
    rw [hl] at hk
    refine hk.mono ?_
    rintro e w' ⟨rfl, n, rfl⟩
    have e1 : (l.map bl).reverse = l.reverse.map bl := by rw [List.map_reverse]
    rw [e1, ← grow_empty (putRow encStr (Sort.ahead w n) g o (l.reverse.map bl).toArray)]
    exact ⟨rfl, own_put (by simp) hg hcur hc ho, fr_put _ _ rfl⟩
theorem compact_in (v : Value) (l : List ByteArray) (base : Nat) (w : World) (h : OwnW base w v l) (hn : l.length ≤ 1000000) : Calls Tryz.prog 58 #[v] w fun e w' => ∃ v', e = .returned v' ∧ OwnW base w' v' (compactL l) ∧ X.Fr (fun j => v.ownBlock = some j) w w' := by
  by_cases hne : l = []
  · subst hne
    obtain ⟨a, c, rfl⟩ := h.slice
    refine (Tryz.slices_Compact_string_empty a c w).mono ?_
    rintro e w' ⟨rfl, rfl⟩
    exact ⟨_, rfl, by simpa [compactL, Lib.compact, Lib.compactUpTo] using h, .refl _ _⟩
  · obtain ⟨g, o, c, cur, rfl, hg, hcur, hc, ho, hcell⟩ := h.resolve_left (fun e => hne e.2)
    have hl : (l.map bl).length = l.length := by simp
    have hcl := compact_len (l.map bl)
    rw [hl] at hcl
    have hk := Tryz.slices_Compact_string g o c (l.map bl) w (own_holds hcur hcell) (by rw [hl]; omega) (by rw [hl]; exact hc)
    rw [hl] at hk
    refine hk.mono ?_
    rintro e w' ⟨rfl, n, rfl⟩
    have e1 : Lib.compact (l.map bl) ++ List.replicate (l.length - (Lib.compact (l.map bl)).length) [] = (compactL l ++ List.replicate (l.length - (Lib.compact (l.map bl)).length) E).map bl := by
      unfold compactL
      rw [List.map_append, List.map_map, List.map_replicate]
      congr 1
      exact (List.map_id _).symm.trans (List.map_congr_left fun x _ => (bl_ba x).symm)
    have el : (compactL l).length = (Lib.compact (l.map bl)).length := by simp [compactL]
    rw [e1, ← grow_empty (putRow encStr (Sort.ahead w n) g o _)]
    refine ⟨_, rfl, ?_, fr_put _ _ rfl⟩
    refine .inr ⟨g, o, c, _, by rw [el], hg, heap_put _ hcur, by rw [el]; omega, by unfold putCells; simp; exact ho, fun i hi => ?_⟩
    have := get_put o (compactL l ++ List.replicate (l.length - (Lib.compact (l.map bl)).length) E) cur (by rw [List.length_append, el, List.length_replicate]; omega) i (by rw [List.length_append]; omega)
    rw [List.getElem_append_left hi] at this
    exact this
def OfAllU (m : Md) (g : List ByteArray → List ByteArray) : Prop := ∀ base v l w, OwnW base w v l → Few l → Gz w → base ≤ w.heap.size →
  Calls Tryz.prog 26 #[.agg m.cells, v] w fun e w' => X.Fr (fun j => v.ownBlock = some j) w w' ∧ ∃ v', e = .returned v' ∧ OwnW base w' v' (g l)
theorem fr_alloc {D : Nat → Prop} (w : World) (o : Obj) : X.Fr D w (w.alloc o) := .of_below ((Below.refl _ w).alloc (Nat.le_refl _) o)
end Go.Proofs.YtpcpcfnmcfjomaaGreatDoor
namespace Go.Proofs.YtpcpcfnmcfjomaaGreatDoor
open Go.RowKit Go.Shelf Go.Sort
set_option maxRecDepth 20000 in
set_option maxHeartbeats 1600000 in
theorem ofAllU_o (m : Md) (hk : m.kind = ⟨#[79]⟩) : OfAllU m (fun l => sortedL l) := by
  intro base v l w ho hf hm hb
  have HS : Hid (∀ W, OwnW base W v l → Calls Tryz.prog 56 #[v] W (InPost base v (sortedL l) W)) := fun W h => sort_in v l base W h (by have := hf.1; omega)
  have HO : Hid (OwnW base w v l) := ho
  obtain ⟨a, c, rfl⟩ := ho.slice
  clear ho hb hf hm
  obtain ⟨kind, ma, mb, bg, en, ex, al, on, mks, ots, frm, upto⟩ := m
  dsimp only at hk
  subst hk
  unfold Md.cells
  go_enter Tryz.func26, Tryz.ntmps26
  go_wp2_with fail
  refine (HS.out _ (HO.out.below ((Below.refl _ w).alloc (Nat.le_refl _) _))).mono ?_
  rintro e w1 ⟨rfl, h1, h2⟩
  have HZ : Hid (OwnW base w1 (.slice a l.length c) (sortedL l) ∧ X.Fr (fun j => (Value.slice a l.length c).ownBlock = some j) w w1) := ⟨h1, (fr_alloc w _).trans h2⟩
  clear h1 h2
  go_wp2
  go_ret
  exact ⟨HZ.out.2, _, rfl, HZ.out.1⟩
set_option maxRecDepth 20000 in
set_option maxHeartbeats 1600000 in
theorem ofAllU_r (m : Md) (hk : m.kind = ⟨#[114]⟩) : OfAllU m (fun l => l.reverse) := by
  intro base v l w ho hf hm hb
  have HS : Hid (∀ W, OwnW base W v l → Calls Tryz.prog 57 #[v] W (InPost base v l.reverse W)) := fun W h => rev_in v l base W h (by have := hf.1; omega)
  have HO : Hid (OwnW base w v l) := ho
  obtain ⟨a, c, rfl⟩ := ho.slice
  clear ho hb hf hm
  obtain ⟨kind, ma, mb, bg, en, ex, al, on, mks, ots, frm, upto⟩ := m
  dsimp only at hk
  subst hk
  unfold Md.cells
  go_enter Tryz.func26, Tryz.ntmps26
  go_wp2_with fail
  refine (HS.out _ (HO.out.below ((Below.refl _ w).alloc (Nat.le_refl _) _))).mono ?_
  rintro e w1 ⟨rfl, h1, h2⟩
  have HZ : Hid (OwnW base w1 (.slice a l.length c) (l.reverse) ∧ X.Fr (fun j => (Value.slice a l.length c).ownBlock = some j) w w1) := ⟨h1, (fr_alloc w _).trans h2⟩
  clear h1 h2
  go_wp2
  go_ret
  exact ⟨HZ.out.2, _, rfl, HZ.out.1⟩
set_option maxRecDepth 20000 in
set_option maxHeartbeats 1600000 in
theorem ofAllU_or (m : Md) (hk : m.kind = ⟨#[79, 114]⟩) : OfAllU m (fun l => (sortedL l).reverse) := by
  intro base v l w ho hf hm hb
  have HS : Hid (∀ W, OwnW base W v l → Calls Tryz.prog 56 #[v] W (InPost base v (sortedL l) W)) := fun W h => sort_in v l base W h (by have := hf.1; omega)
  have HRv : Hid (∀ W, OwnW base W v (sortedL l) → Calls Tryz.prog 57 #[v] W (InPost base v (sortedL l).reverse W)) := fun W h => rev_in v (sortedL l) base W h (by have := hf.1; rw [sorted_length]; omega)
  have HO : Hid (OwnW base w v l) := ho
  obtain ⟨a, c, rfl⟩ := ho.slice
  clear ho hb hf hm
  obtain ⟨kind, ma, mb, bg, en, ex, al, on, mks, ots, frm, upto⟩ := m
  dsimp only at hk
  subst hk
  unfold Md.cells
  go_enter Tryz.func26, Tryz.ntmps26
  go_wp2_with fail
  refine (HS.out _ (HO.out.below ((Below.refl _ w).alloc (Nat.le_refl _) _))).mono ?_
  rintro e w1 ⟨rfl, h1, h2⟩
  have HZ : Hid (OwnW base w1 (.slice a l.length c) (sortedL l) ∧ X.Fr (fun j => (Value.slice a l.length c).ownBlock = some j) w w1) := ⟨h1, (fr_alloc w _).trans h2⟩
  clear h1 h2
  go_wp2_with fail
  refine (HRv.out _ HZ.out.1).mono ?_
  rintro e w2 ⟨rfl, h1, h2⟩
  have HZ2 : Hid (OwnW base w2 (.slice a l.length c) (sortedL l).reverse ∧ X.Fr (fun j => (Value.slice a l.length c).ownBlock = some j) w w2) := ⟨h1, HZ.out.2.trans h2⟩
  clear h1 h2
  go_wp2
  go_ret
  exact ⟨HZ2.out.2, _, rfl, HZ2.out.1⟩
set_option maxRecDepth 20000 in
set_option maxHeartbeats 1600000 in
theorem ofAllU_u (m : Md) (hk : m.kind = ⟨#[117]⟩) : OfAllU m (fun l => compactL l) := by
  intro base v l w ho hf hm hb
  have HS : Hid (∀ W, OwnW base W v l → Calls Tryz.prog 58 #[v] W fun e w' => ∃ v', e = .returned v' ∧ OwnW base w' v' (compactL l) ∧ X.Fr (fun j => v.ownBlock = some j) W w') := fun W h => compact_in v l base W h (by have := hf.1; omega)
  have HO : Hid (OwnW base w v l) := ho
  obtain ⟨a, c, rfl⟩ := ho.slice
  clear ho hb hf hm
  obtain ⟨kind, ma, mb, bg, en, ex, al, on, mks, ots, frm, upto⟩ := m
  dsimp only at hk
  subst hk
  unfold Md.cells
  go_enter Tryz.func26, Tryz.ntmps26
  go_wp2_with fail
  refine (HS.out _ (HO.out.below ((Below.refl _ w).alloc (Nat.le_refl _) _))).mono ?_
  rintro e w1 ⟨v2, rfl, h1, h2⟩
  have HZ : Hid (OwnW base w1 v2 (compactL l) ∧ X.Fr (fun j => (Value.slice a l.length c).ownBlock = some j) w w1) := ⟨h1, (fr_alloc w _).trans h2⟩
  clear h1 h2
  go_wp2
  go_ret
  exact ⟨HZ.out.2, _, rfl, HZ.out.1⟩
def fewO (r : List ByteArray) : Option (List ByteArray) := if r.length ≤ 4096 ∧ sizeL r ≤ 65536 then some r else none
set_option maxRecDepth 20000 in
set_option maxHeartbeats 1600000 in
theorem appliesU_all (u : Um) (g : List ByteArray → List ByteArray) (hk : u.md.kind ∈ allL) (hg : ∀ l, Few l → (g l).length ≤ 1000000 ∧ ∀ y ∈ g l, y.size ≤ 1000000) (ho : OfAllU u.md g) : AppliesU u (fun l => fewO (g l)) := by
  refine ⟨fun l r h1 h2 => ?_, fun base v l w m lo hr hf hm hb hbs hfit => ?_⟩
  · dsimp only at h2
    unfold fewO at h2
    split at h2
    · cases h2; assumption
    · cases h2
  have hmu : m = u.md := hfit
  have HFi : Hid (∀ w', Fits m u lo w') := fun w' => hmu
  rw [← hmu] at hk ho
  clear hfit hmu
  have HT : Hid (∀ W : World, W.cell? ⟨w.heap.size + 1, 0, none⟩ = some (.string m.kind) → Calls Tryz.prog 25 #[.pointer (some ⟨w.heap.size + 1, 0, none⟩)] W fun e w' => e = .returned .nilFunc ∧ W = w') := fun W hW => toWord_nil _ _ hk W hW
  have HO : Hid (∀ W, OwnW base W v l → Below w.heap.size w W → Calls Tryz.prog 26 #[.agg m.cells, v] W fun e w' => X.Fr (fun j => v.ownBlock = some j) W w' ∧ ∃ v', e = .returned v' ∧ OwnW base w' v' (g l)) := fun W h1 h2 => ho base v l W h1 hf (hm.below h2) (Nat.le_trans hbs h2.size)
  have HF : Hid (∀ W v', OwnW base W v' (g l) → Calls Tryz.prog 13 #[v'] W fun e w' => e = .returned (.bool (decide ((g l).length ≤ 4096 ∧ sizeL (g l) ≤ 65536))) ∧ W = w') := fun W v' h1 => by
    obtain ⟨a, c, rfl⟩ := h1.slice
    exact few_any a _ c (g l) W.heap.size W h1.words (hg l hf).1 (hg l hf).2
  have HR : Hid (OwnW base w v l) := hr
  have hneq := nil_neq
  obtain ⟨bb, hbb⟩ : ∃ bb, bb = decide ((g l).length ≤ 4096 ∧ sizeL (g l) ≤ 65536) := ⟨_, rfl⟩
  rw [← hbb] at HF
  have HE : Hid (fewO (g l) = if bb = true then some (g l) else none) := by
    unfold Hid fewO; rw [hbb]
    by_cases h : (g l).length ≤ 4096 ∧ sizeL (g l) ≤ 65536
    · rw [if_pos h, if_pos (by simpa using h)]
    · rw [if_neg h, if_neg (by simpa using h)]
  have HN : Hid (∀ W v', bb = false → OwnW base W v' (g l) → True) := fun _ _ _ _ => trivial
  clear hr hf hm hb hbs ho hk hbb HN
  dsimp only
  obtain ⟨G0, hG0⟩ : ∃ G0, G0 = g l := ⟨_, rfl⟩
  rw [← hG0] at HO HF HE ⊢
  clear hG0 hg
  obtain ⟨kind, ma, mb, bg, en, ex, al, on, mks, ots, frm, upto⟩ := m
  unfold Md.cells at HO ⊢
  dsimp only at HO HT ⊢
  go_enter Tryz.func15, Tryz.ntmps15
  go_wp2_with fail
  refine (HT.out _ (by rw [World.cell?, heap_alloc_new']; rfl)).mono ?_
  rintro e w' ⟨rfl, rfl⟩
  go_wp2_with fail
  refine (HO.out _ ((HR.out.below ((Below.refl _ w).alloc (Nat.le_refl _) _)).below ((Below.refl _ _).alloc (Nat.le_refl _) _)) (((Below.refl _ w).alloc (Nat.le_refl _) _).alloc (by simp) _)).mono ?_
  rintro e w2 ⟨hb2, v2, rfl, ho2⟩
  have HZ : Hid (X.Fr (fun j => v.ownBlock = some j) w w2 ∧ OwnW base w2 v2 G0) := ⟨((fr_alloc w _).trans (fr_alloc _ _)).trans hb2, ho2⟩
  clear hb2 ho2
  go_wp2_with fail
  refine (HF.out _ _ HZ.out.2).mono ?_
  rintro e w3 ⟨rfl, rfl⟩
  have HFr : Hid (X.Fr (ApD v ⟨kind, ma, mb, bg, en, ex, al, on, mks, ots, frm, upto⟩) w w2) := ⟨HZ.out.1.os, HZ.out.1.tape, HZ.out.1.output, HZ.out.1.size, fun j hj hd => HZ.out.1.block j hj (fun e => hd (.inl e))⟩
  cases bb with
  | true =>
    have HE1 : Hid (fewO G0 = some G0) := HE.out.trans (if_pos rfl)
    clear HE
    go_wp2
    go_ret2
    refine ⟨HFr.out, HFi.out _, ?_⟩
    rw [HE1.out]
    exact ⟨v2, rfl, HZ.out.2⟩
  | false =>
    have HE1 : Hid (fewO G0 = none) := HE.out.trans (if_neg (by simp))
    clear HE
    go_wp2
    go_ret2
    refine ⟨HFr.out, HFi.out _, ?_⟩
    rw [HE1.out]
    exact ⟨v2, rfl⟩
end Go.Proofs.YtpcpcfnmcfjomaaGreatDoor
