/-
  The document's own set.
-/
import Derived.Test.YtkelmhpoplbacaaGreatDoorU5
import Derived.Laws.AppendOwnNone
namespace Go.Proofs.YtkelmhpoplbacaaGreatDoor.V
open Go.RowKit Go.Shelf Go.Maps

theorem owns_slice {base n : Nat} {e : TypeId} {size : Nat} {W : World} {v : Value} {xs : List Value} (h : W.ownsRow base e size v n xs) : ∃ a cap, v = .slice a n cap := by
  rcases h.2 with ⟨rfl, rfl⟩ | ⟨g, cap, cur, rfl, _⟩
  · exact ⟨none, 0, rfl⟩
  · exact ⟨_, _, rfl⟩

theorem cell_in {w : World} {b : Nat} {cs : Array Value} {T : TypeId} (h : w.heap[b]? = some (.cells cs T (0, 0))) (i : Nat) {u : Value} (hu : cs[i]? = some u) : w.cell? ⟨b, i, none⟩ = some u := by
  simp only [World.cell?, h]; exact hu
theorem add_none (b o k : Nat) : (⟨b, o, none⟩ : Addr).add k = ⟨b, o + k, none⟩ := by
  unfold Addr.add; split
  · rename_i h; subst h; rfl
  · rfl


structure Vr where
  n : Int
  q : ByteArray
  v : ByteArray
abbrev Vl := List Vr
def proj (L : Vl) (n : Int) : Sc := (L.filter fun x => decide (x.n = n)).map fun x => (x.q, x.v)
theorem proj_nil (n : Int) : proj [] n = [] := rfl
theorem proj_cons (x : Vr) (L : Vl) (n : Int) : proj (x :: L) n = if x.n = n then (x.q, x.v) :: proj L n else proj L n := by
  unfold proj
  rw [List.filter_cons]
  by_cases h : x.n = n <;> simp [h]
theorem proj_append (L L' : Vl) (n : Int) : proj (L ++ L') n = proj L n ++ proj L' n := by unfold proj; rw [List.filter_append, List.map_append]
theorem proj_clear (L : Vl) (n m : Int) : proj (L.filter fun x => decide (x.n ≠ n)) m = if m = n then [] else proj L m := by
  induction L with
  | nil => simp [proj_nil]
  | cons x L ih =>
    rw [List.filter_cons]
    by_cases h : x.n = n
    · rw [if_neg (by simp [h]), ih, proj_cons]
      by_cases hm : m = n
      · rw [if_pos hm, if_pos hm]
      · rw [if_neg hm, if_neg hm, if_neg (by rw [h]; exact Ne.symm hm)]
    · rw [if_pos (by simp [h]), proj_cons, proj_cons, ih]
      by_cases hm : m = n
      · rw [if_pos hm, if_pos hm, if_neg (by rw [hm]; exact h)]
      · rw [if_neg hm, if_neg hm]

/-- Where a variable stands. -/
def AtIs (L : Vl) (n : Int) (q : ByteArray) (r : Int) : Prop :=
  (r = -1 ∧ (proj L n).look q = none) ∨ ∃ (i : Nat) (x : Vr), r = i ∧ L[i]? = some x ∧ x.n = n ∧ x.q = q ∧ (proj L n).look q = some x.v ∧ ∀ j, j < i → ∀ y, L[j]? = some y → ¬ (y.n = n ∧ y.q = q)
theorem look_at {L : Vl} {n : Int} {q : ByteArray} {x : Vr} {i : Nat} (h : L[i]? = some x) (h1 : x.n = n) (h2 : x.q = q) (hb : ∀ j, j < i → ∀ y, L[j]? = some y → ¬ (y.n = n ∧ y.q = q)) : (proj L n).look q = some x.v := by
  induction L generalizing i with
  | nil => simp at h
  | cons y t ih =>
    rw [proj_cons]
    cases i with
    | zero => simp at h; subst h; rw [if_pos h1, Sc.look_cons, if_pos h2]
    | succ i =>
      have h0 := hb 0 (by omega) y rfl
      have h3 := ih (by simpa using h) (fun j hj z hz => hb (j + 1) (by omega) z (by simpa using hz))
      by_cases hy : y.n = n
      · rw [if_pos hy, Sc.look_cons, if_neg (fun e => h0 ⟨hy, e⟩)]; exact h3
      · rw [if_neg hy]; exact h3
theorem look_nowhere {L : Vl} {n : Int} {q : ByteArray} (h : ∀ (j : Nat) (y : Vr), L[j]? = some y → ¬ (y.n = n ∧ y.q = q)) : (proj L n).look q = none := by
  induction L with
  | nil => rfl
  | cons y t ih =>
    have h0 := h 0 y rfl
    have h3 := ih (fun j z hz => h (j + 1) z (by simpa using hz))
    rw [proj_cons]
    by_cases hy : y.n = n
    · rw [if_pos hy, Sc.look_cons, if_neg (fun e => h0 ⟨hy, e⟩)]; exact h3
    · rw [if_neg hy]; exact h3
theorem proj_set {L : Vl} {n : Int} {q v : ByteArray} {x : Vr} {i : Nat} (h : L[i]? = some x) (h1 : x.n = n) (h2 : x.q = q) (hb : ∀ j, j < i → ∀ y, L[j]? = some y → ¬ (y.n = n ∧ y.q = q)) (m : Int) :
    proj (L.set i ⟨n, q, v⟩) m = if m = n then (proj L n).set q v else proj L m := by
  induction L generalizing i with
  | nil => simp at h
  | cons y t ih =>
    cases i with
    | zero =>
      simp at h; subst h
      rw [List.set_cons_zero, proj_cons, proj_cons, proj_cons]
      subst h1; subst h2
      by_cases hm : m = y.n
      · subst hm; rw [if_pos rfl, if_pos rfl, if_pos rfl]; unfold Sc.set; rw [if_pos rfl]
      · rw [if_neg (Ne.symm hm), if_neg hm, if_neg (Ne.symm hm)]
    | succ i =>
      have h0 := hb 0 (by omega) y rfl
      have h3 := ih (i := i) (by simpa using h) (fun j hj z hz => hb (j + 1) (by omega) z (by simpa using hz))
      rw [List.set_cons_succ, proj_cons, proj_cons, proj_cons, h3]
      by_cases hm : m = n
      · subst hm
        rw [if_pos rfl, if_pos rfl]
        by_cases hy : y.n = m
        · rw [if_pos hy, if_pos hy]
          have e : Sc.set ((y.q, y.v) :: proj t m) q v = (y.q, y.v) :: Sc.set (proj t m) q v := by
            show (if y.q = q then _ else _) = _
            rw [if_neg (fun e => h0 ⟨hy, e⟩)]
          rw [e]
        · rw [if_neg hy, if_neg hy]
      · rw [if_neg hm, if_neg hm]
theorem proj_out {L : Vl} {n : Int} {q : ByteArray} {x : Vr} {i : Nat} (hu : (proj L n).Uniq) (h : L[i]? = some x) (h1 : x.n = n) (h2 : x.q = q) (hb : ∀ j, j < i → ∀ y, L[j]? = some y → ¬ (y.n = n ∧ y.q = q)) (m : Int) :
    proj (L.take i ++ L.drop (i + 1)) m = if m = n then (proj L n).del q else proj L m := by
  induction L generalizing i with
  | nil => simp at h
  | cons y t ih =>
    cases i with
    | zero =>
      simp at h; subst h
      subst h1; subst h2
      show proj t m = _
      rw [proj_cons, proj_cons]
      rw [proj_cons, if_pos rfl] at hu
      by_cases hm : m = y.n
      · subst hm; rw [if_pos rfl, if_pos rfl]
        unfold Sc.del
        rw [List.filter_cons, if_neg (by simp)]
        obtain ⟨hu1, _⟩ := List.pairwise_cons.1 hu
        exact (List.filter_eq_self.2 fun z hz => by simpa using Ne.symm (hu1 z hz)).symm
      · rw [if_neg hm, if_neg (Ne.symm hm)]
    | succ i =>
      have h0 := hb 0 (by omega) y rfl
      have hu2 : (proj t n).Uniq := by
        rw [proj_cons] at hu
        split at hu
        · exact (List.pairwise_cons.1 hu).2
        · exact hu
      have h3 := ih (i := i) hu2 (by simpa using h) (fun j hj z hz => hb (j + 1) (by omega) z (by simpa using hz))
      show proj (y :: (t.take i ++ t.drop (i + 1))) m = _
      rw [proj_cons, proj_cons, proj_cons, h3]
      by_cases hm : m = n
      · subst hm
        rw [if_pos rfl, if_pos rfl]
        by_cases hy : y.n = m
        · rw [if_pos hy, if_pos hy]
          unfold Sc.del
          rw [List.filter_cons, if_pos (by simp; exact fun e => h0 ⟨hy, e⟩)]
        · rw [if_neg hy, if_neg hy]
      · rw [if_neg hm, if_neg hm]

/-- The document's list has what a set has. -/
structure Rel (L : Vl) (s : VS) : Prop where
  proj : ∀ n, s n = proj L n
  sc : ∀ x ∈ L, isSc x.n = true
  ok : s.Ok
theorem len_parts {L : Vl} (h : ∀ x ∈ L, isSc x.n = true) : L.length = (proj L 1).length + (proj L 2).length + (proj L 3).length + (proj L 4).length := by
  induction L with
  | nil => rfl
  | cons x L ih =>
    have h1 := ih (fun y hy => h y (List.mem_cons_of_mem _ hy))
    rw [proj_cons, proj_cons, proj_cons, proj_cons, List.length_cons]
    rcases isSc_cases (h x (List.mem_cons_self ..)) with e | e | e | e <;> rw [e] <;> simp <;> omega
theorem Rel.len {L : Vl} {s : VS} (h : Rel L s) : L.length ≤ 4096 := by
  rw [len_parts h.sc, ← h.proj, ← h.proj, ← h.proj, ← h.proj]
  have := h.ok.len 1; have := h.ok.len 2; have := h.ok.len 3; have := h.ok.len 4
  omega
theorem rel_none : Rel [] VS.none_ := ⟨fun _ => rfl, fun x hx => (by cases hx), VS.ok_none⟩
theorem Rel.val {L : Vl} {s : VS} (h : Rel L s) {x : Vr} (hx : x ∈ L) : x.v.size ≤ 65536 := by
  have : (x.q, x.v) ∈ s x.n := by
    rw [h.proj]; unfold Go.Proofs.YtkelmhpoplbacaaGreatDoor.V.proj
    exact List.mem_map.2 ⟨x, List.mem_filter.2 ⟨hx, by simp⟩, rfl⟩
  exact h.ok.val _ _ this
theorem Rel.upd {L L' : Vl} {s : VS} (h : Rel L s) {n : Int} {S : Sc} (hk : (s.upd n S).Ok) (hp : ∀ m, Go.Proofs.YtkelmhpoplbacaaGreatDoor.V.proj L' m = if m = n then S else Go.Proofs.YtkelmhpoplbacaaGreatDoor.V.proj L m) (hs : ∀ x ∈ L', isSc x.n = true) : Rel L' (s.upd n S) := by
  refine ⟨fun m => ?_, hs, hk⟩
  rw [hp]
  by_cases e : m = n
  · subst e; rw [VS.upd_same, if_pos rfl]
  · rw [VS.upd_other _ _ e, if_neg e, h.proj]
end Go.Proofs.YtkelmhpoplbacaaGreatDoor.V
namespace Go.Proofs.YtkelmhpoplbacaaGreatDoor.V
open Go.RowKit Go.Shelf Go.Maps

def varV (x : Vr) : List Value := [.int .i64 x.n, .string x.q, .string x.v]
def varsV (L : Vl) : List Value := L.flatMap varV
theorem varsV_len (L : Vl) : (varsV L).length = L.length * 3 := by
  induction L with
  | nil => rfl
  | cons x t ih => unfold varsV at ih ⊢; simp only [List.flatMap_cons, List.length_append, ih, varV, List.length_cons, List.length_nil]; omega
theorem varsV_app (a c : Vl) : varsV (a ++ c) = varsV a ++ varsV c := by unfold varsV; rw [List.flatMap_append]
theorem varsV_at (L : Vl) (i j : Nat) (h : i < L.length) (hj : j < 3) : (varsV L)[i * 3 + j]? = (varV L[i])[j]? := by
  induction L generalizing i with
  | nil => exact absurd h (Nat.not_lt_zero _)
  | cons x t ih =>
    have e : varsV (x :: t) = varV x ++ varsV t := rfl
    rw [e]
    cases i with
    | zero =>
      rw [Nat.zero_mul, Nat.zero_add, List.getElem?_append_left (by simp [varV]; omega)]; rfl
    | succ i =>
      have := ih i (by simpa using h)
      rw [List.getElem?_append_right (by simp [varV]; omega)]
      have hl : (varV x).length = 3 := rfl
      rw [hl, show (i + 1) * 3 + j - 3 = i * 3 + j by omega, this]; rfl
theorem varsV_one (l : Vl) : ∀ u ∈ varsV l, u.oneCell' = true := by
  intro u hu
  unfold varsV at hu
  obtain ⟨x, _, hx⟩ := List.mem_flatMap.1 hu
  simp only [varV, List.mem_cons, List.not_mem_nil, or_false] at hx
  rcases hx with rfl | rfl | rfl <;> rfl
theorem varsV_take (L : Vl) (i : Nat) : varsV (L.take i) = (varsV L).take (i * 3) := by
  induction L generalizing i with
  | nil => simp [varsV]
  | cons x t ih =>
    cases i with
    | zero => simp [varsV]
    | succ i =>
      have e : varsV (x :: t) = .int .i64 x.n :: .string x.q :: .string x.v :: varsV t := rfl
      have e2 : varsV ((x :: t).take (i + 1)) = .int .i64 x.n :: .string x.q :: .string x.v :: varsV (t.take i) := rfl
      rw [e, e2, ih, show (i + 1) * 3 = i * 3 + 1 + 1 + 1 by omega]
      simp only [List.take_succ_cons]
theorem varsV_drop (L : Vl) (i : Nat) : varsV (L.drop i) = (varsV L).drop (i * 3) := by
  induction L generalizing i with
  | nil => simp [varsV]
  | cons x t ih =>
    cases i with
    | zero => simp [varsV]
    | succ i =>
      have e : varsV (x :: t) = .int .i64 x.n :: .string x.q :: .string x.v :: varsV t := rfl
      have e2 : (x :: t).drop (i + 1) = t.drop i := rfl
      rw [e, e2, ih, show (i + 1) * 3 = i * 3 + 1 + 1 + 1 by omega]
      simp only [List.drop_succ_cons]
theorem varsV_set (L : Vl) (i : Nat) (x : Vr) (v : ByteArray) (h : L[i]? = some x) : varsV (L.set i ⟨x.n, x.q, v⟩) = (varsV L).set (i * 3 + 2) (.string v) := by
  induction L generalizing i with
  | nil => simp at h
  | cons y t ih =>
    have e : varsV (y :: t) = .int .i64 y.n :: .string y.q :: .string y.v :: varsV t := rfl
    cases i with
    | zero => simp at h; subst h; rfl
    | succ i =>
      have e2 : varsV ((y :: t).set (i + 1) ⟨x.n, x.q, v⟩) = .int .i64 y.n :: .string y.q :: .string y.v :: varsV (t.set i ⟨x.n, x.q, v⟩) := rfl
      rw [e, e2, ih i (by simpa using h), show (i + 1) * 3 + 2 = i * 3 + 2 + 1 + 1 + 1 by omega]
      simp only [List.set_cons_succ]

structure RSet (base br : Nat) (vL : Value) (L : Vl) (w : World) : Prop where
  blk : w.heap[br]? = some (.cells #[vL] 51 (0, 0))
  row : w.ownsRow base 94 3 vL L.length (varsV L)
  hb : base ≤ br
/-- One block alone of the elder ones is written, and memory is made. -/
structure RTurn (br : Nat) (w w' : World) : Prop where
  os : w'.os = w.os
  tape : w'.tape = w.tape
  output : w'.output = w.output
  size : w.heap.size ≤ w'.heap.size
  block : ∀ j, j < w.heap.size → j ≠ br → w'.heap[j]? = w.heap[j]?
theorem RTurn.refl (br : Nat) (w : World) : RTurn br w w := ⟨rfl, rfl, rfl, Nat.le_refl _, fun _ _ _ => rfl⟩
theorem RTurn.trans {br : Nat} {w w' w'' : World} (h : RTurn br w w') (k : RTurn br w' w'') : RTurn br w w'' :=
  ⟨k.os.trans h.os, k.tape.trans h.tape, k.output.trans h.output, Nat.le_trans h.size k.size, fun j hj hb => (k.block j (Nat.lt_of_lt_of_le hj h.size) hb).trans (h.block j hj hb)⟩
theorem RTurn.of_below {br : Nat} {w w' : World} (h : Below w.heap.size w w') : RTurn br w w' := ⟨h.os, h.tape, h.output, h.size, fun j hj _ => h.block j hj⟩
theorem RTurn.set (br i : Nat) (w : World) (x : Value) : RTurn br w (w.setCell ⟨br, i, none⟩ x) :=
  ⟨rfl, rfl, rfl, by rw [size_set]; exact Nat.le_refl _, fun _ _ hb => Below.heap_setCell _ _ _ _ hb⟩
abbrev rptr (b : Nat) : Value := .pointer (some ⟨b, 0, none⟩)
theorem owns_base {b b' : Nat} {e : TypeId} {size : Nat} {W : World} {v : Value} {n : Nat} {xs : List Value} (h : W.ownsRow b e size v n xs) (hb : b' ≤ b) : W.ownsRow b' e size v n xs := by
  refine ⟨h.1, ?_⟩
  rcases h.2 with h0 | ⟨g, cap, cur, hv, hg, rest⟩
  · exact .inl h0
  · exact .inr ⟨g, cap, cur, hv, Nat.le_trans hb hg, rest⟩
section
variable {base br : Nat} {vL : Value} {L : Vl} {w w' : World}
theorem RSet.lt (h : RSet base br vL L w) : br < w.heap.size := (Array.getElem?_eq_some_iff.1 h.blk).1
theorem RSet.sized (h : RSet base br vL L w) : base ≤ w.heap.size := by have := h.lt; have := h.hb; omega
theorem RSet.below (h : RSet base br vL L w) (hb : Below w.heap.size w w') : RSet base br vL L w' :=
  ⟨(hb.block br h.lt).trans h.blk, owns_below h.row hb, h.hb⟩
theorem RSet.low (h : RSet base br vL L w) (ht : RTurn br w w') : Below base w w' :=
  ⟨ht.os, ht.tape, ht.output, ht.size, fun j hj => ht.block j (by have := h.sized; omega) (by have := h.hb; omega)⟩
theorem RSet.c0 (h : RSet base br vL L w) : w.cell? ⟨br, 0, none⟩ = some vL := cell_in h.blk 0 rfl
theorem RSet.fr (h : RSet base br vL L w) (i : Nat) : w.frozen? ⟨br, i, none⟩ = false := by simp [World.frozen?, h.blk]
theorem RSet.putL (h : RSet base br vL L w) {vL' : Value} {L' : Vl} (hL : w.ownsRow base 94 3 vL' L'.length (varsV L')) : RSet base br vL' L' (w.setCell ⟨br, 0, none⟩ vL') := by
  have hne : vL'.ownBlock ≠ some br := fun e => by
    obtain ⟨cur, hc⟩ := row_type hL e
    have := h.blk; rw [hc] at this; simp at this
  exact ⟨heap_set h.blk _, row_set hL hne _, h.hb⟩
/-- The list as a slice, and its cells. -/
theorem vars_slice (h : w.ownsRow base 94 3 vL L.length (varsV L)) : ∃ a cap, vL = .slice a L.length cap ∧ L.length ≤ cap ∧ ∀ i (_ : i < L.length), ∃ g, a = some ⟨g, 0, none⟩ ∧ g < w.heap.size ∧ ∀ j, j < 3 → w.cell? ⟨g, i * 3 + j, none⟩ = (varV L[i])[j]? := by
  obtain ⟨hxl, ⟨hv, hn⟩ | ⟨g, cap, cur, hv, hg, hcur, hcap, hcm, hcs, hct⟩⟩ := h
  · exact ⟨none, 0, by rw [hv, hn], by omega, fun i hi => by omega⟩
  · refine ⟨some ⟨g, 0, none⟩, cap, hv, hcap, fun i hi => ⟨g, rfl, (Array.getElem?_eq_some_iff.1 hcur).1, fun j hj => ?_⟩⟩
    have h3 : (cur.toList.take (L.length * 3))[i * 3 + j]? = (varsV L)[i * 3 + j]? := by rw [hct]
    rw [List.getElem?_take_of_lt (by omega), varsV_at L i j hi hj] at h3
    rw [← h3]
    simp [World.cell?, hcur]
/-- One variable's cells. -/
theorem RSet.cellsAt (h : RSet base br vL L w) {i : Nat} {x : Vr} (hx : L[i]? = some x) : ∃ g cap, vL = .slice (some ⟨g, 0, none⟩) L.length cap ∧ i < L.length ∧ g < w.heap.size ∧ w.cell? ⟨g, i * 3, none⟩ = some (.int .i64 x.n) ∧ w.cell? ⟨g, i * 3 + 1, none⟩ = some (.string x.q) ∧ w.cell? ⟨g, i * 3 + 2, none⟩ = some (.string x.v) := by
  obtain ⟨hi, rfl⟩ := List.getElem?_eq_some_iff.1 hx
  obtain ⟨a, cap, hv, _, hc⟩ := vars_slice h.row
  obtain ⟨g, rfl, hg, hcg⟩ := hc i hi
  exact ⟨g, cap, hv, hi, hg, hcg 0 (by omega), hcg 1 (by omega), hcg 2 (by omega)⟩
end
theorem ba_ne_list {x y : ByteArray} (h : x ≠ y) : ¬ x.toList = y.toList := fun e => h (bl_inj (by unfold bl; rw [← Lib.toList_data, ← Lib.toList_data]; exact e))

set_option maxHeartbeats 400000 in
theorem rscope_any (n : Int) (w : World) :
    Calls Tryz.prog 20 #[.int .i64 n] w fun e w' => e = .returned (.bool (isSc n)) ∧ w = w' := by
  by_cases h1 : 1 ≤ n
  · by_cases h2 : n ≤ 4
    · have HR : Hid (isSc n = true) := by unfold Hid isSc; simp [h1, h2]
      go_enter Tryz.func20, Tryz.ntmps20
      go_wp2
      go_ret
      exact ⟨ret_bool HR.out.symm, rfl⟩
    · have HR : Hid (isSc n = false) := by unfold Hid isSc; simp [h2]
      go_enter Tryz.func20, Tryz.ntmps20
      go_wp2
      go_ret
      exact ⟨ret_bool HR.out.symm, rfl⟩
  · have HR : Hid (isSc n = false) := by unfold Hid isSc; simp [h1]
    go_enter Tryz.func20, Tryz.ntmps20
    go_wp2
    go_ret
    exact ⟨ret_bool HR.out.symm, rfl⟩

set_option maxRecDepth 20000 in
set_option maxHeartbeats 800000 in
theorem rat_any {base br : Nat} {vL : Value} {L : Vl} (m : Int) (p : ByteArray) (w : World) (h : RSet base br vL L w) (hl : L.length ≤ 4096) :
    Calls Tryz.prog 22 #[rptr br, .int .i64 m, .string p] w fun e w' => ∃ r, e = .returned (.int .i64 r) ∧ AtIs L m p r ∧ w = w' := by
  obtain ⟨a, cap, hv, hcap, hc⟩ := vars_slice h.row
  have c2 := h.c0
  subst hv
  obtain ⟨n, hn⟩ : ∃ n, n = L.length := ⟨_, rfl⟩
  rw [← hn] at hl hcap c2
  have HC : Hid (n = L.length ∧ ∀ i (_ : i < L.length), ∃ g, a = some ⟨g, 0, none⟩ ∧ g < w.heap.size ∧ ∀ j, j < 3 → w.cell? ⟨g, i * 3 + j, none⟩ = (varV L[i])[j]?) := ⟨hn, hc⟩
  clear hn hc h
  go_enter Tryz.func22, Tryz.ntmps22
  go_wp2
  go_loopw [7] (fun vi wr => ∃ k : Nat, k ≤ n ∧ vi = .int .i64 k ∧ w = wr ∧ Hid (∀ j, j < k → ∀ x, L[j]? = some x → ¬ (x.n = m ∧ x.q = p))) (fun vi _ => n - (intOf vi).toNat)
  case atStart => exact ⟨0, Nat.zero_le _, rfl, rfl, fun j hj => by omega⟩
  case round =>
    obtain ⟨k, hk, rfl, rfl, HB⟩ := hrel
    by_cases hlt : k < n
    · have hkl : k < L.length := by rw [← HC.out.1]; exact hlt
      have hil : (k : Int) < (n : Int) := by omega
      obtain ⟨g, rfl, _, hcg⟩ := HC.out.2 k hkl
      have e0 : w.cell? ⟨g, k * 3, none⟩ = some (.int .i64 L[k].n) := hcg 0 (by omega)
      have e1 : w.cell? ⟨g, k * 3 + 1, none⟩ = some (.string L[k].q) := hcg 1 (by omega)
      obtain ⟨x, hx⟩ : ∃ x, x = L[k] := ⟨_, rfl⟩
      rw [← hx] at e0 e1
      have HX : Hid (L[k]? = some x) := by rw [hx]; exact List.getElem?_eq_getElem hkl
      obtain ⟨xn, q, e⟩ := x
      dsimp only at e0 e1
      clear hx hcg
      by_cases hm : xn = m
      · by_cases hq : q = p
        · subst hq
          subst hm
          go_wp2
          go_ret
          exact ⟨_, rfl, .inr ⟨k, _, rfl, HX.out, rfl, rfl, look_at HX.out rfl rfl HB.out, HB.out⟩, rfl⟩
        · have t0 := ba_ne_list hq
          have t1 : (q.toList == p.toList) = false := by simpa using t0
          have HB1 : Hid (∀ j, j < k + 1 → ∀ x, L[j]? = some x → ¬ (x.n = m ∧ x.q = p)) := fun j hj x hx => by
            by_cases hjk : j = k
            · subst hjk; rw [HX.out] at hx; cases hx; exact fun e => hq e.2
            · exact HB.out j (by omega) x hx
          clear hq
          subst hm
          go_wp2
          go_roundw
          case rel => exact ⟨k + 1, by omega, by go_num, trivial, HB1⟩
          case measure => simp [intOf]; omega
      · have tm : (xn == m) = false := by simpa using hm
        have HB1 : Hid (∀ j, j < k + 1 → ∀ x, L[j]? = some x → ¬ (x.n = m ∧ x.q = p)) := fun j hj x hx => by
          by_cases hjk : j = k
          · subst hjk; rw [HX.out] at hx; cases hx; exact fun e => hm e.1
          · exact HB.out j (by omega) x hx
        go_wp2
        go_roundw
        case rel => exact ⟨k + 1, by omega, by go_num, trivial, HB1⟩
        case measure => simp [intOf]; omega
    · obtain rfl : k = n := by omega
      go_wp2
      go_ret
      refine ⟨_, rfl, .inl ⟨rfl, look_nowhere fun j x hx => ?_⟩, rfl⟩
      have := (List.getElem?_eq_some_iff.1 hx).1
      exact HB.out j (by rw [HC.out.1]; exact this) x hx

theorem proj_next (L : Vl) (k : Nat) (h : k < L.length) (m : Int) : (proj (L.take (k + 1)) m).length = (proj (L.take k) m).length + if L[k].n = m then 1 else 0 := by
  rw [List.take_succ_eq_append_getElem h, proj_append, proj_cons, proj_nil, List.length_append]
  split <;> simp
theorem proj_len_take (L : Vl) (k : Nat) (m : Int) : (proj (L.take k) m).length ≤ k := by
  unfold proj; rw [List.length_map]; exact Nat.le_trans (List.length_filter_le _ _) (by rw [List.length_take]; omega)

set_option maxRecDepth 20000 in
set_option maxHeartbeats 800000 in
theorem rmany_any {base br : Nat} {vL : Value} {L : Vl} (m : Int) (w : World) (h : RSet base br vL L w) (hl : L.length ≤ 4096) :
    Calls Tryz.prog 23 #[rptr br, .int .i64 m] w fun e w' => e = .returned (.int .i64 (proj L m).length) ∧ w = w' := by
  obtain ⟨a, cap, hv, hcap, hc⟩ := vars_slice h.row
  have c2 := h.c0
  subst hv
  obtain ⟨n, hn⟩ : ∃ n, n = L.length := ⟨_, rfl⟩
  rw [← hn] at hl hcap c2
  have HC : Hid (n = L.length ∧ ∀ i (_ : i < L.length), ∃ g, a = some ⟨g, 0, none⟩ ∧ g < w.heap.size ∧ ∀ j, j < 3 → w.cell? ⟨g, i * 3 + j, none⟩ = (varV L[i])[j]?) := ⟨hn, hc⟩
  clear hn hc h
  go_enter Tryz.func23, Tryz.ntmps23
  go_wp2
  go_loopw [5, 6] (fun vc vi wr => ∃ k c : Nat, k ≤ n ∧ c ≤ k ∧ vi = .int .i64 k ∧ vc = .int .i64 c ∧ w = wr ∧ Hid (c = (proj (L.take k) m).length)) (fun _ vi _ => n - (intOf vi).toNat)
  case atStart => exact ⟨0, 0, Nat.zero_le _, Nat.le_refl _, rfl, rfl, rfl, rfl⟩
  case round =>
    obtain ⟨k, c, hk, hck, rfl, rfl, rfl, HB⟩ := hrel
    by_cases hlt : k < n
    · have hkl : k < L.length := by rw [← HC.out.1]; exact hlt
      have hil : (k : Int) < (n : Int) := by omega
      obtain ⟨g, rfl, _, hcg⟩ := HC.out.2 k hkl
      have e0 : w.cell? ⟨g, k * 3, none⟩ = some (.int .i64 L[k].n) := hcg 0 (by omega)
      have HP := proj_next L k hkl m
      obtain ⟨x, hx⟩ : ∃ x, x = L[k].n := ⟨_, rfl⟩
      rw [← hx] at e0 HP
      rw [← HB.out] at HP
      clear hx hcg
      by_cases hm : x = m
      · have HP1 : Hid (c + 1 = (proj (L.take (k + 1)) m).length) := by rw [HP, if_pos hm]; rfl
        clear HP
        subst hm
        go_wp2
        go_roundw
        case rel => exact ⟨k + 1, c + 1, by omega, by omega, by go_num, by go_num, trivial, HP1⟩
        case measure => simp [intOf]; omega
      · have HP1 : Hid (c = (proj (L.take (k + 1)) m).length) := by rw [HP, if_neg hm]; rfl
        have tm : (x == m) = false := by simpa using hm
        clear HP
        go_wp2
        go_roundw
        case rel => exact ⟨k + 1, c, by omega, by omega, by go_num, rfl, trivial, HP1⟩
        case measure => simp [intOf]; omega
    · obtain rfl : k = n := by omega
      have HE : Hid (c = (proj L m).length) := by have := HB.out; rw [HC.out.1, List.take_length] at this; exact this
      go_wp2
      go_ret
      exact ⟨ret_int (by rw [HE.out]), rfl⟩
end Go.Proofs.YtkelmhpoplbacaaGreatDoor.V
namespace Go.Proofs.YtkelmhpoplbacaaGreatDoor.V
open Go.RowKit Go.Shelf Go.Maps

theorem conv_tn (w : World) : (convert 64 9 (.slice (some ⟨w.heap.size, 0, none⟩) 2 2)).run Tryz.prog (w.alloc (.cells #[.int .u8 9, .int .u8 10] 5)) = .ok (.string ⟨#[9, 10]⟩) (w.alloc (.cells #[.int .u8 9, .int .u8 10] 5)) := by
  have hblk := heap_alloc_new w (.cells #[.int .u8 9, .int .u8 10] 5)
  refine run_convert_bytes_back _ 64 9 5 ⟨w.heap.size, 0, none⟩ 2 [9, 10] Tryz.underlying64 Tryz.underlying5 Tryz.underlying9 fun i hi => ?_
  have hi3 : i < 2 := hi
  rw [add_none]
  have h3 : i = 0 ∨ i = 1 := by omega
  rcases h3 with rfl | rfl
  · rw [cell_in hblk 0 rfl]; rfl
  · rw [cell_in hblk 1 rfl]; rfl
theorem ch_get (x : UInt8) : bad x = true ↔ ∃ (k : Nat) (h : k < CH.size), CH[k]'h = x := by
  have e : bad x = CH.data.toList.contains x := rfl
  rw [e, List.contains_iff_mem]
  constructor
  · intro h
    obtain ⟨k, hk, he⟩ := List.getElem_of_mem h
    exact ⟨k, by simpa using hk, he⟩
  · rintro ⟨k, hk, rfl⟩
    exact List.getElem_mem (by simpa using hk)

set_option maxRecDepth 20000 in
set_option maxHeartbeats 2000000 in
theorem rright_any (s : ByteArray) (w : World) (hs : s.size ≤ 140737488355328) :
    Calls Tryz.prog 21 #[.string s] w fun e w' => e = .returned (.bool (rightB s)) ∧ Below w.heap.size w w' := by
  have hcv := conv_tn w
  have h11 : CH.size = 11 := rfl
  have hch : ⟨#[32]⟩ ++ ⟨#[9, 10]⟩ ++ ⟨#[36, 58, 61, 123, 125, 40, 41, 35]⟩ = CH := rfl
  have hb0 : Below w.heap.size w (w.alloc (.cells #[.int .u8 9, .int .u8 10] 5)) := (Below.refl _ _).alloc (Nat.le_refl _) _
  go_enter Tryz.func21, Tryz.ntmps21
  go_wp2
  obtain ⟨W0, hW0⟩ : ∃ W0, W0 = w.alloc (.cells #[.int .u8 9, .int .u8 10] 5) := ⟨_, rfl⟩
  rw [← hW0] at hb0 ⊢
  clear hW0 hcv hch
  go_loopw [4, 5] (fun vi _ wr => ∃ k : Nat, k ≤ s.size ∧ vi = .int .i64 k ∧ Hid (∀ j, j < k → (hj : j < s.size) → bad s[j] = false) ∧ Below w.heap.size w wr)
    (fun vi _ _ => s.size - (intOf vi).toNat)
  case atStart => exact ⟨0, Nat.zero_le _, rfl, fun j hj => by omega, hb0⟩
  case round =>
    obtain ⟨k, hk, rfl, HB, hb⟩ := hrel
    clear hb0
    by_cases hlt : k < s.size
    · have hil : (k : Int) < (s.size : Int) := by omega
      go_wp2
      go_loopw [5] (fun vi wr2 => ∃ z : Nat, z ≤ 11 ∧ vi = .int .i64 z ∧ Hid (∀ j, j < z → (hj : j < CH.size) → CH[j] ≠ s[k]) ∧ Below w.heap.size w wr2)
        (fun vi _ => 11 - (intOf vi).toNat)
      case atStart => exact ⟨0, Nat.zero_le _, rfl, fun j hj => by omega, hb⟩
      case round =>
        obtain ⟨z, hz, rfl, HZ, hb2⟩ := hrel
        clear hb
        by_cases hzl : z < 11
        · have hzs : z < CH.size := hzl
          have hzi : (z : Int) < (CH.size : Int) := by omega
          have hz11 : (z : Int) < 11 := by omega
          by_cases hx : CH[z] = s[k]
          · have HE : Hid (rightB s = false) := by
              have hbad : bad s[k] = true := (ch_get _).2 ⟨z, hzs, hx⟩
              have : (bl s).any bad = true := anySp_true s k hlt hbad
              unfold Hid rightB; rw [this]; simp
            have hxv : ((s[k].toNat : Int) == (CH[z].toNat : Int)) = true := by rw [hx]; simp
            clear hx HZ HB
            go_wp2_with fail
            go_quiet (fail)
            go_wp2
            go_ret
            exact ⟨ret_bool HE.out.symm, below_drewN hb2 _⟩
          · have hxv : ((s[k].toNat : Int) == (CH[z].toNat : Int)) = false := by
              rw [← Bool.not_eq_true, beq_iff_eq]; intro e; apply hx; rw [u8_eq_iff]; omega
            have HZ1 : Hid (∀ j, j < z + 1 → (hj : j < CH.size) → CH[j] ≠ s[k]) := fun j hj hjs => by
              by_cases hjz : j = z
              · subst hjz; exact hx
              · exact HZ.out j (by omega) hjs
            clear hx HZ
            go_wp2_with fail
            go_quiet (fail)
            have hb3 : Below w.heap.size w (wr.drewN nq) := below_drewN hb2 _
            generalize wr.drewN nq = w5 at hb3 ⊢
            go_wp2
            go_roundw
            case rel => exact ⟨z + 1, by omega, by go_num, HZ1, hb3⟩
            case measure => simp [intOf]; omega
        · have hz11 : ¬ (z : Int) < 11 := by omega
          have HB1 : Hid (∀ j, j < k + 1 → (hj : j < s.size) → bad s[j] = false) := fun j hj hjs => by
            by_cases hjk : j = k
            · subst hjk
              rw [← Bool.not_eq_true, ch_get]
              rintro ⟨i, hi, e⟩
              exact HZ.out i (by omega) hi e
            · exact HB.out j (by omega) hjs
          clear HZ HB
          go_wp2
          go_roundw
          case rel => exact ⟨k + 1, by omega, by go_num, HB1, hb2⟩
          case measure => simp [intOf]; omega
    · have hil : ¬ (k : Int) < (s.size : Int) := by omega
      have HE : Hid (rightB s = (decide (1 ≤ s.size) && decide (s.size ≤ 64))) := by
        have : (bl s).any bad = false := anySp_false s (fun j hj => HB.out j (by omega) hj)
        unfold Hid rightB; rw [this]; simp
      clear HB
      by_cases h1 : 1 ≤ s.size
      · have h1i : (1 : Int) ≤ (s.size : Int) := by omega
        by_cases h64 : s.size ≤ 64
        · have h64i : (s.size : Int) ≤ 64 := by omega
          go_wp2
          go_ret
          exact ⟨ret_bool (by rw [HE.out]; simp [h1, h64]), hb⟩
        · have h64i : ¬ (s.size : Int) ≤ 64 := by omega
          go_wp2
          go_ret
          exact ⟨ret_bool (by rw [HE.out]; simp [h64]), hb⟩
      · have h1i : ¬ (1 : Int) ≤ (s.size : Int) := by omega
        go_wp2
        go_ret
        exact ⟨ret_bool (by rw [HE.out]; simp [h1]), hb⟩
end Go.Proofs.YtkelmhpoplbacaaGreatDoor.V
