/-
  The document's own set in memory: where a variable stands, how many a scope has, what a name is.
-/
import Derived.Test.YtjbmmeneejcpbaaVP1
import Derived.Test.YtjbmmeneejcpbaaVRefused
import Derived.Laws.AppendOwnNone
namespace Go.Proofs.Ytjbmmeneejcpbaa
open Go.RowKit Go.Shelf Go.Maps

def varV (x : Vr) : List Value := [.int .i64 x.n, .string x.q, .string x.v]
def varsV (L : Vl) : List Value := L.flatMap varV
theorem varsV_len (L : Vl) : (varsV L).length = L.length * 3 := by
  induction L with
  | nil => rfl
  | cons x t ih => unfold varsV at ih ⊢; simp only [List.flatMap_cons, List.length_append, ih, varV, List.length_cons, List.length_nil]; omega
theorem varsV_app (a c : Vl) : varsV (a ++ c) = varsV a ++ varsV c := by unfold varsV; rw [List.flatMap_append]
theorem varsV_at (L : Vl) (i j : Nat) (h : i < L.length) (hj : j < 3) : (varsV L)[i * 3 + j]? = (varV L[i])[j]? := by
  induction L generalizing i with
  | nil => exact absurd h (Nat.not_lt_zero _)
  | cons x t ih =>
    have e : varsV (x :: t) = varV x ++ varsV t := rfl
    rw [e]
    cases i with
    | zero =>
      rw [Nat.zero_mul, Nat.zero_add, List.getElem?_append_left (by simp [varV]; omega)]; rfl
    | succ i =>
      have := ih i (by simpa using h)
      rw [List.getElem?_append_right (by simp [varV]; omega)]
      have hl : (varV x).length = 3 := rfl
      rw [hl, show (i + 1) * 3 + j - 3 = i * 3 + j by omega, this]; rfl
theorem varsV_one (l : Vl) : ∀ u ∈ varsV l, u.oneCell' = true := by
  intro u hu
  unfold varsV at hu
  obtain ⟨x, _, hx⟩ := List.mem_flatMap.1 hu
  simp only [varV, List.mem_cons, List.not_mem_nil, or_false] at hx
  rcases hx with rfl | rfl | rfl <;> rfl
theorem varsV_take (L : Vl) (i : Nat) : varsV (L.take i) = (varsV L).take (i * 3) := by
  induction L generalizing i with
  | nil => simp [varsV]
  | cons x t ih =>
    cases i with
    | zero => simp [varsV]
    | succ i =>
      have e : varsV (x :: t) = .int .i64 x.n :: .string x.q :: .string x.v :: varsV t := rfl
      have e2 : varsV ((x :: t).take (i + 1)) = .int .i64 x.n :: .string x.q :: .string x.v :: varsV (t.take i) := rfl
      rw [e, e2, ih, show (i + 1) * 3 = i * 3 + 1 + 1 + 1 by omega]
      simp only [List.take_succ_cons]
theorem varsV_drop (L : Vl) (i : Nat) : varsV (L.drop i) = (varsV L).drop (i * 3) := by
  induction L generalizing i with
  | nil => simp [varsV]
  | cons x t ih =>
    cases i with
    | zero => simp [varsV]
    | succ i =>
      have e : varsV (x :: t) = .int .i64 x.n :: .string x.q :: .string x.v :: varsV t := rfl
      have e2 : (x :: t).drop (i + 1) = t.drop i := rfl
      rw [e, e2, ih, show (i + 1) * 3 = i * 3 + 1 + 1 + 1 by omega]
      simp only [List.drop_succ_cons]
theorem varsV_set (L : Vl) (i : Nat) (x : Vr) (v : ByteArray) (h : L[i]? = some x) : varsV (L.set i ⟨x.n, x.q, v⟩) = (varsV L).set (i * 3 + 2) (.string v) := by
  induction L generalizing i with
  | nil => simp at h
  | cons y t ih =>
    have e : varsV (y :: t) = .int .i64 y.n :: .string y.q :: .string y.v :: varsV t := rfl
    cases i with
    | zero => simp at h; subst h; rfl
    | succ i =>
      have e2 : varsV ((y :: t).set (i + 1) ⟨x.n, x.q, v⟩) = .int .i64 y.n :: .string y.q :: .string y.v :: varsV (t.set i ⟨x.n, x.q, v⟩) := rfl
      rw [e, e2, ih i (by simpa using h), show (i + 1) * 3 + 2 = i * 3 + 2 + 1 + 1 + 1 by omega]
      simp only [List.set_cons_succ]

structure RSet (base br : Nat) (vL : Value) (L : Vl) (w : World) : Prop where
  blk : w.heap[br]? = some (.cells #[vL] 27 (0, 0))
  row : w.ownsRow base 62 3 vL L.length (varsV L)
  hb : base ≤ br
/-- One block alone of the elder ones is written, and memory is made. -/
structure RTurn (br : Nat) (w w' : World) : Prop where
  os : w'.os = w.os
  tape : w'.tape = w.tape
  output : w'.output = w.output
  size : w.heap.size ≤ w'.heap.size
  block : ∀ j, j < w.heap.size → j ≠ br → w'.heap[j]? = w.heap[j]?
theorem RTurn.refl (br : Nat) (w : World) : RTurn br w w := ⟨rfl, rfl, rfl, Nat.le_refl _, fun _ _ _ => rfl⟩
theorem RTurn.trans {br : Nat} {w w' w'' : World} (h : RTurn br w w') (k : RTurn br w' w'') : RTurn br w w'' :=
  ⟨k.os.trans h.os, k.tape.trans h.tape, k.output.trans h.output, Nat.le_trans h.size k.size, fun j hj hb => (k.block j (Nat.lt_of_lt_of_le hj h.size) hb).trans (h.block j hj hb)⟩
theorem RTurn.of_below {br : Nat} {w w' : World} (h : Below w.heap.size w w') : RTurn br w w' := ⟨h.os, h.tape, h.output, h.size, fun j hj _ => h.block j hj⟩
theorem RTurn.set (br i : Nat) (w : World) (x : Value) : RTurn br w (w.setCell ⟨br, i, none⟩ x) :=
  ⟨rfl, rfl, rfl, by rw [size_set]; exact Nat.le_refl _, fun _ _ hb => Below.heap_setCell _ _ _ _ hb⟩
abbrev rptr (b : Nat) : Value := .pointer (some ⟨b, 0, none⟩)
theorem owns_base {b b' : Nat} {e : TypeId} {size : Nat} {W : World} {v : Value} {n : Nat} {xs : List Value} (h : W.ownsRow b e size v n xs) (hb : b' ≤ b) : W.ownsRow b' e size v n xs := by
  refine ⟨h.1, ?_⟩
  rcases h.2 with h0 | ⟨g, cap, cur, hv, hg, rest⟩
  · exact .inl h0
  · exact .inr ⟨g, cap, cur, hv, Nat.le_trans hb hg, rest⟩
section
variable {base br : Nat} {vL : Value} {L : Vl} {w w' : World}
theorem RSet.lt (h : RSet base br vL L w) : br < w.heap.size := (Array.getElem?_eq_some_iff.1 h.blk).1
theorem RSet.sized (h : RSet base br vL L w) : base ≤ w.heap.size := by have := h.lt; have := h.hb; omega
theorem RSet.below (h : RSet base br vL L w) (hb : Below w.heap.size w w') : RSet base br vL L w' :=
  ⟨(hb.block br h.lt).trans h.blk, owns_below h.row hb, h.hb⟩
theorem RSet.low (h : RSet base br vL L w) (ht : RTurn br w w') : Below base w w' :=
  ⟨ht.os, ht.tape, ht.output, ht.size, fun j hj => ht.block j (by have := h.sized; omega) (by have := h.hb; omega)⟩
theorem RSet.c0 (h : RSet base br vL L w) : w.cell? ⟨br, 0, none⟩ = some vL := cell_in h.blk 0 rfl
theorem RSet.fr (h : RSet base br vL L w) (i : Nat) : w.frozen? ⟨br, i, none⟩ = false := by simp [World.frozen?, h.blk]
theorem RSet.putL (h : RSet base br vL L w) {vL' : Value} {L' : Vl} (hL : w.ownsRow base 62 3 vL' L'.length (varsV L')) : RSet base br vL' L' (w.setCell ⟨br, 0, none⟩ vL') := by
  have hne : vL'.ownBlock ≠ some br := fun e => by
    obtain ⟨cur, hc⟩ := row_type hL e
    have := h.blk; rw [hc] at this; simp at this
  exact ⟨heap_set h.blk _, row_set hL hne _, h.hb⟩
/-- The list as a slice, and its cells. -/
theorem vars_slice (h : w.ownsRow base 62 3 vL L.length (varsV L)) : ∃ a cap, vL = .slice a L.length cap ∧ L.length ≤ cap ∧ ∀ i (_ : i < L.length), ∃ g, a = some ⟨g, 0, none⟩ ∧ g < w.heap.size ∧ ∀ j, j < 3 → w.cell? ⟨g, i * 3 + j, none⟩ = (varV L[i])[j]? := by
  obtain ⟨hxl, ⟨hv, hn⟩ | ⟨g, cap, cur, hv, hg, hcur, hcap, hcm, hcs, hct⟩⟩ := h
  · exact ⟨none, 0, by rw [hv, hn], by omega, fun i hi => by omega⟩
  · refine ⟨some ⟨g, 0, none⟩, cap, hv, hcap, fun i hi => ⟨g, rfl, (Array.getElem?_eq_some_iff.1 hcur).1, fun j hj => ?_⟩⟩
    have h3 : (cur.toList.take (L.length * 3))[i * 3 + j]? = (varsV L)[i * 3 + j]? := by rw [hct]
    rw [List.getElem?_take_of_lt (by omega), varsV_at L i j hi hj] at h3
    rw [← h3]
    simp [World.cell?, hcur]
/-- One variable's cells. -/
theorem RSet.cellsAt (h : RSet base br vL L w) {i : Nat} {x : Vr} (hx : L[i]? = some x) : ∃ g cap, vL = .slice (some ⟨g, 0, none⟩) L.length cap ∧ i < L.length ∧ g < w.heap.size ∧ w.cell? ⟨g, i * 3, none⟩ = some (.int .i64 x.n) ∧ w.cell? ⟨g, i * 3 + 1, none⟩ = some (.string x.q) ∧ w.cell? ⟨g, i * 3 + 2, none⟩ = some (.string x.v) := by
  obtain ⟨hi, rfl⟩ := List.getElem?_eq_some_iff.1 hx
  obtain ⟨a, cap, hv, _, hc⟩ := vars_slice h.row
  obtain ⟨g, rfl, hg, hcg⟩ := hc i hi
  exact ⟨g, cap, hv, hi, hg, hcg 0 (by omega), hcg 1 (by omega), hcg 2 (by omega)⟩
end
theorem ba_ne_list {x y : ByteArray} (h : x ≠ y) : ¬ x.toList = y.toList := fun e => h (bl_inj (by unfold bl; rw [← Lib.toList_data, ← Lib.toList_data]; exact e))

set_option maxHeartbeats 400000 in
theorem rscope_any (n : Int) (w : World) :
    Calls Try.prog 46 #[.int .i64 n] w fun e w' => e = .returned (.bool (isSc n)) ∧ w = w' := by
  by_cases h1 : 1 ≤ n
  · by_cases h2 : n ≤ 4
    · have HR : Hid (isSc n = true) := by unfold Hid isSc; simp [h1, h2]
      go_enter Try.func46, Try.ntmps46
      go_wp2
      go_ret
      exact ⟨ret_bool HR.out.symm, rfl⟩
    · have HR : Hid (isSc n = false) := by unfold Hid isSc; simp [h2]
      go_enter Try.func46, Try.ntmps46
      go_wp2
      go_ret
      exact ⟨ret_bool HR.out.symm, rfl⟩
  · have HR : Hid (isSc n = false) := by unfold Hid isSc; simp [h1]
    go_enter Try.func46, Try.ntmps46
    go_wp2
    go_ret
    exact ⟨ret_bool HR.out.symm, rfl⟩

set_option maxRecDepth 20000 in
set_option maxHeartbeats 800000 in
theorem rat_any {base br : Nat} {vL : Value} {L : Vl} (m : Int) (p : ByteArray) (w : World) (h : RSet base br vL L w) (hl : L.length ≤ 4096) :
    Calls Try.prog 35 #[rptr br, .int .i64 m, .string p] w fun e w' => ∃ r, e = .returned (.int .i64 r) ∧ AtIs L m p r ∧ w = w' := by
  obtain ⟨a, cap, hv, hcap, hc⟩ := vars_slice h.row
  have c2 := h.c0
  subst hv
  obtain ⟨n, hn⟩ : ∃ n, n = L.length := ⟨_, rfl⟩
  rw [← hn] at hl hcap c2
  have HC : Hid (n = L.length ∧ ∀ i (_ : i < L.length), ∃ g, a = some ⟨g, 0, none⟩ ∧ g < w.heap.size ∧ ∀ j, j < 3 → w.cell? ⟨g, i * 3 + j, none⟩ = (varV L[i])[j]?) := ⟨hn, hc⟩
  clear hn hc h
  go_enter Try.func35, Try.ntmps35
  go_wp2
  go_loopw [7] (fun vi wr => ∃ k : Nat, k ≤ n ∧ vi = .int .i64 k ∧ w = wr ∧ Hid (∀ j, j < k → ∀ x, L[j]? = some x → ¬ (x.n = m ∧ x.q = p))) (fun vi _ => n - (intOf vi).toNat)
  case atStart => exact ⟨0, Nat.zero_le _, rfl, rfl, fun j hj => by omega⟩
  case round =>
    obtain ⟨k, hk, rfl, rfl, HB⟩ := hrel
    by_cases hlt : k < n
    · have hkl : k < L.length := by rw [← HC.out.1]; exact hlt
      have hil : (k : Int) < (n : Int) := by omega
      obtain ⟨g, rfl, _, hcg⟩ := HC.out.2 k hkl
      have e0 : w.cell? ⟨g, k * 3, none⟩ = some (.int .i64 L[k].n) := hcg 0 (by omega)
      have e1 : w.cell? ⟨g, k * 3 + 1, none⟩ = some (.string L[k].q) := hcg 1 (by omega)
      obtain ⟨x, hx⟩ : ∃ x, x = L[k] := ⟨_, rfl⟩
      rw [← hx] at e0 e1
      have HX : Hid (L[k]? = some x) := by rw [hx]; exact List.getElem?_eq_getElem hkl
      obtain ⟨xn, q, e⟩ := x
      dsimp only at e0 e1
      clear hx hcg
      by_cases hm : xn = m
      · by_cases hq : q = p
        · subst hq
          subst hm
          go_wp2
          go_ret
          exact ⟨_, rfl, .inr ⟨k, _, rfl, HX.out, rfl, rfl, look_at HX.out rfl rfl HB.out, HB.out⟩, rfl⟩
        · have t0 := ba_ne_list hq
          have t1 : (q.toList == p.toList) = false := by simpa using t0
          have HB1 : Hid (∀ j, j < k + 1 → ∀ x, L[j]? = some x → ¬ (x.n = m ∧ x.q = p)) := fun j hj x hx => by
            by_cases hjk : j = k
            · subst hjk; rw [HX.out] at hx; cases hx; exact fun e => hq e.2
            · exact HB.out j (by omega) x hx
          clear hq
          subst hm
          go_wp2
          go_roundw
          case rel => exact ⟨k + 1, by omega, by go_num, trivial, HB1⟩
          case measure => simp [intOf]; omega
      · have tm : (xn == m) = false := by simpa using hm
        have HB1 : Hid (∀ j, j < k + 1 → ∀ x, L[j]? = some x → ¬ (x.n = m ∧ x.q = p)) := fun j hj x hx => by
          by_cases hjk : j = k
          · subst hjk; rw [HX.out] at hx; cases hx; exact fun e => hm e.1
          · exact HB.out j (by omega) x hx
        go_wp2
        go_roundw
        case rel => exact ⟨k + 1, by omega, by go_num, trivial, HB1⟩
        case measure => simp [intOf]; omega
    · obtain rfl : k = n := by omega
      go_wp2
      go_ret
      refine ⟨_, rfl, .inl ⟨rfl, look_nowhere fun j x hx => ?_⟩, rfl⟩
      have := (List.getElem?_eq_some_iff.1 hx).1
      exact HB.out j (by rw [HC.out.1]; exact this) x hx

theorem proj_next (L : Vl) (k : Nat) (h : k < L.length) (m : Int) : (proj (L.take (k + 1)) m).length = (proj (L.take k) m).length + if L[k].n = m then 1 else 0 := by
  rw [List.take_succ_eq_append_getElem h, proj_append, proj_cons, proj_nil, List.length_append]
  split <;> simp
theorem proj_len_take (L : Vl) (k : Nat) (m : Int) : (proj (L.take k) m).length ≤ k := by
  unfold proj; rw [List.length_map]; exact Nat.le_trans (List.length_filter_le _ _) (by rw [List.length_take]; omega)

set_option maxRecDepth 20000 in
set_option maxHeartbeats 800000 in
theorem rmany_any {base br : Nat} {vL : Value} {L : Vl} (m : Int) (w : World) (h : RSet base br vL L w) (hl : L.length ≤ 4096) :
    Calls Try.prog 47 #[rptr br, .int .i64 m] w fun e w' => e = .returned (.int .i64 (proj L m).length) ∧ w = w' := by
  obtain ⟨a, cap, hv, hcap, hc⟩ := vars_slice h.row
  have c2 := h.c0
  subst hv
  obtain ⟨n, hn⟩ : ∃ n, n = L.length := ⟨_, rfl⟩
  rw [← hn] at hl hcap c2
  have HC : Hid (n = L.length ∧ ∀ i (_ : i < L.length), ∃ g, a = some ⟨g, 0, none⟩ ∧ g < w.heap.size ∧ ∀ j, j < 3 → w.cell? ⟨g, i * 3 + j, none⟩ = (varV L[i])[j]?) := ⟨hn, hc⟩
  clear hn hc h
  go_enter Try.func47, Try.ntmps47
  go_wp2
  go_loopw [5, 6] (fun vc vi wr => ∃ k c : Nat, k ≤ n ∧ c ≤ k ∧ vi = .int .i64 k ∧ vc = .int .i64 c ∧ w = wr ∧ Hid (c = (proj (L.take k) m).length)) (fun _ vi _ => n - (intOf vi).toNat)
  case atStart => exact ⟨0, 0, Nat.zero_le _, Nat.le_refl _, rfl, rfl, rfl, rfl⟩
  case round =>
    obtain ⟨k, c, hk, hck, rfl, rfl, rfl, HB⟩ := hrel
    by_cases hlt : k < n
    · have hkl : k < L.length := by rw [← HC.out.1]; exact hlt
      have hil : (k : Int) < (n : Int) := by omega
      obtain ⟨g, rfl, _, hcg⟩ := HC.out.2 k hkl
      have e0 : w.cell? ⟨g, k * 3, none⟩ = some (.int .i64 L[k].n) := hcg 0 (by omega)
      have HP := proj_next L k hkl m
      obtain ⟨x, hx⟩ : ∃ x, x = L[k].n := ⟨_, rfl⟩
      rw [← hx] at e0 HP
      rw [← HB.out] at HP
      clear hx hcg
      by_cases hm : x = m
      · have HP1 : Hid (c + 1 = (proj (L.take (k + 1)) m).length) := by rw [HP, if_pos hm]; rfl
        clear HP
        subst hm
        go_wp2
        go_roundw
        case rel => exact ⟨k + 1, c + 1, by omega, by omega, by go_num, by go_num, trivial, HP1⟩
        case measure => simp [intOf]; omega
      · have HP1 : Hid (c = (proj (L.take (k + 1)) m).length) := by rw [HP, if_neg hm]; rfl
        have tm : (x == m) = false := by simpa using hm
        clear HP
        go_wp2
        go_roundw
        case rel => exact ⟨k + 1, c, by omega, by omega, by go_num, rfl, trivial, HP1⟩
        case measure => simp [intOf]; omega
    · obtain rfl : k = n := by omega
      have HE : Hid (c = (proj L m).length) := by have := HB.out; rw [HC.out.1, List.take_length] at this; exact this
      go_wp2
      go_ret
      exact ⟨ret_int (by rw [HE.out]), rfl⟩
end Go.Proofs.Ytjbmmeneejcpbaa
