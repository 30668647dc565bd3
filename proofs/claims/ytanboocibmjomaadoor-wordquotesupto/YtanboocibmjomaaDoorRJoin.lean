/-
  What the document's Join answers.
-/
import Derived.Test.YtanboocibmjomaaDoorKinds
import Derived.Test.YtanboocibmjomaaDoorJoinF
import Derived.Lib.AppendStr
namespace Go.Proofs.YtanboocibmjomaaDoor
open Go.RowKit Go.Shelf

def jnAt (l : List ByteArray) (k : Nat) : List UInt8 := K.joinB ((told (l.take k)).map bl)
theorem joinB_snoc (L : List (List UInt8)) (y : List UInt8) : K.joinB (L ++ [y]) = if L = [] then y else K.joinB L ++ [32] ++ y := by
  induction L with
  | nil => simp [K.joinB]
  | cons x t ih =>
    rw [if_neg (by simp)]
    cases t with
    | nil => simp [K.joinB]
    | cons z t =>
      rw [if_neg (by simp)] at ih
      rw [List.cons_append, List.cons_append, K.joinB_cons2, ← List.cons_append, ih, K.joinB_cons2]
      simp
theorem joinB_le (L M : List (List UInt8)) : (K.joinB L).length ≤ (K.joinB (L ++ M)).length := by
  induction L with
  | nil => simp [K.joinB]
  | cons x t ih =>
    cases t with
    | nil =>
      cases M with
      | nil => simp
      | cons z M => rw [List.cons_append, List.nil_append, K.joinB_cons2]; simp [K.joinB]
    | cons z t =>
      rw [List.cons_append, List.cons_append, K.joinB_cons2, K.joinB_cons2]
      rw [List.cons_append] at ih
      simp at ih ⊢; omega
theorem joinB_nil {L : List (List UInt8)} (h : ∀ x ∈ L, x ≠ []) : K.joinB L = [] ↔ L = [] := by
  cases L with
  | nil => simp [K.joinB]
  | cons x t =>
    have hx := h x (by simp)
    cases t with
    | nil => simp [K.joinB, hx]
    | cons y t => rw [K.joinB_cons2]; simp
theorem told_ne (l : List ByteArray) : ∀ x ∈ (told l).map bl, x ≠ [] := by
  intro x hx
  obtain ⟨y, hy, rfl⟩ := List.mem_map.1 hx
  have := (List.mem_filter.1 hy).2
  unfold neE at this
  rw [decide_eq_true_eq] at this
  exact fun e => this (bl_E.1 e)
theorem jnAt_le (l : List ByteArray) (k : Nat) : (jnAt l k).length ≤ (joined l).size := by
  unfold jnAt joined
  rw [ba_size]
  have e : told l = told (l.take k) ++ told (l.drop k) := by
    unfold told; rw [← List.filter_append, List.take_append_drop]
  rw [e, List.map_append]
  exact joinB_le _ _
theorem jnAt_skip (l : List ByteArray) (k : Nat) (h : k < l.length) (hE : l[k] = E) : jnAt l (k + 1) = jnAt l k := by
  unfold jnAt; rw [told_snoc l k h]; simp [neE, hE]
theorem jnAt_add (l : List ByteArray) (k : Nat) (h : k < l.length) (hE : l[k] ≠ E) : jnAt l (k + 1) = if jnAt l k = [] then bl l[k] else jnAt l k ++ [32] ++ bl l[k] := by
  have hn := joinB_nil (told_ne (l.take k))
  unfold jnAt
  rw [told_snoc l k h]
  have : neE l[k] = true := by unfold neE; simpa using hE
  rw [if_pos this, List.map_append, List.map_singleton, joinB_snoc]
  by_cases h0 : (told (l.take k)).map bl = []
  · rw [if_pos h0, if_pos (hn.2 h0)]
  · rw [if_neg h0, if_neg (fun e => h0 (hn.1 e))]
theorem strCells_bytes (x : ByteArray) : Lib.strCells x = Lib.byteCells (bl x) := by
  unfold Lib.strCells Lib.byteCells bl; rfl

theorem row_join {w : World} {base m : Nat} {v : Value} {y : List UInt8} {x : ByteArray} (h : w.ownsRow base 5 1 v (m + 1 + x.size) (Lib.byteCells (y ++ [32]) ++ Lib.strCells x)) (hll : y.length = m) : w.ownsRow base 5 1 v (y ++ [32] ++ bl x).length (Lib.byteCells (y ++ [32] ++ bl x)) := by
  have e1 : (y ++ [32] ++ bl x).length = m + 1 + x.size := by simp [bl_length, hll]; omega
  have e2 : Lib.byteCells (y ++ [32] ++ bl x) = Lib.byteCells (y ++ [32]) ++ Lib.strCells x := by rw [strCells_bytes]; simp [Lib.byteCells]
  rw [e1, e2]; exact h

set_option maxHeartbeats 1600000 in
set_option maxRecDepth 20000 in
theorem rjoin_any (a : Option Addr) (n c : Nat) (l : List ByteArray) (w : World) (hl : n ≤ 2000000) (hjs : (joined l).size ≤ 8000000) (hw : Words w.heap.size w (.slice a n c) l) :
    Calls Tryd.prog 21 #[.slice a n c] w fun e w' => e = .returned (.string (joined l)) ∧ Below w.heap.size w w' := by
  obtain ⟨i0, hi, hz0, hz1, hz2⟩ := info_parts info5
  have HW : Hid (n = l.length ∧ Words w.heap.size w (.slice a n c) l) := ⟨hw.len, hw⟩
  obtain ⟨j, hj⟩ : ∃ j, j = joined l := ⟨_, rfl⟩
  have HJ : Hid (j = joined l) := hj
  have HJl : Hid (∀ k, (jnAt l k).length ≤ j.size) := fun k => by rw [hj]; exact jnAt_le l k
  rw [← hj] at hjs ⊢
  clear hw hj
  go_enter Tryd.func21, Tryd.ntmps21
  go_wp2
  go_loopw [3, 4] (fun v vi wr => ∃ k : Nat, k ≤ n ∧ vi = .int .i64 k ∧ wr.ownsRow w.heap.size 5 1 v (jnAt l k).length (Lib.byteCells (jnAt l k)) ∧ Below w.heap.size w wr)
    (fun _ vi _ => n - (intOf vi).toNat)
  case atStart => exact ⟨0, Nat.zero_le _, rfl, World.ownsRow_nil _ _ _ _, Below.refl _ _⟩
  case round =>
    obtain ⟨k, hk, rfl, hown, hb⟩ := hrel
    have hbs := hb.size
    by_cases hlt : k < n
    · have hkl : k < l.length := by rw [← HW.out.1]; exact hlt
      have hil : (k : Int) < (n : Int) := by omega
      have hjl := HJl.out k
      have hjl1 := HJl.out (k + 1)
      obtain ⟨b, o, rfl, hbB, hcx0⟩ := HW.out.2.pick k hkl
      have f1 := jnAt_skip l k hkl
      have f2 := jnAt_add l k hkl
      obtain ⟨x, hxe⟩ : ∃ x, x = l[k] := ⟨_, rfl⟩
      rw [← hxe] at f1 f2 hcx0
      have hcx : wr.cell? ⟨b, o + k, none⟩ = some (.string x) := by rw [hb.cell (p := ⟨b, o + k, none⟩) hbB]; exact hcx0
      clear hxe hcx0
      by_cases hxE : x = E
      · have HF2 : Hid (jnAt l (k + 1) = jnAt l k) := f1 hxE
        subst hxE
        clear f1 f2 hjl hjl1
        go_wp2
        go_roundw
        case rel => exact ⟨k + 1, by omega, by go_num, by rw [HF2.out]; exact hown, hb⟩
        case measure => simp [intOf]; omega
      · have t1 : ¬ x.toList = [] := by rw [Lib.toList_data]; exact fun e => hxE (bl_E.1 e)
        have t1' : x.toList.isEmpty = false := by simpa using t1
        have f3 := f2 hxE
        clear f1 f2 hxE
        obtain ⟨y, hy⟩ : ∃ y, y = jnAt l k := ⟨_, rfl⟩
        rw [← hy] at f3 hown hjl
        clear hy
        obtain ⟨m, hll⟩ : ∃ m, y.length = m := ⟨_, rfl⟩
        rw [hll] at hown hjl
        have hx1 := bl_length x
        by_cases hy0 : y = []
        · rw [if_pos hy0] at f3
          have hm0 : m = 0 := by rw [← hll, hy0]; rfl
          subst hm0
          have HF : Hid (y = [] ∧ jnAt l (k + 1) = bl x) := ⟨hy0, f3⟩
          have hxs : x.size ≤ j.size := by rw [f3, hx1] at hjl1; exact hjl1
          obtain ⟨a0, cap0, hv0⟩ := bytes_slice hown
          subst hv0
          clear f3 hy0 hjl1 hx1 hll
          go_wp2_with (at_builtin; refine Lib.wpList_append_own_string _ rfl _ _ 52 9 rfl w.heap.size 5 i0 Tryd.underlying52 Tryd.underlying9 hi hz0 hz1 hz2 _ _ _ rfl hown x rfl (by unfold maxLen; omega) (by omega) hbs ?_; intro v' w2 hown' hgrow _; have HG1 : Hid (Below w.heap.size w w2) := hb.grown hgrow hbs (fun k hk => (hown.lt k hk).1); have HG2 : Hid (w2.ownsRow w.heap.size 5 1 v' (jnAt l (k + 1)).length (Lib.byteCells (jnAt l (k + 1)))) := (by unfold Hid; rw [HF.out.2, bl_length]; rw [HF.out.1, strCells_bytes] at hown'; simpa [Lib.byteCells] using hown'); clear hown' hgrow hown hb)
          go_roundw
          case rel => exact ⟨k + 1, by omega, by go_num, by assumption, by assumption⟩
          case measure => simp [intOf]; omega
        · rw [if_neg hy0] at f3
          have hm0 : 0 < m := by rw [← hll]; exact List.length_pos_iff.2 hy0
          have HF : Hid (jnAt l (k + 1) = y ++ [32] ++ bl x) := f3
          have hxs : m + 1 + x.size ≤ j.size := by rw [f3] at hjl1; simp at hjl1; omega
          have hmi : (0 : Int) < m := by omega
          obtain ⟨a0, cap0, hv0⟩ := bytes_slice hown
          subst hv0
          clear f3 hy0 hjl1 hx1
          go_wp2_with (at_builtin; refine wpList_append_own _ rfl (.tmp 19) (.tmp 20) 52 rfl w.heap.size 5 i0 (.int .u8 0) 1 1 Tryd.underlying52 hi hz0 hz1 hz2 rfl (by decide) _ _ _ rfl (hown.alloc _) ⟨wr.heap.size, 0, none⟩ 1 1 [.int .u8 32] rfl rfl ?c1 ?c2 ?c3 ?c4 ?c5 ?_)
          case c1 =>
            intro j u hj
            match j, hj with
            | 0, hj => simp at hj; subst hj; simp [Addr.add]
          case c2 => intro u hu; simp at hu; subst hu; rfl
          case c3 => unfold maxLen; omega
          case c4 => omega
          case c5 => simp; omega
          intro v' w2 hown' hgrow _
          have hb2 : Below w.heap.size w w2 := (hb.alloc hbs _).grown hgrow (by simp; omega) (fun k hk => (hown.lt k hk).1)
          have hcx2 : w2.cell? ⟨b, o + k, none⟩ = some (.string x) := by
            have h1 := hb.cell (p := ⟨b, o + k, none⟩) hbB
            rw [hb2.cell (p := ⟨b, o + k, none⟩) hbB, ← h1]; exact hcx
          have hbs2 := hb2.size
          have hown2 : w2.ownsRow w.heap.size 5 1 v' (m + 1) (Lib.byteCells (y ++ [32])) := by simpa [Lib.byteCells] using hown'
          obtain ⟨a2, cap2, hv2⟩ := bytes_slice hown2
          subst hv2
          clear hgrow hown hb hcx hown'
          go_wp2_with (at_builtin; refine Lib.wpList_append_own_string _ rfl _ _ 52 9 rfl w.heap.size 5 i0 Tryd.underlying52 Tryd.underlying9 hi hz0 hz1 hz2 _ _ _ rfl hown2 x rfl (by unfold maxLen; omega) (by omega) hbs2 ?_; intro v3 w3 hown3 hgrow3 _; have HG1 : Hid (Below w.heap.size w w3) := hb2.grown hgrow3 hbs2 (fun k hk => (hown2.lt k hk).1); have HG2 : Hid (w3.ownsRow w.heap.size 5 1 v3 (jnAt l (k + 1)).length (Lib.byteCells (jnAt l (k + 1)))) := (by unfold Hid; rw [HF.out]; exact row_join hown3 hll); clear hown3 hgrow3 hown2 hb2)
          go_roundw
          case rel => exact ⟨k + 1, by omega, by go_num, by assumption, by assumption⟩
          case measure => simp [intOf]; omega
    · obtain rfl : k = n := by omega
      have e2 : jnAt l k = K.joinB ((told l).map bl) := by unfold jnAt; rw [HW.out.1, List.take_length]
      have hcv : (convert 52 9 u3).run Tryd.prog wr = .ok (.string j) wr := by
        rw [e2] at hown
        rw [HJ.out]; exact run_conv hown
      obtain ⟨m, hm⟩ : ∃ m, m = (jnAt l k).length := ⟨_, rfl⟩
      rw [← hm] at hown
      obtain ⟨a0, cap0, hv0⟩ := bytes_slice hown
      subst hv0
      clear hown e2 hm
      go_wp2
      go_ret
      exact ⟨rfl, hb⟩
end Go.Proofs.YtanboocibmjomaaDoor
