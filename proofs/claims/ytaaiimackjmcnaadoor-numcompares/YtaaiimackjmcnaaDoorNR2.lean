/-
  The document's own reading of a number: what is of no program.
-/
import Derived.Test.YtaaiimackjmcnaaDoorNR1
namespace Go.Proofs.YtaaiimackjmcnaaDoor.N
open Go.RowKit Go.Shelf Go.Sort

theorem ok_two (c : UInt8) (h : c = 120 ∨ c = 88) : okD 10 [48, c] = false := by
  rcases h with rfl | rfl <;> decide
/-- Two bytes alone that look like a beginning of sixteens are no number either way. -/
theorem fin_two (m : Bool) (l : List UInt8) (h : l.length ≤ 2) : finD m (baseL l).2 (baseL l).1 = finD m 10 l := by
  unfold baseL
  cases hx : hexL l
  · simp
  · rw [if_pos rfl]
    unfold hexL at hx
    match l, hx, h with
    | [], hx, _ => simp at hx
    | [a], hx, _ => simp at hx
    | [a, c], hx, _ =>
      simp only [Bool.and_eq_true, Bool.or_eq_true, beq_iff_eq] at hx
      obtain ⟨rfl, hc⟩ := hx
      unfold finD
      rw [ok_two c hc]
      rfl
    | _ :: _ :: _ :: _, _, h => simp at h
theorem hex_get (t : ByteArray) (h2 : 2 < t.size) : hexL (bl t) = (t[0] == 48 && (t[1] == 120 || t[1] == 88)) := by
  have h0 := bl_get t 0 (by omega)
  have h1 := bl_get t 1 (by omega)
  unfold hexL
  match hb : bl t with
  | [] => rw [hb] at h0; simp at h0
  | [a] => rw [hb] at h1; simp at h1
  | a :: c :: r =>
    rw [hb] at h0 h1
    simp only [List.getElem?_cons_zero, List.getElem?_cons_succ, Option.some.injEq] at h0 h1
    simp only [h0, h1]
theorem sign_get (s : ByteArray) (h : 0 < s.size) : signL (bl s) = if s[0] = 45 then (bl (s.extract 1 s.size), true) else if s[0] = 43 then (bl (s.extract 1 s.size), false) else (bl s, false) := by
  have h0 := bl_get s 0 h
  have hx : bl (s.extract 1 s.size) = (bl s).drop 1 := by rw [bl_extract, List.take_of_length_le (by rw [bl_length]; exact Nat.le_refl _)]
  rw [hx]
  unfold signL
  cases hb : bl s with
  | nil => rw [hb] at h0; simp at h0
  | cons a r =>
    rw [hb] at h0
    simp only [List.getElem?_cons_zero, Option.some.injEq] at h0
    rw [h0]
    rfl
theorem okD_take_bad {b i : Nat} {t : ByteArray} (hi : i < t.size) (h : ¬ val1 t[i] < b) : okD b (bl t) = false := by
  unfold okD
  have : (bl t).all (fun c => decide (val1 c < b)) = false := by
    rw [List.all_eq_false]
    exact ⟨t[i], List.mem_of_getElem? (bl_get t i hi), by simpa using h⟩
  rw [this, Bool.and_false]
/-- What stands behind i bytes. -/
structure At (b : Nat) (t : ByteArray) (i : Nat) (n : Int) (ov : Bool) : Prop where
  all : ∀ c ∈ (bl t).take i, val1 c < b
  lo : 0 ≤ n
  hi : n ≤ 4611686018427387904
  val : ov = false → n = (numV b 0 ((bl t).take i) : Nat)
  big : ov = true → most < numV b 0 ((bl t).take i)
theorem At.zero (b : Nat) (t : ByteArray) : At b t 0 0 false := ⟨by simp, by decide, by decide, fun _ => rfl, fun h => Bool.noConfusion h⟩
theorem take_at (t : ByteArray) (i : Nat) (hi : i < t.size) : (bl t).take (i + 1) = (bl t).take i ++ [t[i]] := by
  unfold bl; rw [List.take_succ_eq_append_getElem (by simpa using hi)]; rfl
theorem At.all' {b : Nat} {t : ByteArray} {i : Nat} {n : Int} {ov : Bool} (h : At b t i n ov) (hi : i < t.size) (hv : val1 t[i] < b) : ∀ c ∈ (bl t).take (i + 1), val1 c < b := by
  rw [take_at t i hi]
  intro c hc
  rcases List.mem_append.1 hc with hc | hc
  · exact h.all c hc
  · rw [List.mem_singleton.1 hc]; exact hv
theorem At.num {b : Nat} {t : ByteArray} {i : Nat} (hi : i < t.size) : numV b 0 ((bl t).take (i + 1)) = numV b 0 ((bl t).take i) * b + val1 t[i] := by
  rw [take_at t i hi, numV_app]; rfl
theorem At.over {b : Nat} (hb : 1 ≤ b) {t : ByteArray} {i : Nat} {n : Int} (h : At b t i n true) (hi : i < t.size) (hv : val1 t[i] < b) : At b t (i + 1) n true :=
  { all := h.all' hi hv, lo := h.lo, hi := h.hi
    val := fun e => Bool.noConfusion e
    big := fun _ => by
      rw [At.num hi]
      have := h.big rfl
      have h2 : numV b 0 ((bl t).take i) * 1 ≤ numV b 0 ((bl t).take i) * b := Nat.mul_le_mul_left _ hb
      omega }
theorem At.more {b : Nat} {t : ByteArray} {i : Nat} {n : Int} (h : At b t i n false) (hi : i < t.size) (hv : val1 t[i] < b) (ho : n * b + val1 t[i] ≤ 4611686018427387904) : At b t (i + 1) (n * b + val1 t[i]) false := by
  have e := h.val rfl
  have e2 : n * b + val1 t[i] = ((numV b 0 ((bl t).take (i + 1)) : Nat) : Int) := by
    rw [At.num hi, e]
    simp
  exact { all := h.all' hi hv, lo := by rw [e2]; omega, hi := ho, val := fun _ => e2, big := fun e => Bool.noConfusion e }
theorem At.passes {b : Nat} {t : ByteArray} {i : Nat} {n : Int} (h : At b t i n false) (hi : i < t.size) (hv : val1 t[i] < b) (ho : ¬ n * b + val1 t[i] ≤ 4611686018427387904) : At b t (i + 1) n true := by
  have e := h.val rfl
  refine { all := h.all' hi hv, lo := h.lo, hi := h.hi, val := fun e => Bool.noConfusion e, big := fun _ => ?_ }
  rw [At.num hi]
  have e2 : n * b + val1 t[i] = ((numV b 0 ((bl t).take i) * b + val1 t[i] : Nat) : Int) := by
    rw [e]
    simp
  rw [e2] at ho
  unfold most
  omega
theorem At.ok {b : Nat} {t : ByteArray} {n : Int} {ov : Bool} (h : At b t t.size n ov) (hne : bl t ≠ []) : okD b (bl t) = true := by
  have h1 := h.all
  rw [List.take_of_length_le (by rw [bl_length]; exact Nat.le_refl _)] at h1
  unfold okD
  rw [Bool.and_eq_true]
  refine ⟨?_, List.all_eq_true.2 fun c hc => decide_eq_true (h1 c hc)⟩
  cases hb : bl t with
  | nil => exact absurd hb hne
  | cons => rfl
theorem At.end_over {m : Bool} {b : Nat} {t : ByteArray} {n : Int} (h : At b t t.size n true) (hne : bl t ≠ []) : finD m b (bl t) = (0, 5) := by
  have h1 := h.big rfl
  rw [List.take_of_length_le (by rw [bl_length]; exact Nat.le_refl _)] at h1
  unfold finD
  rw [if_pos (h.ok hne), if_pos h1]
theorem At.end_in {m : Bool} {b : Nat} {t : ByteArray} {n : Int} (h : At b t t.size n false) (hne : bl t ≠ []) : finD m b (bl t) = (if m then -n else n, 0) := by
  have h1 := h.val rfl
  rw [List.take_of_length_le (by rw [bl_length]; exact Nat.le_refl _)] at h1
  have h2 := h.hi
  unfold finD
  rw [if_pos (h.ok hne), if_neg (by unfold most; omega), h1]
theorem end_empty {m : Bool} {b : Nat} {t : ByteArray} (h : t.size = 0) : finD m b (bl t) = (0, 3) := by
  have : bl t = [] := List.eq_nil_of_length_eq_zero (by rw [bl_length]; exact h)
  unfold finD
  rw [this]
  rfl
theorem fin_bad {m : Bool} {b : Nat} {t : ByteArray} (h : okD b (bl t) = false) : finD m b (bl t) = (0, 3) := by
  unfold finD
  rw [h]
  rfl
theorem ne_of_size {t : ByteArray} (h : 0 < t.size) : bl t ≠ [] := by
  intro e
  have := bl_length t
  rw [e] at this
  simp at this
  omega
theorem ge10 (n v : Int) : ((4611686018427387904 - v) / 10 < n) ↔ ¬ n * 10 + v ≤ 4611686018427387904 := by omega
theorem ge16 (n v : Int) : ((4611686018427387904 - v) / 16 < n) ↔ ¬ n * 16 + v ≤ 4611686018427387904 := by omega
end Go.Proofs.YtaaiimackjmcnaaDoor.N
