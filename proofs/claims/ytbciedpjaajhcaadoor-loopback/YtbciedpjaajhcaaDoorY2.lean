/-
  What the document's own closing, End and cut answer.
-/
import Derived.Test.YtbciedpjaajhcaaDoorY1a
import Derived.Test.YtbciedpjaajhcaaDoorX5
namespace Go.Proofs.YtbciedpjaajhcaaDoor.Ex
open Go.RowKit Go.Shelf

/-- The place behind a use, as the document's End tells it. -/
def endI (at_ : Nat) : Option Nat → Int
  | none => -1
  | some k => ((at_ + k : Nat) : Int)
/-- What is left to be found from a place i on. -/
def Rest (s : ByteArray) (p : Nat) (o : UInt8) (d i : Nat) : Prop :=
  (bodyF ((bl s).drop (p + 2)).length o (clo o) 0 ((bl s).drop (p + 2))).map (fun k => p + 2 + k) = (bodyF ((bl s).drop i).length o (clo o) d ((bl s).drop i)).map (fun k => i + k)
theorem Rest.start (s : ByteArray) (p : Nat) (o : UInt8) : Rest s p o 0 (p + 2) := rfl
theorem body_unfold (n : Nat) (o c : UInt8) (d : Nat) (x : UInt8) (r : List UInt8) (hn : n = (x :: r).length) :
    bodyF n o c d (x :: r) =
      if x = 36 then (match endN (x :: r) with
        | none => none
        | some k => if r = [] then none else (bodyF ((x :: r).drop k).length o c d ((x :: r).drop k)).map (· + k))
      else if x = o then (bodyF r.length o c (d + 1) r).map (· + 1)
      else if x = c then (if d = 0 then some 1 else (bodyF r.length o c (d - 1) r).map (· + 1))
      else (bodyF r.length o c d r).map (· + 1) := by
  subst hn
  rw [List.length_cons, bodyF.eq_def]
  dsimp only
  by_cases h36 : x = 36
  · rw [if_pos h36, if_pos h36]
    cases r with
    | nil => rfl
    | cons y r2 =>
      dsimp only
      unfold endN
      dsimp only
      by_cases hy : clo y = 0
      · rw [if_pos hy, if_pos hy]
        dsimp only
        rw [if_neg (by simp : ¬ (y :: r2) = []), List.drop_succ_cons, List.drop_succ_cons, List.drop_zero, body_fuel (y :: r2).length r2.length _ _ _ r2 (by simp) (Nat.le_refl _)]
      · rw [if_neg hy, if_neg hy, body_fuel (y :: r2).length r2.length _ _ _ r2 (by simp) (Nat.le_refl _)]
        cases hb : bodyF r2.length y (clo y) 0 r2 with
        | none => rfl
        | some k =>
          have := body_le _ _ _ _ _ _ hb
          simp only [Option.map_some]
          rw [if_neg (by simp : ¬ (y :: r2) = []), List.drop_succ_cons, List.drop_succ_cons, body_fuel (y :: r2).length (r2.drop k).length _ _ _ (r2.drop k) (by rw [List.length_drop]; simp; omega) (Nat.le_refl _)]
  · rw [if_neg h36, if_neg h36]

theorem drop_at (s : ByteArray) (i : Nat) (h : i < s.size) : (bl s).drop i = s[i] :: (bl s).drop (i + 1) :=
  List.drop_eq_getElem_cons (by simpa [bl] using h)
theorem drop_len (s : ByteArray) (i : Nat) : ((bl s).drop i).length = s.size - i := by rw [List.length_drop, bl_length]
section
variable {s : ByteArray} {p d i : Nat} {o : UInt8}
def tot (s : ByteArray) (p : Nat) (o : UInt8) : Option Nat := (bodyF ((bl s).drop (p + 2)).length o (clo o) 0 ((bl s).drop (p + 2))).map (fun k => p + 2 + k)
theorem Rest.none_end (h : Rest s p o d i) (hi : ¬ i < s.size) : tot s p o = none := by
  unfold tot; rw [h]
  have : (bl s).drop i = [] := List.drop_of_length_le (by rw [bl_length]; omega)
  rw [this]; rfl
theorem Rest.bad (h : Rest s p o d i) (hi : i < s.size) (hc : s[i] = 36) (he : endN ((bl s).drop i) = none) : tot s p o = none := by
  unfold tot; rw [h]
  rw [drop_at s i hi] at he ⊢
  rw [body_unfold _ _ _ _ _ _ rfl, if_pos hc, he]; rfl
theorem Rest.use {k : Nat} (h : Rest s p o d i) (hi : i < s.size) (hc : s[i] = 36) (he : endN ((bl s).drop i) = some k) : Rest s p o d (i + k) := by
  unfold Rest at h ⊢
  rw [h]
  have hd : (bl s).drop (i + k) = (s[i] :: (bl s).drop (i + 1)).drop k := by rw [← drop_at s i hi, List.drop_drop]
  rw [hd]
  rw [drop_at s i hi] at he ⊢
  rw [body_unfold _ _ _ _ _ _ rfl, if_pos hc, he]
  dsimp only
  by_cases hr : (bl s).drop (i + 1) = []
  · rw [if_pos hr]
    have := end_le he
    rw [hr] at this ⊢
    obtain rfl : k = 1 := by simp at this; omega
    rfl
  · rw [if_neg hr, Option.map_map]
    congr 1
    funext z
    simp only [Function.comp]
    omega
theorem Rest.opens (h : Rest s p o d i) (hi : i < s.size) (hc : ¬ s[i] = 36) (ho : s[i] = o) : Rest s p o (d + 1) (i + 1) := by
  unfold Rest at h ⊢
  rw [h, drop_at s i hi, body_unfold _ _ _ _ _ _ rfl, if_neg hc, if_pos ho, Option.map_map]
  congr 1
  funext z
  simp only [Function.comp]
  omega
theorem Rest.found (h : Rest s p o 0 i) (hi : i < s.size) (hc : ¬ s[i] = 36) (ho : ¬ s[i] = o) (hs : s[i] = clo o) : tot s p o = some (i + 1) := by
  unfold tot; rw [h, drop_at s i hi, body_unfold _ _ _ _ _ _ rfl, if_neg hc, if_neg ho, if_pos hs, if_pos rfl]; rfl
theorem Rest.less (h : Rest s p o d i) (hi : i < s.size) (hc : ¬ s[i] = 36) (ho : ¬ s[i] = o) (hs : s[i] = clo o) (hd : 0 < d) : Rest s p o (d - 1) (i + 1) := by
  unfold Rest at h ⊢
  rw [h, drop_at s i hi, body_unfold _ _ _ _ _ _ rfl, if_neg hc, if_neg ho, if_pos hs, if_neg (by omega), Option.map_map]
  congr 1
  funext z
  simp only [Function.comp]
  omega
theorem Rest.plain (h : Rest s p o d i) (hi : i < s.size) (hc : ¬ s[i] = 36) (ho : ¬ s[i] = o) (hs : ¬ s[i] = clo o) : Rest s p o d (i + 1) := by
  unfold Rest at h ⊢
  rw [h, drop_at s i hi, body_unfold _ _ _ _ _ _ rfl, if_neg hc, if_neg ho, if_neg hs, Option.map_map]
  congr 1
  funext z
  simp only [Function.comp]
  omega
end
def optI : Option Nat → Int
  | none => -1
  | some v => (v : Int)
theorem end_tot (s : ByteArray) (p : Nat) (h : p + 1 < s.size) (hc : clo s[p + 1] ≠ 0) : endI p (endN ((bl s).drop p)) = optI (tot s p s[p + 1]) := by
  rw [drop_at s p (by omega), drop_at s (p + 1) h]
  unfold endN tot
  dsimp only
  rw [if_neg hc]
  cases bodyF ((bl s).drop (p + 1 + 1)).length s[p + 1] (clo s[p + 1]) 0 ((bl s).drop (p + 1 + 1)) with
  | none => rfl
  | some k => simp only [Option.map_some, endI, optI]; omega
theorem u8_int {a b : UInt8} : ((a.toNat : Int) = (b.toNat : Int)) ↔ a = b := by
  constructor
  · intro h; exact UInt8.toNat_inj.1 (by omega)
  · rintro rfl; rfl

end Go.Proofs.YtbciedpjaajhcaaDoor.Ex
