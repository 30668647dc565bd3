/-
  The uses of a text: what the document tells, what its own package answers, what the program answers, and the law.
-/
import Derived.Test.YthcbagggalehgaaGreatDoorE3
import Derived.Test.YthcbagggalehgaaGreatDoorX5
import Derived.Lib.AppendStr
import Derived.Lib.BufferRead
import Derived.Test.YthcbagggalehgaaGreatDoorK3
import Derived.Test.YthcbagggalehgaaGreatDoorK5
namespace Go.Proofs.YthcbagggalehgaaGreatDoor.Ex
open Go.RowKit Go.Shelf

def nameD (b : List UInt8) : List UInt8 := b.take (cutL b)
def usesD : Nat → List UInt8 → Option (List (List UInt8))
  | 0, _ => some []
  | n + 1, t => match t with
    | [] => some []
    | x :: r => if x = 36 then (match r with
      | [] => some []
      | y :: r2 => match endN (x :: y :: r2) with
        | none => none
        | some k => (usesD n ((x :: y :: r2).drop k)).map (fun l => if clo y = 0 then (if y = 36 then l else [y] :: l) else nameD (r2.take (k - 3)) :: l))
      else usesD n r
theorem usesD_fuel : ∀ (n m : Nat) (t : List UInt8), t.length ≤ n → t.length ≤ m → usesD n t = usesD m t := by
  intro n
  induction n with
  | zero => intro m t h1 h2; cases t with
    | nil => cases m <;> rfl
    | cons x r => simp at h1
  | succ n ih =>
    intro m t h1 h2
    cases t with
    | nil => cases m <;> rfl
    | cons x r =>
      cases m with
      | zero => simp at h2
      | succ m =>
        simp only [List.length_cons] at h1 h2
        unfold usesD
        dsimp only
        rw [ih m r (by omega) (by omega)]
        cases r with
        | nil => rfl
        | cons y r2 =>
          dsimp only
          cases he : endN (x :: y :: r2) with
          | none => rfl
          | some k =>
            have := end_le he
            simp only [List.length_cons] at this h1 h2
            dsimp only
            rw [ih m ((x :: y :: r2).drop k) (by rw [List.length_drop]; simp; omega) (by rw [List.length_drop]; simp; omega)]
def usesU (t : List UInt8) : Option (List (List UInt8)) := usesD t.length t
theorem usesU_nil : usesU [] = some [] := rfl
theorem usesU_last : usesU [36] = some [] := rfl
theorem usesU_other {x : UInt8} (r : List UInt8) (h : x ≠ 36) : usesU (x :: r) = usesU r := by
  unfold usesU; rw [List.length_cons, usesD.eq_def]; dsimp only; rw [if_neg h]
theorem usesU_none {y : UInt8} {r : List UInt8} (h : endN (36 :: y :: r) = none) : usesU (36 :: y :: r) = none := by
  unfold usesU; rw [List.length_cons, usesD.eq_def]; dsimp only; rw [if_pos rfl, h]
theorem usesU_use {y : UInt8} {r : List UInt8} {k : Nat} (h : endN (36 :: y :: r) = some k) : usesU (36 :: y :: r) = (usesU ((36 :: y :: r).drop k)).map (fun l => if clo y = 0 then (if y = 36 then l else [y] :: l) else nameD (r.take (k - 3)) :: l) := by
  have := end_le h
  simp only [List.length_cons] at this
  unfold usesU; rw [List.length_cons, usesD.eq_def]; dsimp only; rw [if_pos rfl, h]
  dsimp only
  rw [usesD_fuel (y :: r).length ((36 :: y :: r).drop k).length _ (by rw [List.length_drop]; simp; omega) (Nat.le_refl _)]

/-- Within a text that ends, every use ends: what the document's cut leans on. -/
def CutOk : Nat → List UInt8 → Prop
  | 0, _ => True
  | n + 1, t => match t with
    | [] => True
    | x :: r => if x = 58 then True else if x = 36 then (match endN (x :: r) with
      | none => False
      | some k => CutOk n ((x :: r).drop k)) else CutOk n r
theorem body_cut : ∀ (n : Nat) (o c : UInt8) (d : Nat) (t : List UInt8) (k m : Nat), bodyF n o c d t = some k → t.length ≤ n → CutOk m (t.take (k - 1)) := by
  intro n
  induction n with
  | zero => intro o c d t k m h; simp [bodyF] at h
  | succ n ih =>
    intro o c d t k m h hn
    have hk := (body_le _ _ _ _ _ _ h).1
    cases m with
    | zero => exact trivial
    | succ m =>
      cases t with
      | nil => simp [bodyF] at h
      | cons x r =>
        simp only [List.length_cons] at hn
        by_cases hk1 : k = 1
        · subst hk1; exact trivial
        · obtain ⟨j, rfl⟩ : ∃ j, k = j + 2 := ⟨k - 2, by omega⟩
          rw [show j + 2 - 1 = j + 1 by omega, List.take_succ_cons]
          unfold bodyF at h
          dsimp only at h
          unfold CutOk
          dsimp only
          by_cases h58 : x = 58
          · rw [if_pos h58]; trivial
          · rw [if_neg h58]
            by_cases h36 : x = 36
            · rw [if_pos h36] at h ⊢
              subst h36
              cases r with
              | nil => cases h
              | cons y r2 =>
                dsimp only at h
                simp only [List.length_cons] at hn
                by_cases hy : clo y = 0
                · rw [if_pos hy] at h
                  obtain ⟨k1, h1, e1⟩ := Option.map_eq_some_iff.1 h
                  have hk1b := (body_le _ _ _ _ _ _ h1).1
                  obtain ⟨i, rfl⟩ : ∃ i, j = i + 1 := ⟨j - 1, by omega⟩
                  have he : endN (36 :: (y :: r2).take (i + 1)) = some 2 := by rw [List.take_succ_cons]; unfold endN; dsimp only; rw [if_pos hy]
                  rw [he]
                  dsimp only
                  rw [List.take_succ_cons, List.drop_succ_cons, List.drop_succ_cons, List.drop_zero, show i = k1 - 1 by omega]
                  exact ih _ _ _ _ _ m h1 (by omega)
                · rw [if_neg hy] at h
                  cases h0 : bodyF n y (clo y) 0 r2 with
                  | none => rw [h0] at h; cases h
                  | some k0 =>
                    rw [h0] at h
                    dsimp only at h
                    obtain ⟨k1, h1, e1⟩ := Option.map_eq_some_iff.1 h
                    have hk1b := (body_le _ _ _ _ _ _ h1).1
                    have hk0 := body_le _ _ _ _ _ _ h0
                    obtain ⟨i, rfl⟩ : ∃ i, j = i + 1 := ⟨j - 1, by omega⟩
                    have hb0 : bodyF r2.length y (clo y) 0 r2 = some k0 := by rw [body_fuel r2.length n _ _ _ _ (Nat.le_refl _) (by omega)]; exact h0
                    have he0 := end_take (m := i + 2) (end_cons hy hb0) (by omega) (by omega)
                    rw [List.take_succ_cons] at he0
                    rw [he0]
                    dsimp only
                    rw [List.take_succ_cons, List.drop_succ_cons, List.drop_succ_cons, List.drop_take, show i - k0 = k1 - 1 by omega]
                    exact ih _ _ _ _ _ m h1 (by rw [List.length_drop]; omega)
            · rw [if_neg h36] at h ⊢
              have hrest : ∀ d', (bodyF n o c d' r).map (· + 1) = some (j + 2) → CutOk m (r.take j) := by
                intro d' h'
                obtain ⟨k1, h1, e1⟩ := Option.map_eq_some_iff.1 h'
                rw [show j = k1 - 1 by omega]
                exact ih _ _ _ _ _ m h1 (by omega)
              by_cases ho : x = o
              · rw [if_pos ho] at h; exact hrest _ h
              · rw [if_neg ho] at h
                by_cases hc : x = c
                · rw [if_pos hc] at h
                  by_cases hd : d = 0
                  · rw [if_pos hd] at h; cases h
                  · rw [if_neg hd] at h; exact hrest _ h
                · rw [if_neg hc] at h; exact hrest _ h
end Go.Proofs.YthcbagggalehgaaGreatDoor.Ex

namespace Go.Proofs.YthcbagggalehgaaGreatDoor.Ex
open Go.RowKit Go.Shelf

theorem rclosing (x : UInt8) (w : World) :
    Calls Tryz.prog 24 #[.int .u8 (x.toNat : Int)] w fun e w' => e = .returned (.int .u8 ((clo x).toNat : Int)) ∧ w = w' := by
  by_cases h1 : x = 123
  · subst h1
    go_enter Tryz.func24, Tryz.ntmps24
    go_wp2
    go_ret
    exact ⟨rfl, rfl⟩
  · have a1 : ¬ (x.toNat : Int) = 123 := by
      have h : ¬ x.toNat = 123 := fun h => h1 (UInt8.toNat_inj.1 (by rw [h]; rfl))
      omega
    have b1 : ((x.toNat : Int) == 123) = false := by simpa using a1
    by_cases h2 : x = 40
    · subst h2
      go_enter Tryz.func24, Tryz.ntmps24
      go_wp2
      go_ret
      exact ⟨rfl, rfl⟩
    · have a2 : ¬ (x.toNat : Int) = 40 := by
        have h : ¬ x.toNat = 40 := fun h => h2 (UInt8.toNat_inj.1 (by rw [h]; rfl))
        omega
      have b2 : ((x.toNat : Int) == 40) = false := by simpa using a2
      have hc : clo x = 0 := by unfold clo; rw [if_neg h1, if_neg h2]
      rw [hc]
      clear h1 h2 hc
      go_enter Tryz.func24, Tryz.ntmps24
      go_wp2
      go_ret
      exact ⟨rfl, rfl⟩

/-- The place behind a use, as the document's End tells it. -/
def endI (at_ : Nat) : Option Nat → Int
  | none => -1
  | some k => ((at_ + k : Nat) : Int)
/-- What is left to be found from a place i on. -/
def Rest (s : ByteArray) (p : Nat) (o : UInt8) (d i : Nat) : Prop :=
  (bodyF ((bl s).drop (p + 2)).length o (clo o) 0 ((bl s).drop (p + 2))).map (fun k => p + 2 + k) = (bodyF ((bl s).drop i).length o (clo o) d ((bl s).drop i)).map (fun k => i + k)
theorem Rest.start (s : ByteArray) (p : Nat) (o : UInt8) : Rest s p o 0 (p + 2) := rfl
theorem body_unfold (n : Nat) (o c : UInt8) (d : Nat) (x : UInt8) (r : List UInt8) (hn : n = (x :: r).length) :
    bodyF n o c d (x :: r) =
      if x = 36 then (match endN (x :: r) with
        | none => none
        | some k => if r = [] then none else (bodyF ((x :: r).drop k).length o c d ((x :: r).drop k)).map (· + k))
      else if x = o then (bodyF r.length o c (d + 1) r).map (· + 1)
      else if x = c then (if d = 0 then some 1 else (bodyF r.length o c (d - 1) r).map (· + 1))
      else (bodyF r.length o c d r).map (· + 1) := by
  subst hn
  rw [List.length_cons, bodyF.eq_def]
  dsimp only
  by_cases h36 : x = 36
  · rw [if_pos h36, if_pos h36]
    cases r with
    | nil => rfl
    | cons y r2 =>
      dsimp only
      unfold endN
      dsimp only
      by_cases hy : clo y = 0
      · rw [if_pos hy, if_pos hy]
        dsimp only
        rw [if_neg (by simp : ¬ (y :: r2) = []), List.drop_succ_cons, List.drop_succ_cons, List.drop_zero, body_fuel (y :: r2).length r2.length _ _ _ r2 (by simp) (Nat.le_refl _)]
      · rw [if_neg hy, if_neg hy, body_fuel (y :: r2).length r2.length _ _ _ r2 (by simp) (Nat.le_refl _)]
        cases hb : bodyF r2.length y (clo y) 0 r2 with
        | none => rfl
        | some k =>
          have := body_le _ _ _ _ _ _ hb
          simp only [Option.map_some]
          rw [if_neg (by simp : ¬ (y :: r2) = []), List.drop_succ_cons, List.drop_succ_cons, body_fuel (y :: r2).length (r2.drop k).length _ _ _ (r2.drop k) (by rw [List.length_drop]; simp; omega) (Nat.le_refl _)]
  · rw [if_neg h36, if_neg h36]

theorem drop_at (s : ByteArray) (i : Nat) (h : i < s.size) : (bl s).drop i = s[i] :: (bl s).drop (i + 1) :=
  List.drop_eq_getElem_cons (by simpa [bl] using h)
theorem drop_len (s : ByteArray) (i : Nat) : ((bl s).drop i).length = s.size - i := by rw [List.length_drop, bl_length]
section
variable {s : ByteArray} {p d i : Nat} {o : UInt8}
def tot (s : ByteArray) (p : Nat) (o : UInt8) : Option Nat := (bodyF ((bl s).drop (p + 2)).length o (clo o) 0 ((bl s).drop (p + 2))).map (fun k => p + 2 + k)
theorem Rest.none_end (h : Rest s p o d i) (hi : ¬ i < s.size) : tot s p o = none := by
  unfold tot; rw [h]
  have : (bl s).drop i = [] := List.drop_of_length_le (by rw [bl_length]; omega)
  rw [this]; rfl
theorem Rest.bad (h : Rest s p o d i) (hi : i < s.size) (hc : s[i] = 36) (he : endN ((bl s).drop i) = none) : tot s p o = none := by
  unfold tot; rw [h]
  rw [drop_at s i hi] at he ⊢
  rw [body_unfold _ _ _ _ _ _ rfl, if_pos hc, he]; rfl
theorem Rest.use {k : Nat} (h : Rest s p o d i) (hi : i < s.size) (hc : s[i] = 36) (he : endN ((bl s).drop i) = some k) : Rest s p o d (i + k) := by
  unfold Rest at h ⊢
  rw [h]
  have hd : (bl s).drop (i + k) = (s[i] :: (bl s).drop (i + 1)).drop k := by rw [← drop_at s i hi, List.drop_drop]
  rw [hd]
  rw [drop_at s i hi] at he ⊢
  rw [body_unfold _ _ _ _ _ _ rfl, if_pos hc, he]
  dsimp only
  by_cases hr : (bl s).drop (i + 1) = []
  · rw [if_pos hr]
    have := end_le he
    rw [hr] at this ⊢
    obtain rfl : k = 1 := by simp at this; omega
    rfl
  · rw [if_neg hr, Option.map_map]
    congr 1
    funext z
    simp only [Function.comp]
    omega
theorem Rest.opens (h : Rest s p o d i) (hi : i < s.size) (hc : ¬ s[i] = 36) (ho : s[i] = o) : Rest s p o (d + 1) (i + 1) := by
  unfold Rest at h ⊢
  rw [h, drop_at s i hi, body_unfold _ _ _ _ _ _ rfl, if_neg hc, if_pos ho, Option.map_map]
  congr 1
  funext z
  simp only [Function.comp]
  omega
theorem Rest.found (h : Rest s p o 0 i) (hi : i < s.size) (hc : ¬ s[i] = 36) (ho : ¬ s[i] = o) (hs : s[i] = clo o) : tot s p o = some (i + 1) := by
  unfold tot; rw [h, drop_at s i hi, body_unfold _ _ _ _ _ _ rfl, if_neg hc, if_neg ho, if_pos hs, if_pos rfl]; rfl
theorem Rest.less (h : Rest s p o d i) (hi : i < s.size) (hc : ¬ s[i] = 36) (ho : ¬ s[i] = o) (hs : s[i] = clo o) (hd : 0 < d) : Rest s p o (d - 1) (i + 1) := by
  unfold Rest at h ⊢
  rw [h, drop_at s i hi, body_unfold _ _ _ _ _ _ rfl, if_neg hc, if_neg ho, if_pos hs, if_neg (by omega), Option.map_map]
  congr 1
  funext z
  simp only [Function.comp]
  omega
theorem Rest.plain (h : Rest s p o d i) (hi : i < s.size) (hc : ¬ s[i] = 36) (ho : ¬ s[i] = o) (hs : ¬ s[i] = clo o) : Rest s p o d (i + 1) := by
  unfold Rest at h ⊢
  rw [h, drop_at s i hi, body_unfold _ _ _ _ _ _ rfl, if_neg hc, if_neg ho, if_neg hs, Option.map_map]
  congr 1
  funext z
  simp only [Function.comp]
  omega
end
def optI : Option Nat → Int
  | none => -1
  | some v => (v : Int)
theorem end_tot (s : ByteArray) (p : Nat) (h : p + 1 < s.size) (hc : clo s[p + 1] ≠ 0) : endI p (endN ((bl s).drop p)) = optI (tot s p s[p + 1]) := by
  rw [drop_at s p (by omega), drop_at s (p + 1) h]
  unfold endN tot
  dsimp only
  rw [if_neg hc]
  cases bodyF ((bl s).drop (p + 1 + 1)).length s[p + 1] (clo s[p + 1]) 0 ((bl s).drop (p + 1 + 1)) with
  | none => rfl
  | some k => simp only [Option.map_some, endI, optI]; omega
theorem u8_int {a b : UInt8} : ((a.toNat : Int) = (b.toNat : Int)) ↔ a = b := by
  constructor
  · intro h; exact UInt8.toNat_inj.1 (by omega)
  · rintro rfl; rfl

set_option maxHeartbeats 2000000 in
set_option maxRecDepth 20000 in
theorem rend (s : ByteArray) (hs : s.size ≤ 1000000) : ∀ (n p : Nat), p < s.size → s.size - p ≤ n → ∀ w : World,
    Calls Tryz.prog 23 #[.string s, .int .i64 (p : Int)] w fun e w' => e = .returned (.int .i64 (endI p (endN ((bl s).drop p)))) ∧ w = w' := by
  intro n
  induction n with
  | zero => intro p hp hn; omega
  | succ n ih =>
    intro p hp hn w
    by_cases h1 : p + 1 < s.size
    · obtain ⟨o, ho⟩ : ∃ o, o = s[p + 1] := ⟨_, rfl⟩
      have HO : Hid (o = s[p + 1]) := ho
      have hoN : s[p + 1].toNat = o.toNat := by rw [ho]
      have HC : Hid (∀ W, Calls Tryz.prog 24 #[.int .u8 (o.toNat : Int)] W fun e w' => e = .returned (.int .u8 ((clo o).toNat : Int)) ∧ W = w') := fun W => rclosing o W
      by_cases hc : clo o = 0
      · have HR : Hid (endI p (endN ((bl s).drop p)) = (p : Int) + 2) := by
          unfold Hid
          rw [drop_at s p hp, drop_at s (p + 1) h1]
          unfold endN
          dsimp only
          rw [if_pos (by rw [← ho]; exact hc)]
          simp only [endI]; omega
        rw [hc] at HC
        clear ho ih
        go_enter Tryz.func23, Tryz.ntmps23
        go_wp2_with fail
        refine (HC.out _).mono ?_
        rintro e w1 ⟨rfl, rfl⟩
        go_wp2
        go_ret
        exact ⟨by rw [HR.out]; rfl, rfl⟩
      · have HR : Hid (endI p (endN ((bl s).drop p)) = optI (tot s p o)) := by
          unfold Hid
          rw [ho]
          exact end_tot s p h1 (by rw [← ho]; exact hc)
        obtain ⟨c, hcc⟩ : ∃ c, c = clo o := ⟨_, rfl⟩
        have HCC : Hid (c = clo o) := hcc
        rw [← hcc] at HC
        have hc0 : ¬ (c.toNat : Int) = 0 := by
          have h : ¬ c.toNat = 0 := fun h => hc (by rw [← hcc]; exact UInt8.toNat_inj.1 (by rw [h]; rfl))
          omega
        have hc0b : ((c.toNat : Int) == 0) = false := by simpa using hc0
        have HI : Hid (∀ i W, p < i → i < s.size → Calls Tryz.prog 23 #[.string s, .int .i64 (i : Int)] W fun e w' => e = .returned (.int .i64 (endI i (endN ((bl s).drop i)))) ∧ W = w') := fun i W h2 h3 => ih i h3 (by omega) W
        clear ho hc hcc ih
        go_enter Tryz.func23, Tryz.ntmps23
        go_wp2_with fail
        refine (HC.out _).mono ?_
        rintro e w1 ⟨rfl, rfl⟩
        go_wp2
        go_loop [7, 8] (fun vd vi => ∃ d i : Nat, vd = .int .i64 (d : Int) ∧ vi = .int .i64 (i : Int) ∧ p + 2 ≤ i ∧ i ≤ s.size ∧ d ≤ i ∧ Hid (Rest s p o d i)) (fun _ vi => s.size - (intOf vi).toNat)
        case atStart => exact ⟨0, p + 2, rfl, rfl, Nat.le_refl _, by omega, by omega, Rest.start s p o⟩
        case round =>
          obtain ⟨d, i, rfl, rfl, hi0, hi1, hd, HRs⟩ := hrel
          by_cases hlt : i < s.size
          · obtain ⟨x, hx⟩ : ∃ x, x = s[i] := ⟨_, rfl⟩
            have HX : Hid (x = s[i]) := hx
            have hxN : s[i].toNat = x.toNat := by rw [hx]
            by_cases h36 : x = 36
            · subst h36
              have hxN2 : s[i].toNat = 36 := by rw [hxN]; rfl
              have HE := HI.out i w (by omega) hlt
              cases he : endN ((bl s).drop i) with
              | none =>
                have HT : Hid (tot s p o = none) := HRs.out.bad hlt HX.out.symm he
                rw [he] at HE
                have HE2 : Hid (Calls Tryz.prog 23 #[.string s, .int .i64 (i : Int)] w fun e w' => e = .returned (.int .i64 (-1)) ∧ w = w') := HE
                clear HE he HI hx hxN HRs
                go_wp2_with fail
                refine HE2.out.mono ?_
                rintro e w2 ⟨rfl, rfl⟩
                go_wp2
                go_ret
                exact ⟨by rw [HR.out, HT.out]; rfl, rfl⟩
              | some k =>
                have hk := end_le he
                rw [drop_len] at hk
                have HN : Hid (Rest s p o d (i + k)) := HRs.out.use hlt HX.out.symm he
                rw [he] at HE
                obtain ⟨j, hj⟩ : ∃ j, j = i + k := ⟨_, rfl⟩
                have HE2 : Hid (Calls Tryz.prog 23 #[.string s, .int .i64 (i : Int)] w fun e w' => e = .returned (.int .i64 (j : Int)) ∧ w = w') := by rw [hj]; exact HE
                rw [← hj] at HN
                have hj1 : i < j := by omega
                have hj2 : j ≤ s.size := by omega
                clear HE he HI hx hxN HRs hj hk
                go_wp2_with fail
                refine HE2.out.mono ?_
                rintro e w2 ⟨rfl, rfl⟩
                go_wp2
                exact ⟨⟨d, j, rfl, rfl, by omega, hj2, by omega, HN⟩, by simp [intOf]; omega⟩
            · have n36 : ¬ (x.toNat : Int) = 36 := by
                have h : ¬ x.toNat = 36 := fun h => h36 (UInt8.toNat_inj.1 (by rw [h]; rfl))
                omega
              have n36b : ((x.toNat : Int) == 36) = false := by simpa using n36
              have hs36 : ¬ s[i] = 36 := by rw [← hx]; exact h36
              by_cases hxo : x = o
              · have HN : Hid (Rest s p o (d + 1) (i + 1)) := HRs.out.opens hlt hs36 (by rw [← hx]; exact hxo)
                have e1 : ((x.toNat : Int) == (o.toNat : Int)) = true := by rw [hxo]; simp
                have e2 : (x.toNat : Int) = (o.toNat : Int) := by rw [hxo]
                clear HRs HI hx hs36 hxo h36
                go_wp2
                exact ⟨⟨d + 1, i + 1, rfl, rfl, by omega, by omega, by omega, HN⟩, by simp [intOf]; omega⟩
              · have e1 : ¬ (x.toNat : Int) = (o.toNat : Int) := fun h => hxo (u8_int.1 h)
                have e2 : ((x.toNat : Int) == (o.toNat : Int)) = false := by simpa using e1
                have hso : ¬ s[i] = o := by rw [← hx]; exact hxo
                by_cases hxc : x = c
                · have e3 : (x.toNat : Int) = (c.toNat : Int) := by rw [hxc]
                  have e4 : ((x.toNat : Int) == (c.toNat : Int)) = true := by rw [hxc]; simp
                  have hsc : s[i] = clo o := by rw [← hx, ← HCC.out]; exact hxc
                  by_cases hd0 : d = 0
                  · subst hd0
                    have HT : Hid (tot s p o = some (i + 1)) := HRs.out.found hlt hs36 hso hsc
                    clear HRs HI hx hs36 hxo h36 hxc hsc hso
                    go_wp2
                    go_ret
                    exact ⟨by rw [HR.out, HT.out]; rfl, rfl⟩
                  · have HN : Hid (Rest s p o (d - 1) (i + 1)) := HRs.out.less hlt hs36 hso hsc (by omega)
                    obtain ⟨d', rfl⟩ : ∃ d', d = d' + 1 := ⟨d - 1, by omega⟩
                    have hdd : ¬ ((d' + 1 : Nat) : Int) = 0 := by omega
                    have hddb : (((d' + 1 : Nat) : Int) == 0) = false := by simpa using hdd
                    clear HRs HI hx hs36 hxo h36 hxc hsc hso hd0
                    go_wp2
                    exact ⟨⟨d', i + 1, by (first | rfl | (congr 1; omega)), rfl, by omega, by omega, by omega, HN⟩, by simp [intOf]; omega⟩
                · have e3 : ¬ (x.toNat : Int) = (c.toNat : Int) := fun h => hxc (u8_int.1 h)
                  have e4 : ((x.toNat : Int) == (c.toNat : Int)) = false := by simpa using e3
                  have HN : Hid (Rest s p o d (i + 1)) := HRs.out.plain hlt hs36 hso (by rw [← hx, ← HCC.out]; exact hxc)
                  clear HRs HI hx hs36 hxo h36 hxc hso
                  go_wp2
                  exact ⟨⟨d, i + 1, rfl, rfl, by omega, by omega, by omega, HN⟩, by simp [intOf]; omega⟩
          · obtain rfl : i = s.size := by omega
            have HT : Hid (tot s p o = none) := HRs.out.none_end (by omega)
            clear HRs HI
            go_wp2
            go_ret
            exact ⟨by rw [HR.out, HT.out]; rfl, rfl⟩
    · have HR : Hid (endI p (endN ((bl s).drop p)) = (p : Int) + 1) := by
        unfold Hid
        have : (bl s).drop (p + 1) = [] := List.drop_of_length_le (by rw [bl_length]; omega)
        rw [drop_at s p hp, this]
        simp only [endN, endI]; omega
      clear ih
      go_enter Tryz.func23, Tryz.ntmps23
      go_wp2
      go_ret
      exact ⟨by rw [HR.out]; rfl, rfl⟩
end Go.Proofs.YthcbagggalehgaaGreatDoor.Ex

namespace Go.Proofs.YthcbagggalehgaaGreatDoor.Ex
open Go.RowKit Go.Shelf

structure CutAt (s : ByteArray) (i : Nat) : Prop where
  val : cutL (bl s) = i + cutL ((bl s).drop i)
  ok : ∀ m, CutOk m ((bl s).drop i)
theorem CutAt.start {s : ByteArray} (h : ∀ m, CutOk m (bl s)) : CutAt s 0 := ⟨by simp, h⟩
theorem CutAt.colon {s : ByteArray} {i : Nat} (h : CutAt s i) (hi : i < s.size) (hx : s[i] = 58) : cutL (bl s) = i := by
  rw [h.val, drop_at s i hi, hx, cut_colon]; rfl
theorem CutAt.other {s : ByteArray} {i : Nat} (h : CutAt s i) (hi : i < s.size) (h1 : ¬ s[i] = 58) (h2 : ¬ s[i] = 36) : CutAt s (i + 1) := by
  refine ⟨?_, fun m => ?_⟩
  · rw [h.val, drop_at s i hi, cut_other _ h1 h2]; omega
  · have := h.ok (m + 1)
    rw [drop_at s i hi] at this
    unfold CutOk at this
    dsimp only at this
    rwa [if_neg h1, if_neg h2] at this
theorem CutAt.ends {s : ByteArray} {i : Nat} (h : CutAt s i) (hi : i < s.size) (h2 : s[i] = 36) : ∃ k, endN ((bl s).drop i) = some k := by
  have := h.ok 1
  rw [drop_at s i hi] at this ⊢
  unfold CutOk at this
  dsimp only at this
  rw [if_neg (by rw [h2]; decide), if_pos h2] at this
  cases he : endN (s[i] :: (bl s).drop (i + 1)) with
  | none => rw [he] at this; exact this.elim
  | some k => exact ⟨k, rfl⟩
theorem CutAt.use {s : ByteArray} {i k : Nat} (h : CutAt s i) (hi : i < s.size) (h2 : s[i] = 36) (he : endN ((bl s).drop i) = some k) : CutAt s (i + k) := by
  have hd : (bl s).drop (i + k) = ((bl s).drop i).drop k := by rw [List.drop_drop]
  refine ⟨?_, fun m => ?_⟩
  · rw [h.val, hd]
    rw [drop_at s i hi, h2] at he ⊢
    rw [cut_use he]; omega
  · have := h.ok (m + 1)
    rw [hd]
    rw [drop_at s i hi] at this he ⊢
    unfold CutOk at this
    dsimp only at this
    rw [if_neg (by rw [h2]; decide), if_pos h2, he] at this
    exact this
theorem CutAt.fin {s : ByteArray} (h : CutAt s s.size) : cutL (bl s) = s.size := by
  rw [h.val, List.drop_of_length_le (by rw [bl_length]; exact Nat.le_refl _), cut_nil]; rfl

set_option maxHeartbeats 1000000 in
set_option maxRecDepth 20000 in
theorem rcut (s : ByteArray) (hs : s.size ≤ 1000000) (hok : ∀ m, CutOk m (bl s)) (w : World) :
    Calls Tryz.prog 25 #[.string s] w fun e w' => e = .returned (.int .i64 (cutL (bl s) : Nat)) ∧ w = w' := by
  have HI : Hid (∀ i W, i < s.size → Calls Tryz.prog 23 #[.string s, .int .i64 (i : Int)] W fun e w' => e = .returned (.int .i64 (endI i (endN ((bl s).drop i)))) ∧ W = w') := fun i W h => rend s hs s.size i h (by omega) W
  have H0 : Hid (CutAt s 0) := CutAt.start hok
  obtain ⟨z, hz⟩ : ∃ z : Int, z = (cutL (bl s) : Nat) := ⟨_, rfl⟩
  rw [← hz]
  have HZ : Hid (z = (cutL (bl s) : Nat)) := hz
  clear hok hz
  go_enter Tryz.func25, Tryz.ntmps25
  go_wp2
  go_loop [3] (fun vi => ∃ i : Nat, vi = .int .i64 (i : Int) ∧ i ≤ s.size ∧ Hid (CutAt s i)) (fun vi => s.size - (intOf vi).toNat)
  case atStart => exact ⟨0, rfl, Nat.zero_le _, H0⟩
  case round =>
    obtain ⟨i, rfl, hi, HC⟩ := hrel
    clear H0
    by_cases hlt : i < s.size
    · obtain ⟨x, hx⟩ : ∃ x, x = s[i] := ⟨_, rfl⟩
      have HX : Hid (x = s[i]) := hx
      have hxN : s[i].toNat = x.toNat := by rw [hx]
      by_cases h58 : x = 58
      · have HT : Hid (z = (i : Int)) := by unfold Hid; rw [HZ.out, HC.out.colon hlt (by rw [← hx]; exact h58)]
        subst h58
        have hxN2 : s[i].toNat = 58 := by rw [hxN]; rfl
        clear HC hx hxN HI
        go_wp2
        go_ret
        exact ⟨by rw [HT.out]; rfl, rfl⟩
      · have n58 : ¬ (x.toNat : Int) = 58 := by
          have h : ¬ x.toNat = 58 := fun h => h58 (UInt8.toNat_inj.1 (by rw [h]; rfl))
          omega
        have n58b : ((x.toNat : Int) == 58) = false := by simpa using n58
        by_cases h36 : x = 36
        · obtain ⟨k, he⟩ := HC.out.ends hlt (by rw [← hx]; exact h36)
          have hk := end_le he
          rw [drop_len] at hk
          have HN : Hid (CutAt s (i + k)) := HC.out.use hlt (by rw [← hx]; exact h36) he
          have HE := HI.out i w hlt
          rw [he] at HE
          obtain ⟨j, hj⟩ : ∃ j, j = i + k := ⟨_, rfl⟩
          have HE2 : Hid (Calls Tryz.prog 23 #[.string s, .int .i64 (i : Int)] w fun e w' => e = .returned (.int .i64 (j : Int)) ∧ w = w') := by rw [hj]; exact HE
          rw [← hj] at HN
          have hj1 : i < j := by omega
          have hj2 : j ≤ s.size := by omega
          subst h36
          have hxN2 : s[i].toNat = 36 := by rw [hxN]; rfl
          clear HC hx hxN HI HE he hj hk n58 n58b h58
          go_wp2_with fail
          refine HE2.out.mono ?_
          rintro e w2 ⟨rfl, rfl⟩
          go_wp2
          exact ⟨⟨j, rfl, hj2, HN⟩, by simp [intOf]; omega⟩
        · have n36 : ¬ (x.toNat : Int) = 36 := by
            have h : ¬ x.toNat = 36 := fun h => h36 (UInt8.toNat_inj.1 (by rw [h]; rfl))
            omega
          have n36b : ((x.toNat : Int) == 36) = false := by simpa using n36
          have HN : Hid (CutAt s (i + 1)) := HC.out.other hlt (by rw [← hx]; exact h58) (by rw [← hx]; exact h36)
          clear HC hx HI h58 h36
          go_wp2
          exact ⟨⟨i + 1, rfl, by omega, HN⟩, by simp [intOf]; omega⟩
    · obtain rfl : i = s.size := by omega
      have HT : Hid (z = (s.size : Int)) := by unfold Hid; rw [HZ.out, HC.out.fin]
      clear HC HI
      go_wp2
      go_ret
      exact ⟨by rw [HT.out]; rfl, rfl⟩

/-- How many bytes a use has that begins a text; 0: there is none. -/
def useN (l : List UInt8) : Nat := match l with
  | [] => 0
  | x :: r => if x = 36 then (endN (x :: r)).getD 0 else 0

set_option maxHeartbeats 1000000 in
set_option maxRecDepth 20000 in
theorem ruse (s : ByteArray) (hs : s.size ≤ 1000000) (w : World) :
    Calls Tryz.prog 15 #[.string s] w fun e w' => e = .returned (.int .i64 (useN (bl s) : Nat)) ∧ w = w' := by
  obtain ⟨z, hz⟩ : ∃ z : Int, z = (useN (bl s) : Nat) := ⟨_, rfl⟩
  rw [← hz]
  by_cases hp : 0 < s.size
  · have hd : bl s = s[0] :: (bl s).drop 1 := by
      have := drop_at s 0 hp
      rwa [List.drop_zero] at this
    have hemp : s.toList.isEmpty = false := by
      rw [← decide_eq_emptyBytes]
      exact decide_eq_false (fun e => by rw [e] at hp; exact absurd hp (by decide))
    have hemp2 : ¬ s.toList = [] := by intro e; rw [e] at hemp; simp at hemp
    by_cases h36 : s[0] = 36
    · have hN : s[0].toNat = 36 := by rw [h36]; rfl
      have HE := rend s hs s.size 0 hp (by omega) w
      rw [List.drop_zero] at HE
      have HZ : z = ((endN (bl s)).getD 0 : Nat) := by
        rw [hz, hd]; unfold useN; dsimp only; rw [if_pos h36]
      clear hz
      cases he : endN (bl s) with
      | none =>
        rw [he] at HE HZ
        have HE2 : Hid (Calls Tryz.prog 23 #[.string s, .int .i64 0] w fun e w' => e = .returned (.int .i64 (-1)) ∧ w = w') := HE
        have HZ2 : Hid (z = 0) := HZ
        clear HE HZ he hd h36
        go_enter Tryz.func15, Tryz.ntmps15
        go_wp2_with fail
        refine HE2.out.mono ?_
        rintro e w2 ⟨rfl, rfl⟩
        go_wp2
        go_ret
        exact ⟨by rw [HZ2.out]; rfl, rfl⟩
      | some k =>
        rw [he] at HE HZ
        have HE2 : Hid (Calls Tryz.prog 23 #[.string s, .int .i64 0] w fun e w' => e = .returned (.int .i64 (k : Int)) ∧ w = w') := by
          have e0 : endI 0 (some k) = (k : Int) := by simp [endI]
          rw [e0] at HE; exact HE
        have HZ2 : Hid (z = (k : Int)) := HZ
        have hk0 : 0 ≤ (k : Int) := by omega
        clear HE HZ he hd h36
        go_enter Tryz.func15, Tryz.ntmps15
        go_wp2_with fail
        refine HE2.out.mono ?_
        rintro e w2 ⟨rfl, rfl⟩
        go_wp2
        go_ret
        exact ⟨by rw [HZ2.out]; rfl, rfl⟩
    · have n36 : ¬ (s[0].toNat : Int) = 36 := by
        have h : ¬ s[0].toNat = 36 := fun h => h36 (UInt8.toNat_inj.1 (by rw [h]; rfl))
        omega
      have n36b : ((s[0].toNat : Int) == 36) = false := by simpa using n36
      have HZ : Hid (z = 0) := by unfold Hid; rw [hz, hd]; unfold useN; dsimp only; rw [if_neg h36]; rfl
      clear hz hd h36
      go_enter Tryz.func15, Tryz.ntmps15
      go_wp2
      go_ret
      exact ⟨by rw [HZ.out]; rfl, rfl⟩
  · have h0 : bl s = [] := List.eq_nil_of_length_eq_zero (by rw [bl_length]; omega)
    have hs0 : s = ⟨#[]⟩ := bl_inj (by rw [h0]; rfl)
    have HZ : Hid (z = 0) := by unfold Hid; rw [hz, h0]; rfl
    clear hz h0
    subst hs0
    go_enter Tryz.func15, Tryz.ntmps15
    go_wp2
    go_ret
    exact ⟨by rw [HZ.out]; rfl, rfl⟩
end Go.Proofs.YthcbagggalehgaaGreatDoor.Ex

namespace Go.Proofs.YthcbagggalehgaaGreatDoor.Ex
open Go.RowKit Go.Shelf

def escY (c : UInt8) : List UInt8 := if c = 36 then [36, 36] else [c]
def quoteY (l : List UInt8) : List UInt8 := l.flatMap escY
theorem quoteY_cons (c : UInt8) (r : List UInt8) : quoteY (c :: r) = escY c ++ quoteY r := by unfold quoteY; rw [List.flatMap_cons]
theorem quoteY_len (l : List UInt8) : (quoteY l).length ≤ 2 * l.length := by
  induction l with
  | nil => simp [quoteY]
  | cons c r ih => rw [quoteY_cons]; unfold escY; split <;> simp <;> omega
theorem info5y : (Tryz.prog.info? 5).map (fun i => (i.zero, i.size, i.bytes)) = some (some (.int .u8 0), 1, 1) := by kernel_rfl
theorem info_y {T : TypeId} {z : Option Value} {n b : Nat} (h : (Tryz.prog.info? T).map (fun i => (i.zero, i.size, i.bytes)) = some (z, n, b)) : ∃ i, Tryz.prog.info? T = some i ∧ i.zero = z ∧ i.size = n ∧ i.bytes = b := by
  cases hi : Tryz.prog.info? T with
  | none => rw [hi] at h; simp at h
  | some i => rw [hi] at h; simp at h; exact ⟨i, rfl, h.1, h.2.1, h.2.2⟩
theorem run_convY {w : World} {base : Nat} {v : Value} {l : List UInt8} (h : w.ownsRow base 5 1 v l.length (Lib.byteCells l)) : (convert 46 9 v).run Tryz.prog w = .ok (.string (ba l)) w := by
  obtain ⟨hxl, ⟨hv, hn0⟩ | ⟨g, cap, cur, hv, hg, hcur, hcap, hcm, hcs, hct⟩⟩ := h
  · have hqn : l = [] := List.length_eq_zero_iff.mp hn0
    rw [hv, hqn]
    exact Lib.run_convert_nil_bytes w 46 9 5 0 Tryz.underlying46 Tryz.underlying5 Tryz.underlying9
  · rw [hv]
    refine run_convert_bytes_back w 46 9 5 ⟨g, 0, none⟩ cap l Tryz.underlying46 Tryz.underlying5 Tryz.underlying9 ?_
    intro j hj
    have hjc : cur.toList[j]? = some (.int .u8 (l[j].toNat : Int)) := by
      have h2 : (cur.toList.take (l.length * 1))[j]? = (Lib.byteCells l)[j]? := by rw [hct]
      rw [List.getElem?_take_of_lt (by omega)] at h2
      rw [h2]; simp [Lib.byteCells, List.getElem?_map, List.getElem?_eq_getElem hj]
    have hc : w.cell? ⟨g, j, none⟩ = some (.int .u8 (l[j].toNat : Int)) := by
      simp only [World.cell?, hcur]
      simpa using hjc
    simp only [Addr.add]
    split
    · rename_i h0; subst h0; exact hc
    · simpa using hc
theorem bytes_sliceY {base : Nat} {w : World} {v : Value} {n : Nat} {xs : List Value} (h : w.ownsRow base 5 1 v n xs) : ∃ a cap, v = .slice a n cap := by
  rcases h.2 with ⟨rfl, rfl⟩ | ⟨g, cap, cur, rfl, _⟩
  · exact ⟨_, _, rfl⟩
  · exact ⟨_, _, rfl⟩

set_option maxRecDepth 20000 in
set_option maxHeartbeats 1000000 in
theorem rquote8 (y : ByteArray) (w : World) (hy : y.size ≤ 100000) : Calls Tryz.prog 13 #[.string y] w fun e w' => e = .returned (.string (ba (quoteY (bl y)))) ∧ Below w.heap.size w w' := by
  obtain ⟨i0, hi, hz0, hz1, hz2⟩ := info_y info5y
  obtain ⟨z, hz⟩ : ∃ z, z = ba (quoteY (bl y)) := ⟨_, rfl⟩
  rw [← hz]
  have HZ : Hid (z = ba (quoteY (bl y))) := hz
  clear hz
  have HM : Hid ((quoteY (bl y)).length ≤ 2000000) := by
    have h := quoteY_len (bl y)
    rw [bl_length] at h
    unfold Hid
    omega
  go_enter Tryz.func13, Tryz.ntmps13
  go_wp2_with fail
  go_loopw [3, 4] (fun v vi wr => ∃ (k : Nat) (x : List UInt8), k ≤ y.size ∧ vi = .int .i64 (k : Int) ∧ Hid (quoteY (bl y) = x ++ quoteY ((bl y).drop k)) ∧ wr.ownsRow w.heap.size 5 1 v x.length (Lib.byteCells x) ∧ Below w.heap.size w wr)
    (fun _ vi _ => y.size - (intOf vi).toNat)
  case atStart => exact ⟨0, [], Nat.zero_le _, rfl, by unfold Hid; simp, World.ownsRow_nil _ _ _ _, Below.refl _ _⟩
  case round =>
    obtain ⟨k, x, hk, rfl, HX, hown, hb⟩ := hrel
    have hbs := hb.size
    have hxl : x.length ≤ 2000000 := by
      have h1 := congrArg List.length HX.out
      have h2 := HM.out
      simp only [List.length_append] at h1
      omega
    obtain ⟨L, hll⟩ : ∃ L, x.length = L := ⟨_, rfl⟩
    rw [hll] at hown hxl
    by_cases hlt : k < y.size
    · have hil : (k : Int) < (y.size : Int) := by omega
      have hd : (bl y).drop k = y[k] :: (bl y).drop (k + 1) := drop_at y k hlt
      by_cases h1 : y[k].toNat = 36
      · have hX2 : Hid (quoteY (bl y) = (x ++ [36, 36]) ++ quoteY ((bl y).drop (k + 1))) := by
          unfold Hid
          have e : y[k] = 36 := UInt8.toNat_inj.1 (by rw [h1]; rfl)
          rw [HX.out, hd, quoteY_cons, e, List.append_assoc]; rfl
        have g1 : ((y[k].toNat : Int) == 36) = true := by simp; omega
        clear hd
        go_wp2_with (first | (at_builtin; refine wpList_append_own _ rfl _ _ 46 rfl w.heap.size 5 i0 (.int .u8 0) 1 1 Tryz.underlying46 hi hz0 hz1 hz2 rfl (by decide) _ _ _ rfl (hown.alloc _) ⟨wr.heap.size, 0, none⟩ 1 1 [.int .u8 36] rfl rfl (by intro j u hj; match j, hj with | 0, hj => simp at hj; subst hj; simp [Addr.add]) (by intro u hu; simp at hu; subst hu; rfl) (by unfold maxLen; omega) (by omega) (by simp; omega) ?_; intro v' w2 hown' hgrow _; have hb2 : Below w.heap.size w w2 := (hb.alloc hbs _).grown hgrow (by simp; omega) (fun k hk => (hown.lt k hk).1); have hown2 : w2.ownsRow w.heap.size 5 1 v' (L + 1) (Lib.byteCells (x ++ [36])) := (by simpa [Lib.byteCells, hll] using hown'); have hbs2 := hb2.size; clear hown' hgrow hown hb; obtain ⟨a2, c2, hv2⟩ := bytes_sliceY hown2; subst hv2) | (at_builtin; refine wpList_append_own _ rfl _ _ 46 rfl w.heap.size 5 i0 (.int .u8 0) 1 1 Tryz.underlying46 hi hz0 hz1 hz2 rfl (by decide) _ _ _ rfl (hown2.alloc _) ⟨w2.heap.size, 0, none⟩ 1 1 [.int .u8 36] rfl rfl (by intro j u hj; match j, hj with | 0, hj => simp at hj; subst hj; simp [Addr.add]) (by intro u hu; simp at hu; subst hu; rfl) (by unfold maxLen; omega) (by omega) (by simp; omega) ?_; intro v3 w3 hown' hgrow _; have HG1 : Hid (Below w.heap.size w w3) := (hb2.alloc hbs2 _).grown hgrow (by simp; omega) (fun k hk => (hown2.lt k hk).1); have HG2 : Hid (w3.ownsRow w.heap.size 5 1 v3 (x ++ [36, 36]).length (Lib.byteCells (x ++ [36, 36]))) := (by unfold Hid; have hl : (x ++ [36, 36]).length = L + 1 + 1 := (by rw [← hll]; simp); rw [hl]; simpa [Lib.byteCells] using hown'); clear hown' hgrow hown2 hb2))
        go_roundw
        case rel => exact ⟨k + 1, x ++ [36, 36], by omega, by go_num, hX2, HG2.out, HG1.out⟩
        case measure => simp [intOf]; omega
      · have g1 : ((y[k].toNat : Int) == 36) = false := by simp; omega
        have hX2 : Hid (quoteY (bl y) = (x ++ [y[k]]) ++ quoteY ((bl y).drop (k + 1))) := by
          unfold Hid
          have e : ¬ y[k] = 36 := fun e => h1 (by rw [e]; rfl)
          rw [HX.out, hd, quoteY_cons, List.append_assoc]
          unfold escY
          rw [if_neg e]
        clear hd h1
        go_wp2_with (at_builtin; refine wpList_append_own _ rfl _ _ 46 rfl w.heap.size 5 i0 (.int .u8 0) 1 1 Tryz.underlying46 hi hz0 hz1 hz2 rfl (by decide) _ _ _ rfl (hown.alloc _) ⟨wr.heap.size, 0, none⟩ 1 1 [.int .u8 y[k].toNat] rfl rfl (by intro j u hj; match j, hj with | 0, hj => simp at hj; subst hj; simp [Addr.add]) (by intro u hu; simp at hu; subst hu; rfl) (by unfold maxLen; omega) (by omega) (by simp; omega) ?_; intro v' w2 hown' hgrow _; have HG1 : Hid (Below w.heap.size w w2) := (hb.alloc hbs _).grown hgrow (by simp; omega) (fun k hk => (hown.lt k hk).1); have HG2 : Hid (w2.ownsRow w.heap.size 5 1 v' (x ++ [y[k]]).length (Lib.byteCells (x ++ [y[k]]))) := (by unfold Hid; simpa [Lib.byteCells, hll] using hown'); clear hown' hgrow hown hb)
        go_roundw
        case rel => exact ⟨k + 1, x ++ [y[k]], by omega, by go_num, hX2, HG2.out, HG1.out⟩
        case measure => simp [intOf]; omega
    · have hil : ¬ (k : Int) < (y.size : Int) := by omega
      have hcv : (convert 46 9 u3).run Tryz.prog wr = .ok (.string z) wr := by
        have e : z = ba x := by
          rw [HZ.out, HX.out, List.drop_eq_nil_of_le (by rw [bl_length]; omega)]
          simp [quoteY]
        rw [e]; exact run_convY (by rw [hll]; exact hown)
      obtain ⟨a, cap, hv⟩ := bytes_sliceY hown
      have HB : Hid (Below w.heap.size w wr) := hb
      subst hv
      clear hown hb
      go_wp2_with fail
      go_ret
      exact ⟨rfl, HB.out⟩
end Go.Proofs.YthcbagggalehgaaGreatDoor.Ex

namespace Go.Proofs.YthcbagggalehgaaGreatDoor.Ex
open Go.RowKit Go.Shelf

theorem infoSy : (Tryz.prog.info? 9).map (fun i => (i.zero, i.size, i.bytes)) = some (some (.string ⟨#[]⟩), 1, 16) := by kernel_rfl
theorem str_sliceY {base : Nat} {w : World} {v : Value} {n : Nat} {xs : List Value} (h : w.ownsRow base 9 1 v n xs) : ∃ a cap, v = .slice a n cap := by
  rcases h.2 with ⟨rfl, rfl⟩ | ⟨g, cap, cur, rfl, _⟩
  · exact ⟨_, _, rfl⟩
  · exact ⟨_, _, rfl⟩
theorem sl2 (s : ByteArray) (a b : Nat) (h1 : a ≤ b) (h2 : b ≤ s.size) (i j : Int) (hi : i = (a : Int)) (hj : j = (b : Int)) (W : World) : (Instr.slice 9 (.string s) (some (.int .i64 i)) (some (.int .i64 j)) none).run Tryz.prog W = .ok (.string (s.extract a b)) W := by
  subst hi hj
  rw [run_slice_string_if W 9 s .i64 .i64 _ _ Tryz.underlying9, if_pos ⟨by omega, by omega⟩, if_pos ⟨by omega, by omega⟩]
  simp
theorem slh (s : ByteArray) (b : Nat) (h2 : b ≤ s.size) (W : World) : (Instr.slice 9 (.string s) none (some (.int .i64 (b : Int))) none).run Tryz.prog W = .ok (.string (s.extract 0 b)) W := by
  have := run_slice_string_h (P := Tryz.prog) (t := 9) (s := s) (w := W) Tryz.underlying9 .i64 (b : Int) (by omega) (by omega)
  simpa using this
theorem bl_ext (s : ByteArray) (a b : Nat) : bl (s.extract a b) = ((bl s).drop a).take (b - a) := by
  rw [bl_extract, List.drop_take]
/-- What the text from i on still gives. -/
def RestU (s : ByteArray) (R : Option (List ByteArray)) (r : List ByteArray) (i : Nat) : Prop := R = (usesU ((bl s).drop i)).map (fun t => r ++ t.map ba)
def RUsesPost (R : Option (List ByteArray)) (w : World) (e : Ending) (w' : World) : Prop := Below w.heap.size w w' ∧ match R with
  | none => e = .returned (.tuple #[.slice none 0 0, .int .i64 4])
  | some r => ∃ v, e = .returned (.tuple #[v, .int .i64 0]) ∧ w'.ownsRow w.heap.size 9 1 v r.length (r.map Value.string)
section
variable {s : ByteArray} {R : Option (List ByteArray)} {r : List ByteArray} {i : Nat}
theorem RestU.other (h : RestU s R r i) (hi : i < s.size) (hx : ¬ s[i] = 36) : RestU s R r (i + 1) := by
  unfold RestU at h ⊢
  rw [h, drop_at s i hi, usesU_other _ hx]
theorem RestU.last (h : RestU s R r i) (hi : i < s.size) (hx : s[i] = 36) (hl : i + 1 = s.size) : RestU s R r (i + 1) := by
  unfold RestU at h ⊢
  have : (bl s).drop (i + 1) = [] := List.drop_of_length_le (by rw [bl_length]; omega)
  rw [h, drop_at s i hi, this, hx, usesU_last, usesU_nil]
theorem RestU.fin (h : RestU s R r s.size) : R = some r := by
  unfold RestU at h
  rw [h, List.drop_of_length_le (by rw [bl_length]; exact Nat.le_refl _), usesU_nil]
  simp
theorem RestU.bad (h : RestU s R r i) (hi : i < s.size) (hx : s[i] = 36) (hl : i + 1 < s.size) (he : endN ((bl s).drop i) = none) : R = none := by
  unfold RestU at h
  rw [drop_at s i hi, drop_at s (i + 1) hl, hx] at he h
  rw [h, usesU_none he]; rfl
theorem RestU.use {k : Nat} (h : RestU s R r i) (hi : i < s.size) (hx : s[i] = 36) (hl : i + 1 < s.size) (he : endN ((bl s).drop i) = some k) :
    RestU s R (if clo s[i + 1] = 0 then (if s[i + 1] = 36 then r else r ++ [ba [s[i + 1]]]) else r ++ [ba (nameD (((bl s).drop (i + 2)).take (k - 3)))]) (i + k) := by
  unfold RestU at h ⊢
  have hd : (bl s).drop (i + k) = ((bl s).drop i).drop k := by rw [List.drop_drop]
  rw [h, hd]
  rw [drop_at s i hi, drop_at s (i + 1) hl, hx] at he ⊢
  rw [usesU_use he, Option.map_map]
  congr 1
  funext t
  simp only [Function.comp]
  split
  · split
    · rfl
    · simp
  · simp
end
theorem end_two {s : ByteArray} {i k : Nat} (hi : i < s.size) (hl : i + 1 < s.size) (he : endN ((bl s).drop i) = some k) : (clo s[i + 1] = 0 → k = 2) ∧ (clo s[i + 1] ≠ 0 → 3 ≤ k ∧ ∀ m, CutOk m (((bl s).drop (i + 2)).take (k - 3))) := by
  rw [drop_at s i hi, drop_at s (i + 1) hl] at he
  unfold endN at he
  dsimp only at he
  refine ⟨fun h => ?_, fun h => ?_⟩
  · rw [if_pos h] at he; exact (Option.some.inj he).symm
  · rw [if_neg h] at he
    obtain ⟨k1, h1, rfl⟩ := Option.map_eq_some_iff.1 he
    have := body_le _ _ _ _ _ _ h1
    refine ⟨by omega, fun m => ?_⟩
    have := body_cut _ _ _ _ _ _ m h1 (Nat.le_refl _)
    rwa [show k1 + 2 - 3 = k1 - 1 by omega]

set_option maxRecDepth 20000 in
set_option maxHeartbeats 2000000 in
theorem ruses (s : ByteArray) (w : World) (hs : s.size ≤ 100000) (R : Option (List ByteArray)) (hR : R = (usesU (bl s)).map (List.map ba)) :
    Calls Tryz.prog 10 #[.string s] w (RUsesPost R w) := by
  obtain ⟨i0, hi0, hz0, hz1, hz2⟩ := info_y infoSy
  have HI : Hid (∀ i W, i < s.size → Calls Tryz.prog 23 #[.string s, .int .i64 (i : Int)] W fun e w' => e = .returned (.int .i64 (endI i (endN ((bl s).drop i)))) ∧ W = w') := fun i W h => rend s (by omega) s.size i h (by omega) W
  have HC : Hid (∀ (x : UInt8) W, Calls Tryz.prog 24 #[.int .u8 (x.toNat : Int)] W fun e w' => e = .returned (.int .u8 ((clo x).toNat : Int)) ∧ W = w') := fun x W => rclosing x W
  have H0 : Hid (RestU s R [] 0) := by unfold Hid RestU; rw [hR, List.drop_zero]; rfl
  clear hR
  go_enter Tryz.func10, Tryz.ntmps10
  go_wp2_with fail
  go_loopw [4, 5] (fun v vi wr => ∃ (i m c : Nat) (a : Option Addr) (r : List ByteArray), i ≤ s.size ∧ m ≤ i ∧ v = .slice a m c ∧ vi = .int .i64 (i : Int) ∧ Hid (m = r.length ∧ RestU s R r i) ∧ wr.ownsRow w.heap.size 9 1 (.slice a m c) m (r.map Value.string) ∧ Below w.heap.size w wr)
    (fun _ vi _ => s.size - (intOf vi).toNat)
  case atStart => exact ⟨0, 0, 0, none, [], Nat.zero_le _, Nat.le_refl _, rfl, rfl, ⟨rfl, H0⟩, World.ownsRow_nil _ _ _ _, Below.refl _ _⟩
  case round =>
    obtain ⟨i, m, c, a, r, hi, hmi, rfl, rfl, HX, hown, hb⟩ := hrel
    have hbs := hb.size
    clear H0
    by_cases hlt : i < s.size
    · have hil : (i : Int) < (s.size : Int) := by omega
      obtain ⟨x, hx⟩ : ∃ x, x = s[i] := ⟨_, rfl⟩
      have hxN : s[i].toNat = x.toNat := by rw [hx]
      by_cases h36 : x = 36
      · have hs36 : s[i] = 36 := by rw [← hx]; exact h36
        have hxN2 : s[i].toNat = 36 := by rw [hs36]; rfl
        by_cases hl : i + 1 < s.size
        · have hne : ¬ (i : Int) + 1 = (s.size : Int) := by omega
          have hneb : ((i : Int) + 1 == (s.size : Int)) = false := by simpa using hne
          have HE := HI.out i wr hlt
          cases he : endN ((bl s).drop i) with
          | none =>
            have hRn : R = none := HX.out.2.bad hlt hs36 hl he
            subst hRn
            rw [he] at HE
            have HE2 : Hid (Calls Tryz.prog 23 #[.string s, .int .i64 (i : Int)] wr fun e w' => e = .returned (.int .i64 (-1)) ∧ wr = w') := HE
            have HB : Hid (Below w.heap.size w wr) := hb
            clear HE he HI HC hx hxN h36 hs36 HX hown hb
            go_wp2_with fail
            refine HE2.out.mono ?_
            rintro e w2 ⟨rfl, rfl⟩
            go_wp2
            go_ret2
            exact ⟨HB.out, rfl⟩
          | some k =>
            have hk := end_le he
            rw [drop_len] at hk
            obtain ⟨hk2, hk3⟩ := end_two hlt hl he
            have hN := HX.out.2.use hlt hs36 hl he
            rw [he] at HE
            obtain ⟨j, hj⟩ : ∃ j, j = i + k := ⟨_, rfl⟩
            have HE2 : Hid (Calls Tryz.prog 23 #[.string s, .int .i64 (i : Int)] wr fun e w' => e = .returned (.int .i64 (j : Int)) ∧ wr = w') := by rw [hj]; exact HE
            rw [← hj] at hN
            obtain ⟨y, hy⟩ : ∃ y, y = s[i + 1] := ⟨_, rfl⟩
            rw [← hy] at hk2 hk3 hN
            have hj2 : j ≤ s.size := by omega
            have hjn : ¬ (j : Int) < 0 := by omega
            have hk1 : 2 ≤ k := by
              by_cases hcy : clo y = 0
              · have := hk2 hcy; omega
              · have := (hk3 hcy).1; omega
            obtain ⟨q, hq⟩ : ∃ q, q = s.extract (i + 1) j := ⟨_, rfl⟩
            have hsl := sl2 s (i + 1) j (by omega) hj2 ((i : Int) + 1) (j : Int) (by omega) rfl
            rw [← hq] at hsl
            have hqb : bl q = y :: ((bl s).drop (i + 2)).take (k - 2) := by
              rw [hq, bl_ext, drop_at s (i + 1) hl, ← hy, show j - (i + 1) = (k - 2) + 1 by omega, List.take_succ_cons]
            have hqs : q.size = k - 1 := by
              rw [hq, ByteArray.size_extract]; omega
            have hq0 : 0 < q.size := by omega
            have hij : i < j := by omega
            have hqz : q.size ≤ 100000 := by omega
            have hqN : q[0].toNat = y.toNat := by
              have := drop_at q 0 hq0
              rw [List.drop_zero, hqb] at this
              injection this with h1 h2
              rw [← h1]
            have HCy : Hid (∀ W, Calls Tryz.prog 24 #[.int .u8 (y.toNat : Int)] W fun e w' => e = .returned (.int .u8 ((clo y).toNat : Int)) ∧ W = w') := fun W => HC.out y W
            clear HE he HI HC hx hxN h36 hs36 hq hy
            by_cases hcy : clo y = 0
            · obtain rfl := hk2 hcy
              rw [if_pos hcy] at hN
              rw [hcy] at HCy
              have hqy : q = ba [y] := bl_inj (by rw [hqb, bl_ba]; simp)
              by_cases h36 : y = 36
              · rw [if_pos h36] at hN
                have hqe : q.toList = [36] := by rw [hqy, h36, Lib.toList_data]; rfl
                have hqeb : (q.toList == [36]) = true := by rw [hqe]; rfl
                have HN : Hid (m = r.length ∧ RestU s R r j) := ⟨HX.out.1, hN⟩
                clear hk2 hk3 hcy hqb hqy HX hN hj h36 hqs
                go_wp2_with fail
                refine HE2.out.mono ?_
                rintro e w2 ⟨rfl, rfl⟩
                go_wp2_with fail
                refine (HCy.out _).mono ?_
                rintro e w2 ⟨rfl, rfl⟩
                go_wp2_with fail
                go_roundw
                case rel => exact ⟨j, m, c, a, r, hj2, by omega, rfl, rfl, HN, hown, hb⟩
                case measure => simp [intOf]; omega
              · rw [if_neg h36] at hN
                rw [← hqy] at hN
                have hqne : (q.toList == [36]) = false := by
                  rw [hqy]
                  have e : (ba [y]).toList = [y] := by rw [Lib.toList_data]; rfl
                  rw [e]
                  simpa using h36
                have hqne2 : ¬ q.toList = [36] := by simpa using hqne
                have HN : Hid (m = r.length ∧ RestU s R (r ++ [q]) j) := ⟨HX.out.1, hN⟩
                clear hk2 hk3 hcy hqb hqy HX hN hj h36 hqs
                go_wp2_with (first | (go_at_call 23; refine HE2.out.mono ?_; rintro e w2 ⟨rfl, rfl⟩) | (go_at_call 24; refine (HCy.out _).mono ?_; rintro e w2 ⟨rfl, rfl⟩) | (at_builtin; refine wpList_append_own _ rfl _ _ 23 rfl w.heap.size 9 i0 (.string ⟨#[]⟩) 1 16 Tryz.underlying23 hi0 hz0 hz1 hz2 rfl (by decide) _ _ _ rfl (hown.alloc _) ⟨wr.heap.size, 0, none⟩ 1 1 [.string q] rfl rfl (by intro j u hj; match j, hj with | 0, hj => simp at hj; subst hj; simp [Addr.add]) (by intro u hu; simp at hu; subst hu; rfl) (by unfold maxLen; omega) (by omega) (by simp; omega) ?_; intro v' w2 hown' hgrow _; have HG1 : Hid (Below w.heap.size w w2) := (hb.alloc hbs _).grown hgrow (by simp; omega) (fun k hk => (hown.lt k hk).1); have HG2 : Hid (w2.ownsRow w.heap.size 9 1 v' (m + 1) ((r ++ [q]).map Value.string)) := (by unfold Hid; simpa using hown'); clear hown' hgrow hown hb))
                go_roundw
                case rel =>
                  have hG2 := HG2.out
                  obtain ⟨a2, c2, rfl⟩ := str_sliceY hG2
                  exact ⟨j, m + 1, c2, a2, r ++ [q], hj2, by omega, rfl, rfl, ⟨by rw [List.length_append, ← HN.out.1]; rfl, HN.out.2⟩, hG2, HG1.out⟩
                case measure => simp [intOf]; omega
            · obtain ⟨hk4, hcut⟩ := hk3 hcy
              rw [if_neg hcy] at hN
              have hcn : ¬ ((clo y).toNat : Int) = 0 := by
                have h : ¬ (clo y).toNat = 0 := fun h => hcy (UInt8.toNat_inj.1 (by rw [h]; rfl))
                omega
              have hcnb : (((clo y).toNat : Int) == 0) = false := by simpa using hcn
              obtain ⟨z, hz⟩ : ∃ z, z = q.extract 1 (k - 2) := ⟨_, rfl⟩
              have hzb : bl z = ((bl s).drop (i + 2)).take (k - 3) := by
                rw [hz, bl_ext, hqb, List.drop_succ_cons, List.drop_zero, List.take_take, Nat.min_eq_left (by omega), show k - 2 - 1 = k - 3 by omega]
              have hsl2 := sl2 q 1 (k - 2) (by omega) (by omega) 1 ((q.size : Int) - 1) rfl (by omega)
              rw [← hz] at hsl2
              have hzs : z.size ≤ 100000 := by rw [hz, ByteArray.size_extract]; omega
              rw [← hzb] at hcut hN
              have HCut : Hid (∀ W, Calls Tryz.prog 25 #[.string z] W fun e w' => e = .returned (.int .i64 (cutL (bl z) : Nat)) ∧ W = w') := fun W => rcut z (by omega) hcut W
              have hcl := cut_le _ (bl z) (Nat.le_refl _)
              rw [bl_length] at hcl
              obtain ⟨nm, hnm⟩ : ∃ nm, nm = z.extract 0 (cutL (bl z)) := ⟨_, rfl⟩
              have hsl3 := slh z (cutL (bl z)) hcl
              rw [← hnm] at hsl3
              have hnn : ba (nameD (bl z)) = nm := bl_inj (by rw [bl_ba, hnm, bl_ext]; unfold nameD; simp)
              rw [hnn] at hN
              have HN : Hid (m = r.length ∧ RestU s R (r ++ [nm]) j) := ⟨HX.out.1, hN⟩
              generalize cutL (bl z) = cz at HCut hsl3 hcl
              have hqa : 2 ≤ q.size := by omega
              clear hk2 hk3 hcy hqb HX hN hj hcut hzb hz hnm hnn hqs
              go_wp2_with (first | (go_at_call 23; refine HE2.out.mono ?_; rintro e w2 ⟨rfl, rfl⟩) | (go_at_call 24; refine (HCy.out _).mono ?_; rintro e w2 ⟨rfl, rfl⟩) | (go_at_call 25; refine (HCut.out _).mono ?_; rintro e w2 ⟨rfl, rfl⟩) | (at_builtin; refine wpList_append_own _ rfl _ _ 23 rfl w.heap.size 9 i0 (.string ⟨#[]⟩) 1 16 Tryz.underlying23 hi0 hz0 hz1 hz2 rfl (by decide) _ _ _ rfl (hown.alloc _) ⟨wr.heap.size, 0, none⟩ 1 1 [.string nm] rfl rfl (by intro j u hj; match j, hj with | 0, hj => simp at hj; subst hj; simp [Addr.add]) (by intro u hu; simp at hu; subst hu; rfl) (by unfold maxLen; omega) (by omega) (by simp; omega) ?_; intro v' w2 hown' hgrow _; have HG1 : Hid (Below w.heap.size w w2) := (hb.alloc hbs _).grown hgrow (by simp; omega) (fun k hk => (hown.lt k hk).1); have HG2 : Hid (w2.ownsRow w.heap.size 9 1 v' (m + 1) ((r ++ [nm]).map Value.string)) := (by unfold Hid; simpa using hown'); clear hown' hgrow hown hb))
              go_roundw
              case rel =>
                have hG2 := HG2.out
                obtain ⟨a2, c2, rfl⟩ := str_sliceY hG2
                exact ⟨j, m + 1, c2, a2, r ++ [nm], hj2, by omega, rfl, rfl, ⟨by rw [List.length_append, ← HN.out.1]; rfl, HN.out.2⟩, hG2, HG1.out⟩
              case measure => simp [intOf]; omega
        · have hne : (i : Int) + 1 = (s.size : Int) := by omega
          have hneb : ((i : Int) + 1 == (s.size : Int)) = true := by simpa using hne
          have HN : Hid (m = r.length ∧ RestU s R r (i + 1)) := ⟨HX.out.1, HX.out.2.last hlt hs36 (by omega)⟩
          clear HX hx hxN h36 hs36 HI HC
          go_wp2_with fail
          go_roundw
          case rel => exact ⟨i + 1, m, c, a, r, by omega, by omega, rfl, by go_num, HN, hown, hb⟩
          case measure => simp [intOf]; omega
      · have n36 : ¬ (x.toNat : Int) = 36 := by
          have h : ¬ x.toNat = 36 := fun h => h36 (UInt8.toNat_inj.1 (by rw [h]; rfl))
          omega
        have n36b : ((x.toNat : Int) == 36) = false := by simpa using n36
        have HN : Hid (m = r.length ∧ RestU s R r (i + 1)) := ⟨HX.out.1, HX.out.2.other hlt (by rw [← hx]; exact h36)⟩
        clear HX hx h36 HI HC
        go_wp2_with fail
        go_roundw
        case rel => exact ⟨i + 1, m, c, a, r, by omega, by omega, rfl, by go_num, HN, hown, hb⟩
        case measure => simp [intOf]; omega
    · obtain rfl : i = s.size := by omega
      have hRs : R = some r := HX.out.2.fin
      subst hRs
      have HM : Hid (m = r.length) := HX.out.1
      have HB : Hid (Below w.heap.size w wr ∧ wr.ownsRow w.heap.size 9 1 (.slice a m c) m (r.map Value.string)) := ⟨hb, hown⟩
      clear HX hown hb HI HC
      go_wp2
      go_ret2
      refine ⟨HB.out.1, _, rfl, ?_⟩
      have := HB.out.2
      rw [HM.out] at this ⊢
      exact this
end Go.Proofs.YthcbagggalehgaaGreatDoor.Ex

namespace Go.Proofs.YthcbagggalehgaaGreatDoor.Ex
open Go.RowKit Go.Shelf

/-- Where a scanner that begins at a use's dollar comes to stand. -/
def UseEnd (T : List UInt8) (σf : Sn) : Prop := (σf.opn = [] ∧ useN T = σf.pos) ∨ (σf.opn ≠ [] ∧ σf.pos = T.length ∧ useN T = 0)
theorem use_final {T r : List UInt8} (hT : T = 36 :: r) : ∃ σf, Runs T 0 (stepF T scan0) σf ∧ UseEnd T σf := by
  have ht : T.drop 0 = 36 :: r := by rw [List.drop_zero, hT]
  have hu : useN T = (endN T).getD 0 := by rw [hT]; unfold useN; dsimp only; rw [if_pos rfl]
  have hs0 : scan0 = ⟨0, [], []⟩ := rfl
  rw [hs0, step_dollar ht]
  cases r with
  | nil =>
    refine ⟨_, .refl _, .inl ?_⟩
    rw [begin_end ht, hu, hT]
    exact ⟨rfl, rfl⟩
  | cons y r2 =>
    have htr := (drop_split ht).2.2
    have htr2 := (drop_split htr).2.2
    by_cases hy : clo y = 0
    · obtain ⟨d, e1, _⟩ := begin_one ht hy [] []
      refine ⟨_, .refl _, .inl ?_⟩
      rw [e1, hu, hT]
      refine ⟨rfl, ?_⟩
      unfold endN
      dsimp only
      rw [if_pos hy]
      rfl
    · have hcl := clo_ne hy
      rw [begin_br ht hy]
      have htl := congrArg List.length htr2
      rw [List.length_drop] at htl
      have hpl := (drop_split htr).2.1
      cases hb : bodyF r2.length y (clo y) 0 r2 with
      | none =>
        obtain ⟨σ, hL⟩ := body_none T r2.length r2 y (clo y) 0 (0 + 2) ([] ++ [⟨0, 0, 0 + 2, 0, 0, 0⟩]) [] 0 ⟨0, 0, 0 + 2, 0, 0, 0⟩ rfl htr2 (by omega) (Nat.le_refl _) hb hcl.2.2.1 hcl.1 (by omega)
        have ho := hL.opn
        refine ⟨σ, hL.run, .inr ⟨fun e => by rw [e] at ho; simp at ho, hL.pos, ?_⟩⟩
        rw [hu, hT]
        unfold endN
        dsimp only
        rw [if_neg hy, hb]
        rfl
      | some k =>
        obtain ⟨F', hF⟩ := body_some T r2.length r2 y (clo y) 0 (0 + 2) ([] ++ [⟨0, 0, 0 + 2, 0, 0, 0⟩]) [] 0 ⟨0, 0, 0 + 2, 0, 0, 0⟩ k rfl htr2 (Nat.le_refl _) hb hcl.2.2.1 hcl.1 (by omega)
        refine ⟨_, hF.run, .inl ⟨rfl, ?_⟩⟩
        rw [hu, hT, end_cons hy hb]
        show k + 2 = 0 + 2 + k
        omega
theorem Runs.head {T : List UInt8} {σ σf : Sn} (h : Runs T 0 σ σf) : σ = σf ∨ (0 < σ.opn.length ∧ σ.pos < T.length ∧ Runs T 0 (stepF T σ) σf) := by
  cases h with
  | refl => exact .inl rfl
  | step h1 h2 h3 => exact .inr ⟨h1, h2, h3⟩

set_option maxRecDepth 20000 in
set_option maxHeartbeats 1600000 in
theorem useN_any (s : ByteArray) (w : World) (hs : s.size ≤ 1000000) :
    Calls Tryz.prog 14 #[.string s] w fun e w' => e = .returned (.int .i64 (useN (bl s) : Nat)) ∧ Below w.heap.size w w' := by
  have HPx : Hid (Calls Tryz.prog 27 #[.string s, .string ⟨#[36]⟩] w fun e w' => e = .returned (.bool (Lib.hasPrefix (bl s) [36])) ∧ w = w') :=
    (Tryz.strings_HasPrefix s ⟨#[36]⟩ w).mono fun e w' h => ⟨h.1, h.2.symm⟩
  obtain ⟨z, hz⟩ : ∃ z : Int, z = (useN (bl s) : Nat) := ⟨_, rfl⟩
  rw [← hz]
  have hcase : Lib.hasPrefix (bl s) [36] = true ∧ (∃ r, bl s = 36 :: r) ∨ Lib.hasPrefix (bl s) [36] = false ∧ useN (bl s) = 0 := by
    unfold Lib.hasPrefix
    cases hb : bl s with
    | nil => exact .inr ⟨rfl, rfl⟩
    | cons a t =>
      by_cases h : a = 36
      · subst h; exact .inl ⟨by simp [List.isPrefixOf], t, rfl⟩
      · refine .inr ⟨?_, by unfold useN; dsimp only; rw [if_neg h]⟩
        simp [List.isPrefixOf]
        exact fun e => h e.symm
  rcases hcase with ⟨h1, r, hr⟩ | ⟨h1, h2⟩
  · rw [h1] at HPx
    obtain ⟨σf, hrun, hfin⟩ := use_final hr
    have hlen : (bl s).length = s.size := bl_length s
    have hp0 : 0 < s.size := by rw [← hlen, hr]; simp
    have HT : Hid (∀ (vf vo : Value) (σ : Sn) (W : World), SnAt w.heap.size w.heap.size s vf vo σ W → σ.pos < s.size → Calls Tryz.prog 28 #[.pointer (some ⟨w.heap.size, 0, none⟩)] W (StepPost w.heap.size w.heap.size s (stepF (bl s) σ) W)) := fun vf vo σ W h hp => step_any W h hs hp
    have H0 : Hid (SnAt w.heap.size w.heap.size s (.slice none 0 0) (.slice none 0 0) scan0 (w.alloc (.cells #[.string s, .int .i64 0, .slice none 0 0, .slice none 0 0] 62))) :=
      ⟨⟨heap_alloc_new _ _, World.ownsRow_nil _ _ _ _, World.ownsRow_nil _ _ _ _, Nat.le_refl _⟩, scan0_fine _⟩
    have HL : Hid ((bl s).length = s.size) := hlen
    have HF : Hid (Runs (bl s) 0 (stepF (bl s) scan0) σf ∧ UseEnd (bl s) σf) := ⟨hrun, hfin⟩
    have HZ : Hid (z = (useN (bl s) : Nat)) := hz
    have HP0 : Hid (scan0.pos < s.size) := hp0
    clear h1 hr hrun hfin hlen hz
    go_enter Tryz.func14, Tryz.ntmps14
    go_wp2_with fail
    refine HPx.out.mono ?_
    rintro e w1 ⟨rfl, rfl⟩
    go_wp2_with fail
    refine (HT.out _ _ scan0 _ H0.out HP0.out).mono ?_
    rintro e w1 ⟨rfl, vf1, vo1, hs1, hb1⟩
    have H1 : Hid (SnAt w.heap.size w.heap.size s vf1 vo1 (stepF (bl s) scan0) w1 ∧ Below w.heap.size w w1) := ⟨hs1, ((Below.refl _ _).alloc (Nat.le_refl _) _).trans hb1⟩
    clear hs1 hb1 HPx
    go_wp2_with fail
    go_loopw [] (fun wr => ∃ (vf vo : Value) (σ : Sn), Hid (SnAt w.heap.size w.heap.size s vf vo σ wr ∧ Below w.heap.size w wr ∧ Runs (bl s) 0 σ σf)) (fun wr => s.size - (match wr.cell? ⟨w.heap.size, 1, none⟩ with | some (.int _ n) => n.toNat | _ => 0))
    case atStart => exact ⟨_, _, _, H1.out.1, H1.out.2, HF.out.1⟩
    case round =>
      obtain ⟨vf, vo, σ, HI⟩ := hrel
      have c1 := HI.out.1.c1
      have c3 := HI.out.1.c3
      obtain ⟨ao, co, hvo⟩ := V.owns_slice HI.out.1.ro
      have hfp := HI.out.1.fine.pos
      rw [bl_length] at hfp
      obtain ⟨p, hpe⟩ : ∃ p, p = σ.pos := ⟨_, rfl⟩
      obtain ⟨m, hme⟩ : ∃ m, m = σ.opn.length := ⟨_, rfl⟩
      have HPM : Hid (p = σ.pos ∧ m = σ.opn.length) := ⟨hpe, hme⟩
      rw [← hpe] at c1 hfp
      rw [← hme] at hvo
      clear hpe hme
      subst hvo
      by_cases hm : m = 0
      · have HE : Hid (z = (p : Int)) := by
          unfold Hid
          have ho : σ.opn = [] := List.length_eq_zero_iff.1 (by rw [← HPM.out.2]; exact hm)
          rcases HI.out.2.2.head with h | h
          · rcases HF.out.2 with ⟨_, h2⟩ | ⟨h2, _⟩
            · rw [HZ.out, h2, ← h, HPM.out.1]
            · rw [← h] at h2; exact absurd ho h2
          · rw [ho] at h; simp at h
        have HB : Hid (Below w.heap.size w wr) := HI.out.2.1
        subst hm
        clear HI HT HF H0 H1
        go_wp2
        go_ret
        exact ⟨by rw [HE.out]; rfl, HB.out⟩
      · have hmi : (0 : Int) < (m : Int) := by omega
        by_cases hpz : p = s.size
        · have HE : Hid (z = 0) := by
            unfold Hid
            have ho : σ.opn ≠ [] := fun e => hm (by rw [HPM.out.2, e]; rfl)
            rcases HI.out.2.2.head with h | h
            · rcases HF.out.2 with ⟨h2, _⟩ | ⟨_, _, h2⟩
              · rw [← h] at h2; exact absurd h2 ho
              · rw [HZ.out, h2]; rfl
            · have := h.2.1
              rw [HL.out, ← HPM.out.1] at this
              omega
          have HB : Hid (Below w.heap.size w wr) := HI.out.2.1
          have hpi : (p : Int) = (s.size : Int) := by omega
          have hpib : ((p : Int) == (s.size : Int)) = true := by simpa using hpi
          clear HI HT HF H0 H1 hpz hm
          go_wp2
          go_ret
          exact ⟨by rw [HE.out]; rfl, HB.out⟩
        · have hlt : p < s.size := by omega
          have hpi : ¬ (p : Int) = (s.size : Int) := by omega
          have hpib : ((p : Int) == (s.size : Int)) = false := by simpa using hpi
          have HN : Hid (Runs (bl s) 0 (stepF (bl s) σ) σf) := by
            unfold Hid
            have ho : σ.opn ≠ [] := fun e => hm (by rw [HPM.out.2, e]; rfl)
            rcases HI.out.2.2.head with h | h
            · rcases HF.out.2 with ⟨h2, _⟩ | ⟨_, h2, _⟩
              · rw [← h] at h2; exact absurd h2 ho
              · rw [← h, HL.out, ← HPM.out.1] at h2; omega
            · exact h.2.2
          clear hpz hm H0 H1
          go_wp2_with fail
          refine (HT.out _ _ σ wr HI.out.1 (by rw [← HPM.out.1]; exact hlt)).mono ?_
          rintro e w' ⟨rfl, vf', vo', h1, h2⟩
          have H2 : Hid (SnAt w.heap.size w.heap.size s vf' vo' (stepF (bl s) σ) w' ∧ Below w.heap.size wr w') := ⟨h1, h2⟩
          have c1' := h1.c1
          clear h1 h2
          go_wp2_with fail
          go_roundw
          case rel => exact ⟨vf', vo', stepF (bl s) σ, H2.out.1, HI.out.2.1.trans H2.out.2, HN.out⟩
          case measure =>
            have hp1 := step_pos (bl s) σ (by rw [HL.out, ← HPM.out.1]; exact hlt)
            rw [← HPM.out.1] at hp1
            simp only [c1, c1']
            simp only [Int.toNat_natCast]
            omega
  · rw [h1] at HPx
    have HZ : Hid (z = 0) := by unfold Hid; rw [hz, h2]; rfl
    clear h1 h2 hz
    go_enter Tryz.func14, Tryz.ntmps14
    go_wp2_with fail
    refine HPx.out.mono ?_
    rintro e w1 ⟨rfl, rfl⟩
    go_wp2
    go_ret
    exact ⟨by rw [HZ.out]; rfl, Below.refl _ _⟩
end Go.Proofs.YthcbagggalehgaaGreatDoor.Ex

namespace Go.Proofs.YthcbagggalehgaaGreatDoor.Ex
open Go.RowKit Go.Shelf

/-- The names that are taken lie in the text. -/
def OkU (s : ByteArray) : Nat → List Dl → Prop
  | _, [] => True
  | b, d :: l => if d.en = 0 then True else if d.fr < b then OkU s b l else (d.nf ≠ 0 → d.nf ≤ d.nt ∧ d.nt ≤ s.size) ∧ OkU s d.en l
theorem uses_skip (s : ByteArray) (b : Nat) : ∀ (C G : List Dl), (∀ z ∈ C, 0 < z.en ∧ z.fr < b) → usesL s b (C ++ G) = usesL s b G
  | [], _, _ => rfl
  | z :: C, G, h => by
    have hz := h z (by simp)
    rw [List.cons_append, usesL]
    rw [if_neg (by omega), if_pos hz.2]
    exact uses_skip s b C G fun z hz => h z (by simp [hz])
theorem ok_skip (s : ByteArray) (b : Nat) : ∀ (C G : List Dl), (∀ z ∈ C, 0 < z.en ∧ z.fr < b) → OkU s b G → OkU s b (C ++ G)
  | [], _, _, hg => hg
  | z :: C, G, h, hg => by
    have hz := h z (by simp)
    rw [List.cons_append, OkU]
    rw [if_neg (by omega), if_pos hz.2]
    exact ok_skip s b C G (fun z hz => h z (by simp [hz])) hg
theorem split_at {F F' : List Dl} (hl : F.length ≤ F'.length) (h : ∀ i, i < F.length → F'[i]? = F[i]?) : F' = F ++ F'.drop F.length := by
  have e : F'.take F.length = F := by
    apply List.ext_getElem?
    intro i
    by_cases hi : i < F.length
    · rw [List.getElem?_take_of_lt hi, h i hi]
    · rw [List.getElem?_eq_none_iff.2 (by simp; omega), List.getElem?_eq_none_iff.2 (by omega)]
  conv => lhs; rw [← List.take_append_drop F.length F', e]
theorem ext_name {s : ByteArray} {T r : List UInt8} (hs : bl s = T) {q m : Nat} (hr : T.drop q = r) : s.extract q (q + m) = ba (r.take m) := by
  apply bl_inj
  rw [bl_extract, bl_ba, hs, ← hr, List.drop_take]
  congr 1
  omega

theorem scan_uses (T : List UInt8) (s : ByteArray) (hs : bl s = T) : ∀ (n : Nat) (t : List UInt8) (p : Nat) (F : List Dl) (b : Nat), t.length ≤ n → T.drop p = t → p ≤ T.length → b ≤ p →
    ∃ G, (scanF T T.length ⟨p, F, []⟩).found = F ++ G ∧ usesL s b G = (usesU t).map (List.map ba) ∧ OkU s b G := by
  have hsz : s.size = T.length := by rw [← bl_length, hs]
  have hend : ∀ (p : Nat) (F : List Dl), T.drop p = [] → p ≤ T.length → (scanF T T.length ⟨p, F, []⟩).found = F ++ [] := by
    intro p F ht hp
    have : T.length - p = 0 := by rw [← List.length_drop, ht]; rfl
    rw [scan_end T _ _ (by simp only; omega), List.append_nil]
  intro n
  induction n with
  | zero =>
    intro t p F b hn ht hp hb
    have : t = [] := List.length_eq_zero_iff.1 (by omega)
    subst this
    exact ⟨[], hend p F ht hp, rfl, trivial⟩
  | succ n ih =>
    intro t p F b hn ht hp hb
    cases t with
    | nil => exact ⟨[], hend p F ht hp, rfl, trivial⟩
    | cons x r =>
      simp only [List.length_cons] at hn
      obtain ⟨htx, hpl, htr⟩ := drop_split ht
      rw [← scan_step T _ ⟨p, F, []⟩ hpl (by simp only; omega)]
      by_cases h36 : x = 36
      · subst h36
        rw [step_dollar ht]
        cases r with
        | nil =>
          rw [begin_end ht]
          have hl := congrArg List.length htr
          rw [List.length_drop, List.length_nil] at hl
          refine ⟨[⟨p, p + 1, 0, 0, 0, 0⟩], ?_, ?_, ?_⟩
          · rw [scan_end T _ _ (by simp only; omega)]
          · rw [usesU_last, usesL]
            rw [if_neg (by simp only; omega), if_neg (by simp only; omega)]
            rfl
          · rw [OkU]
            rw [if_neg (by simp only; omega), if_neg (by simp only; omega)]
            exact ⟨fun h => absurd rfl h, trivial⟩
        | cons y r2 =>
          simp only [List.length_cons] at hn
          obtain ⟨_, hpl2, htr2⟩ := drop_split htr
          by_cases hy : clo y = 0
          · have he : endN (36 :: y :: r2) = some 2 := by unfold endN; dsimp only; rw [if_pos hy]
            obtain ⟨d, e1, e2, e3, e4⟩ := begin_one ht hy F []
            obtain ⟨G, g1, g2, g3⟩ := ih r2 (p + 2) (F ++ [d]) (p + 2) (by omega) htr2 (by omega) (Nat.le_refl _)
            refine ⟨d :: G, ?_, ?_, ?_⟩
            · rw [e1, g1]; simp
            · rw [usesL]
              rw [if_neg (by omega), if_neg (by omega), e3, g2, usesU_use he, Option.map_map, Option.map_map]
              have hd : (36 :: y :: r2).drop 2 = r2 := rfl
              rw [hd]
              congr 1
              funext l
              simp only [Function.comp, if_pos hy]
              by_cases hyy : y = 36
              · rw [if_pos hyy] at e4
                rw [if_pos hyy, if_pos e4]
              · rw [if_neg hyy] at e4
                rw [if_neg hyy, if_neg (by omega), List.map_cons, e4.1, e4.2, show p + 2 = p + 1 + 1 by omega, ext_name hs htr]
                rfl
            · rw [OkU]
              rw [if_neg (by omega), if_neg (by omega)]
              refine ⟨fun hne => ?_, by rw [e3]; exact g3⟩
              by_cases hyy : y = 36
              · rw [if_pos hyy] at e4; exact absurd e4 hne
              · rw [if_neg hyy] at e4
                rw [e4.1, e4.2, hsz]
                omega
          · have hcl := clo_ne hy
            rw [begin_br ht hy]
            have htl := congrArg List.length htr2
            rw [List.length_drop] at htl
            cases hb2 : bodyF r2.length y (clo y) 0 r2 with
            | none =>
              have he : endN (36 :: y :: r2) = none := by unfold endN; dsimp only; rw [if_neg hy, hb2]; rfl
              obtain ⟨σ, hL⟩ := body_none T r2.length r2 y (clo y) 0 (p + 2) (F ++ [⟨p, 0, p + 2, 0, 0, 0⟩]) [] F.length ⟨p, 0, p + 2, 0, 0, 0⟩ (app_new F _) htr2 (by omega) (Nat.le_refl _) hb2 hcl.2.2.1 hcl.1 (by omega)
              have hlen := hL.len
              rw [List.length_append, List.length_singleton] at hlen
              have hsp := split_at (F := F) (F' := σ.found) (by omega) fun i hi => by
                rw [hL.old i (by rw [List.length_append]; omega) (by simp only; omega), app_old hi]
              obtain ⟨D', d1, d2, _⟩ := hL.own
              refine ⟨σ.found.drop F.length, ?_, ?_, ?_⟩
              · have := hL.run.scan
                rw [List.nil_append] at this
                rw [List.nil_append, this, scan_end T _ _ (by rw [hL.pos]; exact Nat.le_refl _)]
                exact hsp
              · have hlt : F.length < σ.found.length := by omega
                rw [List.drop_eq_getElem_cons hlt, usesL]
                have hg : σ.found[F.length] = D' := by
                  have := d1
                  rw [List.getElem?_eq_getElem hlt] at this
                  exact Option.some.inj this
                rw [hg, if_pos d2, usesU_none he]; rfl
              · have hlt : F.length < σ.found.length := by omega
                rw [List.drop_eq_getElem_cons hlt, OkU]
                have hg : σ.found[F.length] = D' := by
                  have := d1
                  rw [List.getElem?_eq_getElem hlt] at this
                  exact Option.some.inj this
                rw [hg, if_pos d2]
                trivial
            | some k =>
              have hk := body_le _ _ _ _ _ _ hb2
              have he := end_cons hy hb2
              obtain ⟨F', hF⟩ := body_some T r2.length r2 y (clo y) 0 (p + 2) (F ++ [⟨p, 0, p + 2, 0, 0, 0⟩]) [] F.length ⟨p, 0, p + 2, 0, 0, 0⟩ k (app_new F _) htr2 (Nat.le_refl _) hb2 hcl.2.2.1 hcl.1 (by omega)
              have hlen := hF.len
              rw [List.length_append, List.length_singleton] at hlen
              have hsp := split_at (F := F) (F' := F') (by omega) fun i hi => by
                rw [hF.old i (by rw [List.length_append]; omega) (by simp only; omega), app_old hi]
              have htd : T.drop (p + 2 + k) = r2.drop k := by rw [← List.drop_drop, htr2]
              obtain ⟨G, g1, g2, g3⟩ := ih (r2.drop k) (p + 2 + k) F' (p + 2 + k) (by rw [List.length_drop]; omega) htd (by omega) (Nat.le_refl _)
              have hlt : F.length < F'.length := by omega
              have hown := hF.own
              simp only at hown
              obtain ⟨Dc, hDc⟩ : ∃ Dc, Dc = closeD ⟨p, 0, p + 2, 0, 0, 0⟩ (p + 2) k r2 := ⟨_, rfl⟩
              rw [← hDc] at hown
              have hdr : F'.drop F.length = Dc :: F'.drop (F.length + 1) := by
                rw [List.drop_eq_getElem_cons hlt]
                rw [List.getElem?_eq_getElem hlt] at hown
                rw [Option.some.inj hown]
              have hC : ∀ z ∈ F'.drop (F.length + 1), 0 < z.en ∧ z.fr < p + 2 + k := by
                intro z hz
                obtain ⟨i, hi, rfl⟩ := List.mem_iff_getElem.1 hz
                have := hF.cln (F.length + 1 + i) ((F'.drop (F.length + 1))[i]) (by rw [List.length_append, List.length_singleton]; omega) (by rw [← List.getElem?_drop, List.getElem?_eq_getElem hi])
                omega
              have hdc : Dc.fr = p ∧ Dc.en = p + 2 + k ∧ Dc.nf = p + 2 ∧ Dc.nt = p + 2 + cutL (r2.take (k - 1)) := by
                rw [hDc]
                unfold closeD
                rw [if_pos rfl]
                split
                · rename_i hcc
                  refine ⟨rfl, rfl, rfl, ?_⟩
                  simp only
                  rw [hcc]; omega
                · exact ⟨rfl, rfl, rfl, rfl⟩
              obtain ⟨c1, c2, c3, c4⟩ := hdc
              have hcl2 := cut_le _ (r2.take (k - 1)) (Nat.le_refl _)
              rw [List.length_take] at hcl2
              refine ⟨Dc :: F'.drop (F.length + 1) ++ G, ?_, ?_, ?_⟩
              · have := hF.run.scan
                rw [List.nil_append] at this
                rw [List.nil_append, this, g1, ← hdr, ← List.append_assoc, ← hsp]
              · rw [List.cons_append, usesL]
                rw [if_neg (by omega), if_neg (by omega), c2, uses_skip s (p + 2 + k) _ G hC, g2, usesU_use he, Option.map_map, Option.map_map]
                have hd : (36 :: y :: r2).drop (k + 2) = r2.drop k := by rw [List.drop_succ_cons, List.drop_succ_cons]
                rw [hd]
                congr 1
                funext l
                simp only [Function.comp, if_neg hy]
                rw [if_neg (by omega), List.map_cons, c3, c4, ext_name hs htr2, show k + 2 - 3 = k - 1 by omega]
                unfold nameD
                rw [List.take_take, Nat.min_eq_left (by omega)]
              · rw [List.cons_append, OkU]
                rw [if_neg (by omega), if_neg (by omega)]
                refine ⟨fun _ => ?_, ?_⟩
                · rw [c3, c4, hsz]; omega
                · rw [c2]
                  exact ok_skip s _ _ G hC g3
      · rw [step_out ht h36, usesU_other r h36]
        obtain ⟨G, g1, g2, g3⟩ := ih r (p + 1) F b (by omega) htr (by omega) (by omega)
        exact ⟨G, g1, g2, g3⟩
theorem scanL_uses (s : ByteArray) : usesL s 0 (scanL (bl s)) = (usesU (bl s)).map (List.map ba) ∧ OkU s 0 (scanL (bl s)) := by
  obtain ⟨G, g1, g2, g3⟩ := scan_uses (bl s) s rfl (bl s).length (bl s) 0 [] 0 (Nat.le_refl _) rfl (Nat.zero_le _) (Nat.le_refl _)
  have : scanL (bl s) = G := by unfold scanL scan0; rw [g1]; rfl
  rw [this]
  exact ⟨g2, g3⟩

end Go.Proofs.YthcbagggalehgaaGreatDoor.Ex

namespace Go.Proofs.YthcbagggalehgaaGreatDoor.Ex
open Go.RowKit Go.Shelf

set_option maxRecDepth 20000 in
set_option maxHeartbeats 3200000 in
theorem uses_all (s : ByteArray) (w : World) (hs : s.size ≤ 1000000) (hok : OkU s 0 (scanL (bl s))) :
    Calls Tryz.prog 9 #[.string s] w (UsesPost (usesL s 0 (scanL (bl s))) w) := by
  obtain ⟨i0, hi0, hz0, hz1, hz2⟩ := info_of infoS
  have HSc : Hid (Calls Tryz.prog 20 #[.string s] w (ScanPost s w)) := scan_any s w hs
  have hfew : (scanL (bl s)).length ≤ 1000000 := by
    have hf : ∀ n (σ : Sn), σ.Fine (bl s) → (scanF (bl s) n σ).Fine (bl s) := by
      intro n
      induction n with
      | zero => intro σ h; exact h
      | succ n ih => intro σ h; unfold scanF; split
                     · rename_i hp; exact ih _ (step_fine h hp)
                     · exact h
    have h1 := hf (bl s).length scan0 (scan0_fine _)
    have h2 := h1.few
    have h3 := h1.pos
    rw [bl_length] at h3
    unfold scanL; rw [bl_length] at h2 ⊢; omega
  obtain ⟨L, hL⟩ : ∃ L, L = scanL (bl s) := ⟨_, rfl⟩
  obtain ⟨R, hR⟩ : ∃ R, R = usesL s 0 L := ⟨_, rfl⟩
  rw [← hL, ← hR]
  rw [← hL] at hok hfew
  have HOK : Hid (OkU s 0 L) := hok
  have HR : Hid (R = usesL s 0 L) := hR
  have HL : Hid (L = scanL (bl s)) := hL
  clear hok hR hL
  go_enter Tryz.func9, Tryz.ntmps9
  go_wp2_with fail
  refine HSc.out.mono ?_
  rintro e w1 ⟨v, rfl, hrow, hb1⟩
  rw [← HL.out] at hrow
  obtain ⟨av, cv, hv⟩ := V.owns_slice hrow
  have HD : Hid (DlsAt w1 v L ∧ Below w.heap.size w w1) := ⟨dls_of_owns hrow, hb1⟩
  obtain ⟨n, hn⟩ : ∃ n, n = L.length := ⟨_, rfl⟩
  rw [← hn] at hv hfew
  subst hv
  have HN : Hid (n = L.length) := hn
  clear hrow hb1 hn HL HSc
  go_wp2_with fail
  go_loopw [4, 5, 11] (fun v4 v5 v11 wr => ∃ (k b m : Nat) (r : List ByteArray) (a4 : Option Addr) (c4 : Nat), k ≤ n ∧ m ≤ k ∧ v4 = .slice a4 m c4 ∧ v5 = .int .i64 (b : Int) ∧ v11 = .int .i64 (k : Int) ∧ Hid (m = r.length ∧ wr.ownsRow w1.heap.size 9 1 (.slice a4 m c4) m (r.map Value.string) ∧ Below w1.heap.size w1 wr ∧ R = (usesL s b (L.drop k)).map (fun t => r ++ t) ∧ OkU s b (L.drop k))) (fun _ _ v11 _ => n - (intOf v11).toNat)
  case atStart => exact ⟨0, 0, 0, [], none, 0, Nat.zero_le _, Nat.le_refl _, rfl, rfl, rfl, rfl, World.ownsRow_nil _ _ _ _, Below.refl _ _, by rw [HR.out]; simp, HOK.out⟩
  case round =>
    obtain ⟨k, b, m, r, a4, c4, hk, hmk, rfl, rfl, rfl, HI⟩ := hrel
    by_cases hlt : k < n
    · have hil : (k : Int) < (n : Int) := by omega
      have hkL : k < L.length := by rw [← HN.out]; exact hlt
      obtain ⟨d, hd⟩ : ∃ d, L[k]? = some d := ⟨_, List.getElem?_eq_getElem hkL⟩
      have hdr : L.drop k = d :: L.drop (k + 1) := by
        rw [List.drop_eq_getElem_cons hkL]
        rw [List.getElem?_eq_getElem hkL] at hd; rw [Option.some.inj hd]
      obtain ⟨g, o, ha, hg, hcell⟩ := dls_get (w := wr) (HD.out.1.kept fun j cs hj => (HI.out.2.2.1.block j (Array.getElem?_eq_some_iff.1 hj).1).trans hj) hd
      have hokd := HI.out.2.2.2.2
      have hRk := HI.out.2.2.2.1
      rw [hdr] at hRk hokd
      obtain ⟨fr, en, nf, nt, mf, mt⟩ := d
      subst ha
      have x0 := hcell 0 _ rfl
      have x1 := hcell 1 _ rfl
      have x2 := hcell 2 _ rfl
      have x3 := hcell 3 _ rfl
      have x4 := hcell 4 _ rfl
      have x5 := hcell 5 _ rfl
      simp only [Nat.add_zero] at x0
      have HE : Hid (∀ W1, Calls Tryz.prog 21 #[.agg #[.int .i64 (fr : Int), .int .i64 (en : Int), .int .i64 (nf : Int), .int .i64 (nt : Int), .int .i64 (mf : Int), .int .i64 (mt : Int)]] W1 fun e w' => e = .returned (.bool (!decide (en = 0))) ∧ Below W1.heap.size W1 w') := fun W1 => ends_any ⟨fr, en, nf, nt, mf, mt⟩ W1
      have HU : Hid (∀ W1, Calls Tryz.prog 22 #[.agg #[.int .i64 (fr : Int), .int .i64 (en : Int), .int .i64 (nf : Int), .int .i64 (nt : Int), .int .i64 (mf : Int), .int .i64 (mt : Int)]] W1 fun e w' => e = .returned (.bool (!decide (nf = 0))) ∧ Below W1.heap.size W1 w') := fun W1 => isUse_any ⟨fr, en, nf, nt, mf, mt⟩ W1
      obtain ⟨w2, hw2, hb2, hbox⟩ : ∃ w2, w2 = wr.alloc (.cells #[.int .i64 (fr : Int), .int .i64 (en : Int), .int .i64 (nf : Int), .int .i64 (nt : Int), .int .i64 (mf : Int), .int .i64 (mt : Int)] 55) ∧ Below wr.heap.size wr w2 ∧ w2.heap[wr.heap.size]? = some (.cells #[.int .i64 (fr : Int), .int .i64 (en : Int), .int .i64 (nf : Int), .int .i64 (nt : Int), .int .i64 (mf : Int), .int .i64 (mt : Int)] 55 (0, 0)) := ⟨_, rfl, (Below.refl _ _).alloc (Nat.le_refl _) _, heap_alloc_new _ _⟩
      have H2 : Hid (Below wr.heap.size wr w2 ∧ w2.heap[wr.heap.size]? = some (.cells #[.int .i64 (fr : Int), .int .i64 (en : Int), .int .i64 (nf : Int), .int .i64 (nt : Int), .int .i64 (mf : Int), .int .i64 (mt : Int)] 55 (0, 0))) := ⟨hb2, hbox⟩
      have HBX : Hid (∀ W3, Below w2.heap.size w2 W3 → W3.heap[wr.heap.size]? = some (.cells #[.int .i64 (fr : Int), .int .i64 (en : Int), .int .i64 (nf : Int), .int .i64 (nt : Int), .int .i64 (mf : Int), .int .i64 (mt : Int)] 55 (0, 0))) := fun W3 hb => (hb.block _ (Array.getElem?_eq_some_iff.1 hbox).1).trans hbox
      have z0 := V.cell_in hbox 0 rfl
      have z1 := V.cell_in hbox 1 rfl
      have z2 := V.cell_in hbox 2 rfl
      have z3 := V.cell_in hbox 3 rfl
      have z4 := V.cell_in hbox 4 rfl
      have z5 := V.cell_in hbox 5 rfl
      clear hcell hd hdr hbox hb2
      by_cases he0 : en = 0
      · unfold usesL at hRk
        rw [if_pos he0] at hRk
        rw [decide_eq_true he0] at HE
        have hRn : R = none := hRk
        subst hRn
        clear he0 hRk
        go_wp2_with fail
        rw [← hw2]
        clear hw2
        refine (HE.out _).mono ?_
        rintro e w3 ⟨rfl, hb3⟩
        have H3 : Hid (Below w2.heap.size w2 w3) := hb3
        clear hb3
        go_wp2
        go_ret2
        have b1 := (HI.out.2.2.1.trans (H2.out.1.mono HI.out.2.2.1.size)).trans (H3.out.mono (Nat.le_trans HI.out.2.2.1.size H2.out.1.size))
        exact ⟨HD.out.2.trans (b1.mono HD.out.2.size), rfl⟩
      · unfold usesL at hRk
        unfold OkU at hokd
        rw [if_neg he0] at hRk hokd
        rw [decide_eq_false he0] at HE
        dsimp only at hRk hokd
        by_cases hfb : fr < b
        · rw [if_pos hfb] at hRk hokd
          have HOk : Hid (OkU s b (L.drop (k + 1))) := hokd
          clear hokd
          have hfbi : (fr : Int) < (b : Int) := by omega
          have HRk : Hid (R = (usesL s b (L.drop (k + 1))).map (fun t => r ++ t)) := hRk
          clear he0 hRk hfb
          go_wp2_with fail
          rw [← hw2]
          clear hw2
          refine (HE.out _).mono ?_
          rintro e w3 ⟨rfl, hb3⟩
          have H3 : Hid (Below w2.heap.size w2 w3) := hb3
          have y0 := V.cell_in (HBX.out w3 hb3) 0 rfl
          clear hb3 z0 z1 z2 z3 z4 z5
          go_wp2_with fail
          go_roundw
          case rel =>
            have b1 := (HI.out.2.2.1.trans (H2.out.1.mono HI.out.2.2.1.size)).trans (H3.out.mono (Nat.le_trans HI.out.2.2.1.size H2.out.1.size))
            exact ⟨k + 1, b, m, r, a4, c4, by omega, by omega, rfl, rfl, by go_num, HI.out.1, owns_below (owns_below HI.out.2.1 H2.out.1) H3.out, b1, HRk.out, HOk.out⟩
          case measure => simp [intOf]; omega
        · rw [if_neg hfb] at hRk hokd
          have HOk : Hid (OkU s en (L.drop (k + 1))) := hokd.2
          have hokd := hokd.1
          have hfbi : ¬ (fr : Int) < (b : Int) := by omega
          by_cases hnf : nf = 0
          · rw [decide_eq_true hnf] at HU
            have HRk : Hid (R = (usesL s en (L.drop (k + 1))).map (fun t => r ++ t)) := by
              rw [hRk]; unfold Hid
              rw [Option.map_map]
              congr 1; funext t; simp [hnf]
            clear he0 hRk hfb hnf hokd
            go_wp2_with fail
            rw [← hw2]
            clear hw2
            refine (HE.out _).mono ?_
            rintro e w3 ⟨rfl, hb3⟩
            have H3 : Hid (Below w2.heap.size w2 w3) := hb3
            have y0 := V.cell_in (HBX.out w3 hb3) 0 rfl
            have y1 := V.cell_in (HBX.out w3 hb3) 1 rfl
            have y2 := V.cell_in (HBX.out w3 hb3) 2 rfl
            have y3 := V.cell_in (HBX.out w3 hb3) 3 rfl
            have y4 := V.cell_in (HBX.out w3 hb3) 4 rfl
            have y5 := V.cell_in (HBX.out w3 hb3) 5 rfl
            clear hb3 z0 z1 z2 z3 z4 z5
            go_wp2_with fail
            refine (HU.out _).mono ?_
            rintro e w4 ⟨rfl, hb4⟩
            have H4 : Hid (Below w2.heap.size w2 w4) := H3.out.trans (hb4.mono H3.out.size)
            clear hb4
            go_wp2_with fail
            go_roundw
            case rel =>
              have b1 := (HI.out.2.2.1.trans (H2.out.1.mono HI.out.2.2.1.size)).trans (H4.out.mono (Nat.le_trans HI.out.2.2.1.size H2.out.1.size))
              exact ⟨k + 1, en, m, r, a4, c4, by omega, by omega, rfl, rfl, by go_num, HI.out.1, owns_below (owns_below HI.out.2.1 H2.out.1) H4.out, b1, HRk.out, HOk.out⟩
            case measure => simp [intOf]; omega
          · rw [decide_eq_false hnf] at HU
            have HRk : Hid (R = (usesL s en (L.drop (k + 1))).map (fun t => (r ++ [s.extract nf nt]) ++ t)) := by
              rw [hRk]; unfold Hid
              rw [Option.map_map]
              congr 1; funext t; simp [hnf]
            have i1 : (nf : Int) ≤ (nt : Int) := by have := (hokd hnf).1; omega
            have i2 : (nt : Int) ≤ (s.size : Int) := by have := (hokd hnf).2; omega
            clear he0 hRk hfb hnf hokd
            go_wp2_with fail
            rw [← hw2]
            clear hw2
            refine (HE.out _).mono ?_
            rintro e w3 ⟨rfl, hb3⟩
            have H3 : Hid (Below w2.heap.size w2 w3) := hb3
            have y0 := V.cell_in (HBX.out w3 hb3) 0 rfl
            have y1 := V.cell_in (HBX.out w3 hb3) 1 rfl
            have y2 := V.cell_in (HBX.out w3 hb3) 2 rfl
            have y3 := V.cell_in (HBX.out w3 hb3) 3 rfl
            have y4 := V.cell_in (HBX.out w3 hb3) 4 rfl
            have y5 := V.cell_in (HBX.out w3 hb3) 5 rfl
            clear hb3 z0 z1 z2 z3 z4 z5
            go_wp2_with fail
            refine (HU.out _).mono ?_
            rintro e w4 ⟨rfl, hb4⟩
            have hb24 : Below w2.heap.size w2 w4 := H3.out.trans (hb4.mono H3.out.size)
            have H4 : Hid (Below w2.heap.size w2 w4) := hb24
            have y2' := V.cell_in (HBX.out w4 hb24) 2 rfl
            have y3' := V.cell_in (HBX.out w4 hb24) 3 rfl
            have hrow4 : w4.ownsRow w1.heap.size 9 1 (.slice a4 m c4) m (r.map Value.string) := owns_below (owns_below HI.out.2.1 H2.out.1) hb24
            have hsz4 : w1.heap.size ≤ w4.heap.size := Nat.le_trans HI.out.2.2.1.size (Nat.le_trans H2.out.1.size hb24.size)
            clear hb4 hb24 y0 y1 y2 y3 y4 y5
            go_wp2_with (at_builtin; refine wpList_append_own_at _ rfl _ _ 23 rfl w1.heap.size 9 i0 (.string ⟨#[]⟩) 1 16 Tryz.underlying23 hi0 hz0 hz1 hz2 rfl (by decide) _ _ _ rfl (hrow4.alloc _) ⟨w4.heap.size, 0, none⟩ 1 1 [.string (s.extract nf nt)] rfl rfl (cell_one _ _ _) (by intro u hu; simp at hu; subst hu; rfl) (by unfold maxLen; omega) (by omega) (by simp; omega) ?_)
            intro v5 w5 hown hgrow _ hloc
            obtain ⟨a5, c5, hv5⟩ := V.owns_slice hown
            subst hv5
            have H5 : Hid (w5.ownsRow w1.heap.size 9 1 (.slice a5 (m + 1) c5) (m + 1) ((r ++ [s.extract nf nt]).map Value.string) ∧ Below w1.heap.size w1 w5) := by
              rw [List.map_append]
              refine ⟨hown, ?_⟩
              have b1 := (HI.out.2.2.1.trans (H2.out.1.mono HI.out.2.2.1.size)).trans (H4.out.mono (Nat.le_trans HI.out.2.2.1.size H2.out.1.size))
              refine b1.trans ?_
              exact (((Fr.alloc w4 _).trans (Fr.grown (D := fun j => w1.heap.size ≤ j) hgrow (fun g hg => (hrow4.lt g hg).1))).below hsz4 (fun _ e => e))
            clear hown hgrow hloc hrow4
            go_wp2_with fail
            go_roundw
            case rel => exact ⟨k + 1, en, m + 1, r ++ [s.extract nf nt], a5, c5, by omega, by omega, rfl, rfl, by go_num, by rw [List.length_append, ← HI.out.1]; rfl, H5.out.1, H5.out.2, HRk.out, HOk.out⟩
            case measure => simp [intOf]; omega
    · have hil : ¬ (k : Int) < (n : Int) := by omega
      have hd : L.drop k = [] := List.drop_of_length_le (by rw [← HN.out]; omega)
      have hRk := HI.out.2.2.2.1
      rw [hd] at hRk
      unfold usesL at hRk
      have hRs : R = some r := by rw [hRk]; simp
      subst hRs
      clear hd hRk
      go_wp2
      go_ret2
      refine ⟨HD.out.2.trans (HI.out.2.2.1.mono HD.out.2.size), _, rfl, ?_⟩
      have := V.owns_base HI.out.2.1 HD.out.2.size
      rw [HI.out.1] at this ⊢
      exact this
end Go.Proofs.YthcbagggalehgaaGreatDoor.Ex

namespace Go.Proofs.YthcbagggalehgaaGreatDoor.Ex
open Go.RowKit Go.Shelf

theorem quote_same (l : List UInt8) : quoteY l = quoteD l := rfl
theorem usesD_len : ∀ (n : Nat) (t : List UInt8) (l : List (List UInt8)), usesD n t = some l → l.length ≤ n := by
  intro n
  induction n with
  | zero => intro t l h; simp [usesD] at h; subst h; simp
  | succ n ih =>
    intro t l h
    cases t with
    | nil => simp [usesD] at h; subst h; simp
    | cons x r =>
      rw [usesD.eq_def] at h
      dsimp only at h
      split at h
      · split at h
        · simp at h; subst h; simp
        · split at h
          · cases h
          · obtain ⟨l1, h1, rfl⟩ := Option.map_eq_some_iff.1 h
            have := ih _ _ h1
            split
            · split
              · omega
              · simp; omega
            · simp; omega
      · have := ih _ _ h; omega
/-- What both Uses hand back: the names, and the error's number. -/
def codeU : Option (List ByteArray) → Int × List ByteArray
  | none => (4, [])
  | some r => (0, r)
theorem uses_code {R : Option (List ByteArray)} {w : World} {e : Ending} {w' : World} (h : UsesPost R w e w') : ∃ v, e = .returned (.tuple #[v, .int .i64 (codeU R).1]) ∧ Words w'.heap.size w' v (codeU R).2 ∧ Below w.heap.size w w' := by
  obtain ⟨h1, h2⟩ := h
  cases R with
  | none => exact ⟨_, h2, ⟨none, 0, 0, rfl, rfl, fun i hi => by simp [codeU] at hi⟩, h1⟩
  | some r =>
    obtain ⟨v, rfl, ho⟩ := h2
    exact ⟨v, rfl, words_of_owns ho (Nat.le_refl _), h1⟩
theorem ruses_code {R : Option (List ByteArray)} {w : World} {e : Ending} {w' : World} (h : RUsesPost R w e w') : ∃ v, e = .returned (.tuple #[v, .int .i64 (codeU R).1]) ∧ Words w'.heap.size w' v (codeU R).2 ∧ Below w.heap.size w w' := by
  obtain ⟨h1, h2⟩ := h
  cases R with
  | none => exact ⟨_, h2, ⟨none, 0, 0, rfl, rfl, fun i hi => by simp [codeU] at hi⟩, h1⟩
  | some r =>
    obtain ⟨v, rfl, ho⟩ := h2
    exact ⟨v, rfl, words_of_owns ho (Nat.le_refl _), h1⟩

set_option maxRecDepth 20000 in
set_option maxHeartbeats 1600000 in
theorem uses_law (s : ByteArray) (w : World) (hmx : Mx w) :
    Calls Tryz.prog 3 #[.string s] w fun e w' => e = .returned (.bool true) ∧ Below w.heap.size w w' := by
  have HM : Hid (∀ W, Below w.heap.size w W → Mx W) := fun W hW => hmx.below hW hmx.pos
  have HA : Hid (∀ W, Below w.heap.size w W → Calls Tryz.prog 8 #[] W fun e w' => e = .returned (.bool true) ∧ Below w.heap.size w w') := fun W hW => (alive_any W (HM.out W hW)).mono fun e w' h => ⟨h.1, hW.trans (h.2.mono hW.size)⟩
  by_cases hs : s.size ≤ 2000
  · have hsi : ¬ (2000 : Int) < (s.size : Int) := by omega
    obtain ⟨R, hR⟩ : ∃ R, R = (usesU (bl s)).map (List.map ba) := ⟨_, rfl⟩
    have hlen : (codeU R).2.length ≤ 2000000 := by
      rw [hR]
      cases hu : usesU (bl s) with
      | none => simp [codeU]
      | some l =>
        have := usesD_len _ _ _ hu
        rw [bl_length] at this
        simp [codeU]
        omega
    have HU : Hid (∀ W, Below w.heap.size w W → Calls Tryz.prog 9 #[.string s] W fun e w' => ∃ v, e = .returned (.tuple #[v, .int .i64 (codeU R).1]) ∧ Words w'.heap.size w' v (codeU R).2 ∧ Below W.heap.size W w') := fun W _ => by
      obtain ⟨h1, h2⟩ := scanL_uses s
      have := uses_all s W (by omega) h2
      rw [h1, ← hR] at this
      exact this.mono fun e w' h => uses_code h
    have HV : Hid (∀ W, Calls Tryz.prog 10 #[.string s] W fun e w' => ∃ v, e = .returned (.tuple #[v, .int .i64 (codeU R).1]) ∧ Words w'.heap.size w' v (codeU R).2 ∧ Below W.heap.size W w') := fun W =>
      (ruses s W (by omega) R hR).mono fun e w' h => ruses_code h
    have HS : Hid (∀ v1 v2 W, Words W.heap.size W v1 (codeU R).2 → Words W.heap.size W v2 (codeU R).2 → Calls Tryz.prog 11 #[v1, v2] W fun e w' => e = .returned (.bool true) ∧ Below W.heap.size W w') := fun v1 v2 W h1 h2 =>
      (same_any _ v1 v2 _ _ W hlen h1 h2).mono fun e w' h => ⟨h.1, by obtain ⟨n, hn⟩ := h.2; rw [hn]; exact below_drewN (Below.refl _ _) n⟩
    obtain ⟨q, hq⟩ : ∃ q, q = ba (quoteD (bl s)) := ⟨_, rfl⟩
    have HQ : Hid (∀ W, Below w.heap.size w W → Calls Tryz.prog 12 #[.string s] W fun e w' => e = .returned (.string q) ∧ Below w.heap.size w w') := fun W hW => by
      rw [hq]
      exact (quote_any s W (HM.out W hW) (by omega)).mono fun e w' h => ⟨h.1, hW.trans (h.2.mono hW.size)⟩
    have HQ2 : Hid (∀ W, Below w.heap.size w W → Calls Tryz.prog 13 #[.string s] W fun e w' => e = .returned (.string q) ∧ Below w.heap.size w w') := fun W hW => by
      rw [hq, ← quote_same]
      exact (rquote8 s W (by omega)).mono fun e w' h => ⟨h.1, hW.trans (h.2.mono hW.size)⟩
    have hE : ∀ (t : ByteArray), t.size ≤ 1000000 → (∀ W, Below w.heap.size w W → Calls Tryz.prog 14 #[.string t] W fun e w' => e = .returned (.int .i64 (useN (bl t) : Nat)) ∧ Below w.heap.size w w') ∧ (∀ W, Below w.heap.size w W → Calls Tryz.prog 15 #[.string t] W fun e w' => e = .returned (.int .i64 (useN (bl t) : Nat)) ∧ Below w.heap.size w w') := fun t ht =>
      ⟨fun W hW => (useN_any t W ht).mono fun e w' h => ⟨h.1, hW.trans (h.2.mono hW.size)⟩, fun W hW => (ruse t ht W).mono fun e w' h => ⟨h.1, h.2 ▸ hW⟩⟩
    have HE1 : Hid _ := (hE s (by omega)).1
    have HE2 : Hid _ := (hE s (by omega)).2
    have hz2 : ((⟨#[36]⟩ : ByteArray) ++ s).size ≤ 1000000 := by rw [ByteArray.size_append]; show 1 + s.size ≤ _; omega
    have HE3 : Hid _ := (hE ((⟨#[36]⟩ : ByteArray) ++ s) hz2).1
    have HE4 : Hid _ := (hE ((⟨#[36]⟩ : ByteArray) ++ s) hz2).2
    generalize (useN (bl s) : Nat) = n1 at HE1 HE2
    generalize (useN (bl ((⟨#[36]⟩ : ByteArray) ++ s)) : Nat) = n2 at HE3 HE4
    generalize (codeU R).1 = c at HU HV
    generalize (codeU R).2 = l at HU HV HS
    have hz : ¬ 9223372036854775807 < (⟨#[36]⟩ : ByteArray).size + s.size := by
      have : (⟨#[36]⟩ : ByteArray).size = 1 := rfl
      omega
    clear hmx hlen hR hq hE hz2
    go_enter Tryz.func3, Tryz.ntmps3
    go_wp2_with fail
    refine (HU.out _ (Below.refl _ _)).mono ?_
    rintro e w1 ⟨v1, rfl, hw1, hb1⟩
    have H1 : Hid (Words w1.heap.size w1 v1 l ∧ Below w.heap.size w w1) := ⟨hw1, hb1⟩
    clear hw1 hb1 HU
    go_wp2_with fail
    refine (HV.out w1).mono ?_
    rintro e w2 ⟨v2, rfl, hw2, hb2⟩
    have H2 : Hid (Words w2.heap.size w2 v1 l ∧ Words w2.heap.size w2 v2 l ∧ Below w.heap.size w w2) := ⟨(H1.out.1.below hb2).mono hb2.size, hw2, H1.out.2.trans (hb2.mono H1.out.2.size)⟩
    clear hw2 hb2 HV
    go_wp2_with fail
    refine (HS.out v1 v2 w2 H2.out.1 H2.out.2.1).mono ?_
    rintro e w3 ⟨rfl, hb3⟩
    have H3 : Hid (Below w.heap.size w w3) := H2.out.2.2.trans (hb3.mono H2.out.2.2.size)
    clear hb3 HS
    go_wp2_with fail
    refine (HQ.out w3 H3.out).mono ?_
    rintro e w4 ⟨rfl, hb4⟩
    go_wp2_with fail
    refine (HQ2.out w4 hb4).mono ?_
    rintro e w5 ⟨rfl, hb5⟩
    go_wp2_with fail
    refine (HE1.out w5 hb5).mono ?_
    rintro e w6 ⟨rfl, hb6⟩
    go_wp2_with fail
    refine (HE2.out w6 hb6).mono ?_
    rintro e w7 ⟨rfl, hb7⟩
    go_wp2_with fail
    refine (HE3.out w7 hb7).mono ?_
    rintro e w8 ⟨rfl, hb8⟩
    go_wp2_with fail
    refine (HE4.out w8 hb8).mono ?_
    rintro e w9 ⟨rfl, hb9⟩
    go_wp2_with fail
    refine (HA.out w9 hb9).mono ?_
    rintro e wa ⟨rfl, hba⟩
    go_wp2
    go_ret
    exact ⟨rfl, hba⟩
  · have hsi : (2000 : Int) < (s.size : Int) := by omega
    clear hs hmx
    go_enter Tryz.func3, Tryz.ntmps3
    go_wp2_with fail
    refine (HA.out w (Below.refl _ _)).mono ?_
    rintro e w7 ⟨rfl, hb7⟩
    go_wp2
    go_ret
    exact ⟨rfl, hb7⟩
end Go.Proofs.YthcbagggalehgaaGreatDoor.Ex
