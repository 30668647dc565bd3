/-
  What the document's own closing, End and cut answer.
-/
import Derived.Test.YtllpbehhbpefjaaDoorY1a
import Derived.Test.YtllpbehhbpefjaaDoorX5
namespace Go.Proofs.YtllpbehhbpefjaaDoor.Ex
open Go.RowKit Go.Shelf

theorem rclosing (x : UInt8) (w : World) :
    Calls Tryd.prog 78 #[.int .u8 (x.toNat : Int)] w fun e w' => e = .returned (.int .u8 ((clo x).toNat : Int)) ∧ w = w' := by
  by_cases h1 : x = 123
  · subst h1
    go_enter Tryd.func78, Tryd.ntmps78
    go_wp2
    go_ret
    exact ⟨rfl, rfl⟩
  · have a1 : ¬ (x.toNat : Int) = 123 := by
      have h : ¬ x.toNat = 123 := fun h => h1 (UInt8.toNat_inj.1 (by rw [h]; rfl))
      omega
    have b1 : ((x.toNat : Int) == 123) = false := by simpa using a1
    by_cases h2 : x = 40
    · subst h2
      go_enter Tryd.func78, Tryd.ntmps78
      go_wp2
      go_ret
      exact ⟨rfl, rfl⟩
    · have a2 : ¬ (x.toNat : Int) = 40 := by
        have h : ¬ x.toNat = 40 := fun h => h2 (UInt8.toNat_inj.1 (by rw [h]; rfl))
        omega
      have b2 : ((x.toNat : Int) == 40) = false := by simpa using a2
      have hc : clo x = 0 := by unfold clo; rw [if_neg h1, if_neg h2]
      rw [hc]
      clear h1 h2 hc
      go_enter Tryd.func78, Tryd.ntmps78
      go_wp2
      go_ret
      exact ⟨rfl, rfl⟩

/-- The place behind a use, as the document's End tells it. -/
def endI (at_ : Nat) : Option Nat → Int
  | none => -1
  | some k => ((at_ + k : Nat) : Int)
/-- What is left to be found from a place i on. -/
def Rest (s : ByteArray) (p : Nat) (o : UInt8) (d i : Nat) : Prop :=
  (bodyF ((bl s).drop (p + 2)).length o (clo o) 0 ((bl s).drop (p + 2))).map (fun k => p + 2 + k) = (bodyF ((bl s).drop i).length o (clo o) d ((bl s).drop i)).map (fun k => i + k)
theorem Rest.start (s : ByteArray) (p : Nat) (o : UInt8) : Rest s p o 0 (p + 2) := rfl
theorem body_unfold (n : Nat) (o c : UInt8) (d : Nat) (x : UInt8) (r : List UInt8) (hn : n = (x :: r).length) :
    bodyF n o c d (x :: r) =
      if x = 36 then (match endN (x :: r) with
        | none => none
        | some k => if r = [] then none else (bodyF ((x :: r).drop k).length o c d ((x :: r).drop k)).map (· + k))
      else if x = o then (bodyF r.length o c (d + 1) r).map (· + 1)
      else if x = c then (if d = 0 then some 1 else (bodyF r.length o c (d - 1) r).map (· + 1))
      else (bodyF r.length o c d r).map (· + 1) := by
  subst hn
  rw [List.length_cons, bodyF.eq_def]
  dsimp only
  by_cases h36 : x = 36
  · rw [if_pos h36, if_pos h36]
    cases r with
    | nil => rfl
    | cons y r2 =>
      dsimp only
      unfold endN
      dsimp only
      by_cases hy : clo y = 0
      · rw [if_pos hy, if_pos hy]
        dsimp only
        rw [if_neg (by simp : ¬ (y :: r2) = []), List.drop_succ_cons, List.drop_succ_cons, List.drop_zero, body_fuel (y :: r2).length r2.length _ _ _ r2 (by simp) (Nat.le_refl _)]
      · rw [if_neg hy, if_neg hy, body_fuel (y :: r2).length r2.length _ _ _ r2 (by simp) (Nat.le_refl _)]
        cases hb : bodyF r2.length y (clo y) 0 r2 with
        | none => rfl
        | some k =>
          have := body_le _ _ _ _ _ _ hb
          simp only [Option.map_some]
          rw [if_neg (by simp : ¬ (y :: r2) = []), List.drop_succ_cons, List.drop_succ_cons, body_fuel (y :: r2).length (r2.drop k).length _ _ _ (r2.drop k) (by rw [List.length_drop]; simp; omega) (Nat.le_refl _)]
  · rw [if_neg h36, if_neg h36]

theorem drop_at (s : ByteArray) (i : Nat) (h : i < s.size) : (bl s).drop i = s[i] :: (bl s).drop (i + 1) :=
  List.drop_eq_getElem_cons (by simpa [bl] using h)
theorem drop_len (s : ByteArray) (i : Nat) : ((bl s).drop i).length = s.size - i := by rw [List.length_drop, bl_length]
section
variable {s : ByteArray} {p d i : Nat} {o : UInt8}
def tot (s : ByteArray) (p : Nat) (o : UInt8) : Option Nat := (bodyF ((bl s).drop (p + 2)).length o (clo o) 0 ((bl s).drop (p + 2))).map (fun k => p + 2 + k)
theorem Rest.none_end (h : Rest s p o d i) (hi : ¬ i < s.size) : tot s p o = none := by
  unfold tot; rw [h]
  have : (bl s).drop i = [] := List.drop_of_length_le (by rw [bl_length]; omega)
  rw [this]; rfl
theorem Rest.bad (h : Rest s p o d i) (hi : i < s.size) (hc : s[i] = 36) (he : endN ((bl s).drop i) = none) : tot s p o = none := by
  unfold tot; rw [h]
  rw [drop_at s i hi] at he ⊢
  rw [body_unfold _ _ _ _ _ _ rfl, if_pos hc, he]; rfl
theorem Rest.use {k : Nat} (h : Rest s p o d i) (hi : i < s.size) (hc : s[i] = 36) (he : endN ((bl s).drop i) = some k) : Rest s p o d (i + k) := by
  unfold Rest at h ⊢
  rw [h]
  have hd : (bl s).drop (i + k) = (s[i] :: (bl s).drop (i + 1)).drop k := by rw [← drop_at s i hi, List.drop_drop]
  rw [hd]
  rw [drop_at s i hi] at he ⊢
  rw [body_unfold _ _ _ _ _ _ rfl, if_pos hc, he]
  dsimp only
  by_cases hr : (bl s).drop (i + 1) = []
  · rw [if_pos hr]
    have := end_le he
    rw [hr] at this ⊢
    obtain rfl : k = 1 := by simp at this; omega
    rfl
  · rw [if_neg hr, Option.map_map]
    congr 1
    funext z
    simp only [Function.comp]
    omega
theorem Rest.opens (h : Rest s p o d i) (hi : i < s.size) (hc : ¬ s[i] = 36) (ho : s[i] = o) : Rest s p o (d + 1) (i + 1) := by
  unfold Rest at h ⊢
  rw [h, drop_at s i hi, body_unfold _ _ _ _ _ _ rfl, if_neg hc, if_pos ho, Option.map_map]
  congr 1
  funext z
  simp only [Function.comp]
  omega
theorem Rest.found (h : Rest s p o 0 i) (hi : i < s.size) (hc : ¬ s[i] = 36) (ho : ¬ s[i] = o) (hs : s[i] = clo o) : tot s p o = some (i + 1) := by
  unfold tot; rw [h, drop_at s i hi, body_unfold _ _ _ _ _ _ rfl, if_neg hc, if_neg ho, if_pos hs, if_pos rfl]; rfl
theorem Rest.less (h : Rest s p o d i) (hi : i < s.size) (hc : ¬ s[i] = 36) (ho : ¬ s[i] = o) (hs : s[i] = clo o) (hd : 0 < d) : Rest s p o (d - 1) (i + 1) := by
  unfold Rest at h ⊢
  rw [h, drop_at s i hi, body_unfold _ _ _ _ _ _ rfl, if_neg hc, if_neg ho, if_pos hs, if_neg (by omega), Option.map_map]
  congr 1
  funext z
  simp only [Function.comp]
  omega
theorem Rest.plain (h : Rest s p o d i) (hi : i < s.size) (hc : ¬ s[i] = 36) (ho : ¬ s[i] = o) (hs : ¬ s[i] = clo o) : Rest s p o d (i + 1) := by
  unfold Rest at h ⊢
  rw [h, drop_at s i hi, body_unfold _ _ _ _ _ _ rfl, if_neg hc, if_neg ho, if_neg hs, Option.map_map]
  congr 1
  funext z
  simp only [Function.comp]
  omega
end
def optI : Option Nat → Int
  | none => -1
  | some v => (v : Int)
theorem end_tot (s : ByteArray) (p : Nat) (h : p + 1 < s.size) (hc : clo s[p + 1] ≠ 0) : endI p (endN ((bl s).drop p)) = optI (tot s p s[p + 1]) := by
  rw [drop_at s p (by omega), drop_at s (p + 1) h]
  unfold endN tot
  dsimp only
  rw [if_neg hc]
  cases bodyF ((bl s).drop (p + 1 + 1)).length s[p + 1] (clo s[p + 1]) 0 ((bl s).drop (p + 1 + 1)) with
  | none => rfl
  | some k => simp only [Option.map_some, endI, optI]; omega
theorem u8_int {a b : UInt8} : ((a.toNat : Int) = (b.toNat : Int)) ↔ a = b := by
  constructor
  · intro h; exact UInt8.toNat_inj.1 (by omega)
  · rintro rfl; rfl

set_option maxHeartbeats 2000000 in
set_option maxRecDepth 20000 in
theorem rend (s : ByteArray) (hs : s.size ≤ 1000000) : ∀ (n p : Nat), p < s.size → s.size - p ≤ n → ∀ w : World,
    Calls Tryd.prog 59 #[.string s, .int .i64 (p : Int)] w fun e w' => e = .returned (.int .i64 (endI p (endN ((bl s).drop p)))) ∧ w = w' := by
  intro n
  induction n with
  | zero => intro p hp hn; omega
  | succ n ih =>
    intro p hp hn w
    by_cases h1 : p + 1 < s.size
    · obtain ⟨o, ho⟩ : ∃ o, o = s[p + 1] := ⟨_, rfl⟩
      have HO : Hid (o = s[p + 1]) := ho
      have hoN : s[p + 1].toNat = o.toNat := by rw [ho]
      have HC : Hid (∀ W, Calls Tryd.prog 78 #[.int .u8 (o.toNat : Int)] W fun e w' => e = .returned (.int .u8 ((clo o).toNat : Int)) ∧ W = w') := fun W => rclosing o W
      by_cases hc : clo o = 0
      · have HR : Hid (endI p (endN ((bl s).drop p)) = (p : Int) + 2) := by
          unfold Hid
          rw [drop_at s p hp, drop_at s (p + 1) h1]
          unfold endN
          dsimp only
          rw [if_pos (by rw [← ho]; exact hc)]
          simp only [endI]; omega
        rw [hc] at HC
        clear ho ih
        go_enter Tryd.func59, Tryd.ntmps59
        go_wp2_with fail
        refine (HC.out _).mono ?_
        rintro e w1 ⟨rfl, rfl⟩
        go_wp2
        go_ret
        exact ⟨by rw [HR.out]; rfl, rfl⟩
      · have HR : Hid (endI p (endN ((bl s).drop p)) = optI (tot s p o)) := by
          unfold Hid
          rw [ho]
          exact end_tot s p h1 (by rw [← ho]; exact hc)
        obtain ⟨c, hcc⟩ : ∃ c, c = clo o := ⟨_, rfl⟩
        have HCC : Hid (c = clo o) := hcc
        rw [← hcc] at HC
        have hc0 : ¬ (c.toNat : Int) = 0 := by
          have h : ¬ c.toNat = 0 := fun h => hc (by rw [← hcc]; exact UInt8.toNat_inj.1 (by rw [h]; rfl))
          omega
        have hc0b : ((c.toNat : Int) == 0) = false := by simpa using hc0
        have HI : Hid (∀ i W, p < i → i < s.size → Calls Tryd.prog 59 #[.string s, .int .i64 (i : Int)] W fun e w' => e = .returned (.int .i64 (endI i (endN ((bl s).drop i)))) ∧ W = w') := fun i W h2 h3 => ih i h3 (by omega) W
        clear ho hc hcc ih
        go_enter Tryd.func59, Tryd.ntmps59
        go_wp2_with fail
        refine (HC.out _).mono ?_
        rintro e w1 ⟨rfl, rfl⟩
        go_wp2
        go_loop [7, 8] (fun vd vi => ∃ d i : Nat, vd = .int .i64 (d : Int) ∧ vi = .int .i64 (i : Int) ∧ p + 2 ≤ i ∧ i ≤ s.size ∧ d ≤ i ∧ Hid (Rest s p o d i)) (fun _ vi => s.size - (intOf vi).toNat)
        case atStart => exact ⟨0, p + 2, rfl, rfl, Nat.le_refl _, by omega, by omega, Rest.start s p o⟩
        case round =>
          obtain ⟨d, i, rfl, rfl, hi0, hi1, hd, HRs⟩ := hrel
          by_cases hlt : i < s.size
          · obtain ⟨x, hx⟩ : ∃ x, x = s[i] := ⟨_, rfl⟩
            have HX : Hid (x = s[i]) := hx
            have hxN : s[i].toNat = x.toNat := by rw [hx]
            by_cases h36 : x = 36
            · subst h36
              have hxN2 : s[i].toNat = 36 := by rw [hxN]; rfl
              have HE := HI.out i w (by omega) hlt
              cases he : endN ((bl s).drop i) with
              | none =>
                have HT : Hid (tot s p o = none) := HRs.out.bad hlt HX.out.symm he
                rw [he] at HE
                have HE2 : Hid (Calls Tryd.prog 59 #[.string s, .int .i64 (i : Int)] w fun e w' => e = .returned (.int .i64 (-1)) ∧ w = w') := HE
                clear HE he HI hx hxN HRs
                go_wp2_with fail
                refine HE2.out.mono ?_
                rintro e w2 ⟨rfl, rfl⟩
                go_wp2
                go_ret
                exact ⟨by rw [HR.out, HT.out]; rfl, rfl⟩
              | some k =>
                have hk := end_le he
                rw [drop_len] at hk
                have HN : Hid (Rest s p o d (i + k)) := HRs.out.use hlt HX.out.symm he
                rw [he] at HE
                obtain ⟨j, hj⟩ : ∃ j, j = i + k := ⟨_, rfl⟩
                have HE2 : Hid (Calls Tryd.prog 59 #[.string s, .int .i64 (i : Int)] w fun e w' => e = .returned (.int .i64 (j : Int)) ∧ w = w') := by rw [hj]; exact HE
                rw [← hj] at HN
                have hj1 : i < j := by omega
                have hj2 : j ≤ s.size := by omega
                clear HE he HI hx hxN HRs hj hk
                go_wp2_with fail
                refine HE2.out.mono ?_
                rintro e w2 ⟨rfl, rfl⟩
                go_wp2
                exact ⟨⟨d, j, rfl, rfl, by omega, hj2, by omega, HN⟩, by simp [intOf]; omega⟩
            · have n36 : ¬ (x.toNat : Int) = 36 := by
                have h : ¬ x.toNat = 36 := fun h => h36 (UInt8.toNat_inj.1 (by rw [h]; rfl))
                omega
              have n36b : ((x.toNat : Int) == 36) = false := by simpa using n36
              have hs36 : ¬ s[i] = 36 := by rw [← hx]; exact h36
              by_cases hxo : x = o
              · have HN : Hid (Rest s p o (d + 1) (i + 1)) := HRs.out.opens hlt hs36 (by rw [← hx]; exact hxo)
                have e1 : ((x.toNat : Int) == (o.toNat : Int)) = true := by rw [hxo]; simp
                have e2 : (x.toNat : Int) = (o.toNat : Int) := by rw [hxo]
                clear HRs HI hx hs36 hxo h36
                go_wp2
                exact ⟨⟨d + 1, i + 1, rfl, rfl, by omega, by omega, by omega, HN⟩, by simp [intOf]; omega⟩
              · have e1 : ¬ (x.toNat : Int) = (o.toNat : Int) := fun h => hxo (u8_int.1 h)
                have e2 : ((x.toNat : Int) == (o.toNat : Int)) = false := by simpa using e1
                have hso : ¬ s[i] = o := by rw [← hx]; exact hxo
                by_cases hxc : x = c
                · have e3 : (x.toNat : Int) = (c.toNat : Int) := by rw [hxc]
                  have e4 : ((x.toNat : Int) == (c.toNat : Int)) = true := by rw [hxc]; simp
                  have hsc : s[i] = clo o := by rw [← hx, ← HCC.out]; exact hxc
                  by_cases hd0 : d = 0
                  · subst hd0
                    have HT : Hid (tot s p o = some (i + 1)) := HRs.out.found hlt hs36 hso hsc
                    clear HRs HI hx hs36 hxo h36 hxc hsc hso
                    go_wp2
                    go_ret
                    exact ⟨by rw [HR.out, HT.out]; rfl, rfl⟩
                  · have HN : Hid (Rest s p o (d - 1) (i + 1)) := HRs.out.less hlt hs36 hso hsc (by omega)
                    obtain ⟨d', rfl⟩ : ∃ d', d = d' + 1 := ⟨d - 1, by omega⟩
                    have hdd : ¬ ((d' + 1 : Nat) : Int) = 0 := by omega
                    have hddb : (((d' + 1 : Nat) : Int) == 0) = false := by simpa using hdd
                    clear HRs HI hx hs36 hxo h36 hxc hsc hso hd0
                    go_wp2
                    exact ⟨⟨d', i + 1, by (first | rfl | (congr 1; omega)), rfl, by omega, by omega, by omega, HN⟩, by simp [intOf]; omega⟩
                · have e3 : ¬ (x.toNat : Int) = (c.toNat : Int) := fun h => hxc (u8_int.1 h)
                  have e4 : ((x.toNat : Int) == (c.toNat : Int)) = false := by simpa using e3
                  have HN : Hid (Rest s p o d (i + 1)) := HRs.out.plain hlt hs36 hso (by rw [← hx, ← HCC.out]; exact hxc)
                  clear HRs HI hx hs36 hxo h36 hxc hso
                  go_wp2
                  exact ⟨⟨d, i + 1, rfl, rfl, by omega, by omega, by omega, HN⟩, by simp [intOf]; omega⟩
          · obtain rfl : i = s.size := by omega
            have HT : Hid (tot s p o = none) := HRs.out.none_end (by omega)
            clear HRs HI
            go_wp2
            go_ret
            exact ⟨by rw [HR.out, HT.out]; rfl, rfl⟩
    · have HR : Hid (endI p (endN ((bl s).drop p)) = (p : Int) + 1) := by
        unfold Hid
        have : (bl s).drop (p + 1) = [] := List.drop_of_length_le (by rw [bl_length]; omega)
        rw [drop_at s p hp, this]
        simp only [endN, endI]; omega
      clear ih
      go_enter Tryd.func59, Tryd.ntmps59
      go_wp2
      go_ret
      exact ⟨by rw [HR.out]; rfl, rfl⟩
end Go.Proofs.YtllpbehhbpefjaaDoor.Ex
