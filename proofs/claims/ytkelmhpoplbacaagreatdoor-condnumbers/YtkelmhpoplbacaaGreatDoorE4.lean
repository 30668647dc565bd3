/-
  What a text means, told as the program does it; where a piece would not lie in the text nothing is told.
-/
import Derived.Test.YtkelmhpoplbacaaGreatDoorE3
namespace Go.Proofs.YtkelmhpoplbacaaGreatDoor.Ex
open Go.RowKit Go.Shelf

def endG (s made : ByteArray) (at_ en : Nat) (left : List Dl) (fuel : Nat) : Mes :=
  if at_ ≤ en ∧ en ≤ s.size then addF made (s.extract at_ en) fun r => .ok r left fuel else .bad
def meanG (ev : Env) (tx : List ByteArray → Nat → ByteArray → Res) (within : List ByteArray) (s : ByteArray) : Nat → ByteArray → Nat → Nat → List Dl → Nat → Mes
  | 0, _, _, _, _, _ => .bad
  | n + 1, made, at_, en, left, fuel =>
    match left with
    | [] => endG s made at_ en [] fuel
    | d :: rest =>
      if d.fr < en then
        if at_ ≤ d.fr ∧ d.fr ≤ s.size then
          addF made (s.extract at_ d.fr) fun m1 =>
            (dollarF ev tx within (fun a b l f => meanG ev tx within s n E0 a b l f) d rest fuel).and fun r l2 f2 =>
              addF m1 r fun m2 => meanG ev tx within s n m2 d.en en l2 f2
        else .bad
      else endG s made at_ en (d :: rest) fuel
def textG (ev : Env) : Nat → List ByteArray → Nat → ByteArray → Res
  | 0, _, _, _ => .bad
  | k + 1, within, fuel, s => (meanG ev (textG ev k) within s ((scanL (bl s)).length + 1) E0 0 s.size (scanL (bl s)) fuel).res

theorem end_len {s made : ByteArray} {at_ en : Nat} {left l : List Dl} {fuel f : Nat} {r : ByteArray} (h : endG s made at_ en left fuel = .ok r l f) : l = left := by
  unfold endG addF at h
  split at h
  · split at h
    · cases h
    · cases h; rfl
  · cases h
theorem mean_len (ev : Env) (tx : List ByteArray → Nat → ByteArray → Res) (within : List ByteArray) (s : ByteArray) : ∀ (n : Nat) (made : ByteArray) (at_ en : Nat) (left : List Dl) (fuel : Nat) (r : ByteArray) (l : List Dl) (f : Nat), meanG ev tx within s n made at_ en left fuel = .ok r l f → l.length ≤ left.length := by
  intro n
  induction n with
  | zero => intro made at_ en left fuel r l f h; cases h
  | succ n ih =>
    intro made at_ en left fuel r l f h
    unfold meanG at h
    cases left with
    | nil => rw [end_len h]; exact Nat.le_refl _
    | cons d rest =>
      dsimp only at h
      by_cases h1 : d.fr < en
      · rw [if_pos h1] at h
        by_cases h2 : at_ ≤ d.fr ∧ d.fr ≤ s.size
        · rw [if_pos h2] at h
          unfold addF at h
          split at h
          · cases h
          · cases hd : dollarF ev tx within (fun a b l f => meanG ev tx within s n E0 a b l f) d rest fuel with
            | err e => rw [hd] at h; cases h
            | bad => rw [hd] at h; cases h
            | ok r2 l2 f2 =>
              rw [hd] at h
              dsimp only [Mes.and] at h
              split at h
              · cases h
              · have h3 := ih _ _ _ _ _ _ _ _ h
                have h4 : l2.length ≤ rest.length := by
                  unfold dollarF at hd
                  split at hd
                  · cases hd
                  · split at hd
                    · cases hd; exact Nat.le_refl _
                    · split at hd
                      · cases hd
                      · dsimp only at hd
                        cases hm1 : meanG ev tx within s n E0 d.nf d.nt rest (fuel - 1) with
                        | err e => rw [hm1] at hd; cases hd
                        | bad => rw [hm1] at hd; cases hd
                        | ok a1 b1 c1 =>
                          rw [hm1] at hd
                          dsimp only [Mes.and] at hd
                          have e1 := ih _ _ _ _ _ _ _ _ hm1
                          cases hm2 : meanG ev tx within s n E0 d.mf d.mt b1 c1 with
                          | err e => rw [hm2] at hd; cases hd
                          | bad => rw [hm2] at hd; cases hd
                          | ok a2 b2 c2 =>
                            rw [hm2] at hd
                            dsimp only at hd
                            have e2 := ih _ _ _ _ _ _ _ _ hm2
                            cases hu : useF ev tx within c2 a1 a2 with
                            | err e => rw [hu] at hd; cases hd
                            | bad => rw [hu] at hd; cases hd
                            | ok a3 c3 => rw [hu] at hd; cases hd; omega
                rw [List.length_cons]; omega
        · rw [if_neg h2] at h; cases h
      · rw [if_neg h1] at h
        rw [end_len h]; exact Nat.le_refl _
end Go.Proofs.YtkelmhpoplbacaaGreatDoor.Ex
