/-
  What innermost and lastBranch answer.
-/
import Derived.Test.YtbciedpjaajhcaaDoorBS
namespace Go.Proofs.YtbciedpjaajhcaaDoor
open Go.RowKit Go.Shelf
open Ex (Fr)
theorem drewN_add (w : World) (p q : Nat) : (w.drewN p).drewN q = w.drewN (p + q) := by
  induction q with
  | zero => rfl
  | succ q ih => show ((w.drewN p).drewN q).drew = (w.drewN (p + q)).drew; rw [ih]

set_option maxRecDepth 20000 in
set_option maxHeartbeats 400000 in
theorem inner_none (b : Nat) (a : Option Addr) (c : Nat) (w : World) (h : w.cell? ⟨b, 1, none⟩ = some (.slice a 0 c)) :
    Calls Tryd.prog 18 #[.pointer (some ⟨b, 0, none⟩)] w fun e w' => e = .returned (.pointer none) ∧ w = w' := by
  go_enter Tryd.func18, Tryd.ntmps18
  go_wp2
  go_ret
  exact ⟨rfl, rfl⟩
set_option maxRecDepth 20000 in
set_option maxHeartbeats 400000 in
theorem inner_some (b g n c : Nat) (w : World) (hn : n ≤ 1000000) (h : w.cell? ⟨b, 1, none⟩ = some (.slice (some ⟨g, 0, none⟩) (n + 1) c)) :
    Calls Tryd.prog 18 #[.pointer (some ⟨b, 0, none⟩)] w fun e w' => e = .returned (.pointer (some ⟨g, n * 8, none⟩)) ∧ ∃ q, w' = w.drewN q := by
  have h1 : ¬ ((n : Int) + 1 = 0) := by omega
  have h2 : ((n : Int) + 1 == 0) = false := by simpa using h1
  have h3 : ((n : Int) + 1 - 1).toNat = n := by omega
  have h4 : (n : Int) + 1 - 1 < (n : Int) + 1 := by omega
  go_enter Tryd.func18, Tryd.ntmps18
  go_wp2
  go_quiet (fail)
  go_wp2
  go_ret
  exact ⟨rfl, _, rfl⟩
set_option maxRecDepth 20000 in
set_option maxHeartbeats 400000 in
theorem last_branch (gO o gB m c : Nat) (w : World) (hm : m ≤ 1000000) (h : w.cell? ⟨gO, o + 4, none⟩ = some (.slice (some ⟨gB, 0, none⟩) (m + 1) c)) :
    Calls Tryd.prog 50 #[.pointer (some ⟨gO, o, none⟩)] w fun e w' => e = .returned (.pointer (some ⟨gB, m * 4, none⟩)) ∧ ∃ q, w' = w.drewN q := by
  have h3 : ((m : Int) + 1 - 1).toNat = m := by omega
  have h4 : (m : Int) + 1 - 1 < (m : Int) + 1 := by omega
  go_enter Tryd.func50, Tryd.ntmps50
  go_wp2
  go_quiet (fail)
  go_wp2
  go_ret
  exact ⟨rfl, _, rfl⟩
end Go.Proofs.YtbciedpjaajhcaaDoor
