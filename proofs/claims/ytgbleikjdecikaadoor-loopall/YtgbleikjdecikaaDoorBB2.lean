/-
  What newBinding, starts and text answer.
-/
import Derived.Test.YtgbleikjdecikaaDoorBB
import Derived.Test.YtgbleikjdecikaaDoorBF2
namespace Go.Proofs.YtgbleikjdecikaaDoor
open Go.RowKit Go.Shelf
open Ex (useN Fr)

theorem mem_take (c : ByteArray) (U : List ByteArray) : (takeU c U).length ≤ U.length + 1 := by unfold takeU; split <;> simp
set_option maxRecDepth 20000 in
set_option maxHeartbeats 800000 in
theorem take_any (bb : Nat) (vU : Value) (U : List ByteArray) (q c : ByteArray) (w : World) (hblk : w.heap[bb]? = some (.cells #[vU, .string q] 70 (0, 0))) (hrow : w.ownsRow (bb + 1) 9 1 vU U.length (U.map Value.string)) (hc : c.size ≤ 1000000) (hU : U.length ≤ 1000) :
    Calls Tryd.prog 38 #[.pointer (some ⟨bb, 0, none⟩), .string c] w fun e w' => e = .returned (.tuple #[]) ∧ ∃ vU', w'.heap[bb]? = some (.cells #[vU', .string q] 70 (0, 0)) ∧ w'.ownsRow (bb + 1) 9 1 vU' (takeU c U).length ((takeU c U).map Value.string) ∧ Below bb w w' := by
  obtain ⟨i0, hi, hz0, hz1, hz2⟩ := info_of info9
  have HU : Hid (∀ W, Calls Tryd.prog 56 #[.string c] W fun e w' => e = .returned (.int .i64 (useN (bl c) : Nat)) ∧ Below W.heap.size W w') := fun W => Ex.useN_any c W hc
  have hbl : bb < w.heap.size := (Array.getElem?_eq_some_iff.1 hblk).1
  obtain ⟨n, hn⟩ : ∃ n, n = U.length := ⟨_, rfl⟩
  rw [← hn] at hrow hU
  obtain ⟨av, cv, rfl⟩ := V.owns_slice hrow
  have HST : Hid (∀ W, Below w.heap.size w W → W.heap[bb]? = some (.cells #[.slice av n cv, .string q] 70 (0, 0)) ∧ W.ownsRow (bb + 1) 9 1 (.slice av n cv) n (U.map Value.string) ∧ Below bb w W ∧ bb < W.heap.size) := fun W hW => ⟨(hW.block _ hbl).trans hblk, owns_below hrow hW, hW.mono (Nat.le_of_lt hbl), Nat.lt_of_lt_of_le hbl hW.size⟩
  have HN : Hid (n = U.length) := hn
  clear hblk hrow hn
  obtain ⟨m, hm⟩ : ∃ m, m = useN (bl c) := ⟨_, rfl⟩
  have HM : Hid (m = useN (bl c)) := hm
  rw [← hm] at HU
  clear hm
  by_cases h : m = c.size
  · have hT : takeU c U = U ++ [c] := by unfold takeU; rw [if_pos (by rw [← HM.out]; exact h)]
    rw [hT]
    have hi2 : (m : Int) = (c.size : Int) := by omega
    rw [hi2] at HU
    clear hT h hi2
    go_enter Tryd.func38, Tryd.ntmps38
    go_wp2_with fail
    refine (HU.out _).mono ?_
    rintro e w1 ⟨rfl, h1⟩
    obtain ⟨p1, p2, p3, p4⟩ := HST.out w1 h1
    have c0 : w1.cell? ⟨bb, 0, none⟩ = some (.slice av n cv) := cell_in p1 0 rfl
    have f0 : w1.frozen? ⟨bb, 0, none⟩ = false := by simp [World.frozen?, p1]
    have H1 : Hid _ := (⟨p1, p3⟩ : _ ∧ _)
    clear h1 p1 p3
    go_wp2_with (at_builtin; refine wpList_append_own _ rfl _ _ 45 rfl (bb + 1) 9 i0 (.string ⟨#[]⟩) 1 16 Tryd.underlying45 hi hz0 hz1 hz2 rfl (by decide) _ _ _ rfl (p2.alloc _) ⟨w1.heap.size, 0, none⟩ 1 1 [.string c] rfl rfl ?c1 ?c2 ?c3 ?c4 ?c5 ?_)
    case c1 => exact cell_one_new w1 (.string c) 9
    case c2 => intro u hu; simp at hu; subst hu; rfl
    case c3 => unfold maxLen; omega
    case c4 => omega
    case c5 => simp; omega
    intro v' w2 hown' hgrow _
    have hob : (Value.slice av n cv).ownBlock ≠ some bb := fun e => by have := (p2.lt _ e).1; omega
    have z2 : w2.heap[bb]? = some (.cells #[.slice av n cv, .string q] 70 (0, 0)) := by
      rw [hgrow.block bb (by simp; omega) (Ne.symm hob), Below.heap_alloc _ _ _ p4]; exact H1.out.1
    have hb2 : Below bb w w2 := (H1.out.2.alloc (by omega) _).grown hgrow (by simp; omega) (fun k hk => by have := (p2.lt k hk).1; omega)
    obtain ⟨av', cv', rfl⟩ := V.owns_slice hown'
    have e0 : w2.cell? ⟨bb, 0, none⟩ = some (.slice av n cv) := cell_in z2 0 rfl
    have e1 : w2.frozen? ⟨bb, 0, none⟩ = false := by simp [World.frozen?, z2]
    have H2 : Hid (w2.ownsRow (bb + 1) 9 1 (.slice av' (n + 1) cv') (n + 1) (U.map Value.string ++ [.string c]) ∧ w2.heap[bb]? = some (.cells #[.slice av n cv, .string q] 70 (0, 0)) ∧ Below bb w w2) := ⟨hown', z2, hb2⟩
    clear hown' hgrow z2 hb2 c0 f0 p2
    go_wp2_with fail
    go_end0
    refine ⟨rfl, _, heap_set H2.out.2.1 _, ?_, H2.out.2.2.setCell (p := ⟨bb, 0, none⟩) (Nat.le_refl _) _⟩
    rw [List.length_append, ← HN.out, List.map_append]
    exact row_set H2.out.1 (fun e => by have := (H2.out.1.lt _ e).1; omega) _
  · have hT : takeU c U = U := by unfold takeU; rw [if_neg (by rw [← HM.out]; exact h)]
    rw [hT]
    have hi2 : ¬ (m : Int) = (c.size : Int) := by omega
    have hi3 : ((m : Int) == (c.size : Int)) = false := by simpa using hi2
    clear hT h
    go_enter Tryd.func38, Tryd.ntmps38
    go_wp2_with fail
    refine (HU.out _).mono ?_
    rintro e w1 ⟨rfl, h1⟩
    obtain ⟨p1, p2, p3, p4⟩ := HST.out w1 h1
    have H1 : Hid _ := (⟨p1, p2, p3⟩ : _ ∧ _ ∧ _)
    clear h1 p1 p2 p3 p4
    go_wp2_with fail
    go_end0
    exact ⟨rfl, _, H1.out.1, by rw [← HN.out]; exact H1.out.2.1, H1.out.2.2⟩

theorem hasp (s u : ByteArray) : Lib.hasPrefix s.data.toList u.data.toList = (bl u).isPrefixOf (bl s) := rfl
theorem start_hit {U : List ByteArray} {s : List UInt8} : ∀ {k : Nat} {u : ByteArray}, U[k]? = some u → startN (U.drop k) s = if (bl u).isPrefixOf s then u.size else startN (U.drop (k + 1)) s := by
  intro k u h
  have hk := (List.getElem?_eq_some_iff.1 h)
  obtain ⟨h1, h2⟩ := hk
  rw [List.drop_eq_getElem_cons h1, h2, startN]
set_option maxRecDepth 20000 in
set_option maxHeartbeats 800000 in
theorem starts_any (vU : Value) (U : List ByteArray) (q s : ByteArray) (w : World) (hW : Words w.heap.size w vU U) (hU : U.length ≤ 1000) :
    Calls Tryd.prog 42 #[.agg #[vU, .string q], .string s] w fun e w' => e = .returned (.int .i64 (startN U (bl s) : Nat)) ∧ Below w.heap.size w w' := by
  obtain ⟨a, n, c, hv, hn, hnc, hcell⟩ := hW
  subst hv
  have hW : Words w.heap.size w (.slice a n c) U := ⟨a, n, c, rfl, hn, hnc, hcell⟩
  have HW : Hid (n = U.length ∧ Words w.heap.size w (.slice a n c) U) := ⟨hn, hW⟩
  have HP : Hid (∀ (u : ByteArray) W, Calls Tryd.prog 59 #[.string s, .string u] W fun e w' => e = .returned (.bool ((bl u).isPrefixOf (bl s))) ∧ W = w') := fun u W => (Tryd.strings_HasPrefix s u W).mono fun e w' h => ⟨by rw [h.1, hasp], h.2.symm⟩
  rw [← hn] at hU
  obtain ⟨w1, hw1⟩ : ∃ w1, w1 = w.alloc (.cells #[.slice a n c, .string q] 70) := ⟨_, rfl⟩
  have hb1 : Below w.heap.size w w1 := by rw [hw1]; exact (Below.refl _ _).alloc (Nat.le_refl _) _
  have z1 : w1.heap[w.heap.size]? = some (.cells #[.slice a n c, .string q] 70 (0, 0)) := by rw [hw1]; exact alloc_last _ _
  have c0 : w1.cell? ⟨w.heap.size, 0, none⟩ = some (.slice a n c) := cell_in z1 0 rfl
  have HB1 : Hid (Below w.heap.size w w1) := hb1
  clear hn hcell hW hb1 z1
  go_enter Tryd.func42, Tryd.ntmps42
  go_wp2_with fail
  go_loopw [10] (fun vi wr => ∃ k : Nat, k ≤ n ∧ vi = .int .i64 (k : Int) ∧ w1 = wr ∧ Hid (startN U (bl s) = startN (U.drop k) (bl s))) (fun vi _ => n - (intOf vi).toNat)
  case atStart => exact ⟨0, Nat.zero_le _, rfl, hw1, by simp [Hid]⟩
  case round =>
    obtain ⟨k, hk, rfl, rfl, HA⟩ := hrel
    by_cases hlt : k < n
    · have hil : (k : Int) < (n : Int) := by omega
      have hkl : k < U.length := by rw [← HW.out.1]; exact hlt
      obtain ⟨b, o, rfl, hbB, d0⟩ := HW.out.2.pick k hkl
      have d1 := (HB1.out.cell (p := ⟨b, o + k, none⟩) hbB).trans d0
      have hst := start_hit (s := bl s) (List.getElem?_eq_getElem hkl)
      obtain ⟨u, hu⟩ : ∃ u, u = U[k] := ⟨_, rfl⟩
      rw [← hu] at d1 hst
      have HPu := HP.out u
      cases hp : (bl u).isPrefixOf (bl s) with
      | true =>
        rw [hp, if_pos rfl] at hst
        have HA1 : Hid (startN U (bl s) = u.size) := by unfold Hid; rw [HA.out, hst]
        rw [hp] at HPu
        have HPu : Hid (∀ W : World, Calls Tryd.prog 59 #[.string s, .string u] W fun e w' => e = .returned (.bool true) ∧ W = w') := HPu
        clear hp hst hu d0 hw1
        go_wp2_with fail
        refine (HPu.out _).mono ?_
        rintro e w' ⟨rfl, rfl⟩
        go_wp2_with fail
        go_ret
        exact ⟨ret_int (by rw [HA1.out]), HB1.out⟩
      | false =>
        rw [hp, if_neg (by simp)] at hst
        have HA1 : Hid (startN U (bl s) = startN (U.drop (k + 1)) (bl s)) := by unfold Hid; rw [HA.out, hst]
        rw [hp] at HPu
        have HPu : Hid (∀ W : World, Calls Tryd.prog 59 #[.string s, .string u] W fun e w' => e = .returned (.bool false) ∧ W = w') := HPu
        clear hp hst hu d0 hw1
        go_wp2_with fail
        refine (HPu.out _).mono ?_
        rintro e w' ⟨rfl, rfl⟩
        go_wp2
        go_roundw
        case rel => exact ⟨k + 1, by omega, by go_num, trivial, HA1⟩
        case measure => simp [intOf]; omega
    · have hil : ¬ (k : Int) < (n : Int) := by omega
      have HA1 : Hid (startN U (bl s) = 0) := by
        unfold Hid; rw [HA.out, List.drop_of_length_le (by have := HW.out.1; omega)]; rfl
      clear hw1
      go_wp2
      go_ret
      exact ⟨ret_int (by rw [HA1.out]; rfl), HB1.out⟩
end Go.Proofs.YtgbleikjdecikaaDoor
