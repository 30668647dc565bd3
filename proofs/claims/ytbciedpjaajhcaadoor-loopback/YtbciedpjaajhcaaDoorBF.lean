/-
  What isName and forText answer.
-/
import Derived.Test.YtbciedpjaajhcaaDoorBW5
import Derived.Test.YtbciedpjaajhcaaDoorShelfF
import Derived.Maps.Ext
import Derived.Maps.OwnSet
namespace Go.Proofs.YtbciedpjaajhcaaDoor
open Go.RowKit Go.Shelf Go.Maps

set_option maxRecDepth 20000 in
set_option maxHeartbeats 800000 in
theorem rune_any (r : Nat) (w : World) : Calls Tryd.prog 74 #[.int .i32 (r : Int)] w fun e w' => e = .returned (.bool (noName r)) ∧ w = w' := by
  have HN : Hid (∀ v : Bool, (v = true ↔ (¬ (97 ≤ r ∧ r ≤ 122 ∨ 65 ≤ r ∧ r ≤ 90) ∧ ¬ r = 95 ∧ (r < 48 ∨ 57 < r))) → noName r = v) := fun v hv => by
    rw [Bool.eq_iff_iff, hv]; unfold noName; simp only [Bool.and_eq_true, Bool.not_eq_true', Bool.or_eq_false_iff, Bool.and_eq_false_iff, decide_eq_false_iff_not, Bool.or_eq_true, decide_eq_true_eq]; omega
  by_cases a1 : (97 : Int) ≤ (r : Int)
  · by_cases a2 : (r : Int) ≤ 122
    · have HV : Hid (noName r = false) := HN.out false (by simp; omega)
      go_enter Tryd.func74, Tryd.ntmps74
      go_wp2
      go_ret
      exact ⟨ret_bool HV.out.symm, rfl⟩
    · have HV : Hid (noName r = true) := HN.out true (by simp; omega)
      have a3 : (65 : Int) ≤ (r : Int) := by omega
      have a4 : ¬ (r : Int) ≤ 90 := by omega
      have a5 : ¬ (r : Int) = 95 := by omega
      have a6 : ((r : Int) == 95) = false := by simpa using a5
      have a7 : ¬ (r : Int) < 48 := by omega
      have a8 : (57 : Int) < (r : Int) := by omega
      go_enter Tryd.func74, Tryd.ntmps74
      go_wp2
      go_ret
      exact ⟨ret_bool (by rw [HV.out]; simpa using a5), rfl⟩
  · by_cases a3 : (65 : Int) ≤ (r : Int)
    · by_cases a4 : (r : Int) ≤ 90
      · have HV : Hid (noName r = false) := HN.out false (by simp; omega)
        go_enter Tryd.func74, Tryd.ntmps74
        go_wp2
        go_ret
        exact ⟨ret_bool HV.out.symm, rfl⟩
      · have a7 : ¬ (r : Int) < 48 := by omega
        have a8 : (57 : Int) < (r : Int) := by omega
        by_cases a5 : (r : Int) = 95
        · have HV : Hid (noName r = false) := HN.out false (by simp; omega)
          rw [a5]
          go_enter Tryd.func74, Tryd.ntmps74
          go_wp2
          go_ret
          exact ⟨ret_bool HV.out.symm, rfl⟩
        · have HV : Hid (noName r = true) := HN.out true (by simp; omega)
          have a6 : ((r : Int) == 95) = false := by simpa using a5
          go_enter Tryd.func74, Tryd.ntmps74
          go_wp2
          go_ret
          exact ⟨ret_bool (by rw [HV.out]; simpa using a5), rfl⟩
    · have a5 : ¬ (r : Int) = 95 := by omega
      have a6 : ((r : Int) == 95) = false := by simpa using a5
      by_cases a7 : (r : Int) < 48
      · have HV : Hid (noName r = true) := HN.out true (by simp; omega)
        go_enter Tryd.func74, Tryd.ntmps74
        go_wp2
        go_ret
        exact ⟨ret_bool (by rw [HV.out]; simpa using a5), rfl⟩
      · by_cases a8 : (57 : Int) < (r : Int)
        · have HV : Hid (noName r = true) := HN.out true (by simp; omega)
          go_enter Tryd.func74, Tryd.ntmps74
          go_wp2
          go_ret
          exact ⟨ret_bool (by rw [HV.out]; simpa using a5), rfl⟩
        · have HV : Hid (noName r = false) := HN.out false (by simp; omega)
          go_enter Tryd.func74, Tryd.ntmps74
          go_wp2
          go_ret
          exact ⟨ret_bool HV.out.symm, rfl⟩

theorem enter_rune : ∀ args w, (callFunc 74 args).run Tryd.prog w = .ok (.enter 74 args) w := fun args w => by
  first
  | kernel_rfl
  | rfl
set_option maxRecDepth 20000 in
set_option maxHeartbeats 400000 in
theorem name_any (s : ByteArray) (w : World) : Calls Tryd.prog 65 #[.string s] w fun e w' => e = .returned (.bool (nameOk s)) ∧ Below w.heap.size w w' := by
  by_cases h0 : s = E
  · subst h0
    go_enter Tryd.func65, Tryd.ntmps65
    go_wp2
    go_ret
    exact ⟨rfl, Below.refl _ _⟩
  · obtain ⟨s1, s2⟩ := ne_empty h0
    have HI : Hid (∀ W, Calls Tryd.prog 73 #[.string s, .func (.func 74) #[] #[]] W fun e w' => e = .returned (.int .i64 (Lib.idxFunc noName true s)) ∧ Below W.heap.size W w') := fun W =>
      Tryd.strings_IndexFunc_grows 74 #[] enter_rune noName s W (fun W' x _ _ => (rune_any x W').mono fun e w' h => ⟨h.1, by rw [← h.2]; exact Below.refl _ _⟩)
    have HV : Hid (nameOk s = decide (Lib.idxFunc noName true s < 0)) := by unfold Hid nameOk; simp [h0]
    obtain ⟨X, hX⟩ : ∃ X, X = Lib.idxFunc noName true s := ⟨_, rfl⟩
    rw [← hX] at HI HV
    clear hX h0
    go_enter Tryd.func65, Tryd.ntmps65
    go_wp2_with fail
    refine (HI.out _).mono ?_
    rintro e w1 ⟨rfl, h1⟩
    have H1 : Hid (Below w.heap.size w w1) := h1
    clear h1
    go_wp2
    go_ret
    exact ⟨ret_bool HV.out.symm, H1.out⟩

/-! A map whose elements say nothing: a set of texts. -/
abbrev setV : Value := .agg #[]
def setD : DataW Unit := .agg []
def setR : Value → Option (DataW Unit × List MemPlace)
  | .agg cs => match cs.toList with
    | [] => some (setD, [])
    | _ => none
  | _ => none
theorem setR_mk : setR setV = some (setD, []) := rfl
theorem setR_inv {v : Value} {y : DataW Unit × List MemPlace} (h : setR v = some y) : v = setV := by
  unfold setR at h
  split at h
  · rename_i cs
    split at h
    · rename_i hc
      unfold setV
      rw [← Array.toArray_toList (xs := cs), hc]
    · cases h
  · cases h
abbrev keyL (q : ByteArray) : Lit := .string (bl q)
theorem key_isLit (q : ByteArray) : WideAt.IsKeyLit (keyL q) := trivial
theorem keyL_ne {p q : ByteArray} (h : p ≠ q) : keyL p ≠ keyL q := fun e => h (bl_inj (by simpa [keyL] using e))
structure SRep (D : DataW Unit) (L : List ByteArray) : Prop where
  size : Maps.size D = L.length
  look : ∀ q, Maps.has D (keyL q) = mem9 q L
theorem SRep.put {D : DataW Unit} {L : List ByteArray} (h : SRep D L) (ht : Tidy D) {q : ByteArray} (hq : mem9 q L = false) : SRep (D.put (keyL q) setD) (L ++ [q]) := by
  refine ⟨?_, fun p => ?_⟩
  · rw [size_put ht, h.look, h.size, hq]; simp
  · by_cases hp : p = q
    · subst hp; rw [has_put_same ht.isMap (key_isLit p), mem9_snoc]; simp
    · rw [has_put_other (keyL_ne hp), h.look, mem9_snoc]; simp [Ne.symm hp]
def Set9 (w : World) (m : Nat) (L : List ByteArray) : Prop := ∃ D, w.ownsMap Tryd.prog 9 setR m L.length D ∧ SRep D L
theorem keyed9 : Keyed Tryd.prog 9 := string_keyed Tryd.underlying9
section
variable {w w' : World} {m : Nat} {L : List ByteArray}
theorem Set9.of_block (h : Set9 w m L) (e : w'.heap[m]? = w.heap[m]?) : Set9 w' m L := by
  obtain ⟨D, ⟨es, clock, hb, r⟩, hR⟩ := h
  exact ⟨D, ⟨es, clock, e.trans hb, r⟩, hR⟩
theorem Set9.lt (h : Set9 w m L) : m < w.heap.size := by obtain ⟨D, h, _⟩ := h; exact h.lt
theorem Set9.empty {clock : Nat} (hb : w.heap[m]? = some (.map #[] clock)) : Set9 w m [] :=
  ⟨.map [], ⟨#[], clock, hb, ⟨by simp, MapKept.stamped_empty clock, by simp⟩, Nat.le_refl _, rfl⟩, ⟨rfl, fun q => rfl⟩⟩
theorem set_exact {b n : Nat} {D : DataW Unit} (h : w.ownsMap Tryd.prog 9 setR b n D) {m : Nat} (hm : Maps.size D = m) : w.ownsMap Tryd.prog 9 setR b m D := by
  obtain ⟨es, clock, hb, F, hs, rfl⟩ := h
  refine ⟨es, clock, hb, F, ?_, rfl⟩
  rw [← hm]
  simp [Maps.size, length_sorted]
theorem keyOf_str {q : ByteArray} (hq : q.size ≤ 140737488355328) : keyOf Tryd.prog 9 (.string q) = some (keyL q) := Go.WideMaps.keyOf_string_mk (P := Tryd.prog) Tryd.underlying9 (s := q) (by unfold maxLen; omega)
theorem Set9.see (h : Set9 w m L) {q : ByteArray} (hq : q.size ≤ 140737488355328) (W : World) (hW : W.heap[m]? = w.heap[m]?) :
    (Instr.lookup 113 (.map (some m)) (.string q) true).run Tryd.prog W = .ok (.tuple #[setV, .bool (mem9 q L)]) W := by
  obtain ⟨D, hown, hR⟩ := h.of_block hW
  obtain ⟨v, ps, hrun, hv⟩ := hown.look_ok keyed9 Tryd.underlying113 (Tryd.zeroValue115 W) setR_mk (keyOf_str hq)
  obtain rfl := setR_inv hv
  rw [hrun, hR.look q]
structure Turned (m : Nat) (w w' : World) : Prop where
  os : w'.os = w.os
  tape : w'.tape = w.tape
  output : w'.output = w.output
  size : w'.heap.size = w.heap.size
  block : ∀ j, j ≠ m → w'.heap[j]? = w.heap[j]?
theorem turned_of (h : w.mapTurned w' m) : Turned m w w' := by
  obtain ⟨es, clock, es', clock', hb, rfl⟩ := h
  exact ⟨rfl, rfl, rfl, by simp [ChangeMaps.setBlock], fun j hj => ChangeMaps.heap_setBlock_other hb _ hj⟩
theorem Set9.put (h : Set9 w m L) (hl : L.length ≤ 1000000) {q : ByteArray} (hq : q.size ≤ 140737488355328) (hn : mem9 q L = false) :
    ∃ w', (Instr.mapUpdate 113 (.map (some m)) (.string q) setV).run Tryd.prog w = .ok () w' ∧ Set9 w' m (L ++ [q]) ∧ Turned m w w' := by
  obtain ⟨D, hown, hR⟩ := h
  obtain ⟨w', hrun, h1, h2⟩ := hown.store keyed9 Tryd.underlying113 (by unfold maxLen; omega) (keyOf_str hq) setR_mk
  have hr := hR.put (hown.tidy keyed9) hn
  exact ⟨w', hrun, ⟨_, set_exact h1 hr.size, hr⟩, turned_of h2⟩
end
end Go.Proofs.YtbciedpjaajhcaaDoor
