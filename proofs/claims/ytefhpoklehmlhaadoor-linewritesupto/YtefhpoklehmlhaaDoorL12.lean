/-
  LineBoth.
-/
import Derived.Test.YtefhpoklehmlhaaDoorL11
namespace Go.Proofs.YtefhpoklehmlhaaDoor
open Go.RowKit Go.Shelf

def TruePost (w : World) (e : Ending) (w' : World) : Prop := e = .returned (.bool true) ∧ Below w.heap.size w w'

set_option maxRecDepth 20000 in
set_option maxHeartbeats 400000 in
theorem both_far (s t : ByteArray) (w : World) (hs : s.size ≤ 140737488355328) (ht : t.size ≤ 140737488355328) (hm : Mx w) (h : 60000 < s.size + t.size) :
    Calls Tryd.prog 4 #[.string s, .string t] w (TruePost w) := by
  have HA : Hid (Calls Tryd.prog 10 #[] w fun e w' => e = .returned (.bool true) ∧ Below w.heap.size w w') := alive_any w hm
  have hsi : (60000 : Int) < (s.size : Int) + (t.size : Int) := by omega
  clear hm h
  go_enter Tryd.func4, Tryd.ntmps4
  go_wp2_with fail
  refine HA.out.mono ?_
  rintro e w1 ⟨rfl, h1⟩
  have H1 : Hid (Below w.heap.size w w1) := h1
  clear h1
  go_wp2_with fail
  go_ret
  exact ⟨rfl, H1⟩

theorem box_in {w3 : World} {cs : Array Value} {T : TypeId} {b : Nat} (h : w3.heap[b]? = some (.cells cs T (0, 0))) (o : Obj) (i : Nat) {u : Value} (hu : cs[i]? = some u) : (w3.alloc o).cell? ⟨b, i, none⟩ = some u := by
  have hb := (Array.getElem?_eq_some_iff.1 h).1
  rw [World.cell?_alloc_old _ _ _ (by show b ≠ w3.heap.size; omega)]
  exact cell_in h i hu

section
variable (s t : ByteArray) (w : World)
set_option maxRecDepth 20000 in
set_option maxHeartbeats 400000 in
/-- The first text has a fault. -/
theorem both_A (hs : s.size + t.size ≤ 60000) (hm : Mx w) (h : (Ln.readL (bl s ++ [10])).why ≠ 0) :
    Calls Tryd.prog 4 #[.string s, .string t] w (TruePost w) := by
  obtain ⟨sx, hsx⟩ : ∃ sx, sx = s ++ (⟨#[10]⟩ : ByteArray) := ⟨_, rfl⟩
  have hsb : bl sx = bl s ++ [10] := by rw [hsx, bl_app]; rfl
  have hss : sx.size = s.size + 1 := by rw [← bl_length, hsb]; simp [bl_length]
  obtain ⟨st, hst⟩ : ∃ st, st = sx ++ t := ⟨_, rfl⟩
  have hsts : st.size = s.size + 1 + t.size := by rw [hst, ByteArray.size_append, hss]
  rw [← hsb] at h
  have HR1 : Hid (Calls Tryd.prog 9 #[.string sx] w fun e w' => ∃ a c, e = .returned (.tuple #[.slice a 0 c, .agg #[.int .i64 ((Ln.readL (bl sx)).why : Nat), .int .i64 ((Ln.readL (bl sx)).at_ : Nat)]]) ∧ Below w.heap.size w w') := read_bad sx w (by omega) hm h
  have HR2 : Hid (∀ W, Below w.heap.size w W → Calls Tryd.prog 9 #[.string t] W fun e w' => ∃ a m c y n, e = .returned (.tuple #[.slice a m c, .agg #[.int .i64 y, .int .i64 n]]) ∧ Below W.heap.size W w') := fun W hW => read_some t W (by omega) (hm.below hW hm.pos)
  have HR3 : Hid (∀ W, Below w.heap.size w W → Calls Tryd.prog 9 #[.string st] W fun e w' => ∃ a m c y n, e = .returned (.tuple #[.slice a m c, .agg #[.int .i64 y, .int .i64 n]]) ∧ Below W.heap.size W w') := fun W hW => read_some st W (by omega) (hm.below hW hm.pos)
  have HA : Hid (∀ W, Below w.heap.size w W → Calls Tryd.prog 10 #[] W fun e w' => e = .returned (.bool true) ∧ Below W.heap.size W w') := fun W hW => alive_any W (hm.below hW hm.pos)
  have hne := neqFyes (n := (Ln.readL (bl sx)).at_) h
  obtain ⟨y1, hy1⟩ : ∃ y1 : Int, y1 = ((Ln.readL (bl sx)).why : Int) := ⟨_, rfl⟩
  obtain ⟨n1, hn1⟩ : ∃ n1 : Int, n1 = ((Ln.readL (bl sx)).at_ : Int) := ⟨_, rfl⟩
  rw [← hy1, ← hn1] at HR1 hne
  have hsi : ¬ (60000 : Int) < (s.size : Int) + (t.size : Int) := by omega
  have hadd : ¬ 9223372036854775807 < s.size + 1 := by omega
  have hadd2 : sx.size + t.size ≤ 60001 := by omega
  clear hm h hy1 hn1 hsb hss hsts
  go_enter Tryd.func4, Tryd.ntmps4
  go_wp2_with fail
  rw [← hsx]
  clear hsx
  refine HR1.out.mono ?_
  rintro e w1 ⟨a1, c1, rfl, h1⟩
  have H1 : Hid (Below w.heap.size w w1 ∧ Below w.heap.size w (w1.alloc (.cells #[.int .i64 y1, .int .i64 n1] 25))) := ⟨h1, h1.alloc h1.size _⟩
  clear h1
  go_wp2_with fail
  refine (HR2.out _ H1.out.2).mono ?_
  rintro e w2 ⟨a2, m2, c2, y2, n2, rfl, h2⟩
  have hbx := box_kept h2
  have hz2 := h2.size
  have H2 : Hid (Below w.heap.size w w2 ∧ w2.heap[w1.heap.size]? = some (.cells #[.int .i64 y1, .int .i64 n1] 25 (0, 0)) ∧ w.heap.size ≤ w2.heap.size) := ⟨below_trans H1.out.2 h2 (Nat.le_trans H1.out.1.size (by simp)), hbx, by have := H1.out.1.size; simp at hz2; omega⟩
  clear h2 hbx hz2
  go_wp2_with fail
  rw [← hst]
  clear hst
  refine (HR3.out _ (H2.out.1.alloc H2.out.2.2 _)).mono ?_
  rintro e w3 ⟨a3, m3, c3, y3, n3, rfl, h3⟩
  have hbx : w3.heap[w1.heap.size]? = some (.cells #[.int .i64 y1, .int .i64 n1] 25 (0, 0)) := by
    have hlt := (Array.getElem?_eq_some_iff.1 H2.out.2.1).1
    rw [h3.block w1.heap.size (by simp; omega)]
    exact (Below.heap_alloc _ _ _ hlt).trans H2.out.2.1
  have H3 : Hid (Below w.heap.size w w3) := below_trans (H2.out.1.alloc H2.out.2.2 _) h3 (Nat.le_trans H2.out.2.2 (by simp))
  have e0 := box_in hbx (.cells #[.int .i64 y3, .int .i64 n3] 25) 0 rfl
  have e1 := box_in hbx (.cells #[.int .i64 y3, .int .i64 n3] 25) 1 rfl
  clear h3 hbx
  go_wp2_with fail
  refine (HA.out _ (H3.out.alloc H3.out.size _)).mono ?_
  rintro e w4 ⟨rfl, h4⟩
  have H4 : Hid (Below w.heap.size w w4) := below_trans (H3.out.alloc H3.out.size _) h4 (Nat.le_trans H3.out.size (by simp))
  clear h4
  go_wp2_with fail
  go_ret
  exact ⟨rfl, H4⟩
end
end Go.Proofs.YtefhpoklehmlhaaDoor
