/-
  LineBoth: the second text has a fault, or there are too many lines.
-/
import Derived.Test.YtefhpoklehmlhaaDoorL12
namespace Go.Proofs.YtefhpoklehmlhaaDoor
open Go.RowKit Go.Shelf

theorem both_sizes (s t : ByteArray) : bl (s ++ (⟨#[10]⟩ : ByteArray)) = bl s ++ [10] ∧ (s ++ (⟨#[10]⟩ : ByteArray)).size = s.size + 1 ∧ bl (s ++ (⟨#[10]⟩ : ByteArray) ++ t) = bl s ++ [10] ++ bl t ∧ (s ++ (⟨#[10]⟩ : ByteArray) ++ t).size = s.size + 1 + t.size := by
  have h1 : bl (s ++ (⟨#[10]⟩ : ByteArray)) = bl s ++ [10] := by rw [bl_app]; rfl
  have h2 : (s ++ (⟨#[10]⟩ : ByteArray)).size = s.size + 1 := by rw [← bl_length, h1]; simp [bl_length]
  exact ⟨h1, h2, by rw [bl_app, h1], by rw [ByteArray.size_append, h2]⟩
def GoodPost (L : List Ln.Ln) (w : World) (e : Ending) (w' : World) : Prop :=
  ∃ a c, e = .returned (.tuple #[.slice a L.length c, .agg #[.int .i64 0, .int .i64 0]]) ∧ LZ w'.heap.size w' (.slice a L.length c) (L.map lz) ∧ L.length ≤ c ∧ Below w.heap.size w w'
theorem read_goodL (s : ByteArray) (w : World) (hs : s.size ≤ 9223372036854775807) (hm : Mx w) {L : List Ln.Ln} (h : Ln.readL (bl s) = ⟨L, 0, 0⟩) : Calls Tryd.prog 9 #[.string s] w (GoodPost L w) := by
  have := read_good s w hs hm (by rw [h])
  rw [h] at this
  exact this
theorem fine_of {s : List UInt8} (h : (Ln.readL s).why = 0) : Ln.readL s = ⟨(Ln.readL s).lines, 0, 0⟩ := by
  obtain ⟨_, _, _, h4⟩ := Ln.readL_fine h
  rw [h4]

set_option maxRecDepth 20000 in
set_option maxHeartbeats 400000 in
/-- The second text has a fault. -/
theorem both_B (s t : ByteArray) (w : World) (hs : s.size + t.size ≤ 60000) (hm : Mx w) (h1 : (Ln.readL (bl s ++ [10])).why = 0) (h2 : (Ln.readL (bl t)).why ≠ 0) :
    Calls Tryd.prog 4 #[.string s, .string t] w (TruePost w) := by
  obtain ⟨hsb, hss, hstb, hsts⟩ := both_sizes s t
  obtain ⟨sx, hsx⟩ : ∃ sx, sx = s ++ (⟨#[10]⟩ : ByteArray) := ⟨_, rfl⟩
  rw [← hsx] at hsb hss hstb hsts
  obtain ⟨st, hst⟩ : ∃ st, st = sx ++ t := ⟨_, rfl⟩
  rw [← hst] at hstb hsts
  rw [← hsb] at h1
  obtain ⟨L1, hL1⟩ : ∃ L1, L1 = (Ln.readL (bl sx)).lines := ⟨_, rfl⟩
  have HR1 : Hid (Calls Tryd.prog 9 #[.string sx] w (GoodPost L1 w)) := read_goodL sx w (by omega) hm (by rw [hL1]; exact fine_of h1)
  have hne := neqFyes (n := (Ln.readL (bl t)).at_) h2
  have HR2 : Hid (∀ W, Below w.heap.size w W → Calls Tryd.prog 9 #[.string t] W fun e w' => ∃ a c, e = .returned (.tuple #[.slice a 0 c, .agg #[.int .i64 ((Ln.readL (bl t)).why : Nat), .int .i64 ((Ln.readL (bl t)).at_ : Nat)]]) ∧ Below W.heap.size W w') := fun W hW => read_bad t W (by omega) (hm.below hW hm.pos) h2
  obtain ⟨y2, hy2⟩ : ∃ y2 : Int, y2 = ((Ln.readL (bl t)).why : Int) := ⟨_, rfl⟩
  obtain ⟨n2, hn2⟩ : ∃ n2 : Int, n2 = ((Ln.readL (bl t)).at_ : Int) := ⟨_, rfl⟩
  rw [← hy2, ← hn2] at HR2 hne
  clear hy2 hn2 h2
  have HR3 : Hid (∀ W, Below w.heap.size w W → Calls Tryd.prog 9 #[.string st] W fun e w' => ∃ a m c y n, e = .returned (.tuple #[.slice a m c, .agg #[.int .i64 y, .int .i64 n]]) ∧ Below W.heap.size W w') := fun W hW => read_some st W (by omega) (hm.below hW hm.pos)
  have HA : Hid (∀ W, Below w.heap.size w W → Calls Tryd.prog 10 #[] W fun e w' => e = .returned (.bool true) ∧ Below W.heap.size W w') := fun W hW => alive_any W (hm.below hW hm.pos)
  have hne0 := neqFno
  obtain ⟨m1, hm1⟩ : ∃ m1, m1 = L1.length := ⟨_, rfl⟩
  have HM1 : Hid (m1 = L1.length) := hm1
  have hsi : ¬ (60000 : Int) < (s.size : Int) + (t.size : Int) := by omega
  have hadd : ¬ 9223372036854775807 < s.size + 1 := by omega
  have hadd2 : sx.size + t.size ≤ 60001 := by omega
  clear hm h1 hL1 hsb hss hsts hstb
  go_enter Tryd.func4, Tryd.ntmps4
  go_wp2_with fail
  rw [← hsx]
  clear hsx
  refine HR1.out.mono ?_
  rintro e w1 ⟨a1, c1, rfl, hz1, hc1, h1⟩
  rw [← hm1] at hz1 hc1 ⊢
  clear hm1
  have H1 : Hid (Below w.heap.size w w1 ∧ Below w.heap.size w (w1.alloc (.cells #[.int .i64 0, .int .i64 0] 25)) ∧ LZ w1.heap.size w1 (.slice a1 m1 c1) (L1.map lz)) := ⟨h1, h1.alloc h1.size _, hz1⟩
  clear h1 hz1
  go_wp2_with fail
  refine (HR2.out _ H1.out.2.1).mono ?_
  rintro e w2 ⟨a2, c2, rfl, h2⟩
  have hbx := box_kept h2
  have hz2 := h2.size
  have H2 : Hid (Below w.heap.size w w2 ∧ w2.heap[w1.heap.size]? = some (.cells #[.int .i64 0, .int .i64 0] 25 (0, 0)) ∧ w.heap.size ≤ w2.heap.size) := ⟨below_trans H1.out.2.1 h2 (Nat.le_trans H1.out.1.size (by simp)), hbx, by have := H1.out.1.size; simp at hz2; omega⟩
  clear h2 hbx hz2
  go_wp2_with fail
  rw [← hst]
  clear hst
  refine (HR3.out _ (H2.out.1.alloc H2.out.2.2 _)).mono ?_
  rintro e w3 ⟨a3, m3, c3, y3, n3, rfl, h3⟩
  have hbx2 := box_kept h3
  have hbx : w3.heap[w1.heap.size]? = some (.cells #[.int .i64 0, .int .i64 0] 25 (0, 0)) := by
    have hlt := (Array.getElem?_eq_some_iff.1 H2.out.2.1).1
    rw [h3.block w1.heap.size (by simp; omega)]
    exact (Below.heap_alloc _ _ _ hlt).trans H2.out.2.1
  have H3 : Hid (Below w.heap.size w w3) := below_trans (H2.out.1.alloc H2.out.2.2 _) h3 (Nat.le_trans H2.out.2.2 (by simp))
  have e0 := box_in hbx (.cells #[.int .i64 y3, .int .i64 n3] 25) 0 rfl
  have e1 := box_in hbx (.cells #[.int .i64 y3, .int .i64 n3] 25) 1 rfl
  have e2 := box_in hbx2 (.cells #[.int .i64 y3, .int .i64 n3] 25) 0 rfl
  have e3 := box_in hbx2 (.cells #[.int .i64 y3, .int .i64 n3] 25) 1 rfl
  clear h3 hbx hbx2
  go_wp2_with fail
  refine (HA.out _ (H3.out.alloc H3.out.size _)).mono ?_
  rintro e w4 ⟨rfl, h4⟩
  have H4 : Hid (Below w.heap.size w w4) := below_trans (H3.out.alloc H3.out.size _) h4 (Nat.le_trans H3.out.size (by simp))
  clear h4
  go_wp2_with fail
  go_ret
  exact ⟨rfl, H4⟩

set_option maxRecDepth 20000 in
set_option maxHeartbeats 400000 in
/-- There are too many lines. -/
theorem both_C (s t : ByteArray) (w : World) (hs : s.size + t.size ≤ 60000) (hm : Mx w) (h1 : (Ln.readL (bl s ++ [10])).why = 0) (h2 : (Ln.readL (bl t)).why = 0) (h3 : 4096 < (Ln.readL (bl s ++ [10])).lines.length + (Ln.readL (bl t)).lines.length) :
    Calls Tryd.prog 4 #[.string s, .string t] w (TruePost w) := by
  obtain ⟨hsb, hss, hstb, hsts⟩ := both_sizes s t
  obtain ⟨sx, hsx⟩ : ∃ sx, sx = s ++ (⟨#[10]⟩ : ByteArray) := ⟨_, rfl⟩
  rw [← hsx] at hsb hss hstb hsts
  obtain ⟨st, hst⟩ : ∃ st, st = sx ++ t := ⟨_, rfl⟩
  rw [← hst] at hstb hsts
  rw [← hsb] at h1
  obtain ⟨L1, hL1⟩ : ∃ L1, L1 = (Ln.readL (bl sx)).lines := ⟨_, rfl⟩
  have HR1 : Hid (Calls Tryd.prog 9 #[.string sx] w (GoodPost L1 w)) := read_goodL sx w (by omega) hm (by rw [hL1]; exact fine_of h1)
  obtain ⟨L2, hL2⟩ : ∃ L2, L2 = (Ln.readL (bl t)).lines := ⟨_, rfl⟩
  have HR2 : Hid (∀ W, Below w.heap.size w W → Calls Tryd.prog 9 #[.string t] W (GoodPost L2 W)) := fun W hW => read_goodL t W (by omega) (hm.below hW hm.pos) (by rw [hL2]; exact fine_of h2)
  rw [← hsb, ← hL1, ← hL2] at h3
  have hl1 : L1.length ≤ 4096 := by rw [hL1]; exact (read_fit (s := sx) h1).len
  have hl2 : L2.length ≤ 4096 := by rw [hL2]; exact (read_fit h2).len
  obtain ⟨m2, hm2⟩ : ∃ m2, m2 = L2.length := ⟨_, rfl⟩
  obtain ⟨m0, hm0⟩ : ∃ m0, m0 = L1.length := ⟨_, rfl⟩
  rw [← hm0, ← hm2] at h3
  have HL : Hid (m0 = L1.length) := hm0
  have HL2 : Hid (m2 = L2.length) := hm2
  have hl3 : m0 ≤ 4096 := by omega
  have hl4 : m2 ≤ 4096 := by omega
  clear hL2 h2 hm0 hl1 hl2
  have HR3 : Hid (∀ W, Below w.heap.size w W → Calls Tryd.prog 9 #[.string st] W fun e w' => ∃ a m c y n, e = .returned (.tuple #[.slice a m c, .agg #[.int .i64 y, .int .i64 n]]) ∧ Below W.heap.size W w') := fun W hW => read_some st W (by omega) (hm.below hW hm.pos)
  have HA : Hid (∀ W, Below w.heap.size w W → Calls Tryd.prog 10 #[] W fun e w' => e = .returned (.bool true) ∧ Below W.heap.size W w') := fun W hW => alive_any W (hm.below hW hm.pos)
  have hne0 := neqFno
  obtain ⟨m1, hm1⟩ : ∃ m1, m1 = L1.length := ⟨_, rfl⟩
  have HM1 : Hid (m1 = L1.length) := hm1
  obtain rfl : m0 = m1 := by rw [hm1]; exact HL.out
  have h3i : (4096 : Int) < (m0 : Int) + (m2 : Int) := by omega
  have hsi : ¬ (60000 : Int) < (s.size : Int) + (t.size : Int) := by omega
  have hadd : ¬ 9223372036854775807 < s.size + 1 := by omega
  have hadd2 : sx.size + t.size ≤ 60001 := by omega
  clear hm h1 hL1 hsb hss hsts hstb
  go_enter Tryd.func4, Tryd.ntmps4
  go_wp2_with fail
  rw [← hsx]
  clear hsx
  refine HR1.out.mono ?_
  rintro e w1 ⟨a1, c1, rfl, hz1, hc1, h1⟩
  rw [← hm1] at hz1 hc1 ⊢
  clear hm1
  have H1 : Hid (Below w.heap.size w w1 ∧ Below w.heap.size w (w1.alloc (.cells #[.int .i64 0, .int .i64 0] 25)) ∧ LZ w1.heap.size w1 (.slice a1 m0 c1) (L1.map lz)) := ⟨h1, h1.alloc h1.size _, hz1⟩
  clear h1 hz1
  go_wp2_with fail
  refine (HR2.out _ H1.out.2.1).mono ?_
  rintro e w2 ⟨a2, c2, rfl, hz2, hc2, h2⟩
  rw [← hm2] at hz2 hc2 ⊢
  clear hm2 hz2
  have hbx := box_kept h2
  have hz2 := h2.size
  have H2 : Hid (Below w.heap.size w w2 ∧ w2.heap[w1.heap.size]? = some (.cells #[.int .i64 0, .int .i64 0] 25 (0, 0)) ∧ w.heap.size ≤ w2.heap.size) := ⟨below_trans H1.out.2.1 h2 (Nat.le_trans H1.out.1.size (by simp)), hbx, by have := H1.out.1.size; simp at hz2; omega⟩
  clear h2 hbx hz2
  go_wp2_with fail
  rw [← hst]
  clear hst
  refine (HR3.out _ (H2.out.1.alloc H2.out.2.2 _)).mono ?_
  rintro e w3 ⟨a3, m3, c3, y3, n3, rfl, h3⟩
  have hbx2 := box_kept h3
  have hbx : w3.heap[w1.heap.size]? = some (.cells #[.int .i64 0, .int .i64 0] 25 (0, 0)) := by
    have hlt := (Array.getElem?_eq_some_iff.1 H2.out.2.1).1
    rw [h3.block w1.heap.size (by simp; omega)]
    exact (Below.heap_alloc _ _ _ hlt).trans H2.out.2.1
  have H3 : Hid (Below w.heap.size w w3) := below_trans (H2.out.1.alloc H2.out.2.2 _) h3 (Nat.le_trans H2.out.2.2 (by simp))
  have e0 := box_in hbx (.cells #[.int .i64 y3, .int .i64 n3] 25) 0 rfl
  have e1 := box_in hbx (.cells #[.int .i64 y3, .int .i64 n3] 25) 1 rfl
  have e2 := box_in hbx2 (.cells #[.int .i64 y3, .int .i64 n3] 25) 0 rfl
  have e3 := box_in hbx2 (.cells #[.int .i64 y3, .int .i64 n3] 25) 1 rfl
  clear h3 hbx hbx2
  go_wp2_with fail
  refine (HA.out _ (H3.out.alloc H3.out.size _)).mono ?_
  rintro e w4 ⟨rfl, h4⟩
  have H4 : Hid (Below w.heap.size w w4) := below_trans (H3.out.alloc H3.out.size _) h4 (Nat.le_trans H3.out.size (by simp))
  clear h4
  go_wp2_with fail
  go_ret
  exact ⟨rfl, H4⟩
end Go.Proofs.YtefhpoklehmlhaaDoor
