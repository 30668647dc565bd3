/-
  LineBoth: both texts are read.
-/
import Derived.Test.YtefhpoklehmlhaaDoorL13
namespace Go.Proofs.YtefhpoklehmlhaaDoor
open Go.RowKit Go.Shelf

/-- What stands in memory ahead of the two loops. -/
structure Bo (w : World) (L1 L2 L3 : List Ln.Ln) (v1 v2 v3 : Value) (bx : Nat) (W : World) : Prop where
  bel : Below w.heap.size w W
  z1 : LZ W.heap.size W v1 (L1.map lz)
  z2 : LZ W.heap.size W v2 (L2.map lz)
  z3 : LZ W.heap.size W v3 (L3.map lz)
  box : W.heap[bx]? = some (.cells #[.int .i64 0, .int .i64 0] 25 (0, 0))
theorem Bo.below {w : World} {L1 L2 L3 : List Ln.Ln} {v1 v2 v3 : Value} {bx : Nat} {W W' : World} (h : Bo w L1 L2 L3 v1 v2 v3 bx W) (hb : Below W.heap.size W W') : Bo w L1 L2 L3 v1 v2 v3 bx W' :=
  ⟨below_trans h.bel hb h.bel.size, (h.z1.below hb).mono hb.size, (h.z2.below hb).mono hb.size, (h.z3.below hb).mono hb.size, (hb.block bx (Array.getElem?_eq_some_iff.1 h.box).1).trans h.box⟩

set_option maxRecDepth 20000 in
set_option maxHeartbeats 1000000 in
theorem both_D (s t : ByteArray) (w : World) (hs : s.size + t.size ≤ 60000) (hm : Mx w) (h1 : (Ln.readL (bl s ++ [10])).why = 0) (h2 : (Ln.readL (bl t)).why = 0) (h3 : (Ln.readL (bl s ++ [10])).lines.length + (Ln.readL (bl t)).lines.length ≤ 4096) :
    Calls Tryd.prog 4 #[.string s, .string t] w (TruePost w) := by
  obtain ⟨hsb, hss, hstb, hsts⟩ := both_sizes s t
  have hrb := Ln.read_both (bl s) (bl t) h1 h2 h3 (by rw [← hstb, bl_length]; omega)
  obtain ⟨sx, hsx⟩ : ∃ sx, sx = s ++ (⟨#[10]⟩ : ByteArray) := ⟨_, rfl⟩
  rw [← hsx] at hsb hss hstb hsts
  obtain ⟨st, hst⟩ : ∃ st, st = sx ++ t := ⟨_, rfl⟩
  rw [← hst] at hstb hsts
  rw [← hstb] at hrb
  rw [← hsb] at h1 h3 hrb
  obtain ⟨L1, hL1⟩ : ∃ L1, L1 = (Ln.readL (bl sx)).lines := ⟨_, rfl⟩
  obtain ⟨L2, hL2⟩ : ∃ L2, L2 = (Ln.readL (bl t)).lines := ⟨_, rfl⟩
  obtain ⟨q, hq⟩ : ∃ q, q = (bl sx).count 10 := ⟨_, rfl⟩
  have hq2 : q ≤ 60001 := by
    have := List.count_le_length (l := bl sx) (a := (10 : UInt8))
    rw [bl_length] at this
    omega
  rw [← hL1, ← hL2] at h3
  rw [← hL1, ← hL2, ← hq] at hrb
  obtain ⟨L3, hL3⟩ : ∃ L3, L3 = L1 ++ L2.map (Ln.shift q) := ⟨_, rfl⟩
  rw [← hL3] at hrb
  have HF2 : Hid (∀ (i : Nat) x, L2[i]? = some x → x.at_ ≤ 70000) := fun i x hx => by rw [hL2] at hx; exact read_at h2 hx
  have HR1 : Hid (Calls Tryd.prog 9 #[.string sx] w (GoodPost L1 w)) := read_goodL sx w (by omega) hm (by rw [hL1]; exact fine_of h1)
  have HR2 : Hid (∀ W, Below w.heap.size w W → Calls Tryd.prog 9 #[.string t] W (GoodPost L2 W)) := fun W hW => read_goodL t W (by omega) (hm.below hW hm.pos) (by rw [hL2]; exact fine_of h2)
  have HR3 : Hid (∀ W, Below w.heap.size w W → Calls Tryd.prog 9 #[.string st] W (GoodPost L3 W)) := fun W hW => read_goodL st W (by omega) (hm.below hW hm.pos) hrb
  have HA : Hid (∀ W, Below w.heap.size w W → Calls Tryd.prog 10 #[] W fun e w' => e = .returned (.bool true) ∧ Below W.heap.size W w') := fun W hW => alive_any W (hm.below hW hm.pos)
  have hne0 := neqFno
  obtain ⟨m1, hm1⟩ : ∃ m1, m1 = L1.length := ⟨_, rfl⟩
  obtain ⟨m2, hm2⟩ : ∃ m2, m2 = L2.length := ⟨_, rfl⟩
  have hm3 : L3.length = m1 + m2 := by rw [hL3, hm1, hm2]; simp
  rw [← hm1, ← hm2] at h3
  have HM : Hid (m1 = L1.length ∧ m2 = L2.length ∧ L3 = L1 ++ L2.map (Ln.shift q) ∧ q = (bl sx).count 10) := ⟨hm1, hm2, hL3, hq⟩
  have hsi : ¬ (60000 : Int) < (s.size : Int) + (t.size : Int) := by omega
  have hadd : ¬ 9223372036854775807 < s.size + 1 := by omega
  have hadd2 : sx.size + t.size ≤ 60001 := by omega
  have h3i : ¬ (4096 : Int) < (m1 : Int) + (m2 : Int) := by omega
  clear hm h1 h2 hL1 hL2 hL3 hq hrb hsb hss hsts hstb
  go_enter Tryd.func4, Tryd.ntmps4
  go_wp2_with fail
  rw [← hsx]
  clear hsx
  refine HR1.out.mono ?_
  rintro e w1 ⟨a1, c1, rfl, hz1, hc1, h1⟩
  rw [← hm1] at hz1 hc1 ⊢
  clear hm1
  have H1 : Hid (Below w.heap.size w w1 ∧ Below w.heap.size w (w1.alloc (.cells #[.int .i64 0, .int .i64 0] 25)) ∧ LZ w1.heap.size w1 (.slice a1 m1 c1) (L1.map lz)) := ⟨h1, h1.alloc h1.size _, hz1⟩
  clear h1 hz1
  go_wp2_with fail
  refine (HR2.out _ H1.out.2.1).mono ?_
  rintro e w2 ⟨a2, c2, rfl, hz2, hc2, h2⟩
  rw [← hm2] at hz2 hc2 ⊢
  clear hm2
  have hbx := box_kept h2
  have hzz := h2.size
  have H2 : Hid (Below w.heap.size w w2 ∧ w2.heap[w1.heap.size]? = some (.cells #[.int .i64 0, .int .i64 0] 25 (0, 0)) ∧ w.heap.size ≤ w2.heap.size ∧ LZ w2.heap.size w2 (.slice a1 m1 c1) (L1.map lz) ∧ LZ w2.heap.size w2 (.slice a2 m2 c2) (L2.map lz)) := ⟨below_trans H1.out.2.1 h2 (Nat.le_trans H1.out.1.size (by simp)), hbx, by have := H1.out.1.size; simp at hzz; omega, by
    have hb : Below w1.heap.size w1 w2 := below_trans ((Below.refl _ _).alloc (Nat.le_refl _) _) h2 (by simp)
    exact (H1.out.2.2.below hb).mono hb.size, hz2⟩
  clear h2 hbx hzz hz2
  go_wp2_with fail
  rw [← hst]
  clear hst
  refine (HR3.out _ (H2.out.1.alloc H2.out.2.2.1 _)).mono ?_
  rintro e w3 ⟨a3, c3, rfl, hz3, hc3, h3b⟩
  rw [hm3] at hz3 hc3 ⊢
  have hbx2 := box_kept h3b
  have hbx : w3.heap[w1.heap.size]? = some (.cells #[.int .i64 0, .int .i64 0] 25 (0, 0)) := by
    have hlt := (Array.getElem?_eq_some_iff.1 H2.out.2.1).1
    rw [h3b.block w1.heap.size (by simp; omega)]
    exact (Below.heap_alloc _ _ _ hlt).trans H2.out.2.1
  have HBO : Hid (Bo w L1 L2 L3 (.slice a1 m1 c1) (.slice a2 m2 c2) (.slice a3 (m1 + m2) c3) w3.heap.size (w3.alloc (.cells #[.int .i64 0, .int .i64 0] 25))) := by
    have hb : Below w2.heap.size w2 w3 := below_trans ((Below.refl _ _).alloc (Nat.le_refl _) _) h3b (by simp)
    have hb4 : Below w3.heap.size w3 (w3.alloc (.cells #[.int .i64 0, .int .i64 0] 25)) := (Below.refl _ _).alloc (Nat.le_refl _) _
    have hw3 : Below w.heap.size w w3 := below_trans (H2.out.1.alloc H2.out.2.2.1 _) h3b (Nat.le_trans H2.out.2.2.1 (by simp))
    refine ⟨below_trans hw3 hb4 hw3.size, (((H2.out.2.2.2.1.below hb).mono hb.size).below hb4).mono hb4.size, (((H2.out.2.2.2.2.below hb).mono hb.size).below hb4).mono hb4.size, (hz3.below hb4).mono hb4.size, alloc_last _ _⟩
  have e0 := box_in hbx (.cells #[.int .i64 0, .int .i64 0] 25) 0 rfl
  have e1 := box_in hbx (.cells #[.int .i64 0, .int .i64 0] 25) 1 rfl
  have e2 := box_in hbx2 (.cells #[.int .i64 0, .int .i64 0] 25) 0 rfl
  have e3 := box_in hbx2 (.cells #[.int .i64 0, .int .i64 0] 25) 1 rfl
  clear h3b hbx hbx2 hz3
  go_wp2_with fail
  clear e0 e1 e2 e3
  obtain ⟨bx, hbxe⟩ : ∃ bx, bx = w3.heap.size := ⟨_, rfl⟩
  rw [← hbxe] at HBO ⊢
  clear hbxe
  generalize w3.alloc (.cells #[.int .i64 0, .int .i64 0] 25) = w4 at HBO ⊢
  go_loopw [11, 12] (fun v vi wr => ∃ k : Nat, k ≤ sx.size ∧ vi = .int .i64 (k : Int) ∧ wr = w4 ∧ ∃ j : Nat, j ≤ k ∧ v = .int .i64 (j : Int) ∧ Hid (j = ((bl sx).take k).count 10)) (fun _ vi _ => sx.size - (intOf vi).toNat)
  case atStart => exact ⟨0, Nat.zero_le _, rfl, rfl, 0, Nat.le_refl _, rfl, by simp [Hid]⟩
  case round =>
    obtain ⟨k, hk, rfl, rfl, j, hj, rfl, HJ⟩ := hrel
    by_cases hlt : k < sx.size
    · have hil : (k : Int) < (sx.size : Int) := by omega
      have hct := count_take sx k hlt
      obtain ⟨cn, hcn⟩ : ∃ cn : Int, cn = (sx[k].toNat : Int) := ⟨_, rfl⟩
      have hgk : (sx[k].toNat : Int) = cn := hcn.symm
      by_cases hc : sx[k] = 10
      · rw [if_pos hc] at hct
        have HJ1 : Hid (j + 1 = ((bl sx).take (k + 1)).count 10) := by unfold Hid; rw [hct, HJ.out]
        have hc10 : cn = 10 := by rw [hcn, hc]; rfl
        clear hct hcn hc
        go_wp2_with fail
        go_roundw
        case rel => exact ⟨k + 1, by omega, by go_num, trivial, j + 1, by omega, by go_num, HJ1⟩
        case measure => simp [intOf]; omega
      · rw [if_neg hc] at hct
        have HJ1 : Hid (j = ((bl sx).take (k + 1)).count 10) := by unfold Hid; rw [hct, HJ.out]; rfl
        have hc10 : ¬ cn = 10 := by rw [hcn]; intro e; apply hc; rw [u8_eq_iff]; show sx[k].toNat = 10; omega
        have hc11 : (cn == 10) = false := by simpa using hc10
        clear hct hcn hc
        go_wp2_with fail
        go_roundw
        case rel => exact ⟨k + 1, by omega, by go_num, trivial, j, by omega, by go_num, HJ1⟩
        case measure => simp [intOf]; omega
    · have hke : ¬ (k : Int) < (sx.size : Int) := by omega
      have HJQ : j = q := by
        rw [HJ.out, HM.out.2.2.2, List.take_of_length_le (by rw [bl_length]; omega)]
      subst HJQ
      have e0 := cell_in HBO.out.box 0 rfl
      have e1 := cell_in HBO.out.box 1 rfl
      have HSA : Hid (Calls Tryd.prog 13 #[.slice a3 m1 c3, .slice a1 m1 c1] wr fun e w' => e = .returned (.bool true) ∧ Below wr.heap.size wr w') := by
        have hz := HBO.out.z3.pre (m := m1) (by omega)
        have et : (L3.map lz).take m1 = L1.map lz := by
          rw [HM.out.2.2.1, HM.out.1, List.map_append]
          have : (L1.map lz).length = L1.length := List.length_map _
          rw [← this]; exact List.take_left
        rw [et] at hz
        refine (same_any _ _ _ _ _ wr (by rw [List.length_map]; have := HM.out.1; omega) (by rw [List.length_map]; have := HM.out.1; omega) hz HBO.out.z1).mono ?_
        rintro e w' ⟨b, rfl, hb1, hb2⟩
        exact ⟨by rw [hb1.2 rfl], hb2⟩
      go_wp2_with fail
      refine HSA.out.mono ?_
      rintro e w5 ⟨rfl, h5⟩
      have HB5 : Hid (Bo w L1 L2 L3 (.slice a1 m1 c1) (.slice a2 m2 c2) (.slice a3 (m1 + m2) c3) bx w5) := HBO.out.below h5
      clear h5 HBO e0 e1
      go_wp2_with fail
      go_loopw [95] (fun vi wr => ∃ k : Nat, k ≤ m2 ∧ vi = .int .i64 (k : Int) ∧ Hid (Bo w L1 L2 L3 (.slice a1 m1 c1) (.slice a2 m2 c2) (.slice a3 (m1 + m2) c3) bx wr)) (fun vi _ => m2 - (intOf vi).toNat)
      case atStart => exact ⟨0, Nat.zero_le _, rfl, HB5⟩
      case round =>
        clear HB5
        obtain ⟨k, hk, rfl, HBO⟩ := hrel
        by_cases hlt : k < m2
        · have hil : (k : Int) < (m2 : Int) := by omega
          have hkl : k < L2.length := by rw [← HM.out.2.1]; exact hlt
          obtain ⟨x, hx⟩ : ∃ x, L2[k]? = some x := ⟨_, List.getElem?_eq_getElem hkl⟩
          obtain ⟨b, o, rfl, hbB, d0, d1, d2⟩ := HBO.out.z2.pick (k := k) (x := lz x) (by rw [List.getElem?_map, hx]; rfl)
          have hx3 : L3[m1 + k]? = some (Ln.shift j x) := by
            rw [HM.out.2.2.1, HM.out.1, List.getElem?_append_right (by omega), Nat.add_sub_cancel_left, List.getElem?_map, hx]; rfl
          obtain ⟨b', o', rfl, hbB', d0', d1', d2'⟩ := HBO.out.z3.pick (k := m1 + k) (x := lz (Ln.shift j x)) (by rw [List.getElem?_map, hx3]; rfl)
          simp only [lz, Ln.shift] at d0 d1 d2 d0' d1' d2'
          have hxa := HF2.out k x hx
          obtain ⟨xt, hxt⟩ : ∃ xt, xt = ba x.text := ⟨_, rfl⟩
          obtain ⟨xa, hxe⟩ : ∃ xa : Int, xa = (x.at_ : Int) := ⟨_, rfl⟩
          obtain ⟨xc, hxc⟩ : ∃ xc, xc = x.cmd := ⟨_, rfl⟩
          have hd1 : ((x.at_ + j : Nat) : Int) = xa + (j : Int) := by rw [hxe]; rfl
          rw [hd1] at d1'
          rw [← hxt] at d0 d0'
          rw [← hxe] at d1
          rw [← hxc] at d2 d2'
          have hx0 : 0 ≤ xa := by omega
          have hx1 : xa ≤ 70000 := by omega
          have hjj : (j : Int) ≤ 60001 := by omega
          have hto : ((m1 : Int) + (k : Int)).toNat = m1 + k := by omega
          have hlt3 : (m1 : Int) + (k : Int) < (m1 : Int) + (m2 : Int) := by omega
          have D0 : (wr.alloc (.cells #[.string xt, .int .i64 xa, .bool xc] 30)).cell? ⟨b', o' + (m1 + k) * 3, none⟩ = some (.string xt) := by rw [World.cell?_alloc_old _ _ _ (by show b' ≠ wr.heap.size; omega)]; exact d0'
          have D1 : (wr.alloc (.cells #[.string xt, .int .i64 xa, .bool xc] 30)).cell? ⟨b', o' + (m1 + k) * 3 + 1, none⟩ = some (.int .i64 (xa + (j : Int))) := by rw [World.cell?_alloc_old _ _ _ (by show b' ≠ wr.heap.size; omega)]; exact d1'
          have D2 : (wr.alloc (.cells #[.string xt, .int .i64 xa, .bool xc] 30)).cell? ⟨b', o' + (m1 + k) * 3 + 2, none⟩ = some (.bool xc) := by rw [World.cell?_alloc_old _ _ _ (by show b' ≠ wr.heap.size; omega)]; exact d2'
          have HB6 : Hid (Bo w L1 L2 L3 (.slice a1 m1 c1) (.slice (some ⟨b, o, none⟩) m2 c2) (.slice (some ⟨b', o', none⟩) (m1 + m2) c3) bx ((wr.alloc (.cells #[.string xt, .int .i64 xa, .bool xc] 30)).alloc (.cells #[.string xt, .int .i64 (xa + (j : Int)), .bool xc] 30))) := (HBO.out.below ((Below.refl _ _).alloc (Nat.le_refl _) _)).below ((Below.refl _ _).alloc (Nat.le_refl _) _)
          clear hx hx3 hxa hxt hxe hxc hd1 d0' d1' d2' hbB hbB' hkl HBO
          cases xc with
          | true =>
            go_wp2_with fail
            go_roundw
            case rel => exact ⟨k + 1, by omega, by go_num, HB6⟩
            case measure => simp [intOf]; omega
          | false =>
            go_wp2_with fail
            go_roundw
            case rel => exact ⟨k + 1, by omega, by go_num, HB6⟩
            case measure => simp [intOf]; omega
        · have hke2 : ¬ (k : Int) < (m2 : Int) := by omega
          go_wp2_with fail
          refine (HA.out _ HBO.out.bel).mono ?_
          rintro e w6 ⟨rfl, h6⟩
          have H6 : Hid (Below w.heap.size w w6) := below_trans HBO.out.bel h6 HBO.out.bel.size
          clear h6
          go_wp2_with fail
          go_ret
          exact ⟨rfl, H6⟩

theorem both_law (s t : ByteArray) (w : World) (hs : s.size ≤ 140737488355328) (ht : t.size ≤ 140737488355328) (hm : Mx w) :
    Calls Tryd.prog 4 #[.string s, .string t] w (TruePost w) := by
  by_cases h : 60000 < s.size + t.size
  · exact both_far s t w hs ht hm h
  by_cases h1 : (Ln.readL (bl s ++ [10])).why = 0
  · by_cases h2 : (Ln.readL (bl t)).why = 0
    · by_cases h3 : 4096 < (Ln.readL (bl s ++ [10])).lines.length + (Ln.readL (bl t)).lines.length
      · exact both_C s t w (by omega) hm h1 h2 h3
      · exact both_D s t w (by omega) hm h1 h2 (by omega)
    · exact both_B s t w (by omega) hm h1 h2
  · exact both_A s t w (by omega) hm h1
end Go.Proofs.YtefhpoklehmlhaaDoor
