/-
  The document's Names; what one call of a script does to the document's set.
-/
import Derived.Test.YtjbmmeneejcpbaaVP8
namespace Go.Proofs.Ytjbmmeneejcpbaa
open Go.RowKit Go.Shelf Go.Maps

section
variable {base br : Nat} {vL : Value} {L : Vl} {s : VS}
set_option maxRecDepth 20000 in
set_option maxHeartbeats 2000000 in
theorem rnames_any (n : Int) (w : World) (h : RSet base br vL L w) (hr : Rel L s) :
    Calls Try.prog 22 #[rptr br, .int .i64 n] w fun e w' => ∃ a m c, e = .returned (.slice a m c) ∧ WordsC w' a m c (s.names n) ∧ Below w.heap.size w w' := by
  obtain ⟨i0, hi, hz0, hz1, hz2⟩ := info_parts infoS9
  have hlen := hr.len
  have HYtjbmmeneejcpbaa : Hid (VS.sorted (namesN n L) = s.names n) := by unfold Hid namesN VS.names; rw [hr.proj]
  have HR : Hid (∀ a m c l W, m ≤ 4096 → WordsC W a m c l → Calls Try.prog 39 #[.slice a m c] W fun e w' => ∃ a2 c2, e = .returned (.slice a2 m c2) ∧ WordsC w' a2 m c2 (VS.sorted l) ∧ Below W.heap.size W w') := fun a m c l W h1 h2 => rsorted_any m a m c l W (Nat.le_refl _) h1 h2
  have HS : Hid (∀ W, Below w.heap.size w W → RSet base br vL L W) := fun W hB => h.below hB
  have hslv : ∃ a cap, vL = .slice a L.length cap := by
    rcases row_src h.row with ⟨h1, h2, _⟩ | ⟨g, cap, h1, _⟩
    · exact ⟨none, 0, by rw [h1, h2]⟩
    · exact ⟨_, _, h1⟩
  obtain ⟨av, cap, hv⟩ := hslv
  obtain ⟨m, hm⟩ : ∃ m, m = L.length := ⟨_, rfl⟩
  rw [← hm] at hlen hv
  have HN : Hid (m = L.length) := hm
  subst hv
  have HC : Hid (∀ W, Below w.heap.size w W → W.cell? ⟨br, 0, none⟩ = some (.slice av m cap)) := fun W hB => (HS.out W hB).c0
  have c2 := h.c0
  clear hm h hr
  go_enter Try.func22, Try.ntmps22
  go_wp2
  go_loopw [5, 6] (fun u vi wr => ∃ (k c : Nat) (A : List ByteArray), k ≤ m ∧ c ≤ k ∧ vi = .int .i64 k ∧ wr.ownsRow w.heap.size 9 1 u c (A.map Value.string) ∧ Hid (c = A.length ∧ A = namesN n (L.take k)) ∧ Below w.heap.size w wr)
    (fun _ vi _ => m - (intOf vi).toNat)
  case atStart => exact ⟨0, 0, [], Nat.zero_le _, Nat.le_refl _, rfl, World.ownsRow_nil _ _ _ _, ⟨rfl, rfl⟩, Below.refl _ _⟩
  case round =>
    obtain ⟨k, c, A, hk, hck, rfl, hrow, HA, hb⟩ := hrel
    have d2 := HC.out _ hb
    obtain ⟨au, capu, hu⟩ := owns_slice hrow
    subst hu
    have hbs := hb.size
    by_cases hlt : k < m
    · have hil : (k : Int) < (m : Int) := by omega
      have hkl : k < L.length := by rw [← HN.out]; exact hlt
      obtain ⟨g, capg, hvg, _, _, y0, y1, y2⟩ := (HS.out _ hb).cellsAt (List.getElem?_eq_getElem hkl)
      simp only [Value.slice.injEq] at hvg
      obtain ⟨rfl, -, -⟩ := hvg
      obtain ⟨x, hx⟩ : ∃ x, x = L[k] := ⟨_, rfl⟩
      rw [← hx] at y0 y1 y2
      have HX : Hid (namesN n (L.take (k + 1)) = namesN n (L.take k) ++ if x.n = n then [x.q] else []) := namesN_next (by rw [hx]; exact List.getElem?_eq_getElem hkl)
      clear hx hkl
      obtain ⟨xn, xq, xv⟩ := x
      dsimp only at y0 y1 y2 HX
      by_cases hxn : xn = n
      · have HX2 : Hid (c + 1 = (A ++ [xq]).length ∧ A ++ [xq] = namesN n (L.take (k + 1))) := ⟨by rw [HA.out.1, List.length_append]; rfl, by rw [HX.out, if_pos hxn, ← HA.out.2]⟩
        clear HX HA y2
        subst hxn
        go_wp2_with (at_builtin; refine wpList_append_own _ rfl _ _ 41 rfl w.heap.size 9 i0 (.string ⟨#[]⟩) 1 16 Try.underlying41 hi hz0 hz1 hz2 rfl (by decide) _ _ _ rfl (hrow.alloc _) ⟨wr.heap.size, 0, none⟩ 1 1 [.string xq] rfl rfl (cell_one_new _ _ _) (by intro u hu; simp at hu; subst hu; rfl) (by unfold maxLen; omega) (by omega) (by simp; omega) ?_)
        intro v' w2 hown' hgrow _
        have hb3 : Below w.heap.size w w2 := (hb.alloc hbs _).grown hgrow (by simp; omega) (fun k hk => (hrow.lt k hk).1)
        clear hgrow hrow hb d2 y0 y1
        obtain ⟨a3, c3, hv3⟩ := owns_slice hown'
        subst hv3
        go_wp2
        go_roundw
        case rel => exact ⟨k + 1, c + 1, A ++ [xq], by omega, by omega, by go_num, by rw [List.map_append]; exact hown', HX2, hb3⟩
        case measure => simp [intOf]; omega
      · have HX2 : Hid (c = A.length ∧ A = namesN n (L.take (k + 1))) := ⟨HA.out.1, by rw [HX.out, if_neg hxn, List.append_nil]; exact HA.out.2⟩
        have hxb : (xn == n) = false := by simpa using hxn
        clear y1 y2 HX HA
        go_wp2
        go_roundw
        case rel => exact ⟨k + 1, c, A, by omega, by omega, by go_num, hrow, HX2, hb⟩
        case measure => simp [intOf]; omega
    · have hkn : k = m := by omega
      subst hkn
      have hil : ¬ (k : Int) < (k : Int) := by omega
      obtain ⟨a5, c5, hv5, hwc⟩ := wordsC_of_owns hrow HA.out.1
      simp only [Value.slice.injEq] at hv5
      obtain ⟨rfl, -, rfl⟩ := hv5
      have HAL : Hid (VS.sorted A = s.names n) := by rw [HA.out.2, HN.out, List.take_length]; exact HYtjbmmeneejcpbaa.out
      have HW : Hid (WordsC wr au c capu A) := hwc
      clear hrow hwc HA
      go_wp2_with fail
      refine (HR.out _ c _ A wr (by omega) HW.out).mono ?_
      rintro e w2 ⟨a2, c2', rfl, hT, hB⟩
      rw [HAL.out] at hT
      have HE : Hid (WordsC w2 a2 c c2' (s.names n) ∧ Below w.heap.size w w2) := ⟨hT, hb.trans (hB.mono hbs)⟩
      clear hT hB
      go_wp2
      go_ret
      exact ⟨a2, c, c2', rfl, HE.out.1, HE.out.2⟩

set_option maxRecDepth 20000 in
set_option maxHeartbeats 400000 in
theorem would_0 (k n : Int) (q t : ByteArray) (w : World) (h : RSet base br vL L w) (hr : Rel L s) (hk : k.tmod 5 = 0) (hq : q.size ≤ 140737488355328) (ht : t.size ≤ 140737488355328) :
    Calls Try.prog 15 #[rptr br, .agg #[.int .u8 k, .int .i64 n, .string q, .string t]] w fun e w' => e = .returned (.int .i64 (s.put n q t).2) ∧ Left base br (s.put n q t).1 w w' := by
  have hwr : IntKind.u8.wrap (k.tmod 5) = k.tmod 5 := by rw [hk]; decide
  have HN : Hid (∀ W, Below w.heap.size w W → Calls Try.prog 30 #[rptr br, .int .i64 n, .string q, .string t] W fun e w' => e = .returned (.int .i64 (s.put n q t).2) ∧ Left base br (s.put n q t).1 W w') := fun W hB => rput_any n q t W (h.below hB) hr hq (by omega)
  clear h hr hq ht
  have hb0 : Below w.heap.size w (w.alloc (.cells #[.int .u8 k, .int .i64 n, .string q, .string t] 32)) := (Below.refl _ w).alloc (Nat.le_refl _) _
  go_enter Try.func15, Try.ntmps15
  go_wp2_with fail
  refine (HN.out _ hb0).mono ?_
  rintro e w2 ⟨rfl, hL⟩
  have HE : Hid (Left base br (s.put n q t).1 w w2) := by
    obtain ⟨vL', L', h1, h2, h3⟩ := hL
    exact ⟨vL', L', h1, h2, (RTurn.of_below hb0).trans h3⟩
  clear hL hb0
  go_wp2
  go_ret
  exact ⟨rfl, HE.out⟩

set_option maxRecDepth 20000 in
set_option maxHeartbeats 400000 in
theorem would_1 (k n : Int) (q t : ByteArray) (w : World) (h : RSet base br vL L w) (hr : Rel L s) (hk : k.tmod 5 = 1) (hq : q.size ≤ 140737488355328) (ht : t.size ≤ 140737488355328) :
    Calls Try.prog 15 #[rptr br, .agg #[.int .u8 k, .int .i64 n, .string q, .string t]] w fun e w' => e = .returned (.int .i64 (s.add n q t).2) ∧ Left base br (s.add n q t).1 w w' := by
  have hwr : IntKind.u8.wrap (k.tmod 5) = k.tmod 5 := by rw [hk]; decide
  have HN : Hid (∀ W, Below w.heap.size w W → Calls Try.prog 31 #[rptr br, .int .i64 n, .string q, .string t] W fun e w' => e = .returned (.int .i64 (s.add n q t).2) ∧ Left base br (s.add n q t).1 W w') := fun W hB => radd_any n q t W (h.below hB) hr hq ht
  clear h hr hq ht
  have hb0 : Below w.heap.size w (w.alloc (.cells #[.int .u8 k, .int .i64 n, .string q, .string t] 32)) := (Below.refl _ w).alloc (Nat.le_refl _) _
  go_enter Try.func15, Try.ntmps15
  go_wp2_with fail
  refine (HN.out _ hb0).mono ?_
  rintro e w2 ⟨rfl, hL⟩
  have HE : Hid (Left base br (s.add n q t).1 w w2) := by
    obtain ⟨vL', L', h1, h2, h3⟩ := hL
    exact ⟨vL', L', h1, h2, (RTurn.of_below hb0).trans h3⟩
  clear hL hb0
  go_wp2
  go_ret
  exact ⟨rfl, HE.out⟩

set_option maxRecDepth 20000 in
set_option maxHeartbeats 400000 in
theorem would_2 (k n : Int) (q t : ByteArray) (w : World) (h : RSet base br vL L w) (hr : Rel L s) (hk : k.tmod 5 = 2) (hq : q.size ≤ 140737488355328) (ht : t.size ≤ 140737488355328) :
    Calls Try.prog 15 #[rptr br, .agg #[.int .u8 k, .int .i64 n, .string q, .string t]] w fun e w' => e = .returned (.int .i64 (s.dflt n q t).2) ∧ Left base br (s.dflt n q t).1 w w' := by
  have hwr : IntKind.u8.wrap (k.tmod 5) = k.tmod 5 := by rw [hk]; decide
  have HN : Hid (∀ W, Below w.heap.size w W → Calls Try.prog 32 #[rptr br, .int .i64 n, .string q, .string t] W fun e w' => e = .returned (.int .i64 (s.dflt n q t).2) ∧ Left base br (s.dflt n q t).1 W w') := fun W hB => rdflt_any n q t W (h.below hB) hr hq ht
  clear h hr hq ht
  have hb0 : Below w.heap.size w (w.alloc (.cells #[.int .u8 k, .int .i64 n, .string q, .string t] 32)) := (Below.refl _ w).alloc (Nat.le_refl _) _
  go_enter Try.func15, Try.ntmps15
  go_wp2_with fail
  refine (HN.out _ hb0).mono ?_
  rintro e w2 ⟨rfl, hL⟩
  have HE : Hid (Left base br (s.dflt n q t).1 w w2) := by
    obtain ⟨vL', L', h1, h2, h3⟩ := hL
    exact ⟨vL', L', h1, h2, (RTurn.of_below hb0).trans h3⟩
  clear hL hb0
  go_wp2
  go_ret
  exact ⟨rfl, HE.out⟩

set_option maxRecDepth 20000 in
set_option maxHeartbeats 400000 in
theorem would_3 (k n : Int) (q t : ByteArray) (w : World) (h : RSet base br vL L w) (hr : Rel L s) (hk : k.tmod 5 = 3) :
    Calls Try.prog 15 #[rptr br, .agg #[.int .u8 k, .int .i64 n, .string q, .string t]] w fun e w' => e = .returned (.int .i64 (s.drop n q).2) ∧ Left base br (s.drop n q).1 w w' := by
  have hwr : IntKind.u8.wrap (k.tmod 5) = k.tmod 5 := by rw [hk]; decide
  have HN : Hid (∀ W, Below w.heap.size w W → Calls Try.prog 33 #[rptr br, .int .i64 n, .string q] W fun e w' => e = .returned (.int .i64 (s.drop n q).2) ∧ Left base br (s.drop n q).1 W w') := fun W hB => rdrop_any n q W (h.below hB) hr
  clear h hr
  have hb0 : Below w.heap.size w (w.alloc (.cells #[.int .u8 k, .int .i64 n, .string q, .string t] 32)) := (Below.refl _ w).alloc (Nat.le_refl _) _
  go_enter Try.func15, Try.ntmps15
  go_wp2_with fail
  refine (HN.out _ hb0).mono ?_
  rintro e w2 ⟨rfl, hL⟩
  have HE : Hid (Left base br (s.drop n q).1 w w2) := by
    obtain ⟨vL', L', h1, h2, h3⟩ := hL
    exact ⟨vL', L', h1, h2, (RTurn.of_below hb0).trans h3⟩
  clear hL hb0
  go_wp2
  go_ret
  exact ⟨rfl, HE.out⟩

set_option maxRecDepth 20000 in
set_option maxHeartbeats 400000 in
theorem would_4 (k n : Int) (q t : ByteArray) (w : World) (h : RSet base br vL L w) (hr : Rel L s) (hk : k.tmod 5 = 4) :
    Calls Try.prog 15 #[rptr br, .agg #[.int .u8 k, .int .i64 n, .string q, .string t]] w fun e w' => e = .returned (.int .i64 0) ∧ Left base br (s.clear n) w w' := by
  have hwr : IntKind.u8.wrap (k.tmod 5) = k.tmod 5 := by rw [hk]; decide
  have HN : Hid (∀ W, Below w.heap.size w W → Calls Try.prog 34 #[rptr br, .int .i64 n] W fun e w' => (∃ r, e = .returned (.int .i64 r)) ∧ Left base br (s.clear n) W w') := fun W hB => rclear_any n W (h.below hB) hr
  clear h hr
  have hb0 : Below w.heap.size w (w.alloc (.cells #[.int .u8 k, .int .i64 n, .string q, .string t] 32)) := (Below.refl _ w).alloc (Nat.le_refl _) _
  go_enter Try.func15, Try.ntmps15
  go_wp2_with fail
  refine (HN.out _ hb0).mono ?_
  rintro e w2 ⟨⟨r, rfl⟩, hL⟩
  have HE : Hid (Left base br (s.clear n) w w2) := by
    obtain ⟨vL', L', h1, h2, h3⟩ := hL
    exact ⟨vL', L', h1, h2, (RTurn.of_below hb0).trans h3⟩
  clear hL hb0
  go_wp2
  go_ret
  exact ⟨rfl, HE.out⟩

theorem would_any (a : Act) (w : World) (h : RSet base br vL L w) (hr : Rel L s) (ha : a.Fine) :
    Calls Try.prog 15 #[rptr br, actArg a] w fun e w' => e = .returned (.int .i64 (s.act a).2) ∧ Left base br (s.act a).1 w w' := by
  obtain ⟨k, n, q, t⟩ := a
  obtain ⟨⟨hk0, hk1, _, _⟩, hq, ht⟩ := ha
  simp only at hk0 hk1 hq ht
  have hm : k.tmod 5 = 0 ∨ k.tmod 5 = 1 ∨ k.tmod 5 = 2 ∨ k.tmod 5 = 3 ∨ k.tmod 5 = 4 := by
    have h1 := Int.tmod_eq_emod_of_nonneg (b := 5) hk0
    omega
  unfold VS.act actArg
  simp only
  rcases hm with e | e | e | e | e
  · rw [if_pos e]; exact would_0 k n q t w h hr e hq ht
  · rw [if_neg (by omega), if_pos e]; exact would_1 k n q t w h hr e hq ht
  · rw [if_neg (by omega), if_neg (by omega), if_pos e]; exact would_2 k n q t w h hr e hq ht
  · rw [if_neg (by omega), if_neg (by omega), if_neg (by omega), if_pos e]; exact would_3 k n q t w h hr e
  · rw [if_neg (by omega), if_neg (by omega), if_neg (by omega), if_neg (by omega)]; exact would_4 k n q t w h hr e
end
end Go.Proofs.Ytjbmmeneejcpbaa
