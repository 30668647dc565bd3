/-
  The document's Clear, and what it gathers of names.
-/
import Derived.Test.YtjbmmeneejcpbaaVP6
namespace Go.Proofs.Ytjbmmeneejcpbaa
open Go.RowKit Go.Shelf Go.Maps

def keepL (n : Int) (L : Vl) : Vl := L.filter fun x => decide (x.n ≠ n)
theorem keepL_len (n : Int) (L : Vl) (k : Nat) : (keepL n (L.take k)).length ≤ k := Nat.le_trans (List.length_filter_le _ _) (by rw [List.length_take]; omega)
theorem keepL_next {n : Int} {L : Vl} {k : Nat} {x : Vr} (h : L[k]? = some x) : keepL n (L.take (k + 1)) = keepL n (L.take k) ++ if x.n = n then [] else [x] := by
  unfold keepL
  rw [List.take_add_one, h, List.filter_append]
  congr 1
  by_cases hd : x.n = n <;> simp [hd]
def namesN (n : Int) (L : Vl) : List ByteArray := (proj L n).map (·.1)
theorem namesN_len (n : Int) (L : Vl) (k : Nat) : (namesN n (L.take k)).length ≤ k := by unfold namesN; rw [List.length_map]; exact proj_len_take L k n
theorem namesN_next {n : Int} {L : Vl} {k : Nat} {x : Vr} (h : L[k]? = some x) : namesN n (L.take (k + 1)) = namesN n (L.take k) ++ if x.n = n then [x.q] else [] := by
  unfold namesN
  rw [List.take_add_one, h, proj_append, List.map_append]
  congr 1
  show List.map _ (proj [x] n) = _
  rw [proj_cons, proj_nil]
  by_cases hd : x.n = n <;> simp [hd]
theorem infoS9 : (Try.prog.info? 9).map (fun i => (i.zero, i.size, i.bytes)) = some (some (.string ⟨#[]⟩), 1, 16) := by kernel_rfl
theorem cell_one_new (w : World) (T : TypeId) (x : ByteArray) : ∀ j u, ([.string x] : List Value)[j]? = some u → (w.alloc (.cells #[.string x] T)).cell? ((⟨w.heap.size, 0, none⟩ : Addr).add j) = some u := by
  intro j u hj
  match j, hj with
  | 0, hj => simp at hj; subst hj; simp [Addr.add]

section
variable {base br : Nat} {vL : Value} {L : Vl} {s : VS}
set_option maxRecDepth 20000 in
set_option maxHeartbeats 2000000 in
theorem rclear_any (n : Int) (w : World) (h : RSet base br vL L w) (hr : Rel L s) :
    Calls Try.prog 34 #[rptr br, .int .i64 n] w fun e w' => (∃ r, e = .returned (.int .i64 r)) ∧ Left base br (s.clear n) w w' := by
  obtain ⟨i0, hi, hz0, hz1, hz2⟩ := info_parts infoVr
  have hlen := hr.len
  have HC2 : Hid (Rel (keepL n L) (s.clear n)) := rel_clear hr n
  have HS : Hid (∀ W, Below w.heap.size w W → RSet base br vL L W) := fun W hB => h.below hB
  have hbs0 := h.sized
  have hslv : ∃ a cap, vL = .slice a L.length cap := by
    rcases row_src h.row with ⟨h1, h2, _⟩ | ⟨g, cap, h1, _⟩
    · exact ⟨none, 0, by rw [h1, h2]⟩
    · exact ⟨_, _, h1⟩
  obtain ⟨av, cap, hv⟩ := hslv
  obtain ⟨m, hm⟩ : ∃ m, m = L.length := ⟨_, rfl⟩
  rw [← hm] at hlen hv
  have HN : Hid (m = L.length) := hm
  subst hv
  have HC : Hid (∀ W, Below w.heap.size w W → W.cell? ⟨br, 0, none⟩ = some (.slice av m cap)) := fun W hB => (HS.out W hB).c0
  have c2 := h.c0
  clear hm h hr
  go_enter Try.func34, Try.ntmps34
  go_wp2
  go_loopw [5, 6] (fun u vi wr => ∃ (k c : Nat) (A : Vl), k ≤ m ∧ c ≤ k ∧ vi = .int .i64 k ∧ wr.ownsRow w.heap.size 62 3 u c (varsV A) ∧ Hid (c = A.length ∧ A = keepL n (L.take k)) ∧ Below w.heap.size w wr)
    (fun _ vi _ => m - (intOf vi).toNat)
  case atStart => exact ⟨0, 0, [], Nat.zero_le _, Nat.le_refl _, rfl, World.ownsRow_nil _ _ _ _, ⟨rfl, rfl⟩, Below.refl _ _⟩
  case round =>
    obtain ⟨k, c, A, hk, hck, rfl, hrow, HA, hb⟩ := hrel
    have d2 := HC.out _ hb
    obtain ⟨au, capu, hu⟩ := owns_slice hrow
    subst hu
    have hbs := hb.size
    by_cases hlt : k < m
    · have hil : (k : Int) < (m : Int) := by omega
      have hkl : k < L.length := by rw [← HN.out]; exact hlt
      obtain ⟨g, capg, hvg, _, _, y0, y1, y2⟩ := (HS.out _ hb).cellsAt (List.getElem?_eq_getElem hkl)
      simp only [Value.slice.injEq] at hvg
      obtain ⟨rfl, -, -⟩ := hvg
      obtain ⟨x, hx⟩ : ∃ x, x = L[k] := ⟨_, rfl⟩
      rw [← hx] at y0 y1 y2
      have HX : Hid (keepL n (L.take (k + 1)) = keepL n (L.take k) ++ if x.n = n then [] else [x]) := keepL_next (by rw [hx]; exact List.getElem?_eq_getElem hkl)
      clear hx hkl
      obtain ⟨xn, xq, xv⟩ := x
      dsimp only at y0 y1 y2 HX
      by_cases hxn : xn = n
      · have HX2 : Hid (c = A.length ∧ A = keepL n (L.take (k + 1))) := ⟨HA.out.1, by rw [HX.out, if_pos hxn, List.append_nil]; exact HA.out.2⟩
        have hxb : (xn != n) = false := by simp [hxn]
        clear y1 y2 HX HA
        subst hxn
        go_wp2
        go_roundw
        case rel => exact ⟨k + 1, c, A, by omega, by omega, by go_num, hrow, HX2, hb⟩
        case measure => simp [intOf]; omega
      · have HX2 : Hid (c + 1 = (A ++ [(⟨xn, xq, xv⟩ : Vr)]).length ∧ A ++ [(⟨xn, xq, xv⟩ : Vr)] = keepL n (L.take (k + 1))) := ⟨by rw [HA.out.1, List.length_append]; rfl, by rw [HX.out, if_neg hxn, ← HA.out.2]⟩
        have hxb : (xn != n) = true := by simpa using hxn
        have HA3 : Hid (varsV (A ++ [(⟨xn, xq, xv⟩ : Vr)]) = varsV A ++ [.int .i64 xn, .string xq, .string xv]) := varsV_app _ _
        clear HX HA hxn
        go_wp2_with (at_builtin; refine wpList_append_own _ rfl _ _ 25 rfl w.heap.size 62 i0 (.agg #[.int .i64 0, .string ⟨#[]⟩, .string ⟨#[]⟩]) 3 40 Try.underlying25 hi hz0 hz1 hz2 rfl (by decide) _ _ _ rfl (hrow.alloc _) ⟨wr.heap.size, 0, none⟩ 1 1 [.int .i64 xn, .string xq, .string xv] rfl rfl (by intro j u hj; match j, hj with | 0, hj => simp at hj; subst hj; simp [Addr.add] | 1, hj => simp at hj; subst hj; simp [Addr.add] | 2, hj => simp at hj; subst hj; simp [Addr.add]) (by intro u hu; simp only [List.mem_cons, List.not_mem_nil, or_false] at hu; rcases hu with rfl | rfl | rfl <;> rfl) (by unfold maxLen; omega) (by omega) (by simp; omega) ?_)
        intro v' w2 hown' hgrow _
        have hb3 : Below w.heap.size w w2 := (hb.alloc hbs _).grown hgrow (by simp; omega) (fun k hk => (hrow.lt k hk).1)
        clear hgrow hrow hb d2 y0 y1 y2
        obtain ⟨a3, c3, hv3⟩ := owns_slice hown'
        subst hv3
        go_wp2
        go_roundw
        case rel => exact ⟨k + 1, c + 1, A ++ [(⟨xn, xq, xv⟩ : Vr)], by omega, by omega, by go_num, by rw [HA3.out]; exact hown', HX2, hb3⟩
        case measure => simp [intOf]; omega
    · have hkn : k = m := by omega
      subst hkn
      have hil : ¬ (k : Int) < (k : Int) := by omega
      have f2 := (HS.out _ hb).fr 0
      have HE : Hid (RSet base br (.slice au c capu) (keepL n L) (wr.setCell ⟨br, 0, none⟩ (.slice au c capu)) ∧ RTurn br w (wr.setCell ⟨br, 0, none⟩ (.slice au c capu))) := by
        have hAL : A = keepL n L := by rw [HA.out.2, HN.out, List.take_length]
        refine ⟨(HS.out _ hb).putL (owns_base ?_ hbs0), (RTurn.of_below hb).trans (RTurn.set _ _ _ _)⟩
        rw [← hAL, ← HA.out.1]; exact hrow
      clear hrow
      go_wp2
      go_ret
      exact ⟨⟨_, rfl⟩, _, _, HE.out.1, HC2.out, HE.out.2⟩
end
end Go.Proofs.Ytjbmmeneejcpbaa
