/-
  The document's own store: All and List.
-/
import Derived.Test.YtoibdokedhbjpaaGreatP9
namespace Go.Proofs.YtoibdokedhbjpaaGreat
open Go.RowKit Go.Shelf Go.Maps

def allN (L : Fs) : List ByteArray := (L.filter fun x => !x.2.dir).map (·.1)
def kidsN (q : ByteArray) (L : Fs) : List ByteArray := (L.filter (St.inDir q)).map fun x => nameB x.1
theorem allN_len (L : Fs) (k : Nat) : (allN (L.take k)).length ≤ k := by
  unfold allN; rw [List.length_map]; exact Nat.le_trans (List.length_filter_le _ _) (by rw [List.length_take]; omega)
theorem kidsN_len (q : ByteArray) (L : Fs) (k : Nat) : (kidsN q (L.take k)).length ≤ k := by
  unfold kidsN; rw [List.length_map]; exact Nat.le_trans (List.length_filter_le _ _) (by rw [List.length_take]; omega)
theorem allN_next {L : Fs} {k : Nat} {x : ByteArray × Ent} (h : L[k]? = some x) : allN (L.take (k + 1)) = allN (L.take k) ++ if x.2.dir then [] else [x.1] := by
  unfold allN
  rw [List.take_add_one, h, List.filter_append, List.map_append]
  congr 1
  cases hd : x.2.dir <;> simp [hd]
theorem kidsN_next {q : ByteArray} {L : Fs} {k : Nat} {x : ByteArray × Ent} (h : L[k]? = some x) : kidsN q (L.take (k + 1)) = kidsN q (L.take k) ++ if St.inDir q x then [nameB x.1] else [] := by
  unfold kidsN
  rw [List.take_add_one, h, List.filter_append, List.map_append]
  congr 1
  cases hd : St.inDir q x <;> simp [hd]
theorem told_next {base : Nat} {w : World} {u : Value} {A : List ByteArray} {x : ByteArray} {m : Nat} (hm : m = A.length) (h : w.ownsRow base 9 1 u (m + 1) (A.map Value.string ++ [.string x])) : Told base w u (A ++ [x]) := by
  subst hm
  unfold Told
  rw [List.length_append, List.map_append]; exact h
section
variable {base br : Nat} {vL vN : Value} {s : St}
set_option maxRecDepth 20000 in
set_option maxHeartbeats 1000000 in
theorem rall_any (w : World) (h : RSt base br vL vN s w) (hl : s.L.length ≤ 1000) :
    Calls Tryz.prog 22 #[rptr br] w fun e w' => ∃ u, e = .returned u ∧ Told w.heap.size w' u s.all ∧ Below w.heap.size w w' := by
  obtain ⟨i0, hi, hz0, hz1, hz2⟩ := info_parts infoS9
  have HS : Hid (∀ W, Below w.heap.size w W → RSt base br vL vN s W) := fun W hB => h.below hB
  have HR : Hid (∀ v l W, Told w.heap.size W v l → l.length ≤ 1000 → Calls Tryz.prog 48 #[v] W fun e w' => ∃ u, e = .returned u ∧ Told W.heap.size w' u (St.sorted l) ∧ Below W.heap.size W w') := fun v l W h1 h2 => rsorted_any _ v l W h1 h2
  have hslv : ∃ a cap, vL = .slice a s.L.length cap := by
    rcases row_src h.row with ⟨h1, h2, _⟩ | ⟨g, cap, h1, _⟩
    · exact ⟨none, 0, by rw [h1, h2]⟩
    · exact ⟨_, _, h1⟩
  obtain ⟨av, cap, hv⟩ := hslv
  obtain ⟨n, hn⟩ : ∃ n, n = s.L.length := ⟨_, rfl⟩
  rw [← hn] at hl hv
  have HN : Hid (n = s.L.length) := hn
  subst hv
  have HC : Hid (∀ W, Below w.heap.size w W → W.cell? ⟨br, 2, none⟩ = some (.slice av n cap)) := fun W hB => (HS.out W hB).c2
  have c2 := h.c2
  clear hn h
  go_enter Tryz.func22, Tryz.ntmps22
  go_wp2
  go_loopw [3, 4] (fun u vi wr => ∃ (k m : Nat) (A : List ByteArray), k ≤ n ∧ m ≤ k ∧ vi = .int .i64 k ∧ wr.ownsRow w.heap.size 9 1 u m (A.map Value.string) ∧ Hid (m = A.length ∧ A = allN (s.L.take k)) ∧ Below w.heap.size w wr)
    (fun _ vi _ => n - (intOf vi).toNat)
  case atStart => exact ⟨0, 0, [], Nat.zero_le _, Nat.le_refl _, rfl, World.ownsRow_nil _ _ _ _, ⟨rfl, rfl⟩, Below.refl _ _⟩
  case round =>
    obtain ⟨k, m, A, hk, hmk, rfl, hrow, HA, hb⟩ := hrel
    have d2 := HC.out _ hb
    obtain ⟨au, capu, hu⟩ := owns_slice hrow
    subst hu
    rename World => wr
    have hbs := hb.size
    by_cases hlt : k < n
    · have hil : (k : Int) < (n : Int) := by omega
      have hkl : k < s.L.length := by rw [← HN.out]; exact hlt
      obtain ⟨g, capg, hvg, _, _, y0, y1, y2, y3⟩ := (HS.out _ hb).cellsAt (List.getElem?_eq_getElem hkl)
      simp only [Value.slice.injEq] at hvg
      obtain ⟨rfl, -, -⟩ := hvg
      obtain ⟨x, hx⟩ : ∃ x, x = s.L[k] := ⟨_, rfl⟩
      rw [← hx] at y0 y1 y2 y3
      have HX : Hid (allN (s.L.take (k + 1)) = allN (s.L.take k) ++ if x.2.dir then [] else [x.1]) := allN_next (by rw [hx]; exact List.getElem?_eq_getElem hkl)
      clear hx hkl
      obtain ⟨xp, xt, xm, xd⟩ := x
      dsimp only at y0 y1 y2 y3 HX
      cases xd with
      | true =>
        have HX2 : Hid (m = A.length ∧ A = allN (s.L.take (k + 1))) := ⟨HA.out.1, by rw [HX.out, if_pos rfl, List.append_nil]; exact HA.out.2⟩
        clear y0 y1 y2 HX HA
        go_wp2
        go_roundw
        case rel => exact ⟨k + 1, m, A, by omega, by omega, by go_num, hrow, HX2, hb⟩
        case measure => simp [intOf]; omega
      | false =>
        have HX2 : Hid (m + 1 = (A ++ [xp]).length ∧ A ++ [xp] = allN (s.L.take (k + 1))) := ⟨by rw [HA.out.1, List.length_append]; rfl, by rw [HX.out, if_neg (by simp), ← HA.out.2]⟩
        clear y1 y2 HX HA
        go_wp2_with (at_builtin; refine wpList_append_own _ rfl _ _ 47 rfl w.heap.size 9 i0 (.string ⟨#[]⟩) 1 16 Tryz.underlying47 hi hz0 hz1 hz2 rfl (by decide) _ _ _ rfl (hrow.alloc _) ⟨wr.heap.size, 0, none⟩ 1 1 [.string xp] rfl rfl (cell_one_new _ _ _) (by intro u hu; simp at hu; subst hu; rfl) (by unfold maxLen; omega) (by omega) (by simp; omega) ?_)
        intro v' w2 hown' hgrow _
        have hb3 : Below w.heap.size w w2 := (hb.alloc hbs _).grown hgrow (by simp; omega) (fun k hk => (hrow.lt k hk).1)
        clear hgrow hrow hb d2 y0 y3
        obtain ⟨a3, c3, hv3⟩ := owns_slice hown'
        subst hv3
        go_wp2
        go_roundw
        case rel => exact ⟨k + 1, m + 1, A ++ [xp], by omega, by omega, by go_num, by rw [List.map_append]; exact hown', HX2, hb3⟩
        case measure => simp [intOf]; omega
    · have hkn : k = n := by omega
      subst hkn
      have HT : Hid (Told w.heap.size wr (.slice au m capu) A ∧ A.length ≤ 1000 ∧ St.sorted A = s.all) := by
        refine ⟨?_, by rw [← HA.out.1]; omega, ?_⟩
        · show wr.ownsRow _ _ _ _ A.length _; rw [← HA.out.1]; exact hrow
        · rw [HA.out.2, HN.out, List.take_length]; rfl
      clear hrow
      go_wp2_with fail
      refine (HR.out _ A wr HT.out.1 HT.out.2.1).mono ?_
      rintro e w2 ⟨u, rfl, hT, hB⟩
      rw [HT.out.2.2] at hT
      obtain ⟨a3, c3, hv3⟩ := owns_slice hT
      subst hv3
      have HE : Hid (Told w.heap.size w2 (.slice a3 s.all.length c3) s.all ∧ Below w.heap.size w w2) := ⟨owns_base hT hbs, hb.trans (hB.mono hbs)⟩
      clear hT hB
      go_wp2
      go_ret
      exact ⟨_, rfl, HE.out.1, HE.out.2⟩
end
end Go.Proofs.YtoibdokedhbjpaaGreat
