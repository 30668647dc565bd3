/-
  The document's own store: List.
-/
import Derived.Test.YtoibdokedhbjpaaGreatP10
namespace Go.Proofs.YtoibdokedhbjpaaGreat
open Go.RowKit Go.Shelf Go.Maps

section
variable {base br : Nat} {vL vN : Value} {s : St}
set_option maxRecDepth 20000 in
set_option maxHeartbeats 1000000 in
theorem rlist_any (p : ByteArray) (w : World) (h : RSt base br vL vN s w) (hl : s.L.length ≤ 1000) (hp : p.size ≤ 1050000) (hpath : ∀ x ∈ s.L, x.1.size ≤ 1100000) :
    Calls Tryz.prog 19 #[rptr br, .string p] w fun e w' => ∃ u, e = .returned (listV u (s.list p).2) ∧ Told w.heap.size w' u (s.list p).1 ∧ Below w.heap.size w w' := by
  obtain ⟨i0, hi, hz0, hz1, hz2⟩ := info_parts infoS9
  have HW : Hid (Calls Tryz.prog 41 #[.string p] w fun e w' => e = .returned (.tuple #[.string ((wh p).getD E), .bool (wh p).isSome]) ∧ Below w.heap.size w w') := by
    have := where_any p w (by omega)
    rw [where_t] at this; exact this
  have HAt : Hid (∀ q W, Below w.heap.size w W → Calls Tryz.prog 42 #[rptr br, .string q] W fun e w' => ∃ r, e = .returned (.int .i64 r) ∧ AtIs s.L q r ∧ W = w') := fun q W hB => rat_any q W (h.below hB) hl
  have HS : Hid (∀ W, Below w.heap.size w W → RSt base br vL vN s W) := fun W hB => h.below hB
  have HR : Hid (∀ v l W, Told w.heap.size W v l → l.length ≤ 1000 → Calls Tryz.prog 48 #[v] W fun e w' => ∃ u, e = .returned u ∧ Told W.heap.size w' u (St.sorted l) ∧ Below W.heap.size W w') := fun v l W h1 h2 => rsorted_any _ v l W h1 h2
  have HD : Hid (s.list p = match wh p with | none => ([], 1) | some q => match s.L.look q with | none => ([], 6) | some o => if o.dir then (St.sorted (s.kids q), 0) else ([], 8)) := rfl
  obtain ⟨st, hst⟩ : ∃ st, st = s.list p := ⟨_, rfl⟩
  rw [← hst] at HD ⊢
  clear hst
  cases hw : wh p with
  | none =>
    rw [hw] at HW HD
    have HD2 : Hid (st = ([], 1)) := HD
    clear hw HD h
    go_enter Tryz.func19, Tryz.ntmps19
    go_wp2_with fail
    refine HW.out.mono ?_
    rintro e w1 ⟨rfl, hb1⟩
    go_wp2
    go_ret2
    refine ⟨.slice none 0 0, by rw [HD2.out]; rfl, ?_, hb1⟩
    rw [HD2.out]; exact World.ownsRow_nil _ _ _ _
  | some q =>
    rw [hw] at HW HD
    dsimp only [Option.getD_some, Option.isSome_some] at HW HD
    have hslv : ∃ a cap, vL = .slice a s.L.length cap := by
      rcases row_src h.row with ⟨h1, h2, _⟩ | ⟨g, cap, h1, _⟩
      · exact ⟨none, 0, by rw [h1, h2]⟩
      · exact ⟨_, _, h1⟩
    clear hw h
    obtain ⟨av, cap, hv⟩ := hslv
    obtain ⟨n, hn⟩ : ∃ n, n = s.L.length := ⟨_, rfl⟩
    rw [← hn] at hl hv
    have HN : Hid (n = s.L.length) := hn
    subst hv
    clear hn
    have HC : Hid (∀ W, Below w.heap.size w W → W.cell? ⟨br, 2, none⟩ = some (.slice av n cap)) := fun W hB => (HS.out W hB).c2
    go_enter Tryz.func19, Tryz.ntmps19
    go_wp2_with fail
    refine HW.out.mono ?_
    rintro e w1 ⟨rfl, hb1⟩
    have HB1 : Hid (Below w.heap.size w w1) := hb1
    clear hb1
    go_wp2_with fail
    refine (HAt.out q w1 HB1.out).mono ?_
    rintro e w' ⟨r, rfl, hat, rfl⟩
    have c2 := HC.out w1 HB1.out
    rcases hat with ⟨rfl, h2⟩ | ⟨i, x, rfl, h2, h3, _⟩
    · have HD2 : Hid (st = ([], 6)) := by have := HD.out; rw [h2] at this; exact this
      clear h2 HD
      go_wp2
      go_ret2
      refine ⟨.slice none 0 0, by rw [HD2.out]; rfl, ?_, HB1.out⟩
      rw [HD2.out]; exact World.ownsRow_nil _ _ _ _
    · have HD2 : Hid (st = if x.dir = true then (St.sorted (s.kids q), 0) else ([], 8)) := by have := HD.out; rw [h3] at this; exact this
      obtain ⟨g, cap', hv, hil, hg, y0, y1, y2, y3⟩ := (HS.out w1 HB1.out).cellsAt h2
      simp only [Value.slice.injEq] at hv
      obtain ⟨rfl, -, -⟩ := hv
      rw [← HN.out] at hil
      have hii : (i : Int) < (n : Int) := by omega
      have hi0 : ¬ (i : Int) < 0 := by omega
      obtain ⟨xt, xm, xd⟩ := x
      dsimp only at y0 y1 y2 y3 HD2
      clear h2 h3 HD y0 y1 y2
      cases xd with
      | false =>
        have HD3 : Hid (st = ([], 8)) := HD2
        clear HD2
        go_wp2
        go_ret2
        refine ⟨.slice none 0 0, by rw [HD3.out]; rfl, ?_, HB1.out⟩
        rw [HD3.out]; exact World.ownsRow_nil _ _ _ _
      | true =>
        have HD3 : Hid (st = (St.sorted (s.kids q), 0)) := HD2
        clear HD2
        go_wp2
        go_loopw [9, 10] (fun u vi wr => ∃ (k m : Nat) (A : List ByteArray), k ≤ n ∧ m ≤ k ∧ vi = .int .i64 k ∧ wr.ownsRow w.heap.size 9 1 u m (A.map Value.string) ∧ Hid (m = A.length ∧ A = kidsN q (s.L.take k)) ∧ Below w.heap.size w wr)
          (fun _ vi _ => n - (intOf vi).toNat)
        case atStart => exact ⟨0, 0, [], Nat.zero_le _, Nat.le_refl _, rfl, World.ownsRow_nil _ _ _ _, ⟨rfl, rfl⟩, HB1.out⟩
        case round =>
          obtain ⟨k, m, A, hk, hmk, rfl, hrow, HA, hb⟩ := hrel
          clear c2 y3
          have d2 := HC.out _ hb
          obtain ⟨au, capu, hu⟩ := owns_slice hrow
          subst hu
          have hbs := hb.size
          by_cases hlt : k < n
          · have hil : (k : Int) < (n : Int) := by omega
            have hkl : k < s.L.length := by rw [← HN.out]; exact hlt
            obtain ⟨g', capg, hvg, _, _, y0, y1, y2, y3⟩ := (HS.out _ hb).cellsAt (List.getElem?_eq_getElem hkl)
            simp only [Value.slice.injEq, Option.some.injEq, Addr.mk.injEq] at hvg
            obtain ⟨⟨rfl, -, -⟩, -, -⟩ := hvg
            obtain ⟨x, hx⟩ : ∃ x, x = s.L[k] := ⟨_, rfl⟩
            rw [← hx] at y0 y1 y2 y3
            have hxs : x.1.size ≤ 1100000 := by rw [hx]; exact hpath _ (List.getElem_mem hkl)
            have HX : Hid (kidsN q (s.L.take (k + 1)) = kidsN q (s.L.take k) ++ if St.inDir q x then [nameB x.1] else []) := kidsN_next (by rw [hx]; exact List.getElem?_eq_getElem hkl)
            clear hx hkl
            obtain ⟨xp, xe⟩ := x
            dsimp only at y0 hxs HX
            clear y1 y2 y3
            by_cases htop : xp = topB
            · have HX2 : Hid (m = A.length ∧ A = kidsN q (s.L.take (k + 1))) := ⟨HA.out.1, by rw [HX.out, if_neg (by unfold St.inDir; simp [htop]), List.append_nil]; exact HA.out.2⟩
              subst htop
              clear HX HA
              go_wp2
              go_roundw
              case rel => exact ⟨k + 1, m, A, by omega, by omega, by go_num, hrow, HX2, hb⟩
              case measure => simp [intOf]; omega
            · have HDr : Hid (∀ W, Calls Tryz.prog 46 #[.string xp] W fun e w' => e = .returned (.string (dirB xp)) ∧ W = w') := fun W => (rdir_any xp W (by omega)).mono fun e w' h => ⟨h.1, h.2.symm⟩
              have HYtoibdokedhbjpaaGreat : Hid (∀ W, Calls Tryz.prog 47 #[.string xp] W fun e w' => e = .returned (.string (nameB xp)) ∧ W = w') := fun W => (rname_any xp W (by omega)).mono fun e w' h => ⟨h.1, h.2.symm⟩
              have t0 : ¬ xp.toList = [47] := fun e => htop (bl_inj (by show xp.data.toList = [47]; rw [← Lib.toList_data xp, e]))
              have t1 : (xp.toList == [47]) = false := by simpa using t0
              have HI : Hid (St.inDir q (xp, xe) = decide (dirB xp = q)) := by unfold Hid St.inDir; simp [htop]
              obtain ⟨d, hd⟩ : ∃ d, d = dirB xp := ⟨_, rfl⟩
              obtain ⟨nm, hnm⟩ : ∃ nm, nm = nameB xp := ⟨_, rfl⟩
              rw [← hd] at HDr HI
              rw [← hnm] at HYtoibdokedhbjpaaGreat HX
              clear hd hnm htop
              by_cases hdq : d = q
              · have HX2 : Hid (m + 1 = (A ++ [nm]).length ∧ A ++ [nm] = kidsN q (s.L.take (k + 1))) := ⟨by rw [HA.out.1, List.length_append]; rfl, by rw [HX.out, if_pos (by rw [HI.out]; simp [hdq]), ← HA.out.2]⟩
                subst hdq
                clear HX HA HI
                go_wp2_with fail
                refine (HDr.out _).mono ?_
                rintro e w' ⟨rfl, rfl⟩
                go_wp2_with fail
                refine (HYtoibdokedhbjpaaGreat.out _).mono ?_
                rintro e w' ⟨rfl, rfl⟩
                go_wp2_with (at_builtin; refine wpList_append_own _ rfl _ _ 47 rfl w.heap.size 9 i0 (.string ⟨#[]⟩) 1 16 Tryz.underlying47 hi hz0 hz1 hz2 rfl (by decide) _ _ _ rfl (hrow.alloc _) ⟨wr.heap.size, 0, none⟩ 1 1 [.string nm] rfl rfl (cell_one_new _ _ _) (by intro u hu; simp at hu; subst hu; rfl) (by unfold maxLen; omega) (by omega) (by simp; omega) ?_)
                intro v' w2 hown' hgrow _
                have hb3 : Below w.heap.size w w2 := (hb.alloc hbs _).grown hgrow (by simp; omega) (fun k hk => (hrow.lt k hk).1)
                clear hgrow hrow hb d2 y0
                obtain ⟨a3, c3, hv3⟩ := owns_slice hown'
                subst hv3
                go_wp2
                go_roundw
                case rel => exact ⟨k + 1, m + 1, A ++ [nm], by omega, by omega, by go_num, by rw [List.map_append]; exact hown', HX2, hb3⟩
                case measure => simp [intOf]; omega
              · have HX2 : Hid (m = A.length ∧ A = kidsN q (s.L.take (k + 1))) := ⟨HA.out.1, by rw [HX.out, if_neg (by rw [HI.out]; simp [hdq]), List.append_nil]; exact HA.out.2⟩
                have t2 : ¬ d.toList = q.toList := ba_ne_list hdq
                have t3 : (d.toList == q.toList) = false := by simpa using t2
                clear HX HA HI hdq
                go_wp2_with fail
                refine (HDr.out _).mono ?_
                rintro e w' ⟨rfl, rfl⟩
                go_wp2
                go_roundw
                case rel => exact ⟨k + 1, m, A, by omega, by omega, by go_num, hrow, HX2, hb⟩
                case measure => simp [intOf]; omega
          · have hkn : k = n := by omega
            subst hkn
            have HT : Hid (Told w.heap.size wr (.slice au m capu) A ∧ A.length ≤ 1000 ∧ St.sorted A = St.sorted (s.kids q)) := by
              refine ⟨?_, by rw [← HA.out.1]; omega, ?_⟩
              · show wr.ownsRow _ _ _ _ A.length _; rw [← HA.out.1]; exact hrow
              · rw [HA.out.2, HN.out, List.take_length]; rfl
            clear hrow
            go_wp2_with fail
            refine (HR.out _ A wr HT.out.1 HT.out.2.1).mono ?_
            rintro e w2 ⟨u, rfl, hT, hB⟩
            rw [HT.out.2.2] at hT
            obtain ⟨a3, c3, hv3⟩ := owns_slice hT
            subst hv3
            have HE : Hid (Told w.heap.size w2 (.slice a3 (St.sorted (s.kids q)).length c3) (St.sorted (s.kids q)) ∧ Below w.heap.size w w2) := ⟨owns_base hT hbs, hb.trans (hB.mono hbs)⟩
            clear hT hB
            go_wp2
            go_ret2
            exact ⟨_, by rw [HD3.out]; rfl, by rw [HD3.out]; exact HE.out.1, HE.out.2⟩
end
end Go.Proofs.YtoibdokedhbjpaaGreat
