/-
  What the document's own Parts, Clean and Join answer: as the program's.
-/
import Derived.Test.YtoibdokedhbjpaaGreatRefA
namespace Go.Proofs.YtoibdokedhbjpaaGreat
open Go.RowKit Go.Shelf

theorem pieces_take (l : List ByteArray) (k : Nat) (h : k < l.length) : l.take (k + 1) = l.take k ++ [l[k]] := List.take_succ_eq_append_getElem h

set_option maxHeartbeats 1000000 in
set_option maxRecDepth 20000 in
theorem rparts_any (p : ByteArray) (w : World) (hp : p.size ≤ 1100000) :
    Calls Tryz.prog 63 #[.string p] w fun e w' => ∃ v, e = .returned v ∧ w'.ownsRow w.heap.size 9 1 v (parts p).length ((parts p).map Value.string) ∧ Below w.heap.size w w' := by
  obtain ⟨i0, hi, hz0, hz1, hz2⟩ := info_parts Tryz.info9
  obtain ⟨r, hr⟩ : ∃ r, r = G.rootedL (bl p) := ⟨_, rfl⟩
  have HR : Hid (∀ W, Calls Tryz.prog 77 #[.string p] W fun e w' => e = .returned (.bool r) ∧ W = w') := by
    intro W; rw [hr]; exact (rooted_any p W).mono fun e w' h => ⟨h.1, h.2.symm⟩
  have HP : Hid (kept r (pieces p) = parts p) := by rw [hr]; exact kept_parts p
  have HS : Hid (∀ W, Calls Tryz.prog 78 #[.string p, .int .u8 47] W fun e w' => ∃ v, e = .returned v ∧ w'.ownsRow W.heap.size 9 1 v (pieces p).length ((pieces p).map Value.string) ∧ Below W.heap.size W w') := fun W => split_any p W hp
  have hpl := pieces_len p
  have hne : pieces p ≠ [] := by unfold pieces; simpa using G.splitL_ne (bl p)
  clear hr
  go_enter Tryz.func63, Tryz.ntmps63
  go_wp2_with fail
  refine (HS.out _).mono ?_
  rintro e w1 ⟨v0, rfl, hown0, hb0⟩
  obtain ⟨b, c, rfl, hbw, hbl, hcap0, hcells⟩ := owns_at hown0 hne
  obtain ⟨l, hl⟩ : ∃ l, l = pieces p := ⟨_, rfl⟩
  obtain ⟨n, hn⟩ : ∃ n, n = l.length := ⟨_, rfl⟩
  have HC : Hid (n = l.length ∧ l = pieces p ∧ ∀ i (hi : i < l.length), w1.cell? ⟨b, i, none⟩ = some (.string l[i])) := ⟨hn, hl, by rw [hl]; exact hcells⟩
  rw [← hl] at hpl hcap0 ⊢
  rw [← hn] at hpl hcap0 ⊢
  have hbs0 := hb0.size
  clear hown0 hcells hne hl hn
  go_wp2
  go_loopw [3, 5] (fun v vi wr => ∃ k : Nat, k ≤ n ∧ vi = .int .i64 k ∧ wr.ownsRow w1.heap.size 9 1 v (kept r (l.take k)).length ((kept r (l.take k)).map Value.string) ∧ Below w1.heap.size w1 wr)
    (fun _ vi _ => n - (intOf vi).toNat)
  case atStart => exact ⟨0, Nat.zero_le _, rfl, World.ownsRow_nil _ _ _ _, Below.refl _ _⟩
  case round =>
    obtain ⟨k, hk, rfl, hrow, hB⟩ := hrel
    have hbs := hB.size
    by_cases hlt : k < n
    · have hkl : k < l.length := by rw [← HC.out.1]; exact hlt
      have hil : (k : Int) < (n : Int) := by omega
      obtain ⟨x, hxe⟩ : ∃ x, x = l[k] := ⟨_, rfl⟩
      have hcx : wr.cell? ⟨b, k, none⟩ = some (.string x) := by rw [hB.cell (p := ⟨b, k, none⟩) hbl, hxe]; exact HC.out.2.2 k hkl
      have HT : Hid (l.take (k + 1) = l.take k ++ [x]) := by rw [hxe]; exact pieces_take l k hkl
      clear hxe
      obtain ⟨pre, hpre⟩ : ∃ pre, pre = l.take k := ⟨_, rfl⟩
      have hkn : (kept r pre).length ≤ k := by
        have := kept_len r pre
        have h2 : pre.length ≤ k := by rw [hpre, List.length_take]; omega
        omega
      rw [← hpre] at hrow HT
      clear hpre
      by_cases hx1 : x = E ∨ x = dotB
      · have HK : Hid (kept r (pre ++ [x]) = kept r pre) := kept_skip r pre hx1
        obtain ⟨a, cap, rfl⟩ := owns_slice hrow
        rcases hx1 with rfl | rfl
        · go_wp2
          go_roundw
          case rel => exact ⟨k + 1, by omega, by go_num, by rw [HT.out, HK.out]; exact hrow, hB⟩
          case measure => simp [intOf]; omega
        · go_wp2
          go_roundw
          case rel => exact ⟨k + 1, by omega, by go_num, by rw [HT.out, HK.out]; exact hrow, hB⟩
          case measure => simp [intOf]; omega
      · obtain ⟨h1, h2⟩ := not_or.1 hx1
        clear hx1
        by_cases h3 : x = ddB
        · subst h3
          clear h1 h2
          by_cases hne : kept r pre = []
          · have HU : Hid (r = true → kept r (pre ++ [ddB]) = kept r pre) := by
              intro e; subst e; exact kept_upr pre (.inl hne)
            have HV : Hid (r = false → kept r (pre ++ [ddB]) = kept r pre ++ [ddB]) := by
              intro e; subst e; exact kept_up pre (.inl hne)
            have HE : Hid (kept r pre = []) := hne
            rw [hne] at hrow
            obtain ⟨a, cap, rfl⟩ := owns_slice hrow
            simp only [List.length_nil, List.map_nil] at hrow
            clear hne hkn
            cases r
            · have HW : Hid (kept false (pre ++ [ddB]) = [ddB]) := by rw [HV.out rfl, HE.out]; rfl
              clear HU HV
              go_wp2_with fail
              refine (HR.out _).mono ?_
              rintro e w' ⟨rfl, rfl⟩
              go_wp2_with (at_builtin; refine wpList_append_own _ rfl _ _ 47 rfl w1.heap.size 9 i0 (.string ⟨#[]⟩) 1 16 Tryz.underlying47 hi hz0 hz1 hz2 rfl (by decide) _ _ _ rfl (hrow.alloc _) ⟨wr.heap.size, 0, none⟩ 1 1 [.string ddB] rfl rfl ?c1 ?c2 ?c3 ?c4 ?c5 ?_)
              case c1 => exact cell_one_new _ _ _
              case c2 => intro u hu; simp at hu; subst hu; rfl
              case c3 => unfold maxLen; omega
              case c4 => omega
              case c5 => simp; omega
              intro v' w2 hown' hgrow _
              have hb3 : Below w1.heap.size w1 w2 := (hB.alloc hbs _).grown hgrow (by simp; omega) (fun k hk => (hrow.lt k hk).1)
              clear hgrow hrow hB hcx
              go_wp2
              go_roundw
              case rel => exact ⟨k + 1, by omega, by go_num, by rw [HT.out, HW.out]; simpa using hown', hb3⟩
              case measure => simp [intOf]; omega
            · have HW : Hid (kept true (pre ++ [ddB]) = []) := by rw [HU.out rfl, HE.out]; rfl
              clear HU HV
              go_wp2_with fail
              refine (HR.out _).mono ?_
              rintro e w' ⟨rfl, rfl⟩
              go_wp2
              go_roundw
              case rel => exact ⟨k + 1, by omega, by go_num, by rw [HT.out, HW.out]; exact hrow, hB⟩
              case measure => simp [intOf]; omega
          · obtain ⟨g, cap, rfl, hbg, hgW, hcap, hcell⟩ := owns_at hrow hne
            obtain ⟨m, hm⟩ : ∃ m, (kept r pre).length = m + 1 := ⟨(kept r pre).length - 1, by have := List.length_pos_iff.2 hne; omega⟩
            obtain ⟨y, hy⟩ : ∃ y, y = (kept r pre)[m]'(by omega) := ⟨_, rfl⟩
            have hcy : wr.cell? ⟨g, m, none⟩ = some (.string y) := by rw [hy]; exact hcell m (by omega)
            have hlast : (kept r pre).getLast? = some y := by
              rw [List.getLast?_eq_getElem?, hm, hy]
              exact List.getElem?_eq_getElem (by omega)
            have HM : Hid ((kept r pre).length = m + 1) := hm
            rw [hm] at hrow hcap hkn ⊢
            have hm6 : m ≤ 1100000 := by omega
            by_cases hyd : y = ddB
            · have HU : Hid (r = true → kept r (pre ++ [ddB]) = kept r pre) := by
                intro e; subst e; exact kept_upr pre (.inr (by rw [hlast, hyd]))
              have HV : Hid (r = false → kept r (pre ++ [ddB]) = kept r pre ++ [ddB]) := by
                intro e; subst e; exact kept_up pre (.inr (by rw [hlast, hyd]))
              subst hyd
              clear hy hcell hlast hne hm
              cases r
              · have HW : Hid (kept false (pre ++ [ddB]) = kept false pre ++ [ddB]) := HV.out rfl
                clear HU HV
                go_wp2_with fail
                refine (HR.out _).mono ?_
                rintro e w' ⟨rfl, rfl⟩
                go_wp2_with (at_builtin; refine wpList_append_own _ rfl _ _ 47 rfl w1.heap.size 9 i0 (.string ⟨#[]⟩) 1 16 Tryz.underlying47 hi hz0 hz1 hz2 rfl (by decide) _ _ _ rfl (hrow.alloc _) ⟨wr.heap.size, 0, none⟩ 1 1 [.string ddB] rfl rfl ?c1 ?c2 ?c3 ?c4 ?c5 ?_)
                case c1 => exact cell_one_new _ _ _
                case c2 => intro u hu; simp at hu; subst hu; rfl
                case c3 => unfold maxLen; omega
                case c4 => omega
                case c5 => simp; omega
                intro v' w2 hown' hgrow _
                have hb3 : Below w1.heap.size w1 w2 := (hB.alloc hbs _).grown hgrow (by simp; omega) (fun k hk => (hrow.lt k hk).1)
                clear hgrow hrow hB hcx hcy
                go_wp2
                go_roundw
                case rel => exact ⟨k + 1, by omega, by go_num, by rw [HT.out, HW.out, List.length_append, HM.out]; simpa using hown', hb3⟩
                case measure => simp [intOf]; omega
              · have HW : Hid (kept true (pre ++ [ddB]) = kept true pre) := HU.out rfl
                clear HU HV
                go_wp2_with fail
                refine (HR.out _).mono ?_
                rintro e w' ⟨rfl, rfl⟩
                go_wp2
                go_roundw
                case rel => exact ⟨k + 1, by omega, by go_num, by rw [HT.out, HW.out, HM.out]; exact hrow, hB⟩
                case measure => simp [intOf]; omega
            · have HK : Hid (kept r (pre ++ [ddB]) = (kept r pre).dropLast) := kept_pop r pre hne (by rw [hlast]; simpa using hyd)
              have t3 : (y.toList == [46, 46]) = false := by
                rw [Lib.toList_data, beq_eq_false_iff_ne]; exact fun e => hyd (bl_dd.1 e)
              have t3' : ¬ y.toList = [46, 46] := by simpa using t3
              have HD : Hid ((kept r pre).dropLast.length = m ∧ ∀ j u, ((kept r pre).dropLast.map Value.string)[j]? = some u → wr.cell? ((⟨g, 0, none⟩ : Addr).add j) = some u) := by
                refine ⟨by rw [List.length_dropLast, HM.out]; rfl, fun j u hj => ?_⟩
                rw [List.getElem?_map] at hj
                obtain ⟨z, hz, rfl⟩ := Option.map_eq_some_iff.1 hj
                obtain ⟨hjl, hz'⟩ := List.getElem?_eq_some_iff.1 hz
                rw [List.length_dropLast, HM.out] at hjl
                rw [List.getElem_dropLast] at hz'
                have := hcell j (by rw [HM.out]; omega)
                rw [hz'] at this
                by_cases h0 : j = 0
                · subst h0; simpa [Addr.add] using this
                · simpa [Addr.add, h0] using this
              clear hy hcell hlast hne hm hyd
              go_wp2_with (at_builtin; refine wpList_append_own _ rfl _ _ 47 rfl w1.heap.size 9 i0 (.string ⟨#[]⟩) 1 16 Tryz.underlying47 hi hz0 hz1 hz2 rfl (by decide) _ _ _ rfl (World.ownsRow_nil _ _ _ _) ⟨g, 0, none⟩ m cap ((kept r pre).dropLast.map Value.string) rfl ?c0 ?c1 ?c2 ?c3 ?c4 ?c5 ?_)
              case c0 => rw [List.length_map, HD.out.1, Nat.mul_one]
              case c1 => exact HD.out.2
              case c2 =>
                intro u hu
                obtain ⟨z, _, rfl⟩ := List.mem_map.1 hu
                rfl
              case c3 => unfold maxLen; omega
              case c4 => omega
              case c5 => exact hbs
              intro v' w2 hown' hgrow _
              have hb3 : Below w1.heap.size w1 w2 := hB.grown hgrow hbs (fun k hk => by simp [Value.ownBlock] at hk)
              clear hgrow hrow hB hcx hcy
              go_wp2
              go_roundw
              case rel => exact ⟨k + 1, by omega, by go_num, by rw [HT.out, HK.out, HD.out.1]; simpa using hown', hb3⟩
              case measure => simp [intOf]; omega
        · have HK : Hid (kept r (pre ++ [x]) = kept r pre ++ [x]) := kept_push r pre h1 h2 h3
          have t1 : ¬ x.toList = [] := by rw [Lib.toList_data]; exact fun e => h1 (bl_E.1 e)
          have t1' : x.toList.isEmpty = false := by simpa using t1
          have t2 : (x.toList == [46]) = false := by rw [Lib.toList_data, beq_eq_false_iff_ne]; exact fun e => h2 (bl_dot.1 e)
          have t3 : (x.toList == [46, 46]) = false := by rw [Lib.toList_data, beq_eq_false_iff_ne]; exact fun e => h3 (bl_dd.1 e)
          have t3' : ¬ x.toList = [46, 46] := by simpa using t3
          clear h1 h2 h3
          obtain ⟨m, hm⟩ : ∃ m, m = (kept r pre).length := ⟨_, rfl⟩
          have HL : Hid (m = (kept r pre).length) := hm
          rw [← hm] at hrow hkn
          clear hm
          obtain ⟨a, cap, rfl⟩ := owns_slice hrow
          go_wp2_with (at_builtin; refine wpList_append_own _ rfl _ _ 47 rfl w1.heap.size 9 i0 (.string ⟨#[]⟩) 1 16 Tryz.underlying47 hi hz0 hz1 hz2 rfl (by decide) _ _ _ rfl (hrow.alloc _) ⟨wr.heap.size, 0, none⟩ 1 1 [.string x] rfl rfl ?c1 ?c2 ?c3 ?c4 ?c5 ?_)
          case c1 => exact cell_one_new _ _ _
          case c2 => intro u hu; simp at hu; subst hu; rfl
          case c3 => unfold maxLen; omega
          case c4 => omega
          case c5 => simp; omega
          intro v' w2 hown' hgrow _
          have hb3 : Below w1.heap.size w1 w2 := (hB.alloc hbs _).grown hgrow (by simp; omega) (fun k hk => (hrow.lt k hk).1)
          clear hgrow hrow hB hcx
          go_wp2
          go_roundw
          case rel => exact ⟨k + 1, by omega, by go_num, by rw [HT.out, HK.out, List.length_append, ← HL.out]; simpa using hown', hb3⟩
          case measure => simp [intOf]; omega
    · obtain rfl : k = n := by omega
      have HO : Hid (wr.ownsRow w.heap.size 9 1 u3 (parts p).length ((parts p).map Value.string)) := by
        have h := hrow
        rw [HC.out.1, List.take_length, HC.out.2.1, HP.out] at h
        exact owns_base h hbs0
      have hb3 := hb0.trans (hB.mono hbs0)
      clear hrow hB hb0
      go_wp2
      go_ret
      exact ⟨_, rfl, HO.out, hb3⟩
end Go.Proofs.YtoibdokedhbjpaaGreat
