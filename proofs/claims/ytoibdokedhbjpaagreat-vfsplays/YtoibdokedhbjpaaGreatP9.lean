/-
  What the document's own sorted answers.
-/
import Derived.Test.YtoibdokedhbjpaaGreatP8
import Derived.Deep.RegionHeld3
namespace Go.Proofs.YtoibdokedhbjpaaGreat
open Go.RowKit Go.Shelf Go.Maps

theorem told_cells {base : Nat} {w : World} {u : Value} {l : List ByteArray} (h : Told base w u l) (hne : l ≠ []) : ∃ g cap, u = .slice (some ⟨g, 0, none⟩) l.length cap ∧ l.length ≤ cap ∧ g < w.heap.size ∧ ∀ j (_ : j < l.length), w.cell? ⟨g, j, none⟩ = some (.string l[j]) := by
  rcases row_src h with ⟨_, h0, _⟩ | ⟨g, cap, h1, h2, h3, _, h5⟩
  · exact absurd (List.length_eq_zero_iff.1 h0) hne
  · refine ⟨g, cap, h1, h3, h2, fun j hj => ?_⟩
    have := h5 j (.string l[j]) (by simp [hj])
    rw [add_none, Nat.zero_add] at this; exact this
theorem str_one (l : List ByteArray) : ∀ u ∈ l.map Value.string, u.oneCell' = true := fun u hu => by
  obtain ⟨x, _, rfl⟩ := List.mem_map.1 hu; rfl
theorem infoS9 : (Tryz.prog.info? 9).map (fun i => (i.zero, i.size, i.bytes)) = some (some (.string ⟨#[]⟩), 1, 16) := by kernel_rfl

theorem step_append_none {P : Program} (w : World) {ops : Array Oper} {o : Oper} {a : Go.Act} {K : Go.Act → World → Prop} {Q : Exit → Go.Act → World → Prop} {E : Prop} (hgd : o.guard = none) (s x : Operand) (t : TypeId)
    (ho : o.op = .call { callee := .builtin .append, args := #[s, x], argTypes := #[t, t] })
    (base : Nat) (e : TypeId) (i : TypeInfo) (size : Nat) (ht : P.underlying t = some (.slice e)) (hi : P.info? e = some i)
    (v : Value) (n : Nat) (xs : List Value) (hs : a.eval s = v) (hown : w.ownsRow base e size v n xs) (hx : a.eval x = .slice none 0 0)
    (h : K (a.put o.dst v) w) :
    if Region.wanted o (yielded ops a.tmps) = true then Oper.wp P o a w K Q else E := by
  have hw : Region.wanted o (yielded ops a.tmps) = true := by simp [Region.wanted, hgd]
  rw [if_pos hw]
  have hrun := run_append_owned_none (P := P) (w := w) base t o.type e i size ht hi v n xs hown
  unfold Oper.wp
  simp [execOp, ho, resolve, invoke, builtin, hs, hx, hrun, Result.andThen]
  exact h
set_option maxRecDepth 20000 in
set_option maxHeartbeats 1000000 in
theorem rsorted_any (base : Nat) (v : Value) (l : List ByteArray) (w : World) (h : Told base w v l) (hl : l.length ≤ 1000) :
    Calls Tryz.prog 48 #[v] w fun e w' => ∃ u, e = .returned u ∧ Told w.heap.size w' u (St.sorted l) ∧ Below w.heap.size w w' := by
  obtain ⟨i0, hi, hz0, hz1, hz2⟩ := info_parts infoS9
  obtain ⟨n, hn⟩ : ∃ n, n = l.length := ⟨_, rfl⟩
  have hT := h
  obtain ⟨a, cap, hv⟩ := owns_slice h
  subst hv
  have HT : Hid (Told base w (.slice a n cap) l ∧ n = l.length) := ⟨by rw [hn]; exact hT, hn⟩
  rw [← hn] at hl ⊢
  clear hT h hn
  go_enter Tryz.func48, Tryz.ntmps48
  go_wp2
  go_loopw [3, 4] (fun u vi wr => ∃ (j : Nat) (o : List ByteArray), j ≤ n ∧ vi = .int .i64 j ∧ Told w.heap.size wr u o ∧ o.length = j ∧ Hid (o.Pairwise leP ∧ o.Perm (l.take j)) ∧ Below w.heap.size w wr)
    (fun _ vi _ => n - (intOf vi).toNat)
  case atStart => exact ⟨0, [], Nat.zero_le _, rfl, World.ownsRow_nil _ _ _ _, rfl, ⟨List.Pairwise.nil, by simp⟩, Below.refl _ _⟩
  case round =>
    obtain ⟨j, o, hj, rfl, hO, hol, HO, hb⟩ := hrel
    have hbs := hb.size
    by_cases hlt : j < n
    · have hil : (j : Int) < (n : Int) := by omega
      have hjl : j < l.length := by rw [← HT.out.2]; exact hlt
      have hlne : l ≠ [] := fun e => by rw [e] at hjl; simp at hjl
      obtain ⟨gl, cl, hvl, hcl, hgl, hcells⟩ := told_cells (HT.out.2 ▸ HT.out.1) hlne
      simp only [Value.slice.injEq] at hvl
      obtain ⟨rfl, -, -⟩ := hvl
      obtain ⟨q, hq⟩ : ∃ q, q = l[j] := ⟨_, rfl⟩
      rename World => wo
      have HQ : Hid (∀ W, Below wo.heap.size wo W → W.cell? ⟨gl, j, none⟩ = some (.string q)) := fun W hB => by rw [(hb.trans (hB.mono hbs)).cell (p := ⟨gl, j, none⟩) hgl, hq]; exact hcells j hjl
      have HQ2 : Hid (q = l[j]) := hq
      clear hcells hq
      have HE : Hid (∀ k (_ : k ≤ o.length) W u m2, Below wo.heap.size wo W → (∀ t (_ : t < o.length), k ≤ t → gtB o[t] q = true) → (∀ (h0 : 0 < k), gtB (o[k - 1]'(by omega)) q = false) → m2 = o.length + 1 → W.ownsRow wo.heap.size 9 1 u m2 ((insK o k q).map Value.string) →
          ∃ (j' : Nat) (o' : List ByteArray), j' ≤ n ∧ Value.int .i64 ((j : Int) + 1) = .int .i64 j' ∧ Told w.heap.size W u o' ∧ o'.length = j' ∧ Hid (o'.Pairwise leP ∧ o'.Perm (l.take j')) ∧ Below w.heap.size w W) := by
        intro k hk W u m2 hB h1 h2 hm2 hrow
        have hlen : (insK o k q).length = j + 1 := by rw [(insK_perm o k q).length_eq, List.length_append, hol]; rfl
        refine ⟨j + 1, insK o k q, by omega, by go_num, ?_, hlen, ⟨insK_sorted HO.out.1 hk h1 h2, ?_⟩, hb.trans (hB.mono hbs)⟩
        · show W.ownsRow w.heap.size 9 1 u (insK o k q).length _
          rw [hlen, show j + 1 = m2 by omega]
          exact owns_base hrow hbs
        · refine (insK_perm o k q).trans ?_
          rw [List.take_add_one, List.getElem?_eq_getElem hjl]
          refine HO.out.2.append ?_
          rw [HQ2.out]; exact List.Perm.refl _
      rcases row_src hO with ⟨rfl, hl0, _⟩ | ⟨g, capu, rfl, hg, hcap, hxl, hcells⟩
      · have hj0 : j = 0 := by omega
        subst hj0
        have ho : o = [] := List.length_eq_zero_iff.1 hl0
        subst ho
        clear hO hol hl0
        go_wp2
        go_loopw [5] (fun vk wq => ∃ nd : Nat, vk = .int .i64 0 ∧ wq = wo.drewN nd) (fun _ _ => 0)
        case atStart => exact ⟨0, rfl, rfl⟩
        case round =>
          obtain ⟨nd, rfl, rfl⟩ := hrel
          go_wp2
          go_quiet (fail)
          go_wp2
          have hB0 : Below wo.heap.size wo ((wo.drewN nd).drewN nq) := ⟨rfl, rfl, rfl, Nat.le_refl _, fun _ _ => rfl⟩
          generalize (wo.drewN nd).drewN nq = W0 at hB0 ⊢
          have HF : Hid (∀ W u, Below wo.heap.size wo W → W.ownsRow wo.heap.size 9 1 u (0 + 1) ([] ++ [.string q]) → _) := fun W u hB hr =>
            HE.out 0 (Nat.zero_le _) W u (0 + 1) hB (fun t ht => absurd ht (by simp)) (fun h0 => absurd h0 (by omega)) rfl hr
          go_region_held3 (fun W => Below wo.heap.size wo W ∧ W.cell? ⟨gl, 0, none⟩ = some (.string q))
            ((refine (fun hBk => ⟨hBk, HQ.out _ hBk⟩) ?_; first | exact hB0 | exact hB0.drew | assumption | exact hB0.alloc hB0.size _ | exact hB0.drew.alloc (by simpa using hB0.size) _))
            (first
              | (refine step_append_none _ (by rfl) (.const (.slice none 0 0)) (.tmp 32) 47 (by rfl) wo.heap.size 9 i0 1 Tryz.underlying47 hi (.slice none 0 0) 0 [] (by rfl) (World.ownsRow_nil _ _ _ _) (by rfl) ?_)
              | (refine step_append_own _ (by rfl) (.tmp 33) (.tmp 38) 47 (by rfl) wo.heap.size 9 i0 (.string ⟨#[]⟩) 1 16 Tryz.underlying47 hi hz0 hz1 hz2 rfl (by decide) (.slice none 0 0) 0 [] (by rfl) (World.ownsRow_nil _ _ _ _) ⟨W0.heap.size, 0, none⟩ 1 1 [.string q] (by rfl) rfl (by intro t u ht; match t, ht with | 0, ht => simp at ht; subst ht; simp [Addr.add]) (by intro u hu; simp only [List.mem_cons, List.not_mem_nil, or_false] at hu; subst hu; rfl) (by unfold maxLen; omega) (by omega) (by have := hB0.size; first | exact this | (simp; done) | (simp; omega)) ?_; intro v2 w2 hown2 hgr2; have hb2 : Below wo.heap.size wo w2 := Below.grown (by first | exact hB0 | exact hB0.drew | exact hB0.alloc hB0.size _ | exact hB0.drew.alloc (by simpa using hB0.size) _ | exact (hB0.alloc hB0.size _).drew) hgr2 (by have := hB0.size; first | exact this | (simp; done) | (simp; omega)) (fun k hk => by cases hk); obtain ⟨av, cv, hv2⟩ := owns_slice hown2; subst hv2)
              | (refine step_append_none _ (by rfl) (.tmp 39) (.tmp 42) 47 (by rfl) wo.heap.size 9 i0 1 Tryz.underlying47 hi _ _ _ (by rfl) hown2 (by rfl) ?_))
          all_goals
            (go_wp2
             go_roundw
             case rel => exact HF.out _ _ (by assumption) (by first | assumption | (have h3 := hown2; simp at h3 ⊢; exact h3))
             case measure => simp [intOf]; omega)
      · rw [hol] at hcap hxl
        have HM : Hid (j = o.length) := hol.symm
        have hO1 : Hid (∀ t (_ : t < o.length), wo.cell? ⟨g, t, none⟩ = some (.string o[t])) := fun t ht => by
          have := hcells t (.string o[t]) (by simp [ht])
          rw [add_none, Nat.zero_add] at this; exact this
        rw [hol]
        clear hO hol hcells hxl
        go_wp2
        go_loopw [5] (fun vk wq => ∃ k nd : Nat, k ≤ j ∧ vk = .int .i64 k ∧ wq = wo.drewN nd ∧ Hid (∀ t (_ : t < o.length), k ≤ t → gtB o[t] q = true)) (fun vk _ => (intOf vk).toNat)
        case atStart => exact ⟨j, 0, Nat.le_refl _, rfl, rfl, fun t ht h2 => by have := HM.out; omega⟩
        case round =>
          obtain ⟨k, nd, hk, rfl, rfl, HG⟩ := hrel
          have y2 := HQ.out wo (Below.refl _ _)
          by_cases hgo : ∃ h : k - 1 < o.length, 0 < k ∧ gtB o[k - 1] q = true
          · obtain ⟨hkl, hk0, hgt⟩ := hgo
            have hki : (0 : Int) < (k : Int) := by omega
            have y1 := hO1.out (k - 1) hkl
            obtain ⟨p, hp⟩ : ∃ p, p = o[k - 1] := ⟨_, rfl⟩
            rw [← hp] at y1 hgt
            have b1 : (0 : Int) ≤ (k : Int) - 1 := by omega
            have b2 : (k : Int) - 1 < (j : Int) := by omega
            have b3 : ((k : Int) - 1).toNat = k - 1 := by omega
            have HG1 : Hid (∀ t (_ : t < o.length), k - 1 ≤ t → gtB o[t] q = true) := fun t ht h2 => by
              by_cases htk : t = k - 1
              · subst htk; rw [← hp]; exact hgt
              · exact HG.out t ht (by omega)
            have e1 : (!Op.bytesLess p.toList q.toList && !p.toList == q.toList) = true := hgt
            have c1 : Op.bytesLess p.toList q.toList = false := by simp at e1; exact e1.1
            have c2 : (p.toList == q.toList) = false := by simp at e1 ⊢; exact e1.2
            clear hp hgt e1
            go_wp2
            go_quiet (fail)
            go_wp2
            go_roundw
            case rel => exact ⟨k - 1, _, by omega, by go_num, rfl, HG1⟩
            case measure => simp [intOf]; omega
          · have HL : Hid (∀ (h : k - 1 < o.length) (_ : 0 < k), gtB o[k - 1] q = false) := fun h h0 => by
              cases hc : gtB o[k - 1] q with
              | true => exact absurd ⟨h, h0, hc⟩ hgo
              | false => rfl
            clear hgo
            rcases Nat.eq_zero_or_pos k with hk0 | hk0
            · subst hk0
              go_wp2
              go_quiet (fail)
              go_wp2
              have hB0 : Below wo.heap.size wo ((wo.drewN nd).drewN nq) := ⟨rfl, rfl, rfl, Nat.le_refl _, fun _ _ => rfl⟩
              generalize (wo.drewN nd).drewN nq = W0 at hB0 ⊢
              obtain ⟨X1, hX1⟩ : ∃ X1, X1 = (o.take 0).map Value.string := ⟨_, rfl⟩
              obtain ⟨X2, hX2⟩ : ∃ X2, X2 = (o.drop 0).map Value.string := ⟨_, rfl⟩
              have A1 : X1.length = 0 * 1 := by rw [hX1, List.length_map, List.length_take, ← HM.out]; omega
              have A2 : Hid (∀ W, Below wo.heap.size wo W → ∀ t u, X1[t]? = some u → W.cell? ((⟨g, 0, none⟩ : Addr).add t) = some u) := fun W hB t u hu => by
                rw [hX1, List.getElem?_map, List.getElem?_take] at hu
                split at hu
                · obtain ⟨x, hx, rfl⟩ := Option.map_eq_some_iff.1 hu
                  obtain ⟨ht, rfl⟩ := List.getElem?_eq_some_iff.1 hx
                  rw [add_none, Nat.zero_add, hB.cell (p := ⟨g, t, none⟩) hg]; exact hO1.out t ht
                · cases hu
              have A3 : X2.length = (j) * 1 := by rw [hX2, List.length_map, List.length_drop, ← HM.out]; omega
              have A4 : Hid (∀ W, Below wo.heap.size wo W → ∀ t u, X2[t]? = some u → W.cell? ((⟨g, 0, none⟩ : Addr).add t) = some u) := fun W hB t u hu => by
                rw [hX2, List.getElem?_map, List.getElem?_drop] at hu
                obtain ⟨x, hx, rfl⟩ := Option.map_eq_some_iff.1 hu
                obtain ⟨ht, rfl⟩ := List.getElem?_eq_some_iff.1 hx
                rw [add_none, hB.cell (p := ⟨g, 0 + t, none⟩) hg]; exact hO1.out (0 + t) ht
              have O1 : ∀ u ∈ X1, u.oneCell' = true := by rw [hX1]; exact str_one _
              have O2 : ∀ u ∈ X2, u.oneCell' = true := by rw [hX2]; exact str_one _
              have HF : Hid (∀ W u, Below wo.heap.size wo W → W.ownsRow wo.heap.size 9 1 u (0 + 0 + 1 + (j)) ([] ++ X1 ++ [.string q] ++ X2) → _) := fun W u hB hr =>
                HE.out 0 (Nat.zero_le _) W u (0 + 0 + 1 + (j)) hB HG.out (fun h0 => absurd h0 (by omega)) (by rw [← HM.out]; omega) (by
                  have e : (insK o 0 q).map Value.string = [] ++ X1 ++ [.string q] ++ X2 := by unfold insK; rw [hX1, hX2, List.map_append]; simp
                  rw [e]; exact hr)
              clear hX1 hX2
              have a4 : (j : Int) ≤ (capu : Int) := by omega
              go_region_held3 (fun W => Below wo.heap.size wo W ∧ W.cell? ⟨gl, j, none⟩ = some (.string q))
                ((refine (fun hBk => ⟨hBk, HQ.out _ hBk⟩) ?_; first | exact hB0 | exact hB0.drew | assumption | exact hB0.alloc hB0.size _ | exact hB0.drew.alloc (by simpa using hB0.size) _ | exact hb1.alloc hb1.size _))
                (first
                  | (refine step_append_own (W0.alloc (.cells #[.string q] 9)).drew (by rfl) (.const (.slice none 0 0)) (.tmp 32) 47 (by rfl) wo.heap.size 9 i0 (.string ⟨#[]⟩) 1 16 Tryz.underlying47 hi hz0 hz1 hz2 rfl (by decide) (.slice none 0 0) 0 [] (by rfl) (World.ownsRow_nil _ _ _ _) ⟨g, 0, none⟩ 0 capu X1 (by rfl) A1 (A2.out _ (by first | exact hB0 | exact hB0.drew | exact hB0.alloc hB0.size _ | exact hB0.drew.alloc (by simpa using hB0.size) _ | exact (hB0.alloc hB0.size _).drew)) O1 (by unfold maxLen; omega) (by omega) (by have := hB0.size; first | exact this | (simp; done) | (simp; omega)) ?_; intro v1 w1 hown1 hgr1; have hb1 : Below wo.heap.size wo w1 := Below.grown (by first | exact hB0 | exact hB0.drew | exact hB0.alloc hB0.size _ | exact hB0.drew.alloc (by simpa using hB0.size) _ | exact (hB0.alloc hB0.size _).drew) hgr1 (by have := hB0.size; first | exact this | (simp; done) | (simp; omega)) (fun k hk => by cases hk); have hq1 : w1.cell? ⟨W0.heap.size, 0, none⟩ = some (.string q) := World.grownBy.cell (w := (W0.alloc (.cells #[.string q] 9)).drew) hgr1 (by simp) (by intro h; cases h))
                  | (refine step_append_own W0.drew (by rfl) (.const (.slice none 0 0)) (.tmp 32) 47 (by rfl) wo.heap.size 9 i0 (.string ⟨#[]⟩) 1 16 Tryz.underlying47 hi hz0 hz1 hz2 rfl (by decide) (.slice none 0 0) 0 [] (by rfl) (World.ownsRow_nil _ _ _ _) ⟨g, 0, none⟩ 0 capu X1 (by rfl) A1 (A2.out _ (by first | exact hB0 | exact hB0.drew | exact hB0.alloc hB0.size _ | exact hB0.drew.alloc (by simpa using hB0.size) _ | exact (hB0.alloc hB0.size _).drew)) O1 (by unfold maxLen; omega) (by omega) (by have := hB0.size; first | exact this | (simp; done) | (simp; omega)) ?_; intro v1 w1 hown1 hgr1; have hb1 : Below wo.heap.size wo w1 := Below.grown (by first | exact hB0 | exact hB0.drew | exact hB0.alloc hB0.size _ | exact hB0.drew.alloc (by simpa using hB0.size) _ | exact (hB0.alloc hB0.size _).drew) hgr1 (by have := hB0.size; first | exact this | (simp; done) | (simp; omega)) (fun k hk => by cases hk))
                  | (refine step_append_own _ (by rfl) (.tmp 33) (.tmp 38) 47 (by rfl) wo.heap.size 9 i0 (.string ⟨#[]⟩) 1 16 Tryz.underlying47 hi hz0 hz1 hz2 rfl (by decide) v1 (0 + 0) ([] ++ X1) (by rfl) hown1 ⟨W0.heap.size, 0, none⟩ 1 1 [.string q] (by rfl) rfl (by intro t u ht; match t, ht with | 0, ht => simp at ht; subst ht; simpa [Addr.add] using hq1) (by intro u hu; simp only [List.mem_cons, List.not_mem_nil, or_false] at hu; subst hu; rfl) (by unfold maxLen; omega) (by omega) hb1.size ?_; intro v2 w2 hown2 hgr2; have hb2 : Below wo.heap.size wo w2 := hb1.grown hgr2 hb1.size (fun k hk => (hown1.lt k hk).1))
                  | (refine step_append_own _ (by rfl) (.tmp 33) (.tmp 38) 47 (by rfl) wo.heap.size 9 i0 (.string ⟨#[]⟩) 1 16 Tryz.underlying47 hi hz0 hz1 hz2 rfl (by decide) v1 (0 + 0) ([] ++ X1) (by rfl) (hown1.alloc _) ⟨w1.heap.size, 0, none⟩ 1 1 [.string q] (by rfl) rfl (by intro t u ht; match t, ht with | 0, ht => simp at ht; subst ht; simp [Addr.add]) (by intro u hu; simp only [List.mem_cons, List.not_mem_nil, or_false] at hu; subst hu; rfl) (by unfold maxLen; omega) (by omega) (by have := hb1.size; simp; omega) ?_; intro v2 w2 hown2 hgr2; have hb2 : Below wo.heap.size wo w2 := (hb1.alloc hb1.size _).grown hgr2 (by have := hb1.size; simp; omega) (fun k hk => (hown1.lt k hk).1))
                  | (refine step_append_own _ (by rfl) (.tmp 39) (.tmp 42) 47 (by rfl) wo.heap.size 9 i0 (.string ⟨#[]⟩) 1 16 Tryz.underlying47 hi hz0 hz1 hz2 rfl (by decide) v2 (0 + 0 + 1) ([] ++ X1 ++ [.string q]) (by rfl) hown2 ⟨g, 0, none⟩ j capu X2 (by rfl) A3 (A4.out _ hb2) O2 (by unfold maxLen; omega) (by omega) hb2.size ?_; intro v3 w3 hown3 hgr3; obtain ⟨av, cv, hv3⟩ := owns_slice hown3; subst hv3; have hb3 : Below wo.heap.size wo w3 := hb2.grown hgr3 hb2.size (fun k hk => (hown2.lt k hk).1)))
              all_goals
                (go_wp2
                 go_roundw
                 case rel => exact HF.out _ _ (by assumption) (by first | assumption | (have h3 := hown3; simp at h3 ⊢; exact h3))
                 case measure => simp [intOf]; omega)
            · have hki : (0 : Int) < (k : Int) := by omega
              have hkl : k - 1 < o.length := by rw [← HM.out]; omega
              have y1 := hO1.out (k - 1) hkl
              have hgt := HL.out hkl hk0
              obtain ⟨p, hp⟩ : ∃ p, p = o[k - 1] := ⟨_, rfl⟩
              rw [← hp] at y1 hgt
              have b1 : (0 : Int) ≤ (k : Int) - 1 := by omega
              have b2 : (k : Int) - 1 < (j : Int) := by omega
              have b3 : ((k : Int) - 1).toNat = k - 1 := by omega
              have e1 : (!Op.bytesLess p.toList q.toList && !p.toList == q.toList) = false := hgt
              clear hp hgt
              go_wp2
              go_quiet (fail)
              go_wp2
              have hB0 : Below wo.heap.size wo ((wo.drewN nd).drewN nq) := ⟨rfl, rfl, rfl, Nat.le_refl _, fun _ _ => rfl⟩
              generalize (wo.drewN nd).drewN nq = W0 at hB0 ⊢
              obtain ⟨X1, hX1⟩ : ∃ X1, X1 = (o.take k).map Value.string := ⟨_, rfl⟩
              obtain ⟨X2, hX2⟩ : ∃ X2, X2 = (o.drop k).map Value.string := ⟨_, rfl⟩
              have A1 : X1.length = k * 1 := by rw [hX1, List.length_map, List.length_take, ← HM.out]; omega
              have A2 : Hid (∀ W, Below wo.heap.size wo W → ∀ t u, X1[t]? = some u → W.cell? ((⟨g, 0, none⟩ : Addr).add t) = some u) := fun W hB t u hu => by
                rw [hX1, List.getElem?_map, List.getElem?_take] at hu
                split at hu
                · obtain ⟨x, hx, rfl⟩ := Option.map_eq_some_iff.1 hu
                  obtain ⟨ht, rfl⟩ := List.getElem?_eq_some_iff.1 hx
                  rw [add_none, Nat.zero_add, hB.cell (p := ⟨g, t, none⟩) hg]; exact hO1.out t ht
                · cases hu
              have A3 : X2.length = (j - k) * 1 := by rw [hX2, List.length_map, List.length_drop, ← HM.out]; omega
              have A4 : Hid (∀ W, Below wo.heap.size wo W → ∀ t u, X2[t]? = some u → W.cell? ((⟨g, k, none⟩ : Addr).add t) = some u) := fun W hB t u hu => by
                rw [hX2, List.getElem?_map, List.getElem?_drop] at hu
                obtain ⟨x, hx, rfl⟩ := Option.map_eq_some_iff.1 hu
                obtain ⟨ht, rfl⟩ := List.getElem?_eq_some_iff.1 hx
                rw [add_none, hB.cell (p := ⟨g, k + t, none⟩) hg]; exact hO1.out (k + t) ht
              have O1 : ∀ u ∈ X1, u.oneCell' = true := by rw [hX1]; exact str_one _
              have O2 : ∀ u ∈ X2, u.oneCell' = true := by rw [hX2]; exact str_one _
              have HF : Hid (∀ W u, Below wo.heap.size wo W → W.ownsRow wo.heap.size 9 1 u (0 + k + 1 + (j - k)) ([] ++ X1 ++ [.string q] ++ X2) → _) := fun W u hB hr =>
                HE.out k (by rw [← HM.out]; exact hk) W u (0 + k + 1 + (j - k)) hB HG.out (fun h0 => HL.out (by rw [← HM.out]; omega) h0) (by rw [← HM.out]; omega) (by
                  have e : (insK o k q).map Value.string = [] ++ X1 ++ [.string q] ++ X2 := by unfold insK; rw [hX1, hX2, List.map_append]; simp
                  rw [e]; exact hr)
              clear hX1 hX2
              have a1 : (0 : Int) ≤ (k : Int) := by omega
              have a2 : (k : Int) ≤ (capu : Int) := by omega
              have a3 : (k : Int) ≤ (j : Int) := by omega
              have a4 : (j : Int) ≤ (capu : Int) := by omega
              by_cases hce : capu = k
              · have hjk : k = j := by omega
                subst hjk
                subst hce
                have HX0 : Hid (X2 = []) := List.length_eq_zero_iff.1 (by rw [A3]; omega)
                rw [Nat.sub_self] at HF A3
                go_region_held3 (fun W => Below wo.heap.size wo W ∧ W.cell? ⟨gl, capu, none⟩ = some (.string q))
                  ((refine (fun hBk => ⟨hBk, HQ.out _ hBk⟩) ?_; first | exact hB0 | exact hB0.drew | assumption | exact hB0.alloc hB0.size _ | exact hB0.drew.alloc (by simpa using hB0.size) _ | exact hb1.alloc hb1.size _))
                  (first
                    | (refine step_append_own (W0.alloc (.cells #[.string q] 9)).drew (by rfl) (.const (.slice none 0 0)) (.tmp 32) 47 (by rfl) wo.heap.size 9 i0 (.string ⟨#[]⟩) 1 16 Tryz.underlying47 hi hz0 hz1 hz2 rfl (by decide) (.slice none 0 0) 0 [] (by rfl) (World.ownsRow_nil _ _ _ _) ⟨g, 0, none⟩ capu capu X1 (by rfl) A1 (A2.out _ (by first | exact hB0 | exact hB0.drew | exact hB0.alloc hB0.size _ | exact hB0.drew.alloc (by simpa using hB0.size) _ | exact (hB0.alloc hB0.size _).drew)) O1 (by unfold maxLen; omega) (by omega) (by have := hB0.size; first | exact this | (simp; done) | (simp; omega)) ?_; intro v1 w1 hown1 hgr1; have hb1 : Below wo.heap.size wo w1 := Below.grown (by first | exact hB0 | exact hB0.drew | exact hB0.alloc hB0.size _ | exact hB0.drew.alloc (by simpa using hB0.size) _ | exact (hB0.alloc hB0.size _).drew) hgr1 (by have := hB0.size; first | exact this | (simp; done) | (simp; omega)) (fun k hk => by cases hk); have hq1 : w1.cell? ⟨W0.heap.size, 0, none⟩ = some (.string q) := World.grownBy.cell (w := (W0.alloc (.cells #[.string q] 9)).drew) hgr1 (by simp) (by intro h; cases h))
                    | (refine step_append_own W0.drew (by rfl) (.const (.slice none 0 0)) (.tmp 32) 47 (by rfl) wo.heap.size 9 i0 (.string ⟨#[]⟩) 1 16 Tryz.underlying47 hi hz0 hz1 hz2 rfl (by decide) (.slice none 0 0) 0 [] (by rfl) (World.ownsRow_nil _ _ _ _) ⟨g, 0, none⟩ capu capu X1 (by rfl) A1 (A2.out _ (by first | exact hB0 | exact hB0.drew | exact hB0.alloc hB0.size _ | exact hB0.drew.alloc (by simpa using hB0.size) _ | exact (hB0.alloc hB0.size _).drew)) O1 (by unfold maxLen; omega) (by omega) (by have := hB0.size; first | exact this | (simp; done) | (simp; omega)) ?_; intro v1 w1 hown1 hgr1; have hb1 : Below wo.heap.size wo w1 := Below.grown (by first | exact hB0 | exact hB0.drew | exact hB0.alloc hB0.size _ | exact hB0.drew.alloc (by simpa using hB0.size) _ | exact (hB0.alloc hB0.size _).drew) hgr1 (by have := hB0.size; first | exact this | (simp; done) | (simp; omega)) (fun k hk => by cases hk))
                    | (refine step_append_own _ (by rfl) (.tmp 33) (.tmp 38) 47 (by rfl) wo.heap.size 9 i0 (.string ⟨#[]⟩) 1 16 Tryz.underlying47 hi hz0 hz1 hz2 rfl (by decide) v1 (0 + capu) ([] ++ X1) (by rfl) hown1 ⟨W0.heap.size, 0, none⟩ 1 1 [.string q] (by rfl) rfl (by intro t u ht; match t, ht with | 0, ht => simp at ht; subst ht; simpa [Addr.add] using hq1) (by intro u hu; simp only [List.mem_cons, List.not_mem_nil, or_false] at hu; subst hu; rfl) (by unfold maxLen; omega) (by omega) hb1.size ?_; intro v2 w2 hown2 hgr2; have hb2 : Below wo.heap.size wo w2 := hb1.grown hgr2 hb1.size (fun k hk => (hown1.lt k hk).1))
                    | (refine step_append_own _ (by rfl) (.tmp 33) (.tmp 38) 47 (by rfl) wo.heap.size 9 i0 (.string ⟨#[]⟩) 1 16 Tryz.underlying47 hi hz0 hz1 hz2 rfl (by decide) v1 (0 + capu) ([] ++ X1) (by rfl) (hown1.alloc _) ⟨w1.heap.size, 0, none⟩ 1 1 [.string q] (by rfl) rfl (by intro t u ht; match t, ht with | 0, ht => simp at ht; subst ht; simp [Addr.add]) (by intro u hu; simp only [List.mem_cons, List.not_mem_nil, or_false] at hu; subst hu; rfl) (by unfold maxLen; omega) (by omega) (by have := hb1.size; simp; omega) ?_; intro v2 w2 hown2 hgr2; have hb2 : Below wo.heap.size wo w2 := (hb1.alloc hb1.size _).grown hgr2 (by have := hb1.size; simp; omega) (fun k hk => (hown1.lt k hk).1))
                    | (refine step_append_own _ (by rfl) (.tmp 39) (.tmp 42) 47 (by rfl) wo.heap.size 9 i0 (.string ⟨#[]⟩) 1 16 Tryz.underlying47 hi hz0 hz1 hz2 rfl (by decide) v2 (0 + capu + 1) ([] ++ X1 ++ [.string q]) (by rfl) hown2 ⟨g, 0, none⟩ 0 0 X2 (by rfl) A3 (fun t u ht => by rw [HX0.out] at ht; simp at ht) O2 (by unfold maxLen; omega) (by omega) hb2.size ?_; intro v3 w3 hown3 hgr3; obtain ⟨av, cv, hv3⟩ := owns_slice hown3; subst hv3; have hb3 : Below wo.heap.size wo w3 := hb2.grown hgr3 hb2.size (fun k hk => (hown2.lt k hk).1)))
                all_goals
                  (go_wp2
                   go_roundw
                   case rel => exact HF.out _ _ (by assumption) (by first | assumption | (have h3 := hown3; simp at h3 ⊢; exact h3))
                   case measure => simp [intOf]; omega)

              · go_region_held3 (fun W => Below wo.heap.size wo W ∧ W.cell? ⟨gl, j, none⟩ = some (.string q))
                  ((refine (fun hBk => ⟨hBk, HQ.out _ hBk⟩) ?_; first | exact hB0 | exact hB0.drew | assumption | exact hB0.alloc hB0.size _ | exact hB0.drew.alloc (by simpa using hB0.size) _ | exact hb1.alloc hb1.size _))
                  (first
                    | (refine step_append_own (W0.alloc (.cells #[.string q] 9)).drew (by rfl) (.const (.slice none 0 0)) (.tmp 32) 47 (by rfl) wo.heap.size 9 i0 (.string ⟨#[]⟩) 1 16 Tryz.underlying47 hi hz0 hz1 hz2 rfl (by decide) (.slice none 0 0) 0 [] (by rfl) (World.ownsRow_nil _ _ _ _) ⟨g, 0, none⟩ k capu X1 (by rfl) A1 (A2.out _ (by first | exact hB0 | exact hB0.drew | exact hB0.alloc hB0.size _ | exact hB0.drew.alloc (by simpa using hB0.size) _ | exact (hB0.alloc hB0.size _).drew)) O1 (by unfold maxLen; omega) (by omega) (by have := hB0.size; first | exact this | (simp; done) | (simp; omega)) ?_; intro v1 w1 hown1 hgr1; have hb1 : Below wo.heap.size wo w1 := Below.grown (by first | exact hB0 | exact hB0.drew | exact hB0.alloc hB0.size _ | exact hB0.drew.alloc (by simpa using hB0.size) _ | exact (hB0.alloc hB0.size _).drew) hgr1 (by have := hB0.size; first | exact this | (simp; done) | (simp; omega)) (fun k hk => by cases hk); have hq1 : w1.cell? ⟨W0.heap.size, 0, none⟩ = some (.string q) := World.grownBy.cell (w := (W0.alloc (.cells #[.string q] 9)).drew) hgr1 (by simp) (by intro h; cases h))
                    | (refine step_append_own W0.drew (by rfl) (.const (.slice none 0 0)) (.tmp 32) 47 (by rfl) wo.heap.size 9 i0 (.string ⟨#[]⟩) 1 16 Tryz.underlying47 hi hz0 hz1 hz2 rfl (by decide) (.slice none 0 0) 0 [] (by rfl) (World.ownsRow_nil _ _ _ _) ⟨g, 0, none⟩ k capu X1 (by rfl) A1 (A2.out _ (by first | exact hB0 | exact hB0.drew | exact hB0.alloc hB0.size _ | exact hB0.drew.alloc (by simpa using hB0.size) _ | exact (hB0.alloc hB0.size _).drew)) O1 (by unfold maxLen; omega) (by omega) (by have := hB0.size; first | exact this | (simp; done) | (simp; omega)) ?_; intro v1 w1 hown1 hgr1; have hb1 : Below wo.heap.size wo w1 := Below.grown (by first | exact hB0 | exact hB0.drew | exact hB0.alloc hB0.size _ | exact hB0.drew.alloc (by simpa using hB0.size) _ | exact (hB0.alloc hB0.size _).drew) hgr1 (by have := hB0.size; first | exact this | (simp; done) | (simp; omega)) (fun k hk => by cases hk))
                    | (refine step_append_own _ (by rfl) (.tmp 33) (.tmp 38) 47 (by rfl) wo.heap.size 9 i0 (.string ⟨#[]⟩) 1 16 Tryz.underlying47 hi hz0 hz1 hz2 rfl (by decide) v1 (0 + k) ([] ++ X1) (by rfl) hown1 ⟨W0.heap.size, 0, none⟩ 1 1 [.string q] (by rfl) rfl (by intro t u ht; match t, ht with | 0, ht => simp at ht; subst ht; simpa [Addr.add] using hq1) (by intro u hu; simp only [List.mem_cons, List.not_mem_nil, or_false] at hu; subst hu; rfl) (by unfold maxLen; omega) (by omega) hb1.size ?_; intro v2 w2 hown2 hgr2; have hb2 : Below wo.heap.size wo w2 := hb1.grown hgr2 hb1.size (fun k hk => (hown1.lt k hk).1))
                    | (refine step_append_own _ (by rfl) (.tmp 33) (.tmp 38) 47 (by rfl) wo.heap.size 9 i0 (.string ⟨#[]⟩) 1 16 Tryz.underlying47 hi hz0 hz1 hz2 rfl (by decide) v1 (0 + k) ([] ++ X1) (by rfl) (hown1.alloc _) ⟨w1.heap.size, 0, none⟩ 1 1 [.string q] (by rfl) rfl (by intro t u ht; match t, ht with | 0, ht => simp at ht; subst ht; simp [Addr.add]) (by intro u hu; simp only [List.mem_cons, List.not_mem_nil, or_false] at hu; subst hu; rfl) (by unfold maxLen; omega) (by omega) (by have := hb1.size; simp; omega) ?_; intro v2 w2 hown2 hgr2; have hb2 : Below wo.heap.size wo w2 := (hb1.alloc hb1.size _).grown hgr2 (by have := hb1.size; simp; omega) (fun k hk => (hown1.lt k hk).1))
                    | (refine step_append_own _ (by rfl) (.tmp 39) (.tmp 42) 47 (by rfl) wo.heap.size 9 i0 (.string ⟨#[]⟩) 1 16 Tryz.underlying47 hi hz0 hz1 hz2 rfl (by decide) v2 (0 + k + 1) ([] ++ X1 ++ [.string q]) (by rfl) hown2 ⟨g, k, none⟩ (j - k) (capu - k) X2 (by rfl) A3 (A4.out _ hb2) O2 (by unfold maxLen; omega) (by omega) hb2.size ?_; intro v3 w3 hown3 hgr3; obtain ⟨av, cv, hv3⟩ := owns_slice hown3; subst hv3; have hb3 : Below wo.heap.size wo w3 := hb2.grown hgr3 hb2.size (fun k hk => (hown2.lt k hk).1)))
                all_goals
                  (go_wp2
                   go_roundw
                   case rel => exact HF.out _ _ (by assumption) (by first | assumption | (have h3 := hown3; simp at h3 ⊢; exact h3))
                   case measure => simp [intOf]; omega)
    · have hjn : j = n := by omega
      subst hjn
      obtain ⟨au, capu, hu⟩ := owns_slice hO
      subst hu
      go_wp2
      go_ret
      refine ⟨_, rfl, ?_, hb⟩
      rw [← sorted_is HO.out.1 (by have := HO.out.2; rw [show j = l.length from HT.out.2, List.take_length] at this; exact this)]
      exact hO
end Go.Proofs.YtoibdokedhbjpaaGreat
