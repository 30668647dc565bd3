/-
  What the document's own Put leaves and answers.
-/
import Derived.Test.YtkelmhpoplbacaaGreatDoorU6
namespace Go.Proofs.YtkelmhpoplbacaaGreatDoor.V
open Go.RowKit Go.Shelf Go.Maps

theorem row_src {w : World} {base : Nat} {e : TypeId} {size n : Nat} {v : Value} {xs : List Value} (h : w.ownsRow base e size v n xs) :
    (v = .slice none 0 0 ∧ n = 0 ∧ xs = []) ∨ ∃ g cap, v = .slice (some ⟨g, 0, none⟩) n cap ∧ g < w.heap.size ∧ n ≤ cap ∧ xs.length = n * size ∧ ∀ j u, xs[j]? = some u → w.cell? ((⟨g, 0, none⟩ : Addr).add j) = some u := by
  have h0 := h
  obtain ⟨hxl, ⟨hv, hn⟩ | ⟨g, cap, cur, hv, hg, hcur, hcap, hcm, hcs, hct⟩⟩ := h
  · left; refine ⟨hv, hn, ?_⟩
    rw [hn, Nat.zero_mul] at hxl; exact List.length_eq_zero_iff.1 hxl
  · right
    refine ⟨g, cap, hv, (Array.getElem?_eq_some_iff.1 hcur).1, hcap, hxl, ?_⟩
    subst hv
    exact h0.cells (g := g) rfl
theorem infoVr : (Tryz.prog.info? 94).map (fun i => (i.zero, i.size, i.bytes)) = some (some (.agg #[.int .i64 0, .string ⟨#[]⟩, .string ⟨#[]⟩]), 3, 40) := by kernel_rfl
/-- A cell of a row is written. -/
theorem owns_put {base n : Nat} {e : TypeId} {size : Nat} {w : World} {g cap : Nat} {xs : List Value} (h : w.ownsRow base e size (.slice (some ⟨g, 0, none⟩) n cap) n xs) {k : Nat} (u : Value) :
    (w.setCell ⟨g, k, none⟩ u).ownsRow base e size (.slice (some ⟨g, 0, none⟩) n cap) n (xs.set k u) := by
  obtain ⟨hxl, ⟨hv, _⟩ | ⟨g', cap', cur, hv, hg, hcur, hcap, hcm, hcs, hct⟩⟩ := h
  · cases hv
  · simp only [Value.slice.injEq, Option.some.injEq, Addr.mk.injEq, and_true, true_and] at hv
    obtain ⟨rfl, rfl⟩ := hv
    refine ⟨by rw [List.length_set]; exact hxl, .inr ⟨g, cap, cur.setIfInBounds k u, rfl, hg, heap_set hcur _, hcap, hcm, by rw [Array.size_setIfInBounds]; exact hcs, ?_⟩⟩
    rw [Array.toList_setIfInBounds, ← hct, List.take_set]
theorem frozen_row {base n : Nat} {e : TypeId} {size : Nat} {w : World} {g cap : Nat} {xs : List Value} (h : w.ownsRow base e size (.slice (some ⟨g, 0, none⟩) n cap) n xs) (k : Nat) : w.frozen? ⟨g, k, none⟩ = false := by
  obtain ⟨hxl, ⟨hv, _⟩ | ⟨g', cap', cur, hv, hg, hcur, hcap, hcm, hcs, hct⟩⟩ := h
  · cases hv
  · simp only [Value.slice.injEq, Option.some.injEq, Addr.mk.injEq, and_true, true_and] at hv
    obtain ⟨rfl, rfl⟩ := hv
    simp [World.frozen?, hcur]

section
variable {base br : Nat} {vL : Value} {L : Vl} {s : VS}

/-- What Put does to the list. -/
theorem rel_add {n : Int} {q v : ByteArray} (h : Rel L s) (hk : VS.ok n q = true) (hl : (s n).look q = none) (h1 : v.size ≤ 65536) (h2 : (s n).length < 1024) : s.put n q v = (s.upd n ((s n).set q v), 0) ∧ Rel (L ++ [⟨n, q, v⟩]) (s.upd n ((s n).set q v)) := by
  have hp : s.put n q v = (s.upd n ((s n).set q v), 0) := by
    unfold VS.put VS.give; rw [hk, if_pos rfl, if_neg]
    rintro (e | e)
    · omega
    · omega
  have hok := VS.put_ok h.ok n q v
  rw [hp] at hok
  refine ⟨hp, h.upd hok (fun m => ?_) fun x hx => ?_⟩
  · rw [proj_append, proj_cons, proj_nil]
    by_cases e : m = n
    · subst e; rw [if_pos rfl, if_pos rfl, ← h.proj]
      have : ∀ {L : Sc} {q v : ByteArray}, L.look q = none → L.set q v = L ++ [(q, v)] := fun {L q v} hl => by
        induction L with
        | nil => rfl
        | cons y L ih =>
          rw [Sc.look_cons] at hl
          unfold Sc.set
          by_cases e : y.1 = q
          · rw [if_pos e] at hl; cases hl
          · rw [if_neg e] at hl ⊢; rw [ih hl]; rfl
      rw [this hl]
    · rw [if_neg (Ne.symm e), if_neg e, List.append_nil]
  · rcases List.mem_append.1 hx with hx | hx
    · exact h.sc x hx
    · simp at hx; subst hx
      unfold VS.ok at hk; rw [Bool.and_eq_true] at hk; exact hk.1
theorem rel_set {n : Int} {q v : ByteArray} (h : Rel L s) (hk : VS.ok n q = true) {i : Nat} {x : Vr} (hx : L[i]? = some x) (e1 : x.n = n) (e2 : x.q = q) (hl : (s n).look q = some x.v) (hb : ∀ j, j < i → ∀ y, L[j]? = some y → ¬ (y.n = n ∧ y.q = q)) (h1 : v.size ≤ 65536) :
    s.put n q v = (s.upd n ((s n).set q v), 0) ∧ Rel (L.set i ⟨n, q, v⟩) (s.upd n ((s n).set q v)) := by
  have hp : s.put n q v = (s.upd n ((s n).set q v), 0) := by
    unfold VS.put VS.give; rw [hk, if_pos rfl, if_neg]
    rintro (e | e)
    · omega
    · rw [hl] at e; cases e.1
  have hok := VS.put_ok h.ok n q v
  rw [hp] at hok
  refine ⟨hp, h.upd hok (fun m => ?_) fun y hy => ?_⟩
  · rw [proj_set hx e1 e2 hb, h.proj]
  · rcases List.mem_or_eq_of_mem_set hy with hy | rfl
    · exact h.sc y hy
    · unfold VS.ok at hk; rw [Bool.and_eq_true] at hk; exact hk.1
theorem put_bad {n : Int} {q v : ByteArray} (hk : VS.ok n q = false) : s.put n q v = (s, 1) := by unfold VS.put; rw [hk]; rfl
theorem put_long {n : Int} {q v : ByteArray} (hk : VS.ok n q = true) (h1 : 65536 < v.size) : s.put n q v = (s, 5) := by unfold VS.put VS.give; rw [hk, if_pos rfl, if_pos (.inl h1)]
theorem put_full {n : Int} {q v : ByteArray} (hk : VS.ok n q = true) (hl : (s n).look q = none) (h1 : 1024 ≤ (s n).length) : s.put n q v = (s, 5) := by
  unfold VS.put VS.give; rw [hk, if_pos rfl, if_pos (.inr ⟨by rw [hl]; rfl, h1⟩)]

/-- What a call of the document's set leaves. -/
def Left (base br : Nat) (s : VS) (w w' : World) : Prop := ∃ vL L, RSet base br vL L w' ∧ Rel L s ∧ RTurn br w w'

set_option maxRecDepth 20000 in
set_option maxHeartbeats 4000000 in
theorem rput_any (n : Int) (q v : ByteArray) (w : World) (h : RSet base br vL L w) (hr : Rel L s) (hq : q.size ≤ 140737488355328) (hv : v.size ≤ 150000000000000) :
    Calls Tryz.prog 12 #[rptr br, .int .i64 n, .string q, .string v] w fun e w' => e = .returned (.int .i64 (s.put n q v).2) ∧ Left base br (s.put n q v).1 w w' := by
  have hlen := hr.len
  have HS : Hid (Calls Tryz.prog 20 #[.int .i64 n] w fun e w' => e = .returned (.bool (isSc n)) ∧ w = w') := rscope_any n w
  have HR : Hid (Calls Tryz.prog 21 #[.string q] w fun e w' => e = .returned (.bool (rightB q)) ∧ Below w.heap.size w w') := rright_any q w hq
  have HV : Hid (∀ W, Below w.heap.size w W → RSet base br vL L W) := fun W hB => h.below hB
  have HA : Hid (∀ W, Below w.heap.size w W → Calls Tryz.prog 22 #[rptr br, .int .i64 n, .string q] W fun e w' => ∃ r, e = .returned (.int .i64 r) ∧ AtIs L n q r ∧ W = w') := fun W hB => rat_any n q W (h.below hB) hlen
  have HM : Hid (∀ W, Below w.heap.size w W → Calls Tryz.prog 23 #[rptr br, .int .i64 n] W fun e w' => e = .returned (.int .i64 (s n).length) ∧ W = w') := fun W hB => by
    rw [hr.proj]; exact rmany_any n W (h.below hB) hlen
  have HRel : Hid (Rel L s) := hr
  clear h hr
  cases hsc : isSc n
  · have HP : Hid (s.put n q v = (s, 1)) := put_bad (by unfold VS.ok; rw [hsc]; rfl)
    rw [hsc] at HS
    clear hsc
    go_enter Tryz.func12, Tryz.ntmps12
    go_wp2_with fail
    refine HS.out.mono ?_
    rintro e w' ⟨rfl, rfl⟩
    go_wp2
    go_ret
    exact ⟨ret_int (by rw [HP.out]), by rw [HP.out]; exact ⟨_, _, HV.out _ (Below.refl _ _), HRel.out, RTurn.refl _ _⟩⟩
  cases hrt : rightB q
  · have HP : Hid (s.put n q v = (s, 1)) := put_bad (by unfold VS.ok; rw [hrt, Bool.and_false])
    rw [hsc] at HS
    rw [hrt] at HR
    clear hsc hrt
    go_enter Tryz.func12, Tryz.ntmps12
    go_wp2_with fail
    refine HS.out.mono ?_
    rintro e w' ⟨rfl, rfl⟩
    go_wp2_with fail
    refine HR.out.mono ?_
    rintro e w1 ⟨rfl, hb1⟩
    go_wp2
    go_ret
    exact ⟨ret_int (by rw [HP.out]), by rw [HP.out]; exact ⟨_, _, HV.out _ hb1, HRel.out, RTurn.of_below hb1⟩⟩
  have HK : Hid (VS.ok n q = true) := by unfold Hid VS.ok; rw [hsc, hrt]; rfl
  rw [hsc] at HS
  rw [hrt] at HR
  clear hsc hrt
  by_cases h1 : 65536 < v.size
  · have HP : Hid (s.put n q v = (s, 5)) := put_long HK.out h1
    have h1i : (65536 : Int) < (v.size : Int) := by omega
    go_enter Tryz.func12, Tryz.ntmps12
    go_wp2_with fail
    refine HS.out.mono ?_
    rintro e w' ⟨rfl, rfl⟩
    go_wp2_with fail
    refine HR.out.mono ?_
    rintro e w1 ⟨rfl, hb1⟩
    go_wp2_with fail
    refine (HA.out _ hb1).mono ?_
    rintro e w' ⟨r, rfl, hat, rfl⟩
    clear hat
    go_wp2
    go_ret
    exact ⟨ret_int (by rw [HP.out]), by rw [HP.out]; exact ⟨_, _, HV.out _ hb1, HRel.out, RTurn.of_below hb1⟩⟩
  have h1i : ¬ (65536 : Int) < (v.size : Int) := by omega
  have hv2 : v.size ≤ 65536 := by omega
  clear h1 hv
  obtain ⟨i0, hi, hz0, hz1, hz2⟩ := info_parts infoVr
  go_enter Tryz.func12, Tryz.ntmps12
  go_wp2_with fail
  refine HS.out.mono ?_
  rintro e w' ⟨rfl, rfl⟩
  go_wp2_with fail
  refine HR.out.mono ?_
  rintro e w1 ⟨rfl, hb1⟩
  have HB1 : Hid (Below w.heap.size w w1) := hb1
  clear hb1
  go_wp2_with fail
  refine (HA.out _ HB1.out).mono ?_
  rintro e w' ⟨r, rfl, hat, rfl⟩
  have hset := HV.out _ HB1.out
  have c0 := hset.c0
  have hbl := hset.lt
  rcases hat with ⟨rfl, hlk⟩ | ⟨i, x, rfl, hx, e1, e2, hlk, hb⟩
  · have hlk' : (s n).look q = none := by rw [HRel.out.proj]; exact hlk
    clear hlk
    by_cases h2 : 1024 ≤ (s n).length
    · have HP : Hid (s.put n q v = (s, 5)) := put_full HK.out hlk' h2
      have h2i : (1024 : Int) ≤ ((s n).length : Int) := by omega
      clear hset c0 hlk'
      go_wp2_with fail
      refine (HM.out _ HB1.out).mono ?_
      rintro e w' ⟨rfl, rfl⟩
      go_wp2
      go_ret
      exact ⟨ret_int (by rw [HP.out]), by rw [HP.out]; exact ⟨_, _, HV.out _ HB1.out, HRel.out, RTurn.of_below HB1.out⟩⟩
    · have h2i : ¬ (1024 : Int) ≤ ((s n).length : Int) := by omega
      obtain ⟨hp1, hp2⟩ := rel_add (v := v) HRel.out HK.out hlk' hv2 (by omega)
      have HP : Hid (s.put n q v = (s.upd n ((s n).set q v), 0) ∧ Rel (L ++ [⟨n, q, v⟩]) (s.upd n ((s n).set q v))) := ⟨hp1, hp2⟩
      have HE : Hid (∀ W v2, Below w1.heap.size w1 W → W.ownsRow w1.heap.size 94 3 v2 (L.length + 1) (varsV L ++ [.int .i64 n, .string q, .string v]) → (W.cell? ⟨br, 0, none⟩ = some vL ∧ W.frozen? ⟨br, 0, none⟩ = false) ∧ RSet base br v2 (L ++ [⟨n, q, v⟩]) (W.setCell ⟨br, 0, none⟩ v2) ∧ RTurn br w (W.setCell ⟨br, 0, none⟩ v2)) := by
        intro W v2 hB hrow
        have h3 := (HV.out _ HB1.out).below hB
        refine ⟨⟨h3.c0, h3.fr 0⟩, h3.putL (owns_base ?_ ((HV.out _ HB1.out).sized)), ((RTurn.of_below HB1.out).trans (RTurn.of_below hB)).trans (RTurn.set _ _ _ _)⟩
        rw [List.length_append, varsV_app]; exact hrow
      clear hp1 hp2 hlk' h2
      have hrow := hset.row
      have hone := varsV_one L
      obtain ⟨xs, hxs⟩ : ∃ xs, xs = varsV L := ⟨_, rfl⟩
      obtain ⟨m, hm⟩ : ∃ m, m = L.length := ⟨_, rfl⟩
      rw [← hxs] at hrow HE hone
      rw [← hm] at hrow HE hlen
      obtain ⟨sl, hsl⟩ : ∃ sl, sl = (s n).length := ⟨_, rfl⟩
      rw [← hsl] at HM h2i
      clear hset hxs hm hsl
      rcases row_src hrow with ⟨rfl, rfl, rfl⟩ | ⟨g, cap, rfl, hg, hcap, hxl, hcells⟩
      · clear hrow hone
        go_wp2_with fail
        refine (HM.out _ HB1.out).mono ?_
        rintro e w' ⟨rfl, rfl⟩
        go_wp2_with (first | (at_builtin; refine wpList_append_own_none _ rfl (.const (.slice none 0 0)) (.tmp 39) 49 rfl w1.heap.size 94 i0 3 Tryz.underlying49 hi _ _ _ rfl (World.ownsRow_nil _ _ _ _) rfl ?_) | (at_builtin; refine wpList_append_own _ rfl (.tmp 43) (.tmp 48) 49 rfl w1.heap.size 94 i0 (.agg #[.int .i64 0, .string ⟨#[]⟩, .string ⟨#[]⟩]) 3 40 Tryz.underlying49 hi hz0 hz1 hz2 rfl (by decide) _ _ _ rfl (World.ownsRow_nil _ _ _ _) ⟨w1.heap.size, 0, none⟩ 1 1 [.int .i64 n, .string q, .string v] rfl rfl (by intro j u hj; match j, hj with | 0, hj => simp at hj; subst hj; simp [Addr.add] | 1, hj => simp at hj; subst hj; simp [Addr.add] | 2, hj => simp at hj; subst hj; simp [Addr.add]) (by intro u hu; simp only [List.mem_cons, List.not_mem_nil, or_false] at hu; rcases hu with rfl | rfl | rfl <;> rfl) (by unfold maxLen; omega) (by omega) (by simp) ?_; intro v2 w2 hown2 hgrow2 _; obtain ⟨⟨d4, f4⟩, hR, hT⟩ := HE.out w2 v2 (((Below.refl _ _).alloc (Nat.le_refl _) _).grown hgrow2 (by simp) (fun k hk => by cases hk)) hown2; obtain ⟨av, cv, hv2⟩ := owns_slice hown2; subst hv2; have HF : Hid (RSet base br _ _ _ ∧ RTurn br w _) := ⟨hR, hT⟩; clear hown2 hgrow2 hR hT))
        go_ret
        exact ⟨ret_int (by rw [HP.out.1]), by rw [HP.out.1]; exact ⟨_, _, HF.out.1, HP.out.2, HF.out.2⟩⟩
      · clear hrow
        go_wp2_with fail
        refine (HM.out _ HB1.out).mono ?_
        rintro e w' ⟨rfl, rfl⟩
        go_wp2_with (at_builtin; refine wpList_append_own _ rfl (.const (.slice none 0 0)) (.tmp 39) 49 rfl w1.heap.size 94 i0 (.agg #[.int .i64 0, .string ⟨#[]⟩, .string ⟨#[]⟩]) 3 40 Tryz.underlying49 hi hz0 hz1 hz2 rfl (by decide) _ _ _ rfl (World.ownsRow_nil _ _ _ _) ⟨g, 0, none⟩ m cap xs rfl hxl hcells hone (by unfold maxLen; omega) (by omega) (Nat.le_refl _) ?_)
        intro v1 w2 hown1 hgrow1 _
        have hb1 : Below w1.heap.size w1 w2 := (Below.refl _ _).grown hgrow1 (Nat.le_refl _) (fun k hk => by cases hk)
        have hs1 := hb1.size
        have hown1' : w2.ownsRow w1.heap.size 94 3 v1 m xs := by simpa using hown1
        clear hown1 hgrow1 c0
        go_wp2_with (at_builtin; refine wpList_append_own _ rfl (.tmp 43) (.tmp 48) 49 rfl w1.heap.size 94 i0 (.agg #[.int .i64 0, .string ⟨#[]⟩, .string ⟨#[]⟩]) 3 40 Tryz.underlying49 hi hz0 hz1 hz2 rfl (by decide) _ _ _ rfl (hown1'.alloc _) ⟨w2.heap.size, 0, none⟩ 1 1 [.int .i64 n, .string q, .string v] rfl rfl (by intro j u hj; match j, hj with | 0, hj => simp at hj; subst hj; simp [Addr.add] | 1, hj => simp at hj; subst hj; simp [Addr.add] | 2, hj => simp at hj; subst hj; simp [Addr.add]) (by intro u hu; simp only [List.mem_cons, List.not_mem_nil, or_false] at hu; rcases hu with rfl | rfl | rfl <;> rfl) (by unfold maxLen; omega) (by omega) (by first | (simp; done) | (simp; omega)) ?_)
        intro v2 w3 hown2 hgrow2 _
        obtain ⟨⟨d4, f4⟩, hR, hT⟩ := HE.out w3 v2 ((hb1.alloc hs1 _).grown hgrow2 (by first | (simp; done) | (simp; omega)) (fun k hk => (hown1'.lt k hk).1)) hown2
        obtain ⟨av, cv, hv2⟩ := owns_slice hown2
        subst hv2
        have HF : Hid (RSet base br (.slice av (m + 1) cv) (L ++ [⟨n, q, v⟩]) (w3.setCell ⟨br, 0, none⟩ (.slice av (m + 1) cv)) ∧ RTurn br w (w3.setCell ⟨br, 0, none⟩ (.slice av (m + 1) cv))) := ⟨hR, hT⟩
        clear hown2 hgrow2 hown1' hR hT hb1
        go_wp2
        go_ret
        exact ⟨ret_int (by rw [HP.out.1]), by rw [HP.out.1]; exact ⟨_, _, HF.out.1, HP.out.2, HF.out.2⟩⟩
  · have hlk' : (s n).look q = some x.v := by rw [HRel.out.proj]; exact hlk
    obtain ⟨hp1, hp2⟩ := rel_set (v := v) HRel.out HK.out hx e1 e2 hlk' hb hv2
    have HP : Hid (s.put n q v = (s.upd n ((s n).set q v), 0) ∧ Rel (L.set i ⟨n, q, v⟩) (s.upd n ((s n).set q v))) := ⟨hp1, hp2⟩
    have hil : i < L.length := (List.getElem?_eq_some_iff.1 hx).1
    have HX : Hid (varsV (L.set i ⟨n, q, v⟩) = (varsV L).set (i * 3 + 2) (.string v)) := by
      have := varsV_set L i x v hx
      rw [e1, e2] at this; exact this
    have hgv : (varsV L)[i * 3 + 2]? = some (.string x.v) := by
      rw [varsV_at L i 2 hil (by omega)]
      obtain ⟨_, rfl⟩ := List.getElem?_eq_some_iff.1 hx
      rfl
    have hrow := hset.row
    have hone := varsV_one L
    obtain ⟨xs, hxs⟩ : ∃ xs, xs = varsV L := ⟨_, rfl⟩
    obtain ⟨m, hm⟩ : ∃ m, m = L.length := ⟨_, rfl⟩
    have HML : Hid (m = L.length) := hm
    rw [← hxs] at hrow hone HX hgv
    rw [← hm] at hrow hlen hil
    obtain ⟨xv, hxv⟩ : ∃ xv, xv = x.v := ⟨_, rfl⟩
    rw [← hxv] at hgv
    have him : (i : Int) < (m : Int) := by omega
    have hi0 : ¬ (i : Int) < 0 := by omega
    clear hset hxs hm hp1 hp2 hlk hlk' hx e1 e2 hb hxv
    rcases row_src hrow with ⟨_, rfl, _⟩ | ⟨g, cap, rfl, hg, hcap, hxl, hcells⟩
    · omega
    · clear hrow
      go_wp2_with (at_builtin; refine wpList_append_own _ rfl (.const (.slice none 0 0)) (.tmp 39) 49 rfl w1.heap.size 94 i0 (.agg #[.int .i64 0, .string ⟨#[]⟩, .string ⟨#[]⟩]) 3 40 Tryz.underlying49 hi hz0 hz1 hz2 rfl (by decide) _ _ _ rfl (World.ownsRow_nil _ _ _ _) ⟨g, 0, none⟩ m cap xs rfl hxl hcells hone (by unfold maxLen; omega) (by omega) (Nat.le_refl _) ?_)
      intro v1 w2 hown1 hgrow1 _
      have hb1 : Below w1.heap.size w1 w2 := (Below.refl _ _).grown hgrow1 (Nat.le_refl _) (fun k hk => by cases hk)
      have hown1' : w2.ownsRow w1.heap.size 94 3 v1 m xs := by simpa using hown1
      rcases row_src hown1' with ⟨_, rfl, _⟩ | ⟨g1, cap1, rfl, hg1, hcap1, _, hcells1⟩
      · omega
      have k1 : w2.cell? ⟨g1, i * 3 + 2, none⟩ = some (.string xv) := by
        have := hcells1 _ _ hgv
        rw [add_none, Nat.zero_add] at this; exact this
      have k2 := frozen_row hown1' (i * 3 + 2)
      have hw2 : RSet base br (.slice (some ⟨g, 0, none⟩) m cap) L w2 := (HV.out _ HB1.out).below hb1
      have hgb : g1 ≠ br := fun e => by
        obtain ⟨cur, hc⟩ := row_type hown1' (g := g1) rfl
        have := hw2.blk; rw [← e, hc] at this; simp at this
      have HG : Hid (∀ W, W = w2.setCell ⟨g1, i * 3 + 2, none⟩ (.string v) → (W.cell? ⟨br, 0, none⟩ = some (.slice (some ⟨g, 0, none⟩) m cap) ∧ W.frozen? ⟨br, 0, none⟩ = false) ∧ RSet base br (.slice (some ⟨g1, 0, none⟩) m cap1) (L.set i ⟨n, q, v⟩) (W.setCell ⟨br, 0, none⟩ (.slice (some ⟨g1, 0, none⟩) m cap1)) ∧ RTurn br w (W.setCell ⟨br, 0, none⟩ (.slice (some ⟨g1, 0, none⟩) m cap1))) := by
        rintro W rfl
        have hg1w : w1.heap.size ≤ g1 := (hown1'.lt g1 rfl).1
        have hb2 : Below w1.heap.size w1 (w2.setCell ⟨g1, i * 3 + 2, none⟩ (.string v)) := hb1.setCell hg1w _
        have hset2 := (HV.out _ HB1.out).below hb2
        have hrow2 : (w2.setCell ⟨g1, i * 3 + 2, none⟩ (.string v)).ownsRow base 94 3 (.slice (some ⟨g1, 0, none⟩) m cap1) (L.set i ⟨n, q, v⟩).length (varsV (L.set i ⟨n, q, v⟩)) := by
          rw [List.length_set, ← HML.out, HX.out]
          exact owns_base (owns_put hown1' _) ((HV.out _ HB1.out).sized)
        exact ⟨⟨hset2.c0, hset2.fr 0⟩, hset2.putL hrow2, ((RTurn.of_below HB1.out).trans (RTurn.of_below hb2)).trans (RTurn.set _ _ _ _)⟩
      clear hown1 hgrow1 c0 hw2 hown1' hcells hcells1 hgv hone hxl
      obtain ⟨W, hW⟩ : ∃ W, W = w2.setCell ⟨g1, i * 3 + 2, none⟩ (.string v) := ⟨_, rfl⟩
      obtain ⟨⟨d4, f4⟩, hR, hT⟩ := HG.out W hW
      have HF : Hid (RSet base br (.slice (some ⟨g1, 0, none⟩) m cap1) (L.set i ⟨n, q, v⟩) (W.setCell ⟨br, 0, none⟩ (.slice (some ⟨g1, 0, none⟩) m cap1)) ∧ RTurn br w (W.setCell ⟨br, 0, none⟩ (.slice (some ⟨g1, 0, none⟩) m cap1))) := ⟨hR, hT⟩
      rw [hW] at d4 f4 HF
      clear hR hT HG hW W
      go_wp2
      go_ret
      exact ⟨ret_int (by rw [HP.out.1]), by rw [HP.out.1]; exact ⟨_, _, HF.out.1, HP.out.2, HF.out.2⟩⟩
end
end Go.Proofs.YtkelmhpoplbacaaGreatDoor.V
