/-
  What forText answers.
-/
import Derived.Test.YtbciedpjaajhcaaDoorBF
namespace Go.Proofs.YtbciedpjaajhcaaDoor
open Go.RowKit Go.Shelf Go.Maps

theorem wordA_len (s : List UInt8) : (wordA s).length ≤ s.length := by
  unfold wordA ltrim
  exact Nat.le_trans (List.takeWhile_sublist _).length_le (left_le s _)
theorem wordB_len (s : List UInt8) : (wordB s).length ≤ s.length := by
  unfold wordB ltrim
  exact Nat.le_trans (left_le _ _) (Nat.le_trans (List.dropWhile_suffix _).length_le (left_le s _))
theorem wordB_lt {s : List UInt8} (h : wordA s ≠ []) : (wordB s).length < s.length := by
  have h1 : (wordA s).length + ((ltrim s).dropWhile fun c => !isB c).length = (ltrim s).length := by
    unfold wordA; rw [← List.length_append, List.takeWhile_append_dropWhile]
  have h2 : (wordB s).length ≤ ((ltrim s).dropWhile fun c => !isB c).length := left_le _ _
  have h3 : (ltrim s).length ≤ s.length := left_le s _
  have h4 : 0 < (wordA s).length := List.length_pos_iff.2 h
  omega
theorem nameOk_ne {n : ByteArray} (h : nameOk n = true) : n ≠ E := fun e => by rw [e] at h; unfold nameOk at h; simp at h
theorem forL_fuel : ∀ (k j : Nat) (names : List ByteArray) (t : ByteArray), t.size < k → t.size < j → forL k names t = forL j names t
  | 0, _, _, _, h, _ => by omega
  | _ + 1, 0, _, _, _, h => by omega
  | k + 1, j + 1, names, t, hk, hj => by
    unfold forL
    split
    · rfl
    · split
      · rfl
      · rename_i h1 h2
        have hne : wordA (bl t) ≠ [] := fun e => h2 (.inr (by rw [e]; rfl))
        have := wordB_lt hne
        rw [bl_length] at this
        exact forL_fuel k j _ _ (by rw [ba_size]; omega) (by rw [ba_size]; omega)
theorem forL_in {k : Nat} {names : List ByteArray} {t : ByteArray} (hk : t.size < k) (h : ba (wordA (bl t)) = kIn) : forL k names t = if names = [] then none else some (names, ba (wordB (bl t))) := by
  cases k with
  | zero => omega
  | succ k => rw [forL, if_pos h]
theorem forL_bad {k : Nat} {names : List ByteArray} {t : ByteArray} (h : ¬ ba (wordA (bl t)) = kIn) (h2 : mem9 (ba (wordA (bl t))) names = true ∨ nameOk (ba (wordA (bl t))) = false) : forL k names t = none := by
  cases k with
  | zero => rfl
  | succ k => rw [forL, if_neg h, if_pos h2]
theorem forL_go {k : Nat} {names : List ByteArray} {t : ByteArray} (hk : t.size < k) (h : ¬ ba (wordA (bl t)) = kIn) (h2 : mem9 (ba (wordA (bl t))) names = false) (h3 : nameOk (ba (wordA (bl t))) = true) : forL k names t = forL k (names ++ [ba (wordA (bl t))]) (ba (wordB (bl t))) ∧ (ba (wordB (bl t))).size < t.size := by
  have hne : wordA (bl t) ≠ [] := fun e => nameOk_ne h3 (by rw [e]; rfl)
  have hlt := wordB_lt hne
  rw [bl_length] at hlt
  refine ⟨?_, by rw [ba_size]; exact hlt⟩
  cases k with
  | zero => omega
  | succ k =>
    conv => lhs; unfold forL
    rw [if_neg h, if_neg (by rw [h2, h3]; simp)]
    exact forL_fuel k (k + 1) _ _ (by rw [ba_size]; omega) (by rw [ba_size]; omega)
theorem info9 : (Tryd.prog.info? 9).map (fun i => (i.zero, i.size, i.bytes)) = some (some (.string ⟨#[]⟩), 1, 16) := by kernel_rfl

/-- What forText answers. -/
def ForPost (t : ByteArray) (w : World) (e : Ending) (w' : World) : Prop :=
  ∃ v s, e = .returned (.tuple #[v, .string s, .bool (forText t).isSome]) ∧ Below w.heap.size w w' ∧ ∀ ns li, forText t = some (ns, li) → s = li ∧ w'.ownsRow w.heap.size 9 1 v ns.length (ns.map Value.string)
def szS : Value → Nat
  | .string x => x.size
  | _ => 0
theorem map_at {w : World} : (w.alloc (.map #[] 0)).heap[w.heap.size]? = some (.map #[] 0) := alloc_last _ _
theorem Turned.below {m B : Nat} {w w' : World} (h : Turned m w w') (hm : B ≤ m) : Below B w w' := ⟨h.os, h.tape, h.output, Nat.le_of_eq h.size.symm, fun j hj => h.block j (by omega)⟩
theorem own_map {w : World} {base m k n : Nat} {v : Value} {e : TypeId} {xs : List Value} {L : List ByteArray} (h : w.ownsRow base e k v n xs) (hm : Set9 w m L) : v.ownBlock ≠ some m := fun he => by
  obtain ⟨cur, hc⟩ := row_type h he
  obtain ⟨D, ⟨es, clock, hb, _⟩, _⟩ := hm
  rw [hb] at hc; cases hc
theorem row_turned {w w' : World} {base m n k : Nat} {v : Value} {e : TypeId} {xs : List Value} (h : w.ownsRow base e k v n xs) (ht : Turned m w w') (hm : v.ownBlock ≠ some m) : w'.ownsRow base e k v n xs := by
  refine ⟨h.1, ?_⟩
  rcases h.2 with h0 | ⟨g, cap, cur, hv, hg, hgg, rest⟩
  · exact .inl h0
  · refine .inr ⟨g, cap, cur, hv, hg, ?_, rest⟩
    rw [ht.block g (fun e => hm (by rw [hv, e]; rfl))]; exact hgg

set_option maxRecDepth 20000 in
set_option maxHeartbeats 1600000 in
theorem for_any (t : ByteArray) (w : World) (ht : t.size ≤ 1000000) : Calls Tryd.prog 49 #[.string t] w (ForPost t w) := by
  obtain ⟨i0, hi, hz0, hz1, hz2⟩ := info_of info9
  have HW : Hid (∀ (s : ByteArray) (W : World), s.size ≤ 1000000 → Calls Tryd.prog 64 #[.string s] W fun e w' => e = .returned (.tuple #[.string (ba (wordA (bl s))), .string (ba (wordB (bl s)))]) ∧ Below W.heap.size W w') := fun s W h => word_any s W (by omega)
  have HNA : Hid (∀ (s : ByteArray) (W : World), Calls Tryd.prog 65 #[.string s] W fun e w' => e = .returned (.bool (nameOk s)) ∧ Below W.heap.size W w') := fun s W => name_any s W
  have hmm := @run_makeMap Tryd.prog
  go_enter Tryd.func49, Tryd.ntmps49
  go_wp2_with fail
  go_loopw [0, 5] (fun vt vn wr => ∃ (s : ByteArray) (names : List ByteArray), vt = .string s ∧ s.size + names.length ≤ t.size ∧ Hid (wr.ownsRow w.heap.size 9 1 vn names.length (names.map Value.string) ∧ Set9 wr w.heap.size names ∧ Below w.heap.size w wr ∧ forText t = forL (t.size + 1) names s)) (fun vt _ _ => szS vt)
  case atStart => exact ⟨t, [], rfl, by simp, owns_nil _ _ _ _, Set9.empty map_at, (Below.refl _ _).alloc (Nat.le_refl _) _, rfl⟩
  case round =>
    obtain ⟨s, names, rfl, hsn, HI⟩ := hrel
    have hss : s.size ≤ 1000000 := by omega
    have hA := wordA_len (bl s)
    have hB := wordB_len (bl s)
    rw [bl_length] at hA hB
    obtain ⟨x, hx⟩ : ∃ x, x = ba (wordA (bl s)) := ⟨_, rfl⟩
    obtain ⟨y, hy⟩ : ∃ y, y = ba (wordB (bl s)) := ⟨_, rfl⟩
    have hxs : x.size ≤ 1000000 := by rw [hx, ba_size]; omega
    have hys : y.size ≤ s.size := by rw [hy, ba_size]; omega
    have HWs := HW.out s
    have hin := forL_in (k := t.size + 1) (names := names) (t := s) (by omega)
    have hbad := forL_bad (k := t.size + 1) (names := names) (t := s)
    have hgo := forL_go (k := t.size + 1) (names := names) (t := s) (by omega)
    rw [← hx, ← hy] at HWs hin hgo
    rw [← hx] at hbad
    have HWs : Hid (∀ W : World, s.size ≤ 1000000 → Calls Tryd.prog 64 #[.string s] W fun e w' => e = .returned (.tuple #[.string x, .string y]) ∧ Below W.heap.size W w') := HWs
    have HNS := HNA.out x
    have HNS : Hid (∀ (W : World), Calls Tryd.prog 65 #[.string x] W fun e w' => e = .returned (.bool (nameOk x)) ∧ Below W.heap.size W w') := HNS
    clear hx hy hA hB HW HNA
    obtain ⟨av, cv, hav⟩ := V.owns_slice HI.out.1
    subst hav
    by_cases h1 : x = kIn
    · have HF : Hid (forText t = if names = [] then none else some (names, y)) := by unfold Hid; rw [HI.out.2.2.2, hin h1]
      clear hin hbad hgo
      subst h1
      have HB0 := HI.out.2.2.1
      have HB0 : Hid _ := HB0
      by_cases hn0 : names = []
      · subst hn0
        have hl0 : ([] : List ByteArray).length = 0 := rfl
        rw [hl0] at *
        rw [if_pos rfl] at HF
        go_wp2_with fail
        refine (HWs.out _ hss).mono ?_
        rintro e w1 ⟨rfl, h1⟩
        have H1 : Hid (Below w.heap.size w w1) := HB0.out.trans (h1.mono HB0.out.size)
        clear h1
        go_wp2_with fail
        go_ret3
        exact ⟨_, y, by rw [HF.out]; rfl, H1.out, fun ns li h => by rw [HF.out] at h; cases h⟩
      · obtain ⟨n, hn⟩ : ∃ n, n = names.length := ⟨_, rfl⟩
        have hn1 : 0 < n := by rw [hn]; exact List.length_pos_iff.2 hn0
        have hn1i : (0 : Int) < (n : Int) := by omega
        rw [if_neg hn0] at HF
        rw [← hn] at HI hsn ⊢
        have HN : Hid (n = names.length) := hn
        have HOW := HI.out.1
        have HOW : Hid _ := HOW
        clear hn HI hn0
        go_wp2_with fail
        refine (HWs.out _ hss).mono ?_
        rintro e w1 ⟨rfl, h1⟩
        have H1 : Hid (Below w.heap.size w w1 ∧ w1.ownsRow w.heap.size 9 1 (.slice av n cv) n (names.map Value.string)) := ⟨HB0.out.trans (h1.mono HB0.out.size), owns_below HOW.out h1⟩
        clear h1
        go_wp2_with fail
        go_ret3
        refine ⟨_, y, by rw [HF.out]; rfl, H1.out.1, fun ns li h => ?_⟩
        rw [HF.out] at h
        simp only [Option.some.injEq, Prod.mk.injEq] at h
        obtain ⟨rfl, rfl⟩ := h
        exact ⟨rfl, by rw [← HN.out]; exact H1.out.2⟩
    · obtain ⟨s1, s2⟩ := ne_list h1
      have hbad := hbad h1
      have hgo := hgo h1
      clear hin
      have HSE := fun W hW => HI.out.2.1.see (q := x) (by omega) W hW
      obtain ⟨n, hn⟩ : ∃ n, n = names.length := ⟨_, rfl⟩
      have HN : Hid (n = names.length) := hn
      have HII := HI.out
      rw [← hn] at HII hsn
      have HI2 : Hid _ := HII
      have HF : Hid (forText t = forL (t.size + 1) names s) := HI.out.2.2.2
      rw [← hn]
      clear hn HII HI
      have hml : w.heap.size < wr.heap.size := HI2.out.2.1.lt
      cases hm : mem9 x names with
      | true =>
        have HF1 : Hid (forText t = none) := by unfold Hid; rw [HF.out, hbad (.inl hm)]
        rw [hm] at HSE
        have HSE : Hid (∀ W : World, W.heap[w.heap.size]? = wr.heap[w.heap.size]? → (Instr.lookup 113 (.map (some w.heap.size)) (.string x) true).run Tryd.prog W = .ok (.tuple #[setV, .bool true]) W) := HSE
        clear hbad hgo hm
        go_wp2_with fail
        refine (HWs.out _ hss).mono ?_
        rintro e w1 ⟨rfl, h1⟩
        have H1 : Hid (Below w.heap.size w w1) := HI2.out.2.2.1.trans (h1.mono HI2.out.2.2.1.size)
        have hlk := HSE.out w1 (h1.block _ hml)
        clear h1
        go_wp2_with fail
        go_ret3
        exact ⟨_, E, by rw [HF1.out]; rfl, H1.out.alloc H1.out.size _, fun ns li h => by rw [HF1.out] at h; cases h⟩
      | false =>
        rw [hm] at HSE
        have HSE : Hid (∀ W : World, W.heap[w.heap.size]? = wr.heap[w.heap.size]? → (Instr.lookup 113 (.map (some w.heap.size)) (.string x) true).run Tryd.prog W = .ok (.tuple #[setV, .bool false]) W) := HSE
        cases hnm : nameOk x with
        | false =>
          have HF1 : Hid (forText t = none) := by unfold Hid; rw [HF.out, hbad (.inr hnm)]
          rw [hnm] at HNS
          clear hbad hgo hm hnm
          go_wp2_with fail
          refine (HWs.out _ hss).mono ?_
          rintro e w1 ⟨rfl, h1⟩
          have H1 : Hid (Below w.heap.size w w1) := HI2.out.2.2.1.trans (h1.mono HI2.out.2.2.1.size)
          have hlk := HSE.out w1 (h1.block _ hml)
          clear h1
          go_wp2_with fail
          refine (HNS.out _).mono ?_
          rintro e w2 ⟨rfl, h2⟩
          have H2 : Hid (Below w.heap.size w w2) := by
            have h3 := H1.out.alloc (o := .cells #[] 115) H1.out.size
            exact h3.trans (h2.mono h3.size)
          clear h2
          go_wp2_with fail
          go_ret3
          exact ⟨_, E, by rw [HF1.out]; rfl, H2.out, fun ns li h => by rw [HF1.out] at h; cases h⟩
        | true =>
          obtain ⟨hg1, hg2⟩ := hgo hm hnm
          have HF1 : Hid (forText t = forL (t.size + 1) (names ++ [x]) y ∧ mem9 x names = false) := ⟨by rw [HF.out, hg1], hm⟩
          rw [hnm] at HNS
          clear hbad hgo hm hnm hg1
          go_wp2_with fail
          refine (HWs.out _ hss).mono ?_
          rintro e w1 ⟨rfl, h1⟩
          have H1 : Hid (Below w.heap.size w w1 ∧ w1.ownsRow w.heap.size 9 1 (.slice av n cv) n (names.map Value.string) ∧ Set9 w1 w.heap.size names) := ⟨HI2.out.2.2.1.trans (h1.mono HI2.out.2.2.1.size), owns_below HI2.out.1 h1, HI2.out.2.1.of_block (h1.block _ hml)⟩
          have hlk := HSE.out w1 (h1.block _ hml)
          clear h1
          go_wp2_with fail
          refine (HNS.out _).mono ?_
          rintro e w2 ⟨rfl, h2⟩
          have H2 : Hid (Below w.heap.size w w2 ∧ w2.ownsRow w.heap.size 9 1 (.slice av n cv) n (names.map Value.string) ∧ Set9 w2 w.heap.size names) := by
            have h3 := H1.out.1.alloc (o := .cells #[] 115) H1.out.1.size
            refine ⟨h3.trans (h2.mono h3.size), owns_below (H1.out.2.1.alloc _) h2, H1.out.2.2.of_block ?_⟩
            rw [h2.block _ (by have := H1.out.2.2.lt; simp; omega), Below.heap_alloc _ _ _ H1.out.2.2.lt]
          clear h2
          obtain ⟨w3, hrun, hset, hturn⟩ := H2.out.2.2.put (by rw [← HN.out]; omega) (q := x) (by omega) HF1.out.2
          have H3 : Hid (Below w.heap.size w w3 ∧ w3.ownsRow w.heap.size 9 1 (.slice av n cv) n (names.map Value.string) ∧ Set9 w3 w.heap.size (names ++ [x])) := by
            have hb := hturn.below (B := w.heap.size) (Nat.le_refl _)
            exact ⟨H2.out.1.trans hb, row_turned H2.out.2.1 hturn (own_map H2.out.2.1 H2.out.2.2), hset⟩
          clear hset hturn
          have hown := H3.out.2.1
          have hbs := H3.out.1.size
          go_wp2_with (at_builtin; refine wpList_append_own _ rfl _ _ 45 rfl w.heap.size 9 i0 (.string ⟨#[]⟩) 1 16 Tryd.underlying45 hi hz0 hz1 hz2 rfl (by decide) _ _ _ rfl (hown.alloc _) ⟨w3.heap.size, 0, none⟩ 1 1 [.string x] rfl rfl ?c1 ?c2 ?c3 ?c4 ?c5 ?_)
          case c1 => exact cell_one_new w3 (.string x) 9
          case c2 => intro u hu; simp at hu; subst hu; rfl
          case c3 => unfold maxLen; omega
          case c4 => omega
          case c5 => simp; omega
          intro v' w4 hown' hgrow _
          have H4 : Hid (Below w.heap.size w w4 ∧ w4.ownsRow w.heap.size 9 1 v' (n + 1) ((names ++ [x]).map Value.string) ∧ Set9 w4 w.heap.size (names ++ [x])) := by
            have hb4 : Below w.heap.size w w4 := (H3.out.1.alloc hbs _).grown hgrow (by simp; omega) (fun k hk => (hown.lt k hk).1)
            refine ⟨hb4, by rw [List.map_append]; exact hown', H3.out.2.2.of_block ?_⟩
            rw [hgrow.block w.heap.size (by have := H3.out.2.2.lt; simp; omega) (Ne.symm (own_map H3.out.2.1 H3.out.2.2)), Below.heap_alloc _ _ _ H3.out.2.2.lt]
          clear hown' hgrow hown hrun
          go_wp2
          go_roundw
          case rel => exact ⟨y, names ++ [x], rfl, by simp; rw [← HN.out]; omega, by simp; rw [← HN.out]; exact ⟨by simpa using H4.out.2.1, H4.out.2.2, H4.out.1, HF1.out.1⟩⟩
          case measure => exact hg2
end Go.Proofs.YtbciedpjaajhcaaDoor
