/-
  LoopBinds at every list of lines, name and value.
-/
import Derived.Test.YtllpbehhbpefjaaDoorBGA
import Derived.Test.YtllpbehhbpefjaaDoorBL
namespace Go.Proofs.YtllpbehhbpefjaaDoor
open Go.RowKit Go.Shelf
open Ex (Fr)

set_option maxRecDepth 20000 in
set_option maxHeartbeats 400000 in
theorem one_any (x : Lz) (w : World) : Calls Tryd.prog 34 #[lnV x] w fun e w' => e = .returned (lnV x) ∧ Below w.heap.size w w' := by
  have hb : Below w.heap.size w ((w.alloc (.cells #[.string x.text, .int .i64 x.at_, .bool x.cmd] 40)).alloc (.cells #[.string x.text, .int .i64 x.at_, .bool x.cmd] 37)) := ((Below.refl _ _).alloc (Nat.le_refl _) _).alloc (by simp) _
  have HB : Hid _ := hb
  clear hb
  go_enter Tryd.func34, Tryd.ntmps34
  go_wp2_with fail
  refine bodyPost_ret (v := lnV x) (by simp [results, Tryd.results34, go_sem]; try rfl) rfl ?_
  exact ⟨rfl, HB.out⟩
set_option maxRecDepth 20000 in
set_option maxHeartbeats 800000 in
theorem ours_any (v : Value) (l : List Lz) (w : World) (hl : l.length ≤ 4000000) (hW : LZ w.heap.size w v l) :
    Calls Tryd.prog 18 #[v] w fun e w' => ∃ v', e = .returned v' ∧ w'.ownsRow w.heap.size 37 3 v' l.length (lzsV l) ∧ Below w.heap.size w w' := by
  obtain ⟨i0, hi, hz0, hz1, hz2⟩ := info_of infoR
  obtain ⟨a, c, rfl, hc⟩ := hW.slice
  obtain ⟨n, hn⟩ : ∃ n, n = l.length := ⟨_, rfl⟩
  rw [← hn] at hl hc hW
  have HW : Hid (n = l.length ∧ LZ w.heap.size w (.slice a n c) l) := ⟨hn, hW⟩
  rw [← hn]
  clear hn hW
  have HO : Hid (∀ (x : Lz) W, Calls Tryd.prog 34 #[lnV x] W fun e w' => e = .returned (lnV x) ∧ Below W.heap.size W w') := fun x W => one_any x W
  go_enter Tryd.func18, Tryd.ntmps18
  go_wp2
  go_loopw [3, 8] (fun v vi wr => ∃ k : Nat, k ≤ n ∧ vi = .int .i64 (k : Int) ∧ wr.ownsRow w.heap.size 37 3 v k (lzsV (l.take k)) ∧ Below w.heap.size w wr) (fun _ vi _ => n - (intOf vi).toNat)
  case atStart => exact ⟨0, Nat.zero_le _, rfl, owns_nil _ _ _ _, Below.refl _ _⟩
  case round =>
    obtain ⟨k, hk, rfl, hown, hb⟩ := hrel
    have hbs := hb.size
    by_cases hlt : k < n
    · have hil : (k : Int) < (n : Int) := by omega
      have hkl : k < l.length := by rw [← HW.out.1]; exact hlt
      obtain ⟨x, hx⟩ : ∃ x, l[k]? = some x := ⟨_, List.getElem?_eq_getElem hkl⟩
      obtain ⟨b, o, rfl, hbB, d0, d1, d2⟩ := HW.out.2.pick hx
      have c0 := (hb.cell (p := ⟨b, o + k * 3, none⟩) hbB).trans d0
      have c1 := (hb.cell (p := ⟨b, o + k * 3 + 1, none⟩) hbB).trans d1
      have c2 := (hb.cell (p := ⟨b, o + k * 3 + 2, none⟩) hbB).trans d2
      have HT : Hid (l.take (k + 1) = l.take k ++ [x]) := by
        unfold Hid
        rw [List.take_succ_eq_append_getElem hkl]
        rw [List.getElem?_eq_getElem hkl] at hx
        simp at hx; rw [hx]
      have HOx := HO.out x
      clear d0 d1 d2 hx hbB
      obtain ⟨xt, xa, xc⟩ := x
      simp only at c0 c1 c2 HOx
      have HOx : Hid (∀ W : World, Calls Tryd.prog 34 #[.agg #[.string xt, .int .i64 xa, .bool xc]] W fun e w' => e = .returned (.agg #[.string xt, .int .i64 xa, .bool xc]) ∧ Below W.heap.size W w') := HOx
      go_wp2_with fail
      refine (HOx.out _).mono ?_
      rintro e w2 ⟨rfl, h2⟩
      have hw1 := hb.alloc (o := .cells #[.string xt, .int .i64 xa, .bool xc] 40) hbs
      have hown2 := owns_below (hown.alloc _) h2
      have hb2 : Below w.heap.size w w2 := hw1.trans (h2.mono hw1.size)
      have hbs2 := hb2.size
      clear h2 hw1 hown hb hbs c0 c1 c2
      go_wp2_with (at_builtin; refine wpList_append_own _ rfl _ _ 22 rfl w.heap.size 37 i0 (.agg #[.string ⟨#[]⟩, .int .i64 0, .bool false]) 3 32 Tryd.underlying22 hi hz0 hz1 hz2 rfl (by decide) _ _ _ rfl (hown2.alloc _) ⟨w2.heap.size, 0, none⟩ 1 1 [.string xt, .int .i64 xa, .bool xc] rfl rfl ?c1 ?c2 ?c3 ?c4 ?c5 ?_)
      case c1 =>
        intro j u hj
        rw [add_none, Nat.zero_add]
        exact cell_in (cs := #[.string xt, .int .i64 xa, .bool xc]) (T := 37) (alloc_last _ _) j (by simpa using hj)
      case c2 => exact fun u hu => lz_one ⟨xt, xa, xc⟩ u hu
      case c3 => unfold maxLen; omega
      case c4 => omega
      case c5 => simp; omega
      intro v' w3 hown' hgrow _
      have hb3 : Below w.heap.size w w3 := (hb2.alloc hbs2 _).grown hgrow (by simp; omega) (fun k hk => (hown2.lt k hk).1)
      have hown3 : w3.ownsRow w.heap.size 37 3 v' (k + 1) (lzsV (l.take (k + 1))) := by
        rw [HT.out, lzsV_snoc]; exact hown'
      clear hown' hgrow hown2 hb2
      go_wp2
      go_roundw
      case rel => exact ⟨k + 1, by omega, by go_num, hown3, hb3⟩
      case measure => simp [intOf]; omega
    · obtain rfl : k = n := by omega
      have HO2 : Hid (wr.ownsRow w.heap.size 37 3 u3 k (lzsV l)) := by
        have h := hown
        rw [HW.out.1, List.take_length] at h
        rw [HW.out.1]; exact h
      clear hown
      go_wp2
      go_ret
      exact ⟨_, rfl, HO2.out, hb⟩
set_option maxRecDepth 20000 in
set_option maxHeartbeats 800000 in
theorem rBind_any (v : Value) (l : List Lz) (name value : ByteArray) (w : World) (hl : l.length ≤ 1000000) (hn : name.size ≤ 900000) (hv : value.size ≤ 100000) (hz : ∀ x ∈ l, x.text.size ≤ 1000000 ∧ (2 * value.size + 1) * x.text.size ≤ 500000000) (hW : LZ w.heap.size w v l) :
    Calls Tryd.prog 20 #[v, .string name, .string value] w fun e w' => ∃ v', e = .returned v' ∧ w'.ownsRow w.heap.size 37 3 v' l.length (lzsV (l.map (bindZ name value))) ∧ Below w.heap.size w w' := by
  obtain ⟨i0, hi, hz0, hz1, hz2⟩ := info_of infoR
  obtain ⟨a, c, rfl, hc⟩ := hW.slice
  obtain ⟨n, hnn⟩ : ∃ n, n = l.length := ⟨_, rfl⟩
  rw [← hnn] at hl hc hW
  obtain ⟨f, hf⟩ : ∃ f, f = bindZ name value := ⟨_, rfl⟩
  have HT : Hid (∀ (x : Lz) W, x ∈ l → Calls Tryd.prog 37 #[.string x.text, .string name, .string value] W fun e w' => e = .returned (.string (f x).text) ∧ Below W.heap.size W w') := fun x W hx => by
    rw [hf]; exact rbind_any x.text name value W (hz x hx).1 hn hv (hz x hx).2
  have HW : Hid (n = l.length ∧ LZ w.heap.size w (.slice a n c) l ∧ ∀ x, (f x).at_ = x.at_ ∧ (f x).cmd = x.cmd) := ⟨hnn, hW, fun x => by rw [hf]; exact ⟨rfl, rfl⟩⟩
  rw [← hnn, ← hf]
  clear hnn hW hf hz
  go_enter Tryd.func20, Tryd.ntmps20
  go_wp2
  go_loopw [7, 8] (fun v vi wr => ∃ k : Nat, k ≤ n ∧ vi = .int .i64 (k : Int) ∧ wr.ownsRow w.heap.size 37 3 v k (lzsV ((l.take k).map f)) ∧ Below w.heap.size w wr) (fun _ vi _ => n - (intOf vi).toNat)
  case atStart => exact ⟨0, Nat.zero_le _, rfl, owns_nil _ _ _ _, Below.refl _ _⟩
  case round =>
    obtain ⟨k, hk, rfl, hown, hb⟩ := hrel
    have hbs := hb.size
    by_cases hlt : k < n
    · have hil : (k : Int) < (n : Int) := by omega
      have hkl : k < l.length := by rw [← HW.out.1]; exact hlt
      obtain ⟨x, hx⟩ : ∃ x, l[k]? = some x := ⟨_, List.getElem?_eq_getElem hkl⟩
      obtain ⟨b, o, rfl, hbB, d0, d1, d2⟩ := HW.out.2.1.pick hx
      have c0 := (hb.cell (p := ⟨b, o + k * 3, none⟩) hbB).trans d0
      have c1 := (hb.cell (p := ⟨b, o + k * 3 + 1, none⟩) hbB).trans d1
      have c2 := (hb.cell (p := ⟨b, o + k * 3 + 2, none⟩) hbB).trans d2
      have HTx := fun W => HT.out x W (List.mem_of_getElem? hx)
      obtain ⟨y, hy⟩ : ∃ y, y = (f x).text := ⟨_, rfl⟩
      rw [← hy] at HTx
      have HSN : Hid (lzsV ((l.take (k + 1)).map f) = lzsV ((l.take k).map f) ++ [.string y, .int .i64 x.at_, .bool x.cmd]) := by
        unfold Hid
        rw [lz_map_snoc f l k x hx]
        unfold lzC
        rw [hy, (HW.out.2.2 x).1, (HW.out.2.2 x).2]
      clear d0 d1 d2 hx hbB hy
      obtain ⟨xt, xa, xc⟩ := x
      simp only at c0 c1 c2 HTx HSN
      have HTx : Hid (∀ W : World, Calls Tryd.prog 37 #[.string xt, .string name, .string value] W fun e w' => e = .returned (.string y) ∧ Below W.heap.size W w') := HTx
      go_wp2_with fail
      refine (HTx.out _).mono ?_
      rintro e w2 ⟨rfl, h2⟩
      have z2 : w2.heap[wr.heap.size]? = some (.cells #[.string xt, .int .i64 xa, .bool xc] 37 (0, 0)) := (h2.block _ (by simp)).trans (alloc_last _ _)
      have hw1 := hb.alloc (o := .cells #[.string xt, .int .i64 xa, .bool xc] 37) hbs
      have hown2 := owns_below (hown.alloc _) h2
      have hb2 : Below w.heap.size w w2 := hw1.trans (h2.mono hw1.size)
      have hbl2 : wr.heap.size < w2.heap.size := (Array.getElem?_eq_some_iff.1 z2).1
      have f0 := cell_in z2 0 rfl
      have f1 := cell_in z2 1 rfl
      have f2 := cell_in z2 2 rfl
      have f3 : w2.frozen? ⟨wr.heap.size, 0, none⟩ = false := by simp [World.frozen?, z2]
      obtain ⟨w4, hw4⟩ : ∃ w4, w4 = w2.setCell ⟨wr.heap.size, 0, none⟩ (.string y) := ⟨_, rfl⟩
      have hne : ∀ g, u7.ownBlock = some g → g ≠ wr.heap.size := fun g hg => by have := (hown.lt g hg).2; omega
      have hown4 : w4.ownsRow w.heap.size 37 3 u7 k (lzsV ((l.take k).map f)) := by rw [hw4]; exact row_set hown2 (fun e => hne _ e rfl) _
      have hb4 : Below w.heap.size w w4 := by rw [hw4]; exact hb2.setCell (p := ⟨wr.heap.size, 0, none⟩) hbs _
      have hs4 : w4.heap.size = w2.heap.size := by rw [hw4]; exact size_set _ _ _
      clear h2 hw1 hown hb c0 c1 c2 z2 hown2 hb2 hne
      go_wp2_with (at_builtin; rw [← hw4]; refine wpList_append_own _ rfl _ _ 22 rfl w.heap.size 37 i0 (.agg #[.string ⟨#[]⟩, .int .i64 0, .bool false]) 3 32 Tryd.underlying22 hi hz0 hz1 hz2 rfl (by decide) _ _ _ rfl (hown4.alloc _) ⟨w4.heap.size, 0, none⟩ 1 1 [.string y, .int .i64 xa, .bool xc] (by rw [hs4]; rfl) rfl ?c1 ?c2 ?c3 ?c4 ?c5 ?_)
      case c1 =>
        intro j u hj
        rw [add_none, Nat.zero_add]
        exact cell_in (cs := #[.string y, .int .i64 xa, .bool xc]) (T := 37) (alloc_last _ _) j (by simpa using hj)
      case c2 => exact fun u hu => lz_one ⟨y, xa, xc⟩ u hu
      case c3 => unfold maxLen; omega
      case c4 => omega
      case c5 => simp; omega
      intro v' w3 hown' hgrow _
      rw [← hw4] at hgrow
      have hb3 : Below w.heap.size w w3 := (hb4.alloc (by omega) _).grown hgrow (by simp; omega) (fun k hk => (hown4.lt k hk).1)
      have hown3 : w3.ownsRow w.heap.size 37 3 v' (k + 1) (lzsV ((l.take (k + 1)).map f)) := by
        rw [HSN.out, List.map_take]; exact hown'
      clear hown' hgrow hown4 hb4 hw4 f0 f1 f2 f3
      go_wp2
      go_roundw
      case rel => exact ⟨k + 1, by omega, by go_num, hown3, hb3⟩
      case measure => simp [intOf]; omega
    · obtain rfl : k = n := by omega
      have HO2 : Hid (wr.ownsRow w.heap.size 37 3 u7 k (lzsV (l.map f))) := by
        have h := hown
        rw [HW.out.1, List.take_length] at h
        rw [HW.out.1]; exact h
      clear hown
      go_wp2
      go_ret
      exact ⟨_, rfl, HO2.out, hb⟩

set_option maxRecDepth 20000 in
set_option maxHeartbeats 1600000 in
theorem binds_law (v : Value) (l : List Lz) (name value : ByteArray) (w : World) (hl : l.length ≤ 9223372036854775807) (hs : ∀ x ∈ l, x.text.size ≤ 9223372036854775807) (hns : name.size ≤ 140737488355328) (hvs : value.size ≤ 140737488355328) (hW : LZ w.heap.size w v l) (hm : Mx w) :
    Calls Tryd.prog 4 #[v, .string name, .string value] w fun e w' => e = .returned (.bool true) ∧ Below w.heap.size w w' := by
  have HA : Hid (∀ W, Below w.heap.size w W → Calls Tryd.prog 9 #[] W fun e w' => e = .returned (.bool true) ∧ Below w.heap.size w w') := fun W hW => (alive_any W (hm.below hW hm.pos)).mono fun e w' h => ⟨h.1, hW.trans (h.2.mono hW.size)⟩
  have HFA : Hid (Calls Tryd.prog 8 #[v] w fun e w' => e = .returned (.bool (farZ l)) ∧ Below w.heap.size w w') := far_any v l w hl hs hW
  have hsum : (name.size : Int) + (value.size : Int) ≤ 281474976710656 := by omega
  by_cases hfar : farZ l = true
  · rw [hfar] at HFA
    clear hfar
    go_enter Tryd.func4, Tryd.ntmps4
    go_wp2_with fail
    refine HFA.out.mono ?_
    rintro e w1 ⟨rfl, h1⟩
    have H1 : Hid _ := h1
    clear h1
    go_wp2_with fail
    refine (HA.out _ H1.out).mono ?_
    rintro e w2 ⟨rfl, h2⟩
    have H2 : Hid _ := h2
    clear h2
    go_wp2
    go_ret
    exact ⟨rfl, H2.out⟩
  have hfar2 : farZ l = false := by cases h : farZ l with | true => exact absurd h hfar | false => rfl
  rw [hfar2] at HFA
  by_cases hbig : 500 < name.size + value.size
  · have hbi : (500 : Int) < (name.size : Int) + (value.size : Int) := by omega
    clear hfar hfar2 hbig
    go_enter Tryd.func4, Tryd.ntmps4
    go_wp2_with fail
    refine HFA.out.mono ?_
    rintro e w1 ⟨rfl, h1⟩
    have H1 : Hid _ := h1
    clear h1
    go_wp2_with fail
    refine (HA.out _ H1.out).mono ?_
    rintro e w2 ⟨rfl, h2⟩
    have H2 : Hid _ := h2
    clear h2
    go_wp2
    go_ret
    exact ⟨rfl, H2.out⟩
  have hbi : ¬ (500 : Int) < (name.size : Int) + (value.size : Int) := by omega
  obtain ⟨hl4, hs4⟩ := far_no hfar2
  have hn5 : name.size ≤ 500 := by omega
  have hv5 : value.size ≤ 500 := by omega
  have hz4 : ∀ x ∈ l, x.text.size ≤ 1000000 ∧ (2 * value.size + 1) * x.text.size ≤ 500000000 := fun x hx => by
    have h1 := hs4 x hx
    have h2 : (2 * value.size + 1) * x.text.size ≤ 1001 * 2000 := Nat.mul_le_mul (by omega) h1
    omega
  obtain ⟨L, hL⟩ : ∃ L, L = l.map (bindZ name value) := ⟨_, rfl⟩
  have hLl : L.length = l.length := by rw [hL, List.length_map]
  have HTB : Hid (∀ W, Below w.heap.size w W → Calls Tryd.prog 11 #[v] W fun e w' => ∃ v', e = .returned v' ∧ LZ w'.heap.size w' v' l ∧ Below w.heap.size w w') := fun W hWb =>
    (theirs_any v l W (by omega) ((hW.below hWb).mono hWb.size)).mono fun e w' ⟨v', h1, h2, h3⟩ => ⟨v', h1, lz_of_owns h2 (Nat.le_refl _), hWb.trans (h3.mono hWb.size)⟩
  have HBI : Hid (∀ (u : Value) (W : World), Below w.heap.size w W → LZ W.heap.size W u l → Calls Tryd.prog 19 #[u, .string name, .string value] W fun e w' => ∃ v', e = .returned v' ∧ LZ w'.heap.size w' v' L ∧ Below w.heap.size w w') := fun u W hWb hu =>
    (bind_any u l name value W (hm.below hWb hm.pos) (by omega) (by omega) (by omega) hz4 hu).mono fun e w' ⟨v', h1, h2, h3⟩ => ⟨v', h1, lz_of_owns (by rw [hLl, hL]; exact h2) (Nat.le_refl _), hWb.trans (h3.mono hWb.size)⟩
  have HOU : Hid (∀ (u : Value) (W : World), Below w.heap.size w W → LZ W.heap.size W u L → Calls Tryd.prog 18 #[u] W fun e w' => ∃ v', e = .returned v' ∧ LZ w'.heap.size w' v' L ∧ Below w.heap.size w w') := fun u W hWb hu =>
    (ours_any u L W (by omega) hu).mono fun e w' ⟨v', h1, h2, h3⟩ => ⟨v', h1, lz_of_owns h2 (Nat.le_refl _), hWb.trans (h3.mono hWb.size)⟩
  have HRB : Hid (∀ (u : Value) (W : World), Below w.heap.size w W → LZ W.heap.size W u L → Calls Tryd.prog 20 #[v, .string name, .string value] W fun e w' => ∃ v', e = .returned v' ∧ LZ w'.heap.size w' v' L ∧ LZ w'.heap.size w' u L ∧ Below w.heap.size w w') := fun u W hWb hu =>
    (rBind_any v l name value W (by omega) (by omega) (by omega) hz4 ((hW.below hWb).mono hWb.size)).mono fun e w' ⟨v', h1, h2, h3⟩ => ⟨v', h1, lz_of_owns (by rw [hLl, hL]; exact h2) (Nat.le_refl _), (hu.below h3).mono h3.size, hWb.trans (h3.mono hWb.size)⟩
  have HSM : Hid (∀ (u1 u2 : Value) (W : World), Below w.heap.size w W → LZ W.heap.size W u1 L → LZ W.heap.size W u2 L → Calls Tryd.prog 17 #[u1, u2] W fun e w' => e = .returned (.bool true) ∧ Below w.heap.size w w') := fun u1 u2 W hWb h1 h2 =>
    (rsame_any u1 u2 L L W.heap.size W (by omega) (by omega) h1 h2).mono fun e w' ⟨b, p1, p2, p3⟩ => ⟨by rw [p1, p2.2 rfl], hWb.trans (p3.mono hWb.size)⟩
  clear hfar hfar2 hbig hl4 hs4 hs hl hW hm hz4 hL hLl
  go_enter Tryd.func4, Tryd.ntmps4
  go_wp2_with fail
  refine HFA.out.mono ?_
  rintro e w1 ⟨rfl, h1⟩
  have H1 : Hid _ := h1
  clear h1
  go_wp2_with fail
  refine (HTB.out _ H1.out).mono ?_
  rintro e w2 ⟨v1, rfl, h2, h3⟩
  have H2 : Hid (LZ w2.heap.size w2 v1 l ∧ Below w.heap.size w w2) := ⟨h2, h3⟩
  clear h2 h3
  go_wp2_with fail
  refine (HBI.out v1 _ H2.out.2 H2.out.1).mono ?_
  rintro e w3 ⟨v2, rfl, h2, h3⟩
  have H3 : Hid (LZ w3.heap.size w3 v2 L ∧ Below w.heap.size w w3) := ⟨h2, h3⟩
  clear h2 h3
  go_wp2_with fail
  refine (HOU.out v2 _ H3.out.2 H3.out.1).mono ?_
  rintro e w4 ⟨v3, rfl, h2, h3⟩
  have H4 : Hid (LZ w4.heap.size w4 v3 L ∧ Below w.heap.size w w4) := ⟨h2, h3⟩
  clear h2 h3
  go_wp2_with fail
  refine (HRB.out v3 _ H4.out.2 H4.out.1).mono ?_
  rintro e w5 ⟨v4, rfl, h2, h3, h4⟩
  have H5 : Hid (LZ w5.heap.size w5 v4 L ∧ LZ w5.heap.size w5 v3 L ∧ Below w.heap.size w w5) := ⟨h2, h3, h4⟩
  clear h2 h3 h4
  go_wp2_with fail
  refine (HSM.out v3 v4 _ H5.out.2.2 H5.out.2.1 H5.out.1).mono ?_
  rintro e w6 ⟨rfl, h6⟩
  have H6 : Hid _ := h6
  clear h6
  go_wp2_with fail
  refine (HA.out _ H6.out).mono ?_
  rintro e w7 ⟨rfl, h7⟩
  have H7 : Hid _ := h7
  clear h7
  go_wp2
  go_ret
  exact ⟨rfl, H7.out⟩
end Go.Proofs.YtllpbehhbpefjaaDoor
