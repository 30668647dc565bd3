/-
  What the document's own Clean and Join answer: as the program's; PathCleans is true at any path and any list of paths.
-/
import Derived.Test.YtpcadgddgmepkaaRefB
import Derived.Test.YtpcadgddgmepkaaStays
namespace Go.Proofs.Ytpcadgddgmepkaa
open Go.RowKit Go.Shelf

theorem parts_elem (p : ByteArray) (i : Nat) (h : i < (parts p).length) : ((parts p)[i]).size ≤ p.size := by
  have hm : (parts p)[i] ∈ parts p := List.getElem_mem h
  generalize (parts p)[i] = x at hm ⊢
  unfold parts at hm
  obtain ⟨y, hy, rfl⟩ := List.mem_map.1 hm
  have := G.parts_mem_length hy
  rw [← bl_length, bl_ba, ← bl_length p]; exact this

theorem rjoin_own (v : Value) (xs : List ByteArray) (base : Nat) (w : World) (h : w.ownsRow base 9 1 v xs.length (xs.map Value.string)) (hn : xs.length ≤ 1000001) (hx : ∀ i (h : i < xs.length), (xs[i]).size ≤ 1000000) :
    Calls Try.prog 30 #[v, .string ⟨#[47]⟩] w fun e w' => e = .returned (.string (ba (G.joinL (xs.map bl)))) ∧ w' = w := by
  obtain ⟨a, cap, rfl⟩ := owns_slice h
  exact rjoin_any a xs.length cap _ xs w hn hx (words_of_owns h (Nat.le_refl _))

set_option maxHeartbeats 400000 in
theorem rclean_any (p : ByteArray) (w : World) (hp : p.size ≤ 1000000) :
    Calls Try.prog 12 #[.string p] w fun e w' => e = .returned (.string (ba (G.cleanL (bl p)))) ∧ Below w.heap.size w w' := by
  have HP : Hid (∀ W, Calls Try.prog 15 #[.string p] W fun e w' => ∃ v, e = .returned v ∧ w'.ownsRow W.heap.size 9 1 v (parts p).length ((parts p).map Value.string) ∧ Below W.heap.size W w') := fun W => rparts_any p W hp
  obtain ⟨j, hj⟩ : ∃ j, j = ba (G.joinL (G.partsL (bl p))) := ⟨_, rfl⟩
  have HJ : Hid (∀ v W base, W.ownsRow base 9 1 v (parts p).length ((parts p).map Value.string) → Calls Try.prog 30 #[v, .string ⟨#[47]⟩] W fun e w' => e = .returned (.string j) ∧ W = w') := by
    intro v W base h
    have h1 := parts_len p
    have := rjoin_own v (parts p) base W h (by omega) (fun i hi => Nat.le_trans (parts_elem p i hi) hp)
    rw [map_bl_parts, ← hj] at this
    exact this.mono fun e w' h => ⟨h.1, h.2.symm⟩
  obtain ⟨r, hr⟩ : ∃ r, r = G.rootedL (bl p) := ⟨_, rfl⟩
  have HR : Hid (∀ W, Calls Try.prog 31 #[.string p] W fun e w' => e = .returned (.bool r) ∧ W = w') := by
    intro W; rw [hr]; exact (rooted_any p W).mono fun e w' h => ⟨h.1, h.2.symm⟩
  have HC : Hid (ba (G.cleanL (bl p)) = if r then ⟨#[47]⟩ ++ j else if j = E then dotB else j) := by
    unfold Hid G.cleanL G.cleanOf
    rw [← hr, hj, ba_cons]
    cases r
    · by_cases he : G.joinL (G.partsL (bl p)) = []
      · rw [he]; rfl
      · have hb : ba (G.joinL (G.partsL (bl p))) ≠ E := fun e => he (ba_inj (e.trans ba_nil.symm))
        simp [he, hb]
    · rfl
  have hjs : j.size ≤ 2000000000000 := by
    have h2 := G.join_parts_length (bl p) (by rw [bl_length]; exact hp)
    rw [← bl_length, hj, bl_ba]; exact h2
  clear hj hr
  cases r
  · by_cases he : j = E
    · subst he
      go_enter Try.func12, Try.ntmps12
      go_wp2_with fail
      refine (HP.out _).mono ?_
      rintro e w1 ⟨v, rfl, hown, hb⟩
      have HO : Hid (w1.ownsRow w.heap.size 9 1 v (parts p).length ((parts p).map Value.string)) := hown
      clear hown
      go_wp2_with fail
      refine (HJ.out _ _ _ HO.out).mono ?_
      rintro e w' ⟨rfl, rfl⟩
      clear HO
      go_wp2_with fail
      refine (HR.out _).mono ?_
      rintro e w' ⟨rfl, rfl⟩
      go_wp2
      go_ret
      exact ⟨ret_str (by rw [HC.out]; rfl), hb⟩
    · have t1 : ¬ j.toList = [] := by rw [Lib.toList_data]; exact fun e => he (bl_E.1 e)
      have t1' : j.toList.isEmpty = false := by simpa using t1
      go_enter Try.func12, Try.ntmps12
      go_wp2_with fail
      refine (HP.out _).mono ?_
      rintro e w1 ⟨v, rfl, hown, hb⟩
      have HO : Hid (w1.ownsRow w.heap.size 9 1 v (parts p).length ((parts p).map Value.string)) := hown
      clear hown
      go_wp2_with fail
      refine (HJ.out _ _ _ HO.out).mono ?_
      rintro e w' ⟨rfl, rfl⟩
      clear HO
      go_wp2_with fail
      refine (HR.out _).mono ?_
      rintro e w' ⟨rfl, rfl⟩
      go_wp2
      go_ret
      exact ⟨ret_str (by rw [HC.out, if_neg (by simp), if_neg he]), hb⟩
  · go_enter Try.func12, Try.ntmps12
    go_wp2_with fail
    refine (HP.out _).mono ?_
    rintro e w1 ⟨v, rfl, hown, hb⟩
    have HO : Hid (w1.ownsRow w.heap.size 9 1 v (parts p).length ((parts p).map Value.string)) := hown
    clear hown
    go_wp2_with fail
    refine (HJ.out _ _ _ HO.out).mono ?_
    rintro e w' ⟨rfl, rfl⟩
    clear HO
    go_wp2_with fail
    refine (HR.out _).mono ?_
    rintro e w' ⟨rfl, rfl⟩
    go_wp2
    go_ret
    exact ⟨ret_str (by rw [HC.out]; rfl), hb⟩

theorem told_elem (l : List ByteArray) (m : Nat) (hx : ∀ i (h : i < l.length), (l[i]).size ≤ m) (i : Nat) (h : i < (told l).length) : ((told l)[i]).size ≤ m := by
  have hm : (told l)[i] ∈ told l := List.getElem_mem h
  generalize (told l)[i] = x at hm ⊢
  obtain ⟨j, hj, rfl⟩ := List.getElem_of_mem (List.mem_filter.1 hm).1
  exact hx j hj

set_option maxHeartbeats 1600000 in
set_option maxRecDepth 20000 in
theorem rjoinp_any (a : Option Addr) (n c : Nat) (l : List ByteArray) (w : World) (hl : n ≤ 100) (hx : ∀ i (h : i < l.length), (l[i]).size ≤ 3000) (hw : Words w.heap.size w (.slice a n c) l) :
    Calls Try.prog 17 #[.slice a n c] w fun e w' => e = .returned (.string (ba (G.cleanL (bl (joined l))))) ∧ Below w.heap.size w w' := by
  obtain ⟨i0, hi, hz0, hz1, hz2⟩ := info_parts Try.info9
  have HW : Hid (n = l.length ∧ Words w.heap.size w (.slice a n c) l) := ⟨hw.len, hw⟩
  have hjs := joined_size l (by rw [← hw.len]; exact hl) hx
  obtain ⟨j, hj⟩ : ∃ j, j = joined l := ⟨_, rfl⟩
  have HJ : Hid (∀ v W base, W.ownsRow base 9 1 v (told l).length ((told l).map Value.string) → Calls Try.prog 30 #[v, .string ⟨#[47]⟩] W fun e w' => e = .returned (.string j) ∧ W = w') := by
    intro v W base h
    have h1 : (told l).length ≤ l.length := List.length_filter_le neE l
    have h3 := hw.len
    have := rjoin_own v (told l) base W h (by omega) (fun i hi => Nat.le_trans (told_elem l 3000 hx i hi) (by omega))
    rw [hj]; exact this.mono fun e w' h => ⟨h.1, h.2.symm⟩
  obtain ⟨z, hz⟩ : ∃ z, z = ba (G.cleanL (bl j)) := ⟨_, rfl⟩
  have HC : Hid (∀ W, Calls Try.prog 12 #[.string j] W fun e w' => e = .returned (.string z) ∧ Below W.heap.size W w') := by
    intro W; rw [hz]; exact rclean_any j W (by rw [hj]; omega)
  rw [← hj, ← hz]
  clear hw hx hjs hj hz
  go_enter Try.func17, Try.ntmps17
  go_wp2
  go_loopw [3, 4] (fun v vi wr => ∃ k : Nat, k ≤ n ∧ vi = .int .i64 k ∧ wr.ownsRow w.heap.size 9 1 v (told (l.take k)).length ((told (l.take k)).map Value.string) ∧ Below w.heap.size w wr)
    (fun _ vi _ => n - (intOf vi).toNat)
  case atStart => exact ⟨0, Nat.zero_le _, rfl, World.ownsRow_nil _ _ _ _, Below.refl _ _⟩
  case round =>
    obtain ⟨k, hk, rfl, hown, hb⟩ := hrel
    have hbs := hb.size
    by_cases hlt : k < n
    · have hkl : k < l.length := by rw [← HW.out.1]; exact hlt
      have hfl := told_len l k
      rw [← HW.out.1] at hfl
      have hil : (k : Int) < (n : Int) := by omega
      obtain ⟨b, o, rfl, hbB, hcx0⟩ := HW.out.2.pick k hkl
      obtain ⟨x, hxe⟩ : ∃ x, x = l[k] := ⟨_, rfl⟩
      have hcx : wr.cell? ⟨b, o + k, none⟩ = some (.string x) := by rw [hb.cell (p := ⟨b, o + k, none⟩) hbB, hxe]; exact hcx0
      have HF : Hid (told (l.take (k + 1)) = told (l.take k) ++ (if neE x then [x] else [])) := by
        rw [hxe]; exact told_snoc l k hkl
      clear hxe hcx0
      by_cases hxE : x = E
      · subst hxE
        have HF2 : Hid (told (l.take (k + 1)) = told (l.take k)) := by rw [HF.out]; simp [neE, Hid]
        clear HF
        go_wp2
        go_roundw
        case rel => exact ⟨k + 1, by omega, by go_num, by rw [HF2.out]; exact hown, hb⟩
        case measure => simp [intOf]; omega
      · have HF2 : Hid (told (l.take (k + 1)) = told (l.take k) ++ [x]) := by rw [HF.out]; simp [neE, Hid, hxE]
        have t1 : ¬ x.toList = [] := by rw [Lib.toList_data]; exact fun e => hxE (bl_E.1 e)
        have t1' : x.toList.isEmpty = false := by simpa using t1
        clear HF hxE
        go_wp2_with (at_builtin; refine wpList_append_own _ rfl _ _ 22 rfl w.heap.size 9 i0 (.string ⟨#[]⟩) 1 16 Try.underlying22 hi hz0 hz1 hz2 rfl (by decide) _ _ _ rfl (hown.alloc _) ⟨wr.heap.size, 0, none⟩ 1 1 [.string x] rfl rfl ?c1 ?c2 ?c3 ?c4 ?c5 ?_)
        case c1 => exact cell_one_new _ _ _
        case c2 => intro u hu; simp at hu; subst hu; rfl
        case c3 => unfold maxLen; omega
        case c4 => omega
        case c5 => simp; omega
        intro v' w2 hown' hgrow _
        have hb3 : Below w.heap.size w w2 := (hb.alloc hbs _).grown hgrow (by simp; omega) (fun k hk => (hown.lt k hk).1)
        have hown2 : w2.ownsRow w.heap.size 9 1 v' (told (l.take (k + 1))).length ((told (l.take (k + 1))).map Value.string) := by
          rw [HF2.out]; simpa using hown'
        clear hown' hgrow hown hb hcx
        go_wp2
        go_roundw
        case rel => exact ⟨k + 1, by omega, by go_num, hown2, hb3⟩
        case measure => simp [intOf]; omega
    · obtain rfl : k = n := by omega
      have HO : Hid (wr.ownsRow w.heap.size 9 1 u3 (told l).length ((told l).map Value.string)) := by
        have h := hown
        rw [HW.out.1, List.take_length] at h; exact h
      clear hown
      go_wp2_with fail
      refine (HJ.out _ _ _ HO.out).mono ?_
      rintro e w' ⟨rfl, hw'⟩
      rw [← hw']
      clear HO hw' w'
      go_wp2_with fail
      refine (HC.out _).mono ?_
      rintro e w3 ⟨rfl, hb4⟩
      go_wp2
      go_ret
      exact ⟨rfl, hb.trans (hb4.mono hbs)⟩

set_option maxHeartbeats 400000 in
theorem cleans_near (p : ByteArray) (a : Option Addr) (n c : Nat) (l : List ByteArray) (w : World) (hp : p.size ≤ 3000) (hn : n ≤ 50) (hf : farL l = false) (hw : Words w.heap.size w (.slice a n c) l) :
    Calls Try.prog 3 #[.string p, .slice a n c] w fun e w' => e = .returned (.bool true) ∧ Below w.heap.size w w' := by
  have HF : Hid (∀ W : World, Calls Try.prog 9 #[.slice (some ⟨W.heap.size, 0, none⟩) 1 1] (W.alloc (.cells #[.string p] 9)) fun e w' => e = .returned (.bool false) ∧ w' = W.alloc (.cells #[.string p] 9)) := by
    intro W; have := far_one p W; rw [decide_eq_false (by omega)] at this; exact this
  have HL : Hid (∀ W : World, Below w.heap.size w W → Calls Try.prog 9 #[.slice a n c] W fun e w' => e = .returned (.bool false) ∧ W = w') := by
    intro W hb
    have := far_any a n c _ l W (by omega) (hw.below hb)
    rw [hf] at this
    exact this.mono fun e w' h => ⟨h.1, h.2.symm⟩
  obtain ⟨z, hz⟩ : ∃ z, z = ba (G.cleanL (bl p)) := ⟨_, rfl⟩
  have H1 : Hid (∀ W, Calls Try.prog 11 #[.string p] W fun e w' => e = .returned (.string z) ∧ Below W.heap.size W w') := by
    intro W; rw [hz]; exact clean_any p W (by omega)
  have H2 : Hid (∀ W, Calls Try.prog 12 #[.string p] W fun e w' => e = .returned (.string z) ∧ Below W.heap.size W w') := by
    intro W; rw [hz]; exact rclean_any p W (by omega)
  obtain ⟨y, hy⟩ : ∃ y, y = ba (G.cleanL (bl (joined l))) := ⟨_, rfl⟩
  have H3 : Hid (∀ W : World, Below w.heap.size w W → Calls Try.prog 16 #[.slice a n c] W fun e w' => e = .returned (.string y) ∧ Below W.heap.size W w') := by
    intro W hb; rw [hy]; exact joinp_any a n c l W (by omega) (farL_no hf) ((hw.below hb).mono hb.size)
  have H4 : Hid (∀ W : World, Below w.heap.size w W → Calls Try.prog 17 #[.slice a n c] W fun e w' => e = .returned (.string y) ∧ Below W.heap.size W w') := by
    intro W hb; rw [hy]; exact rjoinp_any a n c l W (by omega) (farL_no hf) ((hw.below hb).mono hb.size)
  have HP : Hid (∀ W, Calls Try.prog 14 #[.string p] W fun e w' => ∃ v, e = .returned v ∧ Words w'.heap.size w' v (parts p) ∧ Below W.heap.size W w') := by
    intro W
    refine (parts_any p W (by omega)).mono ?_
    rintro e w' ⟨v, rfl, h, hb⟩; exact ⟨v, rfl, words_of_owns h (Nat.le_refl _), hb⟩
  have HQ : Hid (∀ W, Calls Try.prog 15 #[.string p] W fun e w' => ∃ v, e = .returned v ∧ Words w'.heap.size w' v (parts p) ∧ Below W.heap.size W w') := by
    intro W
    refine (rparts_any p W (by omega)).mono ?_
    rintro e w' ⟨v, rfl, h, hb⟩; exact ⟨v, rfl, words_of_owns h (Nat.le_refl _), hb⟩
  have hpl : (parts p).length ≤ 1000000 := by have := parts_len p; omega
  clear hz hy hw hf
  go_enter Try.func3, Try.ntmps3
  go_wp2_with fail
  refine (HF.out _).mono ?_
  rintro e w0 ⟨rfl, hw0⟩
  have hb0 : Below w.heap.size w w0 := by rw [hw0]; exact (Below.refl _ w).alloc (Nat.le_refl _) _
  have s0 := hb0.size
  clear hw0
  go_wp2_with fail
  refine (HL.out _ hb0).mono ?_
  rintro e w' ⟨rfl, hw'⟩
  rw [← hw']
  clear hw' w'
  go_wp2_with fail
  refine (H1.out _).mono ?_
  rintro e w1 ⟨rfl, hb1⟩
  have hb := hb0.trans (hb1.mono s0)
  have s1 := hb.size
  clear hb0 hb1 s0
  go_wp2_with fail
  refine (H2.out _).mono ?_
  rintro e w2 ⟨rfl, hb2⟩
  have hb3 := hb.trans (hb2.mono s1)
  have s3 := hb3.size
  clear hb hb2 s1
  go_wp2_with fail
  refine (HP.out _).mono ?_
  rintro e w4 ⟨v1, rfl, hv1, hb4⟩
  have HV1 : Hid (Words w4.heap.size w4 v1 (parts p)) := hv1
  have hb5 := hb3.trans (hb4.mono s3)
  have s5 := hb5.size
  clear hv1 hb3 hb4 s3
  go_wp2_with fail
  refine (HQ.out _).mono ?_
  rintro e w6 ⟨v2, rfl, hv2, hb6⟩
  have HV2 : Hid (Words w4.heap.size w6 v1 (parts p) ∧ Words w6.heap.size w6 v2 (parts p)) := ⟨HV1.out.below hb6, hv2⟩
  have hb7 := hb5.trans (hb6.mono s5)
  have s7 := hb7.size
  clear hv2 hb5 hb6 s5 HV1
  go_wp2_with fail
  refine (same_any _ v1 v2 _ _ _ hpl HV2.out.1 HV2.out.2).mono ?_
  rintro e w8 ⟨rfl, m8, hw8⟩
  have hb9 : Below w.heap.size w w8 := by rw [hw8]; exact below_drewN hb7 _
  have s9 := hb9.size
  clear hw8 hb7 s7 HV2
  go_wp2_with fail
  refine (H3.out _ hb9).mono ?_
  rintro e w10 ⟨rfl, hb10⟩
  have hb11 := hb9.trans (hb10.mono s9)
  have s11 := hb11.size
  clear hb9 hb10 s9
  go_wp2_with fail
  refine (H4.out _ hb11).mono ?_
  rintro e w12 ⟨rfl, hb12⟩
  have hb13 := hb11.trans (hb12.mono s11)
  have s13 := hb13.size
  clear hb11 hb12 s11
  go_wp2_with fail
  refine (alive_any _).mono ?_
  rintro e w14 ⟨rfl, hb14⟩
  go_wp2
  go_ret
  exact ⟨rfl, hb13.trans (hb14.mono s13)⟩

set_option maxHeartbeats 400000 in
theorem cleans_law (p : ByteArray) (a : Option Addr) (n c : Nat) (l : List ByteArray) (w : World) (hn : n ≤ 140737488355328) (hw : Words w.heap.size w (.slice a n c) l) :
    Calls Try.prog 3 #[.string p, .slice a n c] w fun e w' => e = .returned (.bool true) ∧ Below w.heap.size w w' := by
  by_cases hp : 3000 < p.size
  · have HF : Hid (∀ W : World, Calls Try.prog 9 #[.slice (some ⟨W.heap.size, 0, none⟩) 1 1] (W.alloc (.cells #[.string p] 9)) fun e w' => e = .returned (.bool true) ∧ w' = W.alloc (.cells #[.string p] 9)) := by
      intro W; have := far_one p W; rw [decide_eq_true hp] at this; exact this
    clear hw
    go_enter Try.func3, Try.ntmps3
    go_wp2_with fail
    refine (HF.out _).mono ?_
    rintro e w' ⟨rfl, rfl⟩
    go_wp2_with fail
    refine (alive_any _).mono ?_
    rintro e w1 ⟨rfl, hb1⟩
    go_wp2
    go_ret
    exact ⟨rfl, below_alloc hb1⟩
  · have HF : Hid (∀ W : World, Calls Try.prog 9 #[.slice (some ⟨W.heap.size, 0, none⟩) 1 1] (W.alloc (.cells #[.string p] 9)) fun e w' => e = .returned (.bool false) ∧ w' = W.alloc (.cells #[.string p] 9)) := by
      intro W; have := far_one p W; rw [decide_eq_false hp] at this; exact this
    cases hf : farL l
    · by_cases h50 : n ≤ 50
      · exact cleans_near p a n c l w (by omega) h50 hf hw
      · have h50I : (50 : Int) < (n : Int) := by omega
        have HL : Hid (∀ W : World, Below w.heap.size w W → Calls Try.prog 9 #[.slice a n c] W fun e w' => e = .returned (.bool false) ∧ W = w') := by
          intro W hb
          have := far_any a n c _ l W hn (hw.below hb)
          rw [hf] at this
          exact this.mono fun e w' h => ⟨h.1, h.2.symm⟩
        clear hw hf
        go_enter Try.func3, Try.ntmps3
        go_wp2_with fail
        refine (HF.out _).mono ?_
        rintro e w0 ⟨rfl, hw0⟩
        have hb0 : Below w.heap.size w w0 := by rw [hw0]; exact (Below.refl _ w).alloc (Nat.le_refl _) _
        have s0 := hb0.size
        clear hw0
        go_wp2_with fail
        refine (HL.out _ hb0).mono ?_
        rintro e w' ⟨rfl, hw'⟩
        rw [← hw']
        clear hw' w'
        go_wp2_with fail
        refine (alive_any _).mono ?_
        rintro e w1 ⟨rfl, hb1⟩
        go_wp2
        go_ret
        exact ⟨rfl, hb0.trans (hb1.mono s0)⟩
    · have HL : Hid (∀ W : World, Below w.heap.size w W → Calls Try.prog 9 #[.slice a n c] W fun e w' => e = .returned (.bool true) ∧ W = w') := by
        intro W hb
        have := far_any a n c _ l W hn (hw.below hb)
        rw [hf] at this
        exact this.mono fun e w' h => ⟨h.1, h.2.symm⟩
      clear hw hf
      go_enter Try.func3, Try.ntmps3
      go_wp2_with fail
      refine (HF.out _).mono ?_
      rintro e w0 ⟨rfl, hw0⟩
      have hb0 : Below w.heap.size w w0 := by rw [hw0]; exact (Below.refl _ w).alloc (Nat.le_refl _) _
      have s0 := hb0.size
      clear hw0
      go_wp2_with fail
      refine (HL.out _ hb0).mono ?_
      rintro e w' ⟨rfl, hw'⟩
      rw [← hw']
      clear hw' w'
      go_wp2_with fail
      refine (alive_any _).mono ?_
      rintro e w1 ⟨rfl, hb1⟩
      go_wp2
      go_ret
      exact ⟨rfl, hb0.trans (hb1.mono s0)⟩
end Go.Proofs.Ytpcadgddgmepkaa
