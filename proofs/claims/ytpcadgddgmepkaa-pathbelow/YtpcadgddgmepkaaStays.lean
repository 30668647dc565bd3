/-
  What PathStays and PathBack answer at any path: true; nothing that was there has turned.
-/
import Derived.Test.YtpcadgddgmepkaaAlive
namespace Go.Proofs.Ytpcadgddgmepkaa
open Go.RowKit Go.Shelf

namespace G
def wt (l : List Bs) : Nat := (l.map (fun x => x.length + 1)).sum
theorem wt_append (a b : List Bs) : wt (a ++ b) = wt a + wt b := by simp [wt]
theorem wt_one (x : Bs) : wt [x] = x.length + 1 := by simp [wt]
theorem wt_dropLast (k : List Bs) : wt k.dropLast ≤ wt k := by
  by_cases h : k = []
  · subst h; simp
  · have := List.dropLast_concat_getLast h
    conv => rhs; rw [← this]
    rw [wt_append]; omega
theorem wt_step (r : Bool) (k : List Bs) (x : Bs) : wt (stepL r k x) ≤ wt k + (x.length + 1) := by
  unfold stepL
  split
  · omega
  · split
    · rename_i hd
      split
      · have := wt_dropLast k; omega
      · split
        · omega
        · rw [wt_append, wt_one, hd]; omega
    · rw [wt_append, wt_one]; omega
theorem wt_fold (r : Bool) (l : List Bs) : wt (foldP r l) ≤ wt l := by
  refine snocInd (P := fun l => wt (foldP r l) ≤ wt l) ?_ ?_ l
  · simp [foldP, wt]
  · intro l x ih
    rw [foldP_snoc, wt_append, wt_one]
    have := wt_step r (foldP r l) x
    omega
theorem wt_split (s : Bs) : wt (splitL s) ≤ s.length + 1 := by
  induction s with
  | nil => simp [splitL, wt]
  | cons c s ih =>
    by_cases hc : c = 47
    · subst hc; rw [splitL_cons_eq]
      simp [wt] at ih ⊢; omega
    · obtain ⟨h, t, h1, h2⟩ := splitL_cons_ne hc s
      rw [h2]; rw [h1] at ih
      simp [wt] at ih ⊢; omega
theorem clean_length (p : Bs) : (cleanL p).length ≤ p.length + 2 := by
  have h1 : (joinL (partsL p)).length ≤ wt (partsL p) := joinL_mem_size _
  have h2 : wt (partsL p) ≤ wt (splitL p) := wt_fold _ _
  have h3 := wt_split p
  unfold cleanL cleanOf
  split
  · simp; omega
  · split
    · simp
    · omega
end G

theorem clean_size (p : ByteArray) : (ba (G.cleanL (bl p))).size ≤ p.size + 2 := by
  have := G.clean_length (bl p)
  rw [← bl_length, bl_ba, ← bl_length p]; exact this
theorem parts_clean (p : ByteArray) : parts (ba (G.cleanL (bl p))) = parts p := by
  unfold parts; rw [bl_ba, G.clean_parts]

theorem far_one (p : ByteArray) (W : World) : Calls Try.prog 9 #[.slice (some ⟨W.heap.size, 0, none⟩) 1 1] (W.alloc (.cells #[.string p] 9)) fun e w' => e = .returned (.bool (decide (3000 < p.size))) ∧ w' = W.alloc (.cells #[.string p] 9) := by
  refine (far_any (some ⟨W.heap.size, 0, none⟩) 1 1 _ [p] _ (by decide) (words_alloc W [p] 1)).mono ?_
  rintro e w' ⟨rfl, h⟩
  exact ⟨ret_bool (by simp [farL]), h⟩

set_option maxHeartbeats 400000 in
theorem stays_law (p : ByteArray) (w : World) (_hs : p.size ≤ 140737488355328) :
    Calls Try.prog 6 #[.string p] w fun e w' => e = .returned (.bool true) ∧ Below w.heap.size w w' := by
  by_cases hp : 3000 < p.size
  · have HF : Hid (∀ W : World, Calls Try.prog 9 #[.slice (some ⟨W.heap.size, 0, none⟩) 1 1] (W.alloc (.cells #[.string p] 9)) fun e w' => e = .returned (.bool true) ∧ w' = W.alloc (.cells #[.string p] 9)) := by
      intro W; have := far_one p W; rw [decide_eq_true hp] at this; exact this
    go_enter Try.func6, Try.ntmps6
    go_wp2_with fail
    refine (HF.out _).mono ?_
    rintro e w' ⟨rfl, rfl⟩
    go_wp2_with fail
    refine (alive_any _).mono ?_
    rintro e w1 ⟨rfl, hb1⟩
    go_wp2
    go_ret
    exact ⟨rfl, below_alloc hb1⟩
  · have HF : Hid (∀ W : World, Calls Try.prog 9 #[.slice (some ⟨W.heap.size, 0, none⟩) 1 1] (W.alloc (.cells #[.string p] 9)) fun e w' => e = .returned (.bool false) ∧ w' = W.alloc (.cells #[.string p] 9)) := by
      intro W; have := far_one p W; rw [decide_eq_false hp] at this; exact this
    obtain ⟨c, hc⟩ : ∃ c, c = ba (G.cleanL (bl p)) := ⟨_, rfl⟩
    have hcs : c.size ≤ 3002 := by have := clean_size p; rw [hc]; omega
    have HC : Hid (∀ W, Calls Try.prog 11 #[.string p] W fun e w' => e = .returned (.string c) ∧ Below W.heap.size W w') := by
      intro W; rw [hc]; exact clean_any p W (by omega)
    have HD : Hid (∀ W, Calls Try.prog 11 #[.string c] W fun e w' => e = .returned (.string c) ∧ Below W.heap.size W w') := by
      intro W
      have := clean_any c W (by omega)
      rw [hc, bl_ba, G.clean_again, ← hc] at this
      exact this
    have t1 : ¬ c.toList = [] := by rw [hc, toList_ba]; exact G.clean_ne _
    have t1' : c.toList.isEmpty = false := by simpa using t1
    have HP : Hid (∀ W, Calls Try.prog 14 #[.string p] W fun e w' => ∃ v, e = .returned v ∧ Words w'.heap.size w' v (parts p) ∧ Below W.heap.size W w') := by
      intro W
      refine (parts_any p W (by omega)).mono ?_
      rintro e w' ⟨v, rfl, h, hb⟩; exact ⟨v, rfl, words_of_owns h (Nat.le_refl _), hb⟩
    have HQ : Hid (∀ W, Calls Try.prog 14 #[.string c] W fun e w' => ∃ v, e = .returned v ∧ Words w'.heap.size w' v (parts p) ∧ Below W.heap.size W w') := by
      intro W
      refine (parts_any c W (by omega)).mono ?_
      rintro e w' ⟨v, rfl, h, hb⟩
      have e1 : parts c = parts p := by rw [hc]; exact parts_clean p
      rw [e1] at h
      exact ⟨v, rfl, words_of_owns h (Nat.le_refl _), hb⟩
    have hpl : (parts p).length ≤ 1000000 := by have := parts_len p; omega
    clear hc
    go_enter Try.func6, Try.ntmps6
    go_wp2_with fail
    refine (HF.out _).mono ?_
    rintro e w' ⟨rfl, rfl⟩
    go_wp2_with fail
    refine (HC.out _).mono ?_
    rintro e w1 ⟨rfl, hb1⟩
    have hb := below_alloc hb1
    have hbs := hb.size
    clear hb1
    go_wp2_with fail
    refine (HD.out _).mono ?_
    rintro e w2 ⟨rfl, hb2⟩
    have hb3 := hb.trans (hb2.mono hbs)
    have hbs3 := hb3.size
    clear hb hb2 hbs
    go_wp2_with fail
    refine (HQ.out _).mono ?_
    rintro e w4 ⟨v1, rfl, hv1, hb4⟩
    have HV1 : Hid (Words w4.heap.size w4 v1 (parts p)) := hv1
    have hb5 := hb3.trans (hb4.mono hbs3)
    have hbs5 := hb5.size
    clear hv1 hb3 hb4 hbs3
    go_wp2_with fail
    refine (HP.out _).mono ?_
    rintro e w6 ⟨v2, rfl, hv2, hb6⟩
    have HV2 : Hid (Words w4.heap.size w6 v1 (parts p) ∧ Words w6.heap.size w6 v2 (parts p)) := ⟨HV1.out.below hb6, hv2⟩
    have hb7 := hb5.trans (hb6.mono hbs5)
    have hbs7 := hb7.size
    clear hv2 hb5 hb6 hbs5 HV1
    go_wp2_with fail
    refine (same_any _ v1 v2 _ _ _ hpl HV2.out.1 HV2.out.2).mono ?_
    rintro e w8 ⟨rfl, m8, hw8⟩
    have hb9 : Below w.heap.size w w8 := by rw [hw8]; exact below_drewN hb7 _
    have hbs9 := hb9.size
    clear hw8 hb7 hbs7 HV2
    go_wp2_with fail
    refine (alive_any _).mono ?_
    rintro e w10 ⟨rfl, hb10⟩
    go_wp2
    go_ret
    exact ⟨rfl, hb9.trans (hb10.mono hbs9)⟩

theorem dir_size (p : ByteArray) (h : p.size ≤ 3000) : (dirB p).size ≤ 3000 := by
  unfold dirB
  split
  · decide
  · split
    · exact (by decide : (⟨#[47]⟩ : ByteArray).size ≤ 3000)
    · simp; omega
theorem name_nil {p : ByteArray} (hl : lastI p 47 = -1) : nameB p = p := by
  apply bl_inj; rw [bl_name, hl]; rfl
theorem free_of {p : ByteArray} (hl : lastI p 47 = -1) : 47 ∉ bl p := by
  rcases Lib.lastIndexByte_spec p 47 with ⟨_, h2⟩ | ⟨k, h1, h2, _⟩
  · intro hm
    obtain ⟨k, hk⟩ := List.getElem?_of_mem hm
    have hlt : k < p.size := by
      have := (List.getElem?_eq_some_iff.1 hk).1
      rwa [bl_length] at this
    exact h2 k hlt (by rw [data_bl p k _ hk]; rfl)
  · have h3 : lastI p 47 = k := h2
    omega
theorem split_at {p : ByteArray} {i : Nat} (hi : i < p.size) (hl : lastI p 47 = i) : bl p = (bl p).take i ++ 47 :: (bl p).drop (i + 1) := by
  have hv : p[i] = 47 := by
    rcases Lib.lastIndexByte_spec p 47 with ⟨h1, _⟩ | ⟨k, h1, h2, h3, _⟩
    · have h3 : lastI p 47 = -1 := h1
      omega
    · have h4 : lastI p 47 = k := h2
      obtain rfl : i = k := by omega
      rw [data_at p i hi] at h3
      have h5 : p[i].toNat = 47 := by omega
      exact UInt8.toNat_inj.mp h5
  have hb : (bl p)[i]'(by rw [bl_length]; exact hi) = 47 := hv
  have := List.drop_eq_getElem_cons (l := bl p) (i := i) (by rw [bl_length]; exact hi)
  rw [hb] at this
  rw [← this, List.take_append_drop]
theorem joined_two {d n : ByteArray} (hd : d ≠ E) (hn : n ≠ E) : bl (joined [d, n]) = bl d ++ 47 :: bl n := by
  unfold joined
  rw [bl_ba, show told [d, n] = [d, n] by simp [told, neE, hd, hn]]
  rfl
theorem dir_ne (p : ByteArray) : dirB p ≠ E := by
  unfold dirB
  split
  · decide
  · split
    · decide
    · intro e
      rcases lastI_cases p 47 with h | ⟨i, hi, h⟩
      · omega
      · rw [h] at e
        have h2 : (bl p).take i = [] := by rw [← bl_to, show p.extract 0 i = E from e]; rfl
        have h3 : min i p.size = 0 := by rw [← bl_length p, ← List.length_take, h2]; rfl
        omega
theorem back_clean (p : ByteArray) (hn : nameB p ≠ E) : G.cleanL (bl (joined [dirB p, nameB p])) = G.cleanL (bl p) := by
  rw [joined_two (dir_ne p) hn]
  rcases lastI_cases p 47 with h | ⟨i, hi, h⟩
  · have hf := free_of h
    rw [name_nil h, show dirB p = dotB by unfold dirB; rw [if_pos (by omega)]]
    exact G.back_none hf
  · have hs := split_at hi h
    have hnm : bl (nameB p) = (bl p).drop (i + 1) := by rw [bl_name, h]; rfl
    by_cases h0 : i = 0
    · subst h0
      rw [show dirB p = ⟨#[47]⟩ by unfold dirB; rw [if_neg (by omega), if_pos (by simpa using h)], hnm]
      conv => rhs; rw [hs]
      exact G.back_root _
    · rw [show dirB p = p.extract 0 i by unfold dirB; rw [if_neg (by omega), if_neg (by omega), h]; rfl, bl_to, hnm, ← hs]

set_option maxHeartbeats 400000 in
theorem back_law (p : ByteArray) (w : World) (hs : p.size ≤ 140737488355328) :
    Calls Try.prog 7 #[.string p] w fun e w' => e = .returned (.bool true) ∧ Below w.heap.size w w' := by
  by_cases hp : 3000 < p.size
  · have HF : Hid (∀ W : World, Calls Try.prog 9 #[.slice (some ⟨W.heap.size, 0, none⟩) 1 1] (W.alloc (.cells #[.string p] 9)) fun e w' => e = .returned (.bool true) ∧ w' = W.alloc (.cells #[.string p] 9)) := by
      intro W; have := far_one p W; rw [decide_eq_true hp] at this; exact this
    go_enter Try.func7, Try.ntmps7
    go_wp2_with fail
    refine (HF.out _).mono ?_
    rintro e w' ⟨rfl, rfl⟩
    go_wp2_with fail
    refine (alive_any _).mono ?_
    rintro e w1 ⟨rfl, hb1⟩
    go_wp2
    go_ret
    exact ⟨rfl, below_alloc hb1⟩
  · have HF : Hid (∀ W : World, Calls Try.prog 9 #[.slice (some ⟨W.heap.size, 0, none⟩) 1 1] (W.alloc (.cells #[.string p] 9)) fun e w' => e = .returned (.bool false) ∧ w' = W.alloc (.cells #[.string p] 9)) := by
      intro W; have := far_one p W; rw [decide_eq_false hp] at this; exact this
    have HN : Hid (∀ W, Calls Try.prog 20 #[.string p] W fun e w' => e = .returned (.string (nameB p)) ∧ W = w') := fun W => (name_any p W hs).mono fun e w' h => ⟨h.1, h.2.symm⟩
    have HD : Hid (∀ W, Calls Try.prog 18 #[.string p] W fun e w' => e = .returned (.string (dirB p)) ∧ W = w') := fun W => (dir_any p W hs).mono fun e w' h => ⟨h.1, h.2.symm⟩
    by_cases hn : nameB p = E
    · rw [hn] at HN
      clear HD hn
      go_enter Try.func7, Try.ntmps7
      go_wp2_with fail
      refine (HF.out _).mono ?_
      rintro e w' ⟨rfl, rfl⟩
      go_wp2_with fail
      refine (HN.out _).mono ?_
      rintro e w' ⟨rfl, hw⟩
      rw [← hw]
      clear hw w'
      go_wp2_with fail
      refine (alive_any _).mono ?_
      rintro e w1 ⟨rfl, hb1⟩
      go_wp2
      go_ret
      exact ⟨rfl, below_alloc hb1⟩
    · obtain ⟨c, hc⟩ : ∃ c, c = ba (G.cleanL (bl p)) := ⟨_, rfl⟩
      have HC : Hid (∀ W, Calls Try.prog 11 #[.string p] W fun e w' => e = .returned (.string c) ∧ Below W.heap.size W w') := by
        intro W; rw [hc]; exact clean_any p W (by omega)
      have HJ : Hid (∀ W : World, Calls Try.prog 16 #[.slice (some ⟨W.heap.size, 0, none⟩) 2 2] (W.alloc (.cells #[.string (dirB p), .string (nameB p)] 9)) fun e w' => e = .returned (.string c) ∧ Below W.heap.size W w') := by
        intro W
        refine (joinp_any (some ⟨W.heap.size, 0, none⟩) 2 2 [dirB p, nameB p] _ (by decide) ?_ (words_alloc W [dirB p, nameB p] 2)).mono ?_
        · intro i h
          match i, h with
          | 0, _ => exact dir_size p (by omega)
          | 1, _ => exact Nat.le_trans (nameB_size p) (by omega)
        · rintro e w' ⟨rfl, hb⟩
          exact ⟨ret_str (by rw [hc, back_clean p hn]), below_alloc hb⟩
      have t1 : ¬ (nameB p).toList = [] := by rw [Lib.toList_data]; exact fun e => hn (bl_E.1 e)
      clear hn hc
      generalize nameB p = n at HN HJ t1
      generalize dirB p = d at HD HJ
      have t1' : n.toList.isEmpty = false := by simpa using t1
      go_enter Try.func7, Try.ntmps7
      go_wp2_with fail
      refine (HF.out _).mono ?_
      rintro e w0 ⟨rfl, hw0⟩
      have hb0 : Below w.heap.size w w0 := by rw [hw0]; exact (Below.refl _ w).alloc (Nat.le_refl _) _
      have hbs0 := hb0.size
      clear hw0
      go_wp2_with fail
      refine (HN.out _).mono ?_
      rintro e w' ⟨rfl, hw⟩
      rw [← hw]
      clear hw w'
      go_wp2_with fail
      refine (HD.out _).mono ?_
      rintro e w' ⟨rfl, hw⟩
      rw [← hw]
      clear hw w'
      go_wp2_with fail
      refine (HN.out _).mono ?_
      rintro e w' ⟨rfl, hw⟩
      rw [← hw]
      clear hw w'
      go_wp2_with fail
      refine (HJ.out _).mono ?_
      rintro e w1 ⟨rfl, hb1⟩
      have hb := hb0.trans (hb1.mono hbs0)
      have hbs := hb.size
      clear hb1 hb0
      go_wp2_with fail
      refine (HC.out _).mono ?_
      rintro e w2 ⟨rfl, hb2⟩
      have hb3 := hb.trans (hb2.mono hbs)
      have hbs3 := hb3.size
      clear hb hb2 hbs
      go_wp2_with fail
      refine (alive_any _).mono ?_
      rintro e w4 ⟨rfl, hb4⟩
      go_wp2
      go_ret
      exact ⟨rfl, hb3.trans (hb4.mono hbs3)⟩
end Go.Proofs.Ytpcadgddgmepkaa
