/-
  What the document's own Parse, Compare and Order answer, whatever the texts.
-/
import Derived.Test.YtaaiimackjmcnaaDoorNR2N
import Derived.Test.YtaaiimackjmcnaaDoorNR2P
import Derived.Test.YtaaiimackjmcnaaDoorNR2M
namespace Go.Proofs.YtaaiimackjmcnaaDoor.N
open Go.RowKit Go.Shelf Go.Sort

set_option maxHeartbeats 400000 in
theorem rparse_empty (w : World) :
    Calls Tryd.prog 10 #[.string ⟨#[]⟩] w fun e w' => e = .returned (.tuple #[.int .i64 0, .int .i64 3]) ∧ w = w' := by
  have hz : (⟨#[]⟩ : ByteArray).size = 0 := rfl
  go_enter Tryd.func10, Tryd.ntmps10
  go_wp2
  refine wp_loop_rounds 1 ?_
  rw [rounds_succ]
  go_wp2
  go_ret2
  exact ⟨rfl, rfl⟩

theorem toNat_is {a b : UInt8} (n : Nat) (hn : b.toNat = n) : a.toNat = n ↔ a = b := by
  rw [← hn]; exact UInt8.toNat_inj

/-- The document's base of what is left behind the sign. -/
theorem base_hex {r : ByteArray} (m : Bool) (h2 : 2 < r.size) (g0 : r[0].toNat = 48) (g1 : r[1].toNat = 120 ∨ r[1].toNat = 88) : finD m (baseL (bl r)).2 (baseL (bl r)).1 = finD m 16 (bl (r.extract 2 r.size)) := by
  have hx : hexL (bl r) = true := by
    rw [hex_get r h2, (toNat_is (b := 48) 48 rfl).1 g0]
    rcases g1 with g1 | g1
    · rw [(toNat_is (b := 120) 120 rfl).1 g1]; rfl
    · rw [(toNat_is (b := 88) 88 rfl).1 g1]; rfl
  unfold baseL
  rw [if_pos hx, bl_extract, List.take_of_length_le (by rw [bl_length]; exact Nat.le_refl _)]
theorem base_not {r : ByteArray} (m : Bool) (h2 : 2 < r.size) (h : ¬ r[0].toNat = 48 ∨ (¬ r[1].toNat = 120 ∧ ¬ r[1].toNat = 88)) : finD m (baseL (bl r)).2 (baseL (bl r)).1 = finD m 10 (bl r) := by
  have hx : hexL (bl r) = false := by
    rw [hex_get r h2]
    rcases h with h | ⟨h, h'⟩
    · have : (r[0] == 48) = false := by
        rw [beq_eq_false_iff_ne]; intro e; exact h (by rw [e]; rfl)
      rw [this]; rfl
    · have a : (r[1] == 120) = false := by
        rw [beq_eq_false_iff_ne]; intro e; exact h (by rw [e]; rfl)
      have b : (r[1] == 88) = false := by
        rw [beq_eq_false_iff_ne]; intro e; exact h' (by rw [e]; rfl)
      rw [a, b]; simp
  unfold baseL
  rw [if_neg (by rw [hx]; decide)]

theorem rparse_any (s : ByteArray) (hs : s.size ≤ 140737488355328) (w : World) :
    Calls Tryd.prog 10 #[.string s] w fun e w' => e = .returned (tupV (parseG (bl s))) ∧ w = w' := by
  by_cases hpos : 0 < s.size
  · have hp : parseG (bl s) = finD (signL (bl s)).2 (baseL (signL (bl s)).1).2 (baseL (signL (bl s)).1).1 := rfl
    rw [hp, sign_get s hpos]
    have hr : (s.extract 1 s.size).size ≤ 140737488355328 := by rw [ByteArray.size_extract]; omega
    by_cases h45 : s[0] = 45
    · rw [if_pos h45]
      dsimp only
      generalize hR : s.extract 1 s.size = r at hr
      by_cases h2 : 2 < r.size
      · by_cases g0 : r[0].toNat = 48
        · by_cases g1 : r[1].toNat = 120
          · rw [base_hex true h2 g0 (.inl g1)]; exact rparse_MH1 s hs hpos h45 r hR.symm hr h2 g0 g1 _ rfl w
          · by_cases g2 : r[1].toNat = 88
            · rw [base_hex true h2 g0 (.inr g2)]; exact rparse_MH2 s hs hpos h45 r hR.symm hr h2 g0 g2 _ rfl w
            · rw [base_not true h2 (.inr ⟨g1, g2⟩)]; exact rparse_MD3 s hs hpos h45 r hR.symm hr h2 g0 g1 g2 w
        · rw [base_not true h2 (.inl g0)]; exact rparse_MD2 s hs hpos h45 r hR.symm hr h2 g0 w
      · rw [fin_two true (bl r) (by rw [bl_length]; omega)]; exact rparse_MD1 s hs hpos h45 r hR.symm hr h2 w
    · rw [if_neg h45]
      by_cases h43 : s[0] = 43
      · rw [if_pos h43]
        dsimp only
        generalize hR : s.extract 1 s.size = r at hr
        by_cases h2 : 2 < r.size
        · by_cases g0 : r[0].toNat = 48
          · by_cases g1 : r[1].toNat = 120
            · rw [base_hex false h2 g0 (.inl g1)]; exact rparse_PH1 s hs hpos h43 r hR.symm hr h2 g0 g1 _ rfl w
            · by_cases g2 : r[1].toNat = 88
              · rw [base_hex false h2 g0 (.inr g2)]; exact rparse_PH2 s hs hpos h43 r hR.symm hr h2 g0 g2 _ rfl w
              · rw [base_not false h2 (.inr ⟨g1, g2⟩)]; exact rparse_PD3 s hs hpos h43 r hR.symm hr h2 g0 g1 g2 w
          · rw [base_not false h2 (.inl g0)]; exact rparse_PD2 s hs hpos h43 r hR.symm hr h2 g0 w
        · rw [fin_two false (bl r) (by rw [bl_length]; omega)]; exact rparse_PD1 s hs hpos h43 r hR.symm hr h2 w
      · rw [if_neg h43]
        dsimp only
        by_cases h2 : 2 < s.size
        · by_cases g0 : s[0].toNat = 48
          · by_cases g1 : s[1].toNat = 120
            · rw [base_hex false h2 g0 (.inl g1)]; exact rparse_NH1 s hs hpos h45 h43 h2 g0 g1 _ rfl w
            · by_cases g2 : s[1].toNat = 88
              · rw [base_hex false h2 g0 (.inr g2)]; exact rparse_NH2 s hs hpos h45 h43 h2 g0 g2 _ rfl w
              · rw [base_not false h2 (.inr ⟨g1, g2⟩)]; exact rparse_ND3 s hs hpos h45 h43 h2 g0 g1 g2 w
          · rw [base_not false h2 (.inl g0)]; exact rparse_ND2 s hs hpos h45 h43 h2 g0 w
        · rw [fin_two false (bl s) (by rw [bl_length]; omega)]; exact rparse_ND1 s hs hpos h45 h43 h2 w
  · have h0 : bl s = [] := List.eq_nil_of_length_eq_zero (by rw [bl_length]; omega)
    have hs0 : s = ⟨#[]⟩ := bl_inj (by rw [h0]; rfl)
    rw [h0, hs0]
    exact rparse_empty w

theorem cmp_less : ∀ a b : List UInt8, Lib.compareBytes a b = if Op.bytesLess a b = true then -1 else if a = b then 0 else 1
  | [], [] => by simp [Lib.compareBytes, Op.bytesLess]
  | [], _ :: _ => by simp [Lib.compareBytes, Op.bytesLess]
  | _ :: _, [] => by simp [Lib.compareBytes, Op.bytesLess]
  | a :: x, b :: y => by
    have ih := cmp_less x y
    unfold Lib.compareBytes Op.bytesLess
    by_cases h1 : a < b
    · simp [h1]
    · by_cases h2 : b < a
      · have h3 : ¬ a = b := by rintro rfl; exact h1 h2
        simp [h1, h2, h3]
      · have h3 : a = b := by
          apply UInt8.toNat_inj.1
          rw [u8_lt] at h1 h2
          omega
        subst h3
        simp only [h1, if_false, ih]
        simp

set_option maxHeartbeats 400000 in
theorem rcompare (s t : ByteArray) (w : World) (hs : s.size ≤ 140737488355328) (ht : t.size ≤ 140737488355328) :
    Calls Tryd.prog 16 #[.string s, .string t] w fun e w' => e = .returned (tupV (cmpG (bl s) (bl t))) ∧ Below w.heap.size w w' := by
  have HP : Hid (Calls Tryd.prog 10 #[.string s] w fun e w' => e = .returned (.tuple #[.int .i64 (parseG (bl s)).1, .int .i64 (parseG (bl s)).2]) ∧ Below w.heap.size w w') := (rparse_any s hs w).mono fun e w' h => ⟨h.1, h.2 ▸ Below.refl _ _⟩
  have HQ : Hid (∀ W, Calls Tryd.prog 10 #[.string t] W fun e w' => e = .returned (.tuple #[.int .i64 (parseG (bl t)).1, .int .i64 (parseG (bl t)).2]) ∧ Below W.heap.size W w') := fun W => (rparse_any t ht W).mono fun e w' h => ⟨h.1, h.2 ▸ Below.refl _ _⟩
  have HC : Hid (∀ x y W, Calls Tryd.prog 29 #[.int .i64 x, .int .i64 y] W fun e w' => e = .returned (.int .i64 (Lib.compareInt x y)) ∧ W = w') := fun x y W => rsign x y W
  unfold cmpG
  generalize (parseG (bl s)).1 = x at HP ⊢
  generalize (parseG (bl s)).2 = y at HP ⊢
  generalize (parseG (bl t)).1 = x2 at HQ ⊢
  generalize (parseG (bl t)).2 = y2 at HQ ⊢
  obtain ⟨p, hp⟩ : ∃ p : Int × Int, p = (if y ≠ 0 then ((0 : Int), y) else if y2 ≠ 0 then (0, y2) else (Lib.compareInt x x2, 0)) := ⟨_, rfl⟩
  rw [← hp]
  clear hs ht
  by_cases h1 : y = 0
  · by_cases h2 : y2 = 0
    · rw [if_neg (by simpa using h1), if_neg (by simpa using h2)] at hp
      subst hp
      subst h1
      subst h2
      go_enter Tryd.func16, Tryd.ntmps16
      go_wp2_with fail
      refine HP.out.mono ?_
      rintro e w1 ⟨rfl, hw1⟩
      have HB1 : Hid (Below w.heap.size w w1) := hw1
      clear hw1
      go_wp2_with fail
      refine (HQ.out _).mono ?_
      rintro e w2 ⟨rfl, hw2⟩
      have HB2 : Hid (Below w.heap.size w w2) := HB1.out.trans (hw2.mono HB1.out.size)
      clear hw2
      go_wp2_with fail
      refine (HC.out _ _ _).mono ?_
      rintro e w3 ⟨rfl, rfl⟩
      go_wp2
      go_ret2
      exact ⟨rfl, HB2.out⟩
    · have h2b : (y2 == 0) = false := by simpa using h2
      rw [if_neg (by simpa using h1), if_pos h2] at hp
      subst hp
      subst h1
      go_enter Tryd.func16, Tryd.ntmps16
      go_wp2_with fail
      refine HP.out.mono ?_
      rintro e w1 ⟨rfl, hw1⟩
      have HB1 : Hid (Below w.heap.size w w1) := hw1
      clear hw1
      go_wp2_with fail
      refine (HQ.out _).mono ?_
      rintro e w2 ⟨rfl, hw2⟩
      have HB2 : Hid (Below w.heap.size w w2) := HB1.out.trans (hw2.mono HB1.out.size)
      clear hw2
      go_wp2
      go_ret2
      exact ⟨rfl, HB2.out⟩
  · have h1b : (y == 0) = false := by simpa using h1
    rw [if_pos h1] at hp
    subst hp
    go_enter Tryd.func16, Tryd.ntmps16
    go_wp2_with fail
    refine HP.out.mono ?_
    rintro e w1 ⟨rfl, hw1⟩
    have HB1 : Hid (Below w.heap.size w w1) := hw1
    clear hw1
    go_wp2
    go_ret2
    exact ⟨rfl, HB1.out⟩

set_option maxHeartbeats 400000 in
theorem rorder (s t : ByteArray) (w : World) (hs : s.size ≤ 140737488355328) (ht : t.size ≤ 140737488355328) :
    Calls Tryd.prog 18 #[.string s, .string t] w fun e w' => e = .returned (.int .i64 (orderG (bl s) (bl t))) ∧ Below w.heap.size w w' := by
  have HP : Hid (Calls Tryd.prog 10 #[.string s] w fun e w' => e = .returned (.tuple #[.int .i64 (parseG (bl s)).1, .int .i64 (parseG (bl s)).2]) ∧ Below w.heap.size w w') := (rparse_any s hs w).mono fun e w' h => ⟨h.1, h.2 ▸ Below.refl _ _⟩
  have HQ : Hid (∀ W, Calls Tryd.prog 10 #[.string t] W fun e w' => e = .returned (.tuple #[.int .i64 (parseG (bl t)).1, .int .i64 (parseG (bl t)).2]) ∧ Below W.heap.size W w') := fun W => (rparse_any t ht W).mono fun e w' h => ⟨h.1, h.2 ▸ Below.refl _ _⟩
  have HC : Hid (∀ x y W, Calls Tryd.prog 29 #[.int .i64 x, .int .i64 y] W fun e w' => e = .returned (.int .i64 (Lib.compareInt x y)) ∧ W = w') := fun x y W => rsign x y W
  have HLs := cmp_less (bl s) (bl t)
  unfold orderG
  generalize (parseG (bl s)).1 = x at HP ⊢
  generalize (parseG (bl s)).2 = y at HP ⊢
  generalize (parseG (bl t)).1 = x2 at HQ ⊢
  generalize (parseG (bl t)).2 = y2 at HQ ⊢
  generalize Lib.compareBytes (bl s) (bl t) = z at HLs ⊢
  obtain ⟨r, hr⟩ : ∃ r : Int, r = (if y = 0 then if y2 = 0 then Lib.compareInt x x2 else -1 else if y2 = 0 then 1 else z) := ⟨_, rfl⟩
  rw [← hr]
  clear hs ht
  by_cases h1 : y = 0 <;> by_cases h2 : y2 = 0
  · rw [if_pos h1, if_pos h2] at hr
    subst hr; subst h1; subst h2
    go_enter Tryd.func18, Tryd.ntmps18
    go_wp2_with fail
    refine HP.out.mono ?_
    rintro e w1 ⟨rfl, hw1⟩
    have HB1 : Hid (Below w.heap.size w w1) := hw1
    clear hw1
    go_wp2_with fail
    refine (HQ.out _).mono ?_
    rintro e w2 ⟨rfl, hw2⟩
    have HB2 : Hid (Below w.heap.size w w2) := HB1.out.trans (hw2.mono HB1.out.size)
    clear hw2
    go_wp2_with fail
    refine (HC.out _ _ _).mono ?_
    rintro e w3 ⟨rfl, rfl⟩
    go_wp2
    go_ret
    exact ⟨rfl, HB2.out⟩
  · rw [if_pos h1, if_neg h2] at hr
    subst hr; subst h1
    have h2b : (y2 == 0) = false := by simpa using h2
    go_enter Tryd.func18, Tryd.ntmps18
    go_wp2_with fail
    refine HP.out.mono ?_
    rintro e w1 ⟨rfl, hw1⟩
    have HB1 : Hid (Below w.heap.size w w1) := hw1
    clear hw1
    go_wp2_with fail
    refine (HQ.out _).mono ?_
    rintro e w2 ⟨rfl, hw2⟩
    have HB2 : Hid (Below w.heap.size w w2) := HB1.out.trans (hw2.mono HB1.out.size)
    clear hw2
    go_wp2
    go_ret
    exact ⟨rfl, HB2.out⟩
  · rw [if_neg h1, if_pos h2] at hr
    subst hr; subst h2
    have h1b : (y == 0) = false := by simpa using h1
    go_enter Tryd.func18, Tryd.ntmps18
    go_wp2_with fail
    refine HP.out.mono ?_
    rintro e w1 ⟨rfl, hw1⟩
    have HB1 : Hid (Below w.heap.size w w1) := hw1
    clear hw1
    go_wp2_with fail
    refine (HQ.out _).mono ?_
    rintro e w2 ⟨rfl, hw2⟩
    have HB2 : Hid (Below w.heap.size w w2) := HB1.out.trans (hw2.mono HB1.out.size)
    clear hw2
    go_wp2
    go_ret
    exact ⟨rfl, HB2.out⟩
  · rw [if_neg h1, if_neg h2] at hr
    subst hr
    have h1b : (y == 0) = false := by simpa using h1
    have h2b : (y2 == 0) = false := by simpa using h2
    have e1 : s.toList = bl s := Lib.toList_data s
    have e2 : t.toList = bl t := Lib.toList_data t
    rw [← e1, ← e2] at HLs
    clear e1 e2
    cases hl : Op.bytesLess s.toList t.toList
    · rw [hl] at HLs
      by_cases he : s.toList = t.toList
      · rw [if_neg (by decide), if_pos he] at HLs
        subst HLs
        have heb : (s.toList == t.toList) = true := by simpa using he
        clear he
        go_enter Tryd.func18, Tryd.ntmps18
        go_wp2_with fail
        refine HP.out.mono ?_
        rintro e w1 ⟨rfl, hw1⟩
        have HB1 : Hid (Below w.heap.size w w1) := hw1
        clear hw1
        go_wp2_with fail
        refine (HQ.out _).mono ?_
        rintro e w2 ⟨rfl, hw2⟩
        have HB2 : Hid (Below w.heap.size w w2) := HB1.out.trans (hw2.mono HB1.out.size)
        clear hw2
        go_wp2
        go_ret
        exact ⟨rfl, HB2.out⟩
      · rw [if_neg (by decide), if_neg he] at HLs
        subst HLs
        have heb : (s.toList == t.toList) = false := by simpa using he
        clear he
        go_enter Tryd.func18, Tryd.ntmps18
        go_wp2_with fail
        refine HP.out.mono ?_
        rintro e w1 ⟨rfl, hw1⟩
        have HB1 : Hid (Below w.heap.size w w1) := hw1
        clear hw1
        go_wp2_with fail
        refine (HQ.out _).mono ?_
        rintro e w2 ⟨rfl, hw2⟩
        have HB2 : Hid (Below w.heap.size w w2) := HB1.out.trans (hw2.mono HB1.out.size)
        clear hw2
        go_wp2
        go_ret
        exact ⟨rfl, HB2.out⟩
    · rw [hl, if_pos rfl] at HLs
      subst HLs
      go_enter Tryd.func18, Tryd.ntmps18
      go_wp2_with fail
      refine HP.out.mono ?_
      rintro e w1 ⟨rfl, hw1⟩
      have HB1 : Hid (Below w.heap.size w w1) := hw1
      clear hw1
      go_wp2_with fail
      refine (HQ.out _).mono ?_
      rintro e w2 ⟨rfl, hw2⟩
      have HB2 : Hid (Below w.heap.size w w2) := HB1.out.trans (hw2.mono HB1.out.size)
      clear hw2
      go_wp2
      go_ret
      exact ⟨rfl, HB2.out⟩
end Go.Proofs.YtaaiimackjmcnaaDoor.N
