/-
  What Is, Format, Compare, Order, Sum and alive do.
-/
import Derived.Test.YtaaiimackjmcnaaDoorN5
import Derived.Lib.LaidTab
import Derived.Lib.ItoaLen
import Derived.Sort.Grow
namespace Go.Proofs.YtaaiimackjmcnaaDoor.N
open Go.RowKit Go.Shelf Go.Sort

def Tz (W : World) : Prop := Lib.TabIs Tryd.prog W "internal/strconv.uint64pow10" .u64 Lib.pow10Tab
theorem glob3 : Tryd.prog.globalNamed "internal/strconv.uint64pow10" = some 3 := by kernel_rfl
theorem Tz.pos {w : World} (h : Tz w) : 3 < w.heap.size := by
  unfold Tz Lib.TabIs World.var? at h
  rw [glob3] at h
  simp only [Option.bind_some] at h
  rcases Nat.lt_or_ge 3 w.heap.size with h1 | h1
  · exact h1
  · rw [Array.getElem?_eq_none h1] at h
    simp at h
theorem Tz.below {w w' : World} {B : Nat} (h : Tz w) (hb : Below B w w') (hB : 3 < B) : Tz w' := by
  unfold Tz Lib.TabIs World.var? at h ⊢
  rw [glob3] at h ⊢
  simp only [Option.bind_some] at h ⊢
  rw [hb.block 3 hB]; exact h
/-- What every call here leans on: the library's error of the range, and its table of powers. -/
def Gw (a : Addr) (w : World) : Prop := Er a w ∧ Tz w
theorem Gw.below {a : Addr} {w w' : World} (h : Gw a w) (hb : Below w.heap.size w w') : Gw a w' := ⟨h.1.below hb, h.2.below hb h.2.pos⟩

theorem format_any (n : Int) (h0 : -9223372036854775808 ≤ n) (h1 : n ≤ 9223372036854775807) (w : World) (h : Tz w) :
    Calls Tryd.prog 12 #[.int .i64 n] w fun e w' => e = .returned (.string (ba (Lib.itoa n))) ∧ Below w.heap.size w w' := by
  have HI : Hid (Calls Tryd.prog 27 #[.int .i64 n] w fun e w' => e = .returned (.string (ba (Lib.itoa n))) ∧ Below w.heap.size w w') := by
    refine (Tryd.strconv_Itoa n h0 h1 w h).mono ?_
    rintro e w' ⟨rfl, k, os, rfl⟩
    refine ⟨rfl, rfl, rfl, rfl, by simp [grow, World.drewN], fun j hj => ?_⟩
    rw [heap_grow_old _ _ (by exact hj)]
    rfl
  go_enter Tryd.func12, Tryd.ntmps12
  go_wp2_with fail
  refine HI.out.mono ?_
  rintro e w' ⟨rfl, hw⟩
  go_wp2
  go_ret
  exact ⟨rfl, hw⟩

theorem is_any (s : ByteArray) (a : Addr) (w : World) (hE : Er a w) (hs : s.size ≤ 140737488355328) :
    Calls Tryd.prog 11 #[.string s] w fun e w' => e = .returned (.bool ((parseG (bl s)).2 == 0)) ∧ Below w.heap.size w w' := by
  have HP : Hid (Calls Tryd.prog 9 #[.string s] w fun e w' => e = .returned (.tuple #[.int .i64 (parseG (bl s)).1, .int .i64 (parseG (bl s)).2]) ∧ Below w.heap.size w w') := parse_any s a w hE hs
  generalize (parseG (bl s)).1 = x at HP
  generalize (parseG (bl s)).2 = y at HP ⊢
  go_enter Tryd.func11, Tryd.ntmps11
  go_wp2_with fail
  refine HP.out.mono ?_
  rintro e w' ⟨rfl, hw⟩
  go_wp2
  go_ret
  exact ⟨rfl, hw⟩

set_option maxHeartbeats 400000 in
theorem compare_any (s t : ByteArray) (a : Addr) (w : World) (hE : Er a w) (hs : s.size ≤ 140737488355328) (ht : t.size ≤ 140737488355328) :
    Calls Tryd.prog 15 #[.string s, .string t] w fun e w' => e = .returned (tupV (cmpG (bl s) (bl t))) ∧ Below w.heap.size w w' := by
  have HP : Hid (Calls Tryd.prog 9 #[.string s] w fun e w' => e = .returned (.tuple #[.int .i64 (parseG (bl s)).1, .int .i64 (parseG (bl s)).2]) ∧ Below w.heap.size w w') := parse_any s a w hE hs
  have HQ : Hid (∀ W, Er a W → Calls Tryd.prog 9 #[.string t] W fun e w' => e = .returned (.tuple #[.int .i64 (parseG (bl t)).1, .int .i64 (parseG (bl t)).2]) ∧ Below W.heap.size W w') := fun W hW => parse_any t a W hW ht
  have HC : Hid (∀ x y W, Calls Tryd.prog 28 #[.int .i64 x, .int .i64 y] W fun e w' => e = .returned (.int .i64 (Lib.compareInt x y)) ∧ W = w') := fun x y W => (Tryd.cmp_Compare_int x y W).mono fun e w' h => ⟨h.1, h.2.symm⟩
  have HE : Hid (Er a w) := hE
  unfold cmpG
  generalize (parseG (bl s)).1 = x at HP ⊢
  generalize (parseG (bl s)).2 = y at HP ⊢
  generalize (parseG (bl t)).1 = x2 at HQ ⊢
  generalize (parseG (bl t)).2 = y2 at HQ ⊢
  obtain ⟨p, hp⟩ : ∃ p : Int × Int, p = (if y ≠ 0 then ((0 : Int), y) else if y2 ≠ 0 then (0, y2) else (Lib.compareInt x x2, 0)) := ⟨_, rfl⟩
  rw [← hp]
  clear hE hs ht
  by_cases h1 : y = 0
  · by_cases h2 : y2 = 0
    · rw [if_neg (by simpa using h1), if_neg (by simpa using h2)] at hp
      subst hp
      subst h1
      subst h2
      go_enter Tryd.func15, Tryd.ntmps15
      go_wp2_with fail
      refine HP.out.mono ?_
      rintro e w1 ⟨rfl, hw1⟩
      have HB1 : Hid (Below w.heap.size w w1) := hw1
      clear hw1
      go_wp2_with fail
      refine (HQ.out _ (HE.out.below HB1.out)).mono ?_
      rintro e w2 ⟨rfl, hw2⟩
      have HB2 : Hid (Below w.heap.size w w2) := HB1.out.trans (hw2.mono HB1.out.size)
      clear hw2
      go_wp2_with fail
      refine (HC.out _ _ _).mono ?_
      rintro e w3 ⟨rfl, rfl⟩
      go_wp2
      go_ret2
      exact ⟨rfl, HB2.out⟩
    · have h2b : (y2 == 0) = false := by simpa using h2
      rw [if_neg (by simpa using h1), if_pos h2] at hp
      subst hp
      subst h1
      go_enter Tryd.func15, Tryd.ntmps15
      go_wp2_with fail
      refine HP.out.mono ?_
      rintro e w1 ⟨rfl, hw1⟩
      have HB1 : Hid (Below w.heap.size w w1) := hw1
      clear hw1
      go_wp2_with fail
      refine (HQ.out _ (HE.out.below HB1.out)).mono ?_
      rintro e w2 ⟨rfl, hw2⟩
      have HB2 : Hid (Below w.heap.size w w2) := HB1.out.trans (hw2.mono HB1.out.size)
      clear hw2
      go_wp2
      go_ret2
      exact ⟨rfl, HB2.out⟩
  · have h1b : (y == 0) = false := by simpa using h1
    rw [if_pos h1] at hp
    subst hp
    go_enter Tryd.func15, Tryd.ntmps15
    go_wp2_with fail
    refine HP.out.mono ?_
    rintro e w1 ⟨rfl, hw1⟩
    have HB1 : Hid (Below w.heap.size w w1) := hw1
    clear hw1
    go_wp2
    go_ret2
    exact ⟨rfl, HB1.out⟩

set_option maxHeartbeats 400000 in
theorem order_any (s t : ByteArray) (a : Addr) (w : World) (hE : Er a w) (hs : s.size ≤ 140737488355328) (ht : t.size ≤ 140737488355328) :
    Calls Tryd.prog 17 #[.string s, .string t] w fun e w' => e = .returned (.int .i64 (orderG (bl s) (bl t))) ∧ Below w.heap.size w w' := by
  have HP : Hid (Calls Tryd.prog 9 #[.string s] w fun e w' => e = .returned (.tuple #[.int .i64 (parseG (bl s)).1, .int .i64 (parseG (bl s)).2]) ∧ Below w.heap.size w w') := parse_any s a w hE hs
  have HQ : Hid (∀ W, Er a W → Calls Tryd.prog 9 #[.string t] W fun e w' => e = .returned (.tuple #[.int .i64 (parseG (bl t)).1, .int .i64 (parseG (bl t)).2]) ∧ Below W.heap.size W w') := fun W hW => parse_any t a W hW ht
  have HC : Hid (∀ x y W, Calls Tryd.prog 28 #[.int .i64 x, .int .i64 y] W fun e w' => e = .returned (.int .i64 (Lib.compareInt x y)) ∧ W = w') := fun x y W => (Tryd.cmp_Compare_int x y W).mono fun e w' h => ⟨h.1, h.2.symm⟩
  have HS : Hid (∀ W, Calls Tryd.prog 30 #[.string s, .string t] W fun e w' => e = .returned (.int .i64 (Lib.compareBytes (bl s) (bl t))) ∧ W = w') := fun W => (Tryd.strings_Compare s t W).mono fun e w' h => ⟨h.1, h.2.symm⟩
  have HE : Hid (Er a w) := hE
  unfold orderG
  generalize (parseG (bl s)).1 = x at HP ⊢
  generalize (parseG (bl s)).2 = y at HP ⊢
  generalize (parseG (bl t)).1 = x2 at HQ ⊢
  generalize (parseG (bl t)).2 = y2 at HQ ⊢
  generalize Lib.compareBytes (bl s) (bl t) = z at HS ⊢
  obtain ⟨r, hr⟩ : ∃ r : Int, r = (if y = 0 then if y2 = 0 then Lib.compareInt x x2 else -1 else if y2 = 0 then 1 else z) := ⟨_, rfl⟩
  rw [← hr]
  clear hE hs ht
  by_cases h1 : y = 0 <;> by_cases h2 : y2 = 0
  · rw [if_pos h1, if_pos h2] at hr
    subst hr; subst h1; subst h2
    go_enter Tryd.func17, Tryd.ntmps17
    go_wp2_with fail
    refine HP.out.mono ?_
    rintro e w1 ⟨rfl, hw1⟩
    have HB1 : Hid (Below w.heap.size w w1) := hw1
    clear hw1
    go_wp2_with fail
    refine (HQ.out _ (HE.out.below HB1.out)).mono ?_
    rintro e w2 ⟨rfl, hw2⟩
    have HB2 : Hid (Below w.heap.size w w2) := HB1.out.trans (hw2.mono HB1.out.size)
    clear hw2
    go_wp2_with fail
    refine (HC.out _ _ _).mono ?_
    rintro e w3 ⟨rfl, rfl⟩
    go_wp2
    go_ret
    exact ⟨rfl, HB2.out⟩
  · rw [if_pos h1, if_neg h2] at hr
    subst hr; subst h1
    have h2b : (y2 == 0) = false := by simpa using h2
    go_enter Tryd.func17, Tryd.ntmps17
    go_wp2_with fail
    refine HP.out.mono ?_
    rintro e w1 ⟨rfl, hw1⟩
    have HB1 : Hid (Below w.heap.size w w1) := hw1
    clear hw1
    go_wp2_with fail
    refine (HQ.out _ (HE.out.below HB1.out)).mono ?_
    rintro e w2 ⟨rfl, hw2⟩
    have HB2 : Hid (Below w.heap.size w w2) := HB1.out.trans (hw2.mono HB1.out.size)
    clear hw2
    go_wp2
    go_ret
    exact ⟨rfl, HB2.out⟩
  · rw [if_neg h1, if_pos h2] at hr
    subst hr; subst h2
    have h1b : (y == 0) = false := by simpa using h1
    go_enter Tryd.func17, Tryd.ntmps17
    go_wp2_with fail
    refine HP.out.mono ?_
    rintro e w1 ⟨rfl, hw1⟩
    have HB1 : Hid (Below w.heap.size w w1) := hw1
    clear hw1
    go_wp2_with fail
    refine (HQ.out _ (HE.out.below HB1.out)).mono ?_
    rintro e w2 ⟨rfl, hw2⟩
    have HB2 : Hid (Below w.heap.size w w2) := HB1.out.trans (hw2.mono HB1.out.size)
    clear hw2
    go_wp2
    go_ret
    exact ⟨rfl, HB2.out⟩
  · rw [if_neg h1, if_neg h2] at hr
    subst hr
    have h1b : (y == 0) = false := by simpa using h1
    have h2b : (y2 == 0) = false := by simpa using h2
    go_enter Tryd.func17, Tryd.ntmps17
    go_wp2_with fail
    refine HP.out.mono ?_
    rintro e w1 ⟨rfl, hw1⟩
    have HB1 : Hid (Below w.heap.size w w1) := hw1
    clear hw1
    go_wp2_with fail
    refine (HQ.out _ (HE.out.below HB1.out)).mono ?_
    rintro e w2 ⟨rfl, hw2⟩
    have HB2 : Hid (Below w.heap.size w w2) := HB1.out.trans (hw2.mono HB1.out.size)
    clear hw2
    go_wp2_with fail
    refine (HS.out _).mono ?_
    rintro e w3 ⟨rfl, rfl⟩
    go_wp2
    go_ret
    exact ⟨rfl, HB2.out⟩
end Go.Proofs.YtaaiimackjmcnaaDoor.N
