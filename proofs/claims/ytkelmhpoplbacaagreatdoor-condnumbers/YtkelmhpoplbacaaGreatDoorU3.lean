/-
  What Right answers.
-/
import Derived.Test.YtkelmhpoplbacaaGreatDoorU2
import Derived.Test.YtkelmhpoplbacaaGreatDoorShelf
import Derived.BigQuiet
import Derived.Deep.LoopGhost
import Derived.Deep.QuietTactic
import Derived.Laws.RangeAny
import Derived.Laws.Runes
import Derived.Lib.OthersKept
import Derived.WalkMore
namespace Go.Proofs.YtkelmhpoplbacaaGreatDoor.V
open Go.RowKit Go.Lib

theorem idx_high (l : List UInt8) (c : UInt8) (h : ∀ x ∈ l, x.toNat < 128) (hc : 128 ≤ c.toNat) : Lib.indexByte l c = -1 := by
  induction l with
  | nil => rfl
  | cons a r ih =>
    have ha : (a == c) = false := by
      rw [← Bool.not_eq_true, beq_iff_eq]; intro e; have := h a (by simp); rw [e] at this; omega
    have hr := ih (fun x hx => h x (by simp [hx]))
    unfold Lib.indexByte
    rw [ha, hr]; rfl

def CH : ByteArray := ⟨#[32, 9, 10, 36, 58, 61, 123, 125, 40, 41, 35]⟩
theorem ch_at (j : Nat) (h : j < CH.size) : (CH[j]'h).toNat < 128 := by
  have h4 : j < 11 := h
  exact match j, h4 with
  | 0, _ => show (32 : UInt8).toNat < 128 from by decide
  | 1, _ => show (9 : UInt8).toNat < 128 from by decide
  | 2, _ => show (10 : UInt8).toNat < 128 from by decide
  | 3, _ => show (36 : UInt8).toNat < 128 from by decide
  | 4, _ => show (58 : UInt8).toNat < 128 from by decide
  | 5, _ => show (61 : UInt8).toNat < 128 from by decide
  | 6, _ => show (123 : UInt8).toNat < 128 from by decide
  | 7, _ => show (125 : UInt8).toNat < 128 from by decide
  | 8, _ => show (40 : UInt8).toNat < 128 from by decide
  | 9, _ => show (41 : UInt8).toNat < 128 from by decide
  | 10, _ => show (35 : UInt8).toNat < 128 from by decide

set_option maxHeartbeats 2000000 in
set_option maxRecDepth 100000 in
theorem rune_invalid (r : Int) (w : World) (h1 : 128 ≤ r) (hv : 55296 ≤ r ∧ r ≤ 57343 ∨ 1114111 < r) :
    Calls Tryz.prog 125 #[.string CH, .int .i32 r] w fun e w' => e = .returned (.int .i64 (-1)) ∧ Below w.heap.size w w' := by
  have hne : (r == 65533) = false := by rw [← Bool.not_eq_true, beq_iff_eq]; omega
  go_enter Tryz.func125, Tryz.ntmps125
  go_wp2
  all_goals
    go_ret
    exact ⟨rfl, Below.refl _ _⟩

set_option maxHeartbeats 2000000 in
set_option maxRecDepth 100000 in
theorem rune_error (w : World) :
    Calls Tryz.prog 125 #[.string CH, .int .i32 65533] w fun e w' => e = .returned (.int .i64 (-1)) ∧ Below w.heap.size w w' := by
  have hch : CH.size = 11 := rfl
  go_enter Tryz.func125, Tryz.ntmps125
  go_wp2
  go_loopg [5, 6] 11 (fun g _ _ wx => ∃ i : Nat, i + g = 11 ∧ wx = w.iter CH i)
  case atStart => exact ⟨0, by omega, rfl⟩
  case round =>
    obtain ⟨i, hig, rfl⟩ := hrel
    cases gk with
    | zero =>
      obtain rfl : i = 11 := by omega
      have hnx := fun ty => run_next_end (P := Tryz.prog) w CH 11 ty (by decide)
      go_wp2
      go_ret
      exact ⟨rfl, (Below.refl _ _).alloc (Nat.le_refl _) _⟩
    | succ g =>
      have hi : i < CH.size := by omega
      have hx128 := ch_at i hi
      obtain ⟨x, hx⟩ : ∃ x : UInt8, CH[i]'hi = x := ⟨_, rfl⟩
      have hnx := fun ty => run_next_ascii (P := Tryz.prog) w CH i ty hi hx128
      rw [hx] at hnx hx128
      have hxne : ((x.toNat : Int) == 65533) = false := by rw [← Bool.not_eq_true, beq_iff_eq]; omega
      clear hx
      go_wp2
      go_roundg g
      case measure => omega
      case rel => exact ⟨i + 1, by omega, rfl⟩

set_option maxHeartbeats 2000000 in
set_option maxRecDepth 100000 in
theorem rune_valid (r : Int) (w : World) (h1 : 128 ≤ r) (h2 : r ≤ 1114111) (hne : r ≠ 65533) (hv : ¬ (55296 ≤ r ∧ r ≤ 57343)) :
    Calls Tryz.prog 125 #[.string CH, .int .i32 r] w fun e w' => e = .returned (.int .i64 (-1)) ∧ Below w.heap.size w w' := by
  have hval : Utf8.valid r = true := by simp [Utf8.valid]; omega
  obtain ⟨f1, f2, f3⟩ := encode_facts r hval h1
  obtain ⟨rs, hrs⟩ : ∃ rs, Utf8.encode r = rs := ⟨_, rfl⟩
  rw [hrs] at f1 f2 f3
  have hcv : ∀ W, (convert 21 9 (.int .i32 r)).run Tryz.prog W = .ok (.string rs) W := by
    intro W; rw [← hrs]; exact run_convert_int_string W 21 9 .i32 r (by rw [Tryz.underlying21]; rfl) Tryz.underlying9
  have hch : CH.size = 11 := rfl
  have hneB : (r == 65533) = false := by rw [← Bool.not_eq_true, beq_iff_eq]; exact hne
  clear hval hrs hne
  have hz : rs.size = 2 ∨ rs.size = 3 ∨ rs.size = 4 := by omega
  have f3' : ∀ k, (h : k < rs.size) → k = rs.size - 1 → 128 ≤ (rs[k]'h).toNat := by
    intro k h e; subst e; exact f3 h
  clear f3 f1 f2
  rcases hz with hz | hz | hz
  · have hr1 : 1 < rs.size := by omega
    have hy := f3' 1 hr1 (by omega)
    have hx : 1 < CH.size := by decide
    have hxv : (((CH[1]'hx).toNat : Int) != ((rs[1]'hr1).toNat : Int)) = true := by rw [bne_iff_ne]; have := ch_at 1 hx; omega
    have i1 : (1 : Int) < (CH.size : Int) := by omega
    have i2 : (1 : Int) < (rs.size : Int) := by omega
    obtain ⟨T, hT⟩ : ∃ T, T = CH.extract 2 CH.size := ⟨_, rfl⟩
    have hsl : ∀ W, (Instr.slice 9 (.string CH) (some (.int .i64 2)) none none).run Tryz.prog W = .ok (.string T) W := by
      intro W; rw [hT]; exact run_slice_string_l (P := Tryz.prog) W 9 CH Tryz.underlying9 .i64 2 (by decide) (by decide)
    have hwr : IntKind.i64.wrap 2 = 2 := by decide
    have HI : Hid (∀ W, Calls Tryz.prog 149 #[.string T, .int .u8 ((rs[1]'hr1).toNat : Int)] W fun e w' => e = .returned (.int .i64 (-1)) ∧ w' = W) := by
      intro W
      refine (Tryz.strings_IndexByte _ _ W).mono ?_
      rintro e w' ⟨rfl, rfl⟩
      exact ⟨by rw [u8_back, idx_high _ _ (by rw [hT]; decide) hy], rfl⟩
    clear f3' hT
    by_cases hlow : r < 55296
    all_goals
      go_enter Tryz.func125, Tryz.ntmps125
      go_wp2
      go_step3
      go_wp2
      refine wp_loop_rounds 1 ?_
      rw [rounds_succ]
      go_wp2
      go_step3
      go_wp2
      go_quiet (fail)
      go_wp2
      have hb1 : Below w.heap.size w (w.drewN nq) := below_drewN (Below.refl _ _) nq
      generalize w.drewN nq = w1 at hb1 ⊢
      go_quiet ((go_at_call 149; exact Calls.quiet_of_same (HI.out _)))
      go_wp2
      try rw [Exit.noGoto_ret]
      go_wp2
      try rw [Exit.noGoto_ret]
      go_wp2
      go_ret
      exact ⟨rfl, below_drewN hb1 _⟩
  · have hr1 : 2 < rs.size := by omega
    have hy := f3' 2 hr1 (by omega)
    have hx : 2 < CH.size := by decide
    have hxv : (((CH[2]'hx).toNat : Int) != ((rs[2]'hr1).toNat : Int)) = true := by rw [bne_iff_ne]; have := ch_at 2 hx; omega
    have i1 : (2 : Int) < (CH.size : Int) := by omega
    have i2 : (2 : Int) < (rs.size : Int) := by omega
    obtain ⟨T, hT⟩ : ∃ T, T = CH.extract 3 CH.size := ⟨_, rfl⟩
    have hsl : ∀ W, (Instr.slice 9 (.string CH) (some (.int .i64 3)) none none).run Tryz.prog W = .ok (.string T) W := by
      intro W; rw [hT]; exact run_slice_string_l (P := Tryz.prog) W 9 CH Tryz.underlying9 .i64 3 (by decide) (by decide)
    have hwr : IntKind.i64.wrap 3 = 3 := by decide
    have HI : Hid (∀ W, Calls Tryz.prog 149 #[.string T, .int .u8 ((rs[2]'hr1).toNat : Int)] W fun e w' => e = .returned (.int .i64 (-1)) ∧ w' = W) := by
      intro W
      refine (Tryz.strings_IndexByte _ _ W).mono ?_
      rintro e w' ⟨rfl, rfl⟩
      exact ⟨by rw [u8_back, idx_high _ _ (by rw [hT]; decide) hy], rfl⟩
    clear f3' hT
    by_cases hlow : r < 55296
    all_goals
      go_enter Tryz.func125, Tryz.ntmps125
      go_wp2
      go_step3
      go_wp2
      refine wp_loop_rounds 1 ?_
      rw [rounds_succ]
      go_wp2
      go_step3
      go_wp2
      go_quiet (fail)
      go_wp2
      have hb1 : Below w.heap.size w (w.drewN nq) := below_drewN (Below.refl _ _) nq
      generalize w.drewN nq = w1 at hb1 ⊢
      go_quiet ((go_at_call 149; exact Calls.quiet_of_same (HI.out _)))
      go_wp2
      try rw [Exit.noGoto_ret]
      go_wp2
      try rw [Exit.noGoto_ret]
      go_wp2
      go_ret
      exact ⟨rfl, below_drewN hb1 _⟩
  · have hr1 : 3 < rs.size := by omega
    have hy := f3' 3 hr1 (by omega)
    have hx : 3 < CH.size := by decide
    have hxv : (((CH[3]'hx).toNat : Int) != ((rs[3]'hr1).toNat : Int)) = true := by rw [bne_iff_ne]; have := ch_at 3 hx; omega
    have i1 : (3 : Int) < (CH.size : Int) := by omega
    have i2 : (3 : Int) < (rs.size : Int) := by omega
    obtain ⟨T, hT⟩ : ∃ T, T = CH.extract 4 CH.size := ⟨_, rfl⟩
    have hsl : ∀ W, (Instr.slice 9 (.string CH) (some (.int .i64 4)) none none).run Tryz.prog W = .ok (.string T) W := by
      intro W; rw [hT]; exact run_slice_string_l (P := Tryz.prog) W 9 CH Tryz.underlying9 .i64 4 (by decide) (by decide)
    have hwr : IntKind.i64.wrap 4 = 4 := by decide
    have HI : Hid (∀ W, Calls Tryz.prog 149 #[.string T, .int .u8 ((rs[3]'hr1).toNat : Int)] W fun e w' => e = .returned (.int .i64 (-1)) ∧ w' = W) := by
      intro W
      refine (Tryz.strings_IndexByte _ _ W).mono ?_
      rintro e w' ⟨rfl, rfl⟩
      exact ⟨by rw [u8_back, idx_high _ _ (by rw [hT]; decide) hy], rfl⟩
    clear f3' hT
    by_cases hlow : r < 55296
    all_goals
      go_enter Tryz.func125, Tryz.ntmps125
      go_wp2
      go_step3
      go_wp2
      refine wp_loop_rounds 1 ?_
      rw [rounds_succ]
      go_wp2
      go_step3
      go_wp2
      go_quiet (fail)
      go_wp2
      have hb1 : Below w.heap.size w (w.drewN nq) := below_drewN (Below.refl _ _) nq
      generalize w.drewN nq = w1 at hb1 ⊢
      go_quiet ((go_at_call 149; exact Calls.quiet_of_same (HI.out _)))
      go_wp2
      try rw [Exit.noGoto_ret]
      go_wp2
      try rw [Exit.noGoto_ret]
      go_wp2
      go_ret
      exact ⟨rfl, below_drewN hb1 _⟩

theorem rune_high (r : Int) (w : World) (h1 : 128 ≤ r) :
    Calls Tryz.prog 125 #[.string CH, .int .i32 r] w fun e w' => e = .returned (.int .i64 (-1)) ∧ Below w.heap.size w w' := by
  by_cases he : r = 65533
  · subst he; exact rune_error w
  · by_cases hv : 55296 ≤ r ∧ r ≤ 57343 ∨ 1114111 < r
    · exact rune_invalid r w h1 hv
    · exact rune_valid r w h1 (by omega) he (by omega)

theorem get_at (s : ByteArray) (j : Nat) (h : j < s.size) : s.get! j = s[j] := by
  simp [ByteArray.get!, getElem!_pos, h]; rfl

/-- The bytes of a rune that is none of the first 128 are none of these. -/
theorem decode_span (s : ByteArray) (pos : Nat) (h : pos < s.size) (ha : 128 ≤ (s[pos]).toNat) :
    pos + (Utf8.decode s pos).2 ≤ s.size ∧ ∀ j, pos ≤ j → j < pos + (Utf8.decode s pos).2 → (hj : j < s.size) → 128 ≤ (s[j]).toNat := by
  have base : ∀ j, pos ≤ j → j < pos + 1 → (hj : j < s.size) → 128 ≤ (s[j]).toNat := by
    intro j h1 h2 hj; obtain rfl : j = pos := by omega
    exact ha
  have e0 : (s.get! (pos + 0)).toNat = (s[pos]).toNat := by rw [Nat.add_zero, get_at s pos h]
  have ec : ∀ k, (decide (pos + k < s.size) && (s.get! (pos + k)).toNat / 64 == 2) = true → ∃ hk : pos + k < s.size, 128 ≤ (s[pos + k]).toNat := by
    intro k hk
    simp only [Bool.and_eq_true, decide_eq_true_eq, beq_iff_eq] at hk
    refine ⟨hk.1, ?_⟩
    rw [get_at s _ hk.1] at hk; omega
  unfold Utf8.decode
  simp only [e0]
  rw [if_neg (by omega)]
  split
  · rename_i hc
    simp only [Bool.and_eq_true] at hc
    obtain ⟨h1, g1⟩ := ec 1 (by simpa using hc.2)
    split
    · refine ⟨by omega, fun j j1 j2 hj => ?_⟩
      by_cases hjj : j = pos
      · exact base j j1 (by omega) hj
      · obtain rfl : j = pos + 1 := by simp at j2; omega
        exact g1
    · exact ⟨by omega, base⟩
  · split
    · rename_i hc
      simp only [Bool.and_eq_true] at hc
      obtain ⟨h1, g1⟩ := ec 1 (by simpa using hc.1.2)
      obtain ⟨h2, g2⟩ := ec 2 (by simpa using hc.2)
      split
      · refine ⟨by omega, fun j j1 j2 hj => ?_⟩
        by_cases hjj : j = pos
        · exact base j j1 (by omega) hj
        · by_cases hjk : j = pos + 1
          · subst hjk; exact g1
          · obtain rfl : j = pos + 2 := by simp at j2; omega
            exact g2
      · exact ⟨by omega, base⟩
    · split
      · rename_i hc
        simp only [Bool.and_eq_true] at hc
        obtain ⟨h1, g1⟩ := ec 1 (by simpa using hc.1.1.2)
        obtain ⟨h2, g2⟩ := ec 2 (by simpa using hc.1.2)
        obtain ⟨h3, g3⟩ := ec 3 (by simpa using hc.2)
        split
        · refine ⟨by omega, fun j j1 j2 hj => ?_⟩
          by_cases hjj : j = pos
          · exact base j j1 (by omega) hj
          · by_cases hjk : j = pos + 1
            · subst hjk; exact g1
            · by_cases hjl : j = pos + 2
              · subst hjl; exact g2
              · obtain rfl : j = pos + 3 := by simp at j2; omega
                exact g3
        · exact ⟨by omega, base⟩
      · exact ⟨by omega, base⟩
end Go.Proofs.YtkelmhpoplbacaaGreatDoor.V
namespace Go.Proofs.YtkelmhpoplbacaaGreatDoor.V
open Go.RowKit Go.Lib

/-- Has a text a special byte? -/
def anySp (l : List UInt8) : Bool := l.any bad

theorem anySp_false (s : ByteArray) (h : ∀ j, (hj : j < s.size) → bad s[j] = false) : anySp s.data.toList = false := by
  unfold anySp
  rw [List.any_eq_false]
  intro x hx
  obtain ⟨j, hj, rfl⟩ := List.getElem_of_mem hx
  have h2 := h j (by simpa using hj)
  rw [Bool.not_eq_true]; exact h2
theorem anySp_true (s : ByteArray) (j : Nat) (hj : j < s.size) (h : bad s[j] = true) : anySp s.data.toList = true := by
  unfold anySp
  rw [List.any_eq_true]
  exact ⟨s[j], List.getElem_mem (by simpa using hj), h⟩
theorem high_plain (x : UInt8) (h : 128 ≤ x.toNat) : bad x = false := by
  unfold bad
  rw [← Bool.not_eq_true, List.contains_iff_mem]
  intro hm
  simp only [List.mem_cons, List.not_mem_nil, or_false] at hm
  rcases hm with rfl | rfl | rfl | rfl | rfl | rfl | rfl | rfl | rfl | rfl | rfl <;> revert h <;> decide
theorem index_contains (l : List UInt8) (c : UInt8) : (0 ≤ Lib.indexByte l c) ↔ l.contains c = true := by
  induction l with
  | nil => simp [Lib.indexByte]
  | cons a l ih =>
    have hg := Lib.indexByte_ge l c
    unfold Lib.indexByte
    by_cases h : a = c
    · subst h; simp
    · have h1 : (a == c) = false := by simpa using h
      rw [h1, List.contains_cons, show (c == a) = false by simpa using Ne.symm h, Bool.false_or, ← ih]
      simp only [Bool.false_eq_true, if_false]
      split
      · rename_i h2; simp at h2; omega
      · rename_i h2; simp at h2; omega
theorem index_special (c : UInt8) : ∃ X : Int, Lib.indexByte CH.data.toList c = X ∧ (0 ≤ X ↔ bad c = true) := ⟨_, rfl, index_contains _ _⟩

theorem indexAny_sp (l : List UInt8) : (0 ≤ Lib.indexAny l CH.data.toList) ↔ anySp l = true := by
  induction l with
  | nil => simp [Lib.indexAny, anySp]
  | cons b l ih =>
    have hc : (CH.data.toList.contains b) = bad b := rfl
    unfold Lib.indexAny
    rw [hc]
    unfold anySp at ih ⊢
    simp only [List.any_cons]
    cases hs : bad b
    · simp only [Bool.false_eq_true, if_false, Bool.false_or]
      have hg := Lib.indexAny_ge CH.data.toList l
      rw [← ih]
      split
      · rename_i h; simp at h; omega
      · rename_i h; simp at h; omega
    · simp

set_option maxHeartbeats 2000000 in
set_option maxRecDepth 100000 in
theorem indexAny_short (s : ByteArray) (w : World) (h8 : s.size ≤ 8) :
    Calls Tryz.prog 97 #[.string s, .string CH] w fun e w' => ∃ v : Int, e = .returned (.int .i64 v) ∧ (0 ≤ v ↔ anySp s.data.toList = true) ∧ Below w.heap.size w w' := by
  have hch : CH.size = 11 := rfl
  have hemp : CH.toList.isEmpty = false := by rw [Lib.toList_data]; rfl
  have h8z : ¬ ((8 : Int) < (s.size : Int)) := by omega
  go_enter Tryz.func97, Tryz.ntmps97
  go_wp2
  go_loopg [9, 10] s.size (fun g _ _ wx => ∃ pos : Nat, pos + g = s.size ∧ wx.heap[w.heap.size]? = some (.stringIter s pos) ∧ Below w.heap.size w wx ∧ Hid (∀ j, j < pos → (hj : j < s.size) → bad s[j] = false))
  case atStart => exact ⟨0, by omega, World.iter_heap w s 0, (Below.refl _ _).alloc (Nat.le_refl _) _, fun j hj => by omega⟩
  case round =>
    obtain ⟨pos, hpg, hit, hb, HN⟩ := hrel
    have hbs := hb.size
    cases gk with
    | zero =>
      obtain rfl : pos = s.size := by omega
      have hnx := fun ty => run_next_end_at (P := Tryz.prog) wr w.heap.size s s.size ty hit (by omega)
      clear hit
      go_wp2
      go_ret
      exact ⟨-1, rfl, by rw [anySp_false s (fun j hj => HN.out j hj hj)]; simp, hb⟩
    | succ g =>
      have hp : pos < s.size := by omega
      by_cases hx : (s[pos]).toNat < 128
      · have hnx := fun ty => run_next_ascii_at (P := Tryz.prog) wr w.heap.size s pos ty hit hp hx
        have hh := iterAt_heap wr w.heap.size s pos (pos + 1) hit
        have hb2 := below_iterAt hb (Nat.le_refl w.heap.size) s (pos + 1)
        obtain ⟨wi, hwi⟩ : ∃ wi, wr.iterAt w.heap.size s (pos + 1) = wi := ⟨_, rfl⟩
        rw [hwi] at hh hb2
        simp only [hwi] at hnx
        obtain ⟨x, hxe⟩ : ∃ x : UInt8, s[pos] = x := ⟨_, rfl⟩
        simp only [hxe] at hnx
        obtain ⟨X, hX, hX0⟩ := index_special x
        have HO : Hid (∀ W, Calls Tryz.prog 125 #[.string CH, .int .i32 x.toNat] W fun e w' => e = .returned (.int .i64 X) ∧ w' = W) := by
          intro W
          have h := Tryz.strings_IndexRune_ascii CH x.toNat W (by omega) (by rw [← hxe]; omega)
          rw [u8_back] at h
          rw [← hX]; exact h
        have HX : Hid (s[pos] = x) := hxe
        clear hX hwi hit hxe
        cases hsp : bad x
        · have hlt : ¬ 0 ≤ X := by rw [hX0, hsp]; simp
          clear hX0
          have HSP : Hid (bad x = false) := hsp
          clear hsp
          go_wp2_with (go_at_call 125; refine (HO.out _).mono ?_; rintro e w' ⟨rfl, rfl⟩)
          go_roundg g
          case measure => omega
          case rel =>
            refine ⟨pos + 1, by omega, hh, hb2, ?_⟩
            intro j h1 hj
            by_cases hjp : j = pos
            · subst hjp; rw [HX.out]; exact HSP.out
            · exact HN.out j (by omega) hj
        · have hge : 0 ≤ X := by rw [hX0, hsp]
          clear hX0
          have HSP : Hid (bad x = true) := hsp
          clear hsp
          go_wp2_with (go_at_call 125; refine (HO.out _).mono ?_; rintro e w' ⟨rfl, rfl⟩)
          go_ret
          exact ⟨pos, rfl, by rw [anySp_true s pos hp (by rw [HX.out]; exact HSP.out)]; simp, hb2⟩
      · obtain ⟨d1, d2⟩ := decode_high s pos hp (by omega)
        obtain ⟨sp1, sp2⟩ := decode_span s pos hp (by omega)
        have hnx := fun ty => run_next_any_at (P := Tryz.prog) wr w.heap.size s pos ty hit hp
        obtain ⟨r, hr⟩ : ∃ r : Nat, (Utf8.decode s pos).1 = r := ⟨_, rfl⟩
        obtain ⟨n, hn⟩ : ∃ n : Nat, (Utf8.decode s pos).2 = n := ⟨_, rfl⟩
        rw [hr] at d1
        rw [hn] at d2 sp1 sp2
        simp only [hr, hn] at hnx
        have hh := iterAt_heap wr w.heap.size s pos (pos + n) hit
        have hb2 := below_iterAt hb (Nat.le_refl w.heap.size) s (pos + n)
        obtain ⟨wi, hwi⟩ : ∃ wi, wr.iterAt w.heap.size s (pos + n) = wi := ⟨_, rfl⟩
        rw [hwi] at hh hb2
        simp only [hwi] at hnx
        have hlt0 : w.heap.size < wi.heap.size := (Array.getElem?_eq_some_iff.1 hh).1
        have HS : Hid (∀ j, pos ≤ j → j < pos + n → (hj : j < s.size) → 128 ≤ (s[j]).toNat) := sp2
        have HR : Hid (∀ W : World, Calls Tryz.prog 125 #[.string CH, .int .i32 (r : Int)] W fun e w' => e = .returned (.int .i64 (-1)) ∧ Below W.heap.size W w') := fun W => rune_high r W (by omega)
        clear hr hn hwi hit sp2
        go_wp2_with (go_at_call 125; refine (HR.out _).mono ?_; rintro e w1 ⟨rfl, hb1⟩)
        go_roundg (s.size - (pos + n))
        case measure => omega
        case rel =>
          refine ⟨pos + n, by omega, (hb1.block w.heap.size hlt0).trans hh, hb2.trans (hb1.mono (by omega)), ?_⟩
          intro j h1 hj
          by_cases hjp : j < pos
          · exact HN.out j hjp hj
          · exact high_plain _ (HS.out j (by omega) h1 hj)

theorem ch_ascii (j : Nat) (b : UInt8) (h : CH.data.toList[j]? = some b) : b.toNat < 128 := by
  obtain ⟨hj, rfl⟩ := List.getElem?_eq_some_iff.1 h
  exact ch_at j (by simpa using hj)

theorem indexAny_any (s : ByteArray) (w : World) (hs : s.size ≤ 1000000) :
    Calls Tryz.prog 97 #[.string s, .string CH] w fun e w' => ∃ v : Int, e = .returned (.int .i64 v) ∧ (0 ≤ v ↔ anySp s.data.toList = true) ∧ Below w.heap.size w w' := by
  by_cases h8 : s.size ≤ 8
  · exact indexAny_short s w h8
  · have hz := zero_of_info (P := Tryz.prog) (t := 164) (h := (show (Tryz.prog.info? 164).map (fun i => (i.zero, i.size)) = some (some (.agg (Array.replicate 256 (.bool false))), 256) by kernel_rfl))
    refine (Tryz.strings_IndexAny_long hz.1 s CH w (by decide) (by omega) (by omega) (by decide) ch_ascii).mono ?_
    rintro e w' ⟨rfl, rfl⟩
    exact ⟨_, rfl, indexAny_sp _, ((Below.refl _ _).alloc (Nat.le_refl _) _).alloc (by simp) _⟩

set_option maxHeartbeats 400000 in
theorem containsAny_any (s : ByteArray) (w : World) (hs : s.size ≤ 1000000) :
    Calls Tryz.prog 65 #[.string s, .string CH] w fun e w' => e = .returned (.bool (anySp s.data.toList)) ∧ Below w.heap.size w w' := by
  have HO : Hid (∀ W, Calls Tryz.prog 97 #[.string s, .string CH] W fun e w' => ∃ v : Int, e = .returned (.int .i64 v) ∧ (0 ≤ v ↔ anySp s.data.toList = true) ∧ Below W.heap.size W w') := fun W => indexAny_any s W hs
  obtain ⟨b, hb⟩ : ∃ b, anySp s.data.toList = b := ⟨_, rfl⟩
  rw [hb] at HO ⊢
  clear hb hs
  go_enter Tryz.func65, Tryz.ntmps65
  go_wp2_with fail
  refine (HO.out _).mono ?_
  rintro e w1 ⟨v, rfl, hv, hb1⟩
  have HV : Hid (0 ≤ v ↔ b = true) := hv
  clear hv
  go_wp2
  go_ret
  refine ⟨ret_bool ?_, hb1⟩
  cases b
  · simpa using HV.out
  · simpa using HV.out


theorem str_empty {s : ByteArray} (h : s.size = 0) : s = E := by
  apply bl_inj
  have : (bl s).length = 0 := by rw [bl_length]; exact h
  rw [List.length_eq_zero_iff.1 this]; rfl

set_option maxHeartbeats 400000 in
theorem right_any (s : ByteArray) (w : World) :
    Calls Tryz.prog 41 #[.string s] w fun e w' => e = .returned (.bool (rightB s)) ∧ Below w.heap.size w w' := by
  by_cases h0 : s.size = 0
  · obtain rfl := str_empty h0
    go_enter Tryz.func41, Tryz.ntmps41
    go_wp2
    go_ret
    exact ⟨ret_bool rfl, Below.refl _ _⟩
  · have hne : ¬ s.toList = [] := by rw [Lib.toList_data]; intro e; apply h0; rw [← bl_length]; unfold bl; rw [e]; rfl
    have hem : s.toList.isEmpty = false := by simpa using hne
    by_cases h64 : s.size ≤ 64
    · have h64i : (s.size : Int) ≤ 64 := by omega
      have HO : Hid (∀ W, Calls Tryz.prog 65 #[.string s, .string CH] W fun e w' => e = .returned (.bool (anySp s.data.toList)) ∧ Below W.heap.size W w') := fun W => containsAny_any s W (by omega)
      have HR : Hid (rightB s = !anySp s.data.toList) := by
        unfold Hid rightB
        rw [show decide (1 ≤ s.size) = true by simp; omega, show decide (s.size ≤ 64) = true by simp [h64]]; rfl
      obtain ⟨b, hb⟩ : ∃ b, anySp s.data.toList = b := ⟨_, rfl⟩
      rw [hb] at HO HR
      clear hb h0 h64
      go_enter Tryz.func41, Tryz.ntmps41
      go_wp2_with fail
      refine (HO.out _).mono ?_
      rintro e w1 ⟨rfl, hb1⟩
      go_wp2
      go_ret
      exact ⟨ret_bool HR.out.symm, hb1⟩
    · have h64i : ¬ (s.size : Int) ≤ 64 := by omega
      have HR : Hid (rightB s = false) := by
        unfold Hid rightB
        rw [show decide (s.size ≤ 64) = false by simp; omega, Bool.and_false]; rfl
      clear h0 h64
      go_enter Tryz.func41, Tryz.ntmps41
      go_wp2
      go_ret
      exact ⟨ret_bool HR.out.symm, Below.refl _ _⟩
end Go.Proofs.YtkelmhpoplbacaaGreatDoor.V
