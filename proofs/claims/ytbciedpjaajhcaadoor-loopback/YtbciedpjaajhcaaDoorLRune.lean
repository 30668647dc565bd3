/-
  What the library's IndexRune answers when it looks for any sign among the two blanks, told from its own text.
-/
import Derived.Test.YtbciedpjaajhcaaDoorB0
import Derived.Test.YtbciedpjaajhcaaDoorShelf
import Derived.Test.YtbciedpjaajhcaaDoorShelfI
import Derived.Deep.LoopGhost
import Derived.Lib.OthersKept
import Derived.Laws.RangeAny
import Derived.Laws.Runes
import Derived.WalkMore
import Derived.Deep.QuietTactic
import Derived.BigQuiet
namespace Go.Proofs.YtbciedpjaajhcaaDoor
open Go.RowKit Go.Lib

def CH : ByteArray := ⟨#[32, 9]⟩
theorem ch_at (j : Nat) (h : j < CH.size) : (CH[j]'h).toNat < 128 := by
  have h4 : j < 2 := h
  exact match j, h4 with
  | 0, _ => show (32 : UInt8).toNat < 128 from by decide
  | 1, _ => show (9 : UInt8).toNat < 128 from by decide
theorem idx_high (l : List UInt8) (c : UInt8) (h : ∀ x ∈ l, x.toNat < 128) (hc : 128 ≤ c.toNat) : Lib.indexByte l c = -1 := by
  induction l with
  | nil => rfl
  | cons a r ih =>
    have ha : (a == c) = false := by
      rw [← Bool.not_eq_true, beq_iff_eq]; intro e; have := h a (by simp); rw [e] at this; omega
    have hr := ih (fun x hx => h x (by simp [hx]))
    unfold Lib.indexByte
    rw [ha, hr]; rfl

set_option maxHeartbeats 2000000 in
set_option maxRecDepth 100000 in
theorem rune_invalid (r : Int) (w : World) (h1 : 128 ≤ r) (hv : 55296 ≤ r ∧ r ≤ 57343 ∨ 1114111 < r) :
    Calls Tryd.prog 71 #[.string CH, .int .i32 r] w fun e w' => e = .returned (.int .i64 (-1)) ∧ Below w.heap.size w w' := by
  have hne : (r == 65533) = false := by rw [← Bool.not_eq_true, beq_iff_eq]; omega
  go_enter Tryd.func71, Tryd.ntmps71
  go_wp2
  all_goals
    go_ret
    exact ⟨rfl, Below.refl _ _⟩

set_option maxHeartbeats 2000000 in
set_option maxRecDepth 100000 in
theorem rune_error (w : World) :
    Calls Tryd.prog 71 #[.string CH, .int .i32 65533] w fun e w' => e = .returned (.int .i64 (-1)) ∧ Below w.heap.size w w' := by
  have hch : CH.size = 2 := rfl
  go_enter Tryd.func71, Tryd.ntmps71
  go_wp2
  go_loopg [5, 6] 2 (fun g _ _ wx => ∃ i : Nat, i + g = 2 ∧ wx = w.iter CH i)
  case atStart => exact ⟨0, by omega, rfl⟩
  case round =>
    obtain ⟨i, hig, rfl⟩ := hrel
    cases gk with
    | zero =>
      obtain rfl : i = 2 := by omega
      have hnx := fun ty => run_next_end (P := Tryd.prog) w CH 2 ty (by decide)
      go_wp2
      go_ret
      exact ⟨rfl, (Below.refl _ _).alloc (Nat.le_refl _) _⟩
    | succ g =>
      have hi : i < CH.size := by omega
      have hx128 := ch_at i hi
      obtain ⟨x, hx⟩ : ∃ x : UInt8, CH[i]'hi = x := ⟨_, rfl⟩
      have hnx := fun ty => run_next_ascii (P := Tryd.prog) w CH i ty hi hx128
      rw [hx] at hnx hx128
      have hxne : ((x.toNat : Int) == 65533) = false := by rw [← Bool.not_eq_true, beq_iff_eq]; omega
      clear hx
      go_wp2
      go_roundg g
      case measure => omega
      case rel => exact ⟨i + 1, by omega, rfl⟩

set_option maxHeartbeats 2000000 in
set_option maxRecDepth 100000 in
theorem rune_valid (r : Int) (w : World) (h1 : 128 ≤ r) (h2 : r ≤ 1114111) (hne : r ≠ 65533) (hv : ¬ (55296 ≤ r ∧ r ≤ 57343)) :
    Calls Tryd.prog 71 #[.string CH, .int .i32 r] w fun e w' => e = .returned (.int .i64 (-1)) ∧ Below w.heap.size w w' := by
  have hval : Utf8.valid r = true := by simp [Utf8.valid]; omega
  obtain ⟨f1, f2, f3⟩ := encode_facts r hval h1
  obtain ⟨rs, hrs⟩ : ∃ rs, Utf8.encode r = rs := ⟨_, rfl⟩
  rw [hrs] at f1 f2 f3
  have hcv : ∀ W, (convert 21 9 (.int .i32 r)).run Tryd.prog W = .ok (.string rs) W := by
    intro W; rw [← hrs]; exact run_convert_int_string W 21 9 .i32 r (by rw [Tryd.underlying21]; rfl) Tryd.underlying9
  have hch : CH.size = 2 := rfl
  have hneB : (r == 65533) = false := by rw [← Bool.not_eq_true, beq_iff_eq]; exact hne
  clear hval hrs hne
  have hz : rs.size = 2 ∨ rs.size = 3 ∨ rs.size = 4 := by omega
  have f3' : ∀ k, (h : k < rs.size) → k = rs.size - 1 → 128 ≤ (rs[k]'h).toNat := by
    intro k h e; subst e; exact f3 h
  clear f3 f1 f2
  rcases hz with hz | hz | hz
  · have hr1 : 1 < rs.size := by omega
    have hy := f3' 1 hr1 (by omega)
    have hx : 1 < CH.size := by decide
    have hxv : (((CH[1]'hx).toNat : Int) != ((rs[1]'hr1).toNat : Int)) = true := by rw [bne_iff_ne]; have := ch_at 1 hx; omega
    have i1 : (1 : Int) < (CH.size : Int) := by omega
    have i2 : (1 : Int) < (rs.size : Int) := by omega
    obtain ⟨T, hT⟩ : ∃ T, T = CH.extract 2 CH.size := ⟨_, rfl⟩
    have hsl : ∀ W, (Instr.slice 9 (.string CH) (some (.int .i64 2)) none none).run Tryd.prog W = .ok (.string T) W := by
      intro W; rw [hT]; exact run_slice_string_l (P := Tryd.prog) W 9 CH Tryd.underlying9 .i64 2 (by decide) (by decide)
    have hwr : IntKind.i64.wrap 2 = 2 := by decide
    have HI : Hid (∀ W, Calls Tryd.prog 39 #[.string T, .int .u8 ((rs[1]'hr1).toNat : Int)] W fun e w' => e = .returned (.int .i64 (-1)) ∧ w' = W) := by
      intro W
      refine (Tryd.strings_IndexByte _ _ W).mono ?_
      rintro e w' ⟨rfl, rfl⟩
      exact ⟨by rw [u8_back, idx_high _ _ (by rw [hT]; decide) hy], rfl⟩
    clear f3' hT
    by_cases hlow : r < 55296
    all_goals
      go_enter Tryd.func71, Tryd.ntmps71
      go_wp2
      go_step3
      go_wp2
      refine wp_loop_rounds 1 ?_
      rw [rounds_succ]
      go_wp2
      go_step3
      go_wp2
      go_quiet (fail)
      go_wp2
      have hb1 : Below w.heap.size w (w.drewN nq) := below_drewN (Below.refl _ _) nq
      generalize w.drewN nq = w1 at hb1 ⊢
      go_quiet ((go_at_call 39; exact Calls.quiet_of_same (HI.out _)))
      go_wp2
      try rw [Exit.noGoto_ret]
      go_wp2
      try rw [Exit.noGoto_ret]
      go_wp2
      go_ret
      exact ⟨rfl, below_drewN hb1 _⟩
  · have hz3 : ¬ (2 : Int) < 2 := by omega
    clear f3'
    by_cases hlow : r < 55296
    all_goals
      go_enter Tryd.func71, Tryd.ntmps71
      go_wp2
      go_step3
      go_wp2
      refine wp_loop_rounds 1 ?_
      rw [rounds_succ]
      go_wp2
      try rw [Exit.noGoto_ret]
      try go_wp2
      try rw [Exit.noGoto_ret]
      try go_wp2
      go_ret
      exact ⟨rfl, Below.refl _ _⟩
  · clear f3'
    by_cases hlow : r < 55296
    all_goals
      go_enter Tryd.func71, Tryd.ntmps71
      go_wp2
      go_step3
      go_wp2
      refine wp_loop_rounds 1 ?_
      rw [rounds_succ]
      go_wp2
      try rw [Exit.noGoto_ret]
      try go_wp2
      try rw [Exit.noGoto_ret]
      try go_wp2
      go_ret
      exact ⟨rfl, Below.refl _ _⟩

theorem rune_high (r : Int) (w : World) (h1 : 128 ≤ r) :
    Calls Tryd.prog 71 #[.string CH, .int .i32 r] w fun e w' => e = .returned (.int .i64 (-1)) ∧ Below w.heap.size w w' := by
  by_cases he : r = 65533
  · subst he; exact rune_error w
  · by_cases hv : 55296 ≤ r ∧ r ≤ 57343 ∨ 1114111 < r
    · exact rune_invalid r w h1 hv
    · exact rune_valid r w h1 (by omega) he (by omega)

theorem get_at (s : ByteArray) (j : Nat) (h : j < s.size) : s.get! j = s[j] := by
  simp [ByteArray.get!, getElem!_pos, h]; rfl

/-- The bytes of a rune that is none of the first 128 are none of these. -/
theorem decode_span (s : ByteArray) (pos : Nat) (h : pos < s.size) (ha : 128 ≤ (s[pos]).toNat) :
    pos + (Utf8.decode s pos).2 ≤ s.size ∧ ∀ j, pos ≤ j → j < pos + (Utf8.decode s pos).2 → (hj : j < s.size) → 128 ≤ (s[j]).toNat := by
  have base : ∀ j, pos ≤ j → j < pos + 1 → (hj : j < s.size) → 128 ≤ (s[j]).toNat := by
    intro j h1 h2 hj; obtain rfl : j = pos := by omega
    exact ha
  have e0 : (s.get! (pos + 0)).toNat = (s[pos]).toNat := by rw [Nat.add_zero, get_at s pos h]
  have ec : ∀ k, (decide (pos + k < s.size) && (s.get! (pos + k)).toNat / 64 == 2) = true → ∃ hk : pos + k < s.size, 128 ≤ (s[pos + k]).toNat := by
    intro k hk
    simp only [Bool.and_eq_true, decide_eq_true_eq, beq_iff_eq] at hk
    refine ⟨hk.1, ?_⟩
    rw [get_at s _ hk.1] at hk; omega
  unfold Utf8.decode
  simp only [e0]
  rw [if_neg (by omega)]
  split
  · rename_i hc
    simp only [Bool.and_eq_true] at hc
    obtain ⟨h1, g1⟩ := ec 1 (by simpa using hc.2)
    split
    · refine ⟨by omega, fun j j1 j2 hj => ?_⟩
      by_cases hjj : j = pos
      · exact base j j1 (by omega) hj
      · obtain rfl : j = pos + 1 := by simp at j2; omega
        exact g1
    · exact ⟨by omega, base⟩
  · split
    · rename_i hc
      simp only [Bool.and_eq_true] at hc
      obtain ⟨h1, g1⟩ := ec 1 (by simpa using hc.1.2)
      obtain ⟨h2, g2⟩ := ec 2 (by simpa using hc.2)
      split
      · refine ⟨by omega, fun j j1 j2 hj => ?_⟩
        by_cases hjj : j = pos
        · exact base j j1 (by omega) hj
        · by_cases hjk : j = pos + 1
          · subst hjk; exact g1
          · obtain rfl : j = pos + 2 := by simp at j2; omega
            exact g2
      · exact ⟨by omega, base⟩
    · split
      · rename_i hc
        simp only [Bool.and_eq_true] at hc
        obtain ⟨h1, g1⟩ := ec 1 (by simpa using hc.1.1.2)
        obtain ⟨h2, g2⟩ := ec 2 (by simpa using hc.1.2)
        obtain ⟨h3, g3⟩ := ec 3 (by simpa using hc.2)
        split
        · refine ⟨by omega, fun j j1 j2 hj => ?_⟩
          by_cases hjj : j = pos
          · exact base j j1 (by omega) hj
          · by_cases hjk : j = pos + 1
            · subst hjk; exact g1
            · by_cases hjl : j = pos + 2
              · subst hjl; exact g2
              · obtain rfl : j = pos + 3 := by simp at j2; omega
                exact g3
        · exact ⟨by omega, base⟩
      · exact ⟨by omega, base⟩
end Go.Proofs.YtbciedpjaajhcaaDoor
