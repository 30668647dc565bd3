/-
  What the library's IndexAny and ContainsAny answer when they look for the four special bytes in any text, and what the program's Plain and the document's own Plain answer.
-/
import Derived.Test.YtpelefbddbghaaaDoorRune
namespace Go.Proofs.YtpelefbddbghaaaDoor
open Go.RowKit Go.Lib

/-- Has a text a special byte? -/
def anySp (l : List UInt8) : Bool := l.any G.special

theorem anySp_false (s : ByteArray) (h : ∀ j, (hj : j < s.size) → G.special s[j] = false) : anySp s.data.toList = false := by
  unfold anySp
  rw [List.any_eq_false]
  intro x hx
  obtain ⟨j, hj, rfl⟩ := List.getElem_of_mem hx
  have h2 := h j (by simpa using hj)
  rw [Bool.not_eq_true]; exact h2
theorem anySp_true (s : ByteArray) (j : Nat) (hj : j < s.size) (h : G.special s[j] = true) : anySp s.data.toList = true := by
  unfold anySp
  rw [List.any_eq_true]
  exact ⟨s[j], List.getElem_mem (by simpa using hj), h⟩
theorem high_plain (x : UInt8) (h : 128 ≤ x.toNat) : G.special x = false := by
  unfold G.special
  have g : ∀ y : UInt8, y.toNat < 128 → (x == y) = false := fun y hy => by
    rw [← Bool.not_eq_true, beq_iff_eq]; intro e; rw [e] at h; omega
  rw [g 42 (by decide), g 63 (by decide), g 91 (by decide), g 92 (by decide)]; rfl

theorem indexAny_sp (l : List UInt8) : (0 ≤ Lib.indexAny l CH.data.toList) ↔ anySp l = true := by
  induction l with
  | nil => simp [Lib.indexAny, anySp]
  | cons b l ih =>
    have hc : (CH.data.toList.contains b) = G.special b := by
      show [42, 63, 91, 92].contains b = _
      simp only [List.contains_cons, List.contains_nil, Bool.or_false, G.special]
      rw [Bool.or_assoc, Bool.or_assoc]
    unfold Lib.indexAny
    rw [hc]
    unfold anySp at ih ⊢
    simp only [List.any_cons]
    cases hs : G.special b
    · simp only [Bool.false_eq_true, if_false, Bool.false_or]
      have hg := Lib.indexAny_ge CH.data.toList l
      rw [← ih]
      split
      · rename_i h; simp at h; omega
      · rename_i h; simp at h; omega
    · simp

set_option maxHeartbeats 2000000 in
set_option maxRecDepth 100000 in
theorem indexAny_short (s : ByteArray) (w : World) (h8 : s.size ≤ 8) :
    Calls Tryd.prog 32 #[.string s, .string CH] w fun e w' => ∃ v : Int, e = .returned (.int .i64 v) ∧ (0 ≤ v ↔ anySp s.data.toList = true) ∧ Below w.heap.size w w' := by
  have hch : CH.size = 4 := rfl
  have hemp : CH.toList.isEmpty = false := by rw [Lib.toList_data]; rfl
  have h8z : ¬ ((8 : Int) < (s.size : Int)) := by omega
  go_enter Tryd.func32, Tryd.ntmps32
  go_wp2
  go_loopg [9, 10] s.size (fun g _ _ wx => ∃ pos : Nat, pos + g = s.size ∧ wx.heap[w.heap.size]? = some (.stringIter s pos) ∧ Below w.heap.size w wx ∧ Hid (∀ j, j < pos → (hj : j < s.size) → G.special s[j] = false))
  case atStart => exact ⟨0, by omega, World.iter_heap w s 0, (Below.refl _ _).alloc (Nat.le_refl _) _, fun j hj => by omega⟩
  case round =>
    obtain ⟨pos, hpg, hit, hb, HN⟩ := hrel
    have hbs := hb.size
    cases gk with
    | zero =>
      obtain rfl : pos = s.size := by omega
      have hnx := fun ty => run_next_end_at (P := Tryd.prog) wr w.heap.size s s.size ty hit (by omega)
      clear hit
      go_wp2
      go_ret
      exact ⟨-1, rfl, by rw [anySp_false s (fun j hj => HN.out j hj hj)]; simp, hb⟩
    | succ g =>
      have hp : pos < s.size := by omega
      by_cases hx : (s[pos]).toNat < 128
      · have hnx := fun ty => run_next_ascii_at (P := Tryd.prog) wr w.heap.size s pos ty hit hp hx
        have hh := iterAt_heap wr w.heap.size s pos (pos + 1) hit
        have hb2 := below_iterAt hb (Nat.le_refl w.heap.size) s (pos + 1)
        obtain ⟨wi, hwi⟩ : ∃ wi, wr.iterAt w.heap.size s (pos + 1) = wi := ⟨_, rfl⟩
        rw [hwi] at hh hb2
        simp only [hwi] at hnx
        obtain ⟨x, hxe⟩ : ∃ x : UInt8, s[pos] = x := ⟨_, rfl⟩
        simp only [hxe] at hnx
        obtain ⟨X, hX, hX0⟩ := index_special x
        have HO : Hid (∀ W, Calls Tryd.prog 42 #[.string CH, .int .i32 x.toNat] W fun e w' => e = .returned (.int .i64 X) ∧ w' = W) := by
          intro W
          have h := Tryd.strings_IndexRune_ascii CH x.toNat W (by omega) (by rw [← hxe]; omega)
          rw [u8_back] at h
          rw [← hX]; exact h
        have HX : Hid (s[pos] = x) := hxe
        clear hX hwi hit hxe
        cases hsp : G.special x
        · have hlt : ¬ 0 ≤ X := by rw [hX0, hsp]; simp
          clear hX0
          have HSP : Hid (G.special x = false) := hsp
          clear hsp
          go_wp2_with (go_at_call 42; refine (HO.out _).mono ?_; rintro e w' ⟨rfl, rfl⟩)
          go_roundg g
          case measure => omega
          case rel =>
            refine ⟨pos + 1, by omega, hh, hb2, ?_⟩
            intro j h1 hj
            by_cases hjp : j = pos
            · subst hjp; rw [HX.out]; exact HSP.out
            · exact HN.out j (by omega) hj
        · have hge : 0 ≤ X := by rw [hX0, hsp]
          clear hX0
          have HSP : Hid (G.special x = true) := hsp
          clear hsp
          go_wp2_with (go_at_call 42; refine (HO.out _).mono ?_; rintro e w' ⟨rfl, rfl⟩)
          go_ret
          exact ⟨pos, rfl, by rw [anySp_true s pos hp (by rw [HX.out]; exact HSP.out)]; simp, hb2⟩
      · obtain ⟨d1, d2⟩ := decode_high s pos hp (by omega)
        obtain ⟨sp1, sp2⟩ := decode_span s pos hp (by omega)
        have hnx := fun ty => run_next_any_at (P := Tryd.prog) wr w.heap.size s pos ty hit hp
        obtain ⟨r, hr⟩ : ∃ r : Nat, (Utf8.decode s pos).1 = r := ⟨_, rfl⟩
        obtain ⟨n, hn⟩ : ∃ n : Nat, (Utf8.decode s pos).2 = n := ⟨_, rfl⟩
        rw [hr] at d1
        rw [hn] at d2 sp1 sp2
        simp only [hr, hn] at hnx
        have hh := iterAt_heap wr w.heap.size s pos (pos + n) hit
        have hb2 := below_iterAt hb (Nat.le_refl w.heap.size) s (pos + n)
        obtain ⟨wi, hwi⟩ : ∃ wi, wr.iterAt w.heap.size s (pos + n) = wi := ⟨_, rfl⟩
        rw [hwi] at hh hb2
        simp only [hwi] at hnx
        have hlt0 : w.heap.size < wi.heap.size := (Array.getElem?_eq_some_iff.1 hh).1
        have HS : Hid (∀ j, pos ≤ j → j < pos + n → (hj : j < s.size) → 128 ≤ (s[j]).toNat) := sp2
        have HR : Hid (∀ W : World, Calls Tryd.prog 42 #[.string CH, .int .i32 (r : Int)] W fun e w' => e = .returned (.int .i64 (-1)) ∧ Below W.heap.size W w') := fun W => rune_high r W (by omega)
        clear hr hn hwi hit sp2
        go_wp2_with (go_at_call 42; refine (HR.out _).mono ?_; rintro e w1 ⟨rfl, hb1⟩)
        go_roundg (s.size - (pos + n))
        case measure => omega
        case rel =>
          refine ⟨pos + n, by omega, (hb1.block w.heap.size hlt0).trans hh, hb2.trans (hb1.mono (by omega)), ?_⟩
          intro j h1 hj
          by_cases hjp : j < pos
          · exact HN.out j hjp hj
          · exact high_plain _ (HS.out j (by omega) h1 hj)

theorem ch_ascii (j : Nat) (b : UInt8) (h : CH.data.toList[j]? = some b) : b.toNat < 128 := by
  have hl : [42, 63, 91, 92][j]? = some b := h
  rcases j with _ | _ | _ | _ | j <;> simp at hl <;> (subst hl; decide)

theorem indexAny_any (s : ByteArray) (w : World) (hs : s.size ≤ 1000000) :
    Calls Tryd.prog 32 #[.string s, .string CH] w fun e w' => ∃ v : Int, e = .returned (.int .i64 v) ∧ (0 ≤ v ↔ anySp s.data.toList = true) ∧ Below w.heap.size w w' := by
  by_cases h8 : s.size ≤ 8
  · exact indexAny_short s w h8
  · have hz := zero_of_info (P := Tryd.prog) (t := 57) (h := (show (Tryd.prog.info? 57).map (fun i => (i.zero, i.size)) = some (some (.agg (Array.replicate 256 (.bool false))), 256) by kernel_rfl))
    refine (Tryd.strings_IndexAny_long hz.1 s CH w (by decide) (by omega) (by omega) (by decide) ch_ascii).mono ?_
    rintro e w' ⟨rfl, rfl⟩
    exact ⟨_, rfl, indexAny_sp _, ((Below.refl _ _).alloc (Nat.le_refl _) _).alloc (by simp) _⟩

set_option maxHeartbeats 400000 in
theorem containsAny_any (s : ByteArray) (w : World) (hs : s.size ≤ 1000000) :
    Calls Tryd.prog 23 #[.string s, .string CH] w fun e w' => e = .returned (.bool (anySp s.data.toList)) ∧ Below w.heap.size w w' := by
  have HO : Hid (∀ W, Calls Tryd.prog 32 #[.string s, .string CH] W fun e w' => ∃ v : Int, e = .returned (.int .i64 v) ∧ (0 ≤ v ↔ anySp s.data.toList = true) ∧ Below W.heap.size W w') := fun W => indexAny_any s W hs
  obtain ⟨b, hb⟩ : ∃ b, anySp s.data.toList = b := ⟨_, rfl⟩
  rw [hb] at HO ⊢
  clear hb hs
  go_enter Tryd.func23, Tryd.ntmps23
  go_wp2_with fail
  refine (HO.out _).mono ?_
  rintro e w1 ⟨v, rfl, hv, hb1⟩
  have HV : Hid (0 ≤ v ↔ b = true) := hv
  clear hv
  go_wp2
  go_ret
  refine ⟨ret_bool ?_, hb1⟩
  cases b
  · simpa using HV.out
  · simpa using HV.out

set_option maxHeartbeats 400000 in
theorem plain_any (s : ByteArray) (w : World) (hs : s.size ≤ 1000000) :
    Calls Tryd.prog 13 #[.string s] w fun e w' => e = .returned (.bool (!anySp s.data.toList)) ∧ Below w.heap.size w w' := by
  have HO : Hid (∀ W, Calls Tryd.prog 23 #[.string s, .string CH] W fun e w' => e = .returned (.bool (anySp s.data.toList)) ∧ Below W.heap.size W w') := fun W => containsAny_any s W hs
  obtain ⟨b, hb⟩ : ∃ b, anySp s.data.toList = b := ⟨_, rfl⟩
  rw [hb] at HO ⊢
  clear hb hs
  go_enter Tryd.func13, Tryd.ntmps13
  go_wp2_with fail
  refine (HO.out _).mono ?_
  rintro e w1 ⟨rfl, hb1⟩
  go_wp2
  go_ret
  exact ⟨rfl, hb1⟩

theorem special_eq (c : UInt8) : G.special c = ((c.toNat : Int) == 42 || (c.toNat : Int) == 63 || (c.toNat : Int) == 91 || (c.toNat : Int) == 92) := by
  unfold G.special
  rw [← u8_beq c 42 42 rfl, ← u8_beq c 63 63 rfl, ← u8_beq c 91 91 rfl, ← u8_beq c 92 92 rfl]; rfl

set_option maxHeartbeats 800000 in
theorem refplain_any (s : ByteArray) (w : World) (hs : s.size ≤ 1000000) :
    Calls Tryd.prog 14 #[.string s] w fun e w' => e = .returned (.bool (!anySp s.data.toList)) ∧ w' = w := by
  go_enter Tryd.func14, Tryd.ntmps14
  go_wp2
  go_loop [3] (fun vi => ∃ k : Nat, k ≤ s.size ∧ vi = .int .i64 k ∧ Hid (∀ j, j < k → (hj : j < s.size) → G.special s[j] = false)) (fun vi => s.size - (RowKit.intOf vi).toNat)
  case atStart => exact ⟨0, by omega, rfl, fun j hj => by omega⟩
  case round =>
    obtain ⟨k, hk, rfl, HN⟩ := hrel
    by_cases hlt : k < s.size
    · have hil : (k : Int) < (s.size : Int) := by omega
      have hse := special_eq s[k]
      cases h1 : ((s[k].toNat : Int) == 42)
      · cases h2 : ((s[k].toNat : Int) == 63)
        · cases h3 : ((s[k].toNat : Int) == 91)
          · cases h4 : ((s[k].toNat : Int) == 92)
            · have HSP : Hid (G.special s[k] = false) := by rw [hse, h1, h2, h3, h4]; rfl
              clear hse
              go_wp2
              go_round
              case rel =>
                refine ⟨k + 1, by omega, by go_num, ?_⟩
                intro j h1 hj
                by_cases hjk : j = k
                · subst hjk; exact HSP.out
                · exact HN.out j (by omega) hj
              case measure => simp [RowKit.intOf]; omega
            · have HSP : Hid (G.special s[k] = true) := by rw [hse, h1, h2, h3, h4]; rfl
              clear hse
              go_wp2
              go_ret
              exact ⟨ret_bool (by rw [anySp_true s k hlt HSP.out]; rfl), rfl⟩
          · have HSP : Hid (G.special s[k] = true) := by rw [hse, h1, h2, h3]; rfl
            clear hse
            go_wp2
            go_ret
            exact ⟨ret_bool (by rw [anySp_true s k hlt HSP.out]; rfl), rfl⟩
        · have HSP : Hid (G.special s[k] = true) := by rw [hse, h1, h2]; rfl
          clear hse
          go_wp2
          go_ret
          exact ⟨ret_bool (by rw [anySp_true s k hlt HSP.out]; rfl), rfl⟩
      · have HSP : Hid (G.special s[k] = true) := by rw [hse, h1]; rfl
        clear hse
        go_wp2
        go_ret
        exact ⟨ret_bool (by rw [anySp_true s k hlt HSP.out]; rfl), rfl⟩
    · go_wp2
      go_ret
      exact ⟨ret_bool (by rw [anySp_false s (fun j hj => HN.out j (by omega) hj)]; rfl), rfl⟩
end Go.Proofs.YtpelefbddbghaaaDoor
