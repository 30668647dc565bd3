/-
  What the library's IndexAny answers when it looks for a blank in any text.
-/
import Derived.Test.YtbciedpjaajhcaaDoorLRune
namespace Go.Proofs.YtbciedpjaajhcaaDoor
open Go.RowKit Go.Lib

def isB (c : UInt8) : Bool := [32, 9].contains c
theorem index_blank (c : UInt8) : ∃ X : Int, Lib.indexByte [32, 9] c = X ∧ (0 ≤ X ↔ isB c = true) := by
  refine ⟨_, rfl, ?_⟩
  unfold isB
  by_cases h1 : c = 32
  · subst h1; decide
  by_cases h2 : c = 9
  · subst h2; decide
  have g : ∀ x : UInt8, c ≠ x → (x == c) = false := fun x h => by simpa using fun e => h e.symm
  have g' : ∀ x : UInt8, c ≠ x → (c == x) = false := fun x h => by simpa using h
  simp [Lib.indexByte, g 32 h1, g 9 h2, h1, h2]
theorem high_plain (x : UInt8) (h : 128 ≤ x.toNat) : isB x = false := by
  unfold isB
  have g : ∀ y : UInt8, y.toNat < 128 → (x == y) = false := fun y hy => by
    rw [← Bool.not_eq_true, beq_iff_eq]; intro e; rw [e] at h; omega
  simp only [List.contains_cons, List.contains_nil, Bool.or_false]
  rw [g 32 (by decide), g 9 (by decide)]; rfl
theorem no_any (s : ByteArray) (n : Nat) (h : ∀ j, j < n → (hj : j < s.size) → isB s[j] = false) : Lib.NoAny (bl s) [32, 9] n := fun j b hj hb => by
  have hjs : j < s.size := by have := (List.getElem?_eq_some_iff.1 hb).1; rwa [bl_length] at this
  have h2 := bl_get s j hjs
  rw [h2] at hb
  rw [← Option.some.inj hb]; exact h j hj hjs
theorem any_hit (s : ByteArray) (pos : Nat) (hp : pos < s.size) (h : ∀ j, j < pos → (hj : j < s.size) → isB s[j] = false) (hx : isB s[pos] = true) : Lib.indexAny (bl s) [32, 9] = (pos : Int) :=
  Lib.indexAny_hit (no_any s pos h) (bl_get s pos hp) hx
theorem any_miss (s : ByteArray) (h : ∀ j, (hj : j < s.size) → isB s[j] = false) : Lib.indexAny (bl s) [32, 9] = -1 := by
  have hn := no_any s s.size (fun j _ hj => h j hj)
  rw [← bl_length] at hn
  generalize bl s = l at hn
  induction l with
  | nil => rfl
  | cons b l ih =>
    have h0 := hn 0 b (by simp) rfl
    have ih' := ih (fun j c hj hc => hn (j + 1) c (by simp; omega) (by simpa using hc))
    rw [Lib.indexAny, if_neg (by rw [h0]; simp), ih']; rfl

set_option maxHeartbeats 2000000 in
set_option maxRecDepth 100000 in
theorem indexAny_short (s : ByteArray) (w : World) (h8 : s.size ≤ 8) :
    Calls Tryd.prog 72 #[.string s, .string CH] w fun e w' => e = .returned (.int .i64 (Lib.indexAny (bl s) [32, 9])) ∧ Below w.heap.size w w' := by
  have hch : CH.size = 2 := rfl
  have hemp : CH.toList.isEmpty = false := by rw [Lib.toList_data]; rfl
  have h8z : ¬ ((8 : Int) < (s.size : Int)) := by omega
  go_enter Tryd.func72, Tryd.ntmps72
  go_wp2
  go_loopg [9, 10] s.size (fun g _ _ wx => ∃ pos : Nat, pos + g = s.size ∧ wx.heap[w.heap.size]? = some (.stringIter s pos) ∧ Below w.heap.size w wx ∧ Hid (∀ j, j < pos → (hj : j < s.size) → isB s[j] = false))
  case atStart => exact ⟨0, by omega, World.iter_heap w s 0, (Below.refl _ _).alloc (Nat.le_refl _) _, fun j hj => by omega⟩
  case round =>
    obtain ⟨pos, hpg, hit, hb, HN⟩ := hrel
    have hbs := hb.size
    cases gk with
    | zero =>
      obtain rfl : pos = s.size := by omega
      have hnx := fun ty => run_next_end_at (P := Tryd.prog) wr w.heap.size s s.size ty hit (by omega)
      clear hit
      go_wp2
      go_ret
      exact ⟨ret_int (any_miss s (fun j hj => HN.out j hj hj)).symm, hb⟩
    | succ g =>
      have hp : pos < s.size := by omega
      by_cases hx : (s[pos]).toNat < 128
      · have hnx := fun ty => run_next_ascii_at (P := Tryd.prog) wr w.heap.size s pos ty hit hp hx
        have hh := iterAt_heap wr w.heap.size s pos (pos + 1) hit
        have hb2 := below_iterAt hb (Nat.le_refl w.heap.size) s (pos + 1)
        obtain ⟨wi, hwi⟩ : ∃ wi, wr.iterAt w.heap.size s (pos + 1) = wi := ⟨_, rfl⟩
        rw [hwi] at hh hb2
        simp only [hwi] at hnx
        obtain ⟨x, hxe⟩ : ∃ x : UInt8, s[pos] = x := ⟨_, rfl⟩
        simp only [hxe] at hnx
        obtain ⟨X, hX, hX0⟩ := index_blank x
        have HO : Hid (∀ W, Calls Tryd.prog 71 #[.string CH, .int .i32 x.toNat] W fun e w' => e = .returned (.int .i64 X) ∧ w' = W) := by
          intro W
          have h := Tryd.strings_IndexRune_ascii CH x.toNat W (by omega) (by rw [← hxe]; omega)
          rw [u8_back] at h
          rw [← hX]; exact h
        have HX : Hid (s[pos] = x) := hxe
        clear hX hwi hit hxe
        cases hsp : isB x
        · have hlt : ¬ 0 ≤ X := by rw [hX0, hsp]; simp
          clear hX0
          have HSP : Hid (isB x = false) := hsp
          clear hsp
          go_wp2_with (go_at_call 71; refine (HO.out _).mono ?_; rintro e w' ⟨rfl, rfl⟩)
          go_roundg g
          case measure => omega
          case rel =>
            refine ⟨pos + 1, by omega, hh, hb2, ?_⟩
            intro j h1 hj
            by_cases hjp : j = pos
            · subst hjp; rw [HX.out]; exact HSP.out
            · exact HN.out j (by omega) hj
        · have hge : 0 ≤ X := by rw [hX0, hsp]
          clear hX0
          have HSP : Hid (isB x = true) := hsp
          clear hsp
          go_wp2_with (go_at_call 71; refine (HO.out _).mono ?_; rintro e w' ⟨rfl, rfl⟩)
          go_ret
          exact ⟨ret_int (any_hit s pos hp HN.out (by rw [HX.out]; exact HSP.out)).symm, hb2⟩
      · obtain ⟨d1, d2⟩ := decode_high s pos hp (by omega)
        obtain ⟨sp1, sp2⟩ := decode_span s pos hp (by omega)
        have hnx := fun ty => run_next_any_at (P := Tryd.prog) wr w.heap.size s pos ty hit hp
        obtain ⟨r, hr⟩ : ∃ r : Nat, (Utf8.decode s pos).1 = r := ⟨_, rfl⟩
        obtain ⟨n, hn⟩ : ∃ n : Nat, (Utf8.decode s pos).2 = n := ⟨_, rfl⟩
        rw [hr] at d1
        rw [hn] at d2 sp1 sp2
        simp only [hr, hn] at hnx
        have hh := iterAt_heap wr w.heap.size s pos (pos + n) hit
        have hb2 := below_iterAt hb (Nat.le_refl w.heap.size) s (pos + n)
        obtain ⟨wi, hwi⟩ : ∃ wi, wr.iterAt w.heap.size s (pos + n) = wi := ⟨_, rfl⟩
        rw [hwi] at hh hb2
        simp only [hwi] at hnx
        have hlt0 : w.heap.size < wi.heap.size := (Array.getElem?_eq_some_iff.1 hh).1
        have HS : Hid (∀ j, pos ≤ j → j < pos + n → (hj : j < s.size) → 128 ≤ (s[j]).toNat) := sp2
        have HR : Hid (∀ W : World, Calls Tryd.prog 71 #[.string CH, .int .i32 (r : Int)] W fun e w' => e = .returned (.int .i64 (-1)) ∧ Below W.heap.size W w') := fun W => rune_high r W (by omega)
        clear hr hn hwi hit sp2
        go_wp2_with (go_at_call 71; refine (HR.out _).mono ?_; rintro e w1 ⟨rfl, hb1⟩)
        go_roundg (s.size - (pos + n))
        case measure => omega
        case rel =>
          refine ⟨pos + n, by omega, (hb1.block w.heap.size hlt0).trans hh, hb2.trans (hb1.mono (by omega)), ?_⟩
          intro j h1 hj
          by_cases hjp : j < pos
          · exact HN.out j hjp hj
          · exact high_plain _ (HS.out j (by omega) h1 hj)


theorem ch_ascii (j : Nat) (b : UInt8) (h : CH.data.toList[j]? = some b) : b.toNat < 128 := by
  have hl : [32, 9][j]? = some b := h
  rcases j with _ | _ | j <;> simp at hl <;> (subst hl; decide)
theorem indexAny_any (s : ByteArray) (w : World) (hs : s.size ≤ 2000000) :
    Calls Tryd.prog 72 #[.string s, .string CH] w fun e w' => e = .returned (.int .i64 (Lib.indexAny (bl s) [32, 9])) ∧ Below w.heap.size w w' := by
  by_cases h8 : s.size ≤ 8
  · exact indexAny_short s w h8
  · have hz := zero_of_info (P := Tryd.prog) (t := 92) (h := (show (Tryd.prog.info? 92).map (fun i => (i.zero, i.size)) = some (some (.agg (Array.replicate 256 (.bool false))), 256) by kernel_rfl))
    refine (Tryd.strings_IndexAny_long hz.1 s CH w (by decide) (by omega) (by omega) (by decide) ch_ascii).mono ?_
    rintro e w' ⟨rfl, rfl⟩
    exact ⟨rfl, ((Below.refl _ _).alloc (Nat.le_refl _) _).alloc (by simp) _⟩
end Go.Proofs.YtbciedpjaajhcaaDoor
