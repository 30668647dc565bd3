/-
  What the library's IndexAny and ContainsAny answer when they look in any text for the bytes that stand in no name, and what Right answers.
-/
import Derived.Test.YtjbmmeneejcpbaaVRune
namespace Go.Proofs.Ytjbmmeneejcpbaa
open Go.RowKit Go.Lib

/-- Has a text a special byte? -/
def anySp (l : List UInt8) : Bool := l.any bad

theorem anySp_false (s : ByteArray) (h : ∀ j, (hj : j < s.size) → bad s[j] = false) : anySp s.data.toList = false := by
  unfold anySp
  rw [List.any_eq_false]
  intro x hx
  obtain ⟨j, hj, rfl⟩ := List.getElem_of_mem hx
  have h2 := h j (by simpa using hj)
  rw [Bool.not_eq_true]; exact h2
theorem anySp_true (s : ByteArray) (j : Nat) (hj : j < s.size) (h : bad s[j] = true) : anySp s.data.toList = true := by
  unfold anySp
  rw [List.any_eq_true]
  exact ⟨s[j], List.getElem_mem (by simpa using hj), h⟩
theorem high_plain (x : UInt8) (h : 128 ≤ x.toNat) : bad x = false := by
  unfold bad
  rw [← Bool.not_eq_true, List.contains_iff_mem]
  intro hm
  simp only [List.mem_cons, List.not_mem_nil, or_false] at hm
  rcases hm with rfl | rfl | rfl | rfl | rfl | rfl | rfl | rfl | rfl | rfl | rfl <;> revert h <;> decide
theorem index_contains (l : List UInt8) (c : UInt8) : (0 ≤ Lib.indexByte l c) ↔ l.contains c = true := by
  induction l with
  | nil => simp [Lib.indexByte]
  | cons a l ih =>
    have hg := Lib.indexByte_ge l c
    unfold Lib.indexByte
    by_cases h : a = c
    · subst h; simp
    · have h1 : (a == c) = false := by simpa using h
      rw [h1, List.contains_cons, show (c == a) = false by simpa using Ne.symm h, Bool.false_or, ← ih]
      simp only [Bool.false_eq_true, if_false]
      split
      · rename_i h2; simp at h2; omega
      · rename_i h2; simp at h2; omega
theorem index_special (c : UInt8) : ∃ X : Int, Lib.indexByte CH.data.toList c = X ∧ (0 ≤ X ↔ bad c = true) := ⟨_, rfl, index_contains _ _⟩

theorem indexAny_sp (l : List UInt8) : (0 ≤ Lib.indexAny l CH.data.toList) ↔ anySp l = true := by
  induction l with
  | nil => simp [Lib.indexAny, anySp]
  | cons b l ih =>
    have hc : (CH.data.toList.contains b) = bad b := rfl
    unfold Lib.indexAny
    rw [hc]
    unfold anySp at ih ⊢
    simp only [List.any_cons]
    cases hs : bad b
    · simp only [Bool.false_eq_true, if_false, Bool.false_or]
      have hg := Lib.indexAny_ge CH.data.toList l
      rw [← ih]
      split
      · rename_i h; simp at h; omega
      · rename_i h; simp at h; omega
    · simp

set_option maxHeartbeats 2000000 in
set_option maxRecDepth 100000 in
theorem indexAny_short (s : ByteArray) (w : World) (h8 : s.size ≤ 8) :
    Calls Try.prog 45 #[.string s, .string CH] w fun e w' => ∃ v : Int, e = .returned (.int .i64 v) ∧ (0 ≤ v ↔ anySp s.data.toList = true) ∧ Below w.heap.size w w' := by
  have hch : CH.size = 11 := rfl
  have hemp : CH.toList.isEmpty = false := by rw [Lib.toList_data]; rfl
  have h8z : ¬ ((8 : Int) < (s.size : Int)) := by omega
  go_enter Try.func45, Try.ntmps45
  go_wp2
  go_loopg [9, 10] s.size (fun g _ _ wx => ∃ pos : Nat, pos + g = s.size ∧ wx.heap[w.heap.size]? = some (.stringIter s pos) ∧ Below w.heap.size w wx ∧ Hid (∀ j, j < pos → (hj : j < s.size) → bad s[j] = false))
  case atStart => exact ⟨0, by omega, World.iter_heap w s 0, (Below.refl _ _).alloc (Nat.le_refl _) _, fun j hj => by omega⟩
  case round =>
    obtain ⟨pos, hpg, hit, hb, HN⟩ := hrel
    have hbs := hb.size
    cases gk with
    | zero =>
      obtain rfl : pos = s.size := by omega
      have hnx := fun ty => run_next_end_at (P := Try.prog) wr w.heap.size s s.size ty hit (by omega)
      clear hit
      go_wp2
      go_ret
      exact ⟨-1, rfl, by rw [anySp_false s (fun j hj => HN.out j hj hj)]; simp, hb⟩
    | succ g =>
      have hp : pos < s.size := by omega
      by_cases hx : (s[pos]).toNat < 128
      · have hnx := fun ty => run_next_ascii_at (P := Try.prog) wr w.heap.size s pos ty hit hp hx
        have hh := iterAt_heap wr w.heap.size s pos (pos + 1) hit
        have hb2 := below_iterAt hb (Nat.le_refl w.heap.size) s (pos + 1)
        obtain ⟨wi, hwi⟩ : ∃ wi, wr.iterAt w.heap.size s (pos + 1) = wi := ⟨_, rfl⟩
        rw [hwi] at hh hb2
        simp only [hwi] at hnx
        obtain ⟨x, hxe⟩ : ∃ x : UInt8, s[pos] = x := ⟨_, rfl⟩
        simp only [hxe] at hnx
        obtain ⟨X, hX, hX0⟩ := index_special x
        have HO : Hid (∀ W, Calls Try.prog 52 #[.string CH, .int .i32 x.toNat] W fun e w' => e = .returned (.int .i64 X) ∧ w' = W) := by
          intro W
          have h := Try.strings_IndexRune_ascii CH x.toNat W (by omega) (by rw [← hxe]; omega)
          rw [u8_back] at h
          rw [← hX]; exact h
        have HX : Hid (s[pos] = x) := hxe
        clear hX hwi hit hxe
        cases hsp : bad x
        · have hlt : ¬ 0 ≤ X := by rw [hX0, hsp]; simp
          clear hX0
          have HSP : Hid (bad x = false) := hsp
          clear hsp
          go_wp2_with (go_at_call 52; refine (HO.out _).mono ?_; rintro e w' ⟨rfl, rfl⟩)
          go_roundg g
          case measure => omega
          case rel =>
            refine ⟨pos + 1, by omega, hh, hb2, ?_⟩
            intro j h1 hj
            by_cases hjp : j = pos
            · subst hjp; rw [HX.out]; exact HSP.out
            · exact HN.out j (by omega) hj
        · have hge : 0 ≤ X := by rw [hX0, hsp]
          clear hX0
          have HSP : Hid (bad x = true) := hsp
          clear hsp
          go_wp2_with (go_at_call 52; refine (HO.out _).mono ?_; rintro e w' ⟨rfl, rfl⟩)
          go_ret
          exact ⟨pos, rfl, by rw [anySp_true s pos hp (by rw [HX.out]; exact HSP.out)]; simp, hb2⟩
      · obtain ⟨d1, d2⟩ := decode_high s pos hp (by omega)
        obtain ⟨sp1, sp2⟩ := decode_span s pos hp (by omega)
        have hnx := fun ty => run_next_any_at (P := Try.prog) wr w.heap.size s pos ty hit hp
        obtain ⟨r, hr⟩ : ∃ r : Nat, (Utf8.decode s pos).1 = r := ⟨_, rfl⟩
        obtain ⟨n, hn⟩ : ∃ n : Nat, (Utf8.decode s pos).2 = n := ⟨_, rfl⟩
        rw [hr] at d1
        rw [hn] at d2 sp1 sp2
        simp only [hr, hn] at hnx
        have hh := iterAt_heap wr w.heap.size s pos (pos + n) hit
        have hb2 := below_iterAt hb (Nat.le_refl w.heap.size) s (pos + n)
        obtain ⟨wi, hwi⟩ : ∃ wi, wr.iterAt w.heap.size s (pos + n) = wi := ⟨_, rfl⟩
        rw [hwi] at hh hb2
        simp only [hwi] at hnx
        have hlt0 : w.heap.size < wi.heap.size := (Array.getElem?_eq_some_iff.1 hh).1
        have HS : Hid (∀ j, pos ≤ j → j < pos + n → (hj : j < s.size) → 128 ≤ (s[j]).toNat) := sp2
        have HR : Hid (∀ W : World, Calls Try.prog 52 #[.string CH, .int .i32 (r : Int)] W fun e w' => e = .returned (.int .i64 (-1)) ∧ Below W.heap.size W w') := fun W => rune_high r W (by omega)
        clear hr hn hwi hit sp2
        go_wp2_with (go_at_call 52; refine (HR.out _).mono ?_; rintro e w1 ⟨rfl, hb1⟩)
        go_roundg (s.size - (pos + n))
        case measure => omega
        case rel =>
          refine ⟨pos + n, by omega, (hb1.block w.heap.size hlt0).trans hh, hb2.trans (hb1.mono (by omega)), ?_⟩
          intro j h1 hj
          by_cases hjp : j < pos
          · exact HN.out j hjp hj
          · exact high_plain _ (HS.out j (by omega) h1 hj)

theorem ch_ascii (j : Nat) (b : UInt8) (h : CH.data.toList[j]? = some b) : b.toNat < 128 := by
  obtain ⟨hj, rfl⟩ := List.getElem?_eq_some_iff.1 h
  exact ch_at j (by simpa using hj)

theorem indexAny_any (s : ByteArray) (w : World) (hs : s.size ≤ 1000000) :
    Calls Try.prog 45 #[.string s, .string CH] w fun e w' => ∃ v : Int, e = .returned (.int .i64 v) ∧ (0 ≤ v ↔ anySp s.data.toList = true) ∧ Below w.heap.size w w' := by
  by_cases h8 : s.size ≤ 8
  · exact indexAny_short s w h8
  · have hz := zero_of_info (P := Try.prog) (t := 80) (h := (show (Try.prog.info? 80).map (fun i => (i.zero, i.size)) = some (some (.agg (Array.replicate 256 (.bool false))), 256) by kernel_rfl))
    refine (Try.strings_IndexAny_long hz.1 s CH w (by decide) (by omega) (by omega) (by decide) ch_ascii).mono ?_
    rintro e w' ⟨rfl, rfl⟩
    exact ⟨_, rfl, indexAny_sp _, ((Below.refl _ _).alloc (Nat.le_refl _) _).alloc (by simp) _⟩

set_option maxHeartbeats 400000 in
theorem containsAny_any (s : ByteArray) (w : World) (hs : s.size ≤ 1000000) :
    Calls Try.prog 29 #[.string s, .string CH] w fun e w' => e = .returned (.bool (anySp s.data.toList)) ∧ Below w.heap.size w w' := by
  have HO : Hid (∀ W, Calls Try.prog 45 #[.string s, .string CH] W fun e w' => ∃ v : Int, e = .returned (.int .i64 v) ∧ (0 ≤ v ↔ anySp s.data.toList = true) ∧ Below W.heap.size W w') := fun W => indexAny_any s W hs
  obtain ⟨b, hb⟩ : ∃ b, anySp s.data.toList = b := ⟨_, rfl⟩
  rw [hb] at HO ⊢
  clear hb hs
  go_enter Try.func29, Try.ntmps29
  go_wp2_with fail
  refine (HO.out _).mono ?_
  rintro e w1 ⟨v, rfl, hv, hb1⟩
  have HV : Hid (0 ≤ v ↔ b = true) := hv
  clear hv
  go_wp2
  go_ret
  refine ⟨ret_bool ?_, hb1⟩
  cases b
  · simpa using HV.out
  · simpa using HV.out


theorem str_empty {s : ByteArray} (h : s.size = 0) : s = E := by
  apply bl_inj
  have : (bl s).length = 0 := by rw [bl_length]; exact h
  rw [List.length_eq_zero_iff.1 this]; rfl

set_option maxHeartbeats 400000 in
theorem right_any (s : ByteArray) (w : World) :
    Calls Try.prog 10 #[.string s] w fun e w' => e = .returned (.bool (rightB s)) ∧ Below w.heap.size w w' := by
  by_cases h0 : s.size = 0
  · obtain rfl := str_empty h0
    go_enter Try.func10, Try.ntmps10
    go_wp2
    go_ret
    exact ⟨ret_bool rfl, Below.refl _ _⟩
  · have hne : ¬ s.toList = [] := by rw [Lib.toList_data]; intro e; apply h0; rw [← bl_length]; unfold bl; rw [e]; rfl
    have hem : s.toList.isEmpty = false := by simpa using hne
    by_cases h64 : s.size ≤ 64
    · have h64i : (s.size : Int) ≤ 64 := by omega
      have HO : Hid (∀ W, Calls Try.prog 29 #[.string s, .string CH] W fun e w' => e = .returned (.bool (anySp s.data.toList)) ∧ Below W.heap.size W w') := fun W => containsAny_any s W (by omega)
      have HR : Hid (rightB s = !anySp s.data.toList) := by
        unfold Hid rightB
        rw [show decide (1 ≤ s.size) = true by simp; omega, show decide (s.size ≤ 64) = true by simp [h64]]; rfl
      obtain ⟨b, hb⟩ : ∃ b, anySp s.data.toList = b := ⟨_, rfl⟩
      rw [hb] at HO HR
      clear hb h0 h64
      go_enter Try.func10, Try.ntmps10
      go_wp2_with fail
      refine (HO.out _).mono ?_
      rintro e w1 ⟨rfl, hb1⟩
      go_wp2
      go_ret
      exact ⟨ret_bool HR.out.symm, hb1⟩
    · have h64i : ¬ (s.size : Int) ≤ 64 := by omega
      have HR : Hid (rightB s = false) := by
        unfold Hid rightB
        rw [show decide (s.size ≤ 64) = false by simp; omega, Bool.and_false]; rfl
      clear h0 h64
      go_enter Try.func10, Try.ntmps10
      go_wp2
      go_ret
      exact ⟨ret_bool HR.out.symm, Below.refl _ _⟩
end Go.Proofs.Ytjbmmeneejcpbaa
