/-
  alive is true; what PathCuts and PathWhole answer at any path: true; nothing that was there has turned.
-/
import Derived.Test.YtpcadgddgmepkaaWords
namespace Go.Proofs.Ytpcadgddgmepkaa
open Go.RowKit Go.Shelf

theorem words_alloc (W : World) (xs : List ByteArray) (c : Nat) : Words (W.alloc (.cells (xs.map Value.string).toArray 9)).heap.size (W.alloc (.cells (xs.map Value.string).toArray 9)) (.slice (some ⟨W.heap.size, 0, none⟩) xs.length c) xs := by
  refine ⟨_, _, _, rfl, rfl, fun i hi => ⟨W.heap.size, 0, rfl, by simp, ?_⟩⟩
  have hn : (W.alloc (.cells (xs.map Value.string).toArray 9)).heap[W.heap.size]? = some (.cells (xs.map Value.string).toArray 9) := World.alloc_heap_new W _
  simp only [World.cell?, hn]
  simp [hi]
theorem below_alloc {w w' : World} {o : Obj} (h : Below (w.alloc o).heap.size (w.alloc o) w') : Below w.heap.size w w' :=
  ((Below.refl _ w).alloc (Nat.le_refl _) o).trans (h.mono (by simp))

set_option maxHeartbeats 400000 in
theorem alive_any (w : World) :
    Calls Try.prog 10 #[] w fun e w' => e = .returned (.bool true) ∧ Below w.heap.size w w' := by
  have H1 : Hid (∀ W, Calls Try.prog 11 #[.string ⟨#[97, 47, 47, 46, 47, 98, 47, 46, 46, 47, 99]⟩] W fun e w' => e = .returned (.string ⟨#[97, 47, 99]⟩) ∧ Below W.heap.size W w') := by
    intro W
    refine (clean_any _ W (by decide)).mono ?_
    rintro e w' ⟨rfl, hb⟩; exact ⟨ret_str (by decide +kernel), hb⟩
  have H2 : Hid (∀ W, Calls Try.prog 11 #[.string ⟨#[47, 46, 46, 47, 120]⟩] W fun e w' => e = .returned (.string ⟨#[47, 120]⟩) ∧ Below W.heap.size W w') := by
    intro W
    refine (clean_any _ W (by decide)).mono ?_
    rintro e w' ⟨rfl, hb⟩; exact ⟨ret_str (by decide +kernel), hb⟩
  have H3 : Hid (∀ W : World, Calls Try.prog 16 #[.slice (some ⟨W.heap.size, 0, none⟩) 3 3] (W.alloc (.cells #[.string ⟨#[97]⟩, .string ⟨#[]⟩, .string ⟨#[98]⟩] 9)) fun e w' => e = .returned (.string ⟨#[97, 47, 98]⟩) ∧ Below W.heap.size W w') := by
    intro W
    refine (joinp_any (some ⟨W.heap.size, 0, none⟩) 3 3 [⟨#[97]⟩, ⟨#[]⟩, ⟨#[98]⟩] _ (by decide) ?_ (words_alloc W [⟨#[97]⟩, ⟨#[]⟩, ⟨#[98]⟩] 3)).mono ?_
    · intro i h
      match i, h with
      | 0, _ => exact (by decide : (⟨#[97]⟩ : ByteArray).size ≤ 3000)
      | 1, _ => exact (by decide : (⟨#[]⟩ : ByteArray).size ≤ 3000)
      | 2, _ => exact (by decide : (⟨#[98]⟩ : ByteArray).size ≤ 3000)
    · rintro e w' ⟨rfl, hb⟩; exact ⟨ret_str (by decide +kernel), below_alloc hb⟩
  have H4 : Hid (∀ W, Calls Try.prog 22 #[.string ⟨#[100, 47, 120, 46, 99]⟩] W fun e w' => e = .returned (.string ⟨#[46, 99]⟩) ∧ w' = W) := by
    intro W
    refine (suffix_any _ W (by decide)).mono ?_
    rintro e w' ⟨rfl, hb⟩; exact ⟨ret_str (by decide +kernel), hb⟩
  go_enter Try.func10, Try.ntmps10
  go_wp2_with fail
  refine (H1.out _).mono ?_
  rintro e w1 ⟨rfl, hb1⟩
  go_wp2_with fail
  refine (H2.out _).mono ?_
  rintro e w2 ⟨rfl, hb2⟩
  go_wp2_with fail
  refine (H3.out _).mono ?_
  rintro e w3 ⟨rfl, hb3⟩
  go_wp2_with fail
  refine (H4.out _).mono ?_
  rintro e w4 ⟨rfl, rfl⟩
  go_wp2
  go_ret
  have s1 := hb1.size
  have s2 := hb2.size
  exact ⟨rfl, (hb1.trans (hb2.mono s1)).trans (hb3.mono (by omega))⟩

set_option maxHeartbeats 400000 in
theorem cuts_law (p : ByteArray) (w : World) (hs : p.size ≤ 140737488355328) :
    Calls Try.prog 4 #[.string p] w fun e w' => e = .returned (.bool true) ∧ Below w.heap.size w w' := by
  have A1 : Hid (∀ W, Calls Try.prog 18 #[.string p] W fun e w' => e = .returned (.string (dirB p)) ∧ w' = W) := fun W => dir_any p W hs
  have A2 : Hid (∀ W, Calls Try.prog 19 #[.string p] W fun e w' => e = .returned (.string (dirB p)) ∧ w' = W) := fun W => rdir_any p W hs
  have B1 : Hid (∀ W, Calls Try.prog 20 #[.string p] W fun e w' => e = .returned (.string (nameB p)) ∧ w' = W) := fun W => name_any p W hs
  have B2 : Hid (∀ W, Calls Try.prog 21 #[.string p] W fun e w' => e = .returned (.string (nameB p)) ∧ w' = W) := fun W => rname_any p W hs
  have C1 : Hid (∀ W, Calls Try.prog 22 #[.string p] W fun e w' => e = .returned (.string (sufB p)) ∧ w' = W) := fun W => suffix_any p W hs
  have C2 : Hid (∀ W, Calls Try.prog 23 #[.string p] W fun e w' => e = .returned (.string (sufB p)) ∧ w' = W) := fun W => rsuffix_any p W hs
  have D1 : Hid (∀ W, Calls Try.prog 24 #[.string p] W fun e w' => e = .returned (.string (rootB p)) ∧ w' = W) := fun W => root_any p W hs
  have D2 : Hid (∀ W, Calls Try.prog 25 #[.string p] W fun e w' => e = .returned (.string (rootB p)) ∧ w' = W) := fun W => rroot_any p W hs
  generalize dirB p = x1 at A1 A2
  generalize nameB p = x2 at B1 B2
  generalize sufB p = x3 at C1 C2
  generalize rootB p = x4 at D1 D2
  go_enter Try.func4, Try.ntmps4
  go_wp2_with fail
  refine (A1.out _).mono ?_
  rintro e w' ⟨rfl, rfl⟩
  go_wp2_with fail
  refine (A2.out _).mono ?_
  rintro e w' ⟨rfl, rfl⟩
  go_wp2_with fail
  refine (B1.out _).mono ?_
  rintro e w' ⟨rfl, rfl⟩
  go_wp2_with fail
  refine (B2.out _).mono ?_
  rintro e w' ⟨rfl, rfl⟩
  go_wp2_with fail
  refine (C1.out _).mono ?_
  rintro e w' ⟨rfl, rfl⟩
  go_wp2_with fail
  refine (C2.out _).mono ?_
  rintro e w' ⟨rfl, rfl⟩
  go_wp2_with fail
  refine (D1.out _).mono ?_
  rintro e w' ⟨rfl, rfl⟩
  go_wp2_with fail
  refine (D2.out _).mono ?_
  rintro e w' ⟨rfl, rfl⟩
  go_wp2_with fail
  refine (alive_any _).mono ?_
  rintro e w1 ⟨rfl, hb1⟩
  go_wp2
  go_ret
  exact ⟨rfl, hb1⟩

/-! Root and suffix are the path. -/
theorem bl_name (p : ByteArray) : bl (nameB p) = (bl p).drop (lastI p 47 + 1).toNat := by
  unfold nameB
  simp only [bl, ByteArray.data_extract, Array.toList_extract, List.extract_eq_take_drop]
  exact List.take_of_length_le (by simp)
theorem bl_from (s : ByteArray) (d : Nat) : bl (s.extract d s.size) = (bl s).drop d := by
  simp only [bl, ByteArray.data_extract, Array.toList_extract, List.extract_eq_take_drop]
  exact List.take_of_length_le (by simp)
theorem bl_to (s : ByteArray) (d : Nat) : bl (s.extract 0 d) = (bl s).take d := by simp [bl]
theorem suf_drop (p : ByteArray) : ∃ m, m ≤ p.size ∧ bl (sufB p) = (bl p).drop m := by
  unfold sufB
  split
  · refine ⟨min ((lastI p 47 + 1).toNat + (lastI (nameB p) 46).toNat) p.size, by omega, ?_⟩
    rw [bl_from, bl_name, List.drop_drop]
    by_cases h : (lastI p 47 + 1).toNat + (lastI (nameB p) 46).toNat ≤ p.size
    · rw [Nat.min_eq_left h]
    · rw [Nat.min_eq_right (by omega), List.drop_of_length_le (by rw [bl_length]; omega), List.drop_of_length_le (by rw [bl_length]; omega)]
  · exact ⟨p.size, Nat.le_refl _, by rw [List.drop_of_length_le (by rw [bl_length]; omega)]; rfl⟩
theorem whole (p : ByteArray) : rootB p ++ sufB p = p := by
  obtain ⟨m, hm, h⟩ := suf_drop p
  have hsz : (sufB p).size = p.size - m := by rw [← bl_length, h, List.length_drop, bl_length]
  apply bl_inj
  have e1 : bl (rootB p ++ sufB p) = bl (rootB p) ++ bl (sufB p) := by simp [bl]
  rw [e1, h]
  unfold rootB
  rw [bl_to, hsz, show p.size - (p.size - m) = m by omega, List.take_append_drop]
theorem bl_at (s : ByteArray) (i : Nat) (h : i < s.size) : (bl s)[i]? = some s[i] := by
  rw [List.getElem?_eq_getElem (by rw [bl_length]; exact h)]; rfl
theorem data_bl (s : ByteArray) (i : Nat) (c : UInt8) (h : (bl s)[i]? = some c) : s.data[i]! = c := by
  have hi : i < s.size := by
    have := (List.getElem?_eq_some_iff.1 h).1
    rwa [bl_length] at this
  rw [data_at s i hi]
  rw [bl_at s i hi] at h
  exact Option.some.inj h
theorem name_free (p : ByteArray) (i : Nat) (c : UInt8) (h : (bl (nameB p))[i]? = some c) : (c.toNat : Int) ≠ 47 := by
  rw [bl_name, List.getElem?_drop] at h
  have hd := data_bl p _ c h
  have hlt : (lastI p 47 + 1).toNat + i < p.size := by
    have := (List.getElem?_eq_some_iff.1 h).1
    rwa [bl_length] at this
  rw [← hd]
  rcases Lib.lastIndexByte_spec p 47 with ⟨_, h2⟩ | ⟨k, h1, h2, h3, h4⟩
  · exact h2 _ hlt
  · have : lastI p 47 = k := h2
    exact h4 _ (by omega) hlt
theorem suf_at (p : ByteArray) (i : Nat) (h : i < (sufB p).size) : ((((sufB p)[i].toNat : Int) == 46) = decide (i = 0)) ∧ (((sufB p)[i].toNat : Int) == 47) = false := by
  have hb := bl_at (sufB p) i h
  generalize (sufB p)[i] = c at hb ⊢
  unfold sufB at hb
  split at hb
  · rename_i hd
    rw [bl_from, List.getElem?_drop] at hb
    refine ⟨?_, by simpa using name_free p _ c hb⟩
    have hc := data_bl (nameB p) _ c hb
    have hlt : (lastI (nameB p) 46).toNat + i < (nameB p).size := by
      have := (List.getElem?_eq_some_iff.1 hb).1
      rwa [bl_length] at this
    rcases Lib.lastIndexByte_spec (nameB p) 46 with ⟨h1, _⟩ | ⟨k, h1, h2, h3, h4⟩
    · have : lastI (nameB p) 46 = -1 := h1
      omega
    · have hk : lastI (nameB p) 46 = k := h2
      rw [hk] at hc hlt
      by_cases h0 : i = 0
      · subst h0
        have : ((c.toNat : Int)) = 46 := by rw [← hc]; simpa using h3
        simp [this]
      · have : ((c.toNat : Int)) ≠ 46 := by rw [← hc]; exact h4 _ (by simp; omega) (by simpa using hlt)
        simp [this, h0]
  · simp [bl] at hb

set_option maxHeartbeats 400000 in
theorem whole_law (p : ByteArray) (w : World) (hs : p.size ≤ 140737488355328) :
    Calls Try.prog 8 #[.string p] w fun e w' => e = .returned (.bool true) ∧ Below w.heap.size w w' := by
  have C1 : Hid (∀ W, Calls Try.prog 22 #[.string p] W fun e w' => e = .returned (.string (sufB p)) ∧ w' = W) := fun W => suffix_any p W hs
  have D1 : Hid (∀ W, Calls Try.prog 24 #[.string p] W fun e w' => e = .returned (.string (rootB p)) ∧ w' = W) := fun W => root_any p W hs
  have hrs := whole p
  have hss := sufB_size p
  have HA : Hid (∀ i (h : i < (sufB p).size), ((((sufB p)[i].toNat : Int) == 46) = decide (i = 0)) ∧ (((sufB p)[i].toNat : Int) == 47) = false) := suf_at p
  generalize sufB p = s at C1 hrs hss HA
  generalize rootB p = r at D1 hrs
  have hsum : r.size + s.size ≤ 140737488355328 := by
    have : (r ++ s).size = p.size := by rw [hrs]
    rw [ByteArray.size_append] at this; omega
  go_enter Try.func8, Try.ntmps8
  go_wp2_with fail
  refine (C1.out _).mono ?_
  rintro e w' ⟨rfl, rfl⟩
  go_wp2_with fail
  refine (D1.out _).mono ?_
  rintro e w' ⟨rfl, rfl⟩
  go_wp2
  go_loop [4] (fun vi => ∃ k : Nat, k ≤ s.size ∧ vi = .int .i64 k) (fun vi => s.size - (intOf vi).toNat)
  case atStart => exact ⟨0, Nat.zero_le _, rfl⟩
  case round =>
    obtain ⟨k, hk, rfl⟩ := hrel
    by_cases hlt : k < s.size
    · have hil : (k : Int) < (s.size : Int) := by omega
      obtain ⟨h1, h2⟩ := HA.out k hlt
      by_cases h0 : k = 0
      · subst h0
        simp only [decide_true] at h1
        go_wp2
        go_round
        case rel => exact ⟨1, by omega, by go_num⟩
        case measure => simp [intOf]; omega
      · rw [decide_eq_false h0] at h1
        have h0I : ¬ (k : Int) = 0 := by omega
        go_wp2
        go_round
        case rel => exact ⟨k + 1, by omega, by go_num⟩
        case measure => simp [intOf]; omega
    · go_wp2_with fail
      refine (alive_any _).mono ?_
      rintro e w1 ⟨rfl, hb1⟩
      go_wp2
      go_ret
      exact ⟨rfl, hb1⟩
end Go.Proofs.Ytpcadgddgmepkaa
