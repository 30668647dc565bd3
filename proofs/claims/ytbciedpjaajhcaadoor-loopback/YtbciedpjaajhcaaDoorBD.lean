/-
  What the program's Directive answers.
-/
import Derived.Test.YtbciedpjaajhcaaDoorBW5
namespace Go.Proofs.YtbciedpjaajhcaaDoor
open Go.RowKit Go.Shelf

theorem tw_take (p : UInt8 → Bool) (s : ByteArray) (k : Nat) (hk : k < s.size) (h : p s[k] = true) : ((bl s).drop k).takeWhile p = s[k] :: ((bl s).drop (k + 1)).takeWhile p := by
  rw [drop_bl s k hk]; simp [h]
theorem tw_end (p : UInt8 → Bool) (s : ByteArray) (k : Nat) (hk : k < s.size) (h : p s[k] = false) : ((bl s).drop k).takeWhile p = [] := by
  rw [drop_bl s k hk]; simp [h]

set_option maxRecDepth 20000 in
set_option maxHeartbeats 400000 in
theorem small_any (s : ByteArray) (w : World) (_hs : s.size ≤ 1000000) :
    Calls Tryd.prog 27 #[.string s] w fun e w' => e = .returned (.int .i64 (((bl s).takeWhile small).length : Nat)) ∧ w = w' := by
  go_enter Tryd.func27, Tryd.ntmps27
  go_wp2
  go_loopw [3] (fun vi wr => ∃ k : Nat, k ≤ s.size ∧ vi = .int .i64 (k : Int) ∧ w = wr ∧ Hid (((bl s).takeWhile small).length = k + (((bl s).drop k).takeWhile small).length)) (fun vi _ => s.size - (intOf vi).toNat)
  case atStart => exact ⟨0, Nat.zero_le _, rfl, rfl, by simp [Hid]⟩
  case round =>
    obtain ⟨k, hk, rfl, rfl, HA⟩ := hrel
    by_cases hlt : k < s.size
    · have hil : (k : Int) < (s.size : Int) := by omega
      have ht := tw_take small s k hlt
      have he := tw_end small s k hlt
      obtain ⟨c, hc⟩ : ∃ c, c = s[k] := ⟨_, rfl⟩
      obtain ⟨cn, hcn⟩ : ∃ cn : Int, cn = (s[k].toNat : Int) := ⟨_, rfl⟩
      have hgk : (s[k].toNat : Int) = cn := hcn.symm
      rw [← hc] at ht he hcn
      have HS : Hid (small c = (decide (97 ≤ cn) && decide (cn ≤ 122))) := by
        unfold Hid small; rw [hcn, Bool.eq_iff_iff]; simp only [Bool.and_eq_true, decide_eq_true_eq]; omega
      have HT : Hid (_ ∧ _) := ⟨ht, he⟩
      clear hc hcn ht he
      by_cases h1 : 97 ≤ cn
      · by_cases h2 : cn ≤ 122
        · have hsm : small c = true := by rw [HS.out]; simp [h1, h2]
          have HA1 : Hid (((bl s).takeWhile small).length = (k + 1) + (((bl s).drop (k + 1)).takeWhile small).length) := by
            unfold Hid; rw [HA.out, HT.out.1 hsm, List.length_cons]; omega
          clear hsm
          go_wp2
          go_roundw
          case rel => exact ⟨k + 1, by omega, by go_num, trivial, HA1⟩
          case measure => simp [intOf]; omega
        · have hsm : small c = false := by rw [HS.out]; simp [h2]
          have HA1 : Hid (((bl s).takeWhile small).length = k) := by
            unfold Hid; rw [HA.out, HT.out.2 hsm]; rfl
          clear hsm
          go_wp2
          go_ret
          exact ⟨ret_int (by rw [HA1.out]), rfl⟩
      · have hsm : small c = false := by rw [HS.out]; simp [h1]
        have HA1 : Hid (((bl s).takeWhile small).length = k) := by
          unfold Hid; rw [HA.out, HT.out.2 hsm]; rfl
        clear hsm
        go_wp2
        go_ret
        exact ⟨ret_int (by rw [HA1.out]), rfl⟩
    · have hil : ¬ (k : Int) < (s.size : Int) := by omega
      have HA1 : Hid (((bl s).takeWhile small).length = k) := by
        unfold Hid; rw [HA.out, List.drop_of_length_le (by rw [bl_length]; omega)]; rfl
      go_wp2
      go_ret
      exact ⟨ret_int (by rw [HA1.out]), rfl⟩

theorem index_ends (c : UInt8) : ∃ X : Int, Lib.indexByte [32, 9, 40, 33, 34] c = X ∧ decide (0 ≤ X) = [32, 9, 40, 33, 34].contains c := by
  refine ⟨_, rfl, ?_⟩
  by_cases h1 : c = 32
  · subst h1; decide
  by_cases h2 : c = 9
  · subst h2; decide
  by_cases h3 : c = 40
  · subst h3; decide
  by_cases h4 : c = 33
  · subst h4; decide
  by_cases h5 : c = 34
  · subst h5; decide
  have g : ∀ x : UInt8, c ≠ x → (x == c) = false := fun x h => by simpa using fun e => h e.symm
  simp [Lib.indexByte, g 32 h1, g 9 h2, g 40 h3, g 33 h4, g 34 h5, h1, h2, h3, h4, h5]
set_option maxRecDepth 20000 in
set_option maxHeartbeats 400000 in
theorem ends_any (s : ByteArray) (w : World) :
    Calls Tryd.prog 28 #[.string s] w fun e w' => e = .returned (.bool (endsL (bl s))) ∧ w = w' := by
  by_cases h0 : s = E
  · subst h0
    go_enter Tryd.func28, Tryd.ntmps28
    go_wp2
    go_ret
    exact ⟨rfl, rfl⟩
  · obtain ⟨s1, s2⟩ := ne_empty h0
    have hsz : 0 < s.size := by
      have : bl s ≠ [] := fun e => s1 (by rw [Lib.toList_data]; exact e)
      rw [← bl_length]; exact List.length_pos_iff.2 this
    have hszi : (0 : Int) < (s.size : Int) := by omega
    have hd := drop_bl s 0 hsz
    rw [List.drop_zero] at hd
    obtain ⟨c, hc⟩ : ∃ c, c = s[0] := ⟨_, rfl⟩
    obtain ⟨cn, hcn⟩ : ∃ cn : Int, cn = (s[0].toNat : Int) := ⟨_, rfl⟩
    have hgk : (s[0].toNat : Int) = cn := hcn.symm
    obtain ⟨X, hX, hX2⟩ := index_ends c
    have HI : Hid (∀ W, Calls Tryd.prog 39 #[.string ⟨#[32, 9, 40, 33, 34]⟩, .int .u8 cn] W fun e w' => e = .returned (.int .i64 X) ∧ W = w') := fun W =>
      (Tryd.strings_IndexByte ⟨#[32, 9, 40, 33, 34]⟩ cn W).mono fun e w' h => ⟨by rw [h.1, hcn, ← hc, u8_back, ← hX], h.2.symm⟩
    have HE : Hid (endsL (bl s) = decide (0 ≤ X)) := by unfold Hid; rw [hX2, hd, ← hc]; rfl
    clear hX hX2 hd hc hcn h0
    go_enter Tryd.func28, Tryd.ntmps28
    go_wp2_with fail
    refine (HI.out _).mono ?_
    rintro e w' ⟨rfl, rfl⟩
    go_wp2
    go_ret
    exact ⟨ret_bool HE.out.symm, rfl⟩

def cutDot (s : ByteArray) : ByteArray × Bool := match bl s with | [] => (s, false) | c :: t => if c = 46 then (ba t, true) else (s, false)
theorem cut_has (s : ByteArray) : Lib.hasPrefix s.data.toList [46] = (cutDot s).2 := by
  unfold cutDot Lib.hasPrefix
  show List.isPrefixOf [46] (bl s) = _
  cases bl s with
  | nil => rfl
  | cons c t =>
    by_cases h : c = 46
    · subst h; simp
    · have : (46 == c) = false := by simpa using fun e => h e.symm
      simp [List.isPrefixOf, h, this]
theorem cut_yes {s : ByteArray} (h : (cutDot s).2 = true) : 1 ≤ s.size ∧ (cutDot s).1 = s.extract 1 s.size := by
  unfold cutDot at h ⊢
  cases hs : bl s with
  | nil => rw [hs] at h; cases h
  | cons c t =>
    rw [hs] at h
    dsimp only at h ⊢
    by_cases hc : c = 46
    · rw [if_pos hc]
      refine ⟨by rw [← bl_length, hs]; simp, bl_inj ?_⟩
      rw [bl_ba, bl_extract, take_all, hs]; rfl
    · rw [if_neg hc] at h; cases h
theorem cut_no {s : ByteArray} (h : (cutDot s).2 = false) : (cutDot s).1 = s := by
  unfold cutDot at h ⊢
  cases hs : bl s with
  | nil => rfl
  | cons c t =>
    rw [hs] at h
    dsimp only at h ⊢
    by_cases hc : c = 46
    · rw [if_pos hc] at h; cases h
    · rw [if_neg hc]
set_option maxRecDepth 20000 in
set_option maxHeartbeats 400000 in
theorem scut_any (s : ByteArray) (w : World) (hs : s.size ≤ 1000000) :
    Calls Tryd.prog 43 #[.string s, .string ⟨#[46]⟩] w fun e w' => e = .returned (.tuple #[.string (cutDot s).1, .bool (cutDot s).2]) ∧ w = w' := by
  have HH : Hid (∀ W, Calls Tryd.prog 60 #[.string s, .string ⟨#[46]⟩] W fun e w' => e = .returned (.bool (cutDot s).2) ∧ W = w') := fun W =>
    (Tryd.stringslite_HasPrefix s ⟨#[46]⟩ W).mono fun e w' h => ⟨by rw [h.1]; exact ret_bool (cut_has s), h.2.symm⟩
  cases hc : (cutDot s).2 with
  | true =>
    obtain ⟨h1, h2⟩ := cut_yes hc
    have h1i : (1 : Int) ≤ (s.size : Int) := by omega
    obtain ⟨y, hy⟩ : ∃ y, y = s.extract 1 s.size := ⟨_, rfl⟩
    have hsl : ∀ W, (Instr.slice 9 (.string s) (some (.int .i64 1)) none none).run Tryd.prog W = .ok (.string y) W := by
      intro W; rw [hy]; exact run_slice_string_l (P := Tryd.prog) W 9 s Tryd.underlying9 .i64 1 (by omega) (by omega)
    rw [hc] at HH
    rw [h2, ← hy]
    clear hc h2 hy
    go_enter Tryd.func43, Tryd.ntmps43
    go_wp2_with fail
    refine (HH.out _).mono ?_
    rintro e w' ⟨rfl, rfl⟩
    go_wp2_with fail
    go_ret2
    exact ⟨rfl, rfl⟩
  | false =>
    have h2 := cut_no hc
    rw [hc] at HH
    rw [h2]
    clear hc h2
    go_enter Tryd.func43, Tryd.ntmps43
    go_wp2_with fail
    refine (HH.out _).mono ?_
    rintro e w' ⟨rfl, rfl⟩
    go_wp2_with fail
    go_ret2
    exact ⟨rfl, rfl⟩
set_option maxRecDepth 20000 in
set_option maxHeartbeats 400000 in
theorem cut_any (s : ByteArray) (w : World) (hs : s.size ≤ 1000000) :
    Calls Tryd.prog 25 #[.string s, .string ⟨#[46]⟩] w fun e w' => e = .returned (.tuple #[.string (cutDot s).1, .bool (cutDot s).2]) ∧ w = w' := by
  have HH : Hid (∀ W, Calls Tryd.prog 43 #[.string s, .string ⟨#[46]⟩] W fun e w' => e = .returned (.tuple #[.string (cutDot s).1, .bool (cutDot s).2]) ∧ W = w') := fun W => scut_any s W hs
  obtain ⟨r, hr⟩ : ∃ r, r = cutDot s := ⟨_, rfl⟩
  rw [← hr] at HH ⊢
  clear hr
  obtain ⟨p, q⟩ := r
  go_enter Tryd.func25, Tryd.ntmps25
  go_wp2_with fail
  refine (HH.out _).mono ?_
  rintro e w' ⟨rfl, rfl⟩
  go_wp2_with fail
  go_ret2
  exact ⟨rfl, rfl⟩

theorem dir_no {x : Lz} (h : x.cmd = true ∨ (cutDot x.text).2 = false) : dirW x = E ∧ dirX x = E := by
  unfold dirW dirX
  have : dirL x.cmd (bl x.text) = ([], []) := by
    unfold cutDot at h
    cases hb : bl x.text with
    | nil => rfl
    | cons c t =>
      rw [hb] at h
      rw [dirL, if_pos]
      rcases h with h | h
      · exact .inl h
      · right; intro hc; dsimp only at h; rw [if_pos hc] at h; cases h
  rw [this]; exact ⟨rfl, rfl⟩
theorem dir_yes {x : Lz} (h : x.cmd = false) (h2 : (cutDot x.text).2 = true) : dirW x = ba (dirB (ltrim (bl (cutDot x.text).1))).1 ∧ dirX x = ba (dirB (ltrim (bl (cutDot x.text).1))).2 := by
  unfold dirW dirX
  have : dirL x.cmd (bl x.text) = dirB (ltrim (bl (cutDot x.text).1)) := by
    unfold cutDot at h2 ⊢
    cases hb : bl x.text with
    | nil => rw [hb] at h2; cases h2
    | cons c t =>
      rw [hb] at h2
      dsimp only at h2 ⊢
      by_cases hc : c = 46
      · rw [if_pos hc]
        rw [dirL, if_neg (by rw [h]; simp [hc]), bl_ba]
      · rw [if_neg hc] at h2; cases h2
  rw [this]; exact ⟨rfl, rfl⟩
theorem cut_size (s : ByteArray) : (cutDot s).1.size ≤ s.size := by
  cases h : (cutDot s).2 with
  | true => rw [(cut_yes h).2]; simp
  | false => rw [cut_no h]; exact Nat.le_refl _
theorem tw_drop (p : UInt8 → Bool) (l : List UInt8) : l.drop (l.takeWhile p).length = l.dropWhile p := by
  induction l with
  | nil => rfl
  | cons a l ih => by_cases h : p a = true <;> simp [h, ih]
theorem tw_take' (p : UInt8 → Bool) (l : List UInt8) : l.take (l.takeWhile p).length = l.takeWhile p := by
  induction l with
  | nil => rfl
  | cons a l ih => by_cases h : p a = true <;> simp [h, ih]
theorem tw_le (p : UInt8 → Bool) (l : List UInt8) : (l.takeWhile p).length ≤ l.length := (List.takeWhile_sublist p).length_le

set_option maxRecDepth 20000 in
set_option maxHeartbeats 800000 in
theorem dir_any (x : Lz) (w : World) (hs : x.text.size ≤ 1000000) :
    Calls Tryd.prog 16 #[lnV x] w fun e w' => e = .returned (.tuple #[.string (dirW x), .string (dirX x)]) ∧ Below w.heap.size w w' := by
  have HC : Hid (∀ W, Calls Tryd.prog 25 #[.string x.text, .string ⟨#[46]⟩] W fun e w' => e = .returned (.tuple #[.string (cutDot x.text).1, .bool (cutDot x.text).2]) ∧ W = w') := fun W => cut_any x.text W hs
  obtain ⟨w1, hw1⟩ : ∃ w1, w1 = w.alloc (.cells #[.string x.text, .int .i64 x.at_, .bool x.cmd] 43) := ⟨_, rfl⟩
  have hB1 : Below w.heap.size w w1 := by rw [hw1]; exact (Below.refl _ _).alloc (Nat.le_refl _) _
  have hz1 : w1.heap[w.heap.size]? = some (.cells #[.string x.text, .int .i64 x.at_, .bool x.cmd] 43 (0, 0)) := by rw [hw1]; exact alloc_last _ _
  have c0 := cell_in hz1 0 rfl
  have c2 := cell_in hz1 2 rfl
  have HB1 : Hid (Below w.heap.size w w1) := hB1
  clear hB1 hz1
  by_cases hno : x.cmd = true ∨ (cutDot x.text).2 = false
  · obtain ⟨d1, d2⟩ := dir_no hno
    rw [d1, d2]
    clear d1 d2
    obtain ⟨r, hr⟩ : ∃ r, r = cutDot x.text := ⟨_, rfl⟩
    rw [← hr] at HC hno
    clear hr
    obtain ⟨y, q⟩ := r
    obtain ⟨xt, xa, xc⟩ := x
    simp only at hno HC c0 c2
    cases xc with
    | true =>
      clear hno
      go_enter Tryd.func16, Tryd.ntmps16
      go_wp2_with fail
      rw [← hw1]
      clear hw1
      refine (HC.out _).mono ?_
      rintro e w' ⟨rfl, rfl⟩
      go_wp2
      go_ret2
      exact ⟨rfl, HB1.out⟩
    | false =>
      obtain rfl : q = false := hno.elim (fun h => by cases h) id
      clear hno
      go_enter Tryd.func16, Tryd.ntmps16
      go_wp2_with fail
      rw [← hw1]
      clear hw1
      refine (HC.out _).mono ?_
      rintro e w' ⟨rfl, rfl⟩
      go_wp2
      go_ret2
      exact ⟨rfl, HB1.out⟩
  · have hcf : x.cmd = false := by cases h : x.cmd with | false => rfl | true => exact absurd (.inl h) hno
    have hct : (cutDot x.text).2 = true := by cases h : (cutDot x.text).2 with | true => rfl | false => exact absurd (.inr h) hno
    obtain ⟨d1, d2⟩ := dir_yes hcf hct
    have hys := cut_size x.text
    rw [d1, d2]
    rw [hct] at HC
    rw [hcf] at c2
    obtain ⟨y, hy⟩ : ∃ y, y = (cutDot x.text).1 := ⟨_, rfl⟩
    rw [← hy] at HC hys ⊢
    clear hno d1 d2 hct hy hcf
    obtain ⟨z, hz⟩ : ∃ z, z = ba (ltrim (bl y)) := ⟨_, rfl⟩
    have hzb : ltrim (bl y) = bl z := by rw [hz, bl_ba]
    have hzs : z.size ≤ 1000000 := by
      have := left_le (bl y) [32, 9]
      rw [bl_length] at this
      rw [hz, ba_size]; unfold ltrim; omega
    have HTL : Hid (∀ W, Calls Tryd.prog 26 #[.string y, .string ⟨#[32, 9]⟩] W fun e w' => e = .returned (.string z) ∧ Below W.heap.size W w') := fun W => by rw [hz]; exact trimL_blank y W
    have HSM : Hid (∀ W, Calls Tryd.prog 27 #[.string z] W fun e w' => e = .returned (.int .i64 (((bl z).takeWhile small).length : Nat)) ∧ W = w') := fun W => small_any z W hzs
    rw [hzb]
    clear hz hzb
    have hle := tw_le small (bl z)
    rw [bl_length] at hle
    have HTD := tw_drop small (bl z)
    have HTT := tw_take' small (bl z)
    obtain ⟨n, hn⟩ : ∃ n, n = ((bl z).takeWhile small).length := ⟨_, rfl⟩
    rw [← hn] at HSM hle HTD HTT
    have HTW : Hid ((bl z).takeWhile small = (bl z).take n ∧ (bl z).dropWhile small = (bl z).drop n) := ⟨HTT.symm, HTD.symm⟩
    have hex : bl (z.extract n z.size) = (bl z).drop n := by rw [bl_extract, take_all]
    have hex2 : bl (z.extract 0 n) = (bl z).take n := by rw [bl_extract, List.drop_zero]
    obtain ⟨r, hr⟩ : ∃ r, r = z.extract n z.size := ⟨_, rfl⟩
    obtain ⟨u, hu⟩ : ∃ u, u = z.extract 0 n := ⟨_, rfl⟩
    rw [← hr] at hex
    rw [← hu] at hex2
    have hsl : ∀ W, (Instr.slice 9 (.string z) (some (.int .i64 (n : Int))) none none).run Tryd.prog W = .ok (.string r) W := by
      intro W; rw [hr]; exact run_slice_string_l (P := Tryd.prog) W 9 z Tryd.underlying9 .i64 n (by omega) (by omega)
    have hni : (n : Int) ≤ (z.size : Int) := by omega
    have HEN : Hid (∀ W, Calls Tryd.prog 28 #[.string r] W fun e w' => e = .returned (.bool (endsL (bl r))) ∧ W = w') := fun W => ends_any r W
    have HTR : Hid (∀ W, Calls Tryd.prog 26 #[.string r, .string ⟨#[32, 9]⟩] W fun e w' => e = .returned (.string (ba (ltrim (bl r)))) ∧ Below W.heap.size W w') := fun W => trimL_blank r W
    obtain ⟨rt, hrt⟩ : ∃ rt, rt = ba (ltrim (bl r)) := ⟨_, rfl⟩
    rw [← hrt] at HTR
    by_cases hn0 : n = 0
    · have HD : Hid (dirB (bl z) = ([], [])) := by
        unfold Hid dirB
        rw [if_pos (.inl (List.length_eq_zero_iff.1 (by rw [← hn]; exact hn0)))]
      subst hn0
      clear hrt hex hex2 hu HTD HTT hr hn HTW
      go_enter Tryd.func16, Tryd.ntmps16
      go_wp2_with fail
      rw [← hw1]
      clear hw1
      refine (HC.out _).mono ?_
      rintro e w' ⟨rfl, rfl⟩
      go_wp2_with fail
      refine (HTL.out _).mono ?_
      rintro e w2 ⟨rfl, hb2⟩
      have HB2 : Hid (Below w.heap.size w w2) := HB1.out.trans (hb2.mono HB1.out.size)
      clear hb2
      go_wp2_with fail
      refine (HSM.out _).mono ?_
      rintro e w3 ⟨rfl, rfl⟩
      go_wp2
      go_ret2
      exact ⟨by rw [HD.out]; rfl, HB2.out⟩
    · have hne : ¬ (bl z).takeWhile small = [] := fun e => hn0 (by rw [hn, e]; rfl)
      have hn0i : ¬ (n : Int) = 0 := by omega
      have hn0b : ((n : Int) == 0) = false := by simpa using hn0i
      have HXE : Hid (bl r = (bl z).dropWhile small ∧ bl u = (bl z).takeWhile small) := ⟨by rw [hex, HTW.out.2], by rw [hex2, HTW.out.1]⟩
      cases hen : endsL (bl r) with
      | false =>
        have HD : Hid (dirB (bl z) = ([], [])) := by
          unfold Hid dirB
          rw [if_pos (.inr (by rw [← HXE.out.1]; exact hen))]
        rw [hen] at HEN
        clear hrt hex hex2 hu HTD HTT hr hn hne hn0 hen HTW
        go_enter Tryd.func16, Tryd.ntmps16
        go_wp2_with fail
        rw [← hw1]
        clear hw1
        refine (HC.out _).mono ?_
        rintro e w' ⟨rfl, rfl⟩
        go_wp2_with fail
        refine (HTL.out _).mono ?_
        rintro e w2 ⟨rfl, hb2⟩
        have HB2 : Hid (Below w.heap.size w w2) := HB1.out.trans (hb2.mono HB1.out.size)
        clear hb2
        go_wp2_with fail
        refine (HSM.out _).mono ?_
        rintro e w3 ⟨rfl, rfl⟩
        go_wp2_with fail
        refine (HEN.out _).mono ?_
        rintro e w3 ⟨rfl, rfl⟩
        go_wp2
        go_ret2
        exact ⟨by rw [HD.out]; rfl, HB2.out⟩
      | true =>
        have HD : Hid (ba (dirB (bl z)).1 = u ∧ ba (dirB (bl z)).2 = ba (ltrim (bl r))) := by
          unfold Hid dirB
          rw [if_neg (fun e => e.elim hne (fun e => by rw [← HXE.out.1, hen] at e; cases e))]
          exact ⟨by rw [← HXE.out.2, ba_bl], by rw [← HXE.out.1]⟩
        rw [HD.out.1, HD.out.2, ← hrt]
        rw [hen] at HEN
        have hsu : ∀ W, (Instr.slice 9 (.string z) none (some (.int .i64 (n : Int))) none).run Tryd.prog W = .ok (.string u) W := by
          intro W; rw [hu]; exact run_slice_string_h (P := Tryd.prog) W 9 z Tryd.underlying9 .i64 n (by omega) (by omega)
        clear hrt hex hex2 hu HTD HTT hr hn hne hn0 hen HTW HD HXE
        go_enter Tryd.func16, Tryd.ntmps16
        go_wp2_with fail
        rw [← hw1]
        clear hw1
        refine (HC.out _).mono ?_
        rintro e w' ⟨rfl, rfl⟩
        go_wp2_with fail
        refine (HTL.out _).mono ?_
        rintro e w2 ⟨rfl, hb2⟩
        have HB2 : Hid (Below w.heap.size w w2) := HB1.out.trans (hb2.mono HB1.out.size)
        clear hb2
        go_wp2_with fail
        refine (HSM.out _).mono ?_
        rintro e w3 ⟨rfl, rfl⟩
        go_wp2_with fail
        refine (HEN.out _).mono ?_
        rintro e w3 ⟨rfl, rfl⟩
        go_wp2_with fail
        go_region_with (go_at_call 26; refine (HTR.out _).mono ?_; rintro e w3 ⟨rfl, h3⟩)
        all_goals
          go_wp2_with fail
          go_ret2
          exact ⟨rfl, below_trans HB2.out.drew h3 HB2.out.size⟩
end Go.Proofs.YtbciedpjaajhcaaDoor
