/-
  What the program's Quote answers.
-/
import Derived.Test.YtanboocibmjomaaDoorBase
import Derived.Test.YtanboocibmjomaaDoorShelf
import Derived.Test.YtanboocibmjomaaDoorShelfR
namespace Go.Proofs.YtanboocibmjomaaDoor
open Go.RowKit Go.Shelf

theorem index_cons (c : UInt8) (t : List UInt8) : Lib.index (c :: t) [39] = if c = 39 then 0 else if Lib.index t [39] = -1 then -1 else Lib.index t [39] + 1 := by
  conv => lhs; unfold Lib.index
  by_cases h : c = 39
  · subst h; simp
  · have : (39 == c) = false := by simpa using fun e => h e.symm
    simp [List.isPrefixOf, this, h]
theorem repl_all (s : List UInt8) : Lib.replaceK [39] [39, 92, 39, 39] (Lib.count s [39]) s = s.flatMap K.esc := by
  induction s with
  | nil => rfl
  | cons c t ih =>
    have hi := index_cons c t
    by_cases hc : c = 39
    · rw [if_pos hc] at hi
      rw [Lib.count_hit (i := 0) (by simp) hi, Nat.add_comm, Lib.replaceK_hit _ _ _ _ 0 hi]
      simp only [List.length_singleton, Nat.zero_add, List.drop_succ_cons, List.drop_zero, List.take_zero, List.nil_append]
      rw [ih, List.flatMap_cons, hc]; rfl
    · rw [if_neg hc] at hi
      have he : K.esc c = [c] := by unfold K.esc; rw [if_neg hc]
      rw [List.flatMap_cons, he]
      rcases Lib.index_spec t [39] with ⟨h1, _⟩ | ⟨i, h1, _⟩
      · rw [h1, if_pos rfl] at hi
        rw [Lib.count_miss hi]
        rw [Lib.count_miss h1] at ih
        rw [← ih]; rfl
      · have hi' : Lib.index (c :: t) [39] = ((i + 1 : Nat) : Int) := by rw [hi, if_neg (by omega), h1]; rfl
        have e1 := Lib.count_hit (s := c :: t) (by simp) hi'
        have e2 := Lib.count_hit (s := t) (by simp) h1
        have e3 : (c :: t).drop (i + 1 + ([39] : List UInt8).length) = t.drop (i + ([39] : List UInt8).length) := by simp [List.drop_succ_cons]
        rw [e3] at e1
        rw [e1, Nat.add_comm, Lib.replaceK_hit _ _ _ _ _ hi', e3]
        rw [e2, Nat.add_comm, Lib.replaceK_hit _ _ _ _ _ h1] at ih
        rw [← ih]; simp

theorem index_plain : ∀ n : Fin 256, (0 ≤ Lib.indexByte [95, 46, 47, 43, 45, 44, 58, 61, 64, 37] (UInt8.ofNat n.val) ↔ [95, 46, 47, 43, 45, 44, 58, 61, 64, 37].contains (UInt8.ofNat n.val) = true) := by decide +kernel
theorem plain_facts (c : UInt8) : ∃ X : Int, Lib.indexByte [95, 46, 47, 43, 45, 44, 58, 61, 64, 37] c = X ∧ (K.plainC c = true ↔ (97 ≤ (c.toNat : Int) ∧ (c.toNat : Int) ≤ 122) ∨ (65 ≤ (c.toNat : Int) ∧ (c.toNat : Int) ≤ 90) ∨ (48 ≤ (c.toNat : Int) ∧ (c.toNat : Int) ≤ 57) ∨ 0 ≤ X) := by
  refine ⟨_, rfl, ?_⟩
  have h := index_plain ⟨c.toNat, c.toNat_lt⟩
  simp only [UInt8.ofNat_toNat] at h
  rw [h]
  have l (a b : UInt8) : a ≤ b ↔ a.toNat ≤ b.toNat := UInt8.le_iff_toNat_le
  unfold K.plainC
  simp only [Bool.or_eq_true, Bool.and_eq_true, decide_eq_true_eq, l]
  have e1 : (97 : UInt8).toNat = 97 := rfl
  have e2 : (122 : UInt8).toNat = 122 := rfl
  have e3 : (65 : UInt8).toNat = 65 := rfl
  have e4 : (90 : UInt8).toNat = 90 := rfl
  have e5 : (48 : UInt8).toNat = 48 := rfl
  have e6 : (57 : UInt8).toNat = 57 := rfl
  rw [e1, e2, e3, e4, e5, e6]
  constructor
  · rintro (((h | h) | h) | h)
    · exact .inl (by omega)
    · exact .inr (.inl (by omega))
    · exact .inr (.inr (.inl (by omega)))
    · exact .inr (.inr (.inr h))
  · rintro (h | h | h | h)
    · exact .inl (.inl (.inl (by omega)))
    · exact .inl (.inl (.inr (by omega)))
    · exact .inl (.inr (by omega))
    · exact .inr h

set_option maxRecDepth 20000 in
set_option maxHeartbeats 1000000 in
theorem isPlain_any (c : UInt8) (w : World) :
    Calls Tryd.prog 41 #[.int .u8 c.toNat] w fun e w' => e = .returned (.bool (K.plainC c)) ∧ w = w' := by
  obtain ⟨X, hX, hX0⟩ := plain_facts c
  have HO : Hid (∀ W, Calls Tryd.prog 24 #[.string ⟨#[95, 46, 47, 43, 45, 44, 58, 61, 64, 37]⟩, .int .u8 c.toNat] W fun e w' => e = .returned (.int .i64 X) ∧ W = w') := by
    intro W
    have h := Tryd.strings_IndexByte ⟨#[95, 46, 47, 43, 45, 44, 58, 61, 64, 37]⟩ c.toNat W
    rw [u8_back] at h
    rw [← hX]; exact h.mono fun e w' h => ⟨h.1, h.2.symm⟩
  have HX : Hid (K.plainC c = true ↔ (97 ≤ (c.toNat : Int) ∧ (c.toNat : Int) ≤ 122) ∨ (65 ≤ (c.toNat : Int) ∧ (c.toNat : Int) ≤ 90) ∨ (48 ≤ (c.toNat : Int) ∧ (c.toNat : Int) ≤ 57) ∨ 0 ≤ X) := hX0
  clear hX hX0
  go_enter Tryd.func41, Tryd.ntmps41
  go_wp2_with (go_at_call 24; refine (HO.out _).mono ?_; rintro e w' ⟨rfl, rfl⟩)
  all_goals go_ret
  all_goals refine ⟨ret_bool ?_, rfl⟩
  all_goals (rw [Bool.eq_iff_iff, HX.out]; simp; omega)

set_option maxRecDepth 20000 in
set_option maxHeartbeats 400000 in
theorem allPlain_any (s : ByteArray) (w : World) (hs : s.size ≤ 140737488355328) :
    Calls Tryd.prog 31 #[.string s] w fun e w' => e = .returned (.bool ((bl s).all K.plainC)) ∧ w = w' := by
  have HO : Hid (∀ (c : UInt8) W, Calls Tryd.prog 41 #[.int .u8 c.toNat] W fun e w' => e = .returned (.bool (K.plainC c)) ∧ W = w') := fun c W => isPlain_any c W
  go_enter Tryd.func31, Tryd.ntmps31
  go_wp2
  go_loopw [6] (fun vi wr => ∃ k : Nat, k ≤ s.size ∧ vi = .int .i64 k ∧ w = wr ∧ Hid (((bl s).take k).all K.plainC = true)) (fun vi _ => s.size - (intOf vi).toNat)
  case atStart => exact ⟨0, Nat.zero_le _, rfl, rfl, by simp [Hid]⟩
  case round =>
    obtain ⟨k, hk, rfl, rfl, HA⟩ := hrel
    by_cases hlt : k < s.size
    · have hil : (k : Int) < (s.size : Int) := by omega
      have HO1 : Hid (∀ W, Calls Tryd.prog 41 #[.int .u8 s[k].toNat] W fun e w' => e = .returned (.bool (K.plainC s[k])) ∧ W = w') := fun W => HO.out s[k] W
      cases hp : K.plainC s[k] with
      | true =>
        have HA1 : Hid (((bl s).take (k + 1)).all K.plainC = true) := by unfold Hid; rw [take_snoc s k hlt, List.all_append, HA.out]; simp [hp]
        rw [hp] at HO1
        clear hp
        go_wp2_with (go_at_call 41; refine (HO1.out _).mono ?_; rintro e w' ⟨rfl, rfl⟩)
        go_roundw
        case rel => exact ⟨k + 1, by omega, by go_num, trivial, HA1⟩
        case measure => simp [intOf]; omega
      | false =>
        have HA1 : Hid ((bl s).all K.plainC = false) := by
          unfold Hid
          rw [← List.take_append_drop k (bl s), List.all_append, drop_ba s k hlt]
          simp [hp]
        rw [hp] at HO1
        clear hp
        go_wp2_with (go_at_call 41; refine (HO1.out _).mono ?_; rintro e w' ⟨rfl, rfl⟩)
        go_ret
        exact ⟨ret_bool HA1.out.symm, rfl⟩
    · obtain rfl : k = s.size := by omega
      have HA1 : Hid ((bl s).all K.plainC = true) := by have := HA.out; rw [take_all] at this; exact this
      go_wp2
      go_ret
      exact ⟨ret_bool HA1.out.symm, rfl⟩

theorem bl_app (a b : ByteArray) : bl (a ++ b) = bl a ++ bl b := by simp [bl]
theorem bl_one (c : UInt8) : bl ⟨#[c]⟩ = [c] := rfl
theorem quote_adds (r q : ByteArray) (hr : r.size ≤ 8000000) (hq : (⟨#[39]⟩ ++ r ++ ⟨#[39]⟩ : ByteArray) = q) :
    ∃ q1, (∀ W, (Op.stringOp .add ⟨#[39]⟩ r).run Tryd.prog W = .ok (.string q1) W) ∧ (∀ W, (Op.stringOp .add q1 ⟨#[39]⟩).run Tryd.prog W = .ok (.string q) W) := by
  have h1 : (⟨#[39]⟩ : ByteArray).size = 1 := rfl
  refine ⟨⟨#[39]⟩ ++ r, fun W => run_string_add_sum W _ _ (by rw [h1]; omega), fun W => ?_⟩
  rw [← hq]
  exact run_string_add_sum W _ _ (by rw [ByteArray.size_append, h1]; omega)

set_option maxRecDepth 20000 in
set_option maxHeartbeats 400000 in
theorem quote_any (s : ByteArray) (m : Int) (w : World) (hs : s.size ≤ 2000000) (hm : w.cell? ⟨0, 0, none⟩ = some (.int .i64 m)) :
    Calls Tryd.prog 15 #[.string s] w fun e w' => e = .returned (.string (ba (K.quote (bl s)))) ∧ Below w.heap.size w w' := by
  have HO : Hid (∀ W, Calls Tryd.prog 31 #[.string s] W fun e w' => e = .returned (.bool ((bl s).all K.plainC)) ∧ W = w') := fun W => allPlain_any s W (by omega)
  obtain ⟨r, hr⟩ : ∃ r, r = ba ((bl s).flatMap K.esc) := ⟨_, rfl⟩
  have HR : Hid (Calls Tryd.prog 32 #[.string s, .string ⟨#[39]⟩, .string ⟨#[39, 92, 39, 39]⟩] w fun e w' => e = .returned (.string r) ∧ Below w.heap.size w w') := by
    have h1 := Lib.countB_le ⟨#[39]⟩ (by decide) s.size s (Nat.le_refl _)
    have h2 : (⟨#[39, 92, 39, 39]⟩ : ByteArray).size = 4 := rfl
    have h := Tryd.strings_ReplaceAll s ⟨#[39]⟩ ⟨#[39, 92, 39, 39]⟩ m w (by omega) hm (by decide) (by rw [h2]; omega)
    have e : Lib.replaceAll s.data.toList (⟨#[39]⟩ : ByteArray).data.toList (⟨#[39, 92, 39, 39]⟩ : ByteArray).data.toList = (bl s).flatMap K.esc := repl_all (bl s)
    rw [e] at h
    rw [hr]; exact h
  obtain ⟨q, hq⟩ : ∃ q, q = ba (K.quote (bl s)) := ⟨_, rfl⟩
  rw [← hq]
  have hrs : r.size ≤ 8000000 := by
    have := K.esc_length (bl s)
    rw [bl_length] at this
    rw [hr, ba_size]; omega
  by_cases he : s = ⟨#[]⟩
  · subst he
    obtain ⟨q1, ea, eb⟩ := quote_adds r q hrs (by rw [hq, hr]; rfl)
    clear hr hq hrs
    go_enter Tryd.func15, Tryd.ntmps15
    go_wp2_with (first | (go_at_call 32; refine HR.out.mono ?_; rintro e w1 ⟨rfl, hb1⟩))
    go_ret
    exact ⟨rfl, by assumption⟩
  · have t1 : ¬ s.toList = [] := by rw [Lib.toList_data]; exact fun e => he (bl_inj e)
    have t1' : s.toList.isEmpty = false := by simpa using t1
    have hne : bl s ≠ [] := fun e => he (bl_inj e)
    cases hp : (bl s).all K.plainC with
    | true =>
      have HE : Hid (s = q) := by rw [hq]; unfold K.quote; rw [if_pos ⟨hne, hp⟩, ba_bl]; rfl
      rw [hp] at HO
      clear hr hq hne hp he hrs
      go_enter Tryd.func15, Tryd.ntmps15
      go_wp2_with (first | (go_at_call 31; refine (HO.out _).mono ?_; rintro e w' ⟨rfl, rfl⟩))
      go_ret
      exact ⟨ret_str HE.out, Below.refl _ _⟩
    | false =>
      obtain ⟨q1, ea, eb⟩ := quote_adds r q hrs (by
        rw [hq, hr]; unfold K.quote; rw [if_neg (by rw [hp]; simp)]
        apply bl_inj
        rw [bl_app, bl_app, bl_ba, bl_ba, bl_one])
      rw [hp] at HO
      clear hr hq hne hp he hrs
      go_enter Tryd.func15, Tryd.ntmps15
      go_wp2_with (first | (go_at_call 31; refine (HO.out _).mono ?_; rintro e w' ⟨rfl, rfl⟩) | (go_at_call 32; refine HR.out.mono ?_; rintro e w1 ⟨rfl, hb1⟩))
      go_ret
      exact ⟨rfl, by assumption⟩
end Go.Proofs.YtanboocibmjomaaDoor
