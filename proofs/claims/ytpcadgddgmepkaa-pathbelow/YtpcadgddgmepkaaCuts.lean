/-
  What the program's Dir, Name, Suffix and Root answer, and the document's own: the same cuts.
-/
import Derived.Test.YtpcadgddgmepkaaKept
namespace Go.Proofs.Ytpcadgddgmepkaa
open Go.RowKit Go.Shelf

theorem ret_int {a b : Int} (h : a = b) : Ending.returned (.int .i64 a) = .returned (.int .i64 b) := by rw [h]
def lastI (s : ByteArray) (c : Int) : Int := Lib.lastIndexByte s c
theorem lastI_cases (s : ByteArray) (c : Int) : lastI s c = -1 ∨ ∃ i : Nat, i < s.size ∧ lastI s c = i := by
  rcases Lib.lastIndexByte_spec s c with ⟨h, _⟩ | ⟨i, h1, h2, _⟩
  · exact .inl h
  · exact .inr ⟨i, h1, h2⟩
def dirB (p : ByteArray) : ByteArray := if lastI p 47 < 0 then dotB else if lastI p 47 = 0 then ⟨#[47]⟩ else p.extract 0 (lastI p 47).toNat
def nameB (p : ByteArray) : ByteArray := p.extract (lastI p 47 + 1).toNat p.size
def sufB (p : ByteArray) : ByteArray := if 0 < lastI (nameB p) 46 then (nameB p).extract (lastI (nameB p) 46).toNat (nameB p).size else E
def rootB (p : ByteArray) : ByteArray := p.extract 0 (p.size - (sufB p).size)
theorem nameB_size (p : ByteArray) : (nameB p).size ≤ p.size := by unfold nameB; simp
theorem sufB_size (p : ByteArray) : (sufB p).size ≤ p.size := by
  have := nameB_size p
  unfold sufB
  split
  · simp; omega
  · exact Nat.zero_le _

set_option maxHeartbeats 400000 in
theorem dir_any (p : ByteArray) (w : World) (hs : p.size ≤ 140737488355328) :
    Calls Try.prog 18 #[.string p] w fun e w' => e = .returned (.string (dirB p)) ∧ w' = w := by
  have HO : Hid (∀ W, Calls Try.prog 34 #[.string p, .int .u8 47] W fun e w' => e = .returned (.int .i64 (lastI p 47)) ∧ w' = W) := fun W => Try.strings_LastIndexByte p 47 (by omega) W
  unfold dirB
  rcases lastI_cases p 47 with h | ⟨i, hi, h⟩
  · rw [h] at HO ⊢
    clear h
    go_enter Try.func18, Try.ntmps18
    go_wp2_with fail
    refine (HO.out _).mono ?_
    rintro e w' ⟨rfl, rfl⟩
    go_wp2
    go_ret
    exact ⟨rfl, rfl⟩
  · rw [h] at HO ⊢
    clear h
    by_cases h0 : i = 0
    · subst h0
      go_enter Try.func18, Try.ntmps18
      go_wp2_with fail
      refine (HO.out _).mono ?_
      rintro e w' ⟨rfl, rfl⟩
      go_wp2
      go_ret
      exact ⟨rfl, rfl⟩
    · have c1 : (0 : Int) < (i : Int) := by omega
      have c2 : ¬ (i : Int) = 0 := by omega
      have c3 : (i : Int) ≤ (p.size : Int) := by omega
      rw [if_neg (by omega), if_neg c2]
      go_enter Try.func18, Try.ntmps18
      go_wp2_with fail
      refine (HO.out _).mono ?_
      rintro e w' ⟨rfl, rfl⟩
      go_wp2
      go_ret
      exact ⟨rfl, rfl⟩

set_option maxHeartbeats 400000 in
theorem name_any (p : ByteArray) (w : World) (hs : p.size ≤ 140737488355328) :
    Calls Try.prog 20 #[.string p] w fun e w' => e = .returned (.string (nameB p)) ∧ w' = w := by
  have HO : Hid (∀ W, Calls Try.prog 34 #[.string p, .int .u8 47] W fun e w' => e = .returned (.int .i64 (lastI p 47)) ∧ w' = W) := fun W => Try.strings_LastIndexByte p 47 (by omega) W
  unfold nameB
  rcases lastI_cases p 47 with h | ⟨i, hi, h⟩
  · rw [h] at HO ⊢
    clear h
    go_enter Try.func20, Try.ntmps20
    go_wp2_with fail
    refine (HO.out _).mono ?_
    rintro e w' ⟨rfl, rfl⟩
    go_wp2
    go_ret
    exact ⟨ret_str (by simp), rfl⟩
  · rw [h] at HO ⊢
    clear h
    have c1 : (0 : Int) ≤ (i : Int) + 1 := by omega
    have c3 : (i : Int) + 1 ≤ (p.size : Int) := by omega
    go_enter Try.func20, Try.ntmps20
    go_wp2_with fail
    refine (HO.out _).mono ?_
    rintro e w' ⟨rfl, rfl⟩
    go_wp2
    go_ret
    exact ⟨rfl, rfl⟩

set_option maxHeartbeats 400000 in
theorem suffix_any (p : ByteArray) (w : World) (hs : p.size ≤ 140737488355328) :
    Calls Try.prog 22 #[.string p] w fun e w' => e = .returned (.string (sufB p)) ∧ w' = w := by
  have HN : Hid (∀ W, Calls Try.prog 20 #[.string p] W fun e w' => e = .returned (.string (nameB p)) ∧ w' = W) := fun W => name_any p W hs
  have hns := nameB_size p
  unfold sufB
  obtain ⟨n, hn⟩ : ∃ n, n = nameB p := ⟨_, rfl⟩
  rw [← hn] at HN hns ⊢
  clear hn
  have HO : Hid (∀ W, Calls Try.prog 34 #[.string n, .int .u8 46] W fun e w' => e = .returned (.int .i64 (lastI n 46)) ∧ w' = W) := fun W => Try.strings_LastIndexByte n 46 (by omega) W
  rcases lastI_cases n 46 with h | ⟨i, hi, h⟩
  · rw [h] at HO ⊢
    clear h
    go_enter Try.func22, Try.ntmps22
    go_wp2_with fail
    refine (HN.out _).mono ?_
    rintro e w' ⟨rfl, rfl⟩
    go_wp2_with fail
    refine (HO.out _).mono ?_
    rintro e w' ⟨rfl, rfl⟩
    go_wp2
    go_ret
    exact ⟨rfl, rfl⟩
  · rw [h] at HO ⊢
    clear h
    by_cases h0 : i = 0
    · subst h0
      go_enter Try.func22, Try.ntmps22
      go_wp2_with fail
      refine (HN.out _).mono ?_
      rintro e w' ⟨rfl, rfl⟩
      go_wp2_with fail
      refine (HO.out _).mono ?_
      rintro e w' ⟨rfl, rfl⟩
      go_wp2
      go_ret
      exact ⟨rfl, rfl⟩
    · have c1 : (0 : Int) < (i : Int) := by omega
      have c3 : (i : Int) ≤ (n.size : Int) := by omega
      rw [if_pos c1]
      go_enter Try.func22, Try.ntmps22
      go_wp2_with fail
      refine (HN.out _).mono ?_
      rintro e w' ⟨rfl, rfl⟩
      go_wp2_with fail
      refine (HO.out _).mono ?_
      rintro e w' ⟨rfl, rfl⟩
      go_wp2
      go_ret
      exact ⟨rfl, rfl⟩

set_option maxHeartbeats 400000 in
theorem root_any (p : ByteArray) (w : World) (hs : p.size ≤ 140737488355328) :
    Calls Try.prog 24 #[.string p] w fun e w' => e = .returned (.string (rootB p)) ∧ w' = w := by
  have HN : Hid (∀ W, Calls Try.prog 22 #[.string p] W fun e w' => e = .returned (.string (sufB p)) ∧ w' = W) := fun W => suffix_any p W hs
  have hns := sufB_size p
  unfold rootB
  obtain ⟨n, hn⟩ : ∃ n, n = sufB p := ⟨_, rfl⟩
  rw [← hn] at HN hns ⊢
  clear hn
  have c1 : (0 : Int) ≤ (p.size : Int) - (n.size : Int) := by omega
  have c2 : (p.size : Int) - (n.size : Int) ≤ (p.size : Int) := by omega
  have c3 : ((p.size : Int) - (n.size : Int)).toNat = p.size - n.size := by omega
  have HC : Hid (((p.size : Int) - (n.size : Int)).toNat = p.size - n.size) := c3
  clear c3
  go_enter Try.func24, Try.ntmps24
  go_wp2_with fail
  refine (HN.out _).mono ?_
  rintro e w' ⟨rfl, rfl⟩
  go_wp2
  go_ret
  exact ⟨by first | rfl | rw [HC.out], rfl⟩

/-! The document's own. -/
theorem data_at (s : ByteArray) (k : Nat) (h : k < s.size) : s.data[k]! = s[k] := by
  rw [getElem!_pos s.data k (by simpa using h)]; rfl

set_option maxHeartbeats 400000 in
theorem last_any (s : ByteArray) (c : Int) (w : World) (hs : s.size ≤ 140737488355328) :
    Calls Try.prog 35 #[.string s, .int .u8 c] w fun e w' => e = .returned (.int .i64 (lastI s c)) ∧ w' = w := by
  go_enter Try.func35, Try.ntmps35
  go_wp2
  go_loop [5] (fun v => ∃ k : Nat, k ≤ s.size ∧ v = .int .i64 ((k : Int) - 1) ∧ Hid (Lib.lastIdx s c k = lastI s c)) (fun v => (intOf v + 1).toNat)
  case atStart => exact ⟨s.size, Nat.le_refl _, by go_num, rfl⟩
  case round =>
    obtain ⟨k, hk, rfl, HL⟩ := hrel
    cases k with
    | zero =>
      go_wp2
      go_ret
      exact ⟨by rw [← HL.out]; rfl, rfl⟩
    | succ k =>
      have e1 : ((k + 1 : Nat) : Int) - 1 = (k : Int) := by omega
      rw [e1]
      have hkI : (k : Int) < (s.size : Int) := by omega
      have HD : Hid (s.data[k]! = s[k]) := data_at s k (by omega)
      have HS : Hid (Lib.lastIdx s c (k + 1) = if ((s.data[k]!).toNat : Int) = c then (k : Int) else Lib.lastIdx s c k) := rfl
      clear e1
      by_cases hx : ((s[k].toNat : Int) == c) = true
      · go_wp2
        go_ret
        exact ⟨ret_int (by rw [← HL.out, HS.out, HD.out, if_pos (by simpa using hx)]), rfl⟩
      · go_wp2
        go_round
        case rel => exact ⟨k, by omega, by go_num, by rw [← HL.out, HS.out, HD.out, if_neg (by simpa using hx)]; rfl⟩
        case measure => simp [intOf]
set_option maxHeartbeats 400000 in
theorem rdir_any (p : ByteArray) (w : World) (hs : p.size ≤ 140737488355328) :
    Calls Try.prog 19 #[.string p] w fun e w' => e = .returned (.string (dirB p)) ∧ w' = w := by
  have HO : Hid (∀ W, Calls Try.prog 35 #[.string p, .int .u8 47] W fun e w' => e = .returned (.int .i64 (lastI p 47)) ∧ w' = W) := fun W => last_any p 47 W hs
  unfold dirB
  rcases lastI_cases p 47 with h | ⟨i, hi, h⟩
  · rw [h] at HO ⊢
    clear h
    go_enter Try.func19, Try.ntmps19
    go_wp2_with fail
    refine (HO.out _).mono ?_
    rintro e w' ⟨rfl, rfl⟩
    go_wp2
    go_ret
    exact ⟨rfl, rfl⟩
  · rw [h] at HO ⊢
    clear h
    by_cases h0 : i = 0
    · subst h0
      go_enter Try.func19, Try.ntmps19
      go_wp2_with fail
      refine (HO.out _).mono ?_
      rintro e w' ⟨rfl, rfl⟩
      go_wp2
      go_ret
      exact ⟨rfl, rfl⟩
    · have c1 : (0 : Int) < (i : Int) := by omega
      have c2 : ¬ (i : Int) = 0 := by omega
      have c3 : (i : Int) ≤ (p.size : Int) := by omega
      rw [if_neg (by omega), if_neg c2]
      go_enter Try.func19, Try.ntmps19
      go_wp2_with fail
      refine (HO.out _).mono ?_
      rintro e w' ⟨rfl, rfl⟩
      go_wp2
      go_ret
      exact ⟨rfl, rfl⟩

set_option maxHeartbeats 400000 in
theorem rname_any (p : ByteArray) (w : World) (hs : p.size ≤ 140737488355328) :
    Calls Try.prog 21 #[.string p] w fun e w' => e = .returned (.string (nameB p)) ∧ w' = w := by
  have HO : Hid (∀ W, Calls Try.prog 35 #[.string p, .int .u8 47] W fun e w' => e = .returned (.int .i64 (lastI p 47)) ∧ w' = W) := fun W => last_any p 47 W hs
  unfold nameB
  rcases lastI_cases p 47 with h | ⟨i, hi, h⟩
  · rw [h] at HO ⊢
    clear h
    go_enter Try.func21, Try.ntmps21
    go_wp2_with fail
    refine (HO.out _).mono ?_
    rintro e w' ⟨rfl, rfl⟩
    go_wp2
    go_ret
    exact ⟨ret_str (by simp), rfl⟩
  · rw [h] at HO ⊢
    clear h
    have c1 : (0 : Int) ≤ (i : Int) + 1 := by omega
    have c3 : (i : Int) + 1 ≤ (p.size : Int) := by omega
    go_enter Try.func21, Try.ntmps21
    go_wp2_with fail
    refine (HO.out _).mono ?_
    rintro e w' ⟨rfl, rfl⟩
    go_wp2
    go_ret
    exact ⟨rfl, rfl⟩

set_option maxHeartbeats 400000 in
theorem rsuffix_any (p : ByteArray) (w : World) (hs : p.size ≤ 140737488355328) :
    Calls Try.prog 23 #[.string p] w fun e w' => e = .returned (.string (sufB p)) ∧ w' = w := by
  have HN : Hid (∀ W, Calls Try.prog 21 #[.string p] W fun e w' => e = .returned (.string (nameB p)) ∧ w' = W) := fun W => rname_any p W hs
  have hns := nameB_size p
  unfold sufB
  obtain ⟨n, hn⟩ : ∃ n, n = nameB p := ⟨_, rfl⟩
  rw [← hn] at HN hns ⊢
  clear hn
  have HO : Hid (∀ W, Calls Try.prog 35 #[.string n, .int .u8 46] W fun e w' => e = .returned (.int .i64 (lastI n 46)) ∧ w' = W) := fun W => last_any n 46 W (by omega)
  rcases lastI_cases n 46 with h | ⟨i, hi, h⟩
  · rw [h] at HO ⊢
    clear h
    go_enter Try.func23, Try.ntmps23
    go_wp2_with fail
    refine (HN.out _).mono ?_
    rintro e w' ⟨rfl, rfl⟩
    go_wp2_with fail
    refine (HO.out _).mono ?_
    rintro e w' ⟨rfl, rfl⟩
    go_wp2
    go_ret
    exact ⟨rfl, rfl⟩
  · rw [h] at HO ⊢
    clear h
    by_cases h0 : i = 0
    · subst h0
      go_enter Try.func23, Try.ntmps23
      go_wp2_with fail
      refine (HN.out _).mono ?_
      rintro e w' ⟨rfl, rfl⟩
      go_wp2_with fail
      refine (HO.out _).mono ?_
      rintro e w' ⟨rfl, rfl⟩
      go_wp2
      go_ret
      exact ⟨rfl, rfl⟩
    · have c1 : (0 : Int) < (i : Int) := by omega
      have c3 : (i : Int) ≤ (n.size : Int) := by omega
      rw [if_pos c1]
      go_enter Try.func23, Try.ntmps23
      go_wp2_with fail
      refine (HN.out _).mono ?_
      rintro e w' ⟨rfl, rfl⟩
      go_wp2_with fail
      refine (HO.out _).mono ?_
      rintro e w' ⟨rfl, rfl⟩
      go_wp2
      go_ret
      exact ⟨rfl, rfl⟩

set_option maxHeartbeats 400000 in
theorem rroot_any (p : ByteArray) (w : World) (hs : p.size ≤ 140737488355328) :
    Calls Try.prog 25 #[.string p] w fun e w' => e = .returned (.string (rootB p)) ∧ w' = w := by
  have HN : Hid (∀ W, Calls Try.prog 23 #[.string p] W fun e w' => e = .returned (.string (sufB p)) ∧ w' = W) := fun W => rsuffix_any p W hs
  have hns := sufB_size p
  unfold rootB
  obtain ⟨n, hn⟩ : ∃ n, n = sufB p := ⟨_, rfl⟩
  rw [← hn] at HN hns ⊢
  clear hn
  have c1 : (0 : Int) ≤ (p.size : Int) - (n.size : Int) := by omega
  have c2 : (p.size : Int) - (n.size : Int) ≤ (p.size : Int) := by omega
  have c3 : ((p.size : Int) - (n.size : Int)).toNat = p.size - n.size := by omega
  have HC : Hid (((p.size : Int) - (n.size : Int)).toNat = p.size - n.size) := c3
  clear c3
  go_enter Try.func25, Try.ntmps25
  go_wp2_with fail
  refine (HN.out _).mono ?_
  rintro e w' ⟨rfl, rfl⟩
  go_wp2
  go_ret
  exact ⟨by first | rfl | rw [HC.out], rfl⟩

end Go.Proofs.Ytpcadgddgmepkaa
