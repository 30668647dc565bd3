/-
  DQ13
-/
import Derived.Test.YtpcpcfnmcfjomaaGreatDoorK20
import Derived.Test.YtpcpcfnmcfjomaaGreatDoorK21
import Derived.Lib.AppendStr
namespace Go.Proofs.YtpcpcfnmcfjomaaGreatDoor.DQ
open Go.RowKit Go.Shelf
open WD (told joined neE bl_E told_snoc)
theorem contains_iff (c : UInt8) : [95, 46, 47, 43, 45, 44, 58, 61, 64, 37].contains c = true ↔ c.toNat = 95 ∨ c.toNat = 46 ∨ c.toNat = 47 ∨ c.toNat = 43 ∨ c.toNat = 45 ∨ c.toNat = 44 ∨ c.toNat = 58 ∨ c.toNat = 61 ∨ c.toNat = 64 ∨ c.toNat = 37 := by
  have e95 : c = 95 ↔ c.toNat = 95 := u8_eq_iff c 95
  have e46 : c = 46 ↔ c.toNat = 46 := u8_eq_iff c 46
  have e47 : c = 47 ↔ c.toNat = 47 := u8_eq_iff c 47
  have e43 : c = 43 ↔ c.toNat = 43 := u8_eq_iff c 43
  have e45 : c = 45 ↔ c.toNat = 45 := u8_eq_iff c 45
  have e44 : c = 44 ↔ c.toNat = 44 := u8_eq_iff c 44
  have e58 : c = 58 ↔ c.toNat = 58 := u8_eq_iff c 58
  have e61 : c = 61 ↔ c.toNat = 61 := u8_eq_iff c 61
  have e64 : c = 64 ↔ c.toNat = 64 := u8_eq_iff c 64
  have e37 : c = 37 ↔ c.toNat = 37 := u8_eq_iff c 37
  simp only [List.contains_cons, List.contains_nil, Bool.or_false, Bool.or_eq_true, beq_iff_eq, e95, e46, e47, e43, e45, e44, e58, e61, e64, e37]
theorem plain_iff (c : UInt8) : K.plainC c = true ↔ (97 ≤ c.toNat ∧ c.toNat ≤ 122) ∨ (65 ≤ c.toNat ∧ c.toNat ≤ 90) ∨ (48 ≤ c.toNat ∧ c.toNat ≤ 57) ∨ c.toNat = 95 ∨ c.toNat = 46 ∨ c.toNat = 47 ∨ c.toNat = 43 ∨ c.toNat = 45 ∨ c.toNat = 44 ∨ c.toNat = 58 ∨ c.toNat = 61 ∨ c.toNat = 64 ∨ c.toNat = 37 := by
  have l (a b : UInt8) : a ≤ b ↔ a.toNat ≤ b.toNat := UInt8.le_iff_toNat_le
  unfold K.plainC
  simp only [Bool.or_eq_true, Bool.and_eq_true, decide_eq_true_eq, l, contains_iff]
  have e1 : (97 : UInt8).toNat = 97 := rfl
  have e2 : (122 : UInt8).toNat = 122 := rfl
  have e3 : (65 : UInt8).toNat = 65 := rfl
  have e4 : (90 : UInt8).toNat = 90 := rfl
  have e5 : (48 : UInt8).toNat = 48 := rfl
  have e6 : (57 : UInt8).toNat = 57 := rfl
  rw [e1, e2, e3, e4, e5, e6]
  omega
theorem bl_one (c : UInt8) : bl ⟨#[c]⟩ = [c] := rfl
theorem quote_adds (r q : ByteArray) (hr : r.size ≤ 8000000) (hq : (⟨#[39]⟩ ++ r ++ ⟨#[39]⟩ : ByteArray) = q) :
    ∃ q1, (∀ W, (Op.stringOp .add ⟨#[39]⟩ r).run Tryz.prog W = .ok (.string q1) W) ∧ (∀ W, (Op.stringOp .add q1 ⟨#[39]⟩).run Tryz.prog W = .ok (.string q) W) := by
  have h1 : (⟨#[39]⟩ : ByteArray).size = 1 := rfl
  refine ⟨⟨#[39]⟩ ++ r, fun W => run_string_add_sum W _ _ (by rw [h1]; omega), fun W => ?_⟩
  rw [← hq]
  exact run_string_add_sum W _ _ (by rw [ByteArray.size_append, h1]; omega)
set_option maxRecDepth 20000 in
set_option maxHeartbeats 2000000 in
theorem bare_any (c : UInt8) (w : World) :
    Calls Tryz.prog 68 #[.int .u8 c.toNat] w fun e w' => e = .returned (.bool (K.plainC c)) ∧ w = w' := by
  have HP : Hid (K.plainC c = true ↔ (97 ≤ c.toNat ∧ c.toNat ≤ 122) ∨ (65 ≤ c.toNat ∧ c.toNat ≤ 90) ∨ (48 ≤ c.toNat ∧ c.toNat ≤ 57) ∨ c.toNat = 95 ∨ c.toNat = 46 ∨ c.toNat = 47 ∨ c.toNat = 43 ∨ c.toNat = 45 ∨ c.toNat = 44 ∨ c.toNat = 58 ∨ c.toNat = 61 ∨ c.toNat = 64 ∨ c.toNat = 37) := plain_iff c
  obtain ⟨pc, hpc⟩ : ∃ pc, pc = K.plainC c := ⟨_, rfl⟩
  rw [← hpc]
  rw [← hpc] at HP
  clear hpc
  obtain ⟨n, hn⟩ : ∃ n, n = c.toNat := ⟨_, rfl⟩
  rw [← hn]
  rw [← hn] at HP
  have hn2 : n < 256 := by rw [hn]; exact c.toNat_lt
  clear hn
  by_cases h1 : (97 ≤ n ∧ n ≤ 122) ∨ (65 ≤ n ∧ n ≤ 90) ∨ (48 ≤ n ∧ n ≤ 57)
  · have HT : Hid (true = pc) := (HP.out.2 (by omega)).symm
    have H1 : Hid ((97 ≤ n ∧ n ≤ 122) ∨ (65 ≤ n ∧ n ≤ 90) ∨ (48 ≤ n ∧ n ≤ 57)) := h1
    clear HP
    rcases h1 with ⟨h1, h2⟩ | ⟨h1, h2⟩ | ⟨h1, h2⟩
    · have g1 : (97 : Int) ≤ n := by omega
      have g2 : (n : Int) ≤ 122 := by omega
      go_enter Tryz.func68, Tryz.ntmps68
      go_wp2
      go_ret
      exact ⟨ret_bool HT.out, rfl⟩
    · have g1 : ¬ (97 : Int) ≤ n := by omega
      have g2 : (65 : Int) ≤ n := by omega
      have g3 : (n : Int) ≤ 90 := by omega
      go_enter Tryz.func68, Tryz.ntmps68
      go_wp2
      go_ret
      exact ⟨ret_bool HT.out, rfl⟩
    · have g1 : ¬ (97 : Int) ≤ n := by omega
      have g2 : ¬ (65 : Int) ≤ n := by omega
      have g3 : (48 : Int) ≤ n := by omega
      have g4 : (n : Int) ≤ 57 := by omega
      go_enter Tryz.func68, Tryz.ntmps68
      go_wp2
      go_ret
      exact ⟨ret_bool HT.out, rfl⟩
  by_cases h95 : n = 95
  · subst h95
    have HT : Hid (true = pc) := (HP.out.2 (by omega)).symm
    clear HP h1
    go_enter Tryz.func68, Tryz.ntmps68
    go_wp2
    refine wp_loop_rounds 1 ?_
    rw [rounds_succ]
    go_wp2
    go_ret
    exact ⟨ret_bool HT.out, rfl⟩
  by_cases h46 : n = 46
  · subst h46
    have HT : Hid (true = pc) := (HP.out.2 (by omega)).symm
    clear HP h1
    go_enter Tryz.func68, Tryz.ntmps68
    go_wp2
    refine wp_loop_rounds 2 ?_
    rw [rounds_succ]
    go_wp2
    rw [rounds_succ]
    go_wp2
    go_ret
    exact ⟨ret_bool HT.out, rfl⟩
  by_cases h47 : n = 47
  · subst h47
    have HT : Hid (true = pc) := (HP.out.2 (by omega)).symm
    clear HP h1
    go_enter Tryz.func68, Tryz.ntmps68
    go_wp2
    refine wp_loop_rounds 3 ?_
    rw [rounds_succ]
    go_wp2
    rw [rounds_succ]
    go_wp2
    rw [rounds_succ]
    go_wp2
    go_ret
    exact ⟨ret_bool HT.out, rfl⟩
  by_cases h43 : n = 43
  · subst h43
    have HT : Hid (true = pc) := (HP.out.2 (by omega)).symm
    clear HP h1
    go_enter Tryz.func68, Tryz.ntmps68
    go_wp2
    refine wp_loop_rounds 4 ?_
    rw [rounds_succ]
    go_wp2
    rw [rounds_succ]
    go_wp2
    rw [rounds_succ]
    go_wp2
    rw [rounds_succ]
    go_wp2
    go_ret
    exact ⟨ret_bool HT.out, rfl⟩
  by_cases h45 : n = 45
  · subst h45
    have HT : Hid (true = pc) := (HP.out.2 (by omega)).symm
    clear HP h1
    go_enter Tryz.func68, Tryz.ntmps68
    go_wp2
    refine wp_loop_rounds 5 ?_
    rw [rounds_succ]
    go_wp2
    rw [rounds_succ]
    go_wp2
    rw [rounds_succ]
    go_wp2
    rw [rounds_succ]
    go_wp2
    rw [rounds_succ]
    go_wp2
    go_ret
    exact ⟨ret_bool HT.out, rfl⟩
  by_cases h44 : n = 44
  · subst h44
    have HT : Hid (true = pc) := (HP.out.2 (by omega)).symm
    clear HP h1
    go_enter Tryz.func68, Tryz.ntmps68
    go_wp2
    refine wp_loop_rounds 6 ?_
    rw [rounds_succ]
    go_wp2
    rw [rounds_succ]
    go_wp2
    rw [rounds_succ]
    go_wp2
    rw [rounds_succ]
    go_wp2
    rw [rounds_succ]
    go_wp2
    rw [rounds_succ]
    go_wp2
    go_ret
    exact ⟨ret_bool HT.out, rfl⟩
  by_cases h58 : n = 58
  · subst h58
    have HT : Hid (true = pc) := (HP.out.2 (by omega)).symm
    clear HP h1
    go_enter Tryz.func68, Tryz.ntmps68
    go_wp2
    refine wp_loop_rounds 7 ?_
    rw [rounds_succ]
    go_wp2
    rw [rounds_succ]
    go_wp2
    rw [rounds_succ]
    go_wp2
    rw [rounds_succ]
    go_wp2
    rw [rounds_succ]
    go_wp2
    rw [rounds_succ]
    go_wp2
    rw [rounds_succ]
    go_wp2
    go_ret
    exact ⟨ret_bool HT.out, rfl⟩
  by_cases h61 : n = 61
  · subst h61
    have HT : Hid (true = pc) := (HP.out.2 (by omega)).symm
    clear HP h1
    go_enter Tryz.func68, Tryz.ntmps68
    go_wp2
    refine wp_loop_rounds 8 ?_
    rw [rounds_succ]
    go_wp2
    rw [rounds_succ]
    go_wp2
    rw [rounds_succ]
    go_wp2
    rw [rounds_succ]
    go_wp2
    rw [rounds_succ]
    go_wp2
    rw [rounds_succ]
    go_wp2
    rw [rounds_succ]
    go_wp2
    rw [rounds_succ]
    go_wp2
    go_ret
    exact ⟨ret_bool HT.out, rfl⟩
  by_cases h64 : n = 64
  · subst h64
    have HT : Hid (true = pc) := (HP.out.2 (by omega)).symm
    clear HP h1
    go_enter Tryz.func68, Tryz.ntmps68
    go_wp2
    refine wp_loop_rounds 9 ?_
    rw [rounds_succ]
    go_wp2
    rw [rounds_succ]
    go_wp2
    rw [rounds_succ]
    go_wp2
    rw [rounds_succ]
    go_wp2
    rw [rounds_succ]
    go_wp2
    rw [rounds_succ]
    go_wp2
    rw [rounds_succ]
    go_wp2
    rw [rounds_succ]
    go_wp2
    rw [rounds_succ]
    go_wp2
    go_ret
    exact ⟨ret_bool HT.out, rfl⟩
  by_cases h37 : n = 37
  · subst h37
    have HT : Hid (true = pc) := (HP.out.2 (by omega)).symm
    clear HP h1
    go_enter Tryz.func68, Tryz.ntmps68
    go_wp2
    refine wp_loop_rounds 10 ?_
    rw [rounds_succ]
    go_wp2
    rw [rounds_succ]
    go_wp2
    rw [rounds_succ]
    go_wp2
    rw [rounds_succ]
    go_wp2
    rw [rounds_succ]
    go_wp2
    rw [rounds_succ]
    go_wp2
    rw [rounds_succ]
    go_wp2
    rw [rounds_succ]
    go_wp2
    rw [rounds_succ]
    go_wp2
    rw [rounds_succ]
    go_wp2
    go_ret
    exact ⟨ret_bool HT.out, rfl⟩
  have HT : Hid (false = pc) := by
    unfold Hid
    cases hp : pc with
    | false => rfl
    | true => have := HP.out.1 hp; omega
  have g0 : ¬ ((97 : Int) ≤ n ∧ (n : Int) ≤ 122) := by omega
  have g1 : ¬ ((65 : Int) ≤ n ∧ (n : Int) ≤ 90) := by omega
  have g2 : ¬ ((48 : Int) ≤ n ∧ (n : Int) ≤ 57) := by omega
  have k95 : ((((⟨#[95, 46, 47, 43, 45, 44, 58, 61, 64, 37]⟩ : ByteArray)[0]'(by decide)).toNat : Int) == (n : Int)) = false := by
    show ((95 : Int) == (n : Int)) = false
    simp; omega
  have k46 : ((((⟨#[95, 46, 47, 43, 45, 44, 58, 61, 64, 37]⟩ : ByteArray)[1]'(by decide)).toNat : Int) == (n : Int)) = false := by
    show ((46 : Int) == (n : Int)) = false
    simp; omega
  have k47 : ((((⟨#[95, 46, 47, 43, 45, 44, 58, 61, 64, 37]⟩ : ByteArray)[2]'(by decide)).toNat : Int) == (n : Int)) = false := by
    show ((47 : Int) == (n : Int)) = false
    simp; omega
  have k43 : ((((⟨#[95, 46, 47, 43, 45, 44, 58, 61, 64, 37]⟩ : ByteArray)[3]'(by decide)).toNat : Int) == (n : Int)) = false := by
    show ((43 : Int) == (n : Int)) = false
    simp; omega
  have k45 : ((((⟨#[95, 46, 47, 43, 45, 44, 58, 61, 64, 37]⟩ : ByteArray)[4]'(by decide)).toNat : Int) == (n : Int)) = false := by
    show ((45 : Int) == (n : Int)) = false
    simp; omega
  have k44 : ((((⟨#[95, 46, 47, 43, 45, 44, 58, 61, 64, 37]⟩ : ByteArray)[5]'(by decide)).toNat : Int) == (n : Int)) = false := by
    show ((44 : Int) == (n : Int)) = false
    simp; omega
  have k58 : ((((⟨#[95, 46, 47, 43, 45, 44, 58, 61, 64, 37]⟩ : ByteArray)[6]'(by decide)).toNat : Int) == (n : Int)) = false := by
    show ((58 : Int) == (n : Int)) = false
    simp; omega
  have k61 : ((((⟨#[95, 46, 47, 43, 45, 44, 58, 61, 64, 37]⟩ : ByteArray)[7]'(by decide)).toNat : Int) == (n : Int)) = false := by
    show ((61 : Int) == (n : Int)) = false
    simp; omega
  have k64 : ((((⟨#[95, 46, 47, 43, 45, 44, 58, 61, 64, 37]⟩ : ByteArray)[8]'(by decide)).toNat : Int) == (n : Int)) = false := by
    show ((64 : Int) == (n : Int)) = false
    simp; omega
  have k37 : ((((⟨#[95, 46, 47, 43, 45, 44, 58, 61, 64, 37]⟩ : ByteArray)[9]'(by decide)).toNat : Int) == (n : Int)) = false := by
    show ((37 : Int) == (n : Int)) = false
    simp; omega
  have HN : Hid (¬ ((97 ≤ n ∧ n ≤ 122) ∨ (65 ≤ n ∧ n ≤ 90) ∨ (48 ≤ n ∧ n ≤ 57))) := h1
  clear HP h1 h95 h46 h47 h43 h45 h44 h58 h61 h64 h37 g0 g1 g2
  by_cases a1 : (97 : Int) ≤ n
  all_goals by_cases a2 : (n : Int) ≤ 122
  all_goals by_cases a3 : (65 : Int) ≤ n
  all_goals by_cases a4 : (n : Int) ≤ 90
  all_goals by_cases a5 : (48 : Int) ≤ n
  all_goals by_cases a6 : (n : Int) ≤ 57
  all_goals first
    | (exfalso; have := HN.out; omega)
    | (go_enter Tryz.func68, Tryz.ntmps68
       go_wp2
       refine wp_loop_rounds 11 ?_
       rw [rounds_succ]
       go_wp2
       rw [rounds_succ]
       go_wp2
       rw [rounds_succ]
       go_wp2
       rw [rounds_succ]
       go_wp2
       rw [rounds_succ]
       go_wp2
       rw [rounds_succ]
       go_wp2
       rw [rounds_succ]
       go_wp2
       rw [rounds_succ]
       go_wp2
       rw [rounds_succ]
       go_wp2
       rw [rounds_succ]
       go_wp2
       rw [rounds_succ]
       go_wp2
       go_ret
       exact ⟨ret_bool HT.out, rfl⟩)
def escAt (s : ByteArray) (k : Nat) : List UInt8 := ((bl s).take k).flatMap K.esc
theorem escAt_succ (s : ByteArray) (k : Nat) (h : k < s.size) : escAt s (k + 1) = escAt s k ++ K.esc s[k] := by
  unfold escAt; rw [take_snoc s k h, List.flatMap_append]; simp
theorem escAt_len (s : ByteArray) (k : Nat) : (escAt s k).length ≤ 4 * s.size := by
  have := K.esc_length ((bl s).take k)
  unfold escAt; rw [List.length_take, bl_length] at this; omega
def allAt (s : ByteArray) (k : Nat) : Bool := decide (0 < s.size) && ((bl s).take k).all K.plainC
theorem allAt_succ (s : ByteArray) (k : Nat) (h : k < s.size) : allAt s (k + 1) = (allAt s k && K.plainC s[k]) := by
  unfold allAt; rw [take_snoc s k h, List.all_append]; simp [Bool.and_assoc]
theorem allAt_end (s : ByteArray) : (allAt s s.size = true → K.quote (bl s) = bl s) ∧ (allAt s s.size = false → K.quote (bl s) = [39] ++ (bl s).flatMap K.esc ++ [39]) := by
  have hne : bl s ≠ [] ↔ 0 < s.size := by rw [← bl_length, List.length_pos_iff]
  unfold allAt K.quote
  rw [take_all]
  constructor
  · intro h
    simp only [Bool.and_eq_true, decide_eq_true_eq] at h
    rw [if_pos ⟨hne.2 h.1, h.2⟩]
  · intro h
    rw [if_neg]
    rintro ⟨h1, h2⟩
    rw [h2, Bool.and_true, decide_eq_false_iff_not] at h
    exact h (hne.1 h1)
set_option maxRecDepth 20000 in
set_option maxHeartbeats 2000000 in
theorem rquote_any (s : ByteArray) (w : World) (hs : s.size ≤ 2000000) :
    Calls Tryz.prog 32 #[.string s] w fun e w' => e = .returned (.string (ba (K.quote (bl s)))) ∧ Below w.heap.size w w' := by
  obtain ⟨i0, hi, hz0, hz1, hz2⟩ := info_of info5
  have HBr : Hid (∀ (c : UInt8) W, Calls Tryz.prog 68 #[.int .u8 c.toNat] W fun e w' => e = .returned (.bool (K.plainC c)) ∧ W = w') := fun c W => bare_any c W
  obtain ⟨z, hz⟩ : ∃ z, z = ba (K.quote (bl s)) := ⟨_, rfl⟩
  rw [← hz]
  have HZ : Hid (z = ba (K.quote (bl s))) := hz
  clear hz
  have h00 : decide ((0 : Int) < (s.size : Int)) = allAt s 0 := by unfold allAt; simp
  have H00 : Hid (decide ((0 : Int) < (s.size : Int)) = allAt s 0) := h00
  clear h00
  go_enter Tryz.func32, Tryz.ntmps32
  go_wp2
  go_loopw [3, 4, 5] (fun va v vi wr => ∃ k : Nat, k ≤ s.size ∧ vi = .int .i64 k ∧ va = .bool (allAt s k) ∧ wr.ownsRow w.heap.size 5 1 v (escAt s k).length (Lib.byteCells (escAt s k)) ∧ Below w.heap.size w wr)
    (fun _ _ vi _ => s.size - (intOf vi).toNat)
  case atStart =>
    refine ⟨0, Nat.zero_le _, rfl, ?_, World.ownsRow_nil _ _ _ _, Below.refl _ _⟩
    rw [← H00.out]; simp
  case round =>
    obtain ⟨k, hk, rfl, rfl, hown, hb⟩ := hrel
    have hbs := hb.size
    have hel := escAt_len s k
    by_cases hlt : k < s.size
    · have hil : (k : Int) < (s.size : Int) := by omega
      have HE1 := escAt_succ s k hlt
      have HA1 : Hid (allAt s (k + 1) = (allAt s k && K.plainC s[k])) := allAt_succ s k hlt
      have HB1 := HBr.out s[k]
      obtain ⟨x, hx⟩ : ∃ x, x = escAt s k := ⟨_, rfl⟩
      rw [← hx] at HE1 hown hel
      clear hx
      obtain ⟨m, hll⟩ : ∃ m, x.length = m := ⟨_, rfl⟩
      rw [hll] at hown hel
      obtain ⟨A, hA⟩ : ∃ A, A = allAt s k := ⟨_, rfl⟩
      obtain ⟨p, hp⟩ : ∃ p, p = K.plainC s[k] := ⟨_, rfl⟩
      rw [← hA, ← hp] at HA1
      rw [← hA]
      rw [← hp] at HB1
      have HB2 : Hid (∀ W, Calls Tryz.prog 68 #[.int .u8 s[k].toNat] W fun e w' => e = .returned (.bool p) ∧ W = w') := HB1
      clear hA hp HB1
      by_cases hc : s[k].toNat = 39
      · have he : K.esc s[k] = [39, 92, 39, 39] := by unfold K.esc; rw [if_pos ((u8_eq_iff _ 39).2 hc)]
        rw [he] at HE1
        have HQ : Hid (escAt s (k + 1) = x ++ [39, 92, 39, 39]) := HE1
        clear he HE1
        cases A with
        | true =>
          have g1 : ((s[k].toNat : Int) == 39) = true := by simp; omega
          clear hc
          go_wp2_with (first | (at_builtin; refine wpList_append_own _ rfl _ _ 25 rfl w.heap.size 5 i0 (.int .u8 0) 1 1 Tryz.underlying25 hi hz0 hz1 hz2 rfl (by decide) _ _ _ rfl (hown.alloc _) ⟨wr.heap.size, 0, none⟩ 4 4 [.int .u8 39, .int .u8 92, .int .u8 39, .int .u8 39] rfl rfl (by intro j u hj; match j, hj with | 0, hj => simp at hj; subst hj; simp [Addr.add] | 1, hj => simp at hj; subst hj; simp [Addr.add] | 2, hj => simp at hj; subst hj; simp [Addr.add] | 3, hj => simp at hj; subst hj; simp [Addr.add]) (by intro u hu; simp only [List.mem_cons, List.not_mem_nil, or_false] at hu; rcases hu with rfl | rfl | rfl | rfl <;> rfl) (by unfold maxLen; omega) (by omega) (by simp; omega) ?_; intro v' w2 hown' hgrow _; have HG1 : Hid (Below w.heap.size w w2) := (hb.alloc hbs _).grown hgrow (by simp; omega) (fun k hk => (hown.lt k hk).1); have HG2 : Hid (w2.ownsRow w.heap.size 5 1 v' (escAt s (k + 1)).length (Lib.byteCells (escAt s (k + 1)))) := (by unfold Hid; rw [HQ.out]; simpa [Lib.byteCells, hll] using hown'); clear hown' hgrow hown hb) | (go_at_call 68; refine (HB2.out _).mono ?_; rintro e w' ⟨rfl, rfl⟩))
          go_roundw
          case rel => exact ⟨k + 1, by omega, by go_num, by rw [HA1.out]; simp, by assumption, by assumption⟩
          case measure => simp [intOf]; omega
        | false =>
          have g1 : ((s[k].toNat : Int) == 39) = true := by simp; omega
          clear hc
          go_wp2_with (at_builtin; refine wpList_append_own _ rfl _ _ 25 rfl w.heap.size 5 i0 (.int .u8 0) 1 1 Tryz.underlying25 hi hz0 hz1 hz2 rfl (by decide) _ _ _ rfl (hown.alloc _) ⟨wr.heap.size, 0, none⟩ 4 4 [.int .u8 39, .int .u8 92, .int .u8 39, .int .u8 39] rfl rfl (by intro j u hj; match j, hj with | 0, hj => simp at hj; subst hj; simp [Addr.add] | 1, hj => simp at hj; subst hj; simp [Addr.add] | 2, hj => simp at hj; subst hj; simp [Addr.add] | 3, hj => simp at hj; subst hj; simp [Addr.add]) (by intro u hu; simp only [List.mem_cons, List.not_mem_nil, or_false] at hu; rcases hu with rfl | rfl | rfl | rfl <;> rfl) (by unfold maxLen; omega) (by omega) (by simp; omega) ?_; intro v' w2 hown' hgrow _; have HG1 : Hid (Below w.heap.size w w2) := (hb.alloc hbs _).grown hgrow (by simp; omega) (fun k hk => (hown.lt k hk).1); have HG2 : Hid (w2.ownsRow w.heap.size 5 1 v' (escAt s (k + 1)).length (Lib.byteCells (escAt s (k + 1)))) := (by unfold Hid; rw [HQ.out]; simpa [Lib.byteCells, hll] using hown'); clear hown' hgrow hown hb)
          go_roundw
          case rel => exact ⟨k + 1, by omega, by go_num, by rw [HA1.out]; simp, by assumption, by assumption⟩
          case measure => simp [intOf]; omega
      · have he : K.esc s[k] = [s[k]] := by unfold K.esc; rw [if_neg (fun e => hc ((u8_eq_iff _ 39).1 e))]
        rw [he] at HE1
        have HQ : Hid (escAt s (k + 1) = x ++ [s[k]]) := HE1
        clear he HE1
        cases A with
        | true =>
          have g1 : ((s[k].toNat : Int) == 39) = false := by simp; omega
          clear hc
          go_wp2_with (first | (at_builtin; refine wpList_append_own _ rfl _ _ 25 rfl w.heap.size 5 i0 (.int .u8 0) 1 1 Tryz.underlying25 hi hz0 hz1 hz2 rfl (by decide) _ _ _ rfl (hown.alloc _) ⟨wr.heap.size, 0, none⟩ 1 1 [.int .u8 s[k].toNat] rfl rfl (by intro j u hj; match j, hj with | 0, hj => simp at hj; subst hj; simp [Addr.add]) (by intro u hu; simp at hu; subst hu; rfl) (by unfold maxLen; omega) (by omega) (by simp; omega) ?_; intro v' w2 hown' hgrow _; have HG1 : Hid (Below w.heap.size w w2) := (hb.alloc hbs _).grown hgrow (by simp; omega) (fun k hk => (hown.lt k hk).1); have HG2 : Hid (w2.ownsRow w.heap.size 5 1 v' (escAt s (k + 1)).length (Lib.byteCells (escAt s (k + 1)))) := (by unfold Hid; rw [HQ.out]; simpa [Lib.byteCells, hll] using hown'); clear hown' hgrow hown hb) | (go_at_call 68; refine (HB2.out _).mono ?_; rintro e w' ⟨rfl, rfl⟩))
          go_roundw
          case rel => exact ⟨k + 1, by omega, by go_num, by rw [HA1.out]; simp, by assumption, by assumption⟩
          case measure => simp [intOf]; omega
        | false =>
          have g1 : ((s[k].toNat : Int) == 39) = false := by simp; omega
          clear hc
          go_wp2_with (at_builtin; refine wpList_append_own _ rfl _ _ 25 rfl w.heap.size 5 i0 (.int .u8 0) 1 1 Tryz.underlying25 hi hz0 hz1 hz2 rfl (by decide) _ _ _ rfl (hown.alloc _) ⟨wr.heap.size, 0, none⟩ 1 1 [.int .u8 s[k].toNat] rfl rfl (by intro j u hj; match j, hj with | 0, hj => simp at hj; subst hj; simp [Addr.add]) (by intro u hu; simp at hu; subst hu; rfl) (by unfold maxLen; omega) (by omega) (by simp; omega) ?_; intro v' w2 hown' hgrow _; have HG1 : Hid (Below w.heap.size w w2) := (hb.alloc hbs _).grown hgrow (by simp; omega) (fun k hk => (hown.lt k hk).1); have HG2 : Hid (w2.ownsRow w.heap.size 5 1 v' (escAt s (k + 1)).length (Lib.byteCells (escAt s (k + 1)))) := (by unfold Hid; rw [HQ.out]; simpa [Lib.byteCells, hll] using hown'); clear hown' hgrow hown hb)
          go_roundw
          case rel => exact ⟨k + 1, by omega, by go_num, by rw [HA1.out]; simp, by assumption, by assumption⟩
          case measure => simp [intOf]; omega
    · obtain rfl : k = s.size := by omega
      have e2 : escAt s s.size = (bl s).flatMap K.esc := by unfold escAt; rw [take_all]
      rw [e2] at hown hel
      have hAe := allAt_end s
      cases hA : allAt s s.size with
      | true =>
        have HE : Hid (s = z) := by rw [HZ.out, hAe.1 hA, ba_bl]; rfl
        clear hown e2 hel hAe hA
        go_wp2
        go_ret
        exact ⟨ret_str HE.out, hb⟩
      | false =>
        obtain ⟨y, hy⟩ : ∃ y, y = ba ((bl s).flatMap K.esc) := ⟨_, rfl⟩
        have hcv : (convert 25 9 u4).run Tryz.prog wr = .ok (.string y) wr := by rw [hy]; exact run_conv hown
        obtain ⟨q1, ea, eb⟩ := quote_adds y z (by rw [hy, ba_size]; omega) (by
          rw [HZ.out, hy, hAe.2 hA]
          apply bl_inj
          rw [bl_app, bl_app, bl_ba, bl_ba, bl_one])
        obtain ⟨a, cap, hv⟩ := bytes_slice hown
        subst hv
        obtain ⟨m, hm⟩ : ∃ m, m = ((bl s).flatMap K.esc).length := ⟨_, rfl⟩
        rw [← hm] at hcv ⊢
        clear hown e2 hel hAe hA hy hm
        go_wp2
        go_ret
        exact ⟨rfl, hb⟩
def jnAt (l : List ByteArray) (k : Nat) : List UInt8 := K.joinB ((told (l.take k)).map bl)
theorem joinB_snoc (L : List (List UInt8)) (y : List UInt8) : K.joinB (L ++ [y]) = if L = [] then y else K.joinB L ++ [32] ++ y := by
  induction L with
  | nil => simp [K.joinB]
  | cons x t ih =>
    rw [if_neg (by simp)]
    cases t with
    | nil => simp [K.joinB]
    | cons z t =>
      rw [if_neg (by simp)] at ih
      rw [List.cons_append, List.cons_append, K.joinB_cons2, ← List.cons_append, ih, K.joinB_cons2]
      simp
theorem joinB_le (L M : List (List UInt8)) : (K.joinB L).length ≤ (K.joinB (L ++ M)).length := by
  induction L with
  | nil => simp [K.joinB]
  | cons x t ih =>
    cases t with
    | nil =>
      cases M with
      | nil => simp
      | cons z M => rw [List.cons_append, List.nil_append, K.joinB_cons2]; simp [K.joinB]
    | cons z t =>
      rw [List.cons_append, List.cons_append, K.joinB_cons2, K.joinB_cons2]
      rw [List.cons_append] at ih
      simp at ih ⊢; omega
theorem joinB_nil {L : List (List UInt8)} (h : ∀ x ∈ L, x ≠ []) : K.joinB L = [] ↔ L = [] := by
  cases L with
  | nil => simp [K.joinB]
  | cons x t =>
    have hx := h x (by simp)
    cases t with
    | nil => simp [K.joinB, hx]
    | cons y t => rw [K.joinB_cons2]; simp
theorem told_ne (l : List ByteArray) : ∀ x ∈ (told l).map bl, x ≠ [] := by
  intro x hx
  obtain ⟨y, hy, rfl⟩ := List.mem_map.1 hx
  have := (List.mem_filter.1 hy).2
  unfold neE at this
  rw [decide_eq_true_eq] at this
  exact fun e => this (bl_E.1 e)
theorem jnAt_le (l : List ByteArray) (k : Nat) : (jnAt l k).length ≤ (joined l).size := by
  unfold jnAt joined
  rw [ba_size]
  have e : told l = told (l.take k) ++ told (l.drop k) := by
    unfold told; rw [← List.filter_append, List.take_append_drop]
  rw [e, List.map_append]
  exact joinB_le _ _
theorem jnAt_skip (l : List ByteArray) (k : Nat) (h : k < l.length) (hE : l[k] = E) : jnAt l (k + 1) = jnAt l k := by
  unfold jnAt; rw [told_snoc l k h]; simp [neE, hE]
theorem jnAt_add (l : List ByteArray) (k : Nat) (h : k < l.length) (hE : l[k] ≠ E) : jnAt l (k + 1) = if jnAt l k = [] then bl l[k] else jnAt l k ++ [32] ++ bl l[k] := by
  have hn := joinB_nil (told_ne (l.take k))
  unfold jnAt
  rw [told_snoc l k h]
  have : neE l[k] = true := by unfold neE; simpa using hE
  rw [if_pos this, List.map_append, List.map_singleton, joinB_snoc]
  by_cases h0 : (told (l.take k)).map bl = []
  · rw [if_pos h0, if_pos (hn.2 h0)]
  · rw [if_neg h0, if_neg (fun e => h0 (hn.1 e))]
theorem strCells_bytes (x : ByteArray) : Lib.strCells x = Lib.byteCells (bl x) := by
  unfold Lib.strCells Lib.byteCells bl; rfl
theorem row_join {w : World} {base m : Nat} {v : Value} {y : List UInt8} {x : ByteArray} (h : w.ownsRow base 5 1 v (m + 1 + x.size) (Lib.byteCells (y ++ [32]) ++ Lib.strCells x)) (hll : y.length = m) : w.ownsRow base 5 1 v (y ++ [32] ++ bl x).length (Lib.byteCells (y ++ [32] ++ bl x)) := by
  have e1 : (y ++ [32] ++ bl x).length = m + 1 + x.size := by simp [bl_length, hll]; omega
  have e2 : Lib.byteCells (y ++ [32] ++ bl x) = Lib.byteCells (y ++ [32]) ++ Lib.strCells x := by rw [strCells_bytes]; simp [Lib.byteCells]
  rw [e1, e2]; exact h
set_option maxHeartbeats 1600000 in
set_option maxRecDepth 20000 in
theorem rjoin_any (a : Option Addr) (n c : Nat) (l : List ByteArray) (w : World) (hl : n ≤ 2000000) (hjs : (joined l).size ≤ 8000000) (hw : Words w.heap.size w (.slice a n c) l) :
    Calls Tryz.prog 33 #[.slice a n c] w fun e w' => e = .returned (.string (joined l)) ∧ Below w.heap.size w w' := by
  obtain ⟨i0, hi, hz0, hz1, hz2⟩ := info_of info5
  have HW : Hid (n = l.length ∧ Words w.heap.size w (.slice a n c) l) := ⟨hw.len, hw⟩
  obtain ⟨j, hj⟩ : ∃ j, j = joined l := ⟨_, rfl⟩
  have HJ : Hid (j = joined l) := hj
  have HJl : Hid (∀ k, (jnAt l k).length ≤ j.size) := fun k => by rw [hj]; exact jnAt_le l k
  rw [← hj] at hjs ⊢
  clear hw hj
  go_enter Tryz.func33, Tryz.ntmps33
  go_wp2
  go_loopw [3, 4] (fun v vi wr => ∃ k : Nat, k ≤ n ∧ vi = .int .i64 k ∧ wr.ownsRow w.heap.size 5 1 v (jnAt l k).length (Lib.byteCells (jnAt l k)) ∧ Below w.heap.size w wr)
    (fun _ vi _ => n - (intOf vi).toNat)
  case atStart => exact ⟨0, Nat.zero_le _, rfl, World.ownsRow_nil _ _ _ _, Below.refl _ _⟩
  case round =>
    obtain ⟨k, hk, rfl, hown, hb⟩ := hrel
    have hbs := hb.size
    by_cases hlt : k < n
    · have hkl : k < l.length := by rw [← HW.out.1]; exact hlt
      have hil : (k : Int) < (n : Int) := by omega
      have hjl := HJl.out k
      have hjl1 := HJl.out (k + 1)
      obtain ⟨b, o, rfl, hbB, hcx0⟩ := HW.out.2.pick k hkl
      have f1 := jnAt_skip l k hkl
      have f2 := jnAt_add l k hkl
      obtain ⟨x, hxe⟩ : ∃ x, x = l[k] := ⟨_, rfl⟩
      rw [← hxe] at f1 f2 hcx0
      have hcx : wr.cell? ⟨b, o + k, none⟩ = some (.string x) := by rw [hb.cell (p := ⟨b, o + k, none⟩) hbB]; exact hcx0
      clear hxe hcx0
      by_cases hxE : x = E
      · have HF2 : Hid (jnAt l (k + 1) = jnAt l k) := f1 hxE
        subst hxE
        clear f1 f2 hjl hjl1
        go_wp2
        go_roundw
        case rel => exact ⟨k + 1, by omega, by go_num, by rw [HF2.out]; exact hown, hb⟩
        case measure => simp [intOf]; omega
      · have t1 : ¬ x.toList = [] := by rw [Lib.toList_data]; exact fun e => hxE (bl_E.1 e)
        have t1' : x.toList.isEmpty = false := by simpa using t1
        have f3 := f2 hxE
        clear f1 f2 hxE
        obtain ⟨y, hy⟩ : ∃ y, y = jnAt l k := ⟨_, rfl⟩
        rw [← hy] at f3 hown hjl
        clear hy
        obtain ⟨m, hll⟩ : ∃ m, y.length = m := ⟨_, rfl⟩
        rw [hll] at hown hjl
        have hx1 := bl_length x
        by_cases hy0 : y = []
        · rw [if_pos hy0] at f3
          have hm0 : m = 0 := by rw [← hll, hy0]; rfl
          subst hm0
          have HF : Hid (y = [] ∧ jnAt l (k + 1) = bl x) := ⟨hy0, f3⟩
          have hxs : x.size ≤ j.size := by rw [f3, hx1] at hjl1; exact hjl1
          obtain ⟨a0, cap0, hv0⟩ := bytes_slice hown
          subst hv0
          clear f3 hy0 hjl1 hx1 hll
          go_wp2_with (at_builtin; refine Lib.wpList_append_own_string _ rfl _ _ 25 9 rfl w.heap.size 5 i0 Tryz.underlying25 Tryz.underlying9 hi hz0 hz1 hz2 _ _ _ rfl hown x rfl (by unfold maxLen; omega) (by omega) hbs ?_; intro v' w2 hown' hgrow _; have HG1 : Hid (Below w.heap.size w w2) := hb.grown hgrow hbs (fun k hk => (hown.lt k hk).1); have HG2 : Hid (w2.ownsRow w.heap.size 5 1 v' (jnAt l (k + 1)).length (Lib.byteCells (jnAt l (k + 1)))) := (by unfold Hid; rw [HF.out.2, bl_length]; rw [HF.out.1, strCells_bytes] at hown'; simpa [Lib.byteCells] using hown'); clear hown' hgrow hown hb)
          go_roundw
          case rel => exact ⟨k + 1, by omega, by go_num, by assumption, by assumption⟩
          case measure => simp [intOf]; omega
        · rw [if_neg hy0] at f3
          have hm0 : 0 < m := by rw [← hll]; exact List.length_pos_iff.2 hy0
          have HF : Hid (jnAt l (k + 1) = y ++ [32] ++ bl x) := f3
          have hxs : m + 1 + x.size ≤ j.size := by rw [f3] at hjl1; simp at hjl1; omega
          have hmi : (0 : Int) < m := by omega
          obtain ⟨a0, cap0, hv0⟩ := bytes_slice hown
          subst hv0
          clear f3 hy0 hjl1 hx1
          go_wp2_with (at_builtin; refine wpList_append_own _ rfl (.tmp 19) (.tmp 20) 25 rfl w.heap.size 5 i0 (.int .u8 0) 1 1 Tryz.underlying25 hi hz0 hz1 hz2 rfl (by decide) _ _ _ rfl (hown.alloc _) ⟨wr.heap.size, 0, none⟩ 1 1 [.int .u8 32] rfl rfl ?c1 ?c2 ?c3 ?c4 ?c5 ?_)
          case c1 =>
            intro j u hj
            match j, hj with
            | 0, hj => simp at hj; subst hj; simp [Addr.add]
          case c2 => intro u hu; simp at hu; subst hu; rfl
          case c3 => unfold maxLen; omega
          case c4 => omega
          case c5 => simp; omega
          intro v' w2 hown' hgrow _
          have hb2 : Below w.heap.size w w2 := (hb.alloc hbs _).grown hgrow (by simp; omega) (fun k hk => (hown.lt k hk).1)
          have hcx2 : w2.cell? ⟨b, o + k, none⟩ = some (.string x) := by
            have h1 := hb.cell (p := ⟨b, o + k, none⟩) hbB
            rw [hb2.cell (p := ⟨b, o + k, none⟩) hbB, ← h1]; exact hcx
          have hbs2 := hb2.size
          have hown2 : w2.ownsRow w.heap.size 5 1 v' (m + 1) (Lib.byteCells (y ++ [32])) := by simpa [Lib.byteCells] using hown'
          obtain ⟨a2, cap2, hv2⟩ := bytes_slice hown2
          subst hv2
          clear hgrow hown hb hcx hown'
          go_wp2_with (at_builtin; refine Lib.wpList_append_own_string _ rfl _ _ 25 9 rfl w.heap.size 5 i0 Tryz.underlying25 Tryz.underlying9 hi hz0 hz1 hz2 _ _ _ rfl hown2 x rfl (by unfold maxLen; omega) (by omega) hbs2 ?_; intro v3 w3 hown3 hgrow3 _; have HG1 : Hid (Below w.heap.size w w3) := hb2.grown hgrow3 hbs2 (fun k hk => (hown2.lt k hk).1); have HG2 : Hid (w3.ownsRow w.heap.size 5 1 v3 (jnAt l (k + 1)).length (Lib.byteCells (jnAt l (k + 1)))) := (by unfold Hid; rw [HF.out]; exact row_join hown3 hll); clear hown3 hgrow3 hown2 hb2)
          go_roundw
          case rel => exact ⟨k + 1, by omega, by go_num, by assumption, by assumption⟩
          case measure => simp [intOf]; omega
    · obtain rfl : k = n := by omega
      have e2 : jnAt l k = K.joinB ((told l).map bl) := by unfold jnAt; rw [HW.out.1, List.take_length]
      have hcv : (convert 25 9 u3).run Tryz.prog wr = .ok (.string j) wr := by
        rw [e2] at hown
        rw [HJ.out]; exact run_conv hown
      obtain ⟨m, hm⟩ : ∃ m, m = (jnAt l k).length := ⟨_, rfl⟩
      rw [← hm] at hown
      obtain ⟨a0, cap0, hv0⟩ := bytes_slice hown
      subst hv0
      clear hown e2 hm
      go_wp2
      go_ret
      exact ⟨rfl, hb⟩
end Go.Proofs.YtpcpcfnmcfjomaaGreatDoor.DQ
