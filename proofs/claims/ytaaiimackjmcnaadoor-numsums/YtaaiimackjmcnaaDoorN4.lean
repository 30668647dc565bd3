/-
  What unsigned, based, madeOf and Parse do.
-/
import Derived.Test.YtaaiimackjmcnaaDoorN3
import Derived.Shelf.Strings.SlTrimAscii
namespace Go.Proofs.YtaaiimackjmcnaaDoor.N
open Go.RowKit Go.Shelf

theorem pre1 (l : List UInt8) (c : UInt8) : Lib.hasPrefix l [c] = (match l with | [] => false | a :: _ => a == c) := by
  unfold Lib.hasPrefix
  cases l with
  | nil => simp
  | cons a t => simp [List.isPrefixOf, Bool.beq_comm]
theorem trim1 (l : List UInt8) (c : UInt8) : Lib.trimPrefix l [c] = (match l with | [] => [] | a :: t => if a = c then t else a :: t) := by
  unfold Lib.trimPrefix
  rw [pre1]
  cases l with
  | nil => simp
  | cons a t => by_cases h : a = c <;> simp [h]

set_option maxHeartbeats 400000 in
theorem unsigned_any (s : ByteArray) (w : World) :
    Calls Tryd.prog 21 #[.string s] w fun e w' => e = .returned (.tuple #[.string (ba (signL (bl s)).1), .bool (signL (bl s)).2]) ∧ w = w' := by
  have HC : Hid (Calls Tryd.prog 32 #[.string s, .string ⟨#[45]⟩] w fun e w' => e = .returned (.tuple #[.string (ba (Lib.trimPrefix (bl s) [45])), .bool (Lib.hasPrefix (bl s) [45])]) ∧ w = w') :=
    (Tryd.strings_CutPrefix s ⟨#[45]⟩ w).mono fun e w' h => ⟨h.1, h.2.symm⟩
  have HT : Hid (Calls Tryd.prog 33 #[.string s, .string ⟨#[43]⟩] w fun e w' => e = .returned (.string (ba (Lib.trimPrefix (bl s) [43]))) ∧ w = w') :=
    (Tryd.strings_TrimPrefix s ⟨#[43]⟩ w).mono fun e w' h => ⟨h.1, h.2.symm⟩
  by_cases h : Lib.hasPrefix (bl s) [45] = true
  · have HR : Hid ((signL (bl s)).1 = Lib.trimPrefix (bl s) [45] ∧ (signL (bl s)).2 = true) := by
      unfold Hid
      rw [trim1]
      rw [pre1] at h
      unfold signL
      cases hb : bl s with
      | nil => rw [hb] at h; simp at h
      | cons a t => rw [hb] at h; simp at h; simp [h]
    rw [h] at HC
    clear h HT
    go_enter Tryd.func21, Tryd.ntmps21
    go_wp2_with fail
    refine HC.out.mono ?_
    rintro e w' ⟨rfl, rfl⟩
    go_wp2
    go_ret2
    refine ⟨?_, rfl⟩
    rw [HR.out.1, HR.out.2]
    rfl
  · have h' : Lib.hasPrefix (bl s) [45] = false := by simpa using h
    have HR : Hid ((signL (bl s)).1 = Lib.trimPrefix (bl s) [43] ∧ (signL (bl s)).2 = false) := by
      unfold Hid
      rw [trim1]
      rw [pre1] at h'
      unfold signL
      cases hb : bl s with
      | nil => simp
      | cons a t =>
        rw [hb] at h'
        have h45 : ¬ a = 45 := by simpa using h'
        by_cases h43 : a = 43
        · simp [h43]
        · simp [h45, h43]
    rw [h'] at HC
    clear h h'
    go_enter Tryd.func21, Tryd.ntmps21
    go_wp2_with fail
    refine HC.out.mono ?_
    rintro e w' ⟨rfl, rfl⟩
    go_wp2_with fail
    refine HT.out.mono ?_
    rintro e w' ⟨rfl, rfl⟩
    go_wp2
    go_ret2
    refine ⟨?_, rfl⟩
    rw [HR.out.1, HR.out.2]
    rfl

theorem pre2 (l : List UInt8) (c d : UInt8) : Lib.hasPrefix l [c, d] = (match l with | a :: b :: _ => a == c && b == d | _ => false) := by
  unfold Lib.hasPrefix
  match l with
  | [] => simp
  | [a] => simp [List.isPrefixOf]
  | a :: b :: t => simp [List.isPrefixOf, Bool.beq_comm]
theorem hex_pre (l : List UInt8) : hexL l = (Lib.hasPrefix l [48, 120] || Lib.hasPrefix l [48, 88]) := by
  rw [pre2, pre2]
  unfold hexL
  match l with
  | [] => rfl
  | [a] => rfl
  | a :: b :: t => exact Bool.and_or_distrib_left _ _ _
theorem hex_len {l : List UInt8} (h : hexL l = true) : 2 ≤ l.length := by
  unfold hexL at h
  match l with
  | [] => simp at h
  | [a] => simp at h
  | a :: b :: t => simp

def setOf (b : Nat) : ByteArray := if b = 16 then ⟨#[48, 49, 50, 51, 52, 53, 54, 55, 56, 57, 97, 98, 99, 100, 101, 102, 65, 66, 67, 68, 69, 70]⟩ else ⟨#[48, 49, 50, 51, 52, 53, 54, 55, 56, 57]⟩

set_option maxHeartbeats 400000 in
theorem based_any (s : ByteArray) (w : World) :
    Calls Tryd.prog 22 #[.string s] w fun e w' => e = .returned (.tuple #[.string (ba (baseL (bl s)).1), .string (setOf (baseL (bl s)).2), .int .i64 ((baseL (bl s)).2 : Int)]) ∧ w = w' := by
  have HA : Hid (Calls Tryd.prog 34 #[.string s, .string ⟨#[48, 120]⟩] w fun e w' => e = .returned (.bool (Lib.hasPrefix (bl s) [48, 120])) ∧ w = w') :=
    (Tryd.strings_HasPrefix s ⟨#[48, 120]⟩ w).mono fun e w' h => ⟨h.1, h.2.symm⟩
  have HB : Hid (Calls Tryd.prog 34 #[.string s, .string ⟨#[48, 88]⟩] w fun e w' => e = .returned (.bool (Lib.hasPrefix (bl s) [48, 88])) ∧ w = w') :=
    (Tryd.strings_HasPrefix s ⟨#[48, 88]⟩ w).mono fun e w' h => ⟨h.1, h.2.symm⟩
  have HX := hex_pre (bl s)
  have HR1 : Hid (hexL (bl s) = true → 2 ≤ s.size ∧ baseL (bl s) = (bl (s.extract 2 s.size), 16)) := by
    intro h
    have := hex_len h
    rw [bl_length] at this
    refine ⟨this, ?_⟩
    unfold baseL
    rw [if_pos h, bl_extract, List.take_of_length_le (by rw [bl_length]; exact Nat.le_refl _)]
  have HR2 : Hid (hexL (bl s) = false → baseL (bl s) = (bl s, 10)) := by
    intro h
    unfold baseL
    rw [if_neg (by rw [h]; decide)]
  cases ha : Lib.hasPrefix (bl s) [48, 120]
  · rw [ha] at HA
    cases hb : Lib.hasPrefix (bl s) [48, 88]
    · rw [hb] at HB
      have hR := HR2 (by rw [HX, ha, hb]; rfl)
      have HRR : Hid (baseL (bl s) = (bl s, 10)) := hR
      clear HX HR1 HR2 ha hb hR
      go_enter Tryd.func22, Tryd.ntmps22
      go_wp2_with fail
      refine HA.out.mono ?_
      rintro e w' ⟨rfl, rfl⟩
      go_wp2_with fail
      refine HB.out.mono ?_
      rintro e w' ⟨rfl, rfl⟩
      go_wp2
      refine bodyPost_ret (by simp [results, Tryd.results22, go_sem]; try rfl) rfl ?_
      refine ⟨?_, rfl⟩
      rw [HRR.out]
      dsimp only
      rw [ba_bl]
      rfl
    · rw [hb] at HB
      obtain ⟨h2, hR⟩ := HR1 (by rw [HX, ha, hb]; rfl)
      have HRR : Hid (baseL (bl s) = (bl (s.extract 2 s.size), 16)) := hR
      clear HX HR1 HR2 ha hb hR
      go_enter Tryd.func22, Tryd.ntmps22
      go_wp2_with fail
      refine HA.out.mono ?_
      rintro e w' ⟨rfl, rfl⟩
      go_wp2_with fail
      refine HB.out.mono ?_
      rintro e w' ⟨rfl, rfl⟩
      go_wp2
      refine bodyPost_ret (by simp [results, Tryd.results22, go_sem]; try rfl) rfl ?_
      refine ⟨?_, rfl⟩
      rw [HRR.out]
      dsimp only
      rw [ba_bl]
      rfl
  · rw [ha] at HA
    obtain ⟨h2, hR⟩ := HR1 (by rw [HX, ha]; rfl)
    have HRR : Hid (baseL (bl s) = (bl (s.extract 2 s.size), 16)) := hR
    clear HX HR1 HR2 ha hR
    go_enter Tryd.func22, Tryd.ntmps22
    go_wp2_with (go_at_call 34; refine HA.out.mono ?_; rintro e w' ⟨rfl, rfl⟩)
    refine bodyPost_ret (by simp [results, Tryd.results22, go_sem]; try rfl) rfl ?_
    refine ⟨?_, rfl⟩
    rw [HRR.out]
    dsimp only
    rw [ba_bl]
    rfl

theorem set_len (b : Nat) : (setOf b).size < 4294967281 := by
  unfold setOf; split <;> decide
theorem set_ascii (b : Nat) : ∀ (j : Nat) c, (setOf b).data.toList[j]? = some c → c.toNat < 128 := by
  unfold setOf; split <;> exact ascii_of_all (by decide)
theorem set_dec (b : Nat) (hb : b = 10 ∨ b = 16) (l : List UInt8) : l.all (fun c => (setOf b).data.toList.contains c) = l.all (fun c => decide (val1 c < b)) := by
  congr 1
  funext c
  rcases hb with rfl | rfl
  · exact dec_has c
  · exact hex_has c

theorem base_two (l : List UInt8) : (baseL l).2 = 10 ∨ (baseL l).2 = 16 := by
  unfold baseL; split <;> simp

set_option maxHeartbeats 400000 in
theorem madeOf_any (s : ByteArray) (b : Nat) (hb : b = 10 ∨ b = 16) (w : World) :
    Calls Tryd.prog 23 #[.string s, .string (setOf b)] w fun e w' => e = .returned (.bool (okD b (bl s))) ∧ Below w.heap.size w w' := by
  have HT : Hid (Calls Tryd.prog 35 #[.string s, .string (setOf b)] w fun e w' => e = .returned (.string (ba (Lib.trimLeftS (bl s) (setOf b).data.toList))) ∧ Below w.heap.size w w') :=
    (Any.strings_TrimLeft_laid Tryd.lays161 (by kernel_rfl) s (setOf b) w (set_len b) (set_ascii b)).mono fun e w' h => h
  generalize hS : setOf b = S at HT
  by_cases hne : bl s = []
  · have hs : s = ⟨#[]⟩ := bl_inj (by rw [hne]; rfl)
    subst hs
    clear HT
    go_enter Tryd.func23, Tryd.ntmps23
    go_wp2
    go_ret
    exact ⟨rfl, Below.refl _ _⟩
  · have hemp : s.toList.isEmpty = false := nonempty hne
    have hemp2 : ¬ s.toList = [] := by intro e; rw [e] at hemp; simp at hemp
    cases hk : okD b (bl s)
    · have h1 : ¬ Lib.trimLeftS (bl s) S.data.toList = [] := by
        rw [trim_all, ← hS, set_dec b hb]
        unfold okD at hk
        cases hh : bl s with
        | nil => exact absurd hh hne
        | cons a t => rw [hh] at hk; simpa using hk
      have h2 : (ba (Lib.trimLeftS (bl s) S.data.toList)).toList.isEmpty = false := nonempty (by rw [bl_ba]; exact h1)
      have h3 : ¬ (ba (Lib.trimLeftS (bl s) S.data.toList)).toList = [] := by intro e; rw [e] at h2; simp at h2
      generalize ba (Lib.trimLeftS (bl s) S.data.toList) = x at HT h2 h3
      clear h1 hk hS hne
      go_enter Tryd.func23, Tryd.ntmps23
      go_wp2_with (go_at_call 35; refine HT.out.mono ?_; rintro e w' ⟨rfl, hw⟩)
      go_ret
      exact ⟨rfl, hw⟩
    · have h1 : Lib.trimLeftS (bl s) S.data.toList = [] := by
        rw [trim_all, ← hS, set_dec b hb]
        unfold okD at hk
        rw [Bool.and_eq_true] at hk
        exact hk.2
      rw [h1, show ba [] = ⟨#[]⟩ from rfl] at HT
      clear h1 hk hS hne
      go_enter Tryd.func23, Tryd.ntmps23
      go_wp2_with (go_at_call 35; refine HT.out.mono ?_; rintro e w' ⟨rfl, hw⟩)
      go_ret
      exact ⟨rfl, hw⟩
end Go.Proofs.YtaaiimackjmcnaaDoor.N
