/-
  What the document's Blank, bare and kinds answer.
-/
import Derived.Test.YtanboocibmjomaaDoorNext
import Derived.Maps.AppendAt
import Derived.Lib.BufferRead
namespace Go.Proofs.YtanboocibmjomaaDoor
open Go.RowKit Go.Shelf

theorem isB_iff (c : UInt8) : K.isB c = true ↔ c.toNat = 32 ∨ c.toNat = 9 := by
  have e1 : c = 32 ↔ c.toNat = 32 := u8_eq_iff c 32
  have e2 : c = 9 ↔ c.toNat = 9 := u8_eq_iff c 9
  unfold K.isB
  simp only [Bool.or_eq_true, beq_iff_eq, e1, e2]
set_option maxHeartbeats 400000 in
theorem rblank_any (c : UInt8) (w : World) :
    Calls Tryd.prog 36 #[.int .u8 c.toNat] w fun e w' => e = .returned (.bool (K.isB c)) ∧ w = w' := by
  have HI : Hid (K.isB c = true ↔ c.toNat = 32 ∨ c.toNat = 9) := isB_iff c
  go_enter Tryd.func36, Tryd.ntmps36
  go_wp2
  all_goals go_ret
  all_goals refine ⟨ret_bool ?_, rfl⟩
  all_goals (rw [Bool.eq_iff_iff, HI.out]; simp; omega)

/-- What each byte is, by a letter: b a blank that parts, q a quote, s a stroke that takes, p plain. -/
def letter (r : K.Rd) (c : UInt8) : UInt8 :=
  if r.t = true then 112
  else if c = 92 ∧ r.q ≠ 39 then 115
  else if r.q ≠ 0 ∧ c = r.q then 113
  else if r.q = 0 ∧ (c = 39 ∨ c = 34) then 113
  else if r.q = 0 ∧ K.isB c = true then 98
  else 112
def letters : K.Rd → List UInt8 → List UInt8
  | _, [] => []
  | r, c :: t => letter r c :: letters (r.step c) t
theorem letters_append (r : K.Rd) (x y : List UInt8) : letters r (x ++ y) = letters r x ++ letters (x.foldl K.Rd.step r) y := by
  induction x generalizing r with
  | nil => rfl
  | cons c t ih => simp only [List.cons_append, letters, List.foldl_cons, ih]
theorem letters_length (r : K.Rd) (l : List UInt8) : (letters r l).length = l.length := by
  induction l generalizing r with
  | nil => rfl
  | cons c t ih => simp [letters, ih]
/-- The cases of a byte, as the document's own function goes through them. -/
theorem letter_facts (q c : UInt8) :
    (c.toNat = 92 ∧ q.toNat ≠ 39 ∧ letter ⟨q, false⟩ c = 115 ∧ (K.Rd.mk q false).step c = ⟨q, true⟩) ∨
    ((c.toNat ≠ 92 ∨ q.toNat = 39) ∧ q.toNat ≠ 0 ∧ c.toNat = q.toNat ∧ letter ⟨q, false⟩ c = 113 ∧ (K.Rd.mk q false).step c = ⟨0, false⟩) ∨
    (q.toNat = 0 ∧ (c.toNat = 39 ∨ c.toNat = 34) ∧ letter ⟨q, false⟩ c = 113 ∧ (K.Rd.mk q false).step c = ⟨c, false⟩) ∨
    (c.toNat ≠ 92 ∧ q.toNat = 0 ∧ c.toNat ≠ 39 ∧ c.toNat ≠ 34 ∧ K.isB c = true ∧ letter ⟨q, false⟩ c = 98 ∧ (K.Rd.mk q false).step c = ⟨q, false⟩) ∨
    (c.toNat ≠ 92 ∧ q.toNat = 0 ∧ c.toNat ≠ 39 ∧ c.toNat ≠ 34 ∧ K.isB c = false ∧ letter ⟨q, false⟩ c = 112 ∧ (K.Rd.mk q false).step c = ⟨q, false⟩) ∨
    ((c.toNat ≠ 92 ∨ q.toNat = 39) ∧ q.toNat ≠ 0 ∧ c.toNat ≠ q.toNat ∧ letter ⟨q, false⟩ c = 112 ∧ (K.Rd.mk q false).step c = ⟨q, false⟩) := by
  unfold letter K.Rd.step
  have e1 : c = 92 ↔ c.toNat = 92 := u8_eq_iff c 92
  have e2 : q = 39 ↔ q.toNat = 39 := u8_eq_iff q 39
  have e3 : q = 0 ↔ q.toNat = 0 := u8_eq_iff q 0
  have e4 : c = 39 ↔ c.toNat = 39 := u8_eq_iff c 39
  have e5 : c = 34 ↔ c.toNat = 34 := u8_eq_iff c 34
  have e6 : c = q ↔ c.toNat = q.toNat := u8_eq_iff c q
  simp only [Bool.false_eq_true, if_false, ne_eq, e1, e2, e3, e4, e5, e6]
  by_cases h1 : c.toNat = 92 ∧ ¬ q.toNat = 39
  · left; simp [h1]
  · right
    by_cases hq : q.toNat = 0
    · have hn : ¬ (¬ q.toNat = 0 ∧ c.toNat = q.toNat) := by omega
      right
      by_cases h2 : c.toNat = 39 ∨ c.toNat = 34
      · left
        refine ⟨hq, h2, ?_, ?_⟩
        · rw [if_neg h1, if_neg hn, if_pos ⟨hq, h2⟩]
        · rw [if_neg h1, if_pos ⟨hq, h2⟩]
      · right
        have h2n : ¬ (q.toNat = 0 ∧ (c.toNat = 39 ∨ c.toNat = 34)) := by omega
        cases hb : K.isB c with
        | true =>
          left
          refine ⟨by omega, hq, by omega, by omega, rfl, ?_, ?_⟩
          · rw [if_neg h1, if_neg hn, if_neg h2n, if_pos ⟨hq, rfl⟩]
          · rw [if_neg h1, if_neg h2n, if_pos hq]
        | false =>
          right; left
          refine ⟨by omega, hq, by omega, by omega, rfl, ?_, ?_⟩
          · rw [if_neg h1, if_neg hn, if_neg h2n, if_neg (by simp)]
          · rw [if_neg h1, if_neg h2n, if_pos hq]
    · have h2n : ¬ (q.toNat = 0 ∧ (c.toNat = 39 ∨ c.toNat = 34)) := by omega
      by_cases h4 : c.toNat = q.toNat
      · left
        refine ⟨by omega, hq, h4, ?_, ?_⟩
        · rw [if_neg h1, if_pos ⟨hq, h4⟩]
        · rw [if_neg h1, if_neg h2n, if_neg hq, if_pos h4]
      · right; right; right; right
        refine ⟨by omega, hq, h4, ?_, ?_⟩
        · rw [if_neg h1, if_neg (by omega), if_neg h2n, if_neg (by omega)]
        · rw [if_neg h1, if_neg h2n, if_neg hq, if_neg h4]
theorem letter_both (r : K.Rd) (c : UInt8) : ((letter r c = 98) ↔ r.blank c = true) ∧ ((letter r c = 112 ∨ letter r c = 98) ↔ ¬ r.kind c = 2) := by
  obtain ⟨q, t⟩ := r
  cases t with
  | true => exact ⟨by simp [letter, K.Rd.blank, K.Rd.kind], by simp [letter, K.Rd.kind]⟩
  | false =>
    unfold K.Rd.blank
    rcases letter_facts q c with ⟨_, _, hl, _⟩ | ⟨_, _, _, hl, _⟩ | ⟨_, _, hl, _⟩ | ⟨_, _, _, _, hb, hl, _⟩ | ⟨_, _, _, _, hb, hl, _⟩ | ⟨_, _, _, hl, _⟩
    all_goals (rcases rd_facts q c with ⟨_, _, hk, _⟩ | ⟨_, _, hk, _⟩ | ⟨_, _, _, _, hk, _⟩ | ⟨_, _, _, hk, _⟩ | ⟨_, _, _, hk, _⟩)
    all_goals first
      | (exfalso; omega)
      | (rw [hl, hk, hb]; decide)
      | (rw [hl, hk]; simp)
end Go.Proofs.YtanboocibmjomaaDoor
