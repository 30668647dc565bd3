/-
  Scripts: whether one is too long, and how far the clock goes on.
-/
import Derived.Test.YtoibdokedhbjpaaGreatDoes
import Derived.Test.YtoibdokedhbjpaaGreatAlive
namespace Go.Proofs.YtoibdokedhbjpaaGreat
open Go.RowKit Go.Shelf Go.Maps

def farA (a : Act) : Bool := decide (3000 < a.p.size) || decide (3000 < a.q.size)
def longL (l : List Act) : Bool := l.any farA || decide (600 < l.length)

theorem acts_here {B : Nat} {W W' : World} {a : Option Addr} {n c : Nat} {l : List Act} (h : Acts B W (.slice a n c) l) (hb : Below B W W') (i : Nat) (hi : i < l.length) :
    ∃ b o, a = some ⟨b, o, none⟩ ∧ W'.cell? ⟨b, o + i * 5, none⟩ = some (.int .u8 l[i].kind) ∧ W'.cell? ⟨b, o + i * 5 + 1, none⟩ = some (.string l[i].p) ∧ W'.cell? ⟨b, o + i * 5 + 2, none⟩ = some (.string l[i].q) ∧
      W'.cell? ⟨b, o + i * 5 + 3, none⟩ = some (.string l[i].t) ∧ W'.cell? ⟨b, o + i * 5 + 4, none⟩ = some (.int .i64 l[i].n) := by
  obtain ⟨b, o, e1, _, e2⟩ := (h.below hb).pick i hi
  exact ⟨b, o, e1, e2⟩

set_option maxRecDepth 20000 in
set_option maxHeartbeats 1000000 in
theorem long_any (a : Option Addr) (n c B : Nat) (l : List Act) (w : World) (hB : B ≤ w.heap.size) (hn : n ≤ 140737488355328) (hw : Acts B w (.slice a n c) l) :
    Calls Tryz.prog 7 #[.slice a n c] w fun e w' => e = .returned (.bool (longL l)) ∧ Below w.heap.size w w' := by
  have HW : Hid (n = l.length ∧ Acts B w (.slice a n c) l) := ⟨hw.len, hw⟩
  clear hw
  go_enter Tryz.func7, Tryz.ntmps7
  go_wp2
  go_loopw [7] (fun vi wr => ∃ k : Nat, k ≤ n ∧ vi = .int .i64 k ∧ (l.take k).any farA = false ∧ Below w.heap.size w wr)
    (fun vi _ => n - (intOf vi).toNat)
  case atStart => exact ⟨0, Nat.zero_le _, rfl, rfl, Below.refl _ _⟩
  case round =>
    obtain ⟨k, hk, rfl, hok, hb⟩ := hrel
    by_cases hlt : k < n
    · have hkl : k < l.length := by rw [← HW.out.1]; exact hlt
      have hil : (k : Int) < (n : Int) := by omega
      obtain ⟨g, o, rfl, x0, x1, x2, x3, x4⟩ := acts_here HW.out.2 (hb.mono hB) k hkl
      obtain ⟨x, hxe⟩ : ∃ x, x = l[k] := ⟨_, rfl⟩
      rw [← hxe] at x0 x1 x2 x3 x4
      have HX : Hid (x = l[k]) := hxe
      obtain ⟨kd, p, q, t, nn⟩ := x
      simp only at x0 x1 x2 x3 x4
      clear hxe
      by_cases h1 : 3000 < p.size
      · have HL : Hid (longL l = true) := by
          unfold Hid longL
          have : l.any farA = true := List.any_eq_true.2 ⟨_, List.getElem_mem hkl, by rw [← HX.out]; simp [farA, h1]⟩
          rw [this]; rfl
        have h1i : (3000 : Int) < (p.size : Int) := by omega
        go_wp2
        go_ret
        exact ⟨ret_bool HL.out.symm, hb.alloc hb.size _⟩
      · have h1i : ¬ (3000 : Int) < (p.size : Int) := by omega
        by_cases h2 : 3000 < q.size
        · have HL : Hid (longL l = true) := by
            unfold Hid longL
            have : l.any farA = true := List.any_eq_true.2 ⟨_, List.getElem_mem hkl, by rw [← HX.out]; simp [farA, h2]⟩
            rw [this]; rfl
          have h2i : (3000 : Int) < (q.size : Int) := by omega
          go_wp2
          go_ret
          exact ⟨ret_bool HL.out.symm, hb.alloc hb.size _⟩
        · have h2i : ¬ (3000 : Int) < (q.size : Int) := by omega
          have HF : Hid ((l.take (k + 1)).any farA = false) := by
            unfold Hid
            rw [List.take_succ_eq_append_getElem hkl, List.any_append, hok, ← HX.out]
            simp [farA]; omega
          have HB2 : Hid (∀ o, Below w.heap.size w (wr.alloc o)) := fun o => hb.alloc hb.size o
          clear hok HX
          go_wp2
          go_roundw
          case rel => exact ⟨k + 1, by omega, by go_num, HF.out, HB2.out _⟩
          case measure => simp [intOf]; omega
    · obtain rfl : k = n := by omega
      have HL : Hid (longL l = decide (600 < k)) := by
        have := hok
        rw [HW.out.1, List.take_length] at this
        unfold Hid longL; rw [this, HW.out.1]; rfl
      clear hok
      by_cases h6 : 600 < k
      · have h6i : (600 : Int) < (k : Int) := by omega
        go_wp2
        go_ret
        exact ⟨ret_bool (by rw [HL.out]; simp [h6]), hb⟩
      · have h6i : ¬ (600 : Int) < (k : Int) := by omega
        go_wp2
        go_ret
        exact ⟨ret_bool (by rw [HL.out]; simp [h6]), hb⟩

theorem longL_no {l : List Act} (h : longL l = false) : l.length ≤ 600 ∧ ∀ x ∈ l, x.p.size ≤ 3000 ∧ x.q.size ≤ 3000 := by
  unfold longL at h
  rw [Bool.or_eq_false_iff] at h
  refine ⟨by have := h.2; simp at this; omega, fun x hx => ?_⟩
  have h1 := List.any_eq_false.1 h.1 x hx
  simp [farA] at h1
  omega

/-! The clock. -/
theorem note_now (s : St) (k : Int) (q : ByteArray) : (s.note k q).now = s.now := by unfold St.note; split <;> rfl
theorem note_L (s : St) (k : Int) (q : ByteArray) : (s.note k q).L = s.L := by unfold St.note; split <;> rfl
theorem note_room (s : St) (k : Int) (q : ByteArray) : (s.note k q).room = s.room := by unfold St.note; split <;> rfl
theorem note_noting (s : St) (k : Int) (q : ByteArray) : (s.note k q).noting = s.noting := by unfold St.note; split <;> rfl

/-- What a call does to the clock and to what is there: it is refused and nothing turns; or the clock goes on by one; or it writes nothing. -/
theorem put_cases (s : St) (q x : ByteArray) : ((s.put q x).1 = s ∧ (s.put q x).2 ≠ 0) ∨ ((s.put q x).2 = 0 ∧ s.mayPut q x.size = 0 ∧ (s.put q x).1 = St.note { s with now := s.now + 1, L := s.L.set q ⟨x, s.now + 1, false⟩ } 2 q) := by
  unfold St.put
  split
  · rename_i h; exact .inl ⟨rfl, h⟩
  · rename_i h; exact .inr ⟨rfl, by simpa using h, rfl⟩
theorem put_now (s : St) (q x : ByteArray) : (s.put q x).1.now = s.now ∨ (s.put q x).1.now = s.now + 1 := by
  rcases put_cases s q x with ⟨h, _⟩ | ⟨_, _, h⟩
  · left; rw [h]
  · right; rw [h, note_now]
theorem act_now (s : St) (a : Act) : s.now ≤ (s.act a).1.now ∧ (s.act a).1.now ≤ s.now + 1099511627776 := by
  unfold St.act
  split
  · unfold St.write
    split
    · exact ⟨Int.le_refl _, by show s.now ≤ _; omega⟩
    · rename_i q _; rcases put_now s q a.t with h | h <;> rw [h] <;> omega
  split
  · unfold St.append
    split
    · exact ⟨Int.le_refl _, by show s.now ≤ _; omega⟩
    · rename_i q _; rcases put_now s q (s.text q ++ a.t) with h | h <;> rw [h] <;> omega
  split
  · unfold St.read
    split
    · exact ⟨Int.le_refl _, by show s.now ≤ _; omega⟩
    · split
      · exact ⟨Int.le_refl _, by show s.now ≤ _; omega⟩
      · split
        · exact ⟨Int.le_refl _, by show s.now ≤ _; omega⟩
        · dsimp only; rw [note_now]; omega
  split
  · unfold St.remove
    split
    · exact ⟨Int.le_refl _, by show s.now ≤ _; omega⟩
    · split
      · exact ⟨Int.le_refl _, by show s.now ≤ _; omega⟩
      · split
        · exact ⟨Int.le_refl _, by show s.now ≤ _; omega⟩
        · dsimp only
          split
          · dsimp only; omega
          · rw [note_now]; dsimp only; omega
  split
  · unfold St.move
    split
    · exact ⟨Int.le_refl _, by show s.now ≤ _; omega⟩
    · split
      · exact ⟨Int.le_refl _, by show s.now ≤ _; omega⟩
      · split
        · exact ⟨Int.le_refl _, by show s.now ≤ _; omega⟩
        · split
          · dsimp only; omega
          · dsimp only; rw [note_now, note_now]; dsimp only; omega
  split
  · unfold St.mkdir
    split
    · exact ⟨Int.le_refl _, by show s.now ≤ _; omega⟩
    · split
      · exact ⟨Int.le_refl _, by show s.now ≤ _; omega⟩
      · split
        · exact ⟨Int.le_refl _, by show s.now ≤ _; omega⟩
        · split
          · exact ⟨Int.le_refl _, by show s.now ≤ _; omega⟩
          · dsimp only; omega
  split
  · unfold St.touch
    split
    · exact ⟨Int.le_refl _, by show s.now ≤ _; omega⟩
    · split
      · dsimp only; omega
      · rename_i q _ _; rcases put_now s q (s.text q) with h | h <;> rw [h] <;> omega
  split
  · dsimp only
    unfold St.later
    split
    · omega
    · dsimp only; omega
  split
  · exact ⟨Int.le_refl _, by show s.now ≤ _; omega⟩
  · exact ⟨Int.le_refl _, by show s.now ≤ _; omega⟩

def St.run (s : St) (l : List Act) : St := l.foldl (fun s a => (s.act a).1) s
theorem run_succ (s : St) (l : List Act) (k : Nat) (h : k < l.length) : s.run (l.take (k + 1)) = ((s.run (l.take k)).act l[k]).1 := by
  unfold St.run; rw [List.take_succ_eq_append_getElem h, List.foldl_append]; rfl
theorem run_now (s : St) (l : List Act) : s.now ≤ (s.run l).now ∧ (s.run l).now ≤ s.now + l.length * 1099511627776 := by
  induction l generalizing s with
  | nil => exact ⟨Int.le_refl _, by show s.now ≤ _; simp⟩
  | cons a l ih =>
    have h1 := act_now s a
    have h2 := ih (s.act a).1
    show s.now ≤ (St.run (s.act a).1 l).now ∧ (St.run (s.act a).1 l).now ≤ s.now + ((l.length + 1 : Nat) : Int) * 1099511627776
    rw [Int.natCast_add, Int.add_mul]
    omega
end Go.Proofs.YtoibdokedhbjpaaGreat
