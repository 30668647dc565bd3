/-
  Two stores that have the same files, room and clock answer every call alike, and have them again behind it: what they note makes no odds.
-/
import Derived.Test.YtoibdokedhbjpaaTwo
namespace Go.Proofs.Ytoibdokedhbjpaa

structure St.Like (s c : St) : Prop where
  room : s.room = c.room
  now : s.now = c.now
  L : s.L = c.L
theorem Like.note {s c : St} (h : s.Like c) (k : Int) (q : ByteArray) : (s.note k q).Like (c.note k q) :=
  ⟨by rw [note_room, note_room, h.room], by rw [note_now, note_now, h.now], by rw [note_L, note_L, h.L]⟩
theorem Like.text {s c : St} (h : s.Like c) (q : ByteArray) : s.text q = c.text q := by unfold St.text; rw [h.L]
theorem Like.home {s c : St} (h : s.Like c) (q : ByteArray) : s.home q = c.home q := by unfold St.home; rw [h.L]
theorem Like.mayPut {s c : St} (h : s.Like c) (q : ByteArray) (n : Nat) : s.mayPut q n = c.mayPut q n := by
  unfold St.mayPut; rw [Like.home h, h.L, h.room]
theorem Like.kids {s c : St} (h : s.Like c) (q : ByteArray) : s.kids q = c.kids q := by unfold St.kids; rw [h.L]
theorem Like.mayMove {s c : St} (h : s.Like c) (a t : ByteArray) : s.mayMove a t = c.mayMove a t := by
  unfold St.mayMove; rw [Like.home h, h.L]
theorem Like.set {s c : St} (h : s.Like c) (L L' : Fs) (hL : L = L') : ({ s with now := s.now + 1, L := L } : St).Like { c with now := c.now + 1, L := L' } :=
  ⟨h.room, by show s.now + 1 = c.now + 1; rw [h.now], hL⟩
theorem Like.put {s c : St} (h : s.Like c) (q x : ByteArray) : (s.put q x).2 = (c.put q x).2 ∧ (s.put q x).1.Like (c.put q x).1 := by
  unfold St.put
  rw [Like.mayPut h]
  split
  · exact ⟨rfl, h⟩
  · exact ⟨rfl, Like.note (Like.set h _ _ (by rw [h.L, h.now])) 2 q⟩
theorem Like.all {s c : St} (h : s.Like c) : s.all = c.all := by unfold St.all; rw [h.L]
theorem Like.act {s c : St} (h : s.Like c) (a : Act) : (s.act a).2 = (c.act a).2 ∧ (s.act a).1.Like (c.act a).1 := by
  unfold St.act
  split
  · unfold St.write
    split
    · exact ⟨rfl, h⟩
    · exact Like.put h _ _
  split
  · unfold St.append
    split
    · exact ⟨rfl, h⟩
    · rw [Like.text h]; exact Like.put h _ _
  split
  · unfold St.read
    split
    · exact ⟨rfl, h⟩
    · rw [h.L]
      split
      · exact ⟨rfl, h⟩
      · split
        · exact ⟨rfl, h⟩
        · exact ⟨rfl, Like.note h 1 _⟩
  split
  · unfold St.remove
    split
    · exact ⟨rfl, h⟩
    · rw [h.L]
      split
      · exact ⟨rfl, h⟩
      · rw [Like.kids h]
        split
        · exact ⟨rfl, h⟩
        · dsimp only
          split
          · exact ⟨rfl, Like.set h _ _ rfl⟩
          · exact ⟨rfl, Like.note (Like.set h _ _ rfl) 3 _⟩
  split
  · unfold St.move
    split
    · exact ⟨rfl, h⟩
    · split
      · exact ⟨rfl, h⟩
      · rw [Like.mayMove h]
        split
        · exact ⟨rfl, h⟩
        · split
          · exact ⟨rfl, ⟨h.room, by show s.now + 1 = c.now + 1; rw [h.now], h.L⟩⟩
          · exact ⟨rfl, Like.note (Like.note (Like.set h _ _ (by rw [h.L, h.now, Like.text h])) 3 _) 2 _⟩
  split
  · unfold St.mkdir
    split
    · exact ⟨rfl, h⟩
    · rw [h.L, Like.home h]
      split
      · exact ⟨rfl, h⟩
      · split
        · exact ⟨rfl, h⟩
        · split
          · exact ⟨rfl, h⟩
          · exact ⟨rfl, Like.set h _ _ (by rw [h.now])⟩
  split
  · unfold St.touch
    split
    · exact ⟨rfl, h⟩
    · rw [h.L]
      split
      · exact ⟨rfl, Like.set h _ _ (by rw [h.now])⟩
      · rw [Like.text h]; exact Like.put h _ _
  split
  · refine ⟨rfl, ?_⟩
    dsimp only
    unfold St.later
    rw [h.now]
    split
    · exact h
    · exact ⟨h.room, rfl, h.L⟩
  split
  · exact ⟨rfl, ⟨h.room, h.now, h.L⟩⟩
  · refine ⟨?_, h⟩
    show (s.list a.p).2 = (c.list a.p).2
    unfold St.list
    split
    · rfl
    · rw [h.L]
      split
      · rfl
      · split <;> rfl
theorem Like.run {s c : St} (h : s.Like c) (l : List Act) : (s.run l).Like (c.run l) := by
  induction l generalizing s c with
  | nil => exact h
  | cons a l ih => exact ih (Like.act h a).2
theorem like_copy (s : St) : s.Like s.copy := ⟨rfl, rfl, rfl⟩
end Go.Proofs.Ytoibdokedhbjpaa
