/-
  Every entry lies in a directory that is there: kept by every call.
-/
import Derived.Test.YtoibdokedhbjpaaGreatP13
import Derived.Test.YtoibdokedhbjpaaGreatScript
namespace Go.Proofs.YtoibdokedhbjpaaGreat
open Go.RowKit Go.Shelf Go.Maps

structure TreeL (L : Fs) : Prop where
  home : ∀ x ∈ L, ∃ d, L.look (dirB x.1) = some d ∧ d.dir = true
  text : ∀ x ∈ L, x.2.dir = true → x.2.text = E
  top : L ≠ []
theorem home_zero {s : St} {q : ByteArray} : s.home q = 0 ↔ ∃ d, s.L.look (dirB q) = some d ∧ d.dir = true := by
  unfold St.home
  cases h : s.L.look (dirB q) with
  | none => simp
  | some d =>
    cases hd : d.dir with
    | true => simp [hd]
    | false => simp [hd]
theorem tree_iff {s : St} : Tree s ↔ TreeL s.L :=
  ⟨fun h => ⟨fun x hx => home_zero.1 (h.home x hx), h.text, h.top⟩, fun h => ⟨fun x hx => home_zero.2 (h.home x hx), h.text, h.top⟩⟩
theorem set_ne (L : Fs) (q : ByteArray) (e : Ent) : L.set q e ≠ [] := by
  cases L with
  | nil => simp [Fs.set]
  | cons x t => unfold Fs.set; split <;> simp
/-- A file is put where no directory is. -/
theorem TreeL.put {L : Fs} (h : TreeL L) {q : ByteArray} (x : ByteArray) (t : Int) (hd : L.isDir q = false) (hh : ∃ d, L.look (dirB q) = some d ∧ d.dir = true) : TreeL (L.set q ⟨x, t, false⟩) := by
  have hn : ∀ p d, L.look p = some d → d.dir = true → p ≠ q := fun p d h1 h2 e => by
    subst e
    rw [isDir_some h1, h2] at hd; cases hd
  refine ⟨fun y hy => ?_, fun y hy hyd => ?_, set_ne _ _ _⟩
  · have : ∃ d, L.look (dirB y.1) = some d ∧ d.dir = true := by
      rcases Fs.mem_set hy with rfl | hy
      · exact hh
      · exact h.home y hy
    obtain ⟨d, h1, h2⟩ := this
    exact ⟨d, by rw [Fs.look_set_other _ _ _ _ (hn _ _ h1 h2)]; exact h1, h2⟩
  · rcases Fs.mem_set hy with rfl | hy
    · cases hyd
    · exact h.text y hy hyd
/-- A directory is made, or touched. -/
theorem TreeL.made {L : Fs} (h : TreeL L) {q : ByteArray} (t : Int) (hh : ∃ d, L.look (dirB q) = some d ∧ d.dir = true) : TreeL (L.set q ⟨E, t, true⟩) := by
  refine ⟨fun y hy => ?_, fun y hy hyd => ?_, set_ne _ _ _⟩
  · have : ∃ d, L.look (dirB y.1) = some d ∧ d.dir = true := by
      rcases Fs.mem_set hy with rfl | hy
      · exact hh
      · exact h.home y hy
    obtain ⟨d, h1, h2⟩ := this
    by_cases e : dirB y.1 = q
    · exact ⟨_, by rw [e]; exact Fs.look_set_same _ _ _, rfl⟩
    · exact ⟨d, by rw [Fs.look_set_other _ _ _ _ e]; exact h1, h2⟩
  · rcases Fs.mem_set hy with rfl | hy
    · rfl
    · exact h.text y hy hyd
/-- What is no entry's directory goes. -/
theorem TreeL.cut {L : Fs} (h : TreeL L) {q : ByteArray} (hq : ∀ y ∈ L, y.1 ≠ q → dirB y.1 ≠ q) (hne : L.del q ≠ []) : TreeL (L.del q) := by
  refine ⟨fun y hy => ?_, fun y hy hyd => h.text y (Fs.mem_del hy).1 hyd, hne⟩
  obtain ⟨d, h1, h2⟩ := h.home y (Fs.mem_del hy).1
  exact ⟨d, by rw [Fs.look_del_other _ _ _ (hq y (Fs.mem_del hy).1 (Fs.mem_del hy).2)]; exact h1, h2⟩
theorem del_ne {L : Fs} {q p : ByteArray} {d : Ent} (h : L.look p = some d) (hp : p ≠ q) : L.del q ≠ [] := fun e => by
  have := Fs.look_del_other L q p hp
  rw [e, h] at this; cases this
theorem may_zero {s : St} {q : ByteArray} {n : Nat} (h : s.mayPut q n = 0) : s.home q = 0 ∧ s.L.isDir q = false := by
  unfold St.mayPut at h
  by_cases h0 : s.home q = 0
  · refine ⟨h0, ?_⟩
    rw [h0, if_neg (by simp)] at h
    cases hl : s.L.look q with
    | none => exact isDir_none hl
    | some o =>
      rw [hl] at h; dsimp only at h
      rw [isDir_some hl]
      cases hd : o.dir with
      | false => rfl
      | true => rw [hd, if_pos rfl] at h; cases h
  · rw [if_pos h0] at h; exact absurd h h0
theorem tree_put {s : St} (h : TreeL s.L) (q x : ByteArray) : TreeL (s.put q x).1.L := by
  rcases put_cases s q x with ⟨e, _⟩ | ⟨_, hm, e⟩
  · rw [e]; exact h
  · rw [e, note_L]
    obtain ⟨h1, h2⟩ := may_zero hm
    exact h.put x _ h2 (home_zero.1 h1)
theorem tree_write {s : St} (h : TreeL s.L) (p x : ByteArray) : TreeL (s.write p x).1.L := by
  unfold St.write
  cases wh p with
  | none => exact h
  | some q => exact tree_put h q x
theorem tree_append {s : St} (h : TreeL s.L) (p x : ByteArray) : TreeL (s.append p x).1.L := by
  unfold St.append
  cases wh p with
  | none => exact h
  | some q => exact tree_put h q _
theorem tree_touch {s : St} (h : TreeL s.L) (p : ByteArray) : TreeL (s.touch p).1.L := by
  unfold St.touch
  cases wh p with
  | none => exact h
  | some q =>
    dsimp only
    split
    · rename_i hd
      refine h.made _ ?_
      unfold Fs.isDir at hd
      cases hl : s.L.look q with
      | none => rw [hl] at hd; cases hd
      | some o => exact h.home _ (Fs.look_mem hl)
    · exact tree_put h q _
theorem tree_mkdir {s : St} (h : TreeL s.L) (p : ByteArray) : TreeL (s.mkdir p).1.L := by
  unfold St.mkdir
  cases wh p with
  | none => exact h
  | some q =>
    dsimp only
    split
    · exact h
    · split
      · exact h
      · rename_i h0
        split
        · exact h
        · exact h.made _ (home_zero.1 (by simpa using h0))
theorem tree_remove {s : St} (h : TreeL s.L) (p : ByteArray) : TreeL (s.remove p).1.L := by
  unfold St.remove
  cases wh p with
  | none => exact h
  | some q =>
    dsimp only
    cases hl : s.L.look q with
    | none => exact h
    | some o =>
      dsimp only
      split
      · exact h
      · rename_i hc
        have hqt : q ≠ topB := fun e => hc (.inl e)
        have hk : o.dir = true → s.kids q = [] := fun hd => by
          cases hkk : s.kids q with
          | nil => rfl
          | cons a t => exact absurd (.inr ⟨hd, by rw [hkk]; simp⟩) hc
        have hno : ∀ y ∈ s.L, y.1 ≠ topB → dirB y.1 ≠ q := fun y hy hyt e => by
          obtain ⟨d, h1, h2⟩ := h.home y hy
          rw [e, hl] at h1
          cases h1
          have hm : nameB y.1 ∈ s.kids q := by
            unfold St.kids
            exact List.mem_map.2 ⟨y, List.mem_filter.2 ⟨hy, by unfold St.inDir; simp [hyt, e]⟩, rfl⟩
          rw [hk h2] at hm; cases hm
        have hT : TreeL (s.L.del q) := by
          refine h.cut (fun y hy hyq e => ?_) ?_
          · by_cases hyt : y.1 = topB
            · rw [hyt, top_dir] at e; exact hqt e.symm
            · exact hno y hy hyt e
          · obtain ⟨d, h1, h2⟩ := h.home _ (Fs.look_mem hl)
            exact del_ne h1 (hno _ (Fs.look_mem hl) hqt)
        split
        · exact hT
        · rw [note_L]; exact hT
theorem tree_move {s : St} (h : TreeL s.L) (f t : ByteArray) : TreeL (s.move f t).1.L := by
  unfold St.move
  cases wh f with
  | none => exact h
  | some a =>
    dsimp only
    cases wh t with
    | none => exact h
    | some c =>
      dsimp only
      split
      · exact h
      · rename_i hm
        split
        · exact h
        · rename_i hac
          have hm0 : s.mayMove a c = 0 := by simpa using hm
          unfold St.mayMove at hm0
          cases hl : s.L.look a with
          | none => rw [hl] at hm0; cases hm0
          | some o =>
            rw [hl] at hm0; dsimp only at hm0
            split at hm0
            · cases hm0
            · split at hm0
              · cases hm0
              · rename_i hd
                have hd1 : o.dir = false := by cases e : o.dir <;> simp_all
                have hd2 : s.L.isDir c = false := by cases e : s.L.isDir c <;> simp_all
                rw [note_L, note_L]
                dsimp only
                have h1 := h.put (q := c) (s.text a) (s.now + 1) hd2 (home_zero.1 hm0)
                refine h1.cut (fun y hy hya e => ?_) (del_ne (Fs.look_set_same _ _ _) (Ne.symm hac))
                obtain ⟨d, k1, k2⟩ := h1.home y hy
                rw [e, Fs.look_set_other _ _ _ _ hac, hl] at k1
                cases k1
                rw [hd1] at k2; cases k2
theorem tree_act {s : St} (h : Tree s) (a : Act) : Tree (s.act a).1 := by
  have h := tree_iff.1 h
  refine tree_iff.2 ?_
  unfold St.act
  split
  · exact tree_write h _ _
  split
  · exact tree_append h _ _
  split
  · unfold St.read
    cases wh a.p with
    | none => exact h
    | some q =>
      dsimp only
      cases s.L.look q with
      | none => exact h
      | some o =>
        dsimp only
        split
        · exact h
        · rw [note_L]; exact h
  split
  · exact tree_remove h _
  split
  · exact tree_move h _ _
  split
  · exact tree_mkdir h _
  split
  · exact tree_touch h _
  split
  · unfold St.later; split <;> exact h
  split
  · exact h
  · exact h
theorem tree_new (room : Int) : Tree (St.new room) := by
  refine tree_iff.2 ⟨fun x hx => ?_, fun x hx _ => ?_, by simp [St.new]⟩
  · have e : x = (topB, ⟨E, 0, true⟩) := by simpa [St.new] using hx
    subst e
    exact ⟨⟨E, 0, true⟩, by rw [top_dir]; simp [St.new, Fs.look_cons], rfl⟩
  · have e : x = (topB, ⟨E, 0, true⟩) := by simpa [St.new] using hx
    subst e; rfl
end Go.Proofs.YtoibdokedhbjpaaGreat
