/-
  Short paths; a list of texts beside the two stores; what is read in a row.
-/
import Derived.Test.YtoibdokedhbjpaaGreatP17
namespace Go.Proofs.YtoibdokedhbjpaaGreat
open Go.RowKit Go.Shelf Go.Maps

def Short (L : Fs) : Prop := ∀ x ∈ L, x.1.size ≤ 3001
theorem wh_short {p q : ByteArray} (h : wh p = some q) (hp : p.size ≤ 3000) : q.size ≤ 3001 := by
  have := (wh_some h).1; rw [this]; have := cl_size p; omega
theorem Short.set {L : Fs} (h : Short L) {q : ByteArray} (hq : q.size ≤ 3001) (e : Ent) : Short (L.set q e) := fun x hx => by
  rcases Fs.mem_set hx with rfl | hx
  · exact hq
  · exact h x hx
theorem Short.del {L : Fs} (h : Short L) (q : ByteArray) : Short (L.del q) := fun x hx => h x (Fs.mem_del hx).1
theorem short_put {s : St} (h : Short s.L) {q : ByteArray} (hq : q.size ≤ 3001) (x : ByteArray) : Short (s.put q x).1.L := by
  rcases put_cases s q x with ⟨e, _⟩ | ⟨_, _, e⟩
  · rw [e]; exact h
  · rw [e, note_L]; exact h.set hq _
theorem short_act {s : St} (h : Short s.L) (a : Act) (hp : a.p.size ≤ 3000) (hq : a.q.size ≤ 3000) : Short (s.act a).1.L := by
  unfold St.act
  split
  · unfold St.write
    cases hw : wh a.p with
    | none => exact h
    | some q => exact short_put h (wh_short hw hp) _
  split
  · unfold St.append
    cases hw : wh a.p with
    | none => exact h
    | some q => exact short_put h (wh_short hw hp) _
  split
  · unfold St.read
    cases wh a.p with
    | none => exact h
    | some q =>
      dsimp only
      cases s.L.look q with
      | none => exact h
      | some o =>
        dsimp only
        split
        · exact h
        · rw [note_L]; exact h
  split
  · unfold St.remove
    cases wh a.p with
    | none => exact h
    | some q =>
      dsimp only
      cases s.L.look q with
      | none => exact h
      | some o =>
        dsimp only
        split
        · exact h
        · split
          · exact h.del q
          · rw [note_L]; exact h.del q
  split
  · unfold St.move
    cases wh a.p with
    | none => exact h
    | some f =>
      dsimp only
      cases hw : wh a.q with
      | none => exact h
      | some t =>
        dsimp only
        split
        · exact h
        · split
          · exact h
          · rw [note_L, note_L]; exact (h.set (wh_short hw hq) _).del f
  split
  · unfold St.mkdir
    cases hw : wh a.p with
    | none => exact h
    | some q =>
      dsimp only
      split
      · exact h
      · split
        · exact h
        · split
          · exact h
          · exact h.set (wh_short hw hp) _
  split
  · unfold St.touch
    cases hw : wh a.p with
    | none => exact h
    | some q =>
      dsimp only
      split
      · exact h.set (wh_short hw hp) _
      · exact short_put h (wh_short hw hp) _
  split
  · unfold St.later; split <;> exact h
  split
  · exact h
  · exact h
theorem short_new (room : Int) : Short (St.new room).L := fun x hx => by
  have e : x = (topB, ⟨E, 0, true⟩) := by simpa [St.new] using hx
  subst e; decide

/-! What is read in a row. -/
def rd (s : St) (ps : List ByteArray) : St := ps.foldl (fun s p => (s.read p).1) s
theorem read_L (s : St) (p : ByteArray) : (s.read p).1.L = s.L := by
  unfold St.read
  cases wh p with
  | none => rfl
  | some q =>
    dsimp only
    cases s.L.look q with
    | none => rfl
    | some o =>
      dsimp only
      split
      · rfl
      · rw [note_L]
theorem rd_L (s : St) (ps : List ByteArray) : (rd s ps).L = s.L := by
  induction ps generalizing s with
  | nil => rfl
  | cons p t ih =>
    have e : rd s (p :: t) = rd (s.read p).1 t := rfl
    rw [e, ih, read_L]
theorem rd_next (s : St) (l : List ByteArray) (k : Nat) (h : k < l.length) : rd s (l.take (k + 1)) = ((rd s (l.take k)).read l[k]).1 := by
  unfold rd
  rw [List.take_succ_eq_append_getElem h, List.foldl_append]; rfl
theorem rd_step {s : St} (ok : s.Ok) (hs : Short s.L) (k : Nat) (hk : k < s.all.length) : ∃ tx, (rd s (s.all.take k)).read s.all[k] = (rd s (s.all.take (k + 1)), tx, 0) ∧ s.all[k].size ≤ 3001 := by
  obtain ⟨e, he, hd⟩ := all_mem (List.getElem_mem hk)
  have hw := (ok.path _ he).1
  have hl : (rd s (s.all.take k)).L.look s.all[k] = some e := by rw [rd_L]; exact Fs.mem_look ok.uniq he
  have hr := read_file hw hl hd
  have h1 : (rd s (s.all.take (k + 1))) = ((rd s (s.all.take k)).note 1 s.all[k]) := by rw [rd_next s s.all k hk, hr]
  exact ⟨e.text, by rw [h1]; exact hr, hs _ he⟩

/-! A list of texts beside the stores. -/
structure PW (base b m br : Nat) (w0 : World) (u : Value) (us : List ByteArray) (s r : St) (w : World) : Prop where
  pr : PR base b m br w0 s r w
  row : Told base w u us
section
variable {base b m br : Nat} {w0 : World} {u : Value} {us : List ByteArray} {s r : St} {w w' : World}
theorem words_left {v vL vN v1 : Value} (h : Pair base b m br v vL vN s r w) (ht : Turn b m v v1 w w') (hk : Told base w u us) : Told base w' u us := by
  refine row_keep hk fun g hg hlt => ?_
  obtain ⟨cur, hc⟩ := row_type hk hg
  refine ht.block g hlt (fun e => ?_) (fun e => ?_) (fun e => ?_)
  · have := h.st.blk; rw [← e, hc] at this; simp at this
  · obtain ⟨es, clock, hx⟩ := h.st.map.isMap; rw [← e, hc] at hx; cases hx
  · obtain ⟨cur2, hc2⟩ := row_type h.st.row e; rw [hc] at hc2; simp at hc2
theorem words_right {v vL vN : Value} (h : Pair base b m br v vL vN s r w) (ht : RTurn br w w') (hk : Told base w u us) : Told base w' u us := by
  refine row_keep hk fun g hg hlt => ?_
  obtain ⟨cur, hc⟩ := row_type hk hg
  refine ht.block g hlt (fun e => ?_)
  have := h.rs.blk; rw [← e, hc] at this; simp at this
theorem PW.vread (h : PW base b m br w0 u us s r w) (p : ByteArray) (hp : p.size ≤ 1050000) {s' : St} {tx : ByteArray} {z : Int} (he : s.read p = (s', tx, z)) :
    Calls Tryz.prog 23 #[ptr b, .string p] w fun e w' => e = .returned (.tuple #[.string tx, .int .i64 z]) ∧ PW base b m br w0 u us s' r w' := by
  obtain ⟨⟨v, vL, vN, h1, h2⟩, hk⟩ := h
  refine (read_any p w h1.st (by omega)).mono ?_
  rintro e w' ⟨rfl, v', hs, htn⟩
  rw [he] at hs
  exact ⟨by rw [he]; rfl, ⟨v', vL, vN, h1.left hs htn, h2.trans (h1.st.low htn)⟩, words_left h1 htn hk⟩
theorem PW.rread (h : PW base b m br w0 u us s r w) (p : ByteArray) (hl : r.L.length ≤ 1000) (hn : r.notes.length ≤ 4096) (hp : p.size ≤ 1050000) {r' : St} {tx : ByteArray} {z : Int} (he : r.read p = (r', tx, z)) :
    Calls Tryz.prog 24 #[rptr br, .string p] w fun e w' => e = .returned (.tuple #[.string tx, .int .i64 z]) ∧ PW base b m br w0 u us s r' w' := by
  obtain ⟨⟨v, vL, vN, h1, h2⟩, hk⟩ := h
  refine (rread_any p w h1.rs hl hn hp).mono ?_
  rintro e w' ⟨rfl, vN', hs, htn, hf⟩
  rw [he] at hs
  exact ⟨by rw [he]; rfl, ⟨v, vL, vN', h1.right hs htn hf, h2.trans (h1.rs.low htn)⟩, words_right h1 htn hk⟩
/-- The notes of both, in a row, and whether they are the same. -/
theorem PR.notes3 (h : PR base b m br w0 s s w) (f : Bool) :
    Calls Tryz.prog 9 #[ptr b, .bool f] w fun e w' => ∃ u, e = .returned u ∧
      Hid (∀ w1, Below w'.heap.size w' w1 → Calls Tryz.prog 10 #[rptr br, .bool f] w1 fun e w'' => ∃ u2, e = .returned u2 ∧
        Hid (∀ w3, Below w''.heap.size w'' w3 → Calls Tryz.prog 8 #[u, u2] w3 fun e w4 => e = .returned (.bool true) ∧ Below base w0 w4)) := by
  obtain ⟨v, vL, vN, h1, h2⟩ := h
  have hno := h1.st.ok.note
  refine (notes_any f w h1.st).mono ?_
  rintro e w' ⟨rfl, hs, hrow, htn⟩
  have h3 := h1.left hs htn
  have h4 := h2.trans (h1.st.low htn)
  refine ⟨v, rfl, fun w1 hB => ?_⟩
  have h3' := h3.below hB
  have h4' := h4.trans (hB.mono h3.sized)
  refine (rnotes_any f w1 h3'.rs).mono ?_
  rintro e w'' ⟨rfl, hs2, hrow2, htn2⟩
  have hrow' : w''.ownsRow base 74 2 v s.notes.length (notesV s.notes) := row_keep (owns_below hrow hB) fun g hg hlt => htn2.block g hlt (fun e => h1.nv (e ▸ hg))
  have h5 := h4'.trans (h3'.rs.low htn2)
  have hsz : base ≤ w''.heap.size := hs2.sized
  refine ⟨vN, rfl, fun w3 hB3 => ?_⟩
  have h6 := h5.trans (hB3.mono hsz)
  refine (touches_any s.notes v vN base base w3 (by omega) (owns_below hrow' hB3) (owns_below hrow2 hB3)).mono ?_
  rintro e w4 ⟨rfl, hB4⟩
  exact ⟨rfl, h6.trans (hB4.mono (Nat.le_trans hsz hB3.size))⟩
theorem PR.vlist (h : PR base b m br w0 s r w) (p : ByteArray) (hp : p.size ≤ 1050000) :
    Calls Tryz.prog 18 #[ptr b, .string p] w fun e w' => ∃ u, e = .returned (.tuple #[u, .int .i64 (s.list p).2]) ∧ Told w.heap.size w' u (s.list p).1 ∧ Below w.heap.size w w' := by
  obtain ⟨v, vL, vN, h1, h2⟩ := h
  exact list_any p w h1.st (by omega)
theorem PR.rlist (h : PR base b m br w0 s r w) (p : ByteArray) (hp : p.size ≤ 1050000) (hl : r.L.length ≤ 1000) (hpath : ∀ x ∈ r.L, x.1.size ≤ 1100000) :
    Calls Tryz.prog 19 #[rptr br, .string p] w fun e w' => ∃ u, e = .returned (.tuple #[u, .int .i64 (r.list p).2]) ∧ Told w.heap.size w' u (r.list p).1 ∧ Below w.heap.size w w' := by
  obtain ⟨v, vL, vN, h1, h2⟩ := h
  exact rlist_any p w h1.rs hl hp hpath
theorem PR.vall (h : PR base b m br w0 s r w) :
    Calls Tryz.prog 21 #[ptr b] w fun e w' => ∃ u, e = .returned u ∧ Told w.heap.size w' u s.all ∧ Below w.heap.size w w' := by
  obtain ⟨v, vL, vN, h1, h2⟩ := h
  exact all_any w h1.st
theorem PR.rall (h : PR base b m br w0 s r w) (hl : r.L.length ≤ 1000) :
    Calls Tryz.prog 22 #[rptr br] w fun e w' => ∃ u, e = .returned u ∧ Told w.heap.size w' u r.all ∧ Below w.heap.size w w' := by
  obtain ⟨v, vL, vN, h1, h2⟩ := h
  exact rall_any w h1.rs hl
theorem list_len {s : St} (hl : s.L.length ≤ 1000) (p : ByteArray) : (s.list p).1.length ≤ 1000 := by
  unfold St.list
  cases wh p with
  | none => simp
  | some q =>
    dsimp only
    cases s.L.look q with
    | none => simp
    | some o =>
      dsimp only
      split
      · rw [sorted_len]; unfold St.kids; rw [List.length_map]; exact Nat.le_trans (List.length_filter_le _ _) hl
      · simp
end
end Go.Proofs.YtoibdokedhbjpaaGreat
