/-
  What a call notes, in plain terms.
-/
import Derived.Test.YtoibdokedhbjpabRound
namespace Go.Proofs.Ytoibdokedhbjpab
open Go.RowKit Go.Shelf Go.Maps

def pOf (p : ByteArray) : ByteArray := (wh p).getD E
/-- What the statement asks of a good call's notes. -/
def wantL (s : St) (a : Act) : List (Int × ByteArray) :=
  if a.kind.tmod 10 = 0 then [(2, pOf a.p)] else if a.kind.tmod 10 = 1 then [(2, pOf a.p)] else if a.kind.tmod 10 = 2 then [(1, pOf a.p)]
  else if a.kind.tmod 10 = 3 then (if (s.stat a.p).2.1 = true then [] else [(3, pOf a.p)])
  else if a.kind.tmod 10 = 4 then (if pOf a.p = pOf a.q then [] else [(3, pOf a.p), (2, pOf a.q)])
  else if a.kind.tmod 10 = 6 then (if (s.stat a.p).2.1 = true then [] else [(2, pOf a.p)]) else []
theorem wantL_len (s : St) (a : Act) : (wantL s a).length ≤ 2 := by
  unfold wantL
  repeat' split
  all_goals simp
theorem note_on {s : St} (h : s.noting = true) (hl : s.notes.length < 4096) (k : Int) (q : ByteArray) : s.note k q = { s with notes := s.notes ++ [(k, q)] } := by
  unfold St.note; rw [h]; simp [hl]
theorem put_notes {s : St} (h : s.noting = true) (hl : s.notes.length ≤ 4000) (q x : ByteArray) : (s.put q x).1.noting = true ∧ ((s.put q x).2 = 0 → (s.put q x).1.notes = s.notes ++ [(2, q)]) := by
  rcases put_cases s q x with ⟨h1, h2⟩ | ⟨h1, _, h3⟩
  · exact ⟨by rw [h1]; exact h, fun e => absurd e h2⟩
  · rw [h3, note_on (s := { s with now := s.now + 1, L := s.L.set q ⟨x, s.now + 1, false⟩ }) h (by show s.notes.length < 4096; omega)]
    exact ⟨h, fun _ => rfl⟩

theorem stat_dir {s : St} {p q : ByteArray} (h : wh p = some q) : (s.stat p).2.1 = s.L.isDir q := by
  unfold St.stat Fs.isDir
  simp only [h]
  cases s.L.look q <;> rfl
theorem act_notes (s : St) (a : Act) (hn : s.noting = true) (hl : s.notes.length ≤ 4000) (hk : a.kind.tmod 10 ≠ 8) :
    (s.act a).1.noting = true ∧ ((s.act a).2 = 0 → (s.act a).1.notes = s.notes ++ wantL s a) := by
  unfold St.act wantL
  by_cases k0 : a.kind.tmod 10 = 0
  · rw [if_pos k0, if_pos k0]
    unfold St.write pOf
    split
    · exact ⟨hn, fun e => absurd e (by simp)⟩
    · rename_i q hq; rw [hq]; exact put_notes hn hl q a.t
  rw [if_neg k0, if_neg k0]
  by_cases k1 : a.kind.tmod 10 = 1
  · rw [if_pos k1, if_pos k1]
    unfold St.append pOf
    split
    · exact ⟨hn, fun e => absurd e (by simp)⟩
    · rename_i q hq; rw [hq]; exact put_notes hn hl q _
  rw [if_neg k1, if_neg k1]
  by_cases k2 : a.kind.tmod 10 = 2
  · rw [if_pos k2, if_pos k2]
    unfold St.read pOf
    split
    · exact ⟨hn, fun e => absurd e (by simp)⟩
    · rename_i q hq
      split
      · exact ⟨hn, fun e => absurd e (by simp)⟩
      · split
        · exact ⟨hn, fun e => absurd e (by simp)⟩
        · rw [hq]
          dsimp only
          rw [note_on hn (by omega)]
          exact ⟨hn, fun _ => rfl⟩
  rw [if_neg k2, if_neg k2]
  by_cases k3 : a.kind.tmod 10 = 3
  · rw [if_pos k3, if_pos k3]
    unfold St.remove pOf
    split
    · exact ⟨hn, fun e => absurd e (by simp)⟩
    · rename_i q hq
      rw [hq, stat_dir hq]
      dsimp only [Option.getD_some]
      cases ho : s.L.look q with
      | none => exact ⟨hn, fun e => absurd e (by simp)⟩
      | some o =>
        have hdd : s.L.isDir q = o.dir := by unfold Fs.isDir; rw [ho]
        rw [hdd]
        dsimp only
        split
        · exact ⟨hn, fun e => absurd e (by simp)⟩
        · dsimp only
          by_cases hd : o.dir = true
          · rw [if_pos hd, if_pos hd]
            exact ⟨hn, fun _ => by simp⟩
          · rw [if_neg hd, if_neg hd, note_on (s := { s with now := s.now + 1, L := s.L.del q }) hn (by show s.notes.length < 4096; omega)]
            exact ⟨hn, fun _ => rfl⟩
  rw [if_neg k3, if_neg k3]
  by_cases k4 : a.kind.tmod 10 = 4
  · rw [if_pos k4, if_pos k4]
    unfold St.move pOf
    split
    · exact ⟨hn, fun e => absurd e (by simp)⟩
    · rename_i f hf
      split
      · exact ⟨hn, fun e => absurd e (by simp)⟩
      · rename_i c hc
        rw [hf, hc]
        dsimp only [Option.getD_some]
        split
        · rename_i hm; exact ⟨hn, fun e => absurd e hm⟩
        · split
          · exact ⟨hn, fun _ => by simp⟩
          · dsimp only
            rw [note_on (s := { s with now := s.now + 1, L := (s.L.set c ⟨s.text f, s.now + 1, false⟩).del f }) hn (by show s.notes.length < 4096; omega)]
            rw [note_on (by exact hn) (by show (s.notes ++ [(3, f)]).length < 4096; simp; omega)]
            exact ⟨hn, fun _ => by simp⟩
  rw [if_neg k4, if_neg k4]
  by_cases k5 : a.kind.tmod 10 = 5
  · rw [if_pos k5, if_neg (by omega)]
    unfold St.mkdir
    split
    · exact ⟨hn, fun e => absurd e (by simp)⟩
    · split
      · exact ⟨hn, fun e => absurd e (by simp)⟩
      · split
        · rename_i hm; exact ⟨hn, fun e => absurd e hm⟩
        · split
          · exact ⟨hn, fun e => absurd e (by simp)⟩
          · exact ⟨hn, fun _ => by simp⟩
  rw [if_neg k5]
  by_cases k6 : a.kind.tmod 10 = 6
  · rw [if_pos k6, if_pos k6]
    unfold St.touch pOf
    split
    · exact ⟨hn, fun e => absurd e (by simp)⟩
    · rename_i q hq
      rw [hq, stat_dir hq]
      dsimp only [Option.getD_some]
      by_cases hd : s.L.isDir q = true
      · rw [if_pos hd, if_pos hd]
        exact ⟨hn, fun _ => by simp⟩
      · rw [if_neg hd, if_neg hd]
        exact put_notes hn hl q _
  rw [if_neg k6, if_neg k6]
  by_cases k7 : a.kind.tmod 10 = 7
  · rw [if_pos k7]
    dsimp only
    unfold St.later
    split
    · exact ⟨hn, fun _ => by simp⟩
    · exact ⟨hn, fun _ => by simp⟩
  rw [if_neg k7, if_neg hk]
  exact ⟨hn, fun _ => by simp⟩

/-- One round of the noted calls: what is there, and what is wanted. -/
def stepN (x : St × List (Int × ByteArray)) (a : Act) : St × List (Int × ByteArray) :=
  if a.kind.tmod 10 = 8 then x else if (x.1.act a).2 = 0 then ((x.1.act a).1, x.2 ++ wantL x.1 a) else x
def runN (s : St) (l : List Act) : St × List (Int × ByteArray) := l.foldl stepN (s, [])
theorem runN_succ (s : St) (l : List Act) (k : Nat) (h : k < l.length) : runN s (l.take (k + 1)) = stepN (runN s (l.take k)) l[k] := by
  unfold runN; rw [List.take_succ_eq_append_getElem h, List.foldl_append]; rfl
structure NOk (now : Int) (j : Nat) (x : St × List (Int × ByteArray)) : Prop where
  on : x.1.noting = true
  notes : x.1.notes = x.2
  len : x.2.length ≤ 2 * j
  now : x.1.now ≤ now + j * 1099511627776
theorem runN_ok (s : St) (l : List Act) (hn : s.noting = true) (h0 : s.notes = []) (j : Nat) (hj : j ≤ l.length) (h3 : j ≤ 300) : NOk s.now j (runN s (l.take j)) := by
  induction j with
  | zero => exact ⟨hn, h0, Nat.le_refl _, by show s.now ≤ _; simp⟩
  | succ j ih =>
    have i := ih (by omega) (by omega)
    rw [runN_succ s l j (by omega)]
    obtain ⟨x, hx⟩ : ∃ x, x = runN s (l.take j) := ⟨_, rfl⟩
    rw [← hx] at i ⊢
    have e : ((j + 1 : Nat) : Int) * 1099511627776 = j * 1099511627776 + 1099511627776 := by omega
    unfold stepN
    split
    · exact ⟨i.on, i.notes, by have := i.len; omega, by have := i.now; omega⟩
    · rename_i hk
      split
      · rename_i hr
        have hlen := i.len
        obtain ⟨a1, a2⟩ := act_notes x.1 l[j] i.on (by rw [i.notes]; omega) hk
        have hw := wantL_len x.1 l[j]
        have hnow := act_now x.1 l[j]
        exact ⟨a1, by rw [a2 hr, i.notes], by dsimp only; rw [List.length_append]; omega, by have := i.now; dsimp only; omega⟩
      · exact ⟨i.on, i.notes, by have := i.len; omega, by have := i.now; omega⟩
end Go.Proofs.Ytoibdokedhbjpab
