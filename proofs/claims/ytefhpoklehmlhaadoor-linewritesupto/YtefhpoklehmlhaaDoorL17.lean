/-
  Lines of letters.
-/
import Derived.Test.YtefhpoklehmlhaaDoorL13
import Derived.Test.YtefhpoklehmlhaaDoorL9
namespace Go.Proofs.YtefhpoklehmlhaaDoor
open Go.RowKit Go.Shelf

def Letters (t : List UInt8) : Prop := ∀ c ∈ t, 97 ≤ c.toNat ∧ c.toNat ≤ 122
theorem letter_ne {c : UInt8} (h : 97 ≤ c.toNat ∧ c.toNat ≤ 122) : c ≠ 92 ∧ c ≠ 32 ∧ c ≠ 9 ∧ c ≠ 10 ∧ c ≠ 35 := by
  refine ⟨?_, ?_, ?_, ?_, ?_⟩ <;> (rintro rfl; revert h; decide)
theorem letters_strk {t : List UInt8} (h : Letters t) : Ln.strk t = false := by
  induction t using Ln.strk.induct with
  | case1 => rfl
  | case2 c => rfl
  | case3 c d t ih =>
    rw [Ln.strk, ih (fun x hx => h x (List.mem_cons_of_mem _ hx))]
    have := (letter_ne (h c (List.mem_cons_self ..))).1
    simp [this]
theorem letters_bare {t : List UInt8} (h : Letters t) (hne : t ≠ []) : Ln.blank t = false := by
  obtain ⟨l, c, rfl⟩ : ∃ l c, t = l ++ [c] := ⟨t.dropLast, t.getLast hne, (List.dropLast_concat_getLast hne).symm⟩
  have hc := letter_ne (h c (by simp))
  unfold Ln.blank Lib.trimS
  rw [Ln.trimR_self hc.2.1 hc.2.2.1]
  cases l with
  | nil =>
    show (Lib.trimLeftS [c] [32, 9]).isEmpty = false
    simp [Lib.trimLeftS, hc.2.1, hc.2.2.1]
  | cons d l =>
    have hd := letter_ne (h d (by simp))
    simp [Lib.trimLeftS, hd.2.1, hd.2.2.1]
theorem letters_hash {t : List UInt8} (h : Letters t) : Ln.hash t = t := by
  induction t with
  | nil => rfl
  | cons c t ih =>
    rw [Ln.hash_miss t (letter_ne (h c (List.mem_cons_self ..))).2.2.2.2, ih fun x hx => h x (List.mem_cons_of_mem _ hx)]
theorem letters_good {x : Ln.Ln} (h : Letters x.text) (hne : x.text ≠ []) : Ln.Good x := by
  refine ⟨letters_bare h hne, ⟨x.text.dropLast, x.text.getLast hne, (List.dropLast_concat_getLast hne).symm, ?_, fun _ => ?_⟩, fun c hc => (letter_ne (h c hc)).2.2.2.1, fun _ => letters_strk h, fun _ he => ?_⟩
  · exact (letter_ne (h _ (List.getLast_mem hne))).1
  · exact ⟨(letter_ne (h _ (List.getLast_mem hne))).2.1, (letter_ne (h _ (List.getLast_mem hne))).2.2.1⟩
  · have := List.mem_of_mem_head? (Option.mem_def.2 he)
    exact (letter_ne (h 9 this)).2.2.1 rfl
/-- The lines that words and marks tell. -/
def lp (bs : List Bool) : Nat → List ByteArray → List Ln.Ln
  | _, [] => []
  | j, w :: t => ⟨bl w, j + 1, bs[j]?.getD false⟩ :: lp bs (j + 1) t
theorem lp_len (bs : List Bool) (ws : List ByteArray) : ∀ j, (lp bs j ws).length = ws.length := by
  induction ws with
  | nil => intro j; rfl
  | cons w t ih => intro j; simp [lp, ih]
theorem lp_get (bs : List Bool) (ws : List ByteArray) : ∀ (j i : Nat) (w : ByteArray), ws[i]? = some w → (lp bs j ws)[i]? = some ⟨bl w, j + i + 1, bs[j + i]?.getD false⟩ := by
  induction ws with
  | nil => intro j i w h; simp at h
  | cons y t ih =>
    intro j i w h
    cases i with
    | zero => simp at h; subst h; rfl
    | succ i =>
      have := ih (j + 1) i w (by simpa using h)
      rw [lp, List.getElem?_cons_succ, this, show j + 1 + i = j + (i + 1) by omega]
theorem lp_take (bs : List Bool) (ws : List ByteArray) {i : Nat} {w : ByteArray} (h : ws[i]? = some w) : (lp bs 0 ws).take (i + 1) = (lp bs 0 ws).take i ++ [⟨bl w, 0 + i + 1, bs[0 + i]?.getD false⟩] := by
  have hg := lp_get bs ws 0 i w h
  have hl := (List.getElem?_eq_some_iff.1 hg).1
  rw [List.take_succ_eq_append_getElem hl]
  rw [List.getElem?_eq_getElem hl] at hg
  rw [Option.some.inj hg]
theorem write_num (L : List Ln.Ln) : ∀ k, Ln.writeT (Ln.num k L) = Ln.writeT L := by
  induction L with
  | nil => intro k; rfl
  | cons x L ih =>
    intro k
    rw [Ln.num, Ln.write_cons, Ln.write_cons, ih]; rfl
/-- A slice value that reads as a list of marks. -/
def Marks (B : Nat) (W : World) (v : Value) (l : List Bool) : Prop :=
  ∃ a n c, v = .slice a n c ∧ n = l.length ∧ n ≤ c ∧ ∀ i x, l[i]? = some x → ∃ b o, a = some ⟨b, o, none⟩ ∧ b < B ∧ W.cell? ⟨b, o + i, none⟩ = some (.bool x)
theorem Marks.below {B : Nat} {W W1 : World} {v : Value} {l : List Bool} (h : Marks B W v l) (hb : Below B W W1) : Marks B W1 v l := by
  obtain ⟨a, n, c, h1, h2, h4, h3⟩ := h
  refine ⟨a, n, c, h1, h2, h4, fun i x hi => ?_⟩
  obtain ⟨b, o, e1, e2, e3⟩ := h3 i x hi
  exact ⟨b, o, e1, e2, by rw [hb.cell (p := ⟨b, _, none⟩) e2]; exact e3⟩
theorem Marks.pick {B : Nat} {W : World} {a : Option Addr} {n c : Nat} {l : List Bool} (h : Marks B W (.slice a n c) l) {k : Nat} {x : Bool} (hx : l[k]? = some x) : ∃ b o, a = some ⟨b, o, none⟩ ∧ b < B ∧ W.cell? ⟨b, o + k, none⟩ = some (.bool x) := by
  obtain ⟨a', n', c', h1, h2, h4, h3⟩ := h
  simp only [Value.slice.injEq] at h1
  obtain ⟨rfl, rfl, rfl⟩ := h1
  exact h3 k x hx
theorem Words.pick {B : Nat} {W : World} {a : Option Addr} {n c : Nat} {l : List ByteArray} (h : Words B W (.slice a n c) l) {k : Nat} {x : ByteArray} (hx : l[k]? = some x) : ∃ b o, a = some ⟨b, o, none⟩ ∧ b < B ∧ W.cell? ⟨b, o + k, none⟩ = some (.string x) := by
  obtain ⟨a', n', c', h1, h2, h4, h3⟩ := h
  simp only [Value.slice.injEq] at h1
  obtain ⟨rfl, rfl, rfl⟩ := h1
  obtain ⟨hk, rfl⟩ := List.getElem?_eq_some_iff.1 hx
  exact h3 k hk
end Go.Proofs.YtefhpoklehmlhaaDoor
