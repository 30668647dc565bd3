/-
  A text with matches replaced.
-/
import Derived.Test.YtmmhajlfbjjocaaGreatPFill
namespace Go.Proofs.YtmmhajlfbjjocaaGreat
open Go.RowKit Go.Shelf RxSem

def putL (s y : List UInt8) : Nat → List (Nat × Nat) → List UInt8
  | told, [] => s.drop told
  | told, m :: r => (s.drop told).take (m.1 - told) ++ fillL ((s.drop m.1).take (m.2 - m.1)) y ++ putL s y m.2 r
/-- In order, none within another, all within the text. -/
def Chain (n : Nat) : Nat → List (Nat × Nat) → Prop
  | f, [] => f ≤ n
  | f, m :: r => f ≤ m.1 ∧ m.1 ≤ m.2 ∧ Chain n m.2 r
theorem Chain.le {n : Nat} : ∀ {l : List (Nat × Nat)} {f : Nat}, Chain n f l → f ≤ n
  | [], _, h => h
  | m :: _, _, h => by have := Chain.le h.2.2; have := h.1; have := h.2.1; omega
theorem Chain.snoc {n : Nat} : ∀ {l : List (Nat × Nat)} {f g : Nat} {m : Nat × Nat}, Chain n f l → (∀ x, l.getLast? = some x → x.2 = g) → (l = [] → f = g) → g ≤ m.1 → m.1 ≤ m.2 → m.2 ≤ n → Chain n f (l ++ [m])
  | [], f, g, m, h, _, h2, h3, h4, h5 => ⟨by rw [h2 rfl]; exact h3, h4, h5⟩
  | [a], f, g, m, h, h1, _, h3, h4, h5 => ⟨h.1, h.2.1, by rw [h1 a rfl]; exact h3, h4, h5⟩
  | a :: b :: l, f, g, m, h, h1, _, h3, h4, h5 => ⟨h.1, h.2.1, Chain.snoc (l := b :: l) (g := g) h.2.2 (fun x hx => h1 x (by rw [← hx]; rfl)) (fun e => by cases e) h3 h4 h5⟩
theorem chs_chain {n : Nat} (ms : List (Nat × Nat)) (h : ∀ m ∈ ms, m.1 ≤ m.2 ∧ m.2 ≤ n) : Chain n 0 (chs ms).1 ∧ (∀ x, (chs ms).1.getLast? = some x → x.2 = (chs ms).2) ∧ ((chs ms).1 = [] → 0 = (chs ms).2) := by
  suffices hs : ∀ (l : List (Nat × Nat)) (x : List (Nat × Nat) × Nat), (∀ m ∈ l, m.1 ≤ m.2 ∧ m.2 ≤ n) → (Chain n 0 x.1 ∧ (∀ y, x.1.getLast? = some y → y.2 = x.2) ∧ (x.1 = [] → 0 = x.2)) → (Chain n 0 (l.foldl (fun x m => if m.1 < x.2 then x else (x.1 ++ [m], m.2)) x).1 ∧ (∀ y, (l.foldl (fun x m => if m.1 < x.2 then x else (x.1 ++ [m], m.2)) x).1.getLast? = some y → y.2 = (l.foldl (fun x m => if m.1 < x.2 then x else (x.1 ++ [m], m.2)) x).2) ∧ ((l.foldl (fun x m => if m.1 < x.2 then x else (x.1 ++ [m], m.2)) x).1 = [] → 0 = (l.foldl (fun x m => if m.1 < x.2 then x else (x.1 ++ [m], m.2)) x).2)) by
    exact hs ms ([], 0) h ⟨Nat.zero_le _, fun y hy => by simp at hy, fun _ => rfl⟩
  intro l
  induction l with
  | nil => intro x _ hx; exact hx
  | cons m l ih =>
    intro x hm hx
    simp only [List.foldl_cons]
    refine ih _ (fun m' h' => hm m' (List.mem_cons_of_mem _ h')) ?_
    have h1 := hm m List.mem_cons_self
    split
    · exact hx
    · exact ⟨hx.1.snoc (g := x.2) hx.2.1 hx.2.2 (by omega) h1.1 h1.2, fun y hy => by simp at hy; rw [← hy], fun e => by simp at e⟩
theorem lm_mem {s : List UInt8} {n : Nd} {i : Nat} {K : List (Nat × Nat)} (h : LM s n i K) : ∀ m ∈ K, m.1 ≤ m.2 ∧ m.2 ≤ s.length := by
  induction h with
  | top => intro m hm; cases hm
  | no h hp hn ih => exact ih
  | yes h hp he hm ih =>
    intro m hmm
    rcases List.mem_cons.1 hmm with rfl | hmm
    · exact ⟨M_le _ _ _ _ he, M_top _ _ _ _ he hp⟩
    · exact ih m hmm
theorem chosen_chain {al : Bool} {s : List UInt8} {n : Nd} {K : List (Nat × Nat)} (h : LM s n 0 K) : Chain s.length 0 (chosenOf al K) := by
  cases al with
  | true => exact (chs_chain K (lm_mem h)).1
  | false =>
    cases K with
    | nil => exact Nat.zero_le _
    | cons m K => have := lm_mem h m List.mem_cons_self; exact ⟨Nat.zero_le _, this⟩
end Go.Proofs.YtmmhajlfbjjocaaGreat
