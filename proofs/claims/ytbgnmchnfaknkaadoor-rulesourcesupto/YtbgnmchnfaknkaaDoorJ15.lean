/-
  What is said of a target, rule by rule; rows of texts beside one another.
-/
import Derived.Test.YtbgnmchnfaknkaaDoorJ14
namespace Go.Proofs.YtbgnmchnfaknkaaDoor.Q
variable {α : Type} (f : Ru → List α)
theorem said_take (t : Bs) (l : List Ru) (k : Nat) (r : Ru) (h : l[k]? = some r) : said f t (l.take (k + 1)) = said f t (l.take k) ++ saidG f t r r.targets := by
  have e : l.take (k + 1) = l.take k ++ [r] := by rw [List.take_add_one, h]; rfl
  rw [e]; simp [said]
theorem saidG_take (t : Bs) (r : Ru) (ts : List Bs) (j : Nat) (u : Bs) (h : ts[j]? = some u) : saidG f t r (ts.take (j + 1)) = saidG f t r (ts.take j) ++ if u = t then f r else [] := by
  have e : ts.take (j + 1) = ts.take j ++ [u] := by rw [List.take_add_one, h]; rfl
  rw [e]; simp [saidG]
theorem ofG_take (t : Bs) (a : List Ru) (k : Nat) (y : Ru) (h : a[k]? = some y) : ofG f t (a.take (k + 1)) = ofG f t (a.take k) ++ if hasG t y = true then f y else [] := by
  have e : a.take (k + 1) = a.take k ++ [y] := by rw [List.take_add_one, h]; rfl
  rw [e]; simp [ofG]
theorem said_split (t : Bs) (l : List Ru) (k : Nat) : said f t l = said f t (l.take k) ++ said f t (l.drop k) := by
  unfold said; rw [← List.flatMap_append, List.take_append_drop]
theorem saidG_split (t : Bs) (r : Ru) (ts : List Bs) (j : Nat) : saidG f t r ts = saidG f t r (ts.take j) ++ saidG f t r (ts.drop j) := by
  unfold saidG; rw [← List.flatMap_append, List.take_append_drop]
theorem ofG_split (t : Bs) (a : List Ru) (k : Nat) : ofG f t a = ofG f t (a.take k) ++ ofG f t (a.drop k) := by
  unfold ofG; rw [← List.flatMap_append, List.take_append_drop]
theorem said_pre (t : Bs) (l : List Ru) (k : Nat) (r : Ru) (h : l[k]? = some r) (j : Nat) : (said f t (l.take k)).length + (saidG f t r (r.targets.take j)).length ≤ (said f t l).length := by
  rw [said_split f t l (k + 1), said_take f t l k r h, saidG_split f t r r.targets j]
  simp only [List.length_append]; omega
theorem ofG_pre (t : Bs) (a : List Ru) (k : Nat) : (ofG f t (a.take k)).length ≤ (ofG f t a).length := by
  rw [ofG_split f t a k]; simp
theorem saidG_len (t : Bs) (r : Ru) (m : Nat) (h : (f r).length ≤ m) : ∀ ts : List Bs, (saidG f t r ts).length ≤ ts.length * m
  | [] => by simp [saidG]
  | u :: ts => by
    have := saidG_len t r m h ts
    have e : saidG f t r (u :: ts) = (if u = t then f r else []) ++ saidG f t r ts := by simp [saidG]
    rw [e, List.length_append, List.length_cons, Nat.succ_mul]
    have : (if u = t then f r else []).length ≤ m := by split <;> simp [h]
    omega
theorem said_len (t : Bs) (m : Nat) : ∀ l : List Ru, (∀ r ∈ l, (f r).length ≤ m) → (said f t l).length ≤ tot l * m
  | [], _ => by simp [said]
  | r :: l, h => by
    have h1 := said_len t m l fun x hx => h x (by simp [hx])
    have h2 := saidG_len f t r m (h r (by simp)) r.targets
    have e : said f t (r :: l) = saidG f t r r.targets ++ said f t l := by simp [said]
    have e2 : tot (r :: l) = r.targets.length + tot l := by simp [tot]
    rw [e, e2, List.length_append, Nat.add_mul]; omega
end Go.Proofs.YtbgnmchnfaknkaaDoor.Q
namespace Go.Proofs.YtbgnmchnfaknkaaDoor
open Go.RowKit Go.Shelf Go.Maps

def r4 {α : Type} (a b c d : α) : Nat → α
  | 0 => a
  | 1 => b
  | 2 => c
  | _ => d
/-- Four rows of texts of one's own, and boxes that stay. -/
structure SR (base : Nat) (bs : List (Nat × Array Value)) (R : Nat → Value) (L : Nat → List ByteArray) (w0 wr : World) : Prop where
  below : Below base w0 wr
  box : ∀ p ∈ bs, wr.heap[p.1]? = some (.cells p.2 24 (0, 0))
  own : ∀ i, i < 4 → wr.ownsRow base 9 1 (R i) (L i).length ((L i).map Value.string)
  ap : ∀ i j b, i < 4 → j < 4 → (R i).ownBlock = some b → (R j).ownBlock = some b → i = j
  lo : base ≤ wr.heap.size
theorem SR.on {base : Nat} {bs : List (Nat × Array Value)} {R : Nat → Value} {L : Nat → List ByteArray} {w0 wr w' : World} (h : SR base bs R L w0 wr) (hb : Below wr.heap.size wr w') : SR base bs R L w0 w' :=
  ⟨below_trans h.below hb h.lo, fun p hp => (hb.block _ (Array.getElem?_eq_some_iff.1 (h.box p hp)).1).trans (h.box p hp), fun i hi => row_fr (h.own i hi) (Fr.of_below (D := fun _ => False) hb) fun _ _ e => e, h.ap, Nat.le_trans h.lo hb.size⟩
theorem SR.add {base : Nat} {bs : List (Nat × Array Value)} {R : Nat → Value} {L : Nat → List ByteArray} {w0 wr : World} (h : SR base bs R L w0 wr) (x : Nat) (bx : Array Value) (hx : wr.heap[x]? = some (.cells bx 24 (0, 0))) : SR base ((x, bx) :: bs) R L w0 wr :=
  ⟨h.below, fun p hp => by rcases List.mem_cons.1 hp with rfl | hp; · exact hx
                           · exact h.box p hp, h.own, h.ap, h.lo⟩
theorem SR.drop {base x : Nat} {bx : Array Value} {bs : List (Nat × Array Value)} {R : Nat → Value} {L : Nat → List ByteArray} {w0 wr : World} (h : SR base ((x, bx) :: bs) R L w0 wr) : SR base bs R L w0 wr :=
  ⟨h.below, fun p hp => h.box p (by simp [hp]), h.own, h.ap, h.lo⟩
theorem SR.start {base : Nat} {bs : List (Nat × Array Value)} {w0 wr : World} (hb : Below base w0 wr) (hlo : base ≤ wr.heap.size) (hbx : ∀ p ∈ bs, wr.heap[p.1]? = some (.cells p.2 24 (0, 0))) : SR base bs (r4 (.slice none 0 0) (.slice none 0 0) (.slice none 0 0) (.slice none 0 0)) (r4 [] [] [] []) w0 wr := by
  refine ⟨hb, hbx, fun i hi => ?_, fun i j b hi hj h _ => ?_, hlo⟩
  · match i, hi with
    | 0, _ => exact row_nil _ _
    | 1, _ => exact row_nil _ _
    | 2, _ => exact row_nil _ _
    | 3, _ => exact row_nil _ _
  · match i, hi with
    | 0, _ => cases h
    | 1, _ => cases h
    | 2, _ => cases h
    | 3, _ => cases h
theorem SR.put {base : Nat} {bs : List (Nat × Array Value)} {R R' : Nat → Value} {L L' : Nat → List ByteArray} {w0 wr w' : World} (h : SR base bs R L w0 wr) (i : Nat) (hi : i < 4) {v' : Value} {lb : List ByteArray}
    (hown : w'.ownsRow base 9 1 v' ((L i).length + lb.length) ((L i ++ lb).map Value.string)) (hgr : wr.grownBy w' (R i).ownBlock) (hat : v'.ownBlock = (R i).ownBlock ∨ v'.ownBlock = some wr.heap.size)
    (hR : ∀ j, j < 4 → R' j = if j = i then v' else R j) (hL : ∀ j, j < 4 → L' j = if j = i then L i ++ lb else L j) : SR base bs R' L' w0 w' := by
  have f : Fr (fun j => (R i).ownBlock = some j) wr w' := Fr.grown hgr fun g hg => hg
  refine ⟨below_trans h.below (f.below h.lo fun j hj => (row_has (h.own i hi) j hj).1) (Nat.le_refl _), fun p hp => ?_, fun j hj => ?_, fun j k b hj hk h1 h2 => ?_, Nat.le_trans h.lo f.size⟩
  · have hb := h.box p hp
    rw [f.block p.1 (Array.getElem?_eq_some_iff.1 hb).1 (row_ne (h.own i hi) hb (by decide))]; exact hb
  · rw [hR j hj, hL j hj]
    by_cases e : j = i
    · subst e
      rw [if_pos rfl, if_pos rfl, List.length_append]; exact hown
    · rw [if_neg e, if_neg e]
      exact row_fr (h.own j hj) f fun g hg hgi => e (h.ap j i g hj hi hg hgi)
  · have old : ∀ m, m < 4 → ∀ b, (R m).ownBlock = some b → b < wr.heap.size := fun m hm b hb => (row_has (h.own m hm) b hb).2
    rw [hR j hj] at h1
    rw [hR k hk] at h2
    by_cases e1 : j = i
    · by_cases e2 : k = i
      · rw [e1, e2]
      · rw [if_pos e1] at h1
        rw [if_neg e2] at h2
        rcases hat with h3 | h3
        · rw [h3] at h1
          have := h.ap i k b hi hk h1 h2; omega
        · rw [h3] at h1; cases h1
          have := old k hk _ h2; omega
    · rw [if_neg e1] at h1
      by_cases e2 : k = i
      · rw [if_pos e2] at h2
        rcases hat with h3 | h3
        · rw [h3] at h2
          have := h.ap j i b hj hi h1 h2; omega
        · rw [h3] at h2; cases h2
          have := old j hj _ h1; omega
      · rw [if_neg e2] at h2
        exact h.ap j k b hj hk h1 h2
theorem SR.put0 {base : Nat} {bs : List (Nat × Array Value)} {a b c d v' : Value} {A B C D lb : List ByteArray} {w0 wr w' : World} (h : SR base bs (r4 a b c d) (r4 A B C D) w0 wr) (hown : w'.ownsRow base 9 1 v' (A.length + lb.length) ((A ++ lb).map Value.string)) (hgr : wr.grownBy w' a.ownBlock) (hat : v'.ownBlock = a.ownBlock ∨ v'.ownBlock = some wr.heap.size) : SR base bs (r4 v' b c d) (r4 (A ++ lb) B C D) w0 w' :=
  h.put 0 (by omega) hown hgr hat (fun j hj => match j, hj with
    | 0, _ => rfl
    | 1, _ => rfl
    | 2, _ => rfl
    | 3, _ => rfl) (fun j hj => match j, hj with
    | 0, _ => rfl
    | 1, _ => rfl
    | 2, _ => rfl
    | 3, _ => rfl)
theorem SR.put1 {base : Nat} {bs : List (Nat × Array Value)} {a b c d v' : Value} {A B C D lb : List ByteArray} {w0 wr w' : World} (h : SR base bs (r4 a b c d) (r4 A B C D) w0 wr) (hown : w'.ownsRow base 9 1 v' (B.length + lb.length) ((B ++ lb).map Value.string)) (hgr : wr.grownBy w' b.ownBlock) (hat : v'.ownBlock = b.ownBlock ∨ v'.ownBlock = some wr.heap.size) : SR base bs (r4 a v' c d) (r4 A (B ++ lb) C D) w0 w' :=
  h.put 1 (by omega) hown hgr hat (fun j hj => match j, hj with
    | 0, _ => rfl
    | 1, _ => rfl
    | 2, _ => rfl
    | 3, _ => rfl) (fun j hj => match j, hj with
    | 0, _ => rfl
    | 1, _ => rfl
    | 2, _ => rfl
    | 3, _ => rfl)
theorem SR.put2 {base : Nat} {bs : List (Nat × Array Value)} {a b c d v' : Value} {A B C D lb : List ByteArray} {w0 wr w' : World} (h : SR base bs (r4 a b c d) (r4 A B C D) w0 wr) (hown : w'.ownsRow base 9 1 v' (C.length + lb.length) ((C ++ lb).map Value.string)) (hgr : wr.grownBy w' c.ownBlock) (hat : v'.ownBlock = c.ownBlock ∨ v'.ownBlock = some wr.heap.size) : SR base bs (r4 a b v' d) (r4 A B (C ++ lb) D) w0 w' :=
  h.put 2 (by omega) hown hgr hat (fun j hj => match j, hj with
    | 0, _ => rfl
    | 1, _ => rfl
    | 2, _ => rfl
    | 3, _ => rfl) (fun j hj => match j, hj with
    | 0, _ => rfl
    | 1, _ => rfl
    | 2, _ => rfl
    | 3, _ => rfl)
theorem SR.put3 {base : Nat} {bs : List (Nat × Array Value)} {a b c d v' : Value} {A B C D lb : List ByteArray} {w0 wr w' : World} (h : SR base bs (r4 a b c d) (r4 A B C D) w0 wr) (hown : w'.ownsRow base 9 1 v' (D.length + lb.length) ((D ++ lb).map Value.string)) (hgr : wr.grownBy w' d.ownBlock) (hat : v'.ownBlock = d.ownBlock ∨ v'.ownBlock = some wr.heap.size) : SR base bs (r4 a b c v') (r4 A B C (D ++ lb)) w0 w' :=
  h.put 3 (by omega) hown hgr hat (fun j hj => match j, hj with
    | 0, _ => rfl
    | 1, _ => rfl
    | 2, _ => rfl
    | 3, _ => rfl) (fun j hj => match j, hj with
    | 0, _ => rfl
    | 1, _ => rfl
    | 2, _ => rfl
    | 3, _ => rfl)
end Go.Proofs.YtbgnmchnfaknkaaDoor
