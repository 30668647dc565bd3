import Derived.Test.YtmmhajlfbjjocaaGreatRxWalk
/-
  From place to place: what is under way, and the longest match. Plain mathematics.
-/
namespace RxSem

inductive EntL (cs : List Stp) (s : List UInt8) (p : Nat) : List (Nat × Nat) → St → St → Prop where
  | nil (st : St) : EntL cs s p [] st st
  | snoc {l : List (Nat × Nat)} {x : Nat × Nat} {st st1 st2 : St} (h : EntL cs s p l st st1) (h2 : Ent cs s p x.2 x.1 st1 st2) : EntL cs s p (l ++ [x]) st st2

def Falls (l : List (Nat × Nat)) : Prop := l.Pairwise fun x y => y.2 ≤ x.2

structure Done (cs : List Stp) (s : List UInt8) (p L : Nat) (l : List (Nat × Nat)) (st : St) : Prop where
  len : st.sn.length = L + 1
  close : ∀ u v, sees p st u → Ep cs s p u v → sees p st v
  root : ∀ x ∈ l, sees p st x.1
  why : ∀ u, sees p st u → ∃ x ∈ l, EpR cs s p x.1 u
  thr : ∀ y ∈ st.T, (∃ x ∈ l, x.2 = y.2 ∧ EpR cs s p x.1 y.1) ∧ ∃ f, cs[y.1]? = some (.take f)
  all : ∀ u f, cs[u]? = some (.take f) → ∀ x ∈ l, EpR cs s p x.1 u → ∃ e, x.2 ≤ e ∧ (u, e) ∈ st.T
  falls : Falls st.T
  low : (st.lo = -1 ∧ ¬ sees p st L) ∨ ∃ x ∈ l, st.lo = x.2 ∧ EpR cs s p x.1 L ∧ ∀ y ∈ l, EpR cs s p y.1 L → y.2 ≤ x.2
  small : st.T.length + unseen p st.sn ≤ L + 1
  other : ∀ (u : Nat) (q : Int), st.sn[u]? = some q → (p : Int) ≤ q ∨ q = -1
theorem epr_seen {cs : List Stp} {s : List UInt8} {p L : Nat} {l : List (Nat × Nat)} {st : St} (h : Done cs s p L l st) {t u : Nat} (h1 : EpR cs s p t u) (h2 : sees p st t) : sees p st u := by
  induction h1 with
  | here => exact h2
  | next _ h3 ih => exact h.close _ _ ih h3
theorem done_snoc {cs : List Stp} {s : List UInt8} {p L : Nat} {l : List (Nat × Nat)} {x : Nat × Nat} {st st' : St} (hF : Fit cs L) (h : Done cs s p L l st) (hx : x.1 ≤ L) (hle : ∀ y ∈ l, x.2 ≤ y.2) (hE : Ent cs s p x.2 x.1 st st') : Done cs s p L (l ++ [x]) st' := by
  have g := hE.grew hF h.len hx
  have hnot : ∀ u, ¬ sees p st u → ∀ y ∈ l, ¬ EpR cs s p y.1 u := fun u hu y hy hr => hu (epr_seen h hr (h.root y hy))
  refine ⟨by rw [g.len, h.len], ?_, ?_, ?_, ?_, ?_, ?_, ?_, ?_, ?_⟩
  · intro u v hu hv
    by_cases hs : sees p st u
    · exact g.keep _ (h.close u v hs hv)
    · exact g.close u hu hs v hv
  · intro y hy
    rcases List.mem_append.1 hy with hy | hy
    · exact g.keep _ (h.root y hy)
    · have : y = x := by simpa using hy
      subst this; exact g.here
  · intro u hu
    by_cases hs : sees p st u
    · obtain ⟨y, h1, h2⟩ := h.why u hs
      exact ⟨y, List.mem_append_left _ h1, h2⟩
    · exact ⟨x, by simp, g.from' u hu hs⟩
  · intro y hy
    obtain ⟨N, n1, n2⟩ := g.new
    rw [n1] at hy
    rcases List.mem_append.1 hy with hy | hy
    · obtain ⟨⟨z, h1, h2, h3⟩, h4⟩ := h.thr y hy
      exact ⟨⟨z, List.mem_append_left _ h1, h2, h3⟩, h4⟩
    · obtain ⟨q1, q2, q3, q4⟩ := n2 y hy
      exact ⟨⟨x, by simp, q1.symm, g.from' _ q2 q3⟩, q4⟩
  · intro u f hf y hy hr
    obtain ⟨N, n1, n2⟩ := g.new
    rcases List.mem_append.1 hy with hy | hy
    · obtain ⟨e, e1, e2⟩ := h.all u f hf y hy hr
      exact ⟨e, e1, by rw [n1]; exact List.mem_append_left _ e2⟩
    · have : y = x := by simpa using hy
      subst this
      by_cases hs : sees p st u
      · obtain ⟨z, z1, z2⟩ := h.why u hs
        obtain ⟨e, e1, e2⟩ := h.all u f hf z z1 z2
        exact ⟨e, Nat.le_trans (hle z z1) e1, by rw [n1]; exact List.mem_append_left _ e2⟩
      · have hu : sees p st' u := by
          have aux : ∀ {v}, EpR cs s p y.1 v → sees p st' v := fun {v} hr => by
            induction hr with
            | here => exact g.here
            | @next u v _ h3 ih =>
              by_cases hs : sees p st u
              · exact g.keep _ (h.close u v hs h3)
              · exact g.close u ih hs v h3
          exact aux hr
        exact ⟨y.2, Nat.le_refl _, g.took u f hu hs hf⟩
  · obtain ⟨N, n1, n2⟩ := g.new
    rw [n1]
    refine List.pairwise_append.2 ⟨h.falls, ?_, ?_⟩
    · refine List.pairwise_iff_forall_sublist.2 fun {a b} hab => ?_
      have ha := n2 a (hab.subset (by simp))
      have hb := n2 b (hab.subset (by simp))
      rw [ha.1, hb.1]; exact Nat.le_refl _
    · intro a ha b hb
      obtain ⟨⟨z, z1, z2, _⟩, _⟩ := h.thr a ha
      rw [(n2 b hb).1, ← z2]; exact hle z z1
  · rcases g.fin with ⟨u, c1, c2, c3, c4⟩ | ⟨c1, c2⟩
    · have hu : u = L := hF.2.2 u _ c1
      subst hu
      refine .inr ⟨x, by simp, c4, g.from' _ c2 c3, ?_⟩
      intro y hy hr
      rcases List.mem_append.1 hy with hy | hy
      · exact absurd hr (hnot _ c3 y hy)
      · have : y = x := by simpa using hy
        subst this; exact Nat.le_refl _
    · rcases h.low with ⟨d1, d2⟩ | ⟨z, z1, z2, z3, z4⟩
      · refine .inl ⟨by rw [c1, d1], fun hL => d2 (c2 L hF.2.1 hL)⟩
      · refine .inr ⟨z, List.mem_append_left _ z1, by rw [c1, z2], z3, fun y hy hr => ?_⟩
        rcases List.mem_append.1 hy with hy | hy
        · exact z4 y hy hr
        · have : y = x := by simpa using hy
          subst this; exact hle z z1
  · have := g.small; have := h.small; omega
  · intro u q hq
    rcases g.other u with e | e
    · rw [e] at hq; exact h.other u q hq
    · rw [e] at hq; cases hq; exact .inl (Int.le_refl _)
theorem done_nil {cs : List Stp} {s : List UInt8} {p L : Nat} {sn : List Int} (hl : sn.length = L + 1) (hn : ∀ (u : Nat) (q : Int), sn[u]? = some q → (p : Int) < q ∨ q = -1) : Done cs s p L [] ⟨sn, [], -1⟩ := by
  have hns : ∀ u, ¬ sees p ⟨sn, [], -1⟩ u := fun u hu => by
    rcases hn u _ hu with h | h <;> omega
  refine ⟨hl, fun u v h => absurd h (hns u), by simp, fun u h => absurd h (hns u), by simp, by simp, List.Pairwise.nil, .inl ⟨rfl, hns L⟩, ?_, ?_⟩
  · have : unseen p sn ≤ sn.length := List.countP_le_length
    simp only [List.length_nil]; omega
  · intro u q hq
    rcases hn u q hq with h | h
    · exact .inl (by omega)
    · exact .inr h

/-- What is under way at a place. -/
structure Inv (cs : List Stp) (s : List UInt8) (p : Nat) (B : List (Nat × Nat)) : Prop where
  sound : ∀ x ∈ B, x.2 ≤ s.length ∧ Rch cs s x.2 x.1 p ∧ ∃ f, cs[x.1]? = some (.take f)
  full : ∀ t e f, e ≤ s.length → Rch cs s e t p → cs[t]? = some (.take f) → ∃ e', e ≤ e' ∧ (t, e') ∈ B
  falls : Falls B
theorem inv_top (cs : List Stp) (s : List UInt8) : Inv cs s (s.length + 1) [] :=
  ⟨by simp, fun t e f he h _ => by have := rch_le h; omega, List.Pairwise.nil⟩
/-- What goes on at a place, of what is under way behind it. -/
def goes (cs : List Stp) (c : Option UInt8) (x : Nat × Nat) : Bool := match cs[x.1]?, c with
  | some (.take f), some c => f c
  | _, _ => false
def roots (cs : List Stp) (c : Option UInt8) (B : List (Nat × Nat)) : List (Nat × Nat) := (B.filter (goes cs c)).map fun x => (x.1 + 1, x.2)
theorem goes_iff {cs : List Stp} {c : Option UInt8} {x : Nat × Nat} : goes cs c x = true ↔ ∃ f a, cs[x.1]? = some (.take f) ∧ c = some a ∧ f a = true := by
  unfold goes
  constructor
  · intro h
    split at h
    · rename_i f a h1; exact ⟨_, _, h1, rfl, h⟩
    · cases h
  · rintro ⟨f, a, h1, rfl, h2⟩
    rw [h1]; exact h2
theorem back_ok {cs : List Stp} {s : List UInt8} {p L : Nat} {B : List (Nat × Nat)} {st : St} (hp : p ≤ s.length) (hI : Inv cs s (p + 1) B) (_hF : Fit cs L) (h : Done cs s p L (roots cs s[p]? B ++ [(0, p)]) st) :
    Inv cs s p st.T ∧ ((st.lo = -1 ∧ ∀ e, e ≤ s.length → ¬ Rch cs s e L p) ∨ ∃ k : Nat, st.lo = k ∧ k ≤ s.length ∧ Rch cs s k L p ∧ ∀ e, e ≤ s.length → Rch cs s e L p → e ≤ k) := by
  have hr1 : ∀ x ∈ roots cs s[p]? B ++ [(0, p)], x.2 ≤ s.length ∧ Rch cs s x.2 x.1 p := by
    intro x hx
    rcases List.mem_append.1 hx with hx | hx
    · obtain ⟨y, hy, rfl⟩ := List.mem_map.1 hx
      obtain ⟨hy1, hy2⟩ := List.mem_filter.1 hy
      obtain ⟨f, a, h1, h2, h3⟩ := goes_iff.1 hy2
      obtain ⟨q1, q2, _⟩ := hI.sound y hy1
      exact ⟨q1, .step q2 (.take h1 h2 h3)⟩
    · have : x = (0, p) := by simpa using hx
      subst this; exact ⟨hp, .start⟩
  have hr2 : ∀ u e, e ≤ s.length → Rch cs s e u p → ∃ x ∈ roots cs s[p]? B ++ [(0, p)], e ≤ x.2 ∧ EpR cs s p x.1 u := by
    intro u e he hr
    rcases rch_how hr with ⟨rfl, h1⟩ | ⟨t, f, c, h1, h2, h3, h4, h5⟩
    · exact ⟨(0, e), by simp, Nat.le_refl _, h1⟩
    · obtain ⟨e', e1, e2⟩ := hI.full t e f he h1 h2
      refine ⟨(t + 1, e'), List.mem_append_left _ (List.mem_map.2 ⟨(t, e'), List.mem_filter.2 ⟨e2, goes_iff.2 ⟨f, c, h2, h3, h4⟩⟩, rfl⟩), e1, h5⟩
  constructor
  · refine ⟨?_, ?_, h.falls⟩
    · intro y hy
      obtain ⟨⟨x, x1, x2, x3⟩, hf⟩ := h.thr y hy
      obtain ⟨a1, a2⟩ := hr1 x x1
      rw [x2] at a1 a2
      exact ⟨a1, x3.rch a2, hf⟩
    · intro t e f he hr hf
      obtain ⟨x, x1, x2, x3⟩ := hr2 t e he hr
      obtain ⟨e', e1, e2⟩ := h.all t f hf x x1 x3
      exact ⟨e', Nat.le_trans x2 e1, e2⟩
  · rcases h.low with ⟨d1, d2⟩ | ⟨z, z1, z2, z3, z4⟩
    · refine .inl ⟨d1, fun e he hr => ?_⟩
      obtain ⟨x, x1, x2, x3⟩ := hr2 L e he hr
      exact d2 (epr_seen h x3 (h.root x x1))
    · obtain ⟨a1, a2⟩ := hr1 z z1
      refine .inr ⟨z.2, z2, a1, z3.rch a2, fun e he hr => ?_⟩
      obtain ⟨x, x1, x2, x3⟩ := hr2 L e he hr
      exact Nat.le_trans x2 (z4 x x1 x3)
theorem roots_falls {cs : List Stp} {s : List UInt8} {p : Nat} {B : List (Nat × Nat)} (hI : Inv cs s (p + 1) B) : Falls (roots cs s[p]? B ++ [(0, p)]) := by
  refine List.pairwise_append.2 ⟨?_, by simp, ?_⟩
  · exact List.pairwise_map.2 ((hI.falls.filter _).imp fun h => h)
  · intro a ha b hb
    have : b = (0, p) := by simpa using hb
    subst this
    obtain ⟨y, hy, rfl⟩ := List.mem_map.1 ha
    have := rch_le (hI.sound y (List.mem_filter.1 hy).1).2.1
    simp only; omega

/-! The steps of an expression lead to steps. -/
def Jmp (C : List Stp) : Prop := ∀ (t : Nat) (x : Stp), C[t]? = some x → match x with
  | .fork a c => 0 ≤ (t : Int) + a ∧ (t : Int) + a ≤ C.length ∧ 0 ≤ (t : Int) + c ∧ (t : Int) + c ≤ C.length
  | .done => False
  | _ => True
theorem jmp_app {C D : List Stp} (hC : Jmp C) (hD : Jmp D) : Jmp (C ++ D) := by
  intro t x h
  by_cases ht : t < C.length
  · rw [List.getElem?_append_left ht] at h
    have := hC t x h
    cases x <;> simp only [List.length_append] at this ⊢
    omega
  · rw [List.getElem?_append_right (by omega)] at h
    have := hD _ x h
    cases x <;> simp only [List.length_append] at this ⊢
    omega
theorem jmp_one {x : Stp} (h : ∀ a c, x ≠ .fork a c) (h2 : x ≠ .done) : Jmp [x] := by
  intro t y hy
  cases t with
  | zero =>
    simp at hy; subst hy
    cases x with
    | fork a c => exact absurd rfl (h a c)
    | done => exact absurd rfl h2
    | _ => trivial
  | succ t => simp at hy
theorem jmp_fork {C : List Stp} {a c : Int} (hC : Jmp C) (h1 : 0 ≤ a) (h2 : a ≤ C.length + 1) (h3 : 0 ≤ c) (h4 : c ≤ C.length + 1) : Jmp (.fork a c :: C) := by
  intro t y hy
  cases t with
  | zero => simp at hy; subst hy; simp only [List.length_cons]; omega
  | succ t =>
    have := hC t y (by simpa using hy)
    cases y <;> simp only [List.length_cons] at this ⊢
    omega
theorem jmp_either {C D : List Stp} (hC : Jmp C) (hD : Jmp D) : Jmp (either C D) := by
  unfold either
  refine jmp_fork (jmp_app hC (jmp_fork hD (by omega) (by omega) (by omega) (by omega))) (by omega) ?_ (by omega) ?_ <;> simp only [List.length_append, List.length_cons] <;> omega
theorem jmp_agn {C : List Stp} (hC : Jmp C) : Jmp (agn C) := by
  unfold agn
  intro t x h
  by_cases ht : t < C.length
  · rw [List.getElem?_append_left ht] at h
    have := hC t x h
    cases x <;> simp only [List.length_append] at this ⊢
    omega
  · rw [List.getElem?_append_right (by omega)] at h
    cases hk : t - C.length with
    | zero =>
      rw [hk] at h; simp at h; subst h
      simp only [List.length_append, List.length_singleton]; omega
    | succ k => rw [hk] at h; simp at h
theorem jmp_maybe {C : List Stp} (hC : Jmp C) : Jmp (maybe C) := by
  unfold maybe
  exact jmp_fork hC (by omega) (by omega) (by omega) (by omega)
mutual
theorem jmp : (n : Nd) → Jmp (code n)
  | .none => by unfold code; exact jmp_one (by simp) (by simp)
  | .set f => by unfold code; exact jmp_one (by simp) (by simp)
  | .bol => by unfold code; exact jmp_one (by simp) (by simp)
  | .eol => by unfold code; exact jmp_one (by simp) (by simp)
  | .seq l => by unfold code; exact jmpS l
  | .alt [] => by unfold code; exact jmp_one (by simp) (by simp)
  | .alt (n :: l) => by unfold code; exact jmpA l _ (jmp n)
  | .star n => by unfold code; exact jmp_maybe (jmp_agn (jmp n))
  | .plus n => by unfold code; exact jmp_agn (jmp n)
  | .opt n => by unfold code; exact jmp_maybe (jmp n)
theorem jmpS : (l : List Nd) → Jmp (codeS l)
  | [] => by unfold codeS; intro t x h; simp at h
  | n :: l => by unfold codeS; exact jmp_app (jmpS l) (jmp n)
theorem jmpA : (l : List Nd) → (C : List Stp) → Jmp C → Jmp (codeA C l)
  | [], C, h => by unfold codeA; exact h
  | n :: l, C, h => by unfold codeA; exact jmpA l _ (jmp_either h (jmp n))
end
theorem fit (n : Nd) : Fit (code n ++ [.done]) (code n).length := by
  refine ⟨by simp, by simp, fun t x h => ?_⟩
  by_cases ht : t < (code n).length
  · rw [List.getElem?_append_left ht] at h
    have := jmp n t x h
    cases x <;> simp only at this ⊢ <;> omega
  · rw [List.getElem?_append_right (by omega)] at h
    cases hk : t - (code n).length with
    | zero => rw [hk] at h; simp at h; subst h; simp only; omega
    | succ k => rw [hk] at h; simp at h
end RxSem
