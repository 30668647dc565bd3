/-
  RxWalk RxBack
-/
import Derived.Test.YtedepknbaakkhabGreatDoorK14
namespace RxSem
inductive Ep (cs : List Stp) (s : List UInt8) (p : Nat) : Nat → Nat → Prop where
  | first {t : Nat} (h : cs[t]? = some .first) (hp : p = 0) : Ep cs s p t (t + 1)
  | last {t : Nat} (h : cs[t]? = some .last) (hp : p = s.length) : Ep cs s p t (t + 1)
  | one {t t' : Nat} {a c : Int} (h : cs[t]? = some (.fork a c)) (ht : (t' : Int) = t + a) : Ep cs s p t t'
  | two {t t' : Nat} {a c : Int} (h : cs[t]? = some (.fork a c)) (ht : (t' : Int) = t + c) : Ep cs s p t t'
theorem Ep.mv {cs : List Stp} {s : List UInt8} {p t t' : Nat} (h : Ep cs s p t t') : Mv cs s t p t' p := by
  cases h with
  | first h hp => subst hp; exact .first h
  | last h hp => subst hp; exact .last h
  | one h ht => exact .one h ht
  | two h ht => exact .two h ht
inductive EpR (cs : List Stp) (s : List UInt8) (p : Nat) : Nat → Nat → Prop where
  | here (t : Nat) : EpR cs s p t t
  | next {t u v : Nat} (h : EpR cs s p t u) (h2 : Ep cs s p u v) : EpR cs s p t v
theorem EpR.head {cs : List Stp} {s : List UInt8} {p t u v : Nat} (h : Ep cs s p t u) (h2 : EpR cs s p u v) : EpR cs s p t v := by
  induction h2 with
  | here => exact .next (.here _) h
  | next _ h3 ih => exact .next ih h3
theorem EpR.rch {cs : List Stp} {s : List UInt8} {p t u e : Nat} (h : EpR cs s p t u) (h2 : Rch cs s e t p) : Rch cs s e u p := by
  induction h with
  | here => exact h2
  | next _ h3 ih => exact .step ih h3.mv
theorem mv_cases {cs : List Stp} {s : List UInt8} {t p t' p' : Nat} (h : Mv cs s t p t' p') : (p = p' ∧ Ep cs s p' t t') ∨ (p = p' + 1 ∧ t' = t + 1 ∧ ∃ f c, cs[t]? = some (.take f) ∧ s[p']? = some c ∧ f c = true) := by
  cases h with
  | take h hc hf => exact .inr ⟨rfl, rfl, _, _, h, hc, hf⟩
  | first h => exact .inl ⟨rfl, .first h rfl⟩
  | last h => exact .inl ⟨rfl, .last h rfl⟩
  | one h ht => exact .inl ⟨rfl, .one h ht⟩
  | two h ht => exact .inl ⟨rfl, .two h ht⟩
theorem rch_le {cs : List Stp} {s : List UInt8} {e t p : Nat} (h : Rch cs s e t p) : p ≤ e := by
  induction h with
  | start => exact Nat.le_refl _
  | step _ hm ih => rcases mv_cases hm with ⟨rfl, _⟩ | ⟨rfl, _⟩ <;> omega
theorem rch_how {cs : List Stp} {s : List UInt8} {e u p : Nat} (h : Rch cs s e u p) : (e = p ∧ EpR cs s p 0 u) ∨ ∃ t f c, Rch cs s e t (p + 1) ∧ cs[t]? = some (.take f) ∧ s[p]? = some c ∧ f c = true ∧ EpR cs s p (t + 1) u := by
  induction h with
  | start => exact .inl ⟨rfl, .here 0⟩
  | @step t p t' p' h hm ih =>
    rcases mv_cases hm with ⟨rfl, h1⟩ | ⟨rfl, rfl, f, c, h1, h2, h3⟩
    · rcases ih with ⟨rfl, ih⟩ | ⟨t2, f, c, h4, h5, h6, h7, h8⟩
      · exact .inl ⟨rfl, .next ih h1⟩
      · exact .inr ⟨t2, f, c, h4, h5, h6, h7, .next h8 h1⟩
    · exact .inr ⟨t, f, c, h, h1, h2, h3, .here _⟩
structure St where
  sn : List Int
  T : List (Nat × Nat)
  lo : Int
def sees (p : Nat) (st : St) (t : Nat) : Prop := st.sn[t]? = some (p : Int)
def mark (p t : Nat) (st : St) : St := ⟨st.sn.set t (p : Int), st.T, st.lo⟩
theorem sees_mark {p t u : Nat} {st : St} (ht : t < st.sn.length) : sees p (mark p t st) u ↔ u = t ∨ sees p st u := by
  unfold sees mark
  by_cases h : u = t
  · subst h; simp [List.getElem?_set_self ht]
  · simp only [List.getElem?_set_ne (fun e => h e.symm)]
    simp [h]
inductive Ent (cs : List Stp) (s : List UInt8) (p e : Nat) : Nat → St → St → Prop where
  | seen {t : Nat} {st : St} (h : sees p st t) : Ent cs s p e t st st
  | take {t : Nat} {st : St} {f : UInt8 → Bool} (h : ¬ sees p st t) (hc : cs[t]? = some (.take f)) : Ent cs s p e t st ⟨st.sn.set t (p : Int), st.T ++ [(t, e)], st.lo⟩
  | first {t : Nat} {st st' : St} (h : ¬ sees p st t) (hc : cs[t]? = some .first) (hp : p = 0) (r : Ent cs s p e (t + 1) (mark p t st) st') : Ent cs s p e t st st'
  | firstNo {t : Nat} {st : St} (h : ¬ sees p st t) (hc : cs[t]? = some .first) (hp : p ≠ 0) : Ent cs s p e t st (mark p t st)
  | last {t : Nat} {st st' : St} (h : ¬ sees p st t) (hc : cs[t]? = some .last) (hp : p = s.length) (r : Ent cs s p e (t + 1) (mark p t st) st') : Ent cs s p e t st st'
  | lastNo {t : Nat} {st : St} (h : ¬ sees p st t) (hc : cs[t]? = some .last) (hp : p ≠ s.length) : Ent cs s p e t st (mark p t st)
  | fork {t t1 t2 : Nat} {a c : Int} {st st1 st2 : St} (h : ¬ sees p st t) (hc : cs[t]? = some (.fork a c)) (h1 : (t1 : Int) = t + a) (h2 : (t2 : Int) = t + c) (r1 : Ent cs s p e t1 (mark p t st) st1) (r2 : Ent cs s p e t2 st1 st2) : Ent cs s p e t st st2
  | done {t : Nat} {st : St} (h : ¬ sees p st t) (hc : cs[t]? = some .done) : Ent cs s p e t st ⟨st.sn.set t (p : Int), st.T, e⟩
def Fit (cs : List Stp) (L : Nat) : Prop := cs.length = L + 1 ∧ cs[L]? = some .done ∧ ∀ (t : Nat) (x : Stp), cs[t]? = some x → match x with
  | .take _ => t < L
  | .first => t < L
  | .last => t < L
  | .fork a c => t < L ∧ 0 ≤ (t : Int) + a ∧ (t : Int) + a ≤ L ∧ 0 ≤ (t : Int) + c ∧ (t : Int) + c ≤ L
  | .done => t = L
def unseen (p : Nat) (sn : List Int) : Nat := sn.countP (fun x => x != (p : Int))
theorem unseen_set {p : Nat} : ∀ {sn : List Int} {t : Nat}, t < sn.length → ¬ sn[t]? = some (p : Int) → unseen p (sn.set t (p : Int)) + 1 = unseen p sn
  | [], _, h, _ => by simp at h
  | x :: sn, 0, _, h => by
    have hx : (x != (p : Int)) = true := by simpa using h
    unfold unseen
    rw [List.set_cons_zero, List.countP_cons, List.countP_cons]
    simp [hx]
  | x :: sn, t + 1, ht, h => by
    have := unseen_set (p := p) (sn := sn) (t := t) (by simpa using ht) (by simpa using h)
    unfold unseen at this ⊢
    rw [List.set_cons_succ, List.countP_cons, List.countP_cons]
    omega
structure Grew (cs : List Stp) (s : List UInt8) (p e : Nat) (t : Nat) (st st' : St) : Prop where
  len : st'.sn.length = st.sn.length
  keep : ∀ u, sees p st u → sees p st' u
  here : sees p st' t
  from' : ∀ u, sees p st' u → ¬ sees p st u → EpR cs s p t u
  close : ∀ u, sees p st' u → ¬ sees p st u → ∀ v, Ep cs s p u v → sees p st' v
  new : ∃ N, st'.T = st.T ++ N ∧ ∀ x ∈ N, x.2 = e ∧ sees p st' x.1 ∧ ¬ sees p st x.1 ∧ ∃ f, cs[x.1]? = some (.take f)
  took : ∀ u f, sees p st' u → ¬ sees p st u → cs[u]? = some (.take f) → (u, e) ∈ st'.T
  fin : (∃ u, cs[u]? = some .done ∧ sees p st' u ∧ ¬ sees p st u ∧ st'.lo = e) ∨ (st'.lo = st.lo ∧ ∀ u, cs[u]? = some .done → sees p st' u → sees p st u)
  small : st'.T.length + unseen p st'.sn ≤ st.T.length + unseen p st.sn
  less : unseen p st'.sn ≤ unseen p st.sn
  other : ∀ u : Nat, st'.sn[u]? = st.sn[u]? ∨ st'.sn[u]? = some (p : Int)
theorem some_ne {cs : List Stp} {t : Nat} {x y : Stp} (h : cs[t]? = some x) (h2 : cs[t]? = some y) (hxy : x ≠ y) : False := by rw [h] at h2; exact hxy (Option.some.inj h2)
theorem set_other {sn : List Int} {t p : Nat} (u : Nat) : (sn.set t (p : Int))[u]? = sn[u]? ∨ (sn.set t (p : Int))[u]? = some (p : Int) := by
  by_cases h : u = t
  · subst h
    by_cases hl : u < sn.length
    · right; exact List.getElem?_set_self hl
    · left; rw [List.getElem?_eq_none (by simp; omega), List.getElem?_eq_none (by omega)]
  · left; exact List.getElem?_set_ne (fun e => h e.symm)
theorem grew_mark {cs : List Stp} {s : List UInt8} {p e t : Nat} {st : St} (ht : t < st.sn.length) (h : ¬ sees p st t) (hE : ∀ v, ¬ Ep cs s p t v) (hT : ∀ f, cs[t]? ≠ some (.take f)) (hD : cs[t]? ≠ some .done) : Grew cs s p e t st (mark p t st) where
  len := by unfold mark; simp
  keep := fun u hu => (sees_mark ht).2 (.inr hu)
  here := (sees_mark ht).2 (.inl rfl)
  from' := fun u hu hn => by
    rcases (sees_mark ht).1 hu with rfl | hu
    · exact .here _
    · exact absurd hu hn
  close := fun u hu hn v hv => by
    rcases (sees_mark ht).1 hu with rfl | hu
    · exact absurd hv (hE v)
    · exact absurd hu hn
  new := ⟨[], by unfold mark; simp, by simp⟩
  took := fun u f hu hn hc => by
    rcases (sees_mark ht).1 hu with rfl | hu
    · exact absurd hc (hT f)
    · exact absurd hu hn
  fin := .inr ⟨rfl, fun u hc hu => by
    rcases (sees_mark ht).1 hu with rfl | hu
    · exact absurd hc hD
    · exact hu⟩
  small := by have := unseen_set ht h; unfold mark; simp only; omega
  less := by have := unseen_set ht h; unfold mark; simp only; omega
  other := fun u => set_other u
theorem Ent.grew {cs : List Stp} {s : List UInt8} {p e L : Nat} (hF : Fit cs L) {t : Nat} {st st' : St} (h : Ent cs s p e t st st') : st.sn.length = L + 1 → t ≤ L → Grew cs s p e t st st' := by
  induction h with
  | @seen t st h =>
    intro hl ht
    exact ⟨rfl, fun _ h => h, h, fun u h1 h2 => absurd h1 h2, fun u h1 h2 => absurd h1 h2, ⟨[], by simp, by simp⟩, fun u f h1 h2 => absurd h1 h2, .inr ⟨rfl, fun _ _ h => h⟩, Nat.le_refl _, Nat.le_refl _, fun u => .inl rfl⟩
  | @take t st f h hc =>
    intro hl ht
    have hlt : t < st.sn.length := by omega
    have hs : ∀ u, sees p ⟨st.sn.set t (p : Int), st.T ++ [(t, e)], st.lo⟩ u ↔ u = t ∨ sees p st u := fun u => sees_mark (st := st) hlt
    have hu := unseen_set (p := p) hlt h
    refine ⟨by simp, fun u hu => (hs u).2 (.inr hu), (hs t).2 (.inl rfl), ?_, ?_, ⟨[(t, e)], rfl, ?_⟩, ?_, .inr ⟨rfl, ?_⟩, ?_, ?_, fun u => set_other u⟩
    · intro u h1 h2
      rcases (hs u).1 h1 with rfl | h1
      · exact .here _
      · exact absurd h1 h2
    · intro u h1 h2 v hv
      rcases (hs u).1 h1 with rfl | h1
      · cases hv with
        | first h3 => exact (some_ne hc h3 (by simp)).elim
        | last h3 => exact (some_ne hc h3 (by simp)).elim
        | one h3 => exact (some_ne hc h3 (by simp)).elim
        | two h3 => exact (some_ne hc h3 (by simp)).elim
      · exact absurd h1 h2
    · intro x hx
      have : x = (t, e) := by simpa using hx
      subst this
      exact ⟨rfl, (hs t).2 (.inl rfl), h, f, hc⟩
    · intro u f h1 h2 _
      rcases (hs u).1 h1 with rfl | h1
      · simp
      · exact absurd h1 h2
    · intro u h3 h1
      rcases (hs u).1 h1 with rfl | h1
      · exact (some_ne hc h3 (by simp)).elim
      · exact h1
    · simp only [List.length_append, List.length_singleton]; omega
    · simp only; omega
  | @first t st st' h hc hp r ih =>
    intro hl ht
    have hlt : t < st.sn.length := by omega
    have hf := hF.2.2 t _ hc
    have g := ih (by unfold mark; simpa using hl) (by simp only at hf; omega)
    have hu := unseen_set (p := p) hlt h
    have hs : ∀ u, sees p (mark p t st) u ↔ u = t ∨ sees p st u := fun u => sees_mark hlt
    have hE : Ep cs s p t (t + 1) := .first hc hp
    have hEE : ∀ v, Ep cs s p t v → v = t + 1 := fun v hv => by
      cases hv with
      | first h3 => rfl
      | last h3 => rfl
      | one h3 => exact (some_ne hc h3 (by simp)).elim
      | two h3 => exact (some_ne hc h3 (by simp)).elim
    exact one_more hs hl hlt hc (by simp) (by simp) hu hE hEE g
  | @firstNo t st h hc hp =>
    intro hl ht
    refine grew_mark (by omega) h ?_ ?_ ?_
    · intro v hv
      cases hv with
      | first _ h3 => exact hp h3
      | last h3 => exact some_ne hc h3 (by simp)
      | one h3 => exact some_ne hc h3 (by simp)
      | two h3 => exact some_ne hc h3 (by simp)
    · intro f h3; exact some_ne hc h3 (by simp)
    · intro h3; exact some_ne hc h3 (by simp)
  | @last t st st' h hc hp r ih =>
    intro hl ht
    have hlt : t < st.sn.length := by omega
    have hf := hF.2.2 t _ hc
    have g := ih (by unfold mark; simpa using hl) (by simp only at hf; omega)
    have hu := unseen_set (p := p) hlt h
    have hs : ∀ u, sees p (mark p t st) u ↔ u = t ∨ sees p st u := fun u => sees_mark hlt
    have hE : Ep cs s p t (t + 1) := .last hc hp
    have hEE : ∀ v, Ep cs s p t v → v = t + 1 := fun v hv => by
      cases hv with
      | first h3 => rfl
      | last h3 => rfl
      | one h3 => exact (some_ne hc h3 (by simp)).elim
      | two h3 => exact (some_ne hc h3 (by simp)).elim
    exact one_more hs hl hlt hc (by simp) (by simp) hu hE hEE g
  | @lastNo t st h hc hp =>
    intro hl ht
    refine grew_mark (by omega) h ?_ ?_ ?_
    · intro v hv
      cases hv with
      | first h3 => exact some_ne hc h3 (by simp)
      | last _ h3 => exact hp h3
      | one h3 => exact some_ne hc h3 (by simp)
      | two h3 => exact some_ne hc h3 (by simp)
    · intro f h3; exact some_ne hc h3 (by simp)
    · intro h3; exact some_ne hc h3 (by simp)
  | @fork t t1 t2 a c st st1 st2 h hc h1 h2 r1 r2 ih1 ih2 =>
    intro hl ht
    have hlt : t < st.sn.length := by omega
    have hf := hF.2.2 t _ hc
    simp only at hf
    have g1 := ih1 (by unfold mark; simpa using hl) (by omega)
    have l1 : st1.sn.length = L + 1 := by rw [g1.len]; unfold mark; simpa using hl
    have g2 := ih2 l1 (by omega)
    have hu := unseen_set (p := p) hlt h
    have hs : ∀ u, sees p (mark p t st) u ↔ u = t ∨ sees p st u := fun u => sees_mark hlt
    have e1 : Ep cs s p t t1 := .one hc h1
    have e2 : Ep cs s p t t2 := .two hc h2
    have hEE : ∀ v, Ep cs s p t v → v = t1 ∨ v = t2 := fun v hv => by
      cases hv with
      | first h3 => exact (some_ne hc h3 (by simp)).elim
      | last h3 => exact (some_ne hc h3 (by simp)).elim
      | one h3 ht => rw [hc] at h3; cases h3; left; omega
      | two h3 ht => rw [hc] at h3; cases h3; right; omega
    refine ⟨by rw [g2.len, l1, hl], fun u hu => g2.keep u (g1.keep u ((hs u).2 (.inr hu))), g2.keep t (g1.keep t ((hs t).2 (.inl rfl))), ?_, ?_, ?_, ?_, ?_, ?_, ?_, ?_⟩
    · intro u a1 a2
      by_cases b1 : sees p st1 u
      · by_cases b2 : sees p (mark p t st) u
        · rcases (hs u).1 b2 with rfl | b2
          · exact .here _
          · exact absurd b2 a2
        · exact EpR.head e1 (g1.from' u b1 b2)
      · exact EpR.head e2 (g2.from' u a1 b1)
    · intro u a1 a2 v hv
      by_cases b1 : sees p st1 u
      · by_cases b2 : sees p (mark p t st) u
        · rcases (hs u).1 b2 with rfl | b2
          · rcases hEE v hv with rfl | rfl
            · exact g2.keep _ g1.here
            · exact g2.here
          · exact absurd b2 a2
        · exact g2.keep _ (g1.close u b1 b2 v hv)
      · exact g2.close u a1 b1 v hv
    · obtain ⟨N1, n1, n2⟩ := g1.new
      obtain ⟨N2, n3, n4⟩ := g2.new
      refine ⟨N1 ++ N2, by rw [n3, n1]; unfold mark; simp, fun x hx => ?_⟩
      rcases List.mem_append.1 hx with hx | hx
      · obtain ⟨q1, q2, q3, q4⟩ := n2 x hx
        exact ⟨q1, g2.keep _ q2, fun q => q3 ((hs _).2 (.inr q)), q4⟩
      · obtain ⟨q1, q2, q3, q4⟩ := n4 x hx
        exact ⟨q1, q2, fun q => q3 (g1.keep _ ((hs _).2 (.inr q))), q4⟩
    · intro u f a1 a2 hff
      by_cases b1 : sees p st1 u
      · by_cases b2 : sees p (mark p t st) u
        · rcases (hs u).1 b2 with rfl | b2
          · exact (some_ne hc hff (by simp)).elim
          · exact absurd b2 a2
        · obtain ⟨N2, n3, n4⟩ := g2.new
          rw [n3]; exact List.mem_append_left _ (g1.took u f b1 b2 hff)
      · exact g2.took u f a1 b1 hff
    · rcases g2.fin with ⟨u, c1, c2, c3, c4⟩ | ⟨c1, c2⟩
      · exact .inl ⟨u, c1, c2, fun q => c3 (g1.keep _ ((hs _).2 (.inr q))), c4⟩
      · rcases g1.fin with ⟨u, d1, d2, d3, d4⟩ | ⟨d1, d2⟩
        · exact .inl ⟨u, d1, g2.keep _ d2, fun q => d3 ((hs _).2 (.inr q)), by rw [c1, d4]⟩
        · refine .inr ⟨by rw [c1, d1]; rfl, fun u q1 q2 => ?_⟩
          rcases (hs u).1 (d2 u q1 (c2 u q1 q2)) with rfl | q
          · exact (some_ne hc q1 (by simp)).elim
          · exact q
    · have a1 := g1.small; have a2 := g2.small
      unfold mark at a1; simp only at a1; omega
    · have a1 := g1.less; have a2 := g2.less
      unfold mark at a1; simp only at a1; omega
    · intro u
      rcases g2.other u with q | q
      · rcases g1.other u with q' | q'
        · rcases set_other (sn := st.sn) (t := t) (p := p) u with q'' | q''
          · exact .inl (by rw [q, q']; exact q'')
          · exact .inr (by rw [q, q']; exact q'')
        · exact .inr (by rw [q, q'])
      · exact .inr q
  | @done t st h hc =>
    intro hl ht
    have hlt : t < st.sn.length := by omega
    have hs : ∀ u, sees p ⟨st.sn.set t (p : Int), st.T, e⟩ u ↔ u = t ∨ sees p st u := fun u => sees_mark (st := st) hlt
    have hu := unseen_set (p := p) hlt h
    refine ⟨by simp, fun u hu => (hs u).2 (.inr hu), (hs t).2 (.inl rfl), ?_, ?_, ⟨[], by simp, by simp⟩, ?_, .inl ⟨t, hc, (hs t).2 (.inl rfl), h, rfl⟩, ?_, ?_, fun u => set_other u⟩
    · intro u h1 h2
      rcases (hs u).1 h1 with rfl | h1
      · exact .here _
      · exact absurd h1 h2
    · intro u h1 h2 v hv
      rcases (hs u).1 h1 with rfl | h1
      · cases hv with
        | first h3 => exact (some_ne hc h3 (by simp)).elim
        | last h3 => exact (some_ne hc h3 (by simp)).elim
        | one h3 => exact (some_ne hc h3 (by simp)).elim
        | two h3 => exact (some_ne hc h3 (by simp)).elim
      · exact absurd h1 h2
    · intro u f h1 h2 h3
      rcases (hs u).1 h1 with rfl | h1
      · exact (some_ne hc h3 (by simp)).elim
      · exact absurd h1 h2
    · simp only; omega
    · simp only; omega
where
  one_more {cs : List Stp} {s : List UInt8} {p e L : Nat} {t : Nat} {st st' : St} {x : Stp} (hs : ∀ u, sees p (mark p t st) u ↔ u = t ∨ sees p st u) (hl : st.sn.length = L + 1) (hlt : t < st.sn.length) (hc : cs[t]? = some x) (hx : ∀ f, x ≠ .take f) (hx2 : x ≠ .done) (hu : unseen p (st.sn.set t (p : Int)) + 1 = unseen p st.sn) (hE : Ep cs s p t (t + 1)) (hEE : ∀ v, Ep cs s p t v → v = t + 1) (g : Grew cs s p e (t + 1) (mark p t st) st') : Grew cs s p e t st st' := by
    refine ⟨by rw [g.len]; unfold mark; simp, fun u hu => g.keep u ((hs u).2 (.inr hu)), g.keep t ((hs t).2 (.inl rfl)), ?_, ?_, ?_, ?_, ?_, ?_, ?_, ?_⟩
    · intro u a1 a2
      by_cases b2 : sees p (mark p t st) u
      · rcases (hs u).1 b2 with rfl | b2
        · exact .here _
        · exact absurd b2 a2
      · exact EpR.head hE (g.from' u a1 b2)
    · intro u a1 a2 v hv
      by_cases b2 : sees p (mark p t st) u
      · rcases (hs u).1 b2 with rfl | b2
        · rw [hEE v hv]; exact g.here
        · exact absurd b2 a2
      · exact g.close u a1 b2 v hv
    · obtain ⟨N, n1, n2⟩ := g.new
      refine ⟨N, by rw [n1]; rfl, fun x hx => ?_⟩
      obtain ⟨q1, q2, q3, q4⟩ := n2 x hx
      exact ⟨q1, q2, fun q => q3 ((hs _).2 (.inr q)), q4⟩
    · intro u f a1 a2 hf
      by_cases b2 : sees p (mark p t st) u
      · rcases (hs u).1 b2 with rfl | b2
        · exact (some_ne hc hf (hx f)).elim
        · exact absurd b2 a2
      · exact g.took u f a1 b2 hf
    · rcases g.fin with ⟨u, c1, c2, c3, c4⟩ | ⟨c1, c2⟩
      · exact .inl ⟨u, c1, c2, fun q => c3 ((hs _).2 (.inr q)), c4⟩
      · refine .inr ⟨by rw [c1]; rfl, fun u q1 q2 => ?_⟩
        rcases (hs u).1 (c2 u q1 q2) with rfl | q
        · exact (some_ne hc q1 hx2).elim
        · exact q
    · have a1 := g.small
      unfold mark at a1; simp only at a1; omega
    · have a1 := g.less
      unfold mark at a1; simp only at a1; omega
    · intro u
      rcases g.other u with q | q
      · rcases set_other (sn := st.sn) (t := t) (p := p) u with q'' | q''
        · exact .inl (by rw [q]; exact q'')
        · exact .inr (by rw [q]; exact q'')
      · exact .inr q
end RxSem
namespace RxSem
def Falls (l : List (Nat × Nat)) : Prop := l.Pairwise fun x y => y.2 ≤ x.2
structure Done (cs : List Stp) (s : List UInt8) (p L : Nat) (l : List (Nat × Nat)) (st : St) : Prop where
  len : st.sn.length = L + 1
  close : ∀ u v, sees p st u → Ep cs s p u v → sees p st v
  root : ∀ x ∈ l, sees p st x.1
  why : ∀ u, sees p st u → ∃ x ∈ l, EpR cs s p x.1 u
  thr : ∀ y ∈ st.T, (∃ x ∈ l, x.2 = y.2 ∧ EpR cs s p x.1 y.1) ∧ ∃ f, cs[y.1]? = some (.take f)
  all : ∀ u f, cs[u]? = some (.take f) → ∀ x ∈ l, EpR cs s p x.1 u → ∃ e, x.2 ≤ e ∧ (u, e) ∈ st.T
  falls : Falls st.T
  low : (st.lo = -1 ∧ ¬ sees p st L) ∨ ∃ x ∈ l, st.lo = x.2 ∧ EpR cs s p x.1 L ∧ ∀ y ∈ l, EpR cs s p y.1 L → y.2 ≤ x.2
  small : st.T.length + unseen p st.sn ≤ L + 1
  other : ∀ (u : Nat) (q : Int), st.sn[u]? = some q → (p : Int) ≤ q ∨ q = -1
theorem epr_seen {cs : List Stp} {s : List UInt8} {p L : Nat} {l : List (Nat × Nat)} {st : St} (h : Done cs s p L l st) {t u : Nat} (h1 : EpR cs s p t u) (h2 : sees p st t) : sees p st u := by
  induction h1 with
  | here => exact h2
  | next _ h3 ih => exact h.close _ _ ih h3
theorem done_snoc {cs : List Stp} {s : List UInt8} {p L : Nat} {l : List (Nat × Nat)} {x : Nat × Nat} {st st' : St} (hF : Fit cs L) (h : Done cs s p L l st) (hx : x.1 ≤ L) (hle : ∀ y ∈ l, x.2 ≤ y.2) (hE : Ent cs s p x.2 x.1 st st') : Done cs s p L (l ++ [x]) st' := by
  have g := hE.grew hF h.len hx
  have hnot : ∀ u, ¬ sees p st u → ∀ y ∈ l, ¬ EpR cs s p y.1 u := fun u hu y hy hr => hu (epr_seen h hr (h.root y hy))
  refine ⟨by rw [g.len, h.len], ?_, ?_, ?_, ?_, ?_, ?_, ?_, ?_, ?_⟩
  · intro u v hu hv
    by_cases hs : sees p st u
    · exact g.keep _ (h.close u v hs hv)
    · exact g.close u hu hs v hv
  · intro y hy
    rcases List.mem_append.1 hy with hy | hy
    · exact g.keep _ (h.root y hy)
    · have : y = x := by simpa using hy
      subst this; exact g.here
  · intro u hu
    by_cases hs : sees p st u
    · obtain ⟨y, h1, h2⟩ := h.why u hs
      exact ⟨y, List.mem_append_left _ h1, h2⟩
    · exact ⟨x, by simp, g.from' u hu hs⟩
  · intro y hy
    obtain ⟨N, n1, n2⟩ := g.new
    rw [n1] at hy
    rcases List.mem_append.1 hy with hy | hy
    · obtain ⟨⟨z, h1, h2, h3⟩, h4⟩ := h.thr y hy
      exact ⟨⟨z, List.mem_append_left _ h1, h2, h3⟩, h4⟩
    · obtain ⟨q1, q2, q3, q4⟩ := n2 y hy
      exact ⟨⟨x, by simp, q1.symm, g.from' _ q2 q3⟩, q4⟩
  · intro u f hf y hy hr
    obtain ⟨N, n1, n2⟩ := g.new
    rcases List.mem_append.1 hy with hy | hy
    · obtain ⟨e, e1, e2⟩ := h.all u f hf y hy hr
      exact ⟨e, e1, by rw [n1]; exact List.mem_append_left _ e2⟩
    · have : y = x := by simpa using hy
      subst this
      by_cases hs : sees p st u
      · obtain ⟨z, z1, z2⟩ := h.why u hs
        obtain ⟨e, e1, e2⟩ := h.all u f hf z z1 z2
        exact ⟨e, Nat.le_trans (hle z z1) e1, by rw [n1]; exact List.mem_append_left _ e2⟩
      · have hu : sees p st' u := by
          have aux : ∀ {v}, EpR cs s p y.1 v → sees p st' v := fun {v} hr => by
            induction hr with
            | here => exact g.here
            | @next u v _ h3 ih =>
              by_cases hs : sees p st u
              · exact g.keep _ (h.close u v hs h3)
              · exact g.close u ih hs v h3
          exact aux hr
        exact ⟨y.2, Nat.le_refl _, g.took u f hu hs hf⟩
  · obtain ⟨N, n1, n2⟩ := g.new
    rw [n1]
    refine List.pairwise_append.2 ⟨h.falls, ?_, ?_⟩
    · refine List.pairwise_iff_forall_sublist.2 fun {a b} hab => ?_
      have ha := n2 a (hab.subset (by simp))
      have hb := n2 b (hab.subset (by simp))
      rw [ha.1, hb.1]; exact Nat.le_refl _
    · intro a ha b hb
      obtain ⟨⟨z, z1, z2, _⟩, _⟩ := h.thr a ha
      rw [(n2 b hb).1, ← z2]; exact hle z z1
  · rcases g.fin with ⟨u, c1, c2, c3, c4⟩ | ⟨c1, c2⟩
    · have hu : u = L := hF.2.2 u _ c1
      subst hu
      refine .inr ⟨x, by simp, c4, g.from' _ c2 c3, ?_⟩
      intro y hy hr
      rcases List.mem_append.1 hy with hy | hy
      · exact absurd hr (hnot _ c3 y hy)
      · have : y = x := by simpa using hy
        subst this; exact Nat.le_refl _
    · rcases h.low with ⟨d1, d2⟩ | ⟨z, z1, z2, z3, z4⟩
      · refine .inl ⟨by rw [c1, d1], fun hL => d2 (c2 L hF.2.1 hL)⟩
      · refine .inr ⟨z, List.mem_append_left _ z1, by rw [c1, z2], z3, fun y hy hr => ?_⟩
        rcases List.mem_append.1 hy with hy | hy
        · exact z4 y hy hr
        · have : y = x := by simpa using hy
          subst this; exact hle z z1
  · have := g.small; have := h.small; omega
  · intro u q hq
    rcases g.other u with e | e
    · rw [e] at hq; exact h.other u q hq
    · rw [e] at hq; cases hq; exact .inl (Int.le_refl _)
theorem done_nil {cs : List Stp} {s : List UInt8} {p L : Nat} {sn : List Int} (hl : sn.length = L + 1) (hn : ∀ (u : Nat) (q : Int), sn[u]? = some q → (p : Int) < q ∨ q = -1) : Done cs s p L [] ⟨sn, [], -1⟩ := by
  have hns : ∀ u, ¬ sees p ⟨sn, [], -1⟩ u := fun u hu => by
    rcases hn u _ hu with h | h <;> omega
  refine ⟨hl, fun u v h => absurd h (hns u), by simp, fun u h => absurd h (hns u), by simp, by simp, List.Pairwise.nil, .inl ⟨rfl, hns L⟩, ?_, ?_⟩
  · have : unseen p sn ≤ sn.length := List.countP_le_length
    simp only [List.length_nil]; omega
  · intro u q hq
    rcases hn u q hq with h | h
    · exact .inl (by omega)
    · exact .inr h
structure Inv (cs : List Stp) (s : List UInt8) (p : Nat) (B : List (Nat × Nat)) : Prop where
  sound : ∀ x ∈ B, x.2 ≤ s.length ∧ Rch cs s x.2 x.1 p ∧ ∃ f, cs[x.1]? = some (.take f)
  full : ∀ t e f, e ≤ s.length → Rch cs s e t p → cs[t]? = some (.take f) → ∃ e', e ≤ e' ∧ (t, e') ∈ B
  falls : Falls B
theorem inv_top (cs : List Stp) (s : List UInt8) : Inv cs s (s.length + 1) [] :=
  ⟨by simp, fun t e f he h _ => by have := rch_le h; omega, List.Pairwise.nil⟩
def goes (cs : List Stp) (c : Option UInt8) (x : Nat × Nat) : Bool := match cs[x.1]?, c with
  | some (.take f), some c => f c
  | _, _ => false
def roots (cs : List Stp) (c : Option UInt8) (B : List (Nat × Nat)) : List (Nat × Nat) := (B.filter (goes cs c)).map fun x => (x.1 + 1, x.2)
theorem goes_iff {cs : List Stp} {c : Option UInt8} {x : Nat × Nat} : goes cs c x = true ↔ ∃ f a, cs[x.1]? = some (.take f) ∧ c = some a ∧ f a = true := by
  unfold goes
  constructor
  · intro h
    split at h
    · rename_i f a h1; exact ⟨_, _, h1, rfl, h⟩
    · cases h
  · rintro ⟨f, a, h1, rfl, h2⟩
    rw [h1]; exact h2
theorem back_ok {cs : List Stp} {s : List UInt8} {p L : Nat} {B : List (Nat × Nat)} {st : St} (hp : p ≤ s.length) (hI : Inv cs s (p + 1) B) (_hF : Fit cs L) (h : Done cs s p L (roots cs s[p]? B ++ [(0, p)]) st) :
    Inv cs s p st.T ∧ ((st.lo = -1 ∧ ∀ e, e ≤ s.length → ¬ Rch cs s e L p) ∨ ∃ k : Nat, st.lo = k ∧ k ≤ s.length ∧ Rch cs s k L p ∧ ∀ e, e ≤ s.length → Rch cs s e L p → e ≤ k) := by
  have hr1 : ∀ x ∈ roots cs s[p]? B ++ [(0, p)], x.2 ≤ s.length ∧ Rch cs s x.2 x.1 p := by
    intro x hx
    rcases List.mem_append.1 hx with hx | hx
    · obtain ⟨y, hy, rfl⟩ := List.mem_map.1 hx
      obtain ⟨hy1, hy2⟩ := List.mem_filter.1 hy
      obtain ⟨f, a, h1, h2, h3⟩ := goes_iff.1 hy2
      obtain ⟨q1, q2, _⟩ := hI.sound y hy1
      exact ⟨q1, .step q2 (.take h1 h2 h3)⟩
    · have : x = (0, p) := by simpa using hx
      subst this; exact ⟨hp, .start⟩
  have hr2 : ∀ u e, e ≤ s.length → Rch cs s e u p → ∃ x ∈ roots cs s[p]? B ++ [(0, p)], e ≤ x.2 ∧ EpR cs s p x.1 u := by
    intro u e he hr
    rcases rch_how hr with ⟨rfl, h1⟩ | ⟨t, f, c, h1, h2, h3, h4, h5⟩
    · exact ⟨(0, e), by simp, Nat.le_refl _, h1⟩
    · obtain ⟨e', e1, e2⟩ := hI.full t e f he h1 h2
      refine ⟨(t + 1, e'), List.mem_append_left _ (List.mem_map.2 ⟨(t, e'), List.mem_filter.2 ⟨e2, goes_iff.2 ⟨f, c, h2, h3, h4⟩⟩, rfl⟩), e1, h5⟩
  constructor
  · refine ⟨?_, ?_, h.falls⟩
    · intro y hy
      obtain ⟨⟨x, x1, x2, x3⟩, hf⟩ := h.thr y hy
      obtain ⟨a1, a2⟩ := hr1 x x1
      rw [x2] at a1 a2
      exact ⟨a1, x3.rch a2, hf⟩
    · intro t e f he hr hf
      obtain ⟨x, x1, x2, x3⟩ := hr2 t e he hr
      obtain ⟨e', e1, e2⟩ := h.all t f hf x x1 x3
      exact ⟨e', Nat.le_trans x2 e1, e2⟩
  · rcases h.low with ⟨d1, d2⟩ | ⟨z, z1, z2, z3, z4⟩
    · refine .inl ⟨d1, fun e he hr => ?_⟩
      obtain ⟨x, x1, x2, x3⟩ := hr2 L e he hr
      exact d2 (epr_seen h x3 (h.root x x1))
    · obtain ⟨a1, a2⟩ := hr1 z z1
      refine .inr ⟨z.2, z2, a1, z3.rch a2, fun e he hr => ?_⟩
      obtain ⟨x, x1, x2, x3⟩ := hr2 L e he hr
      exact Nat.le_trans x2 (z4 x x1 x3)
def Jmp (C : List Stp) : Prop := ∀ (t : Nat) (x : Stp), C[t]? = some x → match x with
  | .fork a c => 0 ≤ (t : Int) + a ∧ (t : Int) + a ≤ C.length ∧ 0 ≤ (t : Int) + c ∧ (t : Int) + c ≤ C.length
  | .done => False
  | _ => True
theorem jmp_app {C D : List Stp} (hC : Jmp C) (hD : Jmp D) : Jmp (C ++ D) := by
  intro t x h
  by_cases ht : t < C.length
  · rw [List.getElem?_append_left ht] at h
    have := hC t x h
    cases x <;> simp only [List.length_append] at this ⊢
    omega
  · rw [List.getElem?_append_right (by omega)] at h
    have := hD _ x h
    cases x <;> simp only [List.length_append] at this ⊢
    omega
theorem jmp_one {x : Stp} (h : ∀ a c, x ≠ .fork a c) (h2 : x ≠ .done) : Jmp [x] := by
  intro t y hy
  cases t with
  | zero =>
    simp at hy; subst hy
    cases x with
    | fork a c => exact absurd rfl (h a c)
    | done => exact absurd rfl h2
    | _ => trivial
  | succ t => simp at hy
theorem jmp_fork {C : List Stp} {a c : Int} (hC : Jmp C) (h1 : 0 ≤ a) (h2 : a ≤ C.length + 1) (h3 : 0 ≤ c) (h4 : c ≤ C.length + 1) : Jmp (.fork a c :: C) := by
  intro t y hy
  cases t with
  | zero => simp at hy; subst hy; simp only [List.length_cons]; omega
  | succ t =>
    have := hC t y (by simpa using hy)
    cases y <;> simp only [List.length_cons] at this ⊢
    omega
theorem jmp_either {C D : List Stp} (hC : Jmp C) (hD : Jmp D) : Jmp (either C D) := by
  unfold either
  refine jmp_fork (jmp_app hC (jmp_fork hD (by omega) (by omega) (by omega) (by omega))) (by omega) ?_ (by omega) ?_ <;> simp only [List.length_append, List.length_cons] <;> omega
theorem jmp_agn {C : List Stp} (hC : Jmp C) : Jmp (agn C) := by
  unfold agn
  intro t x h
  by_cases ht : t < C.length
  · rw [List.getElem?_append_left ht] at h
    have := hC t x h
    cases x <;> simp only [List.length_append] at this ⊢
    omega
  · rw [List.getElem?_append_right (by omega)] at h
    cases hk : t - C.length with
    | zero =>
      rw [hk] at h; simp at h; subst h
      simp only [List.length_append, List.length_singleton]; omega
    | succ k => rw [hk] at h; simp at h
theorem jmp_maybe {C : List Stp} (hC : Jmp C) : Jmp (maybe C) := by
  unfold maybe
  exact jmp_fork hC (by omega) (by omega) (by omega) (by omega)
mutual
theorem jmp : (n : Nd) → Jmp (code n)
  | .none => by unfold code; exact jmp_one (by simp) (by simp)
  | .set f => by unfold code; exact jmp_one (by simp) (by simp)
  | .bol => by unfold code; exact jmp_one (by simp) (by simp)
  | .eol => by unfold code; exact jmp_one (by simp) (by simp)
  | .seq l => by unfold code; exact jmpS l
  | .alt [] => by unfold code; exact jmp_one (by simp) (by simp)
  | .alt (n :: l) => by unfold code; exact jmpA l _ (jmp n)
  | .star n => by unfold code; exact jmp_maybe (jmp_agn (jmp n))
  | .plus n => by unfold code; exact jmp_agn (jmp n)
  | .opt n => by unfold code; exact jmp_maybe (jmp n)
theorem jmpS : (l : List Nd) → Jmp (codeS l)
  | [] => by unfold codeS; intro t x h; simp at h
  | n :: l => by unfold codeS; exact jmp_app (jmpS l) (jmp n)
theorem jmpA : (l : List Nd) → (C : List Stp) → Jmp C → Jmp (codeA C l)
  | [], C, h => by unfold codeA; exact h
  | n :: l, C, h => by unfold codeA; exact jmpA l _ (jmp_either h (jmp n))
end
theorem fit (n : Nd) : Fit (code n ++ [.done]) (code n).length := by
  refine ⟨by simp, by simp, fun t x h => ?_⟩
  by_cases ht : t < (code n).length
  · rw [List.getElem?_append_left ht] at h
    have := jmp n t x h
    cases x <;> simp only at this ⊢ <;> omega
  · rw [List.getElem?_append_right (by omega)] at h
    cases hk : t - (code n).length with
    | zero => rw [hk] at h; simp at h; subst h; simp only; omega
    | succ k => rw [hk] at h; simp at h
end RxSem
