/-
  Plain mathematics of the expand package: the program's scanner finds each use's end, name and modifiers as the document tells them.
-/
import Derived.Test.YtbciedpjaajhcaaDoorE2
namespace Go.Proofs.YtbciedpjaajhcaaDoor.Ex
open Go.RowKit Go.Shelf

theorem set_other {F : List Dl} {i j : Nat} {x : Dl} (h : i ≠ j) : (F.set j x)[i]? = F[i]? := by
  rw [List.getElem?_set_ne (Ne.symm h)]
theorem set_same {F : List Dl} {j : Nat} {x D : Dl} (h : F[j]? = some D) : (F.set j x)[j]? = some x := by
  have := (List.getElem?_eq_some_iff.1 h).1
  simp [this]
theorem lt_of_get {F : List Dl} {j : Nat} {D : Dl} (h : F[j]? = some D) : j < F.length := (List.getElem?_eq_some_iff.1 h).1
theorem app_old {F : List Dl} {d : Dl} {i : Nat} (h : i < F.length) : (F ++ [d])[i]? = F[i]? := by rw [List.getElem?_append_left h]
theorem app_new (F : List Dl) (d : Dl) : (F ++ [d])[F.length]? = some d := by simp

/-- What is found, from a place within a bracket up en its end. -/
structure Found (T : List UInt8) (K : List Br) (k : Br) (D D' : Dl) (p q : Nat) (F F' : List Dl) : Prop where
  run : Runs T K.length ⟨p, F, K ++ [k]⟩ ⟨q, F', K⟩
  len : F.length ≤ F'.length
  old : ∀ i, i < F.length → i ≠ k.wh → F'[i]? = F[i]?
  own : F'[k.wh]? = some D'
  cln : Clean F' F.length p q
theorem Clean.lower {F : List Dl} {n p p' q : Nat} (h : Clean F n p q) (hp : p' ≤ p) : Clean F n p' q := fun i x hi hx => by
  have := h i x hi hx; omega

/-- One step ahead that opens nothing. -/
theorem Found.ahead {T : List UInt8} {K : List Br} {k k' : Br} {D D1 D' : Dl} {p q : Nat} {F F1 F' : List Dl} {x : UInt8} {r : List UInt8} (ht : T.drop p = x :: r) (hx : x ≠ 36) (hD : F[k.wh]? = some D)
    (hi : insideF x p F K k D = (F1, K ++ [k'])) (hw : k'.wh = k.wh) (h1 : F1.length = F.length) (h2 : ∀ i, i ≠ k.wh → F1[i]? = F[i]?) (h : Found T K k' D1 D' (p + 1) q F1 F') : Found T K k D D' p q F F' := by
  refine ⟨.step (by simp) (drop_split ht).2.1 ?_, by rw [← h1]; exact h.len, fun i hi2 hne => by rw [h.old i (by omega) (by rw [hw]; exact hne), h2 i hne], by rw [← hw]; exact h.own, by rw [← h1]; exact h.cln.lower (by omega)⟩
  rw [step_in ht hx F K k D hD, hi]
  exact h.run

theorem closeD_end (D : Dl) (p : Nat) (t : List UInt8) : closeD D p 1 t = if D.nt = 0 then { D with nt := p, en := p + 1 } else { D with mt := p, en := p + 1 } := by
  unfold closeD
  by_cases h : D.nt = 0
  · rw [if_pos h, if_pos h, if_pos (by simp [cut_nil])]; rfl
  · rw [if_neg h, if_neg h]; rfl

theorem end_cons {y : UInt8} {r : List UInt8} {k : Nat} (hc : clo y ≠ 0) (h : bodyF r.length y (clo y) 0 r = some k) : endN (36 :: y :: r) = some (k + 2) := by
  unfold endN; dsimp only; rw [if_neg hc, h]; rfl
theorem cut_skip {t : List UInt8} {r : List UInt8} {j k : Nat} (ht : t = 36 :: r) (hj : endN t = some j) (h2 : 2 ≤ j) (hk : 1 ≤ k) : cutL (t.take (j + k - 1)) = j + cutL ((t.drop j).take (k - 1)) := by
  have h1 := end_take (m := j + k - 1) hj (by omega) h2
  subst ht
  obtain ⟨m, hm⟩ : ∃ m, j + k - 1 = m + 1 := ⟨j + k - 2, by omega⟩
  rw [hm, List.take_succ_cons] at h1 ⊢
  rw [cut_use h1, ← List.take_succ_cons, ← hm, List.drop_take, show j + k - 1 - j = k - 1 by omega]
theorem cut_skip1 {t : List UInt8} {x : UInt8} {r : List UInt8} {k : Nat} (ht : t = x :: r) (h1 : x ≠ 58) (h2 : x ≠ 36) (hk : 1 ≤ k) : cutL (t.take (1 + k - 1)) = 1 + cutL ((t.drop 1).take (k - 1)) := by
  subst ht
  obtain ⟨m, rfl⟩ : ∃ m, k = m + 1 := ⟨k - 1, by omega⟩
  rw [show 1 + (m + 1) - 1 = m + 1 by omega, List.take_succ_cons, cut_other _ h1 h2]; rfl

theorem body_some (T : List UInt8) : ∀ (n : Nat) (t : List UInt8) (o c : UInt8) (d p : Nat) (F : List Dl) (K : List Br) (wh : Nat) (D : Dl) (k : Nat), F[wh]? = some D → T.drop p = t → t.length ≤ n → bodyF n o c d t = some k → o ≠ 58 → c ≠ 58 → 1 ≤ p →
    ∃ F', Found T K ⟨wh, o, c, d⟩ D (closeD D p k t) p (p + k) F F' := by
  intro n
  induction n with
  | zero => intro t o c d p F K wh D k _ _ _ h; simp [bodyF] at h
  | succ n ih =>
    intro t o c d p F K wh D k hD ht hn hb ho hc hp
    have hk1 := (body_le _ _ _ _ _ _ hb).1
    cases t with
    | nil => simp [bodyF] at hb
    | cons x r =>
      simp only [List.length_cons] at hn
      obtain ⟨htx, hpl, htr⟩ := drop_split ht
      unfold bodyF at hb
      dsimp only at hb
      by_cases h36 : x = 36
      · subst h36
        rw [if_pos rfl] at hb
        cases r with
        | nil => cases hb
        | cons y r2 =>
          dsimp only at hb
          simp only [List.length_cons] at hn
          have htr2 := (drop_split htr).2.2
          by_cases hy : clo y = 0
          · rw [if_pos hy] at hb
            obtain ⟨k1, hb1, rfl⟩ := Option.map_eq_some_iff.1 hb
            obtain ⟨d0, e1, e2, e3, _⟩ := begin_one ht hy F (K ++ [⟨wh, o, c, d⟩])
            have hk := (body_le _ _ _ _ _ _ hb1).1
            obtain ⟨F', hF⟩ := ih r2 o c d (p + 2) (F ++ [d0]) K wh D k1 (by rw [app_old (lt_of_get hD)]; exact hD) htr2 (by omega) hb1 ho hc (by omega)
            have hl := hF.len
            rw [List.length_append, List.length_singleton] at hl
            refine ⟨F', .step (by simp) hpl (by rw [step_dollar ht, e1, show p + (k1 + 2) = p + 2 + k1 by omega]; exact hF.run), by omega, fun i hi hne => by rw [hF.old i (by rw [List.length_append]; omega) hne, app_old hi], ?_, ?_⟩
            · have he : endN (36 :: y :: r2) = some 2 := by unfold endN; dsimp only; rw [if_pos hy]
              rw [show k1 + 2 = 2 + k1 by omega, closeD_skip hk (cut_skip rfl he (Nat.le_refl _) hk)]
              exact hF.own
            · intro i z hi hz
              by_cases hil : i = F.length
              · subst hil
                have hne : F.length ≠ wh := by have := lt_of_get hD; omega
                have h3 := hF.old F.length (by simp) hne
                rw [app_new, hz] at h3
                cases h3
                rw [e2, e3]; omega
              · have := hF.cln i z (by rw [List.length_append, List.length_singleton]; omega) hz
                omega
          · rw [if_neg hy] at hb
            cases h0 : bodyF n y (clo y) 0 r2 with
            | none => rw [h0] at hb; cases hb
            | some k0 =>
              rw [h0] at hb
              dsimp only at hb
              obtain ⟨k1, hb1, rfl⟩ := Option.map_eq_some_iff.1 hb
              have hk0 := body_le _ _ _ _ _ _ h0
              have hk := (body_le _ _ _ _ _ _ hb1).1
              have hcl := clo_ne hy
              obtain ⟨F1, hF1⟩ := ih r2 y (clo y) 0 (p + 2) (F ++ [⟨p, 0, p + 2, 0, 0, 0⟩]) (K ++ [⟨wh, o, c, d⟩]) F.length ⟨p, 0, p + 2, 0, 0, 0⟩ k0 (app_new F _) htr2 (by omega) h0 hcl.2.2.1 hcl.1 (by omega)
              have hl1 := hF1.len
              rw [List.length_append, List.length_singleton] at hl1
              have hwl := lt_of_get hD
              have hD1 : F1[wh]? = some D := by rw [hF1.old wh (by rw [List.length_append]; omega) (by simp; omega), app_old hwl]; exact hD
              have htd : T.drop (p + 2 + k0) = r2.drop k0 := by rw [← List.drop_drop, htr2]
              obtain ⟨F', hF⟩ := ih (r2.drop k0) o c d (p + 2 + k0) F1 K wh D k1 hD1 htd (by rw [List.length_drop]; omega) hb1 ho hc (by omega)
              have hl := hF.len
              refine ⟨F', .step (by simp) hpl (by rw [step_dollar ht, begin_br ht hy, show p + (k1 + (k0 + 2)) = p + 2 + k0 + k1 by omega]; exact (hF1.run.mono (by simp)).trans hF.run), by omega, fun i hi hne => ?_, ?_, ?_⟩
              · rw [hF.old i (by omega) hne, hF1.old i (by rw [List.length_append]; omega) (by simp; omega), app_old hi]
              · have he : endN (36 :: y :: r2) = some (k0 + 2) := end_cons hy (by rw [body_fuel r2.length n _ _ _ _ (Nat.le_refl _) (by omega)]; exact h0)
                rw [show k1 + (k0 + 2) = (k0 + 2) + k1 by omega, closeD_skip hk (cut_skip rfl he (by omega) hk), show p + (k0 + 2) = p + 2 + k0 by omega]
                exact hF.own
              · intro i z hi hz
                by_cases hil : i < F1.length
                · rw [hF.old i hil (by simp; omega)] at hz
                  by_cases hi0 : i = F.length
                  · subst hi0
                    have h3 := hF1.own
                    simp only at h3
                    rw [hz] at h3
                    cases h3
                    have : (closeD ⟨p, 0, p + 2, 0, 0, 0⟩ (p + 2) k0 r2).fr = p ∧ (closeD ⟨p, 0, p + 2, 0, 0, 0⟩ (p + 2) k0 r2).en = p + 2 + k0 := by
                      unfold closeD; rw [if_pos rfl]; split <;> exact ⟨rfl, rfl⟩
                    rw [this.1, this.2]; omega
                  · have := hF1.cln i z (by rw [List.length_append, List.length_singleton]; omega) hz
                    omega
                · have := hF.cln i z (by omega) hz
                  omega
      · rw [if_neg h36] at hb
        have hin := insideF.eq_def x p F K ⟨wh, o, c, d⟩ D
        by_cases hox : x = o
        · rw [if_pos hox] at hb
          obtain ⟨k1, hb1, rfl⟩ := Option.map_eq_some_iff.1 hb
          have hk := (body_le _ _ _ _ _ _ hb1).1
          obtain ⟨F', hF⟩ := ih r o c (d + 1) (p + 1) F K wh D k1 hD htr (by omega) hb1 ho hc (by omega)
          have h58 : x ≠ 58 := by rw [hox]; exact ho
          rw [if_neg (fun e => h58 e.1), if_pos hox] at hin
          refine ⟨F', ?_⟩
          rw [show k1 + 1 = 1 + k1 by omega, closeD_skip hk (cut_skip1 rfl h58 h36 hk), show p + (1 + k1) = p + 1 + k1 by omega]
          exact Found.ahead ht h36 hD hin rfl rfl (fun _ _ => rfl) hF
        · rw [if_neg hox] at hb
          by_cases hcx : x = c
          · have h58 : x ≠ 58 := by rw [hcx]; exact hc
            rw [if_pos hcx] at hb
            rw [if_neg (fun e => h58 e.1), if_neg hox, if_pos hcx] at hin
            by_cases hd : d = 0
            · rw [if_pos hd] at hb
              cases hb
              rw [if_neg (by simp [hd])] at hin
              refine ⟨_, .step (by simp) hpl (by rw [step_in ht h36 F K _ D hD, hin]; exact .refl _), by simp, fun i hi hne => set_other hne, ?_, ?_⟩
              · rw [closeD_end]; exact set_same hD
              · intro i z hi hz
                rw [List.getElem?_eq_none_iff.2 (by simpa using hi)] at hz; cases hz
            · rw [if_neg hd] at hb
              rw [if_pos (by simp; omega)] at hin
              obtain ⟨k1, hb1, rfl⟩ := Option.map_eq_some_iff.1 hb
              have hk := (body_le _ _ _ _ _ _ hb1).1
              obtain ⟨F', hF⟩ := ih r o c (d - 1) (p + 1) F K wh D k1 hD htr (by omega) hb1 ho hc (by omega)
              refine ⟨F', ?_⟩
              rw [show k1 + 1 = 1 + k1 by omega, closeD_skip hk (cut_skip1 rfl h58 h36 hk), show p + (1 + k1) = p + 1 + k1 by omega]
              exact Found.ahead ht h36 hD hin rfl rfl (fun _ _ => rfl) hF
          · rw [if_neg hcx] at hb
            obtain ⟨k1, hb1, rfl⟩ := Option.map_eq_some_iff.1 hb
            have hk := (body_le _ _ _ _ _ _ hb1).1
            by_cases hcol : x = 58 ∧ D.nt = 0
            · rw [if_pos hcol] at hin
              obtain ⟨F', hF⟩ := ih r o c d (p + 1) (F.set wh { D with nt := p, mf := p + 1 }) K wh { D with nt := p, mf := p + 1 } k1 (set_same hD) htr (by omega) hb1 ho hc (by omega)
              refine ⟨F', ?_⟩
              have e1 : closeD D p (k1 + 1) (x :: r) = closeD { D with nt := p, mf := p + 1 } (p + 1) k1 r := by
                unfold closeD
                rw [if_pos hcol.2, if_neg (show ¬ ({ D with nt := p, mf := p + 1 } : Dl).nt = 0 by simp only; omega)]
                obtain ⟨m, rfl⟩ : ∃ m, k1 = m + 1 := ⟨k1 - 1, by omega⟩
                rw [show m + 1 + 1 - 1 = m + 1 by omega, List.take_succ_cons, hcol.1, cut_colon, if_neg (by omega)]
                simp only [Dl.mk.injEq, true_and]
                omega
              rw [e1, show p + (k1 + 1) = p + 1 + k1 by omega]
              exact Found.ahead ht h36 hD hin rfl (by simp) (fun i hi => set_other hi) hF
            · rw [if_neg hcol, if_neg hox, if_neg hcx] at hin
              obtain ⟨F', hF⟩ := ih r o c d (p + 1) F K wh D k1 hD htr (by omega) hb1 ho hc (by omega)
              refine ⟨F', ?_⟩
              have e1 : closeD D p (k1 + 1) (x :: r) = closeD D (p + 1) k1 r := by
                by_cases h58 : x = 58
                · have hnt : ¬ D.nt = 0 := fun e => hcol ⟨h58, e⟩
                  unfold closeD
                  rw [if_neg hnt, if_neg hnt, show p + (k1 + 1) = p + 1 + k1 by omega]
                · rw [show k1 + 1 = 1 + k1 by omega, closeD_skip hk (cut_skip1 rfl h58 h36 hk)]; rfl
              rw [e1, show p + (k1 + 1) = p + 1 + k1 by omega]
              exact Found.ahead ht h36 hD hin rfl rfl (fun _ _ => rfl) hF

/-- What is found where a bracket has no end. -/
structure Lost (T : List UInt8) (K : List Br) (k : Br) (D : Dl) (p : Nat) (F : List Dl) (σ : Sn) : Prop where
  run : Runs T K.length ⟨p, F, K ++ [k]⟩ σ
  pos : σ.pos = T.length
  opn : K.length < σ.opn.length
  len : F.length ≤ σ.found.length
  old : ∀ i, i < F.length → i ≠ k.wh → σ.found[i]? = F[i]?
  own : ∃ D', σ.found[k.wh]? = some D' ∧ D'.en = D.en ∧ D'.fr = D.fr
theorem Lost.ahead {T : List UInt8} {K : List Br} {k k' : Br} {D D1 : Dl} {p : Nat} {F F1 : List Dl} {σ : Sn} {x : UInt8} {r : List UInt8} (ht : T.drop p = x :: r) (hx : x ≠ 36) (hD : F[k.wh]? = some D)
    (hi : insideF x p F K k D = (F1, K ++ [k'])) (hw : k'.wh = k.wh) (h1 : F1.length = F.length) (h2 : ∀ i, i ≠ k.wh → F1[i]? = F[i]?) (h3 : D1.en = D.en ∧ D1.fr = D.fr) (h : Lost T K k' D1 (p + 1) F1 σ) : Lost T K k D p F σ := by
  obtain ⟨D', e1, e2, e3⟩ := h.own
  refine ⟨.step (by simp) (drop_split ht).2.1 ?_, h.pos, h.opn, by rw [← h1]; exact h.len, fun i hi2 hne => by rw [h.old i (by omega) (by rw [hw]; exact hne), h2 i hne], D', by rw [← hw]; exact e1, e2.trans h3.1, e3.trans h3.2⟩
  rw [step_in ht hx F K k D hD, hi]
  exact h.run

theorem body_none (T : List UInt8) : ∀ (n : Nat) (t : List UInt8) (o c : UInt8) (d p : Nat) (F : List Dl) (K : List Br) (wh : Nat) (D : Dl), F[wh]? = some D → T.drop p = t → p ≤ T.length → t.length ≤ n → bodyF n o c d t = none → o ≠ 58 → c ≠ 58 → 1 ≤ p →
    ∃ σ, Lost T K ⟨wh, o, c, d⟩ D p F σ := by
  intro n
  induction n with
  | zero =>
    intro t o c d p F K wh D hD ht hpl hn _ _ _ _
    have : t = [] := List.length_eq_zero_iff.1 (by omega)
    subst this
    have := congrArg List.length ht
    rw [List.length_drop] at this
    exact ⟨_, .refl _, by simp at this ⊢; omega, by simp, Nat.le_refl _, fun _ _ _ => rfl, D, hD, rfl, rfl⟩
  | succ n ih =>
    intro t o c d p F K wh D hD ht hpT hn hb ho hc hp
    cases t with
    | nil =>
      have := congrArg List.length ht
      rw [List.length_drop] at this
      exact ⟨_, .refl _, by simp at this ⊢; omega, by simp, Nat.le_refl _, fun _ _ _ => rfl, D, hD, rfl, rfl⟩
    | cons x r =>
      simp only [List.length_cons] at hn
      obtain ⟨htx, hpl, htr⟩ := drop_split ht
      have hwl := lt_of_get hD
      unfold bodyF at hb
      dsimp only at hb
      by_cases h36 : x = 36
      · subst h36
        rw [if_pos rfl] at hb
        cases r with
        | nil =>
          have hl := congrArg List.length htr
          rw [List.length_drop, List.length_nil] at hl
          refine ⟨⟨p + 1, F ++ [⟨p, p + 1, 0, 0, 0, 0⟩], K ++ [⟨wh, o, c, d⟩]⟩, .step (by simp) hpl (by rw [step_dollar ht, begin_end ht]; exact .refl _), ?_, by simp, by simp, fun i hi hne => app_old hi, D, by rw [app_old hwl]; exact hD, rfl, rfl⟩
          simp only; omega
        | cons y r2 =>
          dsimp only at hb
          simp only [List.length_cons] at hn
          have htr2 := (drop_split htr).2.2
          have hpl2 := (drop_split htr).2.1
          by_cases hy : clo y = 0
          · rw [if_pos hy, Option.map_eq_none_iff] at hb
            obtain ⟨d0, e1, e2, e3, _⟩ := begin_one ht hy F (K ++ [⟨wh, o, c, d⟩])
            obtain ⟨σ, hF⟩ := ih r2 o c d (p + 2) (F ++ [d0]) K wh D (by rw [app_old hwl]; exact hD) htr2 (by omega) (by omega) hb ho hc (by omega)
            have hl := hF.len
            rw [List.length_append, List.length_singleton] at hl
            exact ⟨σ, .step (by simp) hpl (by rw [step_dollar ht, e1]; exact hF.run), hF.pos, hF.opn, by omega, fun i hi hne => by rw [hF.old i (by rw [List.length_append]; omega) hne, app_old hi], hF.own⟩
          · rw [if_neg hy] at hb
            have hcl := clo_ne hy
            cases h0 : bodyF n y (clo y) 0 r2 with
            | none =>
              obtain ⟨σ, hF⟩ := ih r2 y (clo y) 0 (p + 2) (F ++ [⟨p, 0, p + 2, 0, 0, 0⟩]) (K ++ [⟨wh, o, c, d⟩]) F.length ⟨p, 0, p + 2, 0, 0, 0⟩ (app_new F _) htr2 (by omega) (by omega) h0 hcl.2.2.1 hcl.1 (by omega)
              have hl := hF.len
              have ho2 := hF.opn
              rw [List.length_append, List.length_singleton] at hl ho2
              refine ⟨σ, .step (by simp) hpl (by rw [step_dollar ht, begin_br ht hy]; exact hF.run.mono (by simp)), hF.pos, by omega, by omega, fun i hi hne => by rw [hF.old i (by rw [List.length_append]; omega) (by simp; omega), app_old hi], D, ?_, rfl, rfl⟩
              rw [hF.old wh (by rw [List.length_append]; omega) (by simp; omega), app_old hwl]; exact hD
            | some k0 =>
              rw [h0] at hb
              dsimp only at hb
              rw [Option.map_eq_none_iff] at hb
              have hk0 := body_le _ _ _ _ _ _ h0
              obtain ⟨F1, hF1⟩ := body_some T n r2 y (clo y) 0 (p + 2) (F ++ [⟨p, 0, p + 2, 0, 0, 0⟩]) (K ++ [⟨wh, o, c, d⟩]) F.length ⟨p, 0, p + 2, 0, 0, 0⟩ k0 (app_new F _) htr2 (by omega) h0 hcl.2.2.1 hcl.1 (by omega)
              have hl1 := hF1.len
              rw [List.length_append, List.length_singleton] at hl1
              have hD1 : F1[wh]? = some D := by rw [hF1.old wh (by rw [List.length_append]; omega) (by simp; omega), app_old hwl]; exact hD
              have htd : T.drop (p + 2 + k0) = r2.drop k0 := by rw [← List.drop_drop, htr2]
              have hlen := congrArg List.length htr2
              rw [List.length_drop] at hlen
              obtain ⟨σ, hF⟩ := ih (r2.drop k0) o c d (p + 2 + k0) F1 K wh D hD1 htd (by omega) (by rw [List.length_drop]; omega) hb ho hc (by omega)
              have hl := hF.len
              exact ⟨σ, .step (by simp) hpl (by rw [step_dollar ht, begin_br ht hy]; exact (hF1.run.mono (by simp)).trans hF.run), hF.pos, hF.opn, by omega, fun i hi hne => by rw [hF.old i (by omega) hne, hF1.old i (by rw [List.length_append]; omega) (by simp; omega), app_old hi], hF.own⟩
      · rw [if_neg h36] at hb
        have hin := insideF.eq_def x p F K ⟨wh, o, c, d⟩ D
        by_cases hox : x = o
        · rw [if_pos hox, Option.map_eq_none_iff] at hb
          obtain ⟨σ, hF⟩ := ih r o c (d + 1) (p + 1) F K wh D hD htr (by omega) (by omega) hb ho hc (by omega)
          have h58 : x ≠ 58 := by rw [hox]; exact ho
          rw [if_neg (fun e => h58 e.1), if_pos hox] at hin
          exact ⟨σ, Lost.ahead ht h36 hD hin rfl rfl (fun _ _ => rfl) ⟨rfl, rfl⟩ hF⟩
        · rw [if_neg hox] at hb
          by_cases hcx : x = c
          · have h58 : x ≠ 58 := by rw [hcx]; exact hc
            rw [if_pos hcx] at hb
            rw [if_neg (fun e => h58 e.1), if_neg hox, if_pos hcx] at hin
            by_cases hd : d = 0
            · rw [if_pos hd] at hb; cases hb
            · rw [if_neg hd, Option.map_eq_none_iff] at hb
              rw [if_pos (by simp; omega)] at hin
              obtain ⟨σ, hF⟩ := ih r o c (d - 1) (p + 1) F K wh D hD htr (by omega) (by omega) hb ho hc (by omega)
              exact ⟨σ, Lost.ahead ht h36 hD hin rfl rfl (fun _ _ => rfl) ⟨rfl, rfl⟩ hF⟩
          · rw [if_neg hcx, Option.map_eq_none_iff] at hb
            by_cases hcol : x = 58 ∧ D.nt = 0
            · rw [if_pos hcol] at hin
              obtain ⟨σ, hF⟩ := ih r o c d (p + 1) (F.set wh { D with nt := p, mf := p + 1 }) K wh { D with nt := p, mf := p + 1 } (set_same hD) htr (by omega) (by omega) hb ho hc (by omega)
              exact ⟨σ, Lost.ahead (D1 := { D with nt := p, mf := p + 1 }) ht h36 hD hin rfl (by simp) (fun i hi => set_other hi) ⟨rfl, rfl⟩ hF⟩
            · rw [if_neg hcol, if_neg hox, if_neg hcx] at hin
              obtain ⟨σ, hF⟩ := ih r o c d (p + 1) F K wh D hD htr (by omega) (by omega) hb ho hc (by omega)
              exact ⟨σ, Lost.ahead ht h36 hD hin rfl rfl (fun _ _ => rfl) ⟨rfl, rfl⟩ hF⟩
end Go.Proofs.YtbciedpjaajhcaaDoor.Ex
