import Derived.Test.YtmmhajlfbjjocaaGreatRxScan
/-
  Every text is read, as an expression or with a fault; how long its steps are; the match that is found. Plain mathematics.
-/
namespace RxSem

theorem setL_len : ∀ (m : Nat) (r : List UInt8) (first : Bool) (f g : UInt8 → Bool) (rest : List UInt8), r.length ≤ m → setL r first f = .inl (g, rest) → rest.length < r.length := by
  intro m
  induction m with
  | zero =>
    intro r first f g rest hm h
    have : r = [] := List.length_eq_zero_iff.1 (by omega)
    subst this
    rw [setL_nil] at h; cases h
  | succ m ih =>
    intro r first f g rest hm h
    cases r with
    | nil => rw [setL_nil] at h; cases h
    | cons c t =>
      simp only [List.length_cons] at hm ⊢
      by_cases hc : c = 93 ∧ first = false
      · rw [setL_stop hc] at h; cases h; omega
      · cases t with
        | nil => rw [setL_last hc] at h; cases h
        | cons a t =>
          simp only [List.length_cons] at hm ⊢
          by_cases ha : a = 45
          · subst ha
            cases t with
            | nil => rw [setL_dash hc] at h; cases h
            | cons d t =>
              simp only [List.length_cons] at hm ⊢
              rw [setL_range hc] at h
              by_cases hd : d = 93
              · rw [if_pos hd] at h
                have := ih (45 :: d :: t) false _ g rest (by simp; omega) h
                simp only [List.length_cons] at this; omega
              · rw [if_neg hd] at h
                by_cases hl : d < c
                · rw [if_pos hl] at h; cases h
                · rw [if_neg hl] at h
                  have := ih t false _ g rest (by omega) h
                  omega
          · rw [setL_byte hc ha] at h
            have := ih (a :: t) false _ g rest (by simp; omega) h
            simp only [List.length_cons] at this; omega
theorem setR_len {t r : List UInt8} {l : List Nd} (h : setR t = .ok l r) : r.length < t.length := by
  unfold setR at h
  split at h
  · split at h
    · rename_i hs; cases h; have := setL_len _ _ _ _ _ _ (Nat.le_refl _) hs; simp only [List.length_cons]; omega
    · cases h
  · split at h
    · rename_i hs; cases h; exact setL_len _ _ _ _ _ _ (Nat.le_refl _) hs
    · cases h
theorem post_len (n : Nd) (r : List UInt8) : (post n r).2.length ≤ r.length := by
  unfold post
  split <;> simp
theorem P.len {g : Tag} {o : Nat} {r : List UInt8} {a : Res} (h : P g o r a) {k : List Nd} {r' : List UInt8} (ha : a = .ok k r') : r'.length ≤ r.length ∧ (g = .thing → r'.length < r.length) := by
  induction h generalizing k r' with
  | rep => cases ha
  | dot o t => cases ha; simp
  | bol o t => cases ha; simp
  | eol o t => cases ha; simp
  | deep => cases ha
  | inBad => cases ha
  | inEnd => cases ha
  | group o t r k h h1 ih => cases ha; have := (ih rfl).1; simp only [List.length_cons] at this ⊢; omega
  | set o t => have := setR_len ha; simp only [List.length_cons]; omega
  | esc o c t => cases ha; simp; omega
  | escEnd => cases ha
  | byte o c t h => cases ha; simp
  | wayEnd o r h => cases ha; simp
  | wayBad => cases ha
  | wayNext o r r1 r2 n k h h1 h2 ih1 ih2 =>
    cases ha
    have a1 := (ih1 rfl).1; have a2 := (ih2 rfl).1; have := post_len n r1
    exact ⟨by omega, fun h => by cases h⟩
  | wayLater => cases ha
  | waysBad => cases ha
  | waysOne o r r1 k h1 h2 ih => cases ha; exact ⟨(ih rfl).1, fun h => by cases h⟩
  | waysNext o r r1 r2 k m h1 h2 ih1 ih2 =>
    cases ha
    have a1 := (ih1 rfl).1; have a2 := (ih2 rfl).1
    simp only [List.length_cons] at a1
    exact ⟨by omega, fun h => by cases h⟩
  | waysLater => cases ha
theorem P.single {o : Nat} {r : List UInt8} {a : Res} (h : P .thing o r a) {k : List Nd} {r' : List UInt8} (ha : a = .ok k r') : ∃ n, k = [n] := by
  cases h with
  | set o t =>
    rcases setR_shape t with ⟨f, r, e⟩ | ⟨w, l, e⟩
    · rw [e] at ha; cases ha; exact ⟨_, rfl⟩
    · rw [e] at ha; cases ha
  | dot => cases ha; exact ⟨_, rfl⟩
  | bol => cases ha; exact ⟨_, rfl⟩
  | eol => cases ha; exact ⟨_, rfl⟩
  | group => cases ha; exact ⟨_, rfl⟩
  | esc => cases ha; exact ⟨_, rfl⟩
  | byte => cases ha; exact ⟨_, rfl⟩
  | _ => cases ha
theorem way_total (N : Nat) (ht : ∀ r o, r.length ≤ N → r ≠ [] → ∃ a, P .thing o r a) : ∀ m r o, r.length ≤ m → m ≤ N → ∃ a, P .way o r a := by
  intro m
  induction m with
  | zero =>
    intro r o hm _
    have : r = [] := List.length_eq_zero_iff.1 (by omega)
    subst this
    exact ⟨_, .wayEnd _ _ rfl⟩
  | succ m ihm =>
    intro r o hm hN
    cases hs : stops r with
    | true => exact ⟨_, .wayEnd _ _ hs⟩
    | false =>
      have hne : r ≠ [] := fun e => by subst e; cases hs
      obtain ⟨a, h1⟩ := ht r o (by omega) hne
      cases a with
      | bad w l => exact ⟨_, .wayBad _ _ _ _ hs h1⟩
      | ok k r1 =>
        obtain ⟨n, rfl⟩ := h1.single rfl
        have l1 := (h1.len rfl).2 rfl
        have l2 := post_len n r1
        obtain ⟨b, h2⟩ := ihm (post n r1).2 o (by omega) (by omega)
        cases b with
        | bad w l => exact ⟨_, .wayLater _ _ _ _ _ _ hs h1 h2⟩
        | ok k2 r2 => exact ⟨_, .wayNext _ _ _ _ _ _ hs h1 h2⟩
theorem P.total : ∀ N r o, r.length < N → ∃ a, P .ways o r a := by
  intro N
  induction N with
  | zero => intro r o h; omega
  | succ N ih =>
    have ht : ∀ r o, r.length ≤ N → r ≠ [] → ∃ a, P .thing o r a := by
      intro r o hl hne
      cases r with
      | nil => exact absurd rfl hne
      | cons c t =>
        simp only [List.length_cons] at hl
        by_cases h1 : c = 42 ∨ c = 43 ∨ c = 63
        · exact ⟨_, .rep _ _ _ h1⟩
        · by_cases h2 : c = 46
          · subst h2; exact ⟨_, .dot _ _⟩
          · by_cases h3 : c = 94
            · subst h3; exact ⟨_, .bol _ _⟩
            · by_cases h4 : c = 36
              · subst h4; exact ⟨_, .eol _ _⟩
              · by_cases h5 : c = 40
                · subst h5
                  by_cases ho : o < 16
                  · obtain ⟨a, h⟩ := ih t (o + 1) (by omega)
                    cases a with
                    | bad w l => exact ⟨_, .inBad _ _ _ _ ho h⟩
                    | ok k r =>
                      have hp := (h.past rfl).2 rfl
                      rcases past_of hp.1 hp.2 with rfl | ⟨u, rfl⟩
                      · exact ⟨_, .inEnd _ _ _ ho h⟩
                      · exact ⟨_, .group _ _ _ _ ho h⟩
                  · exact ⟨_, .deep _ _ (by omega)⟩
                · by_cases h6 : c = 91
                  · subst h6; exact ⟨_, .set _ _⟩
                  · by_cases h7 : c = 92
                    · subst h7
                      cases t with
                      | nil => exact ⟨_, .escEnd _⟩
                      | cons d t => exact ⟨_, .esc _ _ _⟩
                    · exact ⟨_, .byte _ _ _ (by simp only [not_or] at h1; simp [plain, h1, h2, h3, h4, h5, h6, h7])⟩
    have hw := way_total N ht
    intro r o hl
    have aux : ∀ m r o, r.length ≤ m → m ≤ N → ∃ a, P .ways o r a := by
      intro m
      induction m with
      | zero =>
        intro r o hm hN
        obtain ⟨a, h⟩ := hw 0 r o hm hN
        cases a with
        | bad w l => exact ⟨_, .waysBad _ _ _ _ h⟩
        | ok k r1 =>
          have := (h.len rfl).1
          have e : r1 = [] := List.length_eq_zero_iff.1 (by omega)
          subst e
          exact ⟨_, .waysOne _ _ _ _ h (by simp)⟩
      | succ m ihm =>
        intro r o hm hN
        obtain ⟨a, h⟩ := hw (m + 1) r o hm hN
        cases a with
        | bad w l => exact ⟨_, .waysBad _ _ _ _ h⟩
        | ok k r1 =>
          have hl1 := (h.len rfl).1
          by_cases he : r1.head? = some 124
          · cases r1 with
            | nil => cases he
            | cons c t =>
              simp at he; subst he
              simp only [List.length_cons] at hl1
              obtain ⟨b, h2⟩ := ihm t o (by omega) (by omega)
              cases b with
              | bad w l => exact ⟨_, .waysLater _ _ _ _ _ _ h h2⟩
              | ok k2 r2 => exact ⟨_, .waysNext _ _ _ _ _ _ h h2⟩
          · exact ⟨_, .waysOne _ _ _ _ h he⟩
    exact aux r.length r o (Nat.le_refl _) (by omega)

/-- What a text compiles to: its ways, or the fault. -/
inductive Comp (p : List UInt8) : List Nd ⊕ (Nat × Nat) → Prop where
  | long (h : 200 < p.length) : Comp p (.inr (5, 0))
  | bad (w l : Nat) (h : p.length ≤ 200) (h1 : P .ways 0 p (.bad w l)) : Comp p (.inr (w, p.length - l))
  | many (k : List Nd) (r : List UInt8) (h : p.length ≤ 200) (h1 : P .ways 0 p (.ok k (41 :: r))) : Comp p (.inr (3, p.length - (r.length + 1)))
  | ok (k : List Nd) (h : p.length ≤ 200) (h1 : P .ways 0 p (.ok k [])) : Comp p (.inl k)
theorem Comp.total (p : List UInt8) : ∃ c, Comp p c := by
  by_cases h : 200 < p.length
  · exact ⟨_, .long h⟩
  · obtain ⟨a, h1⟩ := P.total (p.length + 1) p 0 (by omega)
    cases a with
    | bad w l => exact ⟨_, .bad w l (by omega) h1⟩
    | ok k r =>
      have hp := (h1.past rfl).2 rfl
      rcases past_of hp.1 hp.2 with rfl | ⟨u, rfl⟩
      · exact ⟨_, .ok k (by omega) h1⟩
      · exact ⟨_, .many k u (by omega) h1⟩
theorem Comp.same {p : List UInt8} {a b : List Nd ⊕ (Nat × Nat)} (h : Comp p a) (h' : Comp p b) : a = b := by
  cases h with
  | long h => cases h' with
    | long => rfl
    | bad => omega
    | many => omega
    | ok => omega
  | bad w l h h1 => cases h' with
    | long => omega
    | bad _ _ _ h2 => cases h1.same h2; rfl
    | many _ _ _ h2 => cases h1.same h2
    | ok _ _ h2 => cases h1.same h2
  | many k r h h1 => cases h' with
    | long => omega
    | bad _ _ _ h2 => cases h1.same h2
    | many _ _ _ h2 => cases h1.same h2; rfl
    | ok _ _ h2 => cases h1.same h2
  | ok k h h1 => cases h' with
    | long => omega
    | bad _ _ _ h2 => cases h1.same h2
    | many _ _ _ h2 => cases h1.same h2
    | ok _ _ h2 => cases h1.same h2; rfl
/-- Read flat: the signs, or the fault. -/
theorem Comp.flat {p : List UInt8} {c : List Nd ⊕ (Nat × Nat)} (h : Comp p c) (hl : p.length ≤ 200) : match c with
    | .inl k => ∃ sg, Sc 0 false p (.ok sg) ∧ SP .ways sg k []
    | .inr (w, at') => ∃ l, Sc 0 false p (.bad w l) ∧ at' = p.length - l := by
  cases h with
  | long h => omega
  | bad w l h h1 =>
    have := h1.scan false (fun h => by cases h) (fun h => by cases h) (by omega)
    exact ⟨l, this, rfl⟩
  | many k r h h1 =>
    obtain ⟨sg, _, h3⟩ := h1.scan false (fun h => by cases h) (fun h => by cases h) (by omega)
    have := h3 (.bad 3 (r.length + 1)) (fun a => .markBad _ _ _ _ _ rfl (by unfold markR; simp))
    exact ⟨_, this, rfl⟩
  | ok k h h1 =>
    obtain ⟨sg, h2, h3⟩ := h1.scan false (fun h => by cases h) (fun h => by cases h) (by omega)
    have a1 := h2 [] ⟨rfl, by simp⟩
    have a2 := h3 (.ok []) (fun a => .nil a)
    simp only [List.append_nil, SRes.app] at a1 a2
    exact ⟨sg, a2, a1⟩
/-- Ways: the first one, and those behind a | each. -/
inductive SW : List Sg → List Nd → List Sg → Prop where
  | stop (r : List Sg) (h : r.head? ≠ some (.mark 124)) : SW r [] r
  | more (r r1 r2 : List Sg) (k m : List Nd) (h1 : SP .way r k r1) (h2 : SW r1 m r2) : SW (.mark 124 :: r) (.seq k :: m) r2
theorem SP.ways_cases {l r : List Sg} {k : List Nd} {g : Tag} (h : SP g l k r) : g = .ways → ∃ k0 m r1, k = .seq k0 :: m ∧ SP .way l k0 r1 ∧ SW r1 m r := by
  induction h with
  | waysOne l r k h1 h2 ih => intro _; exact ⟨k, [], r, rfl, h1, .stop _ h2⟩
  | waysNext l r r2 k m h1 h2 ih1 ih2 =>
    intro _
    obtain ⟨k0, m', r1, rfl, h3, h4⟩ := ih2 rfl
    exact ⟨k, _, _, rfl, h1, .more _ _ _ _ _ h3 h4⟩
  | _ => intro h; cases h
theorem postS_len (n : Nd) (r : List Sg) : (postS n r).2.length ≤ r.length := by
  unfold postS
  split
  · split
    · simp
    · split
      · simp
      · split <;> simp
  · simp
theorem codeA_len : ∀ (l : List Nd) (C : List Stp), C.length ≤ (codeA C l).length
  | [], C => by unfold codeA; exact Nat.le_refl _
  | n :: l, C => by
    unfold codeA
    refine Nat.le_trans ?_ (codeA_len l _)
    unfold either; simp; omega
def lenOf : Tag → List Nd → Nat
  | .thing, k => (codeS k).length
  | .way, k => (codeS k).length
  | .ways, k => (code (.alt k)).length
theorem codeA_len2 : ∀ (l : List Nd) (C D : List Stp), (codeA C l).length + D.length = (codeA D l).length + C.length
  | [], C, D => by unfold codeA; omega
  | n :: l, C, D => by
    unfold codeA
    have := codeA_len2 l (either C (code n)) (either D (code n))
    unfold either at this ⊢
    simp at this ⊢
    omega
theorem code_post (n : Nd) (r : List Sg) : (code (postS n r).1).length + 2 * (postS n r).2.length ≤ (code n).length + 2 * r.length := by
  unfold postS
  split
  · split
    · simp [code, maybe, agn]; omega
    · split
      · simp [code, agn]; omega
      · split
        · simp [code, maybe]; omega
        · simp
  · simp
theorem SP.size {g : Tag} {l r : List Sg} {k : List Nd} (h : SP g l k r) : lenOf g k + 2 * r.length ≤ 2 * l.length := by
  induction h with
  | one x t h => obtain ⟨f, rfl | rfl | rfl⟩ := h <;> simp [lenOf, codeS, code, ndOf] <;> omega
  | group t r k h ih =>
    simp only [lenOf, codeS, List.length_append, List.length_nil, List.length_cons] at ih ⊢
    omega
  | wayEnd l h => simp [lenOf, codeS]
  | wayNext l r r2 n k h h1 h2 ih1 ih2 =>
    have := code_post n r
    simp only [lenOf, codeS, List.length_append, List.length_nil] at ih1 ih2 ⊢
    omega
  | waysOne l r k h1 h2 ih => simpa [lenOf, code, codeA] using ih
  | waysNext l r r2 k m h1 h2 ih1 ih2 =>
    cases m with
    | nil => cases h2
    | cons n0 m0 =>
      simp only [lenOf] at ih1 ih2 ⊢
      have e1 : code (.alt (.seq k :: n0 :: m0)) = codeA (either (codeS k) (code n0)) m0 := by simp [code, codeA]
      have e2 : code (.alt (n0 :: m0)) = codeA (code n0) m0 := by simp [code]
      rw [e1]; rw [e2] at ih2
      have := codeA_len2 m0 (either (codeS k) (code n0)) (code n0)
      simp only [either, List.length_cons, List.length_append] at this ih1 ⊢
      omega
end RxSem
