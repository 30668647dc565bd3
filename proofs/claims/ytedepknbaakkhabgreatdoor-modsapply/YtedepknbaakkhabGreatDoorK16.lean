/-
  RxScan RxTotal RxFind
-/
import Derived.Test.YtedepknbaakkhabGreatDoorK15
namespace RxSem
inductive Sg where
  | mark (c : UInt8)
  | thing (x : Stp)
def rep (c : UInt8) : Bool := c == 42 || c == 43 || c == 63
def isMark (c : UInt8) : Bool := c == 42 || c == 43 || c == 63 || c == 124 || c == 40 || c == 41
def thingR : List UInt8 → (Stp × List UInt8) ⊕ (Nat × Nat)
  | [] => .inr (0, 0)
  | c :: t =>
    if c = 94 then .inl (.first, t)
    else if c = 36 then .inl (.last, t)
    else if c = 46 then .inl (.take fun _ => true, t)
    else if c = 91 then match setR t with
      | .ok [.set f] r => .inl (.take f, r)
      | .bad w l => .inr (w, l)
      | _ => .inr (0, 0)
    else if c = 92 then match t with
      | [] => .inr (4, 0)
      | c :: t => .inl (.take fun x => x == c, t)
    else .inl (.take fun x => x == c, t)
def markR (o : Nat) (a : Bool) (c : UInt8) : Nat ⊕ (Nat × Bool) :=
  if (rep c = true ∧ a = false) ∨ (c = 41 ∧ o = 0) then .inl 3
  else if c = 40 ∧ o = 16 then .inl 5
  else if c = 40 then .inr (o + 1, false)
  else if c = 41 then .inr (o - 1, true)
  else .inr (o, false)
inductive SRes where
  | ok (l : List Sg)
  | bad (why left : Nat)
def SRes.cons (x : Sg) : SRes → SRes
  | .ok l => .ok (x :: l)
  | .bad w l => .bad w l
def SRes.app (l : List Sg) : SRes → SRes
  | .ok l' => .ok (l ++ l')
  | .bad w l => .bad w l
theorem SRes.app_cons (x : Sg) (l : List Sg) (r : SRes) : (r.app l).cons x = r.app (x :: l) := by cases r <;> rfl
theorem SRes.app_app (l m : List Sg) (r : SRes) : (r.app m).app l = r.app (l ++ m) := by cases r <;> simp [SRes.app]
theorem SRes.app_nil (r : SRes) : r.app [] = r := by cases r <;> rfl
inductive Sc : Nat → Bool → List UInt8 → SRes → Prop where
  | nil (a : Bool) : Sc 0 a [] (.ok [])
  | opened (o : Nat) (a : Bool) (h : 0 < o) : Sc o a [] (.bad 4 0)
  | markBad (o : Nat) (a : Bool) (c : UInt8) (t : List UInt8) (w : Nat) (h : isMark c = true) (h1 : markR o a c = .inl w) : Sc o a (c :: t) (.bad w (t.length + 1))
  | mark (o : Nat) (a : Bool) (c : UInt8) (t : List UInt8) (o' : Nat) (a' : Bool) (r : SRes) (h : isMark c = true) (h1 : markR o a c = .inr (o', a')) (h2 : Sc o' a' t r) : Sc o a (c :: t) (r.cons (.mark c))
  | thingBad (o : Nat) (a : Bool) (c : UInt8) (t : List UInt8) (w l : Nat) (h : isMark c = false) (h1 : thingR (c :: t) = .inr (w, l)) : Sc o a (c :: t) (.bad w l)
  | thing (o : Nat) (a : Bool) (c : UInt8) (t t' : List UInt8) (x : Stp) (r : SRes) (h : isMark c = false) (h1 : thingR (c :: t) = .inl (x, t')) (h2 : Sc o true t' r) : Sc o a (c :: t) (r.cons (.thing x))
def ndOf : Stp → Nd
  | .take f => .set f
  | .first => .bol
  | .last => .eol
  | _ => .none
def stopsS : List Sg → Bool
  | [] => true
  | .mark c :: _ => c == 124 || c == 41
  | _ => false
def postS : Nd → List Sg → Nd × List Sg
  | n, .mark c :: t => if c = 42 then (.star n, t) else if c = 43 then (.plus n, t) else if c = 63 then (.opt n, t) else (n, .mark c :: t)
  | n, t => (n, t)
inductive SP : Tag → List Sg → List Nd → List Sg → Prop where
  | one (x : Stp) (t : List Sg) (h : ∃ f, x = .take f ∨ x = .first ∨ x = .last) : SP .thing (.thing x :: t) [ndOf x] t
  | group (t r : List Sg) (k : List Nd) (h : SP .ways t k (.mark 41 :: r)) : SP .thing (.mark 40 :: t) [.alt k] r
  | wayEnd (l : List Sg) (h : stopsS l = true) : SP .way l [] l
  | wayNext (l r r2 : List Sg) (n : Nd) (k : List Nd) (h : stopsS l = false) (h1 : SP .thing l [n] r) (h2 : SP .way (postS n r).2 k r2) : SP .way l ((postS n r).1 :: k) r2
  | waysOne (l r : List Sg) (k : List Nd) (h1 : SP .way l k r) (h2 : r.head? ≠ some (.mark 124)) : SP .ways l [.seq k] r
  | waysNext (l r r2 : List Sg) (k m : List Nd) (h1 : SP .way l k (.mark 124 :: r)) (h2 : SP .ways r m r2) : SP .ways l (.seq k :: m) r2
theorem setR_shape (t : List UInt8) : (∃ f r, setR t = .ok [.set f] r) ∨ ∃ w l, setR t = .bad w l := by
  unfold setR
  split
  · split
    · exact .inl ⟨_, _, rfl⟩
    · exact .inr ⟨_, _, rfl⟩
  · split
    · exact .inl ⟨_, _, rfl⟩
    · exact .inr ⟨_, _, rfl⟩
def NoRep (a : Bool) (r : List UInt8) : Prop := a = true → ∀ c t, r = c :: t → rep c = false
def Past (r : List UInt8) : Prop := r = [] ∨ ∃ t, r = 41 :: t
theorem P.past {g : Tag} {o : Nat} {r : List UInt8} {a : Res} (h : P g o r a) {k : List Nd} {r' : List UInt8} (ha : a = .ok k r') : (g = .way → stops r' = true) ∧ (g = .ways → stops r' = true ∧ r'.head? ≠ some 124) := by
  induction h generalizing k r' with
  | wayEnd o r h => cases ha; exact ⟨fun _ => h, fun h => by cases h⟩
  | wayNext o r r1 r2 n k h h1 h2 ih1 ih2 => cases ha; exact ⟨fun _ => (ih2 rfl).1 rfl, fun h => by cases h⟩
  | waysOne o r r1 k h1 h2 ih => cases ha; exact ⟨(by intro h; cases h), fun _ => ⟨(ih rfl).1 rfl, h2⟩⟩
  | waysNext o r r1 r2 k m h1 h2 ih1 ih2 => cases ha; exact ⟨(by intro h; cases h), fun _ => (ih2 rfl).2 rfl⟩
  | rep => cases ha
  | deep => cases ha
  | inBad => cases ha
  | inEnd => cases ha
  | escEnd => cases ha
  | wayBad => cases ha
  | wayLater => cases ha
  | waysBad => cases ha
  | waysLater => cases ha
  | _ => exact ⟨(by intro h; cases h), (by intro h; cases h)⟩
theorem past_of {r : List UInt8} (h : stops r = true) (h2 : r.head? ≠ some 124) : Past r := by
  cases r with
  | nil => exact .inl rfl
  | cons c t =>
    simp [stops] at h
    rcases h with rfl | rfl
    · simp at h2
    · exact .inr ⟨t, rfl⟩
def Fits : Tag → List Sg → Prop
  | .thing, _ => True
  | .way, X => stopsS X = true
  | .ways, X => stopsS X = true ∧ X.head? ≠ some (.mark 124)
def Goes (g : Tag) (o : Nat) (r' : List UInt8) (res : SRes) : Prop := match g with
  | .thing => Sc o true r' res
  | _ => ∀ a, Sc o a r' res
theorem sp_head {g : Tag} {l r : List Sg} {k : List Nd} (h : SP g l k r) : ∀ c t, l = .mark c :: t → rep c = false := by
  induction h with
  | one x t h => intro c t e; cases e
  | group t r k h ih => intro c t e; cases e; rfl
  | wayEnd l h =>
    intro c t e
    subst e
    simp [stopsS] at h
    rcases h with rfl | rfl <;> rfl
  | wayNext l r r2 n k h h1 h2 ih1 ih2 => exact ih1
  | waysOne l r k h1 h2 ih => exact ih
  | waysNext l r r2 k m h1 h2 ih1 ih2 => exact ih1
theorem postS_no {n : Nd} {l : List Sg} (h : ∀ c t, l = .mark c :: t → rep c = false) : postS n l = (n, l) := by
  unfold postS
  split
  · rename_i c t
    have := h c t rfl
    simp [rep] at this
    simp [this]
  · rfl
theorem post_cases (n : Nd) (r : List UInt8) : (∃ c t, r = c :: t ∧ rep c = true ∧ ∀ l, post n r = ((postS n (.mark c :: l)).1, t) ∧ (postS n (.mark c :: l)).2 = l) ∨ (post n r = (n, r) ∧ ∀ c t, r = c :: t → rep c = false) := by
  cases r with
  | nil => exact .inr ⟨rfl, fun c t h => by cases h⟩
  | cons c t =>
    by_cases h1 : c = 42
    · subst h1; exact .inl ⟨42, t, rfl, rfl, fun l => ⟨rfl, rfl⟩⟩
    · by_cases h2 : c = 43
      · subst h2; exact .inl ⟨43, t, rfl, rfl, fun l => ⟨rfl, rfl⟩⟩
      · by_cases h3 : c = 63
        · subst h3; exact .inl ⟨63, t, rfl, rfl, fun l => ⟨rfl, rfl⟩⟩
        · refine .inr ⟨?_, fun c' t' e => by cases e; simp [rep, h1, h2, h3]⟩
          rw [post]
          · intro u hu; simp at hu; exact h1 hu.1
          · intro u hu; simp at hu; exact h2 hu.1
          · intro u hu; simp at hu; exact h3 hu.1
theorem plain_thing {c : UInt8} {t : List UInt8} (h : plain c = true) : thingR (c :: t) = .inl (.take fun x => x == c, t) := by
  simp [plain] at h
  unfold thingR
  simp [h]
theorem plain_mark {c : UInt8} (h : plain c = true) (h2 : (c == 124 || c == 41) = false) : isMark c = false := by
  simp [plain] at h
  simp at h2
  simp [isMark, h, h2]
def ScanP (g : Tag) (o : Nat) (r : List UInt8) (ah : Bool) : Res → Prop
  | .bad w l => Sc o ah r (.bad w l)
  | .ok k r' => ∃ sg, (∀ X, Fits g X → SP g (sg ++ X) k X) ∧ ∀ res, Goes g o r' res → Sc o ah r (res.app sg)
theorem P.scan {g : Tag} {o : Nat} {r : List UInt8} {a : Res} (h : P g o r a) : ∀ (ah : Bool), NoRep ah r → (g = .thing → stops r = false) → o ≤ 16 → ScanP g o r ah a := by
  induction h with
  | rep o c t h =>
    intro ah hn hs ho
    have hr : RxSem.rep c = true := by rcases h with rfl | rfl | rfl <;> rfl
    have ha : ah = false := by
      cases ah with
      | false => rfl
      | true => have := hn rfl c t rfl; rw [hr] at this; cases this
    subst ha
    exact .markBad _ _ _ _ _ (by rcases h with rfl | rfl | rfl <;> rfl) (by unfold markR; rw [if_pos (.inl ⟨hr, rfl⟩)])
  | dot o t =>
    intro ah hn hs ho
    unfold ScanP
    exact ⟨[.thing (.take fun _ => true)], fun X _ => .one _ _ ⟨_, .inl rfl⟩, fun res hg => by
      have := Sc.thing o ah 46 t t _ res rfl rfl hg
      rwa [← SRes.app_nil res, SRes.app_cons] at this⟩
  | bol o t =>
    intro ah hn hs ho
    unfold ScanP
    exact ⟨[.thing .first], fun X _ => .one _ _ ⟨fun _ => true, .inr (.inl rfl)⟩, fun res hg => by
      have := Sc.thing o ah 94 t t _ res rfl rfl hg
      rwa [← SRes.app_nil res, SRes.app_cons] at this⟩
  | eol o t =>
    intro ah hn hs ho
    unfold ScanP
    exact ⟨[.thing .last], fun X _ => .one _ _ ⟨fun _ => true, .inr (.inr rfl)⟩, fun res hg => by
      have := Sc.thing o ah 36 t t _ res rfl rfl hg
      rwa [← SRes.app_nil res, SRes.app_cons] at this⟩
  | deep o t h =>
    intro ah hn hs ho
    have : o = 16 := by omega
    subst this
    exact .markBad _ _ _ _ _ rfl (by unfold markR; simp [RxSem.rep])
  | inBad o t w l h h1 ih =>
    intro ah hn hs ho
    have := ih false (fun h => by cases h) (fun h => by cases h) (by omega)
    exact .mark o ah 40 t (o + 1) false (.bad w l) rfl (by unfold markR; simp [RxSem.rep]; omega) this
  | inEnd o t k h h1 ih =>
    intro ah hn hs ho
    obtain ⟨sg, h2, h3⟩ := ih false (fun h => by cases h) (fun h => by cases h) (by omega)
    have := h3 (.bad 4 0) (fun a => .opened _ _ (by omega))
    exact .mark o ah 40 t (o + 1) false (.bad 4 0) rfl (by unfold markR; simp [RxSem.rep]; omega) this
  | group o t r k h h1 ih =>
    intro ah hn hs ho
    obtain ⟨sg, h2, h3⟩ := ih false (fun h => by cases h) (fun h => by cases h) (by omega)
    refine ⟨.mark 40 :: (sg ++ [.mark 41]), fun X _ => ?_, fun res hg => ?_⟩
    · have := h2 (.mark 41 :: X) ⟨rfl, by simp⟩
      have := SP.group _ _ _ this
      simpa using this
    · have a1 := h3 (res.cons (.mark 41)) (fun a => .mark (o + 1) a 41 r o true res rfl (by unfold markR; simp [RxSem.rep]) hg)
      have a2 := Sc.mark o ah 40 t (o + 1) false _ rfl (by unfold markR; simp [RxSem.rep]; omega) a1
      have e : ((res.cons (.mark 41)).app sg).cons (.mark 40) = res.app (.mark 40 :: (sg ++ [.mark 41])) := by
        cases res <;> simp [SRes.cons, SRes.app]
      rw [← e]; exact a2
  | set o t =>
    intro ah hn hs ho
    rcases setR_shape t with ⟨f, r, e⟩ | ⟨w, l, e⟩
    · rw [e]
      unfold ScanP
      exact ⟨[.thing (.take f)], fun X _ => .one _ _ ⟨f, .inl rfl⟩, fun res hg => by
        have := Sc.thing o ah 91 t r (.take f) res rfl (by unfold thingR; simp [e]) hg
        rwa [← SRes.app_nil res, SRes.app_cons] at this⟩
    · rw [e]
      exact .thingBad _ _ _ _ _ _ rfl (by unfold thingR; simp [e])
  | esc o c t =>
    intro ah hn hs ho
    unfold ScanP
    exact ⟨[.thing (.take fun x => x == c)], fun X _ => .one _ _ ⟨_, .inl rfl⟩, fun res hg => by
      have := Sc.thing o ah 92 (c :: t) t _ res rfl rfl hg
      rwa [← SRes.app_nil res, SRes.app_cons] at this⟩
  | escEnd o =>
    intro ah hn hs ho
    exact .thingBad _ _ _ _ _ _ rfl rfl
  | byte o c t h =>
    intro ah hn hs ho
    unfold ScanP
    exact ⟨[.thing (.take fun x => x == c)], fun X _ => .one _ _ ⟨_, .inl rfl⟩, fun res hg => by
      have := Sc.thing o ah c t t _ res (plain_mark h (by simpa [stops] using hs rfl)) (plain_thing h) hg
      rwa [← SRes.app_nil res, SRes.app_cons] at this⟩
  | wayEnd o r h =>
    intro ah hn hs ho
    unfold ScanP
    exact ⟨[], fun X hX => .wayEnd _ hX, fun res hg => by rw [SRes.app_nil]; exact hg ah⟩
  | wayBad o r w l h h1 ih =>
    intro ah hn hs ho
    exact ih ah hn (fun _ => h) ho
  | wayNext o r r1 r2 n k h h1 h2 ih1 ih2 =>
    intro ah hn hs ho
    obtain ⟨sg1, a1, a2⟩ := ih1 ah hn (fun _ => h) ho
    rcases post_cases n r1 with ⟨c, t, rfl, hc, hp⟩ | ⟨hp, hr⟩
    · have e := (hp []).1
      rw [e] at ih2 ⊢
      obtain ⟨sg2, b1, b2⟩ := ih2 false (fun h => by cases h) (fun h => by cases h) ho
      refine ⟨sg1 ++ .mark c :: sg2, fun X hX => ?_, fun res hg => ?_⟩
      · have c1 := a1 (.mark c :: (sg2 ++ X)) trivial
        have c2 : SP .way (postS n (.mark c :: (sg2 ++ X))).2 k X := by rw [(hp (sg2 ++ X)).2]; exact b1 X hX
        have c3 := SP.wayNext _ _ _ n k (sp_notstop c1) c1 c2
        have e2 : (postS n (.mark c :: (sg2 ++ X))).1 = (postS n [.mark c]).1 := by
          have := (hp (sg2 ++ X)).1; rw [e] at this; exact (Prod.mk.inj this).1.symm
        rw [e2] at c3
        simpa using c3
      · have d1 := b2 res hg
        have d2 := a2 _ (Sc.mark o true c t o false _ (by simp [RxSem.rep] at hc; rcases hc with (rfl | rfl) | rfl <;> rfl) (by simp [RxSem.rep] at hc; rcases hc with (rfl | rfl) | rfl <;> (unfold markR; simp [RxSem.rep])) d1)
        have e3 : ((res.app sg2).cons (.mark c)).app sg1 = res.app (sg1 ++ .mark c :: sg2) := by
          cases res <;> simp [SRes.cons, SRes.app]
        rw [← e3]; exact d2
    · rw [hp] at ih2 ⊢
      obtain ⟨sg2, b1, b2⟩ := ih2 true (fun _ c t e => hr c t e) (fun h => by cases h) ho
      refine ⟨sg1 ++ sg2, fun X hX => ?_, fun res hg => ?_⟩
      · have c0 := b1 X hX
        have hp2 := postS_no (n := n) (sp_head c0)
        have c1 := a1 (sg2 ++ X) trivial
        have c2 := SP.wayNext _ _ X n k (sp_notstop c1) c1 (by rw [hp2]; exact c0)
        rw [hp2] at c2
        simpa using c2
      · have d1 := b2 res hg
        have d2 := a2 _ d1
        rw [SRes.app_app] at d2
        exact d2
  | wayLater o r r1 n w l h h1 h2 ih1 ih2 =>
    intro ah hn hs ho
    obtain ⟨sg1, a1, a2⟩ := ih1 ah hn (fun _ => h) ho
    rcases post_cases n r1 with ⟨c, t, rfl, hc, hp⟩ | ⟨hp, hr⟩
    · have e := (hp []).1
      rw [e] at ih2
      have d1 := ih2 false (fun h => by cases h) (fun h => by cases h) ho
      exact a2 (.bad w l) (Sc.mark o true c t o false (.bad w l) (by simp [RxSem.rep] at hc; rcases hc with (rfl | rfl) | rfl <;> rfl) (by simp [RxSem.rep] at hc; rcases hc with (rfl | rfl) | rfl <;> (unfold markR; simp [RxSem.rep])) d1)
    · rw [hp] at ih2
      have d1 := ih2 true (fun _ c t e => hr c t e) (fun h => by cases h) ho
      exact a2 (.bad w l) d1
  | waysBad o r w l h1 ih =>
    intro ah hn hs ho
    exact ih ah hn (fun h => by cases h) ho
  | waysOne o r r1 k h1 h2 ih =>
    intro ah hn hs ho
    obtain ⟨sg, a1, a2⟩ := ih ah hn (fun h => by cases h) ho
    exact ⟨sg, fun X hX => .waysOne _ _ _ (a1 X hX.1) hX.2, fun res hg => a2 res hg⟩
  | waysNext o r r1 r2 k m h1 h2 ih1 ih2 =>
    intro ah hn hs ho
    obtain ⟨sg1, a1, a2⟩ := ih1 ah hn (fun h => by cases h) ho
    obtain ⟨sg2, b1, b2⟩ := ih2 false (fun h => by cases h) (fun h => by cases h) ho
    refine ⟨sg1 ++ .mark 124 :: sg2, fun X hX => ?_, fun res hg => ?_⟩
    · have c1 := a1 (.mark 124 :: (sg2 ++ X)) rfl
      have := SP.waysNext _ _ _ _ _ c1 (b1 X hX)
      simpa using this
    · have d1 := b2 res hg
      have d2 := a2 ((res.app sg2).cons (.mark 124)) (fun a => .mark o a 124 r1 o false _ rfl (by unfold markR; simp [RxSem.rep]) d1)
      have e3 : ((res.app sg2).cons (.mark 124)).app sg1 = res.app (sg1 ++ .mark 124 :: sg2) := by
        cases res <;> simp [SRes.cons, SRes.app]
      rw [← e3]; exact d2
  | waysLater o r r1 k w l h1 h2 ih1 ih2 =>
    intro ah hn hs ho
    obtain ⟨sg1, a1, a2⟩ := ih1 ah hn (fun h => by cases h) ho
    have d1 := ih2 false (fun h => by cases h) (fun h => by cases h) ho
    exact a2 (.bad w l) (fun a => .mark o a 124 r1 o false (.bad w l) rfl (by unfold markR; simp [RxSem.rep]) d1)
where
  sp_notstop {l r : List Sg} {k : List Nd} (h : SP .thing l k r) : stopsS l = false := by
    cases h with
    | one => rfl
    | group => rfl
end RxSem
namespace RxSem
theorem setL_len : ∀ (m : Nat) (r : List UInt8) (first : Bool) (f g : UInt8 → Bool) (rest : List UInt8), r.length ≤ m → setL r first f = .inl (g, rest) → rest.length < r.length := by
  intro m
  induction m with
  | zero =>
    intro r first f g rest hm h
    have : r = [] := List.length_eq_zero_iff.1 (by omega)
    subst this
    rw [setL_nil] at h; cases h
  | succ m ih =>
    intro r first f g rest hm h
    cases r with
    | nil => rw [setL_nil] at h; cases h
    | cons c t =>
      simp only [List.length_cons] at hm ⊢
      by_cases hc : c = 93 ∧ first = false
      · rw [setL_stop hc] at h; cases h; omega
      · cases t with
        | nil => rw [setL_last hc] at h; cases h
        | cons a t =>
          simp only [List.length_cons] at hm ⊢
          by_cases ha : a = 45
          · subst ha
            cases t with
            | nil => rw [setL_dash hc] at h; cases h
            | cons d t =>
              simp only [List.length_cons] at hm ⊢
              rw [setL_range hc] at h
              by_cases hd : d = 93
              · rw [if_pos hd] at h
                have := ih (45 :: d :: t) false _ g rest (by simp; omega) h
                simp only [List.length_cons] at this; omega
              · rw [if_neg hd] at h
                by_cases hl : d < c
                · rw [if_pos hl] at h; cases h
                · rw [if_neg hl] at h
                  have := ih t false _ g rest (by omega) h
                  omega
          · rw [setL_byte hc ha] at h
            have := ih (a :: t) false _ g rest (by simp; omega) h
            simp only [List.length_cons] at this; omega
theorem setR_len {t r : List UInt8} {l : List Nd} (h : setR t = .ok l r) : r.length < t.length := by
  unfold setR at h
  split at h
  · split at h
    · rename_i hs; cases h; have := setL_len _ _ _ _ _ _ (Nat.le_refl _) hs; simp only [List.length_cons]; omega
    · cases h
  · split at h
    · rename_i hs; cases h; exact setL_len _ _ _ _ _ _ (Nat.le_refl _) hs
    · cases h
theorem post_len (n : Nd) (r : List UInt8) : (post n r).2.length ≤ r.length := by
  unfold post
  split <;> simp
theorem P.len {g : Tag} {o : Nat} {r : List UInt8} {a : Res} (h : P g o r a) {k : List Nd} {r' : List UInt8} (ha : a = .ok k r') : r'.length ≤ r.length ∧ (g = .thing → r'.length < r.length) := by
  induction h generalizing k r' with
  | rep => cases ha
  | dot o t => cases ha; simp
  | bol o t => cases ha; simp
  | eol o t => cases ha; simp
  | deep => cases ha
  | inBad => cases ha
  | inEnd => cases ha
  | group o t r k h h1 ih => cases ha; have := (ih rfl).1; simp only [List.length_cons] at this ⊢; omega
  | set o t => have := setR_len ha; simp only [List.length_cons]; omega
  | esc o c t => cases ha; simp; omega
  | escEnd => cases ha
  | byte o c t h => cases ha; simp
  | wayEnd o r h => cases ha; simp
  | wayBad => cases ha
  | wayNext o r r1 r2 n k h h1 h2 ih1 ih2 =>
    cases ha
    have a1 := (ih1 rfl).1; have a2 := (ih2 rfl).1; have := post_len n r1
    exact ⟨by omega, fun h => by cases h⟩
  | wayLater => cases ha
  | waysBad => cases ha
  | waysOne o r r1 k h1 h2 ih => cases ha; exact ⟨(ih rfl).1, fun h => by cases h⟩
  | waysNext o r r1 r2 k m h1 h2 ih1 ih2 =>
    cases ha
    have a1 := (ih1 rfl).1; have a2 := (ih2 rfl).1
    simp only [List.length_cons] at a1
    exact ⟨by omega, fun h => by cases h⟩
  | waysLater => cases ha
theorem P.single {o : Nat} {r : List UInt8} {a : Res} (h : P .thing o r a) {k : List Nd} {r' : List UInt8} (ha : a = .ok k r') : ∃ n, k = [n] := by
  cases h with
  | set o t =>
    rcases setR_shape t with ⟨f, r, e⟩ | ⟨w, l, e⟩
    · rw [e] at ha; cases ha; exact ⟨_, rfl⟩
    · rw [e] at ha; cases ha
  | dot => cases ha; exact ⟨_, rfl⟩
  | bol => cases ha; exact ⟨_, rfl⟩
  | eol => cases ha; exact ⟨_, rfl⟩
  | group => cases ha; exact ⟨_, rfl⟩
  | esc => cases ha; exact ⟨_, rfl⟩
  | byte => cases ha; exact ⟨_, rfl⟩
  | _ => cases ha
theorem way_total (N : Nat) (ht : ∀ r o, r.length ≤ N → r ≠ [] → ∃ a, P .thing o r a) : ∀ m r o, r.length ≤ m → m ≤ N → ∃ a, P .way o r a := by
  intro m
  induction m with
  | zero =>
    intro r o hm _
    have : r = [] := List.length_eq_zero_iff.1 (by omega)
    subst this
    exact ⟨_, .wayEnd _ _ rfl⟩
  | succ m ihm =>
    intro r o hm hN
    cases hs : stops r with
    | true => exact ⟨_, .wayEnd _ _ hs⟩
    | false =>
      have hne : r ≠ [] := fun e => by subst e; cases hs
      obtain ⟨a, h1⟩ := ht r o (by omega) hne
      cases a with
      | bad w l => exact ⟨_, .wayBad _ _ _ _ hs h1⟩
      | ok k r1 =>
        obtain ⟨n, rfl⟩ := h1.single rfl
        have l1 := (h1.len rfl).2 rfl
        have l2 := post_len n r1
        obtain ⟨b, h2⟩ := ihm (post n r1).2 o (by omega) (by omega)
        cases b with
        | bad w l => exact ⟨_, .wayLater _ _ _ _ _ _ hs h1 h2⟩
        | ok k2 r2 => exact ⟨_, .wayNext _ _ _ _ _ _ hs h1 h2⟩
theorem P.total : ∀ N r o, r.length < N → ∃ a, P .ways o r a := by
  intro N
  induction N with
  | zero => intro r o h; omega
  | succ N ih =>
    have ht : ∀ r o, r.length ≤ N → r ≠ [] → ∃ a, P .thing o r a := by
      intro r o hl hne
      cases r with
      | nil => exact absurd rfl hne
      | cons c t =>
        simp only [List.length_cons] at hl
        by_cases h1 : c = 42 ∨ c = 43 ∨ c = 63
        · exact ⟨_, .rep _ _ _ h1⟩
        · by_cases h2 : c = 46
          · subst h2; exact ⟨_, .dot _ _⟩
          · by_cases h3 : c = 94
            · subst h3; exact ⟨_, .bol _ _⟩
            · by_cases h4 : c = 36
              · subst h4; exact ⟨_, .eol _ _⟩
              · by_cases h5 : c = 40
                · subst h5
                  by_cases ho : o < 16
                  · obtain ⟨a, h⟩ := ih t (o + 1) (by omega)
                    cases a with
                    | bad w l => exact ⟨_, .inBad _ _ _ _ ho h⟩
                    | ok k r =>
                      have hp := (h.past rfl).2 rfl
                      rcases past_of hp.1 hp.2 with rfl | ⟨u, rfl⟩
                      · exact ⟨_, .inEnd _ _ _ ho h⟩
                      · exact ⟨_, .group _ _ _ _ ho h⟩
                  · exact ⟨_, .deep _ _ (by omega)⟩
                · by_cases h6 : c = 91
                  · subst h6; exact ⟨_, .set _ _⟩
                  · by_cases h7 : c = 92
                    · subst h7
                      cases t with
                      | nil => exact ⟨_, .escEnd _⟩
                      | cons d t => exact ⟨_, .esc _ _ _⟩
                    · exact ⟨_, .byte _ _ _ (by simp only [not_or] at h1; simp [plain, h1, h2, h3, h4, h5, h6, h7])⟩
    have hw := way_total N ht
    intro r o hl
    have aux : ∀ m r o, r.length ≤ m → m ≤ N → ∃ a, P .ways o r a := by
      intro m
      induction m with
      | zero =>
        intro r o hm hN
        obtain ⟨a, h⟩ := hw 0 r o hm hN
        cases a with
        | bad w l => exact ⟨_, .waysBad _ _ _ _ h⟩
        | ok k r1 =>
          have := (h.len rfl).1
          have e : r1 = [] := List.length_eq_zero_iff.1 (by omega)
          subst e
          exact ⟨_, .waysOne _ _ _ _ h (by simp)⟩
      | succ m ihm =>
        intro r o hm hN
        obtain ⟨a, h⟩ := hw (m + 1) r o hm hN
        cases a with
        | bad w l => exact ⟨_, .waysBad _ _ _ _ h⟩
        | ok k r1 =>
          have hl1 := (h.len rfl).1
          by_cases he : r1.head? = some 124
          · cases r1 with
            | nil => cases he
            | cons c t =>
              simp at he; subst he
              simp only [List.length_cons] at hl1
              obtain ⟨b, h2⟩ := ihm t o (by omega) (by omega)
              cases b with
              | bad w l => exact ⟨_, .waysLater _ _ _ _ _ _ h h2⟩
              | ok k2 r2 => exact ⟨_, .waysNext _ _ _ _ _ _ h h2⟩
          · exact ⟨_, .waysOne _ _ _ _ h he⟩
    exact aux r.length r o (Nat.le_refl _) (by omega)
inductive Comp (p : List UInt8) : List Nd ⊕ (Nat × Nat) → Prop where
  | long (h : 200 < p.length) : Comp p (.inr (5, 0))
  | bad (w l : Nat) (h : p.length ≤ 200) (h1 : P .ways 0 p (.bad w l)) : Comp p (.inr (w, p.length - l))
  | many (k : List Nd) (r : List UInt8) (h : p.length ≤ 200) (h1 : P .ways 0 p (.ok k (41 :: r))) : Comp p (.inr (3, p.length - (r.length + 1)))
  | ok (k : List Nd) (h : p.length ≤ 200) (h1 : P .ways 0 p (.ok k [])) : Comp p (.inl k)
theorem Comp.total (p : List UInt8) : ∃ c, Comp p c := by
  by_cases h : 200 < p.length
  · exact ⟨_, .long h⟩
  · obtain ⟨a, h1⟩ := P.total (p.length + 1) p 0 (by omega)
    cases a with
    | bad w l => exact ⟨_, .bad w l (by omega) h1⟩
    | ok k r =>
      have hp := (h1.past rfl).2 rfl
      rcases past_of hp.1 hp.2 with rfl | ⟨u, rfl⟩
      · exact ⟨_, .ok k (by omega) h1⟩
      · exact ⟨_, .many k u (by omega) h1⟩
theorem Comp.same {p : List UInt8} {a b : List Nd ⊕ (Nat × Nat)} (h : Comp p a) (h' : Comp p b) : a = b := by
  cases h with
  | long h => cases h' with
    | long => rfl
    | bad => omega
    | many => omega
    | ok => omega
  | bad w l h h1 => cases h' with
    | long => omega
    | bad _ _ _ h2 => cases h1.same h2; rfl
    | many _ _ _ h2 => cases h1.same h2
    | ok _ _ h2 => cases h1.same h2
  | many k r h h1 => cases h' with
    | long => omega
    | bad _ _ _ h2 => cases h1.same h2
    | many _ _ _ h2 => cases h1.same h2; rfl
    | ok _ _ h2 => cases h1.same h2
  | ok k h h1 => cases h' with
    | long => omega
    | bad _ _ _ h2 => cases h1.same h2
    | many _ _ _ h2 => cases h1.same h2
    | ok _ _ h2 => cases h1.same h2; rfl
theorem Comp.flat {p : List UInt8} {c : List Nd ⊕ (Nat × Nat)} (h : Comp p c) (hl : p.length ≤ 200) : match c with
    | .inl k => ∃ sg, Sc 0 false p (.ok sg) ∧ SP .ways sg k []
    | .inr (w, at') => ∃ l, Sc 0 false p (.bad w l) ∧ at' = p.length - l := by
  cases h with
  | long h => omega
  | bad w l h h1 =>
    have := h1.scan false (fun h => by cases h) (fun h => by cases h) (by omega)
    exact ⟨l, this, rfl⟩
  | many k r h h1 =>
    obtain ⟨sg, _, h3⟩ := h1.scan false (fun h => by cases h) (fun h => by cases h) (by omega)
    have := h3 (.bad 3 (r.length + 1)) (fun a => .markBad _ _ _ _ _ rfl (by unfold markR; simp))
    exact ⟨_, this, rfl⟩
  | ok k h h1 =>
    obtain ⟨sg, h2, h3⟩ := h1.scan false (fun h => by cases h) (fun h => by cases h) (by omega)
    have a1 := h2 [] ⟨rfl, by simp⟩
    have a2 := h3 (.ok []) (fun a => .nil a)
    simp only [List.append_nil, SRes.app] at a1 a2
    exact ⟨sg, a2, a1⟩
inductive SW : List Sg → List Nd → List Sg → Prop where
  | stop (r : List Sg) (h : r.head? ≠ some (.mark 124)) : SW r [] r
  | more (r r1 r2 : List Sg) (k m : List Nd) (h1 : SP .way r k r1) (h2 : SW r1 m r2) : SW (.mark 124 :: r) (.seq k :: m) r2
theorem SP.ways_cases {l r : List Sg} {k : List Nd} {g : Tag} (h : SP g l k r) : g = .ways → ∃ k0 m r1, k = .seq k0 :: m ∧ SP .way l k0 r1 ∧ SW r1 m r := by
  induction h with
  | waysOne l r k h1 h2 ih => intro _; exact ⟨k, [], r, rfl, h1, .stop _ h2⟩
  | waysNext l r r2 k m h1 h2 ih1 ih2 =>
    intro _
    obtain ⟨k0, m', r1, rfl, h3, h4⟩ := ih2 rfl
    exact ⟨k, _, _, rfl, h1, .more _ _ _ _ _ h3 h4⟩
  | _ => intro h; cases h
theorem postS_len (n : Nd) (r : List Sg) : (postS n r).2.length ≤ r.length := by
  unfold postS
  split
  · split
    · simp
    · split
      · simp
      · split <;> simp
  · simp
theorem codeA_len : ∀ (l : List Nd) (C : List Stp), C.length ≤ (codeA C l).length
  | [], C => by unfold codeA; exact Nat.le_refl _
  | n :: l, C => by
    unfold codeA
    refine Nat.le_trans ?_ (codeA_len l _)
    unfold either; simp; omega
def lenOf : Tag → List Nd → Nat
  | .thing, k => (codeS k).length
  | .way, k => (codeS k).length
  | .ways, k => (code (.alt k)).length
theorem codeA_len2 : ∀ (l : List Nd) (C D : List Stp), (codeA C l).length + D.length = (codeA D l).length + C.length
  | [], C, D => by unfold codeA; omega
  | n :: l, C, D => by
    unfold codeA
    have := codeA_len2 l (either C (code n)) (either D (code n))
    unfold either at this ⊢
    simp at this ⊢
    omega
theorem code_post (n : Nd) (r : List Sg) : (code (postS n r).1).length + 2 * (postS n r).2.length ≤ (code n).length + 2 * r.length := by
  unfold postS
  split
  · split
    · simp [code, maybe, agn]; omega
    · split
      · simp [code, agn]; omega
      · split
        · simp [code, maybe]; omega
        · simp
  · simp
theorem SP.size {g : Tag} {l r : List Sg} {k : List Nd} (h : SP g l k r) : lenOf g k + 2 * r.length ≤ 2 * l.length := by
  induction h with
  | one x t h => obtain ⟨f, rfl | rfl | rfl⟩ := h <;> simp [lenOf, codeS, code, ndOf] <;> omega
  | group t r k h ih =>
    simp only [lenOf, codeS, List.length_append, List.length_nil, List.length_cons] at ih ⊢
    omega
  | wayEnd l h => simp [lenOf, codeS]
  | wayNext l r r2 n k h h1 h2 ih1 ih2 =>
    have := code_post n r
    simp only [lenOf, codeS, List.length_append, List.length_nil] at ih1 ih2 ⊢
    omega
  | waysOne l r k h1 h2 ih => simpa [lenOf, code, codeA] using ih
  | waysNext l r r2 k m h1 h2 ih1 ih2 =>
    cases m with
    | nil => cases h2
    | cons n0 m0 =>
      simp only [lenOf] at ih1 ih2 ⊢
      have e1 : code (.alt (.seq k :: n0 :: m0)) = codeA (either (codeS k) (code n0)) m0 := by simp [code, codeA]
      have e2 : code (.alt (n0 :: m0)) = codeA (code n0) m0 := by simp [code]
      rw [e1]; rw [e2] at ih2
      have := codeA_len2 m0 (either (codeS k) (code n0)) (code n0)
      simp only [either, List.length_cons, List.length_append] at this ih1 ⊢
      omega
end RxSem
namespace RxSem
inductive LM (s : List UInt8) (n : Nd) : Nat → List (Nat × Nat) → Prop where
  | top : LM s n (s.length + 1) []
  | no {p : Nat} {K : List (Nat × Nat)} (h : LM s n (p + 1) K) (hp : p ≤ s.length) (hn : ∀ e, ¬ M s n p e) : LM s n p K
  | yes {p e : Nat} {K : List (Nat × Nat)} (h : LM s n (p + 1) K) (hp : p ≤ s.length) (he : M s n p e) (hm : ∀ e', M s n p e' → e' ≤ e) : LM s n p ((p, e) :: K)
theorem LM.same {s : List UInt8} {n : Nd} {p : Nat} {K K' : List (Nat × Nat)} (h : LM s n p K) (h' : LM s n p K') : K = K' := by
  induction h generalizing K' with
  | top => cases h' with
    | top => rfl
    | no _ hp => omega
    | yes _ hp => omega
  | no h hp hn ih => cases h' with
    | top => omega
    | no h2 => exact ih h2
    | yes _ _ he => exact absurd he (hn _)
  | @yes p e K h hp he hm ih => cases h' with
    | top => omega
    | no _ _ hn => exact absurd he (hn _)
    | @yes _ e2 K2 h2 _ he2 hm2 =>
      have h1 := hm e2 he2
      have h3 := hm2 e he
      have : e = e2 := by omega
      rw [ih h2, this]
end RxSem
