/-
  A region that draws its order, with a load that nobody writes ahead of one step of it: what is known of the memory may speak of that load's cell as long as that step has not come up.
-/
import Derived.Test.YtfcoihklihkngaaS15
import Derived.Deep.RegionHeld3
namespace Go.Proofs.Ytfcoihklihkngaa
open Go.RowKit Go.Shelf

section
variable {P : Program} {md : Region.Mode} {ops : Array Oper} {Q : Exit → Go.Act → World → Prop} {SA SB : World → Prop} {m : Nat}
/-- Whatever comes up next: behind it SA holds, and SB as long as step m has not come up. -/
def AnyT (P : Program) (md : Region.Mode) (ops : Array Oper) (Q : Exit → Go.Act → World → Prop) (SA SB : World → Prop) (m : Nat) : Nat → Array Bool → Go.Act → World → Prop
  | 0, listed, a, w => Region.ready md ops listed = [] ∧ Q .normal a w
  | fuel + 1, listed, a, w => (Region.ready md ops listed = [] → Q .normal a w) ∧ ∀ i ∈ Region.ready md ops listed, wpOp P ops Q i (fun a' w' => (SA w' ∧ ((listed.setIfInBounds i true).getD m true = false → SB w')) ∧ AnyT P md ops Q SA SB m fuel (listed.setIfInBounds i true) a' w') a w
theorem any_of_t : ∀ (fuel : Nat) (listed : Array Bool) (a : Go.Act) (w : World), AnyT P md ops Q SA SB m fuel listed a w → wpAny P md ops Q fuel listed a w
  | 0, _, _, _, h => h
  | fuel + 1, _, _, _, h => ⟨h.1, fun i hi => wpOp_mono (fun a' w' h' => any_of_t fuel _ a' w' h'.2) (h.2 i hi)⟩
theorem unlisted_not {listed : Array Bool} {i : Nat} (h0 : listed.getD i true = false) (h1 : listed.getD i false = true) : False := by
  rcases Nat.lt_or_ge i listed.size with h | h
  · simp [h] at h0 h1; rw [h0] at h1; cases h1
  · simp [Array.getElem?_eq_none h] at h1
/-- A step that yields its value in each world that meets T may be taken first, if T is known as long as R holds of what has come up, and R is kept by all that may come up ahead of it. -/
theorem t_first {T : World → Prop} {R : Array Bool → Prop} {i : Nat} {oi : Oper} {v : Value} (hi : ops[i]? = some oi) (hsel : ∀ (j : Nat) (o : Oper) cs b, ops[j]? = some o → o.op ≠ .select cs b)
    (hQ : ∀ c a w, Q (.panic c) (a.put oi.dst v) w → Q (.panic c) a w) (hT : ∀ listed w, R listed → SA w → (listed.getD m true = false → SB w) → T w)
    (him : i ≠ m)
    (hR : ∀ listed j, R listed → listed.getD i true = false → j ∈ Region.ready md ops listed → j ≠ i → R (listed.setIfInBounds j true)) :
    ∀ (fuel : Nat) (listed : Array Bool) (a : Go.Act) (w : World),
      (∀ j oj, ops[j]? = some oj → j ≠ i → listed.getD j true = false → (∀ e ∈ oj.after, Region.binds md e = true → e.on ≠ i) → oi.apart ops oj = true) →
      i ∈ Region.ready md ops listed → YieldsIf P ops T oi v a → R listed → SA w → (listed.getD m true = false → SB w) →
      AnyT P md ops Q SA SB m fuel (listed.setIfInBounds i true) (a.put oi.dst v) w → AnyT P md ops Q SA SB m (fuel + 1) listed a w := by
  intro fuel
  induction fuel with
  | zero =>
    intro listed a w _ hr hy hRl hA hB H
    have hB' : (listed.setIfInBounds i true).getD m true = false → SB w := fun h => hB (by rw [getD_set_ne true him] at h; exact h)
    refine ⟨fun h => (by rw [h] at hr; cases hr), fun j hj => ?_⟩
    by_cases hji : j = i
    · rw [hji]; exact hy.wpOp hi (hT _ _ hRl hA hB) ⟨⟨hA, hB'⟩, H⟩
    · have h1 := ready_mono hj hji
      rw [H.1] at h1; cases h1
  | succ fuel ih =>
    intro listed a w hfree hr hy hRl hA hB H
    have hB' : (listed.setIfInBounds i true).getD m true = false → SB w := fun h => hB (by rw [getD_set_ne true him] at h; exact h)
    refine ⟨fun h => (by rw [h] at hr; cases hr), fun j hj => ?_⟩
    by_cases hji : j = i
    · rw [hji]; exact hy.wpOp hi (hT _ _ hRl hA hB) ⟨⟨hA, hB'⟩, H⟩
    · obtain ⟨hjun, oj, hoj, hall⟩ := mem_ready.1 hj
      have hiun := (mem_ready.1 hr).1
      have hno : ∀ e ∈ oj.after, Region.binds md e = true → e.on ≠ i := fun e he hb heq => unlisted_not hiun (heq ▸ hall e he hb)
      have step := wpOp_putIf hoj (hfree j oj hoj hji hjun hno) (fun cs b => hsel i oi cs b hi) (fun cs b => hsel j oj cs b hoj) hQ hy (H.2 j (ready_mono hj hji))
      have hRj := hR listed j hRl hiun hj hji
      refine wpOp_mono (fun a' w' hk => ?_) step
      obtain ⟨hy', ⟨hA', hBij⟩, Hk⟩ := hk
      have hcomm : (listed.setIfInBounds i true).setIfInBounds j true = (listed.setIfInBounds j true).setIfInBounds i true := Array.setIfInBounds_comm _ _ (fun e => hji e.symm)
      rw [hcomm] at hBij Hk
      -- SB behind step j, with i not yet come up
      have hBj : (listed.setIfInBounds j true).getD m true = false → SB w' := fun hm => hBij (by rw [getD_set_ne true him]; exact hm)
      refine ⟨⟨hA', hBj⟩, ih (listed.setIfInBounds j true) a' w' ?_ (ready_mono hr (Ne.symm hji)) hy' hRj hA' hBj Hk⟩
      intro k ok hk hki hun hn
      refine hfree k ok hk hki ?_ hn
      by_cases hjk : j = k
      · subst hjk; exact hjun
      · rw [getD_set_ne true hjk] at hun; exact hun
/-- A step that SA alone settles. -/
theorem t_take {i : Nat} {oi : Oper} {v : Value} {fuel : Nat} {listed : Array Bool} {a : Go.Act} {w : World} (hi : ops[i]? = some oi) (hs : Region.noSelect ops = true) (hf : Region.free md ops listed i = true) (hr : (Region.ready md ops listed).contains i = true) (him : i ≠ m)
    (hQ : ∀ c a w, Q (.panic c) (a.put oi.dst v) w → Q (.panic c) a w) (hA : SA w) (hB : listed.getD m true = false → SB w) (hy : YieldsIf P ops SA oi v a)
    (h : AnyT P md ops Q SA SB m fuel (listed.setIfInBounds i true) (a.put oi.dst v) w) : AnyT P md ops Q SA SB m (fuel + 1) listed a w :=
  t_first (T := SA) (R := fun _ => True) hi (Region.noSelect_spec hs) hQ (fun _ _ _ h _ => h) him (fun _ _ _ _ _ _ => trivial) fuel listed a w (Region.free_spec hi hf) (by simpa using hr) hy trivial hA hB h
/-- The same, the place that it writes written out. -/
theorem t_takeD {i : Nat} {oi : Oper} {v : Value} {fuel : Nat} {listed : Array Bool} {a : Go.Act} {w : World} (d : Option Tmp) (hi : ops[i]? = some oi) (hd : oi.dst = d) (hs : Region.noSelect ops = true) (hf : Region.free md ops listed i = true) (hr : (Region.ready md ops listed).contains i = true) (him : i ≠ m)
    (hQ : ∀ c a w, Q (.panic c) (a.put oi.dst v) w → Q (.panic c) a w) (hA : SA w) (hB : listed.getD m true = false → SB w) (hy : YieldsIf P ops SA oi v a)
    (h : AnyT P md ops Q SA SB m fuel (listed.setIfInBounds i true) (a.put d v) w) : AnyT P md ops Q SA SB m (fuel + 1) listed a w :=
  t_take hi hs hf hr him hQ hA hB hy (by rw [hd]; exact h)
/-- A step that SB settles, and that step m waits for. -/
theorem t_takeB {i : Nat} {oi om : Oper} {v : Value} {fuel : Nat} {listed : Array Bool} {a : Go.Act} {w : World} (hi : ops[i]? = some oi) (hs : Region.noSelect ops = true) (hf : Region.free md ops listed i = true) (hr : (Region.ready md ops listed).contains i = true) (him : i ≠ m) (hm : ops[m]? = some om) (hmi : (om.after.any fun e => Region.binds md e && e.on == i) = true) (hml : listed.getD m true = false)
    (hQ : ∀ c a w, Q (.panic c) (a.put oi.dst v) w → Q (.panic c) a w) (hA : SA w) (hB : listed.getD m true = false → SB w) (hy : YieldsIf P ops SB oi v a)
    (h : AnyT P md ops Q SA SB m fuel (listed.setIfInBounds i true) (a.put oi.dst v) w) : AnyT P md ops Q SA SB m (fuel + 1) listed a w := by
  refine t_first (T := SB) (R := fun l => l.getD m true = false) hi (Region.noSelect_spec hs) hQ (fun _ _ h1 _ h2 => h2 h1) him (fun l j h1 h2 hj hji => ?_) fuel listed a w (Region.free_spec hi hf) (by simpa using hr) hy hml hA hB h
  have hjm : j ≠ m := fun e => by
    subst e
    obtain ⟨_, o, ho, hall⟩ := mem_ready.1 hj
    rw [hm] at ho; cases ho
    obtain ⟨e, he, hb⟩ := Array.any_eq_true'.1 hmi
    simp only [Bool.and_eq_true, beq_iff_eq] at hb
    exact unlisted_not h2 (hb.2 ▸ hall e he hb.1)
  rw [getD_set_ne true hjm]; exact h1
/-- One step alone may come up. -/
theorem t_step {i : Nat} {o : Oper} {fuel : Nat} {listed : Array Bool} {a : Go.Act} {w : World} (hi : ops[i]? = some o) (hr : Region.ready md ops listed = [i])
    (h : ∀ K : Go.Act → World → Prop, (∀ a' w', SA w' → ((listed.setIfInBounds i true).getD m true = false → SB w') → AnyT P md ops Q SA SB m fuel (listed.setIfInBounds i true) a' w' → K a' w') → if Region.wanted o (yielded ops a.tmps) = true then Oper.wp P o a w K Q else K (a.put o.dst undef) w) : AnyT P md ops Q SA SB m (fuel + 1) listed a w := by
  refine ⟨fun h0 => (by rw [h0] at hr; cases hr), fun j hj => ?_⟩
  rw [hr] at hj
  obtain rfl : j = i := by simpa using hj
  exact wpOp_step hi fun K' hK => h K' fun a' w' h1 h2 h3 => hK a' w' ⟨⟨h1, h2⟩, h3⟩
theorem t_done {listed : Array Bool} {a : Go.Act} {w : World} (hr : Region.ready md ops listed = []) (h : Q .normal a w) : ∀ fuel, AnyT P md ops Q SA SB m fuel listed a w
  | 0 => ⟨hr, h⟩
  | _ + 1 => ⟨fun _ => h, fun i hi => (by rw [hr] at hi; cases hi)⟩
theorem wp_region_t {id : Nat} {a : Go.Act} {w : World} {n : Nat} (hm : P.follows .mixedOrders = true) (hn : ops.size = n)
    (h : AnyT P .any ops Q SA SB m n (Array.replicate n false) a w.drew) : (Code.region id ops true).wp P Q a w := by
  subst hn
  exact wp_region_any hm (any_of_t _ _ _ _ h)
end
end Go.Proofs.Ytfcoihklihkngaa
