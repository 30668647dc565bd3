/-
  Whether two lists of rules are the same; what joined rules are made of.
-/
import Derived.Test.YtbgnmchnfaknkaaDoorJ12
namespace Go.Proofs.YtbgnmchnfaknkaaDoor
open Go.RowKit Go.Shelf Go.Maps

set_option maxRecDepth 20000 in
set_option maxHeartbeats 1000000 in
theorem all_any (l : List Q.Ru) (v1 v2 : Value) (w : World) (hv1 : RLst w.heap.size w v1 l) (hv2 : RLst w.heap.size w v2 l) (hl : l.length ≤ 100000000) (hz : ∀ r ∈ l, r.targets.length ≤ 1000000000 ∧ r.sources.length ≤ 1000000000 ∧ r.commands.length ≤ 1000000000) :
    Calls Tryd.prog 14 #[v1, v2] w fun x w' => x = .returned (.bool true) ∧ Below w.heap.size w w' := by
  obtain ⟨a1, n, c1, rfl⟩ : ∃ a n c, v1 = .slice a n c := by obtain ⟨a, n, c, h, _⟩ := hv1; exact ⟨a, n, c, h⟩
  obtain ⟨a2, n2, c2, rfl⟩ : ∃ a n c, v2 = .slice a n c := by obtain ⟨a, n, c, h, _⟩ := hv2; exact ⟨a, n, c, h⟩
  have hn := hv1.len
  have hn2 := hv2.len
  obtain rfl : n2 = n := by rw [hn.1, hn2.1]
  have hcap := hn.2
  have hcap2 := hn2.2
  have hnl : n2 ≤ 100000000 := by rw [hn.1]; exact hl
  have HV : Hid (RLst w.heap.size w (.slice a1 n2 c1) l ∧ RLst w.heap.size w (.slice a2 n2 c2) l ∧ n2 = l.length ∧ ∀ r ∈ l, r.targets.length ≤ 1000000000 ∧ r.sources.length ≤ 1000000000 ∧ r.commands.length ≤ 1000000000) := ⟨hv1, hv2, hn.1, hz⟩
  clear hv1 hv2 hl hz hn hn2
  go_enter Tryd.func14, Tryd.ntmps14
  go_wp2_with fail
  go_loopw [5] (fun vi wr => ∃ k : Nat, k ≤ n2 ∧ vi = .int .i64 k ∧ Hid (Below w.heap.size w wr)) (fun vi _ => n2 - (intOf vi).toNat)
  case atStart => exact ⟨0, Nat.zero_le _, rfl, Below.refl _ _⟩
  case round =>
    obtain ⟨k, hk, rfl, HI⟩ := hrel
    by_cases hlt : k < n2
    · have hkl : k < l.length := by rw [← HV.out.2.2.1]; exact hlt
      have hil : (k : Int) < (n2 : Int) := by omega
      obtain ⟨r, hr⟩ : ∃ r, l[k]? = some r := ⟨l[k], List.getElem?_eq_some_iff.2 ⟨hkl, rfl⟩⟩
      obtain ⟨b, o, ta, tn, tc, sa, sn, sc, ca, cn, cc, rfl, hb, p0, p1, p2, p3, p4, w0, w1, w2⟩ := HV.out.1.pick hr
      obtain ⟨b', o', ta', tn', tc', sa', sn', sc', ca', cn', cc', rfl, hb', q0, q1, q2, q3, q4, u0, u1, u2⟩ := HV.out.2.1.pick hr
      obtain ⟨kr, hkr⟩ : ∃ k, k = r.kind := ⟨_, rfl⟩
      obtain ⟨ra, hra⟩ : ∃ n, n = r.at_ := ⟨_, rfl⟩
      have hzr := HV.out.2.2.2 r (List.mem_of_getElem? hr)
      have r1 : RuV w.heap.size w (.agg #[.slice ta tn tc, .int .i64 kr, .slice sa sn sc, .slice ca cn cc, .int .i64 ra]) r := ⟨_, _, _, by rw [hkr, hra], w0, w1, w2⟩
      have r2 : RuV w.heap.size w (.agg #[.slice ta' tn' tc', .int .i64 kr, .slice sa' sn' sc', .slice ca' cn' cc', .int .i64 ra]) r := ⟨_, _, _, by rw [hkr, hra], u0, u1, u2⟩
      have HC : Hid (∀ W, Below w.heap.size w W → Calls Tryd.prog 9 #[.agg #[.slice ta tn tc, .int .i64 kr, .slice sa sn sc, .slice ca cn cc, .int .i64 ra], .agg #[.slice ta' tn' tc', .int .i64 kr, .slice sa' sn' sc', .slice ca' cn' cc', .int .i64 ra]] W fun e w' => e = .returned (.bool true) ∧ Below W.heap.size W w') := fun W hW =>
rsame_any r _ _ W ((r1.below hW).mono hW.size) ((r2.below hW).mono hW.size) (by omega) (by omega) (by omega)
      rw [← hkr] at p1 q1
      rw [← hra] at p4 q4
      have HS : Hid (∀ W, Below w.heap.size w W → W.cell? ⟨b, o + k * 5, none⟩ = some (.slice ta tn tc) ∧ W.cell? ⟨b, o + k * 5 + 1, none⟩ = some (.int .i64 kr) ∧ W.cell? ⟨b, o + k * 5 + 2, none⟩ = some (.slice sa sn sc) ∧ W.cell? ⟨b, o + k * 5 + 3, none⟩ = some (.slice ca cn cc) ∧ W.cell? ⟨b, o + k * 5 + 4, none⟩ = some (.int .i64 ra) ∧ W.cell? ⟨b', o' + k * 5, none⟩ = some (.slice ta' tn' tc') ∧ W.cell? ⟨b', o' + k * 5 + 1, none⟩ = some (.int .i64 kr) ∧ W.cell? ⟨b', o' + k * 5 + 2, none⟩ = some (.slice sa' sn' sc') ∧ W.cell? ⟨b', o' + k * 5 + 3, none⟩ = some (.slice ca' cn' cc') ∧ W.cell? ⟨b', o' + k * 5 + 4, none⟩ = some (.int .i64 ra)) := fun W hW =>
        ⟨(hW.cell hb).trans p0, (hW.cell hb).trans p1, (hW.cell hb).trans p2, (hW.cell hb).trans p3, (hW.cell hb).trans p4, (hW.cell hb').trans q0, (hW.cell hb').trans q1, (hW.cell hb').trans q2, (hW.cell hb').trans q3, (hW.cell hb').trans q4⟩
      clear p0 p1 p2 p3 p4 q0 q1 q2 q3 q4 w0 w1 w2 u0 u1 u2 hkr hra hr hzr r1 r2
      go_wp2_with fail
      go_region_held3 (fun W => W.cell? ⟨b, o + k * 5, none⟩ = some (.slice ta tn tc) ∧ W.cell? ⟨b, o + k * 5 + 1, none⟩ = some (.int .i64 kr) ∧ W.cell? ⟨b, o + k * 5 + 2, none⟩ = some (.slice sa sn sc) ∧ W.cell? ⟨b, o + k * 5 + 3, none⟩ = some (.slice ca cn cc) ∧ W.cell? ⟨b, o + k * 5 + 4, none⟩ = some (.int .i64 ra) ∧ W.cell? ⟨b', o' + k * 5, none⟩ = some (.slice ta' tn' tc') ∧ W.cell? ⟨b', o' + k * 5 + 1, none⟩ = some (.int .i64 kr) ∧ W.cell? ⟨b', o' + k * 5 + 2, none⟩ = some (.slice sa' sn' sc') ∧ W.cell? ⟨b', o' + k * 5 + 3, none⟩ = some (.slice ca' cn' cc') ∧ W.cell? ⟨b', o' + k * 5 + 4, none⟩ = some (.int .i64 ra)) (first | exact HS.out _ HI.out | exact HS.out _ (below_drewN HI.out 1) | exact HS.out _ (below_trans (below_drewN HI.out 1) hb1 HI.out.size)) (first | (go_at_call 9; refine (HC.out _ (below_drewN HI.out 1)).mono ?_; rintro e w1 ⟨rfl, hb1⟩))
      have H1 : Hid (Below w.heap.size w w1) := below_trans (below_drewN HI.out 1) hb1 HI.out.size
      clear hb1
      go_wp2_with fail
      go_roundw
      case rel => exact ⟨k + 1, by omega, by go_num, H1.out⟩
      case measure => simp [intOf]; omega
    · have hnl : ¬ (k : Int) < (n2 : Int) := by omega
      go_wp2_with fail
      go_ret
      exact ⟨rfl, HI.out⟩
end Go.Proofs.YtbgnmchnfaknkaaDoor
namespace Go.Proofs.YtbgnmchnfaknkaaDoor.Q
variable (cl : Bs → Nat)
theorem all_addR (P : Bs → Prop) (r : Ru) (t : Bs) (rs : List Ru) (ht : P t) (h : ∀ x ∈ rs, ∀ u ∈ x.targets, P u) : ∀ x ∈ addR r rs t, ∀ u ∈ x.targets, P u := by
  have hnew : ∀ x ∈ rs ++ [newR t r], ∀ u ∈ x.targets, P u := by
    intro x hx u hu
    rcases List.mem_append.1 hx with hx | hx
    · exact h x hx u hu
    · simp at hx; subst hx
      simp [newR, extR] at hu; subst hu; exact ht
  unfold addR
  cases e1 : lastI t rs with
  | none => exact hnew
  | some i =>
    obtain ⟨e, he, _⟩ := lastI_some e1
    simp only [he]
    by_cases hk : r.kind = 3
    · rw [if_pos hk]; exact hnew
    · rw [if_neg hk]
      intro x hx u hu
      rcases List.mem_or_eq_of_mem_set hx with hx | hx
      · exact h x hx u hu
      · subst hx; exact h e (List.mem_of_getElem? he) u hu
theorem all_addAll (P : Bs → Prop) (r : Ru) : ∀ (ts : List Bs) (rs : List Ru), (∀ t ∈ ts, P t) → (∀ x ∈ rs, ∀ u ∈ x.targets, P u) → ∀ x ∈ addAll r rs ts, ∀ u ∈ x.targets, P u
  | [], rs, _, h => h
  | t :: ts, rs, ht, h => all_addAll P r ts (addR r rs t) (fun u hu => ht u (by simp [hu])) (all_addR P r t rs (ht t (by simp)) h)
theorem all_join (P : Bs → Prop) : ∀ (l rs a : List Ru), (∀ r ∈ l, ∀ t ∈ r.targets, P t) → (∀ x ∈ rs, ∀ u ∈ x.targets, P u) → (joinL cl rs l).1 = some a → ∀ x ∈ a, ∀ u ∈ x.targets, P u
  | [], rs, a, _, h, e => by simp [joinL] at e; subst e; exact h
  | r :: l, rs, a, hl, h, e => by
    rw [joinL] at e
    by_cases hc : clashesR cl rs r = true
    · rw [if_pos hc] at e; simp at e
    · rw [if_neg hc] at e
      exact all_join P l _ a (fun x hx => hl x (by simp [hx])) (all_addAll P r r.targets rs (hl r (by simp)) h) e
theorem tot_one : ∀ (a : List Ru), (∀ x ∈ a, ∃ t, x.targets = [t]) → tot a = a.length
  | [], _ => rfl
  | x :: a, h => by
    obtain ⟨t, ht⟩ := h x (by simp)
    have := tot_one a fun y hy => h y (by simp [hy])
    have e : tot (x :: a) = x.targets.length + tot a := by simp [tot]
    rw [e, this, ht]; simp; omega
end Go.Proofs.YtbgnmchnfaknkaaDoor.Q
namespace Go.Proofs.YtbgnmchnfaknkaaDoor
/-- What was joined may be joined again. -/
theorem lim_again {m : Nat} {l a : List Q.Ru} (hl : Lim m l) (hm : m ≤ 2000000) (e : (Q.joinL classF [] l).1 = some a) : Lim (400 * m) a ∧ Q.Once a := by
  have ho := Q.once_join classF l [] a Q.Once.nil e
  obtain ⟨s1, s2⟩ := Q.sz_join classF l 0 [] a hl.sz (by intro x hx; simp at hx) e
  have ht := Q.tot_one a ho.one
  have := hl.tot
  simp at s2
  refine ⟨⟨by omega, by omega, fun x hx => ?_, by omega, ?_⟩, ho⟩
  · have h1 := s1 x hx
    have : Q.tot l * m ≤ 400 * m := Nat.mul_le_mul hl.tot (Nat.le_refl _)
    omega
  · exact Q.all_join classF (fun t => t.length ≤ 140737488355328) l [] a hl.names (by intro x hx; simp at hx) e
end Go.Proofs.YtbgnmchnfaknkaaDoor
