/-
  What the program's Use answers.
-/
import Derived.Test.YtbciedpjaajhcaaDoorY2
import Derived.Test.YtbciedpjaajhcaaDoorX5
namespace Go.Proofs.YtbciedpjaajhcaaDoor.Ex
open Go.RowKit Go.Shelf

def useN (l : List UInt8) : Nat := match l with
  | [] => 0
  | x :: r => if x = 36 then (endN (x :: r)).getD 0 else 0

/-- Where a scanner that begins at a use's dollar comes to stand. -/
def UseEnd (T : List UInt8) (σf : Sn) : Prop := (σf.opn = [] ∧ useN T = σf.pos) ∨ (σf.opn ≠ [] ∧ σf.pos = T.length ∧ useN T = 0)
theorem use_final {T r : List UInt8} (hT : T = 36 :: r) : ∃ σf, Runs T 0 (stepF T scan0) σf ∧ UseEnd T σf := by
  have ht : T.drop 0 = 36 :: r := by rw [List.drop_zero, hT]
  have hu : useN T = (endN T).getD 0 := by rw [hT]; unfold useN; dsimp only; rw [if_pos rfl]
  have hs0 : scan0 = ⟨0, [], []⟩ := rfl
  rw [hs0, step_dollar ht]
  cases r with
  | nil =>
    refine ⟨_, .refl _, .inl ?_⟩
    rw [begin_end ht, hu, hT]
    exact ⟨rfl, rfl⟩
  | cons y r2 =>
    have htr := (drop_split ht).2.2
    have htr2 := (drop_split htr).2.2
    by_cases hy : clo y = 0
    · obtain ⟨d, e1, _⟩ := begin_one ht hy [] []
      refine ⟨_, .refl _, .inl ?_⟩
      rw [e1, hu, hT]
      refine ⟨rfl, ?_⟩
      unfold endN
      dsimp only
      rw [if_pos hy]
      rfl
    · have hcl := clo_ne hy
      rw [begin_br ht hy]
      have htl := congrArg List.length htr2
      rw [List.length_drop] at htl
      have hpl := (drop_split htr).2.1
      cases hb : bodyF r2.length y (clo y) 0 r2 with
      | none =>
        obtain ⟨σ, hL⟩ := body_none T r2.length r2 y (clo y) 0 (0 + 2) ([] ++ [⟨0, 0, 0 + 2, 0, 0, 0⟩]) [] 0 ⟨0, 0, 0 + 2, 0, 0, 0⟩ rfl htr2 (by omega) (Nat.le_refl _) hb hcl.2.2.1 hcl.1 (by omega)
        have ho := hL.opn
        refine ⟨σ, hL.run, .inr ⟨fun e => by rw [e] at ho; simp at ho, hL.pos, ?_⟩⟩
        rw [hu, hT]
        unfold endN
        dsimp only
        rw [if_neg hy, hb]
        rfl
      | some k =>
        obtain ⟨F', hF⟩ := body_some T r2.length r2 y (clo y) 0 (0 + 2) ([] ++ [⟨0, 0, 0 + 2, 0, 0, 0⟩]) [] 0 ⟨0, 0, 0 + 2, 0, 0, 0⟩ k rfl htr2 (Nat.le_refl _) hb hcl.2.2.1 hcl.1 (by omega)
        refine ⟨_, hF.run, .inl ⟨rfl, ?_⟩⟩
        rw [hu, hT, end_cons hy hb]
        show k + 2 = 0 + 2 + k
        omega
theorem Runs.head {T : List UInt8} {σ σf : Sn} (h : Runs T 0 σ σf) : σ = σf ∨ (0 < σ.opn.length ∧ σ.pos < T.length ∧ Runs T 0 (stepF T σ) σf) := by
  cases h with
  | refl => exact .inl rfl
  | step h1 h2 h3 => exact .inr ⟨h1, h2, h3⟩

set_option maxRecDepth 20000 in
set_option maxHeartbeats 1600000 in
theorem useN_any (s : ByteArray) (w : World) (hs : s.size ≤ 1000000) :
    Calls Tryd.prog 56 #[.string s] w fun e w' => e = .returned (.int .i64 (useN (bl s) : Nat)) ∧ Below w.heap.size w w' := by
  have HPx : Hid (Calls Tryd.prog 59 #[.string s, .string ⟨#[36]⟩] w fun e w' => e = .returned (.bool (Lib.hasPrefix (bl s) [36])) ∧ w = w') :=
    (Tryd.strings_HasPrefix s ⟨#[36]⟩ w).mono fun e w' h => ⟨h.1, h.2.symm⟩
  obtain ⟨z, hz⟩ : ∃ z : Int, z = (useN (bl s) : Nat) := ⟨_, rfl⟩
  rw [← hz]
  have hcase : Lib.hasPrefix (bl s) [36] = true ∧ (∃ r, bl s = 36 :: r) ∨ Lib.hasPrefix (bl s) [36] = false ∧ useN (bl s) = 0 := by
    unfold Lib.hasPrefix
    cases hb : bl s with
    | nil => exact .inr ⟨rfl, rfl⟩
    | cons a t =>
      by_cases h : a = 36
      · subst h; exact .inl ⟨by simp [List.isPrefixOf], t, rfl⟩
      · refine .inr ⟨?_, by unfold useN; dsimp only; rw [if_neg h]⟩
        simp [List.isPrefixOf]
        exact fun e => h e.symm
  rcases hcase with ⟨h1, r, hr⟩ | ⟨h1, h2⟩
  · rw [h1] at HPx
    obtain ⟨σf, hrun, hfin⟩ := use_final hr
    have hlen : (bl s).length = s.size := bl_length s
    have hp0 : 0 < s.size := by rw [← hlen, hr]; simp
    have HT : Hid (∀ (vf vo : Value) (σ : Sn) (W : World), SnAt w.heap.size w.heap.size s vf vo σ W → σ.pos < s.size → Calls Tryd.prog 67 #[.pointer (some ⟨w.heap.size, 0, none⟩)] W (StepPost w.heap.size w.heap.size s (stepF (bl s) σ) W)) := fun vf vo σ W h hp => step_any W h hs hp
    have H0 : Hid (SnAt w.heap.size w.heap.size s (.slice none 0 0) (.slice none 0 0) scan0 (w.alloc (.cells #[.string s, .int .i64 0, .slice none 0 0, .slice none 0 0] 121))) :=
      ⟨⟨heap_alloc_new _ _, World.ownsRow_nil _ _ _ _, World.ownsRow_nil _ _ _ _, Nat.le_refl _⟩, scan0_fine _⟩
    have HL : Hid ((bl s).length = s.size) := hlen
    have HF : Hid (Runs (bl s) 0 (stepF (bl s) scan0) σf ∧ UseEnd (bl s) σf) := ⟨hrun, hfin⟩
    have HZ : Hid (z = (useN (bl s) : Nat)) := hz
    have HP0 : Hid (scan0.pos < s.size) := hp0
    clear h1 hr hrun hfin hlen hz
    go_enter Tryd.func56, Tryd.ntmps56
    go_wp2_with fail
    refine HPx.out.mono ?_
    rintro e w1 ⟨rfl, rfl⟩
    go_wp2_with fail
    refine (HT.out _ _ scan0 _ H0.out HP0.out).mono ?_
    rintro e w1 ⟨rfl, vf1, vo1, hs1, hb1⟩
    have H1 : Hid (SnAt w.heap.size w.heap.size s vf1 vo1 (stepF (bl s) scan0) w1 ∧ Below w.heap.size w w1) := ⟨hs1, ((Below.refl _ _).alloc (Nat.le_refl _) _).trans hb1⟩
    clear hs1 hb1 HPx
    go_wp2_with fail
    go_loopw [] (fun wr => ∃ (vf vo : Value) (σ : Sn), Hid (SnAt w.heap.size w.heap.size s vf vo σ wr ∧ Below w.heap.size w wr ∧ Runs (bl s) 0 σ σf)) (fun wr => s.size - (match wr.cell? ⟨w.heap.size, 1, none⟩ with | some (.int _ n) => n.toNat | _ => 0))
    case atStart => exact ⟨_, _, _, H1.out.1, H1.out.2, HF.out.1⟩
    case round =>
      obtain ⟨vf, vo, σ, HI⟩ := hrel
      have c1 := HI.out.1.c1
      have c3 := HI.out.1.c3
      obtain ⟨ao, co, hvo⟩ := V.owns_slice HI.out.1.ro
      have hfp := HI.out.1.fine.pos
      rw [bl_length] at hfp
      obtain ⟨p, hpe⟩ : ∃ p, p = σ.pos := ⟨_, rfl⟩
      obtain ⟨m, hme⟩ : ∃ m, m = σ.opn.length := ⟨_, rfl⟩
      have HPM : Hid (p = σ.pos ∧ m = σ.opn.length) := ⟨hpe, hme⟩
      rw [← hpe] at c1 hfp
      rw [← hme] at hvo
      clear hpe hme
      subst hvo
      by_cases hm : m = 0
      · have HE : Hid (z = (p : Int)) := by
          unfold Hid
          have ho : σ.opn = [] := List.length_eq_zero_iff.1 (by rw [← HPM.out.2]; exact hm)
          rcases HI.out.2.2.head with h | h
          · rcases HF.out.2 with ⟨_, h2⟩ | ⟨h2, _⟩
            · rw [HZ.out, h2, ← h, HPM.out.1]
            · rw [← h] at h2; exact absurd ho h2
          · rw [ho] at h; simp at h
        have HB : Hid (Below w.heap.size w wr) := HI.out.2.1
        subst hm
        clear HI HT HF H0 H1
        go_wp2
        go_ret
        exact ⟨by rw [HE.out]; rfl, HB.out⟩
      · have hmi : (0 : Int) < (m : Int) := by omega
        by_cases hpz : p = s.size
        · have HE : Hid (z = 0) := by
            unfold Hid
            have ho : σ.opn ≠ [] := fun e => hm (by rw [HPM.out.2, e]; rfl)
            rcases HI.out.2.2.head with h | h
            · rcases HF.out.2 with ⟨h2, _⟩ | ⟨_, _, h2⟩
              · rw [← h] at h2; exact absurd h2 ho
              · rw [HZ.out, h2]; rfl
            · have := h.2.1
              rw [HL.out, ← HPM.out.1] at this
              omega
          have HB : Hid (Below w.heap.size w wr) := HI.out.2.1
          have hpi : (p : Int) = (s.size : Int) := by omega
          have hpib : ((p : Int) == (s.size : Int)) = true := by simpa using hpi
          clear HI HT HF H0 H1 hpz hm
          go_wp2
          go_ret
          exact ⟨by rw [HE.out]; rfl, HB.out⟩
        · have hlt : p < s.size := by omega
          have hpi : ¬ (p : Int) = (s.size : Int) := by omega
          have hpib : ((p : Int) == (s.size : Int)) = false := by simpa using hpi
          have HN : Hid (Runs (bl s) 0 (stepF (bl s) σ) σf) := by
            unfold Hid
            have ho : σ.opn ≠ [] := fun e => hm (by rw [HPM.out.2, e]; rfl)
            rcases HI.out.2.2.head with h | h
            · rcases HF.out.2 with ⟨h2, _⟩ | ⟨_, h2, _⟩
              · rw [← h] at h2; exact absurd h2 ho
              · rw [← h, HL.out, ← HPM.out.1] at h2; omega
            · exact h.2.2
          clear hpz hm H0 H1
          go_wp2_with fail
          refine (HT.out _ _ σ wr HI.out.1 (by rw [← HPM.out.1]; exact hlt)).mono ?_
          rintro e w' ⟨rfl, vf', vo', h1, h2⟩
          have H2 : Hid (SnAt w.heap.size w.heap.size s vf' vo' (stepF (bl s) σ) w' ∧ Below w.heap.size wr w') := ⟨h1, h2⟩
          have c1' := h1.c1
          clear h1 h2
          go_wp2_with fail
          go_roundw
          case rel => exact ⟨vf', vo', stepF (bl s) σ, H2.out.1, HI.out.2.1.trans H2.out.2, HN.out⟩
          case measure =>
            have hp1 := step_pos (bl s) σ (by rw [HL.out, ← HPM.out.1]; exact hlt)
            rw [← HPM.out.1] at hp1
            simp only [c1, c1']
            simp only [Int.toNat_natCast]
            omega
  · rw [h1] at HPx
    have HZ : Hid (z = 0) := by unfold Hid; rw [hz, h2]; rfl
    clear h1 h2 hz
    go_enter Tryd.func56, Tryd.ntmps56
    go_wp2_with fail
    refine HPx.out.mono ?_
    rintro e w1 ⟨rfl, rfl⟩
    go_wp2
    go_ret
    exact ⟨by rw [HZ.out]; rfl, Below.refl _ _⟩
end Go.Proofs.YtbciedpjaajhcaaDoor.Ex
