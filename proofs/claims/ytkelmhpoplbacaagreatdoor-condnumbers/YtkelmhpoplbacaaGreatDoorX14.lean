/-
  What text does, at every depth; what Text does.
-/
import Derived.Test.YtkelmhpoplbacaaGreatDoorX13
import Derived.Recover
import Derived.Defers
namespace Go.Proofs.YtkelmhpoplbacaaGreatDoor.Ex
open Go.RowKit Go.Shelf

section
variable {B : Nat} {w0 : World} {bw : Nat} {pv : Value} {ev : Env}
theorem mean_all {tx : List ByteArray → Nat → ByteArray → Res} (hT : TextC B w0 bw pv tx) (hC : Cx B w0 pv ev) (within : List ByteArray) (hwl : within.length ≤ 32) {br : Nat} (hbr : B ≤ br) {s : ByteArray} (hs : s.size ≤ 1000000) (n : Nat) :
    MeanC B w0 bw pv within br s (fun a b l f => meanG ev tx within s n E0 a b l f) := by
  induction n using Nat.strongRecOn with
  | ind n IH => exact mean_any hT hC within hwl hbr hs n IH
theorem dls_of_owns {w : World} {base : Nat} {v : Value} {l : List Dl} (h : w.ownsRow base 261 6 v l.length (dlsV l)) : DlsAt w v l := by
  obtain ⟨hxl, ⟨hv, hn⟩ | ⟨g, cap, cur, hv, hg, hcur, hcap, hcm, hcs, hct⟩⟩ := h
  · have : l = [] := List.length_eq_zero_iff.1 hn
    subst this
    exact ⟨0, Nat.le_refl _, .inl ⟨rfl, none, hv⟩⟩
  · refine ⟨cap, hcap, .inr ⟨g, 0, cur, hv, hcur, fun i D j u hD hu => ?_⟩⟩
    have hj : j < 6 := (List.getElem?_eq_some_iff.1 hu).1
    have hi : i < l.length := (List.getElem?_eq_some_iff.1 hD).1
    have h1 : (dlsV l)[i * 6 + j]? = some u := by unfold dlsV; rw [fl_get dlC 6 dl_len l i j D hD hj]; exact hu
    rw [← hct, List.getElem?_take_of_lt (by omega)] at h1
    rw [Nat.zero_add]
    simpa using h1
set_option maxRecDepth 20000 in
set_option maxHeartbeats 1600000 in
theorem text_step {tx : List ByteArray → Nat → ByteArray → Res} (hT : TextC B w0 bw pv tx) (hC : Cx B w0 pv ev) : TextC B w0 bw pv (fun within fuel s => (meanG ev tx within s ((scanL (bl s)).length + 1) E0 0 s.size (scanL (bl s)) fuel).res) := by
  intro within fuel s vw W h hW hs hf hwl hbad
  dsimp only at hbad ⊢
  obtain ⟨m, hm⟩ : ∃ m, m = meanG ev tx within s ((scanL (bl s)).length + 1) E0 0 s.size (scanL (bl s)) fuel := ⟨_, rfl⟩
  have hmb : m ≠ .bad := fun e => hbad (by rw [← hm, e]; rfl)
  have HSc : Hid (Calls Tryz.prog 136 #[.string s] W (ScanPost s W)) := scan_any s W hs
  have HM : Hid (∀ (br : Nat) (vl : Value) (W1 : World), B ≤ br → WkAt B bw pv fuel vw within W1 → RdAt br bw s vl (scanL (bl s)) W1 → Below B w0 W1 → Calls Tryz.prog 137 #[.pointer (some ⟨br, 0, none⟩), .agg #[.int .i64 0, .int .i64 (s.size : Int)]] W1 (MePost B bw pv within vw br s W1 m)) := fun br vl W1 g0 g1 g2 g3 => by
    rw [hm]; exact mean_all hT hC within hwl g0 hs _ 0 s.size (scanL (bl s)) fuel vw vl W1 g1 g2 g3 hf (by dsimp only; rw [← hm]; exact hmb)
  rw [← hm]
  have HH : Hid (WkAt B bw pv fuel vw within W ∧ Below B w0 W) := ⟨h, hW⟩
  unfold pV
  clear h hW hbad hm hT hC
  go_enter Tryz.func114, Tryz.ntmps114
  go_wp2_with fail
  refine HSc.out.mono ?_
  rintro e w1 ⟨v, rfl, hrow, hb1⟩
  obtain ⟨av, cv, hv⟩ := V.owns_slice hrow
  have HD : Hid (DlsAt w1 v (scanL (bl s)) ∧ Below W.heap.size W w1) := ⟨dls_of_owns hrow, hb1⟩
  subst hv
  obtain ⟨n, hn⟩ : ∃ n, n = (scanL (bl s)).length := ⟨_, rfl⟩
  have HN : Hid (n = (scanL (bl s)).length) := hn
  rw [← hn]
  clear hrow hb1 hn
  go_wp2_with fail
  obtain ⟨w2, hw2⟩ : ∃ w2, w2 = w1.alloc (.cells #[.pointer (some ⟨bw, 0, none⟩), .string s, .slice av n cv] 222) := ⟨_, rfl⟩
  rw [← hw2]
  have H2 : Hid (Below W.heap.size W w2 ∧ RdAt w1.heap.size bw s (.slice av n cv) (scanL (bl s)) w2) := by
    rw [hw2]
    have hba : Below w1.heap.size w1 (w1.alloc (.cells #[.pointer (some ⟨bw, 0, none⟩), .string s, .slice av n cv] 222)) := (Below.refl _ _).alloc (Nat.le_refl _) _
    refine ⟨HD.out.2.trans (hba.mono HD.out.2.size), heap_alloc_new _ _, ?_⟩
    have := HD.out.1
    rw [← HN.out] at this
    exact this.kept fun g _ hg => (hba.block g (Array.getElem?_eq_some_iff.1 hg).1).trans hg
  obtain ⟨br, hbr⟩ : ∃ br, br = w1.heap.size := ⟨_, rfl⟩
  have HBR : Hid (W.heap.size ≤ br) := by rw [hbr]; exact HD.out.2.size
  rw [← hbr] at H2 ⊢
  clear hw2 hbr
  refine (HM.out br _ w2 (Nat.le_trans HH.out.1.low HBR.out) (HH.out.1.below H2.out.1) H2.out.2 (HH.out.2.trans (H2.out.1.mono HH.out.1.low))).mono ?_
  intro e w3 hpost
  cases m with
  | bad => exact absurd rfl hmb
  | err x =>
    obtain ⟨rfl, hb3⟩ := hpost
    have H3 : Hid (Below B w2 w3) := hb3
    clear hb3 hmb
    unfold pan
    go_wp2
    exact ⟨rfl, rfl, (H2.out.1.mono HH.out.1.low).trans H3.out⟩
  | ok u l f =>
    obtain ⟨rfl, hu, hf3, vw3, vl3, hk3, hr3, hfr3, hmv3⟩ := hpost
    have H3 : Hid (u.size ≤ 1000000 ∧ f ≤ 10000000 ∧ WkAt B bw pv f vw3 within w3 ∧ Fr (FD bw vw) W w3 ∧ Moved vw vw3 W) := by
      refine ⟨hu, hf3, hk3, ?_, fun g hg => (hmv3 g hg).imp id (fun e => Nat.le_trans H2.out.1.size e)⟩
      refine ⟨hfr3.os.trans H2.out.1.os, hfr3.tape.trans H2.out.1.tape, hfr3.output.trans H2.out.1.output, Nat.le_trans H2.out.1.size hfr3.size, fun j hj hD => (hfr3.block j (Nat.lt_of_lt_of_le hj H2.out.1.size) (fun e => ?_)).trans (H2.out.1.block j hj)⟩
      rcases e with e | e | e
      · exact hD (.inl e)
      · have := HBR.out; omega
      · exact hD (.inr e)
    clear hu hf3 hk3 hr3 hfr3 hmv3 hmb
    go_wp2
    go_ret
    obtain ⟨p1, p2, p3, p4, p5⟩ := H3.out
    exact ⟨rfl, p1, p2, vw3, p3, p4, p5⟩
theorem text_all (hC : Cx B w0 pv ev) (k : Nat) : TextC B w0 bw pv (textG ev k) := by
  induction k with
  | zero => intro within fuel s vw W _ _ _ _ _ hbad; exact absurd rfl hbad
  | succ k ih => exact text_step ih hC
end

/-- The deferred closure of a frame that returns. -/
theorem catch_idle (p q r : Addr) (w : World) :
    CallsD Tryz.prog 113 #[.pointer (some p), .pointer (some q), .pointer (some r)] .returning w fun e u' w' => e = .returned (.tuple #[]) ∧ u' = .returning ∧ w' = w := by
  refine callsD_of_wpS Tryz.func113 rfl fun c₀ cs hu => ?_
  apply wpS_seq
  apply wpS_region
  simp [wpOpsS, go_sem, recoverD, hu, Tryz.ntmps113, Exit.thenS]
  apply wpS_seq
  apply wpS_region
  simp [wpOpsS, go_sem, Exit.thenS]
  refine wpS_cond (t := false) (by simp [Act.eval, Array.replicate]) ?_
  simp only [Bool.false_eq_true, if_false]
  refine wpS_of_wp (wp_skip ?_)
  cases c₀
  simp_all [bodyPostS, results, Tryz.results113]
set_option maxRecDepth 20000 in
set_option maxHeartbeats 1600000 in
theorem catch_panic (p q r : Nat) (x : Int) (a : ByteArray) (b c : Int) (w : World) (h1 : w.cell? ⟨p, 0, none⟩ = some (.string a)) (h2 : w.cell? ⟨q, 0, none⟩ = some (.int .i64 b)) (h3 : w.cell? ⟨r, 0, none⟩ = some (.int .i64 c)) (f1 : w.frozen? ⟨p, 0, none⟩ = false) (f2 : w.frozen? ⟨q, 0, none⟩ = false) (f3 : w.frozen? ⟨r, 0, none⟩ = false) (n1 : ¬ p = q) (n2 : ¬ p = r) (n3 : ¬ q = r) :
    CallsD Tryz.prog 113 #[.pointer (some ⟨p, 0, none⟩), .pointer (some ⟨q, 0, none⟩), .pointer (some ⟨r, 0, none⟩)] (.panicking [{ v := .iface 41 (.int .i64 x), recovered := false }]) w fun e u' w' => e = .returned (.tuple #[]) ∧ u' = .panicking [{ v := .iface 41 (.int .i64 x), recovered := true }] ∧
      w'.cell? ⟨p, 0, none⟩ = some (.string E0) ∧ w'.cell? ⟨q, 0, none⟩ = some (.int .i64 0) ∧ w'.cell? ⟨r, 0, none⟩ = some (.int .i64 x) ∧ Fr (fun j => j = p ∨ j = q ∨ j = r) w w' := by
  refine callsD_of_wpS Tryz.func113 rfl fun c₀ cs hu => ?_
  apply wpS_seq
  apply wpS_region
  simp [wpOpsS, go_sem, recoverD, hu, Tryz.ntmps113, Exit.thenS]
  apply wpS_seq
  apply wpS_region
  simp [wpOpsS, go_sem, Exit.thenS]
  refine wpS_cond (t := true) (by simp [Act.eval, Array.replicate]) ?_
  simp only [if_true]
  refine wpS_of_wp ?_
  have hta : ∀ W : World, Sem.run Tryz.prog (Instr.typeAssert (.iface 41 (.int .i64 x)) 20 41 false) W = .ok (.int .i64 x) W := fun W => by kernel_rfl
  refine (show Code.wp Tryz.prog _ _ ({ tmps := #[.pointer (some ⟨p, 0, none⟩), .pointer (some ⟨q, 0, none⟩), .pointer (some ⟨r, 0, none⟩), .iface 41 (.int .i64 x), .iface 41 (.int .i64 x), .iface 41 (.int .i64 x), .bool true, undef, undef], defers := [] } : Go.Act) w from ?_)
  have m1 : ¬ q = p := fun e => n1 e.symm
  have m2 : ¬ r = p := fun e => n2 e.symm
  have m3 : ¬ r = q := fun e => n3 e.symm
  go_region_with (fail)
  all_goals
    simp only [bodyPostS, results, Tryz.results113]
    refine ⟨trivial, _, rfl, .tuple #[], by simp, rfl, rfl, ?_, ?_, ?_, ?_⟩
    · simp [go_sem, *]
    · simp [go_sem, *]
    · simp [go_sem, *]
    · first
        | exact ((Fr.set p 0 w _ (.inl rfl)).trans (Fr.set q 0 _ _ (.inr (.inl rfl)))).trans (Fr.set r 0 _ _ (.inr (.inr rfl)))
        | exact (((Fr.drew _).trans (Fr.set _ 0 _ _ (by simp))).trans (Fr.set _ 0 _ _ (by simp))).trans (Fr.set _ 0 _ _ (by simp))
        | exact ((Fr.set _ 0 _ _ (by simp)).trans (Fr.set _ 0 _ _ (by simp))).trans (Fr.set _ 0 _ _ (by simp))

/-- What Text answers. -/
def TopPost (r : Res) (w : World) (e : Ending) (w' : World) : Prop := Below w.heap.size w w' ∧ match r with
  | .ok t f => e = .returned (.tuple #[.string t, .int .i64 (f : Int), .int .i64 0])
  | .err x => e = .returned (.tuple #[.string E0, .int .i64 0, .int .i64 x])
  | .bad => True
theorem Cx.later {B B' : Nat} {w0 w1 : World} {pv : Value} {ev : Env} (h : Cx B w0 pv ev) (hb : Below B w0 w1) (hB : B ≤ B') : Cx B' w1 pv ev :=
  have k : ∀ W, Below B' w1 W → Below B w0 W := fun W hW => hb.trans (hW.mono hB)
  ⟨fun W q hW hq => h.get W q (k W hW) hq, h.val, fun m t x hx => by
    obtain ⟨h1, l, h2, h3⟩ := h.err m t x hx
    exact ⟨h1, l, fun W hW => h2 W (k W hW), fun W a n c hW hw => h3 W a n c (k W hW) hw⟩, fun m t u hu => by
    obtain ⟨h1, l, l', h2, h3, h4⟩ := h.yes m t u hu
    exact ⟨h1, l, l', fun W hW => h2 W (k W hW), fun W a n c hW hw => h3 W a n c (k W hW) hw, fun W a n c hW hw => h4 W a n c (k W hW) hw⟩⟩

set_option maxRecDepth 20000 in
set_option maxHeartbeats 1600000 in
theorem top_any {vb : Nat} {ev : Env} (s : ByteArray) (fi : Int) (fuel : Nat) (hfi : max fi 0 = (fuel : Int)) (w : World) (hC : Cx w.heap.size w (.pointer (some ⟨vb, 0, none⟩)) ev) (hs : s.size ≤ 1000000) (hf : fuel ≤ 10000000) (k : Nat) (hbad : textG ev k [] fuel s ≠ .bad) :
    Calls Tryz.prog 83 #[.string s, .pointer (some ⟨vb, 0, none⟩), .int .i64 fi] w (TopPost (textG ev k [] fuel s) w) := by
  have hmf : ∀ (fn : Fn) (first cap : Array Value) (w : World), (Instr.makeFunc fn first cap).run Tryz.prog w = .ok (.func fn first cap) w := fun _ _ _ _ => rfl
  obtain ⟨w1, hw1⟩ : ∃ w1, w1 = (((w.alloc (.cells #[.string ⟨#[]⟩] 9)).alloc (.cells #[.int .i64 0] 3)).alloc (.cells #[.int .i64 0] 41)).alloc (.cells #[.pointer (some ⟨vb, 0, none⟩), .int .i64 (fuel : Int), .slice none 0 0] 203) := ⟨_, rfl⟩
  have hb1 : Below w.heap.size w w1 := by rw [hw1]; exact ((((Below.refl _ _).alloc (Nat.le_refl _) _).alloc (by simp) _).alloc (by first | (simp; done) | (simp; omega)) _).alloc (by first | (simp; done) | (simp; omega)) _
  have hz1 : w1.heap.size = w.heap.size + 4 := by rw [hw1]; simp
  have k0 : w1.heap[w.heap.size]? = some (.cells #[.string ⟨#[]⟩] 9 (0, 0)) := by rw [hw1, Below.heap_alloc _ _ _ (by simp; omega), Below.heap_alloc _ _ _ (by simp; omega), Below.heap_alloc _ _ _ (by simp)]; exact heap_alloc_new _ _
  have k1 : w1.heap[w.heap.size + 1]? = some (.cells #[.int .i64 0] 3 (0, 0)) := by rw [hw1, Below.heap_alloc _ _ _ (by first | (simp; done) | (simp; omega)), Below.heap_alloc _ _ _ (by simp)]; exact heap_alloc_new'
  have k2 : w1.heap[w.heap.size + 2]? = some (.cells #[.int .i64 0] 41 (0, 0)) := by
    rw [hw1, Below.heap_alloc _ _ _ (by simp)]
    have := heap_alloc_new ((w.alloc (.cells #[.string ⟨#[]⟩] 9)).alloc (.cells #[.int .i64 0] 3)) (.cells #[.int .i64 0] 41)
    simpa using this
  have k3 : w1.heap[w.heap.size + 3]? = some (.cells #[.pointer (some ⟨vb, 0, none⟩), .int .i64 (fuel : Int), .slice none 0 0] 203 (0, 0)) := by
    rw [hw1]
    have := heap_alloc_new (((w.alloc (.cells #[.string ⟨#[]⟩] 9)).alloc (.cells #[.int .i64 0] 3)).alloc (.cells #[.int .i64 0] 41)) (.cells #[.pointer (some ⟨vb, 0, none⟩), .int .i64 (fuel : Int), .slice none 0 0] 203)
    simpa using this
  have hwk : WkAt (w.heap.size + 3) (w.heap.size + 3) (.pointer (some ⟨vb, 0, none⟩)) fuel (.slice none 0 0) [] w1 := ⟨k3, World.ownsRow_nil _ _ _ _, Nat.le_refl _⟩
  obtain ⟨r, hr⟩ : ∃ r, r = textG ev k [] fuel s := ⟨_, rfl⟩
  have HT : Hid (Calls Tryz.prog 114 #[.pointer (some ⟨w.heap.size + 3, 0, none⟩), .string s] w1 (ResPost (w.heap.size + 3) (w.heap.size + 3) (.pointer (some ⟨vb, 0, none⟩)) [] (.slice none 0 0) w1 r)) := by
    rw [hr]
    exact text_all (hC.later (B' := w.heap.size + 3) hb1 (by omega)) k [] fuel s _ w1 hwk (Below.refl _ _) hs hf (by simp) hbad
  rw [← hr] at hbad ⊢
  have HK : Hid (Below w.heap.size w w1 ∧ w1.heap.size = w.heap.size + 4 ∧ w1.heap[w.heap.size]? = some (.cells #[.string ⟨#[]⟩] 9 (0, 0)) ∧ w1.heap[w.heap.size + 1]? = some (.cells #[.int .i64 0] 3 (0, 0)) ∧ w1.heap[w.heap.size + 2]? = some (.cells #[.int .i64 0] 41 (0, 0))) := ⟨hb1, hz1, k0, k1, k2⟩
  obtain ⟨p, hp⟩ : ∃ p, p = w.heap.size := ⟨_, rfl⟩
  clear hC hr hwk k0 k1 k2 k3 hb1 hz1
  go_enter_defers Tryz.func83, Tryz.ntmps83
  go_wp2_with fail
  rw [← hw1]
  clear hw1
  refine HT.out.mono ?_
  intro e w2 hpost
  cases r with
  | bad => exact absurd rfl hbad
  | err x =>
    obtain ⟨rfl, hb2⟩ := hpost
    have H2 : Hid (Below w.heap.size w w2 ∧ w2.heap[w.heap.size]? = some (.cells #[.string ⟨#[]⟩] 9 (0, 0)) ∧ w2.heap[w.heap.size + 1]? = some (.cells #[.int .i64 0] 3 (0, 0)) ∧ w2.heap[w.heap.size + 2]? = some (.cells #[.int .i64 0] 41 (0, 0))) := by
      obtain ⟨a1, a2, a3, a4, a5⟩ := HK.out
      exact ⟨a1.trans (hb2.mono (by omega)), (hb2.block _ (by omega)).trans a3, (hb2.block _ (by omega)).trans a4, (hb2.block _ (by omega)).trans a5⟩
    clear hb2 hbad
    unfold pan
    go_wp2
    refine leaves_cons (f := 113) (args := #[.pointer (some ⟨w.heap.size, 0, none⟩), .pointer (some ⟨w.heap.size + 1, 0, none⟩), .pointer (some ⟨w.heap.size + 2, 0, none⟩)]) (by simp) (by simp [go_sem]) ?_
    refine (catch_panic w.heap.size (w.heap.size + 1) (w.heap.size + 2) x ⟨#[]⟩ 0 0 w2 (V.cell_in H2.out.2.1 0 rfl) (V.cell_in H2.out.2.2.1 0 rfl) (V.cell_in H2.out.2.2.2 0 rfl) (by simp [World.frozen?, H2.out.2.1]) (by simp [World.frozen?, H2.out.2.2.1]) (by simp [World.frozen?, H2.out.2.2.2]) (by omega) (by omega) (by omega)).mono ?_
    rintro e u' w3 ⟨rfl, rfl, g1, g2, g3, g4⟩
    have H3 : Hid (Below w.heap.size w w3) := H2.out.1.trans (g4.below H2.out.1.size (fun j e => by omega))
    clear g4
    simp [Leaves, settle, results, Tryz.results83, go_sem, g1, g2, g3]
    exact ⟨H3.out, rfl⟩
  | ok t f =>
    obtain ⟨rfl, hu, hf2, vw2, hk2, hfr2, hmv2⟩ := hpost
    have H2 : Hid (Below w.heap.size w w2 ∧ w2.heap[w.heap.size]? = some (.cells #[.string ⟨#[]⟩] 9 (0, 0)) ∧ w2.heap[w.heap.size + 1]? = some (.cells #[.int .i64 0] 3 (0, 0)) ∧ w2.heap[w.heap.size + 2]? = some (.cells #[.int .i64 0] 41 (0, 0)) ∧ w2.heap[w.heap.size + 3]? = some (.cells #[.pointer (some ⟨vb, 0, none⟩), .int .i64 (f : Int), vw2] 203 (0, 0))) := by
      obtain ⟨a1, a2, a3, a4, a5⟩ := HK.out
      have hn : ∀ j, j < w.heap.size + 3 → ¬ FD (w.heap.size + 3) (.slice none 0 0) j := fun j hj e => by
        rcases e with e | e
        · omega
        · simp [Value.ownBlock] at e
      exact ⟨a1.trans ((hfr2.below (base := w.heap.size + 3) (by omega) (fun j e => by
        rcases e with e | e
        · omega
        · simp [Value.ownBlock] at e)).mono (by omega)), (hfr2.block _ (by omega) (hn _ (by omega))).trans a3, (hfr2.block _ (by omega) (hn _ (by omega))).trans a4, (hfr2.block _ (by omega) (hn _ (by omega))).trans a5, hk2.blk⟩
    have c0 := V.cell_in H2.out.2.1 0 rfl
    have c1 := V.cell_in H2.out.2.2.1 0 rfl
    have c2 := V.cell_in H2.out.2.2.2.1 0 rfl
    have c3 := V.cell_in H2.out.2.2.2.2 1 rfl
    have f0 : w2.frozen? ⟨w.heap.size, 0, none⟩ = false := by simp [World.frozen?, H2.out.2.1]
    have f1 : w2.frozen? ⟨w.heap.size + 1, 0, none⟩ = false := by simp [World.frozen?, H2.out.2.2.1]
    have f2 : w2.frozen? ⟨w.heap.size + 2, 0, none⟩ = false := by simp [World.frozen?, H2.out.2.2.2.1]
    clear hu hf2 hk2 hfr2 hmv2 hbad
    have HB : Hid (∀ (x1 x2 x3 x4 : Value), Below w.heap.size w ((((w2.setCell ⟨w.heap.size, 0, none⟩ x1).setCell ⟨w.heap.size, 0, none⟩ x2).setCell ⟨w.heap.size + 1, 0, none⟩ x3).setCell ⟨w.heap.size + 2, 0, none⟩ x4)) := fun x1 x2 x3 x4 => below_set (below_set (below_set (below_set H2.out.1 (Nat.le_refl _)) (Nat.le_refl _)) (by omega)) (by omega)
    go_wp2_with fail
    refine wp_region_noPanic ?_
    go_region_with (fail)
    all_goals
      refine NoPanic.normal ?_
      go_wp2
      refine leaves_cons (f := 113) (args := #[.pointer (some ⟨w.heap.size, 0, none⟩), .pointer (some ⟨w.heap.size + 1, 0, none⟩), .pointer (some ⟨w.heap.size + 2, 0, none⟩)]) (by simp) (by simp [go_sem]) ?_
      refine (catch_idle ⟨w.heap.size, 0, none⟩ ⟨w.heap.size + 1, 0, none⟩ ⟨w.heap.size + 2, 0, none⟩ _).mono ?_
      rintro e u' w3 ⟨rfl, rfl, rfl⟩
      simp [Leaves, settle, results, Tryz.results83, go_sem, *]
      first
        | exact ⟨HB.out _ _ _ _, rfl⟩
        | exact ⟨(HB.out _ _ _ _).trans (low_drew _ _), rfl⟩
end Go.Proofs.YtkelmhpoplbacaaGreatDoor.Ex
