/-
  What text does, at every depth; what Text does. What Uses answers. What both makes: the program's set with all variables put, and the document's beside it.
-/
import Derived.Test.YthcbagggalehgaaGreatDoorK2
import Derived.Recover
import Derived.Defers
namespace Go.Proofs.YthcbagggalehgaaGreatDoor.Ex
open Go.RowKit Go.Shelf

section
variable {B : Nat} {w0 : World} {bw : Nat} {pv : Value} {ev : Env}
theorem mean_all {tx : List ByteArray → Nat → ByteArray → Res} (hT : TextC B w0 bw pv tx) (hC : Cx B w0 pv ev) (within : List ByteArray) (hwl : within.length ≤ 32) {br : Nat} (hbr : B ≤ br) {s : ByteArray} (hs : s.size ≤ 1000000) (n : Nat) :
    MeanC B w0 bw pv within br s (fun a b l f => meanG ev tx within s n E0 a b l f) := by
  induction n using Nat.strongRecOn with
  | ind n IH => exact mean_any hT hC within hwl hbr hs n IH
theorem dls_of_owns {w : World} {base : Nat} {v : Value} {l : List Dl} (h : w.ownsRow base 55 6 v l.length (dlsV l)) : DlsAt w v l := by
  obtain ⟨hxl, ⟨hv, hn⟩ | ⟨g, cap, cur, hv, hg, hcur, hcap, hcm, hcs, hct⟩⟩ := h
  · have : l = [] := List.length_eq_zero_iff.1 hn
    subst this
    exact ⟨0, Nat.le_refl _, .inl ⟨rfl, none, hv⟩⟩
  · refine ⟨cap, hcap, .inr ⟨g, 0, cur, hv, hcur, fun i D j u hD hu => ?_⟩⟩
    have hj : j < 6 := (List.getElem?_eq_some_iff.1 hu).1
    have hi : i < l.length := (List.getElem?_eq_some_iff.1 hD).1
    have h1 : (dlsV l)[i * 6 + j]? = some u := by unfold dlsV; rw [fl_get dlC 6 dl_len l i j D hD hj]; exact hu
    rw [← hct, List.getElem?_take_of_lt (by omega)] at h1
    rw [Nat.zero_add]
    simpa using h1
set_option maxRecDepth 20000 in
set_option maxHeartbeats 1600000 in
theorem text_step {tx : List ByteArray → Nat → ByteArray → Res} (hT : TextC B w0 bw pv tx) (hC : Cx B w0 pv ev) : TextC B w0 bw pv (fun within fuel s => (meanG ev tx within s ((scanL (bl s)).length + 1) E0 0 s.size (scanL (bl s)) fuel).res) := by
  intro within fuel s vw W h hW hs hf hwl hbad
  dsimp only at hbad ⊢
  obtain ⟨m, hm⟩ : ∃ m, m = meanG ev tx within s ((scanL (bl s)).length + 1) E0 0 s.size (scanL (bl s)) fuel := ⟨_, rfl⟩
  have hmb : m ≠ .bad := fun e => hbad (by rw [← hm, e]; rfl)
  have HSc : Hid (Calls Tryz.prog 20 #[.string s] W (ScanPost s W)) := scan_any s W hs
  have HM : Hid (∀ (br : Nat) (vl : Value) (W1 : World), B ≤ br → WkAt B bw pv fuel vw within W1 → RdAt br bw s vl (scanL (bl s)) W1 → Below B w0 W1 → Calls Tryz.prog 44 #[.pointer (some ⟨br, 0, none⟩), .agg #[.int .i64 0, .int .i64 (s.size : Int)]] W1 (MePost B bw pv within vw br s W1 m)) := fun br vl W1 g0 g1 g2 g3 => by
    rw [hm]; exact mean_all hT hC within hwl g0 hs _ 0 s.size (scanL (bl s)) fuel vw vl W1 g1 g2 g3 hf (by dsimp only; rw [← hm]; exact hmb)
  rw [← hm]
  have HH : Hid (WkAt B bw pv fuel vw within W ∧ Below B w0 W) := ⟨h, hW⟩
  unfold pV
  clear h hW hbad hm hT hC
  go_enter Tryz.func33, Tryz.ntmps33
  go_wp2_with fail
  refine HSc.out.mono ?_
  rintro e w1 ⟨v, rfl, hrow, hb1⟩
  obtain ⟨av, cv, hv⟩ := V.owns_slice hrow
  have HD : Hid (DlsAt w1 v (scanL (bl s)) ∧ Below W.heap.size W w1) := ⟨dls_of_owns hrow, hb1⟩
  subst hv
  obtain ⟨n, hn⟩ : ∃ n, n = (scanL (bl s)).length := ⟨_, rfl⟩
  have HN : Hid (n = (scanL (bl s)).length) := hn
  rw [← hn]
  clear hrow hb1 hn
  go_wp2_with fail
  obtain ⟨w2, hw2⟩ : ∃ w2, w2 = w1.alloc (.cells #[.pointer (some ⟨bw, 0, none⟩), .string s, .slice av n cv] 87) := ⟨_, rfl⟩
  rw [← hw2]
  have H2 : Hid (Below W.heap.size W w2 ∧ RdAt w1.heap.size bw s (.slice av n cv) (scanL (bl s)) w2) := by
    rw [hw2]
    have hba : Below w1.heap.size w1 (w1.alloc (.cells #[.pointer (some ⟨bw, 0, none⟩), .string s, .slice av n cv] 87)) := (Below.refl _ _).alloc (Nat.le_refl _) _
    refine ⟨HD.out.2.trans (hba.mono HD.out.2.size), heap_alloc_new _ _, ?_⟩
    have := HD.out.1
    rw [← HN.out] at this
    exact this.kept fun g _ hg => (hba.block g (Array.getElem?_eq_some_iff.1 hg).1).trans hg
  obtain ⟨br, hbr⟩ : ∃ br, br = w1.heap.size := ⟨_, rfl⟩
  have HBR : Hid (W.heap.size ≤ br) := by rw [hbr]; exact HD.out.2.size
  rw [← hbr] at H2 ⊢
  clear hw2 hbr
  refine (HM.out br _ w2 (Nat.le_trans HH.out.1.low HBR.out) (HH.out.1.below H2.out.1) H2.out.2 (HH.out.2.trans (H2.out.1.mono HH.out.1.low))).mono ?_
  intro e w3 hpost
  cases m with
  | bad => exact absurd rfl hmb
  | err x =>
    obtain ⟨rfl, hb3⟩ := hpost
    have H3 : Hid (Below B w2 w3) := hb3
    clear hb3 hmb
    unfold pan
    go_wp2
    exact ⟨rfl, rfl, (H2.out.1.mono HH.out.1.low).trans H3.out⟩
  | ok u l f =>
    obtain ⟨rfl, hu, hf3, vw3, vl3, hk3, hr3, hfr3, hmv3⟩ := hpost
    have H3 : Hid (u.size ≤ 1000000 ∧ f ≤ 10000000 ∧ WkAt B bw pv f vw3 within w3 ∧ Fr (FD bw vw) W w3 ∧ Moved vw vw3 W) := by
      refine ⟨hu, hf3, hk3, ?_, fun g hg => (hmv3 g hg).imp id (fun e => Nat.le_trans H2.out.1.size e)⟩
      refine ⟨hfr3.os.trans H2.out.1.os, hfr3.tape.trans H2.out.1.tape, hfr3.output.trans H2.out.1.output, Nat.le_trans H2.out.1.size hfr3.size, fun j hj hD => (hfr3.block j (Nat.lt_of_lt_of_le hj H2.out.1.size) (fun e => ?_)).trans (H2.out.1.block j hj)⟩
      rcases e with e | e | e
      · exact hD (.inl e)
      · have := HBR.out; omega
      · exact hD (.inr e)
    clear hu hf3 hk3 hr3 hfr3 hmv3 hmb
    go_wp2
    go_ret
    obtain ⟨p1, p2, p3, p4, p5⟩ := H3.out
    exact ⟨rfl, p1, p2, vw3, p3, p4, p5⟩
theorem text_all (hC : Cx B w0 pv ev) (k : Nat) : TextC B w0 bw pv (textG ev k) := by
  induction k with
  | zero => intro within fuel s vw W _ _ _ _ _ hbad; exact absurd rfl hbad
  | succ k ih => exact text_step ih hC
end

/-- The deferred closure of a frame that returns. -/
theorem catch_idle (p q r : Addr) (w : World) :
    CallsD Tryz.prog 32 #[.pointer (some p), .pointer (some q), .pointer (some r)] .returning w fun e u' w' => e = .returned (.tuple #[]) ∧ u' = .returning ∧ w' = w := by
  refine callsD_of_wpS Tryz.func32 rfl fun c₀ cs hu => ?_
  apply wpS_seq
  apply wpS_region
  simp [wpOpsS, go_sem, recoverD, hu, Tryz.ntmps32, Exit.thenS]
  apply wpS_seq
  apply wpS_region
  simp [wpOpsS, go_sem, Exit.thenS]
  refine wpS_cond (t := false) (by simp [Act.eval, Array.replicate]) ?_
  simp only [Bool.false_eq_true, if_false]
  refine wpS_of_wp (wp_skip ?_)
  cases c₀
  simp_all [bodyPostS, results, Tryz.results32]
set_option maxRecDepth 20000 in
set_option maxHeartbeats 1600000 in
theorem catch_panic (p q r : Nat) (x : Int) (a : ByteArray) (b c : Int) (w : World) (h1 : w.cell? ⟨p, 0, none⟩ = some (.string a)) (h2 : w.cell? ⟨q, 0, none⟩ = some (.int .i64 b)) (h3 : w.cell? ⟨r, 0, none⟩ = some (.int .i64 c)) (f1 : w.frozen? ⟨p, 0, none⟩ = false) (f2 : w.frozen? ⟨q, 0, none⟩ = false) (f3 : w.frozen? ⟨r, 0, none⟩ = false) (n1 : ¬ p = q) (n2 : ¬ p = r) (n3 : ¬ q = r) :
    CallsD Tryz.prog 32 #[.pointer (some ⟨p, 0, none⟩), .pointer (some ⟨q, 0, none⟩), .pointer (some ⟨r, 0, none⟩)] (.panicking [{ v := .iface 24 (.int .i64 x), recovered := false }]) w fun e u' w' => e = .returned (.tuple #[]) ∧ u' = .panicking [{ v := .iface 24 (.int .i64 x), recovered := true }] ∧
      w'.cell? ⟨p, 0, none⟩ = some (.string E0) ∧ w'.cell? ⟨q, 0, none⟩ = some (.int .i64 0) ∧ w'.cell? ⟨r, 0, none⟩ = some (.int .i64 x) ∧ Fr (fun j => j = p ∨ j = q ∨ j = r) w w' := by
  refine callsD_of_wpS Tryz.func32 rfl fun c₀ cs hu => ?_
  apply wpS_seq
  apply wpS_region
  simp [wpOpsS, go_sem, recoverD, hu, Tryz.ntmps32, Exit.thenS]
  apply wpS_seq
  apply wpS_region
  simp [wpOpsS, go_sem, Exit.thenS]
  refine wpS_cond (t := true) (by simp [Act.eval, Array.replicate]) ?_
  simp only [if_true]
  refine wpS_of_wp ?_
  have hta : ∀ W : World, Sem.run Tryz.prog (Instr.typeAssert (.iface 24 (.int .i64 x)) 20 24 false) W = .ok (.int .i64 x) W := fun W => by kernel_rfl
  refine (show Code.wp Tryz.prog _ _ ({ tmps := #[.pointer (some ⟨p, 0, none⟩), .pointer (some ⟨q, 0, none⟩), .pointer (some ⟨r, 0, none⟩), .iface 24 (.int .i64 x), .iface 24 (.int .i64 x), .iface 24 (.int .i64 x), .bool true, undef, undef], defers := [] } : Go.Act) w from ?_)
  have m1 : ¬ q = p := fun e => n1 e.symm
  have m2 : ¬ r = p := fun e => n2 e.symm
  have m3 : ¬ r = q := fun e => n3 e.symm
  go_region_with (fail)
  all_goals
    simp only [bodyPostS, results, Tryz.results32]
    refine ⟨trivial, _, rfl, .tuple #[], by simp, rfl, rfl, ?_, ?_, ?_, ?_⟩
    · simp [go_sem, *]
    · simp [go_sem, *]
    · simp [go_sem, *]
    · first
        | exact ((Fr.set p 0 w _ (.inl rfl)).trans (Fr.set q 0 _ _ (.inr (.inl rfl)))).trans (Fr.set r 0 _ _ (.inr (.inr rfl)))
        | exact (((Fr.drew _).trans (Fr.set _ 0 _ _ (by simp))).trans (Fr.set _ 0 _ _ (by simp))).trans (Fr.set _ 0 _ _ (by simp))
        | exact ((Fr.set _ 0 _ _ (by simp)).trans (Fr.set _ 0 _ _ (by simp))).trans (Fr.set _ 0 _ _ (by simp))

/-- What Text answers. -/
def TopPost (r : Res) (w : World) (e : Ending) (w' : World) : Prop := Below w.heap.size w w' ∧ match r with
  | .ok t f => e = .returned (.tuple #[.string t, .int .i64 (f : Int), .int .i64 0])
  | .err x => e = .returned (.tuple #[.string E0, .int .i64 0, .int .i64 x])
  | .bad => True
theorem Cx.later {B B' : Nat} {w0 w1 : World} {pv : Value} {ev : Env} (h : Cx B w0 pv ev) (hb : Below B w0 w1) (hB : B ≤ B') : Cx B' w1 pv ev :=
  have k : ∀ W, Below B' w1 W → Below B w0 W := fun W hW => hb.trans (hW.mono hB)
  ⟨fun W q hW hq => h.get W q (k W hW) hq, h.val, fun m t x hx => by
    obtain ⟨h1, l, h2, h3⟩ := h.err m t x hx
    exact ⟨h1, l, fun W hW => h2 W (k W hW), fun W a n c hW hw => h3 W a n c (k W hW) hw⟩, fun m t u hu => by
    obtain ⟨h1, l, l', h2, h3, h4⟩ := h.yes m t u hu
    exact ⟨h1, l, l', fun W hW => h2 W (k W hW), fun W a n c hW hw => h3 W a n c (k W hW) hw, fun W a n c hW hw => h4 W a n c (k W hW) hw⟩⟩

set_option maxRecDepth 20000 in
set_option maxHeartbeats 1600000 in
theorem top_any {vb : Nat} {ev : Env} (s : ByteArray) (fi : Int) (fuel : Nat) (hfi : max fi 0 = (fuel : Int)) (w : World) (hC : Cx w.heap.size w (.pointer (some ⟨vb, 0, none⟩)) ev) (hs : s.size ≤ 1000000) (hf : fuel ≤ 10000000) (k : Nat) (hbad : textG ev k [] fuel s ≠ .bad) :
    Calls Tryz.prog 17 #[.string s, .pointer (some ⟨vb, 0, none⟩), .int .i64 fi] w (TopPost (textG ev k [] fuel s) w) := by
  have hmf : ∀ (fn : Fn) (first cap : Array Value) (w : World), (Instr.makeFunc fn first cap).run Tryz.prog w = .ok (.func fn first cap) w := fun _ _ _ _ => rfl
  obtain ⟨w1, hw1⟩ : ∃ w1, w1 = (((w.alloc (.cells #[.string ⟨#[]⟩] 9)).alloc (.cells #[.int .i64 0] 3)).alloc (.cells #[.int .i64 0] 24)).alloc (.cells #[.pointer (some ⟨vb, 0, none⟩), .int .i64 (fuel : Int), .slice none 0 0] 71) := ⟨_, rfl⟩
  have hb1 : Below w.heap.size w w1 := by rw [hw1]; exact ((((Below.refl _ _).alloc (Nat.le_refl _) _).alloc (by simp) _).alloc (by first | (simp; done) | (simp; omega)) _).alloc (by first | (simp; done) | (simp; omega)) _
  have hz1 : w1.heap.size = w.heap.size + 4 := by rw [hw1]; simp
  have k0 : w1.heap[w.heap.size]? = some (.cells #[.string ⟨#[]⟩] 9 (0, 0)) := by rw [hw1, Below.heap_alloc _ _ _ (by simp; omega), Below.heap_alloc _ _ _ (by simp; omega), Below.heap_alloc _ _ _ (by simp)]; exact heap_alloc_new _ _
  have k1 : w1.heap[w.heap.size + 1]? = some (.cells #[.int .i64 0] 3 (0, 0)) := by rw [hw1, Below.heap_alloc _ _ _ (by first | (simp; done) | (simp; omega)), Below.heap_alloc _ _ _ (by simp)]; exact heap_alloc_new'
  have k2 : w1.heap[w.heap.size + 2]? = some (.cells #[.int .i64 0] 24 (0, 0)) := by
    rw [hw1, Below.heap_alloc _ _ _ (by simp)]
    have := heap_alloc_new ((w.alloc (.cells #[.string ⟨#[]⟩] 9)).alloc (.cells #[.int .i64 0] 3)) (.cells #[.int .i64 0] 24)
    simpa using this
  have k3 : w1.heap[w.heap.size + 3]? = some (.cells #[.pointer (some ⟨vb, 0, none⟩), .int .i64 (fuel : Int), .slice none 0 0] 71 (0, 0)) := by
    rw [hw1]
    have := heap_alloc_new (((w.alloc (.cells #[.string ⟨#[]⟩] 9)).alloc (.cells #[.int .i64 0] 3)).alloc (.cells #[.int .i64 0] 24)) (.cells #[.pointer (some ⟨vb, 0, none⟩), .int .i64 (fuel : Int), .slice none 0 0] 71)
    simpa using this
  have hwk : WkAt (w.heap.size + 3) (w.heap.size + 3) (.pointer (some ⟨vb, 0, none⟩)) fuel (.slice none 0 0) [] w1 := ⟨k3, World.ownsRow_nil _ _ _ _, Nat.le_refl _⟩
  obtain ⟨r, hr⟩ : ∃ r, r = textG ev k [] fuel s := ⟨_, rfl⟩
  have HT : Hid (Calls Tryz.prog 33 #[.pointer (some ⟨w.heap.size + 3, 0, none⟩), .string s] w1 (ResPost (w.heap.size + 3) (w.heap.size + 3) (.pointer (some ⟨vb, 0, none⟩)) [] (.slice none 0 0) w1 r)) := by
    rw [hr]
    exact text_all (hC.later (B' := w.heap.size + 3) hb1 (by omega)) k [] fuel s _ w1 hwk (Below.refl _ _) hs hf (by simp) hbad
  rw [← hr] at hbad ⊢
  have HK : Hid (Below w.heap.size w w1 ∧ w1.heap.size = w.heap.size + 4 ∧ w1.heap[w.heap.size]? = some (.cells #[.string ⟨#[]⟩] 9 (0, 0)) ∧ w1.heap[w.heap.size + 1]? = some (.cells #[.int .i64 0] 3 (0, 0)) ∧ w1.heap[w.heap.size + 2]? = some (.cells #[.int .i64 0] 24 (0, 0))) := ⟨hb1, hz1, k0, k1, k2⟩
  obtain ⟨p, hp⟩ : ∃ p, p = w.heap.size := ⟨_, rfl⟩
  clear hC hr hwk k0 k1 k2 k3 hb1 hz1
  go_enter_defers Tryz.func17, Tryz.ntmps17
  go_wp2_with fail
  rw [← hw1]
  clear hw1
  refine HT.out.mono ?_
  intro e w2 hpost
  cases r with
  | bad => exact absurd rfl hbad
  | err x =>
    obtain ⟨rfl, hb2⟩ := hpost
    have H2 : Hid (Below w.heap.size w w2 ∧ w2.heap[w.heap.size]? = some (.cells #[.string ⟨#[]⟩] 9 (0, 0)) ∧ w2.heap[w.heap.size + 1]? = some (.cells #[.int .i64 0] 3 (0, 0)) ∧ w2.heap[w.heap.size + 2]? = some (.cells #[.int .i64 0] 24 (0, 0))) := by
      obtain ⟨a1, a2, a3, a4, a5⟩ := HK.out
      exact ⟨a1.trans (hb2.mono (by omega)), (hb2.block _ (by omega)).trans a3, (hb2.block _ (by omega)).trans a4, (hb2.block _ (by omega)).trans a5⟩
    clear hb2 hbad
    unfold pan
    go_wp2
    refine leaves_cons (f := 32) (args := #[.pointer (some ⟨w.heap.size, 0, none⟩), .pointer (some ⟨w.heap.size + 1, 0, none⟩), .pointer (some ⟨w.heap.size + 2, 0, none⟩)]) (by simp) (by simp [go_sem]) ?_
    refine (catch_panic w.heap.size (w.heap.size + 1) (w.heap.size + 2) x ⟨#[]⟩ 0 0 w2 (V.cell_in H2.out.2.1 0 rfl) (V.cell_in H2.out.2.2.1 0 rfl) (V.cell_in H2.out.2.2.2 0 rfl) (by simp [World.frozen?, H2.out.2.1]) (by simp [World.frozen?, H2.out.2.2.1]) (by simp [World.frozen?, H2.out.2.2.2]) (by omega) (by omega) (by omega)).mono ?_
    rintro e u' w3 ⟨rfl, rfl, g1, g2, g3, g4⟩
    have H3 : Hid (Below w.heap.size w w3) := H2.out.1.trans (g4.below H2.out.1.size (fun j e => by omega))
    clear g4
    simp [Leaves, settle, results, Tryz.results17, go_sem, g1, g2, g3]
    exact ⟨H3.out, rfl⟩
  | ok t f =>
    obtain ⟨rfl, hu, hf2, vw2, hk2, hfr2, hmv2⟩ := hpost
    have H2 : Hid (Below w.heap.size w w2 ∧ w2.heap[w.heap.size]? = some (.cells #[.string ⟨#[]⟩] 9 (0, 0)) ∧ w2.heap[w.heap.size + 1]? = some (.cells #[.int .i64 0] 3 (0, 0)) ∧ w2.heap[w.heap.size + 2]? = some (.cells #[.int .i64 0] 24 (0, 0)) ∧ w2.heap[w.heap.size + 3]? = some (.cells #[.pointer (some ⟨vb, 0, none⟩), .int .i64 (f : Int), vw2] 71 (0, 0))) := by
      obtain ⟨a1, a2, a3, a4, a5⟩ := HK.out
      have hn : ∀ j, j < w.heap.size + 3 → ¬ FD (w.heap.size + 3) (.slice none 0 0) j := fun j hj e => by
        rcases e with e | e
        · omega
        · simp [Value.ownBlock] at e
      exact ⟨a1.trans ((hfr2.below (base := w.heap.size + 3) (by omega) (fun j e => by
        rcases e with e | e
        · omega
        · simp [Value.ownBlock] at e)).mono (by omega)), (hfr2.block _ (by omega) (hn _ (by omega))).trans a3, (hfr2.block _ (by omega) (hn _ (by omega))).trans a4, (hfr2.block _ (by omega) (hn _ (by omega))).trans a5, hk2.blk⟩
    have c0 := V.cell_in H2.out.2.1 0 rfl
    have c1 := V.cell_in H2.out.2.2.1 0 rfl
    have c2 := V.cell_in H2.out.2.2.2.1 0 rfl
    have c3 := V.cell_in H2.out.2.2.2.2 1 rfl
    have f0 : w2.frozen? ⟨w.heap.size, 0, none⟩ = false := by simp [World.frozen?, H2.out.2.1]
    have f1 : w2.frozen? ⟨w.heap.size + 1, 0, none⟩ = false := by simp [World.frozen?, H2.out.2.2.1]
    have f2 : w2.frozen? ⟨w.heap.size + 2, 0, none⟩ = false := by simp [World.frozen?, H2.out.2.2.2.1]
    clear hu hf2 hk2 hfr2 hmv2 hbad
    have HB : Hid (∀ (x1 x2 x3 x4 : Value), Below w.heap.size w ((((w2.setCell ⟨w.heap.size, 0, none⟩ x1).setCell ⟨w.heap.size, 0, none⟩ x2).setCell ⟨w.heap.size + 1, 0, none⟩ x3).setCell ⟨w.heap.size + 2, 0, none⟩ x4)) := fun x1 x2 x3 x4 => below_set (below_set (below_set (below_set H2.out.1 (Nat.le_refl _)) (Nat.le_refl _)) (by omega)) (by omega)
    go_wp2_with fail
    refine wp_region_noPanic ?_
    go_region_with (fail)
    all_goals
      refine NoPanic.normal ?_
      go_wp2
      refine leaves_cons (f := 32) (args := #[.pointer (some ⟨w.heap.size, 0, none⟩), .pointer (some ⟨w.heap.size + 1, 0, none⟩), .pointer (some ⟨w.heap.size + 2, 0, none⟩)]) (by simp) (by simp [go_sem]) ?_
      refine (catch_idle ⟨w.heap.size, 0, none⟩ ⟨w.heap.size + 1, 0, none⟩ ⟨w.heap.size + 2, 0, none⟩ _).mono ?_
      rintro e u' w3 ⟨rfl, rfl, rfl⟩
      simp [Leaves, settle, results, Tryz.results17, go_sem, *]
      first
        | exact ⟨HB.out _ _ _ _, rfl⟩
        | exact ⟨(HB.out _ _ _ _).trans (low_drew _ _), rfl⟩
end Go.Proofs.YthcbagggalehgaaGreatDoor.Ex
namespace Go.Proofs.YthcbagggalehgaaGreatDoor.Ex
open Go.RowKit Go.Shelf

def usesL (s : ByteArray) : Nat → List Dl → Option (List ByteArray)
  | _, [] => some []
  | b, d :: l => if d.en = 0 then none else if d.fr < b then usesL s b l else (usesL s d.en l).map (fun r => if d.nf = 0 then r else s.extract d.nf d.nt :: r)
def UsesPost (R : Option (List ByteArray)) (w : World) (e : Ending) (w' : World) : Prop := Below w.heap.size w w' ∧ match R with
  | none => e = .returned (.tuple #[.slice none 0 0, .int .i64 4])
  | some r => ∃ v, e = .returned (.tuple #[v, .int .i64 0]) ∧ w'.ownsRow w.heap.size 9 1 v r.length (r.map Value.string)
theorem dls_get {w : World} {a : Option Addr} {n c : Nat} {l : List Dl} (h : DlsAt w (.slice a n c) l) {k : Nat} {d : Dl} (hk : l[k]? = some d) : ∃ g o, a = some ⟨g, o, none⟩ ∧ g < w.heap.size ∧ ∀ j u, (dlC d)[j]? = some u → w.cell? ⟨g, o + k * 6 + j, none⟩ = some u := by
  obtain ⟨c', hc, ⟨h1, a', h2⟩ | ⟨g, o, cs, h1, h2, h3⟩⟩ := h
  · subst h1; simp at hk
  · simp only [Value.slice.injEq] at h1
    refine ⟨g, o, h1.1, (Array.getElem?_eq_some_iff.1 h2).1, fun j u hu => ?_⟩
    have := h3 k d j u hk hu
    simp only [World.cell?, h2]
    simpa using this
set_option maxRecDepth 20000 in
set_option maxHeartbeats 3200000 in
theorem uses_any (s : ByteArray) (w : World) (hs : s.size ≤ 1000000) (hok : ∀ d ∈ scanL (bl s), d.nf ≤ d.nt ∧ d.nt ≤ s.size) :
    Calls Tryz.prog 9 #[.string s] w (UsesPost (usesL s 0 (scanL (bl s))) w) := by
  obtain ⟨i0, hi0, hz0, hz1, hz2⟩ := info_of infoS
  have HSc : Hid (Calls Tryz.prog 20 #[.string s] w (ScanPost s w)) := scan_any s w hs
  have hfew : (scanL (bl s)).length ≤ 1000000 := by
    have hf : ∀ n (σ : Sn), σ.Fine (bl s) → (scanF (bl s) n σ).Fine (bl s) := by
      intro n
      induction n with
      | zero => intro σ h; exact h
      | succ n ih => intro σ h; unfold scanF; split
                     · rename_i hp; exact ih _ (step_fine h hp)
                     · exact h
    have h1 := hf (bl s).length scan0 (scan0_fine _)
    have h2 := h1.few
    have h3 := h1.pos
    rw [bl_length] at h3
    unfold scanL; rw [bl_length] at h2 ⊢; omega
  obtain ⟨L, hL⟩ : ∃ L, L = scanL (bl s) := ⟨_, rfl⟩
  obtain ⟨R, hR⟩ : ∃ R, R = usesL s 0 L := ⟨_, rfl⟩
  rw [← hL, ← hR]
  rw [← hL] at hok hfew
  have HOK : Hid (∀ d ∈ L, d.nf ≤ d.nt ∧ d.nt ≤ s.size) := hok
  have HR : Hid (R = usesL s 0 L) := hR
  have HL : Hid (L = scanL (bl s)) := hL
  clear hok hR hL
  go_enter Tryz.func9, Tryz.ntmps9
  go_wp2_with fail
  refine HSc.out.mono ?_
  rintro e w1 ⟨v, rfl, hrow, hb1⟩
  rw [← HL.out] at hrow
  obtain ⟨av, cv, hv⟩ := V.owns_slice hrow
  have HD : Hid (DlsAt w1 v L ∧ Below w.heap.size w w1) := ⟨dls_of_owns hrow, hb1⟩
  obtain ⟨n, hn⟩ : ∃ n, n = L.length := ⟨_, rfl⟩
  rw [← hn] at hv hfew
  subst hv
  have HN : Hid (n = L.length) := hn
  clear hrow hb1 hn HL HSc
  go_wp2_with fail
  go_loopw [4, 5, 11] (fun v4 v5 v11 wr => ∃ (k b m : Nat) (r : List ByteArray) (a4 : Option Addr) (c4 : Nat), k ≤ n ∧ m ≤ k ∧ v4 = .slice a4 m c4 ∧ v5 = .int .i64 (b : Int) ∧ v11 = .int .i64 (k : Int) ∧ Hid (m = r.length ∧ wr.ownsRow w1.heap.size 9 1 (.slice a4 m c4) m (r.map Value.string) ∧ Below w1.heap.size w1 wr ∧ R = (usesL s b (L.drop k)).map (fun t => r ++ t))) (fun _ _ v11 _ => n - (intOf v11).toNat)
  case atStart => exact ⟨0, 0, 0, [], none, 0, Nat.zero_le _, Nat.le_refl _, rfl, rfl, rfl, rfl, World.ownsRow_nil _ _ _ _, Below.refl _ _, by rw [HR.out]; simp⟩
  case round =>
    obtain ⟨k, b, m, r, a4, c4, hk, hmk, rfl, rfl, rfl, HI⟩ := hrel
    by_cases hlt : k < n
    · have hil : (k : Int) < (n : Int) := by omega
      have hkL : k < L.length := by rw [← HN.out]; exact hlt
      obtain ⟨d, hd⟩ : ∃ d, L[k]? = some d := ⟨_, List.getElem?_eq_getElem hkL⟩
      have hdr : L.drop k = d :: L.drop (k + 1) := by
        rw [List.drop_eq_getElem_cons hkL]
        rw [List.getElem?_eq_getElem hkL] at hd; rw [Option.some.inj hd]
      obtain ⟨g, o, ha, hg, hcell⟩ := dls_get (w := wr) (HD.out.1.kept fun j cs hj => (HI.out.2.2.1.block j (Array.getElem?_eq_some_iff.1 hj).1).trans hj) hd
      have hokd := HOK.out d (List.mem_of_getElem? hd)
      have hRk := HI.out.2.2.2
      rw [hdr] at hRk
      obtain ⟨fr, en, nf, nt, mf, mt⟩ := d
      subst ha
      have x0 := hcell 0 _ rfl
      have x1 := hcell 1 _ rfl
      have x2 := hcell 2 _ rfl
      have x3 := hcell 3 _ rfl
      have x4 := hcell 4 _ rfl
      have x5 := hcell 5 _ rfl
      simp only [Nat.add_zero] at x0
      have HE : Hid (∀ W1, Calls Tryz.prog 21 #[.agg #[.int .i64 (fr : Int), .int .i64 (en : Int), .int .i64 (nf : Int), .int .i64 (nt : Int), .int .i64 (mf : Int), .int .i64 (mt : Int)]] W1 fun e w' => e = .returned (.bool (!decide (en = 0))) ∧ Below W1.heap.size W1 w') := fun W1 => ends_any ⟨fr, en, nf, nt, mf, mt⟩ W1
      have HU : Hid (∀ W1, Calls Tryz.prog 22 #[.agg #[.int .i64 (fr : Int), .int .i64 (en : Int), .int .i64 (nf : Int), .int .i64 (nt : Int), .int .i64 (mf : Int), .int .i64 (mt : Int)]] W1 fun e w' => e = .returned (.bool (!decide (nf = 0))) ∧ Below W1.heap.size W1 w') := fun W1 => isUse_any ⟨fr, en, nf, nt, mf, mt⟩ W1
      obtain ⟨w2, hw2, hb2, hbox⟩ : ∃ w2, w2 = wr.alloc (.cells #[.int .i64 (fr : Int), .int .i64 (en : Int), .int .i64 (nf : Int), .int .i64 (nt : Int), .int .i64 (mf : Int), .int .i64 (mt : Int)] 55) ∧ Below wr.heap.size wr w2 ∧ w2.heap[wr.heap.size]? = some (.cells #[.int .i64 (fr : Int), .int .i64 (en : Int), .int .i64 (nf : Int), .int .i64 (nt : Int), .int .i64 (mf : Int), .int .i64 (mt : Int)] 55 (0, 0)) := ⟨_, rfl, (Below.refl _ _).alloc (Nat.le_refl _) _, heap_alloc_new _ _⟩
      have H2 : Hid (Below wr.heap.size wr w2 ∧ w2.heap[wr.heap.size]? = some (.cells #[.int .i64 (fr : Int), .int .i64 (en : Int), .int .i64 (nf : Int), .int .i64 (nt : Int), .int .i64 (mf : Int), .int .i64 (mt : Int)] 55 (0, 0))) := ⟨hb2, hbox⟩
      have HBX : Hid (∀ W3, Below w2.heap.size w2 W3 → W3.heap[wr.heap.size]? = some (.cells #[.int .i64 (fr : Int), .int .i64 (en : Int), .int .i64 (nf : Int), .int .i64 (nt : Int), .int .i64 (mf : Int), .int .i64 (mt : Int)] 55 (0, 0))) := fun W3 hb => (hb.block _ (Array.getElem?_eq_some_iff.1 hbox).1).trans hbox
      have z0 := V.cell_in hbox 0 rfl
      have z1 := V.cell_in hbox 1 rfl
      have z2 := V.cell_in hbox 2 rfl
      have z3 := V.cell_in hbox 3 rfl
      have z4 := V.cell_in hbox 4 rfl
      have z5 := V.cell_in hbox 5 rfl
      clear hcell hd hdr hbox hb2
      by_cases he0 : en = 0
      · unfold usesL at hRk
        rw [if_pos he0] at hRk
        rw [decide_eq_true he0] at HE
        have hRn : R = none := hRk
        subst hRn
        clear he0 hRk
        go_wp2_with fail
        rw [← hw2]
        clear hw2
        refine (HE.out _).mono ?_
        rintro e w3 ⟨rfl, hb3⟩
        have H3 : Hid (Below w2.heap.size w2 w3) := hb3
        clear hb3
        go_wp2
        go_ret2
        have b1 := (HI.out.2.2.1.trans (H2.out.1.mono HI.out.2.2.1.size)).trans (H3.out.mono (Nat.le_trans HI.out.2.2.1.size H2.out.1.size))
        exact ⟨HD.out.2.trans (b1.mono HD.out.2.size), rfl⟩
      · unfold usesL at hRk
        rw [if_neg he0] at hRk
        rw [decide_eq_false he0] at HE
        dsimp only at hRk
        by_cases hfb : fr < b
        · rw [if_pos hfb] at hRk
          have hfbi : (fr : Int) < (b : Int) := by omega
          have HRk : Hid (R = (usesL s b (L.drop (k + 1))).map (fun t => r ++ t)) := hRk
          clear he0 hRk hfb
          go_wp2_with fail
          rw [← hw2]
          clear hw2
          refine (HE.out _).mono ?_
          rintro e w3 ⟨rfl, hb3⟩
          have H3 : Hid (Below w2.heap.size w2 w3) := hb3
          have y0 := V.cell_in (HBX.out w3 hb3) 0 rfl
          clear hb3 z0 z1 z2 z3 z4 z5
          go_wp2_with fail
          go_roundw
          case rel =>
            have b1 := (HI.out.2.2.1.trans (H2.out.1.mono HI.out.2.2.1.size)).trans (H3.out.mono (Nat.le_trans HI.out.2.2.1.size H2.out.1.size))
            exact ⟨k + 1, b, m, r, a4, c4, by omega, by omega, rfl, rfl, by go_num, HI.out.1, owns_below (owns_below HI.out.2.1 H2.out.1) H3.out, b1, HRk.out⟩
          case measure => simp [intOf]; omega
        · rw [if_neg hfb] at hRk
          have hfbi : ¬ (fr : Int) < (b : Int) := by omega
          by_cases hnf : nf = 0
          · rw [decide_eq_true hnf] at HU
            have HRk : Hid (R = (usesL s en (L.drop (k + 1))).map (fun t => r ++ t)) := by
              rw [hRk]; unfold Hid
              rw [Option.map_map]
              congr 1; funext t; simp [hnf]
            clear he0 hRk hfb hnf
            go_wp2_with fail
            rw [← hw2]
            clear hw2
            refine (HE.out _).mono ?_
            rintro e w3 ⟨rfl, hb3⟩
            have H3 : Hid (Below w2.heap.size w2 w3) := hb3
            have y0 := V.cell_in (HBX.out w3 hb3) 0 rfl
            have y1 := V.cell_in (HBX.out w3 hb3) 1 rfl
            have y2 := V.cell_in (HBX.out w3 hb3) 2 rfl
            have y3 := V.cell_in (HBX.out w3 hb3) 3 rfl
            have y4 := V.cell_in (HBX.out w3 hb3) 4 rfl
            have y5 := V.cell_in (HBX.out w3 hb3) 5 rfl
            clear hb3 z0 z1 z2 z3 z4 z5
            go_wp2_with fail
            refine (HU.out _).mono ?_
            rintro e w4 ⟨rfl, hb4⟩
            have H4 : Hid (Below w2.heap.size w2 w4) := H3.out.trans (hb4.mono H3.out.size)
            clear hb4
            go_wp2_with fail
            go_roundw
            case rel =>
              have b1 := (HI.out.2.2.1.trans (H2.out.1.mono HI.out.2.2.1.size)).trans (H4.out.mono (Nat.le_trans HI.out.2.2.1.size H2.out.1.size))
              exact ⟨k + 1, en, m, r, a4, c4, by omega, by omega, rfl, rfl, by go_num, HI.out.1, owns_below (owns_below HI.out.2.1 H2.out.1) H4.out, b1, HRk.out⟩
            case measure => simp [intOf]; omega
          · rw [decide_eq_false hnf] at HU
            have HRk : Hid (R = (usesL s en (L.drop (k + 1))).map (fun t => (r ++ [s.extract nf nt]) ++ t)) := by
              rw [hRk]; unfold Hid
              rw [Option.map_map]
              congr 1; funext t; simp [hnf]
            have i1 : (nf : Int) ≤ (nt : Int) := by have := hokd.1; simp only at this; omega
            have i2 : (nt : Int) ≤ (s.size : Int) := by have := hokd.2; simp only at this; omega
            clear he0 hRk hfb hnf hokd
            go_wp2_with fail
            rw [← hw2]
            clear hw2
            refine (HE.out _).mono ?_
            rintro e w3 ⟨rfl, hb3⟩
            have H3 : Hid (Below w2.heap.size w2 w3) := hb3
            have y0 := V.cell_in (HBX.out w3 hb3) 0 rfl
            have y1 := V.cell_in (HBX.out w3 hb3) 1 rfl
            have y2 := V.cell_in (HBX.out w3 hb3) 2 rfl
            have y3 := V.cell_in (HBX.out w3 hb3) 3 rfl
            have y4 := V.cell_in (HBX.out w3 hb3) 4 rfl
            have y5 := V.cell_in (HBX.out w3 hb3) 5 rfl
            clear hb3 z0 z1 z2 z3 z4 z5
            go_wp2_with fail
            refine (HU.out _).mono ?_
            rintro e w4 ⟨rfl, hb4⟩
            have hb24 : Below w2.heap.size w2 w4 := H3.out.trans (hb4.mono H3.out.size)
            have H4 : Hid (Below w2.heap.size w2 w4) := hb24
            have y2' := V.cell_in (HBX.out w4 hb24) 2 rfl
            have y3' := V.cell_in (HBX.out w4 hb24) 3 rfl
            have hrow4 : w4.ownsRow w1.heap.size 9 1 (.slice a4 m c4) m (r.map Value.string) := owns_below (owns_below HI.out.2.1 H2.out.1) hb24
            have hsz4 : w1.heap.size ≤ w4.heap.size := Nat.le_trans HI.out.2.2.1.size (Nat.le_trans H2.out.1.size hb24.size)
            clear hb4 hb24 y0 y1 y2 y3 y4 y5
            go_wp2_with (at_builtin; refine wpList_append_own_at _ rfl _ _ 23 rfl w1.heap.size 9 i0 (.string ⟨#[]⟩) 1 16 Tryz.underlying23 hi0 hz0 hz1 hz2 rfl (by decide) _ _ _ rfl (hrow4.alloc _) ⟨w4.heap.size, 0, none⟩ 1 1 [.string (s.extract nf nt)] rfl rfl (cell_one _ _ _) (by intro u hu; simp at hu; subst hu; rfl) (by unfold maxLen; omega) (by omega) (by simp; omega) ?_)
            intro v5 w5 hown hgrow _ hloc
            obtain ⟨a5, c5, hv5⟩ := V.owns_slice hown
            subst hv5
            have H5 : Hid (w5.ownsRow w1.heap.size 9 1 (.slice a5 (m + 1) c5) (m + 1) ((r ++ [s.extract nf nt]).map Value.string) ∧ Below w1.heap.size w1 w5) := by
              rw [List.map_append]
              refine ⟨hown, ?_⟩
              have b1 := (HI.out.2.2.1.trans (H2.out.1.mono HI.out.2.2.1.size)).trans (H4.out.mono (Nat.le_trans HI.out.2.2.1.size H2.out.1.size))
              refine b1.trans ?_
              exact (((Fr.alloc w4 _).trans (Fr.grown (D := fun j => w1.heap.size ≤ j) hgrow (fun g hg => (hrow4.lt g hg).1))).below hsz4 (fun _ e => e))
            clear hown hgrow hloc hrow4
            go_wp2_with fail
            go_roundw
            case rel => exact ⟨k + 1, en, m + 1, r ++ [s.extract nf nt], a5, c5, by omega, by omega, rfl, rfl, by go_num, by rw [List.length_append, ← HI.out.1]; rfl, H5.out.1, H5.out.2, HRk.out⟩
            case measure => simp [intOf]; omega
    · have hil : ¬ (k : Int) < (n : Int) := by omega
      have hd : L.drop k = [] := List.drop_of_length_le (by rw [← HN.out]; omega)
      have hRk := HI.out.2.2.2
      rw [hd] at hRk
      unfold usesL at hRk
      have hRs : R = some r := by rw [hRk]; simp
      subst hRs
      clear hd hRk
      go_wp2
      go_ret2
      refine ⟨HD.out.2.trans (HI.out.2.2.1.mono HD.out.2.size), _, rfl, ?_⟩
      have := V.owns_base HI.out.2.1 HD.out.2.size
      rw [HI.out.1] at this ⊢
      exact this
end Go.Proofs.YthcbagggalehgaaGreatDoor.Ex
namespace Go.Proofs.YthcbagggalehgaaGreatDoor.Ex
open Go.RowKit Go.Shelf
open V (VS VSet RSet Rel Vl Turn RTurn newM isSc rel_none new_any put_any rput_any)

abbrev Vr2 := List (ByteArray × ByteArray)
def putsV (s : VS) (l : Vr2) : VS := l.foldl (fun s x => (s.put 3 x.1 x.2).1) s
theorem puts_snoc (l : Vr2) (k : Nat) (h : k < l.length) : putsV VS.none_ (l.take (k + 1)) = ((putsV VS.none_ (l.take k)).put 3 l[k].1 l[k].2).1 := by
  unfold putsV; rw [List.take_succ_eq_append_getElem h, List.foldl_append]; rfl
/-- Variables that can be read, one behind the other. -/
def VarsAt (B : Nat) (w : World) (v : Value) (l : Vr2) : Prop := ∃ a n c, v = .slice a n c ∧ n = l.length ∧ ∀ i (h : i < l.length), ∃ b o, a = some ⟨b, o, none⟩ ∧ b < B ∧ w.cell? ⟨b, o + i * 2, none⟩ = some (.string l[i].1) ∧ w.cell? ⟨b, o + i * 2 + 1, none⟩ = some (.string l[i].2)
theorem VarsAt.below {B : Nat} {w w' : World} {v : Value} {l : Vr2} (h : VarsAt B w v l) (hb : Below B w w') : VarsAt B w' v l := by
  obtain ⟨a, n, c, h1, h2, h3⟩ := h
  refine ⟨a, n, c, h1, h2, fun i hi => ?_⟩
  obtain ⟨b, o, e1, e2, e3, e4⟩ := h3 i hi
  exact ⟨b, o, e1, e2, by rw [hb.cell (p := ⟨b, o + i * 2, none⟩) e2]; exact e3, by rw [hb.cell (p := ⟨b, o + i * 2 + 1, none⟩) e2]; exact e4⟩
/-- The program's set and the document's side by side. -/
structure Side (B : Nat) (M : Int → Nat) (br : Nat) (s : VS) (w W : World) : Prop where
  prog : VSet B B M s W
  doc : ∃ vL L, RSet B br vL L W ∧ Rel L s
  low : Below B w W
section
variable {B br : Nat} {M : Int → Nat} {s : VS} {w W W' : World}
theorem Side.below (h : Side B M br s w W) (hb : Below W.heap.size W W') : Side B M br s w W' := by
  obtain ⟨vL, L, h1, h2⟩ := h.doc
  exact ⟨h.prog.below hb, ⟨vL, L, h1.below hb, h2⟩, h.low.trans (hb.mono (Nat.le_of_lt h.prog.lt))⟩
theorem rset_turn {base : Nat} {vL : Value} {L : Vl} (h : RSet base br vL L W) (hv : VSet B B M s W) (ht : Turn M W W') : RSet base br vL L W' := by
  have hnb : ∀ n, isSc n = true → br ≠ M n := fun n hn e => by
    obtain ⟨es, clock, hm⟩ := (hv.map n hn).isMap
    have := h.blk; rw [e, hm] at this; cases this
  refine ⟨(ht.block br h.lt hnb).trans h.blk, ⟨h.row.1, ?_⟩, h.hb⟩
  rcases h.row.2 with h0 | ⟨g, cap, cur, hvv, hg, hgg, rest⟩
  · exact .inl h0
  · refine .inr ⟨g, cap, cur, hvv, hg, ?_, rest⟩
    rw [ht.block g (Array.getElem?_eq_some_iff.1 hgg).1 (fun n hn e => ?_)]
    · exact hgg
    · obtain ⟨es, clock, hm⟩ := (hv.map n hn).isMap
      rw [e, hm] at hgg; cases hgg
theorem vset_rturn {base : Nat} {vL : Value} {L : Vl} (h : VSet B B M s W) (hr : RSet base br vL L W) (ht : RTurn br W W') : VSet B B M s W' := by
  refine h.of_block (ht.block B h.lt fun e => ?_) fun n hn => ht.block (M n) (h.ltm hn) fun e => ?_
  · have h1 := h.blk; have h2 := hr.blk; rw [e, h2] at h1; simp at h1
  · obtain ⟨es, clock, hm⟩ := (h.map n hn).isMap
    have h2 := hr.blk; rw [← e, hm] at h2; cases h2
end
def BothPost (l : Vr2) (w : World) (e : Ending) (w' : World) : Prop := ∃ B br M, e = .returned (.tuple #[.pointer (some ⟨B, 0, none⟩), .pointer (some ⟨br, 0, none⟩)]) ∧ w.heap.size ≤ B ∧ VSet B B M (putsV VS.none_ l) w' ∧ Below w.heap.size w w'
set_option maxRecDepth 20000 in
set_option maxHeartbeats 1600000 in
theorem both_any (a : Option Addr) (n c : Nat) (l : Vr2) (w : World) (hn : n ≤ 140737488355328) (h : VarsAt w.heap.size w (.slice a n c) l) (hl : ∀ x ∈ l, x.1.size ≤ 140737488355328 ∧ x.2.size ≤ 140737488355328) :
    Calls Tryz.prog 16 #[.slice a n c] w (BothPost l w) := by
  obtain ⟨B, hB⟩ : ∃ B, B = w.heap.size := ⟨_, rfl⟩
  have HNw : Hid (Calls Tryz.prog 29 #[] w fun e w' => e = .returned (.pointer (some ⟨B, 0, none⟩)) ∧ VSet B B (newM B) VS.none_ w' ∧ Below w.heap.size w w') := by rw [hB]; exact new_any w
  have hnl : n = l.length := by obtain ⟨a', n', c', h1, h2, _⟩ := h; simp only [Value.slice.injEq] at h1; rw [h1.2.1]; exact h2
  have HH : Hid (VarsAt w.heap.size w (.slice a n c) l ∧ n = l.length ∧ (∀ x ∈ l, x.1.size ≤ 140737488355328 ∧ x.2.size ≤ 140737488355328) ∧ B = w.heap.size) := ⟨h, hnl, hl, hB⟩
  clear h hl hnl hB
  go_enter Tryz.func16, Tryz.ntmps16
  go_wp2_with fail
  refine HNw.out.mono ?_
  rintro e w1 ⟨rfl, hv1, hb1⟩
  have H1 : Hid (VSet B B (newM B) VS.none_ w1 ∧ Below w.heap.size w w1) := ⟨hv1, hb1⟩
  clear hv1 hb1 HNw
  go_wp2_with fail
  obtain ⟨w2, hw2⟩ : ∃ w2, w2 = w1.alloc (.cells #[.slice none 0 0] 66) := ⟨_, rfl⟩
  rw [← hw2]
  obtain ⟨br, hbr⟩ : ∃ br, br = w1.heap.size := ⟨_, rfl⟩
  have H2 : Hid (Side B (newM B) br VS.none_ w w2) := by
    have hba : Below w1.heap.size w1 w2 := by rw [hw2]; exact (Below.refl _ _).alloc (Nat.le_refl _) _
    have hbb : B ≤ w1.heap.size := by rw [HH.out.2.2.2]; exact H1.out.2.size
    refine ⟨H1.out.1.below hba, ⟨.slice none 0 0, [], ⟨?_, World.ownsRow_nil _ _ _ _, by rw [hbr]; exact hbb⟩, rel_none⟩, ?_⟩
    · rw [hw2, hbr]; exact heap_alloc_new _ _
    · rw [HH.out.2.2.2]; exact H1.out.2.trans (hba.mono H1.out.2.size)
  rw [← hbr]
  clear hw2 hbr
  have HP : Hid (∀ (s : VS) (q v : ByteArray) (W : World), VSet B B (newM B) s W → v.size ≤ 140737488355328 → Calls Tryz.prog 30 #[.pointer (some ⟨B, 0, none⟩), .int .i64 3, .string q, .string v] W fun e w' => e = .returned (.int .i64 (s.put 3 q v).2) ∧ VSet B B (newM B) (s.put 3 q v).1 w' ∧ Turn (newM B) W w') := fun s q v W h1 h2 => put_any 3 q v W h1 h2
  have HRP : Hid (∀ (s : VS) (vL : Value) (L : Vl) (q v : ByteArray) (W : World), RSet B br vL L W → Rel L s → q.size ≤ 140737488355328 → v.size ≤ 150000000000000 → Calls Tryz.prog 31 #[.pointer (some ⟨br, 0, none⟩), .int .i64 3, .string q, .string v] W fun e w' => e = .returned (.int .i64 (s.put 3 q v).2) ∧ V.Left B br (s.put 3 q v).1 W w') := fun s vL L q v W h1 h2 h3 h4 => rput_any 3 q v W h1 h2 h3 h4
  go_loopw [13] (fun vi wr => ∃ k : Nat, k ≤ n ∧ vi = .int .i64 (k : Int) ∧ Hid (Side B (newM B) br (putsV VS.none_ (l.take k)) w wr)) (fun vi _ => n - (intOf vi).toNat)
  case atStart => exact ⟨0, Nat.zero_le _, rfl, H2.out⟩
  case round =>
    clear H2
    obtain ⟨k, hk, rfl, HS⟩ := hrel
    by_cases hlt : k < n
    · have hil : (k : Int) < (n : Int) := by omega
      have hkl : k < l.length := by rw [← HH.out.2.1]; exact hlt
      have hVr := HH.out.1.below (w' := wr) (by rw [← HH.out.2.2.2]; exact HS.out.low)
      obtain ⟨a', n', c', e1, e2, e3⟩ := hVr
      simp only [Value.slice.injEq] at e1
      obtain ⟨b, o, e4, e5, e6, e7⟩ := e3 k hkl
      rw [← e1.1] at e4
      subst e4
      have hsz := HH.out.2.2.1 l[k] (List.getElem_mem hkl)
      obtain ⟨q, hq⟩ : ∃ q, q = l[k].1 := ⟨_, rfl⟩
      obtain ⟨v, hv⟩ : ∃ v, v = l[k].2 := ⟨_, rfl⟩
      rw [← hq, ← hv] at hsz
      rw [← hq] at e6
      rw [← hv] at e7
      have HNX : Hid (putsV VS.none_ (l.take (k + 1)) = ((putsV VS.none_ (l.take k)).put 3 q v).1) := by rw [hq, hv]; exact puts_snoc l k hkl
      obtain ⟨s, hs⟩ : ∃ s, s = putsV VS.none_ (l.take k) := ⟨_, rfl⟩
      rw [← hs] at HS HNX
      obtain ⟨w3, hw3, hb3, hbox⟩ : ∃ w3, w3 = wr.alloc (.cells #[.string q, .string v] 48) ∧ Below wr.heap.size wr w3 ∧ w3.heap[wr.heap.size]? = some (.cells #[.string q, .string v] 48 (0, 0)) := ⟨_, rfl, (Below.refl _ _).alloc (Nat.le_refl _) _, heap_alloc_new _ _⟩
      have H3 : Hid (Side B (newM B) br s w w3 ∧ w3.heap[wr.heap.size]? = some (.cells #[.string q, .string v] 48 (0, 0)) ∧ q.size ≤ 140737488355328 ∧ v.size ≤ 140737488355328) := ⟨HS.out.below hb3, hbox, hsz⟩
      have z0 := V.cell_in hbox 0 rfl
      have z1 := V.cell_in hbox 1 rfl
      clear e1 e2 e3 e5 hsz hq hv hs hb3 hbox
      go_wp2_with fail
      rw [← hw3]
      clear hw3
      refine (HP.out s q v w3 H3.out.1.prog H3.out.2.2.2).mono ?_
      rintro e w4 ⟨rfl, hv4, ht4⟩
      have H4 : Hid (VSet B B (newM B) (s.put 3 q v).1 w4 ∧ (∃ vL L, RSet B br vL L w4 ∧ Rel L s) ∧ Below B w w4 ∧ w4.heap[wr.heap.size]? = some (.cells #[.string q, .string v] 48 (0, 0))) := by
        obtain ⟨vL, L, g1, g2⟩ := H3.out.1.doc
        have l1 := (Array.getElem?_eq_some_iff.1 H3.out.2.1).1
        refine ⟨hv4, ⟨vL, L, rset_turn g1 H3.out.1.prog ht4, g2⟩, ?_, ?_⟩
        · have hlo := H3.out.1.low
          exact ⟨ht4.os.trans hlo.os, ht4.tape.trans hlo.tape, ht4.output.trans hlo.output, Nat.le_trans hlo.size ht4.size, fun j hj => (ht4.block j (by have := H3.out.1.prog.lt; omega) (fun n hn e => by have := H3.out.1.prog.hm n hn; omega)).trans (hlo.block j hj)⟩
        · rw [ht4.block _ l1 (fun n hn e => ?_)]
          · exact H3.out.2.1
          · obtain ⟨es, clock, hm⟩ := (H3.out.1.prog.map n hn).isMap
            have h9 := H3.out.2.1; rw [e, hm] at h9; cases h9
      have y0 := V.cell_in H4.out.2.2.2 0 rfl
      have y1 := V.cell_in H4.out.2.2.2 1 rfl
      obtain ⟨vL, L, g1, g2⟩ := H4.out.2.1
      have HR4 : Hid (Calls Tryz.prog 31 #[.pointer (some ⟨br, 0, none⟩), .int .i64 3, .string q, .string v] w4 fun e w' => e = .returned (.int .i64 (s.put 3 q v).2) ∧ V.Left B br (s.put 3 q v).1 w4 w') := HRP.out s vL L q v w4 g1 g2 H3.out.2.2.1 (Nat.le_trans H3.out.2.2.2 (by omega))
      have HG1 : Hid (RSet B br vL L w4) := g1
      clear hv4 ht4 z0 z1 g1 g2 e6 e7
      go_wp2_with fail
      refine HR4.out.mono ?_
      rintro e w5 ⟨rfl, vL5, L5, g1, g2, g3⟩
      have H5 : Hid (Side B (newM B) br (s.put 3 q v).1 w w5) := by
        refine ⟨vset_rturn H4.out.1 HG1.out g3, ⟨vL5, L5, g1, g2⟩, ?_⟩
        have hlo := H4.out.2.2.1
        exact ⟨g3.os.trans hlo.os, g3.tape.trans hlo.tape, g3.output.trans hlo.output, Nat.le_trans hlo.size g3.size, fun j hj => (g3.block j (by have := H4.out.1.lt; omega) (by have := HG1.out.hb; omega)).trans (hlo.block j hj)⟩
      clear g1 g2 g3 HR4
      go_wp2_with fail
      go_roundw
      case rel => exact ⟨k + 1, by omega, by go_num, by rw [HNX.out]; exact H5.out⟩
      case measure => simp [intOf]; omega
    · have hil : ¬ (k : Int) < (n : Int) := by omega
      have hkn : k = n := by omega
      have hta : l.take k = l := List.take_of_length_le (by rw [← HH.out.2.1]; omega)
      rw [hta] at HS
      clear hkn hta
      go_wp2
      go_ret2
      exact ⟨B, br, newM B, rfl, by rw [HH.out.2.2.2]; exact Nat.le_refl _, HS.out.prog, by rw [← HH.out.2.2.2]; exact HS.out.low⟩
end Go.Proofs.YthcbagggalehgaaGreatDoor.Ex
