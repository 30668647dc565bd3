/-
  A reading in memory, and what dollar does, given what mean does.
-/
import Derived.Test.YtkelmhpoplbacaaGreatDoorX10
import Derived.Test.YtkelmhpoplbacaaGreatDoorE4
namespace Go.Proofs.YtkelmhpoplbacaaGreatDoor.Ex
open Go.RowKit Go.Shelf

/-- Dollars that can be read, one behind the other. -/
def DlsAt (w : World) (vl : Value) (left : List Dl) : Prop := ∃ c, left.length ≤ c ∧ ((left = [] ∧ ∃ a, vl = .slice a 0 c) ∨ ∃ g o cs, vl = .slice (some ⟨g, o, none⟩) left.length c ∧ w.heap[g]? = some (.cells cs 261 (0, 0)) ∧ ∀ i D j u, left[i]? = some D → (dlC D)[j]? = some u → cs[o + i * 6 + j]? = some u)
structure RdAt (br bw : Nat) (s : ByteArray) (vl : Value) (left : List Dl) (w : World) : Prop where
  blk : w.heap[br]? = some (.cells #[pV bw, .string s, vl] 222 (0, 0))
  row : DlsAt w vl left
def FR (bw br : Nat) (vw : Value) : Nat → Prop := fun j => j = bw ∨ j = br ∨ vw.ownBlock = some j
def MePost (B bw : Nat) (pv : Value) (within : List ByteArray) (vw : Value) (br : Nat) (s : ByteArray) (W : World) (m : Mes) (e : Ending) (w' : World) : Prop :=
  match m with
  | .ok u l f => e = .returned (.string u) ∧ u.size ≤ 1000000 ∧ f ≤ 10000000 ∧ ∃ vw' vl', WkAt B bw pv f vw' within w' ∧ RdAt br bw s vl' l w' ∧ Fr (FR bw br vw) W w' ∧ Moved vw vw' W
  | .err x => e = pan x ∧ Below B W w'
  | .bad => True
theorem DlsAt.kept {w w' : World} {vl : Value} {left : List Dl} (h : DlsAt w vl left) (hk : ∀ (g : Nat) (cs : Array Value), w.heap[g]? = some (Obj.cells cs 261 (0, 0)) → w'.heap[g]? = some (Obj.cells cs 261 (0, 0))) : DlsAt w' vl left := by
  obtain ⟨c, hc, h | ⟨g, o, cs, h1, h2, h3⟩⟩ := h
  · exact ⟨c, hc, .inl h⟩
  · exact ⟨c, hc, .inr ⟨g, o, cs, h1, hk g cs h2, h3⟩⟩
theorem DlsAt.slice {w : World} {vl : Value} {left : List Dl} (h : DlsAt w vl left) : ∃ a c, vl = .slice a left.length c := by
  obtain ⟨c, hc, ⟨h1, a, h2⟩ | ⟨g, o, cs, h1, h2, h3⟩⟩ := h
  · subst h1; exact ⟨a, c, h2⟩
  · exact ⟨_, _, h1⟩
/-- The first one, and the others. -/
theorem DlsAt.head {w : World} {vl : Value} {d : Dl} {rest : List Dl} (h : DlsAt w vl (d :: rest)) : ∃ g o c, vl = .slice (some ⟨g, o, none⟩) (rest.length + 1) c ∧ rest.length + 1 ≤ c ∧ g < w.heap.size ∧ (∃ cs, w.heap[g]? = some (.cells cs 261 (0, 0))) ∧ (∀ j u, (dlC d)[j]? = some u → w.cell? ⟨g, o + j, none⟩ = some u) ∧
    (c = 1 → DlsAt w (.slice (some ⟨g, o, none⟩) rest.length 0) rest) ∧ DlsAt w (.slice (some ⟨g, o + 6, none⟩) rest.length (c - 1)) rest := by
  obtain ⟨c, hc, ⟨h1, a, h2⟩ | ⟨g, o, cs, h1, h2, h3⟩⟩ := h
  · cases h1
  · rw [List.length_cons] at hc h1
    refine ⟨g, o, c, h1, hc, (Array.getElem?_eq_some_iff.1 h2).1, ⟨cs, h2⟩, fun j u hu => ?_, fun e => ?_, ?_⟩
    · have := h3 0 d j u rfl hu
      simp only [World.cell?, h2]
      simpa using this
    · have : rest = [] := List.length_eq_zero_iff.1 (by omega)
      subst this
      exact ⟨0, Nat.le_refl _, .inl ⟨rfl, _, rfl⟩⟩
    · refine ⟨c - 1, by omega, .inr ⟨g, o + 6, cs, rfl, h2, fun i D j u hD hu => ?_⟩⟩
      have := h3 (i + 1) D j u (by simpa using hD) hu
      rw [show o + (i + 1) * 6 + j = o + 6 + i * 6 + j by omega] at this
      exact this
section
variable {B : Nat} {w0 : World} {bw : Nat} {pv : Value} {tx : List ByteArray → Nat → ByteArray → Res} {ev : Env} {br : Nat} {s : ByteArray}
theorem RdAt.lt {vl : Value} {left : List Dl} {w : World} (h : RdAt br bw s vl left w) : br < w.heap.size := (Array.getElem?_eq_some_iff.1 h.blk).1
theorem RdAt.below {vl : Value} {left : List Dl} {w w' : World} (h : RdAt br bw s vl left w) (hb : Below w.heap.size w w') : RdAt br bw s vl left w' :=
  ⟨(hb.block br h.lt).trans h.blk, h.row.kept fun g _ hg => (hb.block g (Array.getElem?_eq_some_iff.1 hg).1).trans hg⟩
/-- A turn of the work alone leaves a reading as it is. -/
theorem RdAt.fd {vl : Value} {left : List Dl} {w w' : World} {within : List ByteArray} {fuel : Nat} {vw : Value} (h : RdAt br bw s vl left w) (hk : WkAt B bw pv fuel vw within w) (hf : Fr (FD bw vw) w w') : RdAt br bw s vl left w' := by
  have hn : ∀ j cs T, w.heap[j]? = some (.cells cs T (0, 0)) → ¬ T = 203 → ¬ (9 : TypeId) = T → ¬ FD bw vw j := fun j cs T hj h1 h2 e => by
    rcases e with e | e
    · rw [e, hk.blk] at hj; simp at hj; exact h1 hj.2.symm
    · exact row_ne' hk.row hj h2 e
  exact ⟨(hf.block br h.lt (hn _ _ _ h.blk (by decide) (by decide))).trans h.blk, h.row.kept fun g cs hg => (hf.block g (Array.getElem?_eq_some_iff.1 hg).1 (hn _ _ _ hg (by decide) (by decide))).trans hg⟩
theorem FR.low {vw : Value} {within : List ByteArray} {fuel : Nat} {w : World} (hk : WkAt B bw pv fuel vw within w) (hbr : B ≤ br) : ∀ j, FR bw br vw j → B ≤ j := fun j e => by
  rcases e with e | e | e
  · rw [e]; exact hk.hb
  · rw [e]; exact hbr
  · exact (hk.row.lt j e).1
theorem Fr.nextR {vw v1 : Value} {w w1 w2 : World} (h1 : Fr (FR bw br vw) w w1) (hm : Moved vw v1 w) (h2 : Fr (FR bw br v1) w1 w2) : Fr (FR bw br vw) w w2 :=
  ⟨h2.os.trans h1.os, h2.tape.trans h1.tape, h2.output.trans h1.output, Nat.le_trans h1.size h2.size, fun j hj hD => (h2.block j (Nat.lt_of_lt_of_le hj h1.size) (fun e => hD (by
    rcases e with e | e | e
    · exact .inl e
    · exact .inr (.inl e)
    · rcases hm j e with e | e
      · exact .inr (.inr e)
      · omega))).trans (h1.block j hj hD)⟩
theorem Fr.wide {vw : Value} {w w1 : World} (h : Fr (FD bw vw) w w1) : Fr (FR bw br vw) w w1 := h.mono fun j _ e => by
  rcases e with e | e
  · exact .inl e
  · exact .inr (.inr e)

/-- A call that panics, within a region that draws its order: what follows if it had come back is asked for under a false premise. -/
theorem calls_panic {f : Nat} {args : Array Value} {W : World} {Q : Ending → World → Prop} {x : Int} {Post : World → Prop} (v0 : Value) (h : Calls Tryz.prog f args W (fun e w' => e = pan x ∧ Post w')) (hq : ∀ w', Post w' → Q (pan x) w') (hk : Hid False → Q (.returned v0) W) : Calls Tryz.prog f args W Q := h.mono fun e w' hx => by
  have _ := hk
  rw [hx.1]; exact hq w' hx.2
theorem calls_false {f : Nat} {args : Array Value} {W : World} {Q : Ending → World → Prop} (v0 : Value) (hf : Hid False) (hk : Q (.returned v0) W) : Calls Tryz.prog f args W Q := by
  have _ := hk
  exact hf.out.elim
theorem low_drew (B : Nat) (w : World) : Below B w w.drew := ⟨rfl, rfl, rfl, Nat.le_refl _, fun _ _ => rfl⟩
/-- What mean does, where it is known. -/
def MeanC (B : Nat) (w0 : World) (bw : Nat) (pv : Value) (within : List ByteArray) (br : Nat) (s : ByteArray) (M : Nat → Nat → List Dl → Nat → Mes) : Prop :=
  ∀ (a b : Nat) (left : List Dl) (fuel : Nat) (vw vl : Value) (W : World), WkAt B bw pv fuel vw within W → RdAt br bw s vl left W → Below B w0 W → fuel ≤ 10000000 → M a b left fuel ≠ .bad →
    Calls Tryz.prog 137 #[pV br, .agg #[.int .i64 (a : Int), .int .i64 (b : Int)]] W (MePost B bw pv within vw br s W (M a b left fuel))
theorem mp_quiet {within : List ByteArray} {fuel : Nat} {vw vl : Value} {left : List Dl} {W w1 : World} (h : WkAt B bw pv fuel vw within W) (hr : RdAt br bw s vl left W) (hb : Below W.heap.size W w1) {u : ByteArray} (hu : u.size ≤ 1000000) (hf : fuel ≤ 10000000) : MePost B bw pv within vw br s W (.ok u left fuel) (.returned (.string u)) w1 :=
  ⟨rfl, hu, hf, vw, vl, h.below hb, hr.below hb, .of_below hb, Moved.refl _ _⟩

set_option maxRecDepth 20000 in
set_option maxHeartbeats 3200000 in
theorem dollar_any (hT : TextC B w0 bw pv tx) (hC : Cx B w0 pv ev) (within : List ByteArray) (M : Nat → Nat → List Dl → Nat → Mes) (hM : MeanC B w0 bw pv within br s M) (hbr : B ≤ br) (hwl : within.length ≤ 32) (d : Dl) (rest : List Dl) (fuel : Nat) (vw vl : Value) (W : World) (h : WkAt B bw pv fuel vw within W) (hr : RdAt br bw s vl rest W) (hW : Below B w0 W) (hfu : fuel ≤ 10000000) (hbad : dollarF ev tx within M d rest fuel ≠ .bad) :
    Calls Tryz.prog 159 #[pV br, .agg (dlC d).toArray] W (MePost B bw pv within vw br s W (dollarF ev tx within M d rest fuel)) := by
  have HE : Hid (∀ W1, Calls Tryz.prog 171 #[.agg (dlC d).toArray] W1 fun e w' => e = .returned (.bool (!decide (d.en = 0))) ∧ Below W1.heap.size W1 w') := fun W1 => ends_any d W1
  have HI : Hid (∀ W1, Calls Tryz.prog 172 #[.agg (dlC d).toArray] W1 fun e w' => e = .returned (.bool (!decide (d.nf = 0))) ∧ Below W1.heap.size W1 w') := fun W1 => isUse_any d W1
  obtain ⟨w1, hw1, hb1⟩ : ∃ w1, w1 = W.alloc (.cells (dlC d).toArray 261) ∧ Below W.heap.size W w1 := ⟨_, rfl, (Below.refl _ _).alloc (Nat.le_refl _) _⟩
  have hbox : w1.heap[W.heap.size]? = some (.cells (dlC d).toArray 261 (0, 0)) := by rw [hw1]; exact heap_alloc_new _ _
  have H1 : Hid (Below W.heap.size W w1 ∧ w1.heap[W.heap.size]? = some (.cells (dlC d).toArray 261 (0, 0))) := ⟨hb1, hbox⟩
  have HH : Hid (WkAt B bw pv fuel vw within W ∧ RdAt br bw s vl rest W ∧ Below B w0 W) := ⟨h, hr, hW⟩
  have y0 := V.cell_in hbox 0 rfl
  have y1 := V.cell_in hbox 1 rfl
  have y2 := V.cell_in hbox 2 rfl
  have y3 := V.cell_in hbox 3 rfl
  have y4 := V.cell_in hbox 4 rfl
  have y5 := V.cell_in hbox 5 rfl
  unfold dollarF at hbad ⊢
  unfold dlC at y0 y1 y2 y3 y4 y5 HE HI hw1 ⊢
  by_cases h0 : d.en = 0
  · rw [if_pos h0]
    rw [decide_eq_true h0] at HE
    unfold pV
    clear h hr hW hbad hb1 hbox h0
    go_enter Tryz.func159, Tryz.ntmps159
    go_wp2_with fail
    rw [← hw1]
    clear hw1
    refine (HE.out _).mono ?_
    rintro e w2 ⟨rfl, hb2⟩
    have H2 : Hid (Below w1.heap.size w1 w2) := hb2
    clear hb2
    go_wp2
    exact ⟨rfl, rfl, (H1.out.1.trans (H2.out.mono H1.out.1.size)).mono HH.out.1.low⟩
  · rw [if_neg h0] at hbad ⊢
    rw [decide_eq_false h0] at HE
    by_cases h2 : d.nf = 0
    · rw [if_pos h2]
      rw [decide_eq_true h2] at HI
      unfold pV
      clear h hr hW hbad hb1 hbox h0 h2
      go_enter Tryz.func159, Tryz.ntmps159
      go_wp2_with fail
      rw [← hw1]
      clear hw1
      refine (HE.out _).mono ?_
      rintro e w2 ⟨rfl, hb2⟩
      have z0 := (hb2.cell (p := ⟨W.heap.size, 0, none⟩) (Array.getElem?_eq_some_iff.1 H1.out.2).1).trans y0
      have z1 := (hb2.cell (p := ⟨W.heap.size, 1, none⟩) (Array.getElem?_eq_some_iff.1 H1.out.2).1).trans y1
      have z2 := (hb2.cell (p := ⟨W.heap.size, 2, none⟩) (Array.getElem?_eq_some_iff.1 H1.out.2).1).trans y2
      have z3 := (hb2.cell (p := ⟨W.heap.size, 3, none⟩) (Array.getElem?_eq_some_iff.1 H1.out.2).1).trans y3
      have z4 := (hb2.cell (p := ⟨W.heap.size, 4, none⟩) (Array.getElem?_eq_some_iff.1 H1.out.2).1).trans y4
      have z5 := (hb2.cell (p := ⟨W.heap.size, 5, none⟩) (Array.getElem?_eq_some_iff.1 H1.out.2).1).trans y5
      have H2 : Hid (Below w1.heap.size w1 w2) := hb2
      clear hb2 y0 y1 y2 y3 y4 y5
      go_wp2_with fail
      refine (HI.out _).mono ?_
      rintro e w3 ⟨rfl, hb3⟩
      have H3 : Hid (Below W.heap.size W w3) := (H1.out.1.trans (H2.out.mono H1.out.1.size)).trans (hb3.mono (Nat.le_trans H1.out.1.size H2.out.size))
      clear hb3
      go_wp2
      go_ret
      exact mp_quiet HH.out.1 HH.out.2.1 H3.out (by show (1 : Nat) ≤ 1000000; omega) hfu
    · rw [if_neg h2] at hbad ⊢
      rw [decide_eq_false h2] at HI
      -- the three ways up to the burnt fuel
      by_cases h3 : fuel < 1
      · rw [if_pos h3]
        have HBu : Hid (∀ W1, Below W.heap.size W W1 → Calls Tryz.prog 173 #[pV bw, .int .i64 1] W1 fun e w' => e = pan 10 ∧ W1 = w') := fun W1 hb => burn_err bw _ _ 1 fuel W1 (h.below hb).blk h3
        have HR0 : Hid (∀ W1, Below W.heap.size W W1 → W1.cell? ⟨br, 0, none⟩ = some (pV bw)) := fun W1 hb => V.cell_in (hr.below hb).blk 0 rfl
        unfold pV at HR0 HBu ⊢
        unfold pan at HBu
        clear h hr hW hbad hb1 hbox h0 h2 h3
        go_enter Tryz.func159, Tryz.ntmps159
        go_wp2_with fail
        rw [← hw1]
        clear hw1
        refine (HE.out _).mono ?_
        rintro e w2 ⟨rfl, hb2⟩
        have z0 := (hb2.cell (p := ⟨W.heap.size, 0, none⟩) (Array.getElem?_eq_some_iff.1 H1.out.2).1).trans y0
        have z1 := (hb2.cell (p := ⟨W.heap.size, 1, none⟩) (Array.getElem?_eq_some_iff.1 H1.out.2).1).trans y1
        have z2 := (hb2.cell (p := ⟨W.heap.size, 2, none⟩) (Array.getElem?_eq_some_iff.1 H1.out.2).1).trans y2
        have z3 := (hb2.cell (p := ⟨W.heap.size, 3, none⟩) (Array.getElem?_eq_some_iff.1 H1.out.2).1).trans y3
        have z4 := (hb2.cell (p := ⟨W.heap.size, 4, none⟩) (Array.getElem?_eq_some_iff.1 H1.out.2).1).trans y4
        have z5 := (hb2.cell (p := ⟨W.heap.size, 5, none⟩) (Array.getElem?_eq_some_iff.1 H1.out.2).1).trans y5
        have H2 : Hid (Below w1.heap.size w1 w2) := hb2
        clear hb2 y0 y1 y2 y3 y4 y5
        go_wp2_with fail
        refine (HI.out _).mono ?_
        rintro e w3 ⟨rfl, hb3⟩
        have H3 : Hid (Below W.heap.size W w3) := (H1.out.1.trans (H2.out.mono H1.out.1.size)).trans (hb3.mono (Nat.le_trans H1.out.1.size H2.out.size))
        have r0 := HR0.out w3 H3.out
        clear hb3 z0 z1 z2 z3 z4 z5
        go_wp2_with fail
        refine (HBu.out w3 H3.out).mono ?_
        rintro e w4 ⟨rfl, rfl⟩
        go_wp2
        exact ⟨rfl, rfl, H3.out.mono HH.out.1.low⟩
      · rw [if_neg h3] at hbad ⊢
        have HBu : Hid (∀ W1, Below W.heap.size W W1 → Calls Tryz.prog 173 #[pV bw, .int .i64 1] W1 fun e w' => e = .returned (.tuple #[]) ∧ W1.setCell ⟨bw, 1, none⟩ (.int .i64 ((fuel - 1 : Nat) : Int)) = w') := fun W1 hb => burn_ok bw _ _ 1 fuel W1 (h.below hb).blk (by omega) hfu
        have HR0 : Hid (∀ W1, Below W.heap.size W W1 → W1.cell? ⟨br, 0, none⟩ = some (pV bw)) := fun W1 hb => V.cell_in (hr.below hb).blk 0 rfl
        obtain ⟨f0, hf0⟩ : ∃ f0, f0 = fuel - 1 := ⟨_, rfl⟩
        rw [← hf0] at HBu hbad ⊢
        have hf0' : f0 ≤ 10000000 := by omega
        obtain ⟨m1, hm1⟩ : ∃ m1, m1 = M d.nf d.nt rest f0 := ⟨_, rfl⟩
        have hb1' : m1 ≠ .bad := fun e => hbad (by rw [← hm1, e]; rfl)
        -- behind the burnt fuel: the work, the reading, the dollar's own block
        have HS : Hid (∀ W1, Below W.heap.size W W1 → W1.heap[W.heap.size]? = some (.cells (dlC d).toArray 261 (0, 0)) → WkAt B bw pv f0 vw within (W1.setCell ⟨bw, 1, none⟩ (.int .i64 (f0 : Int))) ∧ RdAt br bw s vl rest (W1.setCell ⟨bw, 1, none⟩ (.int .i64 (f0 : Int))) ∧ Fr (FD bw vw) W (W1.setCell ⟨bw, 1, none⟩ (.int .i64 (f0 : Int))) ∧ (W1.setCell ⟨bw, 1, none⟩ (.int .i64 (f0 : Int))).heap[W.heap.size]? = some (.cells (dlC d).toArray 261 (0, 0)) ∧ Below B w0 (W1.setCell ⟨bw, 1, none⟩ (.int .i64 (f0 : Int)))) := fun W1 hb hx => by
          have k1 := (h.below hb).burn f0
          have k2 : Fr (FD bw vw) W1 (W1.setCell ⟨bw, 1, none⟩ (.int .i64 (f0 : Int))) := Fr.set bw 1 W1 _ (.inl rfl)
          have k3 := (hr.below hb).fd (h.below hb) k2
          have k4 : Fr (FD bw vw) W (W1.setCell ⟨bw, 1, none⟩ (.int .i64 (f0 : Int))) := (Fr.of_below hb).trans k2
          refine ⟨k1, k3, k4, ?_, hW.trans (h.fr_low k4)⟩
          rw [Below.heap_setCell _ _ _ _ (by have := h.lt; simp only; omega)]; exact hx
        have HM1 : Hid (∀ W1, WkAt B bw pv f0 vw within W1 → RdAt br bw s vl rest W1 → Below B w0 W1 → Calls Tryz.prog 137 #[pV br, .agg #[.int .i64 (d.nf : Int), .int .i64 (d.nt : Int)]] W1 (MePost B bw pv within vw br s W1 m1)) := fun W1 g1 g2 g3 => by rw [hm1]; exact hM d.nf d.nt rest f0 vw vl W1 g1 g2 g3 hf0' (by rw [← hm1]; exact hb1')
        rw [← hm1] at hbad ⊢
        obtain ⟨R, hR⟩ : ∃ R, R = m1.and fun name l1 f1 => (M d.mf d.mt l1 f1).and fun mods l2 f2 => (useF ev tx within f2 name mods).and fun r f3 => .ok r l2 f3 := ⟨_, rfl⟩
        rw [← hR] at hbad ⊢
        have HR : Hid (R = m1.and fun name l1 f1 => (M d.mf d.mt l1 f1).and fun mods l2 f2 => (useF ev tx within f2 name mods).and fun r f3 => .ok r l2 f3) := hR
        clear hm1 hf0 hf0' hR
        unfold pV at HR0 HBu HM1 ⊢
        clear hb1 hbox h0 h2 h3
        go_enter Tryz.func159, Tryz.ntmps159
        go_wp2_with fail
        rw [← hw1]
        clear hw1
        refine (HE.out _).mono ?_
        rintro e w2 ⟨rfl, hb2⟩
        have z0 := (hb2.cell (p := ⟨W.heap.size, 0, none⟩) (Array.getElem?_eq_some_iff.1 H1.out.2).1).trans y0
        have z1 := (hb2.cell (p := ⟨W.heap.size, 1, none⟩) (Array.getElem?_eq_some_iff.1 H1.out.2).1).trans y1
        have z2 := (hb2.cell (p := ⟨W.heap.size, 2, none⟩) (Array.getElem?_eq_some_iff.1 H1.out.2).1).trans y2
        have z3 := (hb2.cell (p := ⟨W.heap.size, 3, none⟩) (Array.getElem?_eq_some_iff.1 H1.out.2).1).trans y3
        have z4 := (hb2.cell (p := ⟨W.heap.size, 4, none⟩) (Array.getElem?_eq_some_iff.1 H1.out.2).1).trans y4
        have z5 := (hb2.cell (p := ⟨W.heap.size, 5, none⟩) (Array.getElem?_eq_some_iff.1 H1.out.2).1).trans y5
        have H2 : Hid (Below w1.heap.size w1 w2) := hb2
        clear hb2 y0 y1 y2 y3 y4 y5
        go_wp2_with fail
        refine (HI.out _).mono ?_
        rintro e w3 ⟨rfl, hb3⟩
        have H3 : Hid (Below W.heap.size W w3 ∧ w3.heap[W.heap.size]? = some (.cells (dlC d).toArray 261 (0, 0))) := by
          refine ⟨(H1.out.1.trans (H2.out.mono H1.out.1.size)).trans (hb3.mono (Nat.le_trans H1.out.1.size H2.out.size)), ?_⟩
          have l1 := (Array.getElem?_eq_some_iff.1 H1.out.2).1
          rw [hb3.block _ (Nat.lt_of_lt_of_le l1 H2.out.size), H2.out.block _ l1]; exact H1.out.2
        have r0 := HR0.out w3 H3.out.1
        clear hb3 z0 z1 z2 z3 z4 z5
        go_wp2_with fail
        refine (HBu.out w3 H3.out.1).mono ?_
        rintro e w4 ⟨rfl, hw4⟩
        have H4 : Hid (WkAt B bw pv f0 vw within w4 ∧ RdAt br bw s vl rest w4 ∧ Fr (FD bw vw) W w4 ∧ w4.heap[W.heap.size]? = some (.cells (dlC d).toArray 261 (0, 0)) ∧ Below B w0 w4) := by
          have := HS.out w3 H3.out.1 H3.out.2
          rw [hw4] at this; exact this
        have z2 := V.cell_in H4.out.2.2.2.1 2 rfl
        have z3 := V.cell_in H4.out.2.2.2.1 3 rfl
        unfold dlC at z2 z3
        clear hw4 r0
        go_wp2_with fail
        refine (HM1.out w4 H4.out.1 H4.out.2.1 H4.out.2.2.2.2).mono ?_
        intro e w5 hpost
        clear z2 z3
        cases m1 with
        | bad => exact absurd rfl hb1'
        | err x =>
          obtain ⟨rfl, hb5⟩ := hpost
          have H5 : Hid (Below B w4 w5) := hb5
          have hRx : R = .err x := HR.out
          subst hRx
          clear hb5 hbad HR
          unfold pan
          go_wp2
          exact ⟨rfl, rfl, (HH.out.1.fr_low H4.out.2.2.1).trans H5.out⟩
        | ok name l1 f1 =>
          obtain ⟨rfl, hu5, hf5, vw5, vl5, hk5, hr5, hfr5, hmv5⟩ := hpost
          have hR1 : R = (M d.mf d.mt l1 f1).and fun mods l2 f2 => (useF ev tx within f2 name mods).and fun r f3 => .ok r l2 f3 := HR.out
          have hfr05 : Fr (FR bw br vw) W w5 := (Fr.wide H4.out.2.2.1).trans hfr5
          have hmv05 : Moved vw vw5 W := fun g hg => (hmv5 g hg).imp id (fun e => Nat.le_trans H4.out.2.2.1.size e)
          have hlow5 : Below B w0 w5 := hW.trans (hfr05.below h.low (FR.low h hbr))
          have hbox5 : w5.heap[W.heap.size]? = some (.cells (dlC d).toArray 261 (0, 0)) := by
            have l1 := (Array.getElem?_eq_some_iff.1 H4.out.2.2.2.1).1
            rw [hfr5.block _ l1 (fun e => ?_)]
            · exact H4.out.2.2.2.1
            · rcases e with e | e | e
              · have := h.lt; omega
              · have := hr.lt; omega
              · have := (h.row.lt _ e).2; omega
          have H5 : Hid (WkAt B bw pv f1 vw5 within w5 ∧ RdAt br bw s vl5 l1 w5 ∧ Fr (FR bw br vw) W w5 ∧ Moved vw vw5 W ∧ Below B w0 w5 ∧ w5.heap[W.heap.size]? = some (.cells (dlC d).toArray 261 (0, 0)) ∧ name.size ≤ 1000000 ∧ f1 ≤ 10000000) := ⟨hk5, hr5, hfr05, hmv05, hlow5, hbox5, hu5, hf5⟩
          obtain ⟨m2, hm2⟩ : ∃ m2, m2 = M d.mf d.mt l1 f1 := ⟨_, rfl⟩
          have hb2' : m2 ≠ .bad := fun e => hbad (by rw [hR1, ← hm2, e]; rfl)
          have HM2 : Hid (∀ W1, WkAt B bw pv f1 vw5 within W1 → RdAt br bw s vl5 l1 W1 → Below B w0 W1 → Calls Tryz.prog 137 #[.pointer (some ⟨br, 0, none⟩), .agg #[.int .i64 (d.mf : Int), .int .i64 (d.mt : Int)]] W1 (MePost B bw pv within vw5 br s W1 m2)) := fun W1 g1 g2 g3 => by rw [hm2]; exact hM d.mf d.mt l1 f1 vw5 vl5 W1 g1 g2 g3 hf5 (by rw [← hm2]; exact hb2')
          rw [← hm2] at hR1
          have HR1 : Hid (R = m2.and fun mods l2 f2 => (useF ev tx within f2 name mods).and fun r f3 => .ok r l2 f3) := hR1
          clear hR1 HR
          have r0 : w5.cell? ⟨br, 0, none⟩ = some (.pointer (some ⟨bw, 0, none⟩)) := V.cell_in hr5.blk 0 rfl
          have z4 := V.cell_in hbox5 4 rfl
          have z5 := V.cell_in hbox5 5 rfl
          unfold dlC at z4 z5
          have HD5 : Hid (WkAt B bw pv f1 vw5 within w5.drew ∧ RdAt br bw s vl5 l1 w5.drew ∧ Below B w0 w5.drew) := ⟨⟨hk5.blk, hk5.row.kept (row := none) ⟨rfl, rfl, rfl, Nat.le_refl _, fun _ _ _ => rfl⟩ (Classical.em _), hk5.hb⟩, ⟨hr5.blk, hr5.row⟩, ⟨hlow5.os, hlow5.tape, hlow5.output, hlow5.size, hlow5.block⟩⟩
          clear hm2 hk5 hr5 hfr05 hmv05 hlow5 hbox5 hu5 hfr5 hmv5
          go_wp2_with fail
          cases m2 with
          | bad => exact absurd rfl hb2'
          | err x =>
            have hRx : R = .err x := HR1.out
            subst hRx
            have HP : Hid (Calls Tryz.prog 137 #[.pointer (some ⟨br, 0, none⟩), .agg #[.int .i64 (d.mf : Int), .int .i64 (d.mt : Int)]] w5.drew fun e w' => e = pan x ∧ Below B w5.drew w') := HM2.out _ HD5.out.1 HD5.out.2.1 HD5.out.2.2
            clear hbad hb2' HM2
            go_region_with (first | (go_at_call 137; refine calls_panic (.string E0) HP.out (fun w6 hb6 => ?_) (fun HF => ?_); focus (unfold pan; go_wp2; exact ⟨rfl, rfl, ((H5.out.2.2.1.below HH.out.1.low (FR.low HH.out.1 hbr)).trans (low_drew _ _)).trans hb6⟩)) | (go_at_call 174; refine calls_false (.string E0) HF ?_))
            all_goals (exact HF.out.elim)
          | ok mods l2 f2 =>
            have hP0 : MePost B bw pv within vw5 br s w5.drew (.ok mods l2 f2) = MePost B bw pv within vw5 br s w5.drew (.ok mods l2 f2) := rfl
            clear hP0
            obtain ⟨r3, hr3⟩ : ∃ r3, r3 = useF ev tx within f2 name mods := ⟨_, rfl⟩
            have hb3' : r3 ≠ .bad := fun e => hbad (by rw [HR1.out]; show (useF ev tx within f2 name mods).and _ = _; rw [← hr3, e]; rfl)
            have HR3 : Hid (R = r3.and fun r f3 => .ok r l2 f3) := by rw [hr3]; exact HR1.out
            have HM3 : Hid (Calls Tryz.prog 137 #[.pointer (some ⟨br, 0, none⟩), .agg #[.int .i64 (d.mf : Int), .int .i64 (d.mt : Int)]] w5.drew fun e w' => e = .returned (.string mods) ∧ mods.size ≤ 1000000 ∧ f2 ≤ 10000000 ∧ ∃ vw' vl', WkAt B bw pv f2 vw' within w' ∧ RdAt br bw s vl' l2 w' ∧ Fr (FR bw br vw5) w5.drew w' ∧ Moved vw5 vw' w5.drew) := HM2.out _ HD5.out.1 HD5.out.2.1 HD5.out.2.2
            have HU : Hid (∀ vw6 W1, WkAt B bw pv f2 vw6 within W1 → Below B w0 W1 → f2 ≤ 10000000 → mods.size ≤ 1000000 → Calls Tryz.prog 174 #[.pointer (some ⟨bw, 0, none⟩), .string name, .string mods] W1 (ResPost B bw pv within vw6 W1 r3)) := fun vw6 W1 g1 g2 g3 g4 => by
              rw [hr3]; exact use_any hT hC within f2 name mods vw6 W1 g1 g2 hwl g3 H5.out.2.2.2.2.2.2.1 g4 (by rw [← hr3]; exact hb3')
            have HN6 : Hid (∀ vw6 vl6 w6, WkAt B bw pv f2 vw6 within w6 → RdAt br bw s vl6 l2 w6 → Fr (FR bw br vw5) w5.drew w6 → Moved vw5 vw6 w5.drew → Fr (FR bw br vw) W w6 ∧ Moved vw vw6 W ∧ Below B w0 w6 ∧ w6.cell? ⟨br, 0, none⟩ = some (.pointer (some ⟨bw, 0, none⟩))) := fun vw6 vl6 w6 g1 g2 g3 g4 => by
              obtain ⟨q1, q2, q3, q4, q5, q6, q7, q8⟩ := H5.out
              have k1 : Fr (FR bw br vw) W w6 := q3.nextR q4 ((Fr.drew w5).trans g3)
              exact ⟨k1, q4.next q3.size (fun g hg => g4 g hg), HH.out.2.2.trans (k1.below HH.out.1.low (FR.low HH.out.1 hbr)), V.cell_in g2.blk 0 rfl⟩
            clear hbad hb2' HM2 HR1 hr3
            cases r3 with
            | bad => exact absurd rfl hb3'
            | err x =>
              have hRx : R = .err x := HR3.out
              subst hRx
              clear hb3'
              go_region_with (first | (go_at_call 137; refine HM3.out.mono ?_; rintro e w6 ⟨rfl, hu6, hf6, vw6, vl6, hk6, hr6, hfr6, hmv6⟩; obtain ⟨n1, n2, n3, n4⟩ := HN6.out vw6 vl6 w6 hk6 hr6 hfr6 hmv6; have HP6 : Hid (Calls Tryz.prog 174 #[.pointer (some ⟨bw, 0, none⟩), .string name, .string mods] w6 fun e w' => e = pan x ∧ Below B w6 w') := HU.out vw6 w6 hk6 n3 hf6 hu6; have H6 : Hid (Fr (FR bw br vw) W w6) := n1; clear hu6 hf6 hk6 hr6 hfr6 hmv6 n1 n2 n3) | (go_at_call 174; refine calls_panic (.string E0) HP6.out (fun w7 hb7 => ?_) (fun HF => ?_); focus (unfold pan; go_wp2; exact ⟨rfl, rfl, (H6.out.below HH.out.1.low (FR.low HH.out.1 hbr)).trans hb7⟩)))
              all_goals (exact HF.out.elim)
            | ok u f3 =>
              have hRx : R = .ok u l2 f3 := HR3.out
              subst hRx
              clear hb3'
              go_region_with (first | (go_at_call 137; refine HM3.out.mono ?_; rintro e w6 ⟨rfl, hu6, hf6, vw6, vl6, hk6, hr6, hfr6, hmv6⟩; obtain ⟨n1, n2, n3, n4⟩ := HN6.out vw6 vl6 w6 hk6 hr6 hfr6 hmv6; have HP6 : Hid (Calls Tryz.prog 174 #[.pointer (some ⟨bw, 0, none⟩), .string name, .string mods] w6 (ResPost B bw pv within vw6 w6 (.ok u f3))) := HU.out vw6 w6 hk6 n3 hf6 hu6; have H6 : Hid (Fr (FR bw br vw) W w6 ∧ Moved vw vw6 W ∧ WkAt B bw pv f2 vw6 within w6 ∧ RdAt br bw s vl6 l2 w6) := ⟨n1, n2, hk6, hr6⟩; clear hu6 hf6 hk6 hr6 hfr6 hmv6 n1 n2 n3) | (go_at_call 174; refine HP6.out.mono ?_; rintro e w7 ⟨rfl, hu7, hf7, vw7, hk7, hfr7, hmv7⟩; have H7 : Hid (u.size ≤ 1000000 ∧ f3 ≤ 10000000 ∧ WkAt B bw pv f3 vw7 within w7 ∧ Fr (FD bw vw6) w6 w7 ∧ Moved vw6 vw7 w6) := ⟨hu7, hf7, hk7, hfr7, hmv7⟩; clear hu7 hf7 hk7 hfr7 hmv7))
              all_goals
                go_wp2
                go_ret
                obtain ⟨q1, q2, q3, q4⟩ := H6.out
                obtain ⟨p1, p2, p3, p4, p5⟩ := H7.out
                exact ⟨rfl, p1, p2, vw7, vl6, p3, q4.fd q3 p4, q1.nextR q2 (Fr.wide p4), q2.next q1.size p5⟩
end
end Go.Proofs.YtkelmhpoplbacaaGreatDoor.Ex
