/-
  What extend writes.
-/
import Derived.Test.YtbgnmchnfaknkaaDoorJ1
import Derived.BigRegion
namespace Go.Proofs.YtbgnmchnfaknkaaDoor
open Go.RowKit Go.Shelf

def extC (cs : Array Value) (o : Nat) (k : Int) (vs vc : Value) : Array Value :=
  if k = 2 then ((cs.setIfInBounds (o + 2) vs).setIfInBounds (o + 3) vc).setIfInBounds (o + 1) (.int .i64 2) else (cs.setIfInBounds (o + 2) vs).setIfInBounds (o + 3) vc
/-- Where a row lies behind an append. -/
def Near (w : World) (v v' : Value) : Prop := v'.ownBlock = v.ownBlock ∨ ∃ g, v'.ownBlock = some g ∧ w.heap.size ≤ g
structure ExtPost (base bt o : Nat) (cs : Array Value) (vs vc : Value) (S C : List ByteArray) (k : Int) (RS RC : List ByteArray) (w w' : World) (vs' vc' : Value) : Prop where
  blk : w'.heap[bt]? = some (.cells (extC cs o k vs' vc') 24 (0, 0))
  src : w'.ownsRow base 9 1 vs' (S.length + RS.length) ((S ++ RS).map Value.string)
  cmd : w'.ownsRow base 9 1 vc' (C.length + RC.length) ((C ++ RC).map Value.string)
  fr : Fr (fun j => j = bt ∨ vs.ownBlock = some j ∨ vc.ownBlock = some j) w w'
  nearS : Near w vs vs'
  nearC : Near w vc vc'
  apart : ∀ b, vs'.ownBlock = some b → vc'.ownBlock ≠ some b

/-- Behind the first append and its store. -/
structure E1 (base B bt o : Nat) (cs : Array Value) (vs vc : Value) (S C : List ByteArray) (RS RC : List ByteArray) (bx : Array Value) (v2 vr : Value) (w w' : World) : Prop where
  blk : w'.heap[bt]? = some (.cells (cs.setIfInBounds (o + 2) v2) 24 (0, 0))
  box : w'.heap[w.heap.size]? = some (.cells bx 24 (0, 0))
  src : w'.ownsRow base 9 1 v2 (S.length + RS.length) ((S ++ RS).map Value.string)
  cmd : w'.ownsRow base 9 1 vc C.length (C.map Value.string)
  wd : Words B w' vr RC
  fr : Fr (fun j => j = bt ∨ vs.ownBlock = some j ∨ vc.ownBlock = some j) w w'
  near : Near w vs v2
  apart : ∀ b, v2.ownBlock = some b → vc.ownBlock ≠ some b
  far : v2.ownBlock ≠ some w.heap.size ∧ vc.ownBlock ≠ some w.heap.size ∧ bt ≠ w.heap.size

theorem e1_of {base B bt o : Nat} {cs : Array Value} {vs vc : Value} {S C RS RC : List ByteArray} {bx : Array Value} {v2 vr : Value} {w w2 : World} {ob : Obj} (hob : ob = .cells bx 24 (0, 0)) (hblk : w.heap[bt]? = some (.cells cs 24 (0, 0)))
    (hcmd : w.ownsRow base 9 1 vc C.length (C.map Value.string)) (hS : w.ownsRow base 9 1 vs S.length (S.map Value.string)) (hwd : Words B w vr RC) (hap : ∀ b, vs.ownBlock = some b → vc.ownBlock ≠ some b) (hB : B ≤ base) (hbt : base ≤ bt) (hb : base ≤ w.heap.size)
    (hown : w2.ownsRow base 9 1 v2 (S.length + RS.length) ((S ++ RS).map Value.string)) (hgr : (w.alloc ob).grownBy w2 vs.ownBlock) (hat : v2.ownBlock = vs.ownBlock ∨ v2.ownBlock = some (w.alloc ob).heap.size) :
    w2.heap[bt]? = some (.cells cs 24 (0, 0)) ∧ E1 base B bt o cs vs vc S C RS RC bx v2 vr w (w2.setCell ⟨bt, o + 2, none⟩ v2) := by
  have hz : (w.alloc ob).heap.size = w.heap.size + 1 := by simp
  have hbl : bt < w.heap.size := (Array.getElem?_eq_some_iff.1 hblk).1
  have hsb : vs.ownBlock ≠ some bt := row_ne hS hblk (by decide)
  have hsx : vs.ownBlock ≠ some w.heap.size := fun e => by have := (row_has hS _ e).2; omega
  have hcx : vc.ownBlock ≠ some w.heap.size := fun e => by have := (row_has hcmd _ e).2; omega
  have hcb : vc.ownBlock ≠ some bt := row_ne hcmd hblk (by decide)
  have f0 : Fr (fun j => vs.ownBlock = some j) w w2 := (Fr.alloc w ob).trans (Fr.grown hgr fun g hg => hg)
  have hb2 : w2.heap[bt]? = some (.cells cs 24 (0, 0)) := (f0.block bt hbl hsb).trans hblk
  have hx2 : w2.heap[w.heap.size]? = some (.cells bx 24 (0, 0)) := by
    rw [hgr.block w.heap.size (by omega) (fun e => hsx e.symm), ← hob]; exact WD.alloc_at w ob
  have hvb : v2.ownBlock ≠ some bt := row_ne hown hb2 (by decide)
  have f1 : Fr (fun j => j = bt ∨ vs.ownBlock = some j) w (w2.setCell ⟨bt, o + 2, none⟩ v2) := (f0.mono fun j _ h => .inr h).trans (Fr.set bt (o + 2) w2 v2 (.inl rfl))
  refine ⟨hb2, ⟨heap_set hb2 v2, ?_, row_set hown hvb _, row_fr hcmd f1 ?_, ?_, f1.mono ?_, ?_, ?_, ?_, hcx, by omega⟩⟩
  · rw [Below.heap_setCell _ _ _ _ (by show w.heap.size ≠ bt; omega)]; exact hx2
  · rintro g hg (rfl | h)
    · exact hcb hg
    · exact hap g h hg
  · refine hwd.below ((f1.below hb ?_).mono hB)
    rintro j (rfl | h)
    · exact hbt
    · exact (row_has hS j h).1
  · rintro j _ (h | h)
    · exact .inl h
    · exact .inr (.inl h)
  · rcases hat with h | h
    · exact .inl h
    · exact .inr ⟨_, h, by omega⟩
  · intro b hb1 hb2
    rcases hat with h | h
    · exact hap b (h ▸ hb1) hb2
    · rw [hb1] at h; cases h
      have := (row_has hcmd _ hb2).2; omega
  · rcases hat with h | h
    · rw [h]; exact hsx
    · rw [h, hz]; intro e; simp at e
theorem grown_drew {w w' : World} {g : Option Nat} (h : w.drew.grownBy w' g) : w.grownBy w' g := ⟨h.os, h.tape, h.output, h.size, h.block⟩
/-- Behind the second one. -/
theorem e2_of {base B bt o : Nat} {cs : Array Value} {vs vc : Value} {S C RS RC : List ByteArray} {bx : Array Value} {v2 v3 vr : Value} {w W w3 : World} (h : E1 base B bt o cs vs vc S C RS RC bx v2 vr w W)
    (hown : w3.ownsRow base 9 1 v3 (C.length + RC.length) ((C ++ RC).map Value.string)) (hgr : W.grownBy w3 vc.ownBlock) (hat : v3.ownBlock = vc.ownBlock ∨ v3.ownBlock = some W.heap.size) :
    w3.heap[bt]? = some (.cells (cs.setIfInBounds (o + 2) v2) 24 (0, 0)) ∧ w3.heap[w.heap.size]? = some (.cells bx 24 (0, 0)) ∧ (∀ k : Int, k ≠ 2 → ExtPost base bt o cs vs vc S C k RS RC w (w3.setCell ⟨bt, o + 3, none⟩ v3) v2 v3) ∧ ExtPost base bt o cs vs vc S C 2 RS RC w ((w3.setCell ⟨bt, o + 3, none⟩ v3).setCell ⟨bt, o + 1, none⟩ (.int .i64 2)) v2 v3 := by
  have hbl : bt < W.heap.size := (Array.getElem?_eq_some_iff.1 h.blk).1
  have hcb : vc.ownBlock ≠ some bt := row_ne h.cmd h.blk (by decide)
  have f0 : Fr (fun j => vc.ownBlock = some j) W w3 := Fr.grown hgr fun g hg => hg
  have hb3 : w3.heap[bt]? = some (.cells (cs.setIfInBounds (o + 2) v2) 24 (0, 0)) := (f0.block bt hbl hcb).trans h.blk
  have hx3 : w3.heap[w.heap.size]? = some (.cells bx 24 (0, 0)) := (f0.block _ (Array.getElem?_eq_some_iff.1 h.box).1 h.far.2.1).trans h.box
  have hvb : v3.ownBlock ≠ some bt := row_ne hown hb3 (by decide)
  have hsrc : w3.ownsRow base 9 1 v2 (S.length + RS.length) ((S ++ RS).map Value.string) := row_fr h.src f0 fun g hg hv => h.apart g hg hv
  have hsb : v2.ownBlock ≠ some bt := row_ne hsrc hb3 (by decide)
  have f3 : Fr (fun j => j = bt ∨ vs.ownBlock = some j ∨ vc.ownBlock = some j) w w3 := by
    refine h.fr.trans (f0.mono fun j _ hj => .inr (.inr hj))
  have near : Near w vc v3 := by
    rcases hat with e | e
    · exact .inl e
    · exact .inr ⟨_, e, h.fr.size⟩
  have apart : ∀ b, v2.ownBlock = some b → v3.ownBlock ≠ some b := by
    intro b h1 h2
    rcases hat with e | e
    · exact h.apart b h1 (e ▸ h2)
    · rw [h2] at e; cases e
      have := (row_has h.src _ h1).2; omega
  have fs : Fr (fun j => j = bt ∨ vs.ownBlock = some j ∨ vc.ownBlock = some j) w (w3.setCell ⟨bt, o + 3, none⟩ v3) := f3.trans (Fr.set bt _ _ _ (.inl rfl))
  refine ⟨hb3, hx3, fun k hk => ⟨?_, row_set hsrc hsb _, row_set hown hvb _, fs, h.near, near, apart⟩, ⟨?_, row_set (row_set hsrc hsb _) hsb _, row_set (row_set hown hvb _) hvb _, fs.trans (Fr.set bt _ _ _ (.inl rfl)), h.near, near, apart⟩⟩
  · unfold extC; rw [if_neg hk]; exact heap_set hb3 _
  · unfold extC; rw [if_pos rfl]; exact heap_set (heap_set hb3 _) _

set_option maxRecDepth 20000 in
set_option maxHeartbeats 1000000 in
theorem extend_two (base B bt o : Nat) (cs : Array Value) (kd : Int) (vs vc : Value) (S C RS RC : List ByteArray) (ra : Int) (rt rs rc : Value) (w : World)
    (hblk : w.heap[bt]? = some (.cells cs 24 (0, 0))) (h1 : cs[o + 1]? = some (.int .i64 kd)) (h2 : cs[o + 2]? = some vs) (h3 : cs[o + 3]? = some vc)
    (hS : w.ownsRow base 9 1 vs S.length (S.map Value.string)) (hC : w.ownsRow base 9 1 vc C.length (C.map Value.string)) (hap : ∀ b, vs.ownBlock = some b → vc.ownBlock ≠ some b)
    (hrt : ∃ a n c, rt = .slice a n c) (hRS : Words B w rs RS) (hRC : Words B w rc RC) (hB : B ≤ base) (hbt : base ≤ bt) (hb : base ≤ w.heap.size) (hns : S.length + RS.length ≤ 1000000000000) (hnc : C.length + RC.length ≤ 1000000000000) :
    Calls Tryd.prog 49 #[.pointer (some ⟨bt, o, none⟩), .agg #[rt, .int .i64 2, rs, rc, .int .i64 ra]] w fun e w' => e = .returned (.tuple #[]) ∧ ∃ vs' vc', ExtPost base bt o cs vs vc S C 2 RS RC w w' vs' vc' := by
  obtain ⟨sa, sc, rfl⟩ := row_slice hS
  obtain ⟨ca, cc, rfl⟩ := row_slice hC
  obtain ⟨rta, rtn, rtc, rfl⟩ := hrt
  obtain ⟨rsa, rsc, rfl, _⟩ := hRS.slice
  obtain ⟨rca, rcc, rfl, _⟩ := hRC.slice
  obtain ⟨sn, hsn⟩ : ∃ n, n = S.length := ⟨_, rfl⟩
  obtain ⟨cn, hcn⟩ : ∃ n, n = C.length := ⟨_, rfl⟩
  obtain ⟨rsn, hrsn⟩ : ∃ n, n = RS.length := ⟨_, rfl⟩
  obtain ⟨rcn, hrcn⟩ : ∃ n, n = RC.length := ⟨_, rfl⟩
  have hlt : bt < w.heap.size := (Array.getElem?_eq_some_iff.1 hblk).1
  have HE : Hid (∀ (v2 : Value) (w2 : World), w2.ownsRow base 9 1 v2 (S.length + RS.length) ((S ++ RS).map Value.string) → (w.alloc (.cells #[.slice rta rtn rtc, .int .i64 2, .slice rsa rsn rsc, .slice rca rcn rcc, .int .i64 ra] 24)).grownBy w2 (Value.slice sa S.length sc).ownBlock → (v2.ownBlock = (Value.slice sa S.length sc).ownBlock ∨ v2.ownBlock = some (w.alloc (.cells #[.slice rta rtn rtc, .int .i64 2, .slice rsa rsn rsc, .slice rca rcn rcc, .int .i64 ra] 24)).heap.size) → w2.heap[bt]? = some (.cells cs 24 (0, 0)) ∧ E1 base B bt o cs (.slice sa S.length sc) (.slice ca C.length cc) S C RS RC #[.slice rta rtn rtc, .int .i64 2, .slice rsa rsn rsc, .slice rca rcn rcc, .int .i64 ra] v2 (.slice rca RC.length rcc) w (w2.setCell ⟨bt, o + 2, none⟩ v2)) :=
    fun v2 w2 g1 g2 g3 => e1_of rfl hblk hC hS hRC hap hB hbt hb g1 g2 g3
  have HE2 : Hid (∀ (v2 v3 : Value) (W w3 : World), E1 base B bt o cs (.slice sa S.length sc) (.slice ca C.length cc) S C RS RC #[.slice rta rtn rtc, .int .i64 2, .slice rsa rsn rsc, .slice rca rcn rcc, .int .i64 ra] v2 (.slice rca RC.length rcc) w W → w3.ownsRow base 9 1 v3 (C.length + RC.length) ((C ++ RC).map Value.string) → W.grownBy w3 (Value.slice ca C.length cc).ownBlock → (v3.ownBlock = (Value.slice ca C.length cc).ownBlock ∨ v3.ownBlock = some W.heap.size) → _) :=
    fun v2 v3 W w3 g0 g1 g2 g3 => e2_of g0 g1 g2 g3
  have hblk1 : (w.alloc (.cells #[.slice rta rtn rtc, .int .i64 2, .slice rsa rsn rsc, .slice rca rcn rcc, .int .i64 ra] 24)).heap[bt]? = some (.cells cs 24 (0, 0)) := by rw [Below.heap_alloc _ _ _ hlt]; exact hblk
  have c2 : (w.alloc (.cells #[.slice rta rtn rtc, .int .i64 2, .slice rsa rsn rsc, .slice rca rcn rcc, .int .i64 ra] 24)).cell? ⟨bt, o + 2, none⟩ = some (.slice sa sn sc) := by rw [hsn]; exact cell_in hblk1 (o + 2) h2
  have HS1 : Hid ((w.alloc (.cells #[.slice rta rtn rtc, .int .i64 2, .slice rsa rsn rsc, .slice rca rcn rcc, .int .i64 ra] 24)).ownsRow base 9 1 (.slice sa S.length sc) S.length (S.map Value.string)) := hS.alloc _
  have HW1 : Hid (Words B (w.alloc (.cells #[.slice rta rtn rtc, .int .i64 2, .slice rsa rsn rsc, .slice rca rcn rcc, .int .i64 ra] 24)) (.slice rsa RS.length rsc) RS) := hRS.below (((Below.refl _ _).alloc (Nat.le_refl _) _).mono (by omega))
  have HX : Hid (cs[o + 3]? = some (.slice ca C.length cc) ∧ sn = S.length ∧ cn = C.length ∧ rsn = RS.length ∧ rcn = RC.length ∧ S.length + RS.length ≤ 1000000000000 ∧ C.length + RC.length ≤ 1000000000000 ∧ base ≤ w.heap.size) := ⟨h3, hsn, hcn, hrsn, hrcn, hns, hnc, hb⟩
  have HZ2 : Hid (cs[o + 2]? = some (.slice sa S.length sc)) := h2
  have HZ1 : Hid (∀ x y : Value, ((cs.setIfInBounds (o + 2) x).setIfInBounds (o + 3) y)[o + 1]? = some (.int .i64 kd)) := fun x y => by
    rw [Array.getElem?_setIfInBounds_ne (by omega), Array.getElem?_setIfInBounds_ne (by omega)]; exact h1
  skip
  skip
  rw [← hrsn, ← hrcn]
  clear h1 h2 h3 hS hC hap hRS hRC hB hbt hb hsn hcn hrsn hrcn hblk hblk1 hns hnc
  go_enter Tryd.func49, Tryd.ntmps49
  go_wp2_with fail
  go_region_law (first | (refine step_app (by rfl) (.tmp 8) (.tmp 10) (by rfl) base B (.slice sa S.length sc) (.slice rsa RS.length rsc) S RS (by rw [← HX.out.2.1]; rfl) HS1.out (by rw [← HX.out.2.2.2.1]; rfl) HW1.out HX.out.2.2.2.2.2.1 (Nat.le_trans HX.out.2.2.2.2.2.2.2 (by simp)) ?_; intro a2 n2 w2 hown hgr hat; obtain ⟨y1, y2⟩ := HE.out _ w2 hown (grown_drew hgr) hat; have HY : Hid _ := y2; have k2 : w2.cell? ⟨bt, o + 2, none⟩ = some (.slice sa sn sc) := (by rw [HX.out.2.1]; exact cell_in y1 (o + 2) HZ2.out); have fz : w2.frozen? ⟨bt, o + 2, none⟩ = false := (by simp [World.frozen?, y1]); clear hown hgr hat y1 y2))
  all_goals
    go_wp2_with fail
    obtain ⟨W, hW⟩ : ∃ W, W = w2.setCell ⟨bt, o + 2, none⟩ (.slice a2 (S.length + RS.length) n2) := ⟨_, rfl⟩
    rw [← hW] at HY ⊢
    have x3 : W.cell? ⟨w.heap.size, 3, none⟩ = some (.slice rca rcn rcc) := cell_in HY.out.box 3 rfl
    have x1 : W.cell? ⟨w.heap.size, 1, none⟩ = some (.int .i64 2) := cell_in HY.out.box 1 rfl
    have k3 : W.cell? ⟨bt, o + 3, none⟩ = some (.slice ca cn cc) := by
      rw [HX.out.2.2.1]; refine cell_in HY.out.blk (o + 3) ?_
      rw [Array.getElem?_setIfInBounds_ne (by omega)]; exact HX.out.1
    clear hW k2 fz HE
    go_region_law (first | (refine step_app (by rfl) (.tmp 18) (.tmp 20) (by rfl) base B (.slice ca C.length cc) (.slice rca RC.length rcc) C RC (by rw [← HX.out.2.2.1]; rfl) HY.out.cmd (by rw [← HX.out.2.2.2.2.1]; rfl) HY.out.wd HX.out.2.2.2.2.2.2.1 (Nat.le_trans HX.out.2.2.2.2.2.2.2 HY.out.fr.size) ?_; intro a3 n3 w3 hown hgr hat; obtain ⟨y1, y2, y3, y4⟩ := HE2.out _ _ W w3 HY.out hown (grown_drew hgr) hat; have HQ : Hid _ := y4; have m3 : w3.cell? ⟨bt, o + 3, none⟩ = some (.slice ca cn cc) := (by rw [HX.out.2.2.1]; refine cell_in y1 (o + 3) ?_; rw [Array.getElem?_setIfInBounds_ne (by omega)]; exact HX.out.1); have fz : w3.frozen? ⟨bt, o + 3, none⟩ = false := (by simp [World.frozen?, y1]); have m1 := (cell_in (heap_set (i := o + 3) y1 (.slice a3 (C.length + RC.length) n3)) (o + 1) (HZ1.out _ _)); have fz1 : (w3.setCell ⟨bt, o + 3, none⟩ (.slice a3 (C.length + RC.length) n3)).frozen? ⟨bt, o + 1, none⟩ = false := (by simp [World.frozen?, heap_set y1]); have mx : (w3.setCell ⟨bt, o + 3, none⟩ (.slice a3 (C.length + RC.length) n3)).cell? ⟨w.heap.size, 1, none⟩ = some (.int .i64 2) := (cell_in ((Below.heap_setCell _ _ _ _ (Ne.symm HY.out.far.2.2)).trans y2) 1 rfl); clear hown hgr hat y1 y2 y3 y4))
    all_goals
      go_wp2
      go_end0
      exact ⟨rfl, _, _, HQ.out⟩
set_option maxRecDepth 20000 in
set_option maxHeartbeats 1000000 in
theorem extend_other (base B bt o : Nat) (cs : Array Value) (kd : Int) (vs vc : Value) (S C RS RC : List ByteArray) (kr : Int) (ra : Int) (rt rs rc : Value) (w : World)
    (hblk : w.heap[bt]? = some (.cells cs 24 (0, 0))) (h1 : cs[o + 1]? = some (.int .i64 kd)) (h2 : cs[o + 2]? = some vs) (h3 : cs[o + 3]? = some vc)
    (hS : w.ownsRow base 9 1 vs S.length (S.map Value.string)) (hC : w.ownsRow base 9 1 vc C.length (C.map Value.string)) (hap : ∀ b, vs.ownBlock = some b → vc.ownBlock ≠ some b)
    (hrt : ∃ a n c, rt = .slice a n c) (hRS : Words B w rs RS) (hRC : Words B w rc RC) (hB : B ≤ base) (hbt : base ≤ bt) (hb : base ≤ w.heap.size) (hns : S.length + RS.length ≤ 1000000000000) (hnc : C.length + RC.length ≤ 1000000000000) (hk : kr ≠ 2) :
    Calls Tryd.prog 49 #[.pointer (some ⟨bt, o, none⟩), .agg #[rt, .int .i64 kr, rs, rc, .int .i64 ra]] w fun e w' => e = .returned (.tuple #[]) ∧ ∃ vs' vc', ExtPost base bt o cs vs vc S C kr RS RC w w' vs' vc' := by
  obtain ⟨sa, sc, rfl⟩ := row_slice hS
  obtain ⟨ca, cc, rfl⟩ := row_slice hC
  obtain ⟨rta, rtn, rtc, rfl⟩ := hrt
  obtain ⟨rsa, rsc, rfl, _⟩ := hRS.slice
  obtain ⟨rca, rcc, rfl, _⟩ := hRC.slice
  obtain ⟨sn, hsn⟩ : ∃ n, n = S.length := ⟨_, rfl⟩
  obtain ⟨cn, hcn⟩ : ∃ n, n = C.length := ⟨_, rfl⟩
  obtain ⟨rsn, hrsn⟩ : ∃ n, n = RS.length := ⟨_, rfl⟩
  obtain ⟨rcn, hrcn⟩ : ∃ n, n = RC.length := ⟨_, rfl⟩
  have hlt : bt < w.heap.size := (Array.getElem?_eq_some_iff.1 hblk).1
  have HE : Hid (∀ (v2 : Value) (w2 : World), w2.ownsRow base 9 1 v2 (S.length + RS.length) ((S ++ RS).map Value.string) → (w.alloc (.cells #[.slice rta rtn rtc, .int .i64 kr, .slice rsa rsn rsc, .slice rca rcn rcc, .int .i64 ra] 24)).grownBy w2 (Value.slice sa S.length sc).ownBlock → (v2.ownBlock = (Value.slice sa S.length sc).ownBlock ∨ v2.ownBlock = some (w.alloc (.cells #[.slice rta rtn rtc, .int .i64 kr, .slice rsa rsn rsc, .slice rca rcn rcc, .int .i64 ra] 24)).heap.size) → w2.heap[bt]? = some (.cells cs 24 (0, 0)) ∧ E1 base B bt o cs (.slice sa S.length sc) (.slice ca C.length cc) S C RS RC #[.slice rta rtn rtc, .int .i64 kr, .slice rsa rsn rsc, .slice rca rcn rcc, .int .i64 ra] v2 (.slice rca RC.length rcc) w (w2.setCell ⟨bt, o + 2, none⟩ v2)) :=
    fun v2 w2 g1 g2 g3 => e1_of rfl hblk hC hS hRC hap hB hbt hb g1 g2 g3
  have HE2 : Hid (∀ (v2 v3 : Value) (W w3 : World), E1 base B bt o cs (.slice sa S.length sc) (.slice ca C.length cc) S C RS RC #[.slice rta rtn rtc, .int .i64 kr, .slice rsa rsn rsc, .slice rca rcn rcc, .int .i64 ra] v2 (.slice rca RC.length rcc) w W → w3.ownsRow base 9 1 v3 (C.length + RC.length) ((C ++ RC).map Value.string) → W.grownBy w3 (Value.slice ca C.length cc).ownBlock → (v3.ownBlock = (Value.slice ca C.length cc).ownBlock ∨ v3.ownBlock = some W.heap.size) → _) :=
    fun v2 v3 W w3 g0 g1 g2 g3 => e2_of g0 g1 g2 g3
  have hblk1 : (w.alloc (.cells #[.slice rta rtn rtc, .int .i64 kr, .slice rsa rsn rsc, .slice rca rcn rcc, .int .i64 ra] 24)).heap[bt]? = some (.cells cs 24 (0, 0)) := by rw [Below.heap_alloc _ _ _ hlt]; exact hblk
  have c2 : (w.alloc (.cells #[.slice rta rtn rtc, .int .i64 kr, .slice rsa rsn rsc, .slice rca rcn rcc, .int .i64 ra] 24)).cell? ⟨bt, o + 2, none⟩ = some (.slice sa sn sc) := by rw [hsn]; exact cell_in hblk1 (o + 2) h2
  have HS1 : Hid ((w.alloc (.cells #[.slice rta rtn rtc, .int .i64 kr, .slice rsa rsn rsc, .slice rca rcn rcc, .int .i64 ra] 24)).ownsRow base 9 1 (.slice sa S.length sc) S.length (S.map Value.string)) := hS.alloc _
  have HW1 : Hid (Words B (w.alloc (.cells #[.slice rta rtn rtc, .int .i64 kr, .slice rsa rsn rsc, .slice rca rcn rcc, .int .i64 ra] 24)) (.slice rsa RS.length rsc) RS) := hRS.below (((Below.refl _ _).alloc (Nat.le_refl _) _).mono (by omega))
  have HX : Hid (cs[o + 3]? = some (.slice ca C.length cc) ∧ sn = S.length ∧ cn = C.length ∧ rsn = RS.length ∧ rcn = RC.length ∧ S.length + RS.length ≤ 1000000000000 ∧ C.length + RC.length ≤ 1000000000000 ∧ base ≤ w.heap.size) := ⟨h3, hsn, hcn, hrsn, hrcn, hns, hnc, hb⟩
  have HZ2 : Hid (cs[o + 2]? = some (.slice sa S.length sc)) := h2
  have HZ1 : Hid (∀ x y : Value, ((cs.setIfInBounds (o + 2) x).setIfInBounds (o + 3) y)[o + 1]? = some (.int .i64 kd)) := fun x y => by
    rw [Array.getElem?_setIfInBounds_ne (by omega), Array.getElem?_setIfInBounds_ne (by omega)]; exact h1
  have HK : Hid (kr ≠ 2) := hk
  have hkb : (kr == 2) = false := by simpa using hk
  rw [← hrsn, ← hrcn]
  clear h1 h2 h3 hS hC hap hRS hRC hB hbt hb hsn hcn hrsn hrcn hblk hblk1 hns hnc
  go_enter Tryd.func49, Tryd.ntmps49
  go_wp2_with fail
  go_region_law (first | (refine step_app (by rfl) (.tmp 8) (.tmp 10) (by rfl) base B (.slice sa S.length sc) (.slice rsa RS.length rsc) S RS (by rw [← HX.out.2.1]; rfl) HS1.out (by rw [← HX.out.2.2.2.1]; rfl) HW1.out HX.out.2.2.2.2.2.1 (Nat.le_trans HX.out.2.2.2.2.2.2.2 (by simp)) ?_; intro a2 n2 w2 hown hgr hat; obtain ⟨y1, y2⟩ := HE.out _ w2 hown (grown_drew hgr) hat; have HY : Hid _ := y2; have k2 : w2.cell? ⟨bt, o + 2, none⟩ = some (.slice sa sn sc) := (by rw [HX.out.2.1]; exact cell_in y1 (o + 2) HZ2.out); have fz : w2.frozen? ⟨bt, o + 2, none⟩ = false := (by simp [World.frozen?, y1]); clear hown hgr hat y1 y2))
  all_goals
    go_wp2_with fail
    obtain ⟨W, hW⟩ : ∃ W, W = w2.setCell ⟨bt, o + 2, none⟩ (.slice a2 (S.length + RS.length) n2) := ⟨_, rfl⟩
    rw [← hW] at HY ⊢
    have x3 : W.cell? ⟨w.heap.size, 3, none⟩ = some (.slice rca rcn rcc) := cell_in HY.out.box 3 rfl
    have x1 : W.cell? ⟨w.heap.size, 1, none⟩ = some (.int .i64 kr) := cell_in HY.out.box 1 rfl
    have k3 : W.cell? ⟨bt, o + 3, none⟩ = some (.slice ca cn cc) := by
      rw [HX.out.2.2.1]; refine cell_in HY.out.blk (o + 3) ?_
      rw [Array.getElem?_setIfInBounds_ne (by omega)]; exact HX.out.1
    clear hW k2 fz HE
    go_region_law (first | (refine step_app (by rfl) (.tmp 18) (.tmp 20) (by rfl) base B (.slice ca C.length cc) (.slice rca RC.length rcc) C RC (by rw [← HX.out.2.2.1]; rfl) HY.out.cmd (by rw [← HX.out.2.2.2.2.1]; rfl) HY.out.wd HX.out.2.2.2.2.2.2.1 (Nat.le_trans HX.out.2.2.2.2.2.2.2 HY.out.fr.size) ?_; intro a3 n3 w3 hown hgr hat; obtain ⟨y1, y2, y3, y4⟩ := HE2.out _ _ W w3 HY.out hown (grown_drew hgr) hat; have HQ : Hid _ := y3 kr HK.out; have m3 : w3.cell? ⟨bt, o + 3, none⟩ = some (.slice ca cn cc) := (by rw [HX.out.2.2.1]; refine cell_in y1 (o + 3) ?_; rw [Array.getElem?_setIfInBounds_ne (by omega)]; exact HX.out.1); have fz : w3.frozen? ⟨bt, o + 3, none⟩ = false := (by simp [World.frozen?, y1]); have m1 := (cell_in (heap_set (i := o + 3) y1 (.slice a3 (C.length + RC.length) n3)) (o + 1) (HZ1.out _ _)); have fz1 : (w3.setCell ⟨bt, o + 3, none⟩ (.slice a3 (C.length + RC.length) n3)).frozen? ⟨bt, o + 1, none⟩ = false := (by simp [World.frozen?, heap_set y1]); have mx : (w3.setCell ⟨bt, o + 3, none⟩ (.slice a3 (C.length + RC.length) n3)).cell? ⟨w.heap.size, 1, none⟩ = some (.int .i64 kr) := (cell_in ((Below.heap_setCell _ _ _ _ (Ne.symm HY.out.far.2.2)).trans y2) 1 rfl); clear hown hgr hat y1 y2 y3 y4))
    all_goals
      go_wp2
      go_end0
      exact ⟨rfl, _, _, HQ.out⟩
end Go.Proofs.YtbgnmchnfaknkaaDoor
