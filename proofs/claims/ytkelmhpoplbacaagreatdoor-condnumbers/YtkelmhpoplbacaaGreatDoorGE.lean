/-
  What is asked of a condition: until, holds, mean, finds, stands, compares.
-/
import Derived.Test.YtkelmhpoplbacaaGreatDoorGD
import Derived.Test.YtkelmhpoplbacaaGreatDoorGN
namespace Go.Proofs.YtkelmhpoplbacaaGreatDoor.Cd
open Go.RowKit Go.Shelf Ex

/-- A world of conditions, as a value. -/
structure Wo where
  pv : Value
  ps : Value
  g : Value
  t : Value
  c : Value
  f : Int
abbrev Wo.val (x : Wo) : Value := .agg #[x.pv, x.ps, x.g, x.t, x.c, .int .i64 x.f]
def HoPost (b : Bool) (y n : Int) (W : World) (e : Ending) (w' : World) : Prop := e = .returned (.tuple #[.bool b, fV y n]) ∧ Below W.heap.size W w'
/-- What is asked of a part, in each world above a base. -/
def HC (B : Nat) (w0 : World) (x : Wo) (v : Value) (b : Bool) (y n : Int) : Prop := ∀ W, Below B w0 W → B ≤ W.heap.size → Calls Tryz.prog 16 #[x.val, v] W (HoPost b y n W)
/-- What is asked of parts, up to the first one that answers so. -/
inductive Unt (B : Nat) (w0 : World) (x : Wo) (so : Bool) : List Value → Bool → Int → Int → Prop
  | nil : Unt B w0 x so [] (!so) 0 0
  | stop {v : Value} {r : List Value} : HC B w0 x v so 0 0 → Unt B w0 x so (v :: r) so 0 0
  | err {v : Value} {r : List Value} {b : Bool} {y n : Int} : HC B w0 x v b y n → y ≠ 0 → Unt B w0 x so (v :: r) b y n
  | go {v : Value} {r : List Value} {b : Bool} {y n : Int} : HC B w0 x v (!so) 0 0 → Unt B w0 x so r b y n → Unt B w0 x so (v :: r) b y n
theorem fin_low {B : Nat} {w0 W : World} (h : Below B w0 W) {g i : Nat} (hg : B ≤ g) (x : Value) : Below B w0 (W.setCell ⟨g, i, none⟩ x) := h.setCell hg _
set_option maxRecDepth 20000 in
set_option maxHeartbeats 4000000 in
theorem until_all {B : Nat} {w0 : World} (x : Wo) (so : Bool) (v : Value) (vs : List Value) (hl : vs.length ≤ 1000000) (b : Bool) (y n : Int) (hU : Unt B w0 x so vs b y n) (hP : PRow w0 (fun g => g < B) v vs) (W : World) (hW : Below B w0 W) (hB : B ≤ W.heap.size) :
    Calls Tryz.prog 35 #[x.val, .bool so, v] W (HoPost b y n W) := by
  obtain ⟨sa, sc, hv, hrow⟩ := hP
  obtain ⟨N, hN⟩ : ∃ N, N = vs.length := ⟨_, rfl⟩
  rw [← hN] at hv hl
  subst hv
  have HR : Hid (N = vs.length ∧ ∀ (i : Nat) (z : Value), vs[i]? = some z → ∃ g o, sa = some ⟨g, o, none⟩ ∧ ∀ W', Below B w0 W' → W'.cell? ⟨g, o + i, none⟩ = some z) := ⟨hN, fun i z hz => by
    obtain ⟨g, o, cs, h1, h2, h3, h4⟩ := hrow i z hz
    exact ⟨g, o, h1, fun W' hW' => by rw [hW'.cell (p := ⟨g, o + i, none⟩) h2]; simp [World.cell?, h3, h4]⟩⟩
  obtain ⟨W1, hW1⟩ : ∃ W1, W1 = (W.alloc (.cells #[x.pv, x.ps, x.g, x.t, x.c, .int .i64 x.f] 26)).alloc (.cells #[.int .i64 0, .int .i64 0] 43) := ⟨_, rfl⟩
  have hb1 : Below W.heap.size W W1 := by rw [hW1]; exact ((Below.refl _ _).alloc (Nat.le_refl _) _).alloc (by simp) _
  have hx1 : W1.heap[W.heap.size]? = some (.cells #[x.pv, x.ps, x.g, x.t, x.c, .int .i64 x.f] 26 (0, 0)) := by rw [hW1]; exact (Below.heap_alloc _ _ _ (by simp)).trans (heap_alloc_new _ _)
  have hy1 : W1.heap[W.heap.size + 1]? = some (.cells #[.int .i64 0, .int .i64 0] 43 (0, 0)) := by rw [hW1]; exact heap_alloc_new'
  have H1 : Hid (Below W.heap.size W W1 ∧ W1.heap[W.heap.size]? = some (.cells #[x.pv, x.ps, x.g, x.t, x.c, .int .i64 x.f] 26 (0, 0)) ∧ W1.heap[W.heap.size + 1]? = some (.cells #[.int .i64 0, .int .i64 0] 43 (0, 0))) := ⟨hb1, hx1, hy1⟩
  have HB : Hid (∀ W', Below W.heap.size W W' → Below B w0 W' ∧ B ≤ W'.heap.size) := fun W' h => ⟨hW.trans (h.mono hB), Nat.le_trans hB h.size⟩
  have HU : Hid (Unt B w0 x so vs b y n) := hU
  clear hU hrow hN hb1 hx1 hy1 hW
  go_enter Tryz.func35, Tryz.ntmps35
  go_wp2_with fail
  rw [← hW1]
  clear hW1
  go_loopw [14] (fun vi wr => ∃ i : Nat, vi = .int .i64 (i : Int) ∧ i ≤ N ∧ Hid (Below W.heap.size W wr ∧ wr.heap[W.heap.size]? = some (.cells #[x.pv, x.ps, x.g, x.t, x.c, .int .i64 x.f] 26 (0, 0)) ∧ wr.heap[W.heap.size + 1]? = some (.cells #[.int .i64 0, .int .i64 0] 43 (0, 0)) ∧ Unt B w0 x so (vs.drop i) b y n)) (fun vi _ => N - (intOf vi).toNat)
  case atStart => exact ⟨0, rfl, Nat.zero_le _, H1.out.1, H1.out.2.1, H1.out.2.2, HU.out⟩
  case round =>
    obtain ⟨i, rfl, hi, HF⟩ := hrel
    clear H1 HU
    have x0 := cellb HF.out.2.1 0 rfl
    have x1 := cellb HF.out.2.1 1 rfl
    have x2 := cellb HF.out.2.1 2 rfl
    have x3 := cellb HF.out.2.1 3 rfl
    have x4 := cellb HF.out.2.1 4 rfl
    have x5 := cellb HF.out.2.1 5 rfl
    by_cases hlt : i < N
    · have hli : (i : Int) < (N : Int) := by omega
      have hiv : i < vs.length := by rw [← HR.out.1]; exact hlt
      obtain ⟨g, o, hsa, hcell⟩ := HR.out.2 i vs[i] (List.getElem?_eq_getElem hiv)
      have hc := hcell wr (HB.out _ HF.out.1).1
      have hU := HF.out.2.2.2
      rw [List.drop_eq_getElem_cons hiv] at hU
      obtain ⟨v, hv⟩ : ∃ v, v = vs[i] := ⟨_, rfl⟩
      rw [← hv] at hc hU
      subst hsa
      clear hv hcell
      have hbe : ∀ (p q : Bool) (w : World), Sem.run Tryz.prog (binOp .eql 4 (.bool p) (.bool q)) w = .ok (.bool (p == q)) w := fun _ _ _ => rfl
      have hss : (so == so) = true := by cases so <;> rfl
      have hsn : ((!so) == so) = false := by cases so <;> rfl
      cases hU with
      | stop h1 =>
          have HH : Hid (∀ W, Below B w0 W → B ≤ W.heap.size → Calls Tryz.prog 16 #[x.val, v] W (HoPost so 0 0 W)) := h1
          clear h1
          go_wp2_with fail
          refine (HH.out wr (HB.out _ HF.out.1).1 (HB.out _ HF.out.1).2).mono ?_
          rintro e w1 ⟨rfl, hb1⟩
          obtain ⟨W2, g2, hW2, hg2, hb2, hx2, hy2, hz2⟩ : ∃ W2 g2, W2 = w1.alloc (.cells #[.int .i64 0, .int .i64 0] 43) ∧ g2 = w1.heap.size ∧ Below W.heap.size W W2 ∧ W2.heap[W.heap.size]? = some (.cells #[x.pv, x.ps, x.g, x.t, x.c, .int .i64 x.f] 26 (0, 0)) ∧ W2.heap[W.heap.size + 1]? = some (.cells #[.int .i64 0, .int .i64 0] 43 (0, 0)) ∧ W2.heap[g2]? = some (.cells #[.int .i64 0, .int .i64 0] 43 (0, 0)) := by
            have h1 := HF.out.1.trans (hb1.mono HF.out.1.size)
            have h2 := (hb1.block _ (Array.getElem?_eq_some_iff.1 HF.out.2.1).1).trans HF.out.2.1
            have h3 := (hb1.block _ (Array.getElem?_eq_some_iff.1 HF.out.2.2.1).1).trans HF.out.2.2.1
            exact ⟨_, _, rfl, rfl, h1.alloc h1.size _, (Below.heap_alloc _ _ _ (Array.getElem?_eq_some_iff.1 h2).1).trans h2, (Below.heap_alloc _ _ _ (Array.getElem?_eq_some_iff.1 h3).1).trans h3, heap_alloc_new _ _⟩
          have H2 : Hid (Below W.heap.size W W2 ∧ W2.heap[W.heap.size]? = some (.cells #[x.pv, x.ps, x.g, x.t, x.c, .int .i64 x.f] 26 (0, 0)) ∧ W2.heap[W.heap.size + 1]? = some (.cells #[.int .i64 0, .int .i64 0] 43 (0, 0))) := ⟨hb2, hx2, hy2⟩
          go_upto_region 5 with fail
          rw [← hW2, ← hg2]
          clear hW2 hg2 hb1 hb2 hx2 x0 x1 x2 x3 x4 x5 hc
          have q0 := cellb hz2 0 rfl
          have q1 := cellb hz2 1 rfl
          have g0 := cellb hy2 0 rfl
          have g1 := cellb hy2 1 rfl
          have gf : ∀ i, W2.frozen? ⟨W.heap.size + 1, i, none⟩ = false := fun i => by simp [World.frozen?, H2.out.2.2]
          clear hy2 hz2
          go_wp2_with fail
          go_region_with (fail)
          all_goals
            go_wp2
            refine bodyPost_ret (v := .tuple #[.bool so, fV 0 0]) (by simp [results, Tryz.results35, go_sem, g0, g1]; try rfl) rfl ?_
            first | exact ⟨rfl, (fin_low (fin_low H2.out.1 (by omega) _) (by omega) _).drew⟩ | exact ⟨rfl, fin_low (fin_low H2.out.1.drew (by omega) _) (by omega) _⟩
      | err h1 h2 =>
          have HH : Hid (∀ W, Below B w0 W → B ≤ W.heap.size → Calls Tryz.prog 16 #[x.val, v] W (HoPost b y n W)) := h1
          have hyb : (y == 0) = false := by simpa using h2
          clear h1
          go_wp2_with fail
          refine (HH.out wr (HB.out _ HF.out.1).1 (HB.out _ HF.out.1).2).mono ?_
          rintro e w1 ⟨rfl, hb1⟩
          obtain ⟨W2, g2, hW2, hg2, hb2, hx2, hy2, hz2⟩ : ∃ W2 g2, W2 = w1.alloc (.cells #[.int .i64 y, .int .i64 n] 43) ∧ g2 = w1.heap.size ∧ Below W.heap.size W W2 ∧ W2.heap[W.heap.size]? = some (.cells #[x.pv, x.ps, x.g, x.t, x.c, .int .i64 x.f] 26 (0, 0)) ∧ W2.heap[W.heap.size + 1]? = some (.cells #[.int .i64 0, .int .i64 0] 43 (0, 0)) ∧ W2.heap[g2]? = some (.cells #[.int .i64 y, .int .i64 n] 43 (0, 0)) := by
            have h1 := HF.out.1.trans (hb1.mono HF.out.1.size)
            have h2 := (hb1.block _ (Array.getElem?_eq_some_iff.1 HF.out.2.1).1).trans HF.out.2.1
            have h3 := (hb1.block _ (Array.getElem?_eq_some_iff.1 HF.out.2.2.1).1).trans HF.out.2.2.1
            exact ⟨_, _, rfl, rfl, h1.alloc h1.size _, (Below.heap_alloc _ _ _ (Array.getElem?_eq_some_iff.1 h2).1).trans h2, (Below.heap_alloc _ _ _ (Array.getElem?_eq_some_iff.1 h3).1).trans h3, heap_alloc_new _ _⟩
          have H2 : Hid (Below W.heap.size W W2 ∧ W2.heap[W.heap.size]? = some (.cells #[x.pv, x.ps, x.g, x.t, x.c, .int .i64 x.f] 26 (0, 0)) ∧ W2.heap[W.heap.size + 1]? = some (.cells #[.int .i64 0, .int .i64 0] 43 (0, 0))) := ⟨hb2, hx2, hy2⟩
          go_upto_region 5 with fail
          rw [← hW2, ← hg2]
          clear hW2 hg2 hb1 hb2 hx2 x0 x1 x2 x3 x4 x5 hc
          have q0 := cellb hz2 0 rfl
          have q1 := cellb hz2 1 rfl
          have g0 := cellb hy2 0 rfl
          have g1 := cellb hy2 1 rfl
          have gf : ∀ i, W2.frozen? ⟨W.heap.size + 1, i, none⟩ = false := fun i => by simp [World.frozen?, H2.out.2.2]
          clear hy2 hz2
          go_wp2_with fail
          go_region_with (fail)
          all_goals
            go_wp2
            refine bodyPost_ret (v := .tuple #[.bool b, fV y n]) (by simp [results, Tryz.results35, go_sem, g0, g1]; try rfl) rfl ?_
            first | exact ⟨rfl, (fin_low (fin_low H2.out.1 (by omega) _) (by omega) _).drew⟩ | exact ⟨rfl, fin_low (fin_low H2.out.1.drew (by omega) _) (by omega) _⟩
      | go h1 h2 =>
          obtain ⟨ns, hns⟩ : ∃ ns, ns = !so := ⟨_, rfl⟩
          have HH : Hid (∀ W, Below B w0 W → B ≤ W.heap.size → Calls Tryz.prog 16 #[x.val, v] W (HoPost ns 0 0 W)) := by rw [hns]; exact h1
          have HN : Hid (Unt B w0 x so (vs.drop (i + 1)) b y n) := h2
          rw [← hns] at hsn
          clear h1 h2 hns hss
          go_wp2_with fail
          refine (HH.out wr (HB.out _ HF.out.1).1 (HB.out _ HF.out.1).2).mono ?_
          rintro e w1 ⟨rfl, hb1⟩
          obtain ⟨W2, g2, hW2, hg2, hb2, hx2, hy2, hz2⟩ : ∃ W2 g2, W2 = w1.alloc (.cells #[.int .i64 0, .int .i64 0] 43) ∧ g2 = w1.heap.size ∧ Below W.heap.size W W2 ∧ W2.heap[W.heap.size]? = some (.cells #[x.pv, x.ps, x.g, x.t, x.c, .int .i64 x.f] 26 (0, 0)) ∧ W2.heap[W.heap.size + 1]? = some (.cells #[.int .i64 0, .int .i64 0] 43 (0, 0)) ∧ W2.heap[g2]? = some (.cells #[.int .i64 0, .int .i64 0] 43 (0, 0)) := by
            have h1 := HF.out.1.trans (hb1.mono HF.out.1.size)
            have h2 := (hb1.block _ (Array.getElem?_eq_some_iff.1 HF.out.2.1).1).trans HF.out.2.1
            have h3 := (hb1.block _ (Array.getElem?_eq_some_iff.1 HF.out.2.2.1).1).trans HF.out.2.2.1
            exact ⟨_, _, rfl, rfl, h1.alloc h1.size _, (Below.heap_alloc _ _ _ (Array.getElem?_eq_some_iff.1 h2).1).trans h2, (Below.heap_alloc _ _ _ (Array.getElem?_eq_some_iff.1 h3).1).trans h3, heap_alloc_new _ _⟩
          have H2 : Hid (Below W.heap.size W W2 ∧ W2.heap[W.heap.size]? = some (.cells #[x.pv, x.ps, x.g, x.t, x.c, .int .i64 x.f] 26 (0, 0)) ∧ W2.heap[W.heap.size + 1]? = some (.cells #[.int .i64 0, .int .i64 0] 43 (0, 0))) := ⟨hb2, hx2, hy2⟩
          go_upto_region 5 with fail
          rw [← hW2, ← hg2]
          clear hW2 hg2 hb1 hb2 hx2 x0 x1 x2 x3 x4 x5 hc
          have q0 := cellb hz2 0 rfl
          have q1 := cellb hz2 1 rfl
          have g0 := cellb hy2 0 rfl
          have g1 := cellb hy2 1 rfl
          have gf : ∀ i, W2.frozen? ⟨W.heap.size + 1, i, none⟩ = false := fun i => by simp [World.frozen?, H2.out.2.2]
          clear hy2 hz2
          go_wp2_with fail
          go_roundw
          case rel => exact ⟨i + 1, by go_num, by omega, H2.out.1, H2.out.2.1, H2.out.2.2, HN.out⟩
          case measure => simp [intOf]; omega
    · have hli : ¬ (i : Int) < (N : Int) := by omega
      have hU := HF.out.2.2.2
      rw [List.drop_of_length_le (by rw [← HR.out.1]; omega)] at hU
      have g0 := cellb HF.out.2.2.1 0 rfl
      have g1 := cellb HF.out.2.2.1 1 rfl
      have gf : ∀ i, wr.frozen? ⟨W.heap.size + 1, i, none⟩ = false := fun i => by simp [World.frozen?, HF.out.2.2.1]
      cases hU with
      | nil =>
        go_wp2
        refine bodyPost_ret (v := .tuple #[.bool (!so), fV 0 0]) (by simp [results, Tryz.results35, go_sem, g0, g1]; try rfl) rfl ?_
        exact ⟨rfl, fin_low (fin_low HF.out.1 (by omega) _) (by omega) _⟩
end Go.Proofs.YtkelmhpoplbacaaGreatDoor.Cd
namespace Go.Proofs.YtkelmhpoplbacaaGreatDoor.Cd
open Go.RowKit Go.Shelf Ex

theorem ta_some_some (v : Value) (W : World) : (Instr.typeAssert (.iface 112 v) 66 112 true).run Tryz.prog W = .ok (.tuple #[v, .bool true]) W := by kernel_rfl
theorem ta_all_some (v : Value) (W : World) : (Instr.typeAssert (.iface 114 v) 66 112 true).run Tryz.prog W = .ok (.tuple #[.agg #[.int .i64 0, .slice none 0 0], .bool false]) W := by kernel_rfl
theorem ta_all_all (v : Value) (W : World) : (Instr.typeAssert (.iface 114 v) 66 114 true).run Tryz.prog W = .ok (.tuple #[v, .bool true]) W := by kernel_rfl
theorem ta_lookup_some (v : Value) (W : World) : (Instr.typeAssert (.iface 118 v) 66 112 true).run Tryz.prog W = .ok (.tuple #[.agg #[.int .i64 0, .slice none 0 0], .bool false]) W := by kernel_rfl
theorem ta_lookup_all (v : Value) (W : World) : (Instr.typeAssert (.iface 118 v) 66 114 true).run Tryz.prog W = .ok (.tuple #[.agg #[.int .i64 0, .slice none 0 0], .bool false]) W := by kernel_rfl
theorem ta_lookup_not (v : Value) (W : World) : (Instr.typeAssert (.iface 118 v) 66 116 true).run Tryz.prog W = .ok (.tuple #[.agg #[.int .i64 0, .nilIface], .bool false]) W := by kernel_rfl
theorem ta_lookup_lookup (v : Value) (W : World) : (Instr.typeAssert (.iface 118 v) 66 118 true).run Tryz.prog W = .ok (.tuple #[v, .bool true]) W := by kernel_rfl
theorem ta_comparison_some (v : Value) (W : World) : (Instr.typeAssert (.iface 127 v) 66 112 true).run Tryz.prog W = .ok (.tuple #[.agg #[.int .i64 0, .slice none 0 0], .bool false]) W := by kernel_rfl
theorem ta_comparison_all (v : Value) (W : World) : (Instr.typeAssert (.iface 127 v) 66 114 true).run Tryz.prog W = .ok (.tuple #[.agg #[.int .i64 0, .slice none 0 0], .bool false]) W := by kernel_rfl
theorem ta_comparison_not (v : Value) (W : World) : (Instr.typeAssert (.iface 127 v) 66 116 true).run Tryz.prog W = .ok (.tuple #[.agg #[.int .i64 0, .nilIface], .bool false]) W := by kernel_rfl
theorem ta_comparison_lookup (v : Value) (W : World) : (Instr.typeAssert (.iface 127 v) 66 118 true).run Tryz.prog W = .ok (.tuple #[.agg #[.int .i64 0, .string ⟨#[]⟩, .string ⟨#[]⟩], .bool false]) W := by kernel_rfl
theorem ta_comparison_truth (v : Value) (W : World) : (Instr.typeAssert (.iface 127 v) 66 124 true).run Tryz.prog W = .ok (.tuple #[.agg #[.int .i64 0, .string ⟨#[]⟩, .bool false], .bool false]) W := by kernel_rfl
theorem ta_comparison_comparison (v : Value) (W : World) : (Instr.typeAssert (.iface 127 v) 66 127 true).run Tryz.prog W = .ok (.tuple #[v, .bool true]) W := by kernel_rfl
theorem box_W1 (x : Wo) (W : World) : ∃ W1, W1 = (W.alloc (.cells #[x.pv, x.ps, x.g, x.t, x.c, .int .i64 x.f] 26)).alloc (.cells #[.int .i64 0, .int .i64 0] 43) ∧ Below W.heap.size W W1 ∧ W1.heap[W.heap.size]? = some (.cells #[x.pv, x.ps, x.g, x.t, x.c, .int .i64 x.f] 26 (0, 0)) ∧ W1.heap[W.heap.size + 1]? = some (.cells #[.int .i64 0, .int .i64 0] 43 (0, 0)) ∧ W1.heap.size = W.heap.size + 2 :=
  ⟨_, rfl, ((Below.refl _ _).alloc (Nat.le_refl _) _).alloc (by simp) _, (Below.heap_alloc _ _ _ (by simp)).trans (heap_alloc_new _ _), heap_alloc_new', by simp⟩
set_option maxRecDepth 20000 in
set_option maxHeartbeats 2000000 in
theorem hc_some {B : Nat} {w0 : World} (x : Wo) (k : Int) (v : Value) (vs : List Value) (hl : vs.length ≤ 1000000) (b : Bool) (y n : Int) (hU : Unt B w0 x true vs b y n) (hP : PRow w0 (fun g => g < B) v vs) : HC B w0 x (.iface 112 (.agg #[.int .i64 k, v])) b y n := by
  intro W hW hB
  have HU : Hid (∀ W', Below B w0 W' → B ≤ W'.heap.size → Calls Tryz.prog 35 #[x.val, .bool true, v] W' (HoPost b y n W')) := fun W' h1 h2 => until_all x true v vs hl b y n hU hP W' h1 h2
  obtain ⟨sa, sc, hv⟩ : ∃ sa sc, v = .slice sa vs.length sc := ⟨hP.choose, hP.choose_spec.choose, hP.choose_spec.choose_spec.1⟩
  obtain ⟨N, hN⟩ : ∃ N, N = vs.length := ⟨_, rfl⟩
  rw [← hN] at hv
  subst hv
  have ta0 := ta_some_some
  obtain ⟨W1, hW1, hb1, hx1, hy1, hz1⟩ := box_W1 x W
  obtain ⟨W2, hW2, hb2, hx2, hy2, hz2⟩ : ∃ W2, W2 = W1.alloc (.cells #[.int .i64 k, .slice sa N sc] 112) ∧ Below W.heap.size W W2 ∧ W2.heap[W.heap.size]? = some (.cells #[x.pv, x.ps, x.g, x.t, x.c, .int .i64 x.f] 26 (0, 0)) ∧ W2.heap[W.heap.size + 1]? = some (.cells #[.int .i64 0, .int .i64 0] 43 (0, 0)) ∧ W2.heap[W.heap.size + 2]? = some (.cells #[.int .i64 k, .slice sa N sc] 112 (0, 0)) :=
    ⟨_, rfl, hb1.alloc hb1.size _, (Below.heap_alloc _ _ _ (by omega)).trans hx1, (Below.heap_alloc _ _ _ (by omega)).trans hy1, by rw [← hz1]; exact heap_alloc_new _ _⟩
  have H2 : Hid (Below W.heap.size W W2 ∧ W2.heap[W.heap.size + 1]? = some (.cells #[.int .i64 0, .int .i64 0] 43 (0, 0))) := ⟨hb2, hy2⟩
  have HB : Hid (Below B w0 W2 ∧ B ≤ W2.heap.size) := ⟨hW.trans (hb2.mono hB), Nat.le_trans hB hb2.size⟩
  have x0 := cellb hx2 0 rfl
  have x1 := cellb hx2 1 rfl
  have x2 := cellb hx2 2 rfl
  have x3 := cellb hx2 3 rfl
  have x4 := cellb hx2 4 rfl
  have x5 := cellb hx2 5 rfl
  have q0 := cellb hz2 0 rfl
  have q1 := cellb hz2 1 rfl
  clear hU hP hN hW hb1 hx1 hy1 hb2 hx2 hy2 hz2
  go_enter Tryz.func16, Tryz.ntmps16
  go_upto_region 1 with fail
  rw [← hW1]
  clear hW1
  go_upto_region 6 with fail
  rw [← hW2]
  clear hW2 hz1
  go_wp2_with fail
  refine (HU.out _ HB.out.1 HB.out.2).mono ?_
  rintro e w3 ⟨rfl, hb3⟩
  have hy3 := (hb3.block _ (Array.getElem?_eq_some_iff.1 H2.out.2).1).trans H2.out.2
  have H3 : Hid (Below W.heap.size W w3) := H2.out.1.trans (hb3.mono H2.out.1.size)
  have g0 := cellb hy3 0 rfl
  have g1 := cellb hy3 1 rfl
  have gf : ∀ i, w3.frozen? ⟨W.heap.size + 1, i, none⟩ = false := fun i => by simp [World.frozen?, hy3]
  clear hb3 hy3 x0 x1 x2 x3 x4 x5 q0 q1
  go_wp2
  refine bodyPost_ret (v := .tuple #[.bool b, fV y n]) (by simp [results, Tryz.results16, go_sem, g0, g1]; try rfl) rfl ?_
  exact ⟨rfl, fin_low (fin_low H3.out (by omega) _) (by omega) _⟩
set_option maxRecDepth 20000 in
set_option maxHeartbeats 2000000 in
theorem hc_all {B : Nat} {w0 : World} (x : Wo) (k : Int) (v : Value) (vs : List Value) (hl : vs.length ≤ 1000000) (b : Bool) (y n : Int) (hU : Unt B w0 x false vs b y n) (hP : PRow w0 (fun g => g < B) v vs) : HC B w0 x (.iface 114 (.agg #[.int .i64 k, v])) b y n := by
  intro W hW hB
  have HU : Hid (∀ W', Below B w0 W' → B ≤ W'.heap.size → Calls Tryz.prog 35 #[x.val, .bool false, v] W' (HoPost b y n W')) := fun W' h1 h2 => until_all x false v vs hl b y n hU hP W' h1 h2
  obtain ⟨sa, sc, hv⟩ : ∃ sa sc, v = .slice sa vs.length sc := ⟨hP.choose, hP.choose_spec.choose, hP.choose_spec.choose_spec.1⟩
  obtain ⟨N, hN⟩ : ∃ N, N = vs.length := ⟨_, rfl⟩
  rw [← hN] at hv
  subst hv
  have ta0 := ta_all_some
  have ta1 := ta_all_all
  obtain ⟨W1, hW1, hb1, hx1, hy1, hz1⟩ := box_W1 x W
  obtain ⟨W2, hW2, hb2, hx2, hy2, hz2⟩ : ∃ W2, W2 = W1.alloc (.cells #[.int .i64 k, .slice sa N sc] 114) ∧ Below W.heap.size W W2 ∧ W2.heap[W.heap.size]? = some (.cells #[x.pv, x.ps, x.g, x.t, x.c, .int .i64 x.f] 26 (0, 0)) ∧ W2.heap[W.heap.size + 1]? = some (.cells #[.int .i64 0, .int .i64 0] 43 (0, 0)) ∧ W2.heap[W.heap.size + 2]? = some (.cells #[.int .i64 k, .slice sa N sc] 114 (0, 0)) :=
    ⟨_, rfl, hb1.alloc hb1.size _, (Below.heap_alloc _ _ _ (by omega)).trans hx1, (Below.heap_alloc _ _ _ (by omega)).trans hy1, by rw [← hz1]; exact heap_alloc_new _ _⟩
  have H2 : Hid (Below W.heap.size W W2 ∧ W2.heap[W.heap.size + 1]? = some (.cells #[.int .i64 0, .int .i64 0] 43 (0, 0))) := ⟨hb2, hy2⟩
  have HB : Hid (Below B w0 W2 ∧ B ≤ W2.heap.size) := ⟨hW.trans (hb2.mono hB), Nat.le_trans hB hb2.size⟩
  have x0 := cellb hx2 0 rfl
  have x1 := cellb hx2 1 rfl
  have x2 := cellb hx2 2 rfl
  have x3 := cellb hx2 3 rfl
  have x4 := cellb hx2 4 rfl
  have x5 := cellb hx2 5 rfl
  have q0 := cellb hz2 0 rfl
  have q1 := cellb hz2 1 rfl
  clear hU hP hN hW hb1 hx1 hy1 hb2 hx2 hy2 hz2
  go_enter Tryz.func16, Tryz.ntmps16
  go_upto_region 1 with fail
  rw [← hW1]
  clear hW1
  go_upto_region 9 with fail
  rw [← hW2]
  clear hW2 hz1
  go_wp2_with fail
  refine (HU.out _ HB.out.1 HB.out.2).mono ?_
  rintro e w3 ⟨rfl, hb3⟩
  have hy3 := (hb3.block _ (Array.getElem?_eq_some_iff.1 H2.out.2).1).trans H2.out.2
  have H3 : Hid (Below W.heap.size W w3) := H2.out.1.trans (hb3.mono H2.out.1.size)
  have g0 := cellb hy3 0 rfl
  have g1 := cellb hy3 1 rfl
  have gf : ∀ i, w3.frozen? ⟨W.heap.size + 1, i, none⟩ = false := fun i => by simp [World.frozen?, hy3]
  clear hb3 hy3 x0 x1 x2 x3 x4 x5 q0 q1
  go_wp2
  refine bodyPost_ret (v := .tuple #[.bool b, fV y n]) (by simp [results, Tryz.results16, go_sem, g0, g1]; try rfl) rfl ?_
  exact ⟨rfl, fin_low (fin_low H3.out (by omega) _) (by omega) _⟩
set_option maxRecDepth 20000 in
set_option maxHeartbeats 2000000 in
theorem hc_lookup {B : Nat} {w0 : World} (x : Wo) (k : Int) (wd tx : ByteArray) (b : Bool) (hF : ∀ W, Below B w0 W → B ≤ W.heap.size → Calls Tryz.prog 36 #[x.val, .string wd, .string tx] W fun e w' => e = .returned (.tuple #[.bool b, .int .i64 0]) ∧ Below W.heap.size W w') : HC B w0 x (.iface 118 (.agg #[.int .i64 k, .string wd, .string tx])) b 0 0 := by
  intro W hW hB
  have HU : Hid (∀ W, Below B w0 W → B ≤ W.heap.size → Calls Tryz.prog 36 #[x.val, .string wd, .string tx] W fun e w' => e = .returned (.tuple #[.bool b, .int .i64 0]) ∧ Below W.heap.size W w') := hF
  have ta0 := ta_lookup_some
  have ta1 := ta_lookup_all
  have ta2 := ta_lookup_not
  have ta3 := ta_lookup_lookup
  obtain ⟨W1, hW1, hb1, hx1, hy1, hz1⟩ := box_W1 x W
  obtain ⟨W2, hW2, hb2, hx2, hy2, hz2⟩ : ∃ W2, W2 = W1.alloc (.cells #[.int .i64 k, .string wd, .string tx] 118) ∧ Below W.heap.size W W2 ∧ W2.heap[W.heap.size]? = some (.cells #[x.pv, x.ps, x.g, x.t, x.c, .int .i64 x.f] 26 (0, 0)) ∧ W2.heap[W.heap.size + 1]? = some (.cells #[.int .i64 0, .int .i64 0] 43 (0, 0)) ∧ W2.heap[W.heap.size + 2]? = some (.cells #[.int .i64 k, .string wd, .string tx] 118 (0, 0)) :=
    ⟨_, rfl, hb1.alloc hb1.size _, (Below.heap_alloc _ _ _ (by omega)).trans hx1, (Below.heap_alloc _ _ _ (by omega)).trans hy1, by rw [← hz1]; exact heap_alloc_new _ _⟩
  have H2 : Hid (Below W.heap.size W W2 ∧ W2.heap[W.heap.size + 1]? = some (.cells #[.int .i64 0, .int .i64 0] 43 (0, 0))) := ⟨hb2, hy2⟩
  have HB : Hid (Below B w0 W2 ∧ B ≤ W2.heap.size) := ⟨hW.trans (hb2.mono hB), Nat.le_trans hB hb2.size⟩
  have x0 := cellb hx2 0 rfl
  have x1 := cellb hx2 1 rfl
  have x2 := cellb hx2 2 rfl
  have x3 := cellb hx2 3 rfl
  have x4 := cellb hx2 4 rfl
  have x5 := cellb hx2 5 rfl
  have q0 := cellb hz2 0 rfl
  have q1 := cellb hz2 1 rfl
  have q2 := cellb hz2 2 rfl
  clear hF hW hb1 hx1 hy1 hb2 hx2 hy2 hz2
  go_enter Tryz.func16, Tryz.ntmps16
  go_upto_region 1 with fail
  rw [← hW1]
  clear hW1
  go_upto_region 16 with fail
  rw [← hW2]
  clear hW2 hz1
  go_wp2_with fail
  refine (HU.out _ HB.out.1 HB.out.2).mono ?_
  rintro e w3 ⟨rfl, hb3⟩
  have hy3 := (hb3.block _ (Array.getElem?_eq_some_iff.1 H2.out.2).1).trans H2.out.2
  have H3 : Hid (Below W.heap.size W w3) := H2.out.1.trans (hb3.mono H2.out.1.size)
  have g0 := cellb hy3 0 rfl
  have g1 := cellb hy3 1 rfl
  have gf : ∀ i, w3.frozen? ⟨W.heap.size + 1, i, none⟩ = false := fun i => by simp [World.frozen?, hy3]
  clear hb3 hy3 x0 x1 x2 x3 x4 x5 q0 q1 q2
  go_wp2
  refine bodyPost_ret (v := .tuple #[.bool b, fV 0 0]) (by simp [results, Tryz.results16, go_sem, g0, g1]; try rfl) rfl ?_
  exact ⟨rfl, fin_low (fin_low H3.out (by omega) _) (by omega) _⟩
set_option maxRecDepth 20000 in
set_option maxHeartbeats 2000000 in
theorem hc_comparison {B : Nat} {w0 : World} (x : Wo) (k : Int) (sg lt rt : ByteArray) (lq rq : Bool) (b : Bool) (hF : ∀ W, Below B w0 W → B ≤ W.heap.size → Calls Tryz.prog 38 #[x.val, .agg #[.int .i64 k, .string sg, .string lt, .bool lq, .string rt, .bool rq]] W fun e w' => e = .returned (.tuple #[.bool b, .int .i64 0]) ∧ Below W.heap.size W w') : HC B w0 x (.iface 127 (.agg #[.int .i64 k, .string sg, .string lt, .bool lq, .string rt, .bool rq])) b 0 0 := by
  intro W hW hB
  have HU : Hid (∀ W, Below B w0 W → B ≤ W.heap.size → Calls Tryz.prog 38 #[x.val, .agg #[.int .i64 k, .string sg, .string lt, .bool lq, .string rt, .bool rq]] W fun e w' => e = .returned (.tuple #[.bool b, .int .i64 0]) ∧ Below W.heap.size W w') := hF
  have ta0 := ta_comparison_some
  have ta1 := ta_comparison_all
  have ta2 := ta_comparison_not
  have ta3 := ta_comparison_lookup
  have ta4 := ta_comparison_truth
  have ta5 := ta_comparison_comparison
  obtain ⟨W1, hW1, hb1, hx1, hy1, hz1⟩ := box_W1 x W
  obtain ⟨W2, hW2, hb2, hx2, hy2, hz2⟩ : ∃ W2, W2 = W1.alloc (.cells #[.int .i64 k, .string sg, .string lt, .bool lq, .string rt, .bool rq] 127) ∧ Below W.heap.size W W2 ∧ W2.heap[W.heap.size]? = some (.cells #[x.pv, x.ps, x.g, x.t, x.c, .int .i64 x.f] 26 (0, 0)) ∧ W2.heap[W.heap.size + 1]? = some (.cells #[.int .i64 0, .int .i64 0] 43 (0, 0)) ∧ W2.heap[W.heap.size + 2]? = some (.cells #[.int .i64 k, .string sg, .string lt, .bool lq, .string rt, .bool rq] 127 (0, 0)) :=
    ⟨_, rfl, hb1.alloc hb1.size _, (Below.heap_alloc _ _ _ (by omega)).trans hx1, (Below.heap_alloc _ _ _ (by omega)).trans hy1, by rw [← hz1]; exact heap_alloc_new _ _⟩
  have H2 : Hid (Below W.heap.size W W2 ∧ W2.heap[W.heap.size + 1]? = some (.cells #[.int .i64 0, .int .i64 0] 43 (0, 0))) := ⟨hb2, hy2⟩
  have HB : Hid (Below B w0 W2 ∧ B ≤ W2.heap.size) := ⟨hW.trans (hb2.mono hB), Nat.le_trans hB hb2.size⟩
  have x0 := cellb hx2 0 rfl
  have x1 := cellb hx2 1 rfl
  have x2 := cellb hx2 2 rfl
  have x3 := cellb hx2 3 rfl
  have x4 := cellb hx2 4 rfl
  have x5 := cellb hx2 5 rfl
  have q0 := cellb hz2 0 rfl
  have q1 := cellb hz2 1 rfl
  have q2 := cellb hz2 2 rfl
  have q3 := cellb hz2 3 rfl
  have q4 := cellb hz2 4 rfl
  have q5 := cellb hz2 5 rfl
  clear hF hW hb1 hx1 hy1 hb2 hx2 hy2 hz2
  go_enter Tryz.func16, Tryz.ntmps16
  go_upto_region 1 with fail
  rw [← hW1]
  clear hW1
  go_upto_region 22 with fail
  rw [← hW2]
  clear hW2 hz1
  go_wp2_with fail
  refine (HU.out _ HB.out.1 HB.out.2).mono ?_
  rintro e w3 ⟨rfl, hb3⟩
  have hy3 := (hb3.block _ (Array.getElem?_eq_some_iff.1 H2.out.2).1).trans H2.out.2
  have H3 : Hid (Below W.heap.size W w3) := H2.out.1.trans (hb3.mono H2.out.1.size)
  have g0 := cellb hy3 0 rfl
  have g1 := cellb hy3 1 rfl
  have gf : ∀ i, w3.frozen? ⟨W.heap.size + 1, i, none⟩ = false := fun i => by simp [World.frozen?, hy3]
  clear hb3 hy3 x0 x1 x2 x3 x4 x5 q0 q1 q2 q3 q4 q5
  go_wp2
  refine bodyPost_ret (v := .tuple #[.bool b, fV 0 0]) (by simp [results, Tryz.results16, go_sem, g0, g1]; try rfl) rfl ?_
  exact ⟨rfl, fin_low (fin_low H3.out (by omega) _) (by omega) _⟩
end Go.Proofs.YtkelmhpoplbacaaGreatDoor.Cd
namespace Go.Proofs.YtkelmhpoplbacaaGreatDoor.Cd
open Go.RowKit Go.Shelf Ex

/-- What a text means, in each world above a base. -/
def MeC (B : Nat) (w0 : World) (x : Wo) (s t : ByteArray) : Prop := ∀ W, Below B w0 W → B ≤ W.heap.size → Calls Tryz.prog 83 #[.string s, x.pv, .int .i64 x.f] W fun e w' => (∃ left, e = .returned (.tuple #[.string t, .int .i64 left, .int .i64 0])) ∧ Below W.heap.size W w'
set_option maxHeartbeats 1000000 in
theorem mean_any {B : Nat} {w0 : World} (x : Wo) (s t : ByteArray) (h : MeC B w0 x s t) (W : World) (hW : Below B w0 W) (hB : B ≤ W.heap.size) :
    Calls Tryz.prog 56 #[x.val, .string s] W fun e w' => e = .returned (.tuple #[.string t, .int .i64 0]) ∧ Below W.heap.size W w' := by
  obtain ⟨W1, hW1, hb1, hx1⟩ : ∃ W1, W1 = W.alloc (.cells #[x.pv, x.ps, x.g, x.t, x.c, .int .i64 x.f] 26) ∧ Below W.heap.size W W1 ∧ W1.heap[W.heap.size]? = some (.cells #[x.pv, x.ps, x.g, x.t, x.c, .int .i64 x.f] 26 (0, 0)) := ⟨_, rfl, (Below.refl _ _).alloc (Nat.le_refl _) _, heap_alloc_new _ _⟩
  have HT : Hid (Calls Tryz.prog 83 #[.string s, x.pv, .int .i64 x.f] W1 fun e w' => (∃ left, e = .returned (.tuple #[.string t, .int .i64 left, .int .i64 0])) ∧ Below W1.heap.size W1 w') := h W1 (hW.trans (hb1.mono hB)) (Nat.le_trans hB hb1.size)
  have H1 : Hid (Below W.heap.size W W1) := hb1
  have x0 := cellb hx1 0 rfl
  have x5 := cellb hx1 5 rfl
  clear h hW hb1 hx1
  go_enter Tryz.func56, Tryz.ntmps56
  go_upto_region 1 with fail
  rw [← hW1]
  clear hW1
  go_wp2_with fail
  refine HT.out.mono ?_
  rintro e w2 ⟨⟨left, rfl⟩, hb2⟩
  have H2 : Hid (Below W.heap.size W w2) := H1.out.trans (hb2.mono H1.out.size)
  clear hb2 x0 x5
  go_wp2
  go_ret2
  exact ⟨rfl, H2.out⟩
set_option maxHeartbeats 1000000 in
theorem finds_def {B : Nat} {w0 : World} (x : Wo) (s t u : ByteArray) (fo : Bool) (h : MeC B w0 x s t) (hG : ∀ W, Below B w0 W → B ≤ W.heap.size → Calls Tryz.prog 57 #[x.pv, .string t] W fun e w' => e = .returned (.tuple #[.string u, .bool fo]) ∧ Below W.heap.size W w') (W : World) (hW : Below B w0 W) (hB : B ≤ W.heap.size) :
    Calls Tryz.prog 36 #[x.val, .string ⟨#[100, 101, 102, 105, 110, 101, 100]⟩, .string s] W fun e w' => e = .returned (.tuple #[.bool fo, .int .i64 0]) ∧ Below W.heap.size W w' := by
  obtain ⟨W1, hW1, hb1, hx1⟩ : ∃ W1, W1 = W.alloc (.cells #[x.pv, x.ps, x.g, x.t, x.c, .int .i64 x.f] 26) ∧ Below W.heap.size W W1 ∧ W1.heap[W.heap.size]? = some (.cells #[x.pv, x.ps, x.g, x.t, x.c, .int .i64 x.f] 26 (0, 0)) := ⟨_, rfl, (Below.refl _ _).alloc (Nat.le_refl _) _, heap_alloc_new _ _⟩
  have HT : Hid (Calls Tryz.prog 56 #[x.val, .string s] W1 fun e w' => e = .returned (.tuple #[.string t, .int .i64 0]) ∧ Below W1.heap.size W1 w') := mean_any x s t h W1 (hW.trans (hb1.mono hB)) (Nat.le_trans hB hb1.size)
  have HG : Hid (∀ W', Below W.heap.size W W' → Calls Tryz.prog 57 #[x.pv, .string t] W' fun e w' => e = .returned (.tuple #[.string u, .bool fo]) ∧ Below W'.heap.size W' w') := fun W' h' => hG W' (hW.trans (h'.mono hB)) (Nat.le_trans hB h'.size)
  have H1 : Hid (Below W.heap.size W W1 ∧ W1.heap[W.heap.size]? = some (.cells #[x.pv, x.ps, x.g, x.t, x.c, .int .i64 x.f] 26 (0, 0))) := ⟨hb1, hx1⟩
  have x0 := cellb hx1 0 rfl
  have x1 := cellb hx1 1 rfl
  have x2 := cellb hx1 2 rfl
  have x3 := cellb hx1 3 rfl
  have x4 := cellb hx1 4 rfl
  have x5 := cellb hx1 5 rfl
  clear h hG hW hb1 hx1
  go_enter Tryz.func36, Tryz.ntmps36
  go_upto_region 1 with fail
  rw [← hW1]
  clear hW1
  go_wp2_with fail
  refine HT.out.mono ?_
  rintro e w2 ⟨rfl, hb2⟩
  have hx2 := (hb2.block _ (Array.getElem?_eq_some_iff.1 H1.out.2).1).trans H1.out.2
  have H2 : Hid (Below W.heap.size W w2) := H1.out.1.trans (hb2.mono H1.out.1.size)
  clear hb2 x0 x1 x2 x3 x4 x5
  have x0 := cellb hx2 0 rfl
  clear hx2
  go_wp2_with fail
  refine (HG.out _ H2.out).mono ?_
  rintro e w3 ⟨rfl, hb3⟩
  have H3 : Hid (Below W.heap.size W w3) := H2.out.trans (hb3.mono H2.out.size)
  clear hb3 x0
  go_wp2
  go_ret2
  exact ⟨rfl, H3.out⟩
/-- How two numbers stand, by the sign between. -/
def sgnF (sg : ByteArray) (o : Int) : Bool :=
  if sg = gEq then decide (o = 0) else if sg = gNe then !decide (o = 0) else if sg = gLt then decide (o < 0) else if sg = gLe then decide (o ≤ 0) else if sg = gGt then decide (0 < o) else decide (0 ≤ o)
theorem stands_any (sg : ByteArray) (hsg : sg = gLt ∨ sg = gLe ∨ sg = gGt ∨ sg = gGe) (o : Int) (w : World) :
    Calls Tryz.prog 64 #[.int .i64 o, .string sg] w fun e w' => e = .returned (.bool (sgnF sg o)) ∧ w = w' := by
  have e1 : sgnF gLt o = decide (o < 0) := rfl
  have e2 : sgnF gLe o = decide (o ≤ 0) := rfl
  have e3 : sgnF gGt o = decide (0 < o) := rfl
  have e4 : sgnF gGe o = decide (0 ≤ o) := rfl
  rcases hsg with rfl | rfl | rfl | rfl
  · rw [e1]; unfold gLt; clear e1 e2 e3 e4
    go_enter Tryz.func64, Tryz.ntmps64
    go_wp2
    go_ret
    exact ⟨rfl, rfl⟩
  · rw [e2]; unfold gLe; clear e1 e2 e3 e4
    go_enter Tryz.func64, Tryz.ntmps64
    go_wp2
    go_ret
    exact ⟨rfl, rfl⟩
  · rw [e3]; unfold gGt; clear e1 e2 e3 e4
    go_enter Tryz.func64, Tryz.ntmps64
    go_wp2
    go_ret
    exact ⟨rfl, rfl⟩
  · rw [e4]; unfold gGe; clear e1 e2 e3 e4
    go_enter Tryz.func64, Tryz.ntmps64
    go_wp2
    go_ret
    exact ⟨rfl, rfl⟩
end Go.Proofs.YtkelmhpoplbacaaGreatDoor.Cd
namespace Go.Proofs.YtkelmhpoplbacaaGreatDoor.Cd
open Go.RowKit Go.Shelf Ex

set_option maxRecDepth 20000 in
set_option maxHeartbeats 2000000 in
theorem cmp_gEq {B : Nat} {w0 : World} (x : Wo) (k : Int) (ls rs L R : ByteArray) (a b : Int) (hL : MeC B w0 x ls L) (hR : MeC B w0 x rs R) (hLz : L.size ≤ 1000000) (hRz : R.size ≤ 1000000) (pL : N.parseG (bl L) = (a, 0)) (pR : N.parseG (bl R) = (b, 0)) (ad : Addr) (hE : ∀ W, Below B w0 W → N.Er ad W) (W : World) (hW : Below B w0 W) (hB : B ≤ W.heap.size) :
    Calls Tryz.prog 38 #[x.val, .agg #[.int .i64 k, .string ⟨#[61, 61]⟩, .string ls, .bool false, .string rs, .bool false]] W fun e w' => e = .returned (.tuple #[.bool (sgnF gEq (Lib.compareInt a b)), .int .i64 0]) ∧ Below W.heap.size W w' := by
  obtain ⟨W1, hW1, hb1, hx1, hy1⟩ : ∃ W1, W1 = (W.alloc (.cells #[x.pv, x.ps, x.g, x.t, x.c, .int .i64 x.f] 26)).alloc (.cells #[.int .i64 k, .string ⟨#[61, 61]⟩, .string ls, .bool false, .string rs, .bool false] 127) ∧ Below W.heap.size W W1 ∧ W1.heap[W.heap.size]? = some (.cells #[x.pv, x.ps, x.g, x.t, x.c, .int .i64 x.f] 26 (0, 0)) ∧ W1.heap[W.heap.size + 1]? = some (.cells #[.int .i64 k, .string ⟨#[61, 61]⟩, .string ls, .bool false, .string rs, .bool false] 127 (0, 0)) :=
    ⟨_, rfl, ((Below.refl _ _).alloc (Nat.le_refl _) _).alloc (by simp) _, (Below.heap_alloc _ _ _ (by simp)).trans (heap_alloc_new _ _), heap_alloc_new'⟩
  have HM : Hid (∀ (s t : ByteArray), MeC B w0 x s t → ∀ W', Below W.heap.size W W' → Calls Tryz.prog 56 #[x.val, .string s] W' fun e w' => e = .returned (.tuple #[.string t, .int .i64 0]) ∧ Below W'.heap.size W' w') := fun s t h W' hb => mean_any x s t h W' (hW.trans (hb.mono hB)) (Nat.le_trans hB hb.size)
  have HML : Hid (∀ W', Below W.heap.size W W' → Calls Tryz.prog 56 #[x.val, .string ls] W' fun e w' => e = .returned (.tuple #[.string L, .int .i64 0]) ∧ Below W'.heap.size W' w') := HM.out ls L hL
  have HMR : Hid (∀ W', Below W.heap.size W W' → Calls Tryz.prog 56 #[x.val, .string rs] W' fun e w' => e = .returned (.tuple #[.string R, .int .i64 0]) ∧ Below W'.heap.size W' w') := HM.out rs R hR
  have HC : Hid (∀ W', Below W.heap.size W W' → Calls Tryz.prog 63 #[.string L, .string R] W' fun e w' => e = .returned (.tuple #[.int .i64 (Lib.compareInt a b), .int .i64 0]) ∧ Below W'.heap.size W' w') := fun W' hb => by
    have := N.compare_any L R ad W' (hE W' (hW.trans (hb.mono hB))) (by omega) (by omega)
    have hc : N.cmpG (N.bl L) (N.bl R) = (Lib.compareInt a b, 0) := by
      have e1 : N.parseG (N.bl L) = (a, 0) := pL
      have e2 : N.parseG (N.bl R) = (b, 0) := pR
      unfold N.cmpG; rw [e1, e2]; rfl
    rw [hc] at this
    exact this
  obtain ⟨o, ho⟩ : ∃ o, o = Lib.compareInt a b := ⟨_, rfl⟩
  rw [← ho] at HC ⊢
  have he : sgnF gEq o = decide (o = 0) := rfl
  have hbe : ∀ (p q : Bool) (w : World), Sem.run Tryz.prog (binOp .eql 4 (.bool p) (.bool q)) w = .ok (.bool (p == q)) w := fun _ _ _ => rfl
  have H1 : Hid (Below W.heap.size W W1 ∧ W1.heap[W.heap.size]? = some (.cells #[x.pv, x.ps, x.g, x.t, x.c, .int .i64 x.f] 26 (0, 0)) ∧ W1.heap[W.heap.size + 1]? = some (.cells #[.int .i64 k, .string ⟨#[61, 61]⟩, .string ls, .bool false, .string rs, .bool false] 127 (0, 0))) := ⟨hb1, hx1, hy1⟩
  have x0 := cellb hx1 0 rfl
  have x1 := cellb hx1 1 rfl
  have x2 := cellb hx1 2 rfl
  have x3 := cellb hx1 3 rfl
  have x4 := cellb hx1 4 rfl
  have x5 := cellb hx1 5 rfl
  have y2 := cellb hy1 2 rfl
  clear hL hR hE hW hb1 hx1 hy1 HM pL pR ho
  go_enter Tryz.func38, Tryz.ntmps38
  go_upto_region 1 with fail
  rw [← hW1]
  clear hW1
  go_wp2_with fail
  refine (HML.out _ H1.out.1).mono ?_
  rintro e w2 ⟨rfl, hb2⟩
  have H2 : Hid (Below W.heap.size W w2 ∧ w2.heap[W.heap.size]? = some (.cells #[x.pv, x.ps, x.g, x.t, x.c, .int .i64 x.f] 26 (0, 0)) ∧ w2.heap[W.heap.size + 1]? = some (.cells #[.int .i64 k, .string ⟨#[61, 61]⟩, .string ls, .bool false, .string rs, .bool false] 127 (0, 0))) := ⟨H1.out.1.trans (hb2.mono H1.out.1.size), (hb2.block _ (Array.getElem?_eq_some_iff.1 H1.out.2.1).1).trans H1.out.2.1, (hb2.block _ (Array.getElem?_eq_some_iff.1 H1.out.2.2).1).trans H1.out.2.2⟩
  clear hb2 x0 x1 x2 x3 x4 x5 y2 H1
  have x0 := cellb H2.out.2.1 0 rfl
  have x1 := cellb H2.out.2.1 1 rfl
  have x2 := cellb H2.out.2.1 2 rfl
  have x3 := cellb H2.out.2.1 3 rfl
  have x4 := cellb H2.out.2.1 4 rfl
  have x5 := cellb H2.out.2.1 5 rfl
  have y4 := cellb H2.out.2.2 4 rfl
  go_wp2_with fail
  refine (HMR.out _ H2.out.1).mono ?_
  rintro e w3 ⟨rfl, hb3⟩
  have H3 : Hid (Below W.heap.size W w3 ∧ w3.heap[W.heap.size + 1]? = some (.cells #[.int .i64 k, .string ⟨#[61, 61]⟩, .string ls, .bool false, .string rs, .bool false] 127 (0, 0))) := ⟨H2.out.1.trans (hb3.mono H2.out.1.size), (hb3.block _ (Array.getElem?_eq_some_iff.1 H2.out.2.2).1).trans H2.out.2.2⟩
  clear hb3 x0 x1 x2 x3 x4 x5 y4 H2
  go_wp2_with fail
  refine (HC.out _ H3.out.1).mono ?_
  rintro e w4 ⟨rfl, hb4⟩
  have H4 : Hid (Below W.heap.size W w4 ∧ w4.heap[W.heap.size + 1]? = some (.cells #[.int .i64 k, .string ⟨#[61, 61]⟩, .string ls, .bool false, .string rs, .bool false] 127 (0, 0))) := ⟨H3.out.1.trans (hb4.mono H3.out.1.size), (hb4.block _ (Array.getElem?_eq_some_iff.1 H3.out.2).1).trans H3.out.2⟩
  clear hb4 H3
  have y1 := cellb H4.out.2 1 rfl
  have y3 := cellb H4.out.2 3 rfl
  have y5 := cellb H4.out.2 5 rfl
  go_wp2
  all_goals
    go_ret2
    refine ⟨?_, H4.out.1⟩
    rw [he]
    first | rfl | (simp [*]; done)
set_option maxRecDepth 20000 in
set_option maxHeartbeats 2000000 in
theorem cmp_gNe {B : Nat} {w0 : World} (x : Wo) (k : Int) (ls rs L R : ByteArray) (a b : Int) (hL : MeC B w0 x ls L) (hR : MeC B w0 x rs R) (hLz : L.size ≤ 1000000) (hRz : R.size ≤ 1000000) (pL : N.parseG (bl L) = (a, 0)) (pR : N.parseG (bl R) = (b, 0)) (ad : Addr) (hE : ∀ W, Below B w0 W → N.Er ad W) (W : World) (hW : Below B w0 W) (hB : B ≤ W.heap.size) :
    Calls Tryz.prog 38 #[x.val, .agg #[.int .i64 k, .string ⟨#[33, 61]⟩, .string ls, .bool false, .string rs, .bool false]] W fun e w' => e = .returned (.tuple #[.bool (sgnF gNe (Lib.compareInt a b)), .int .i64 0]) ∧ Below W.heap.size W w' := by
  obtain ⟨W1, hW1, hb1, hx1, hy1⟩ : ∃ W1, W1 = (W.alloc (.cells #[x.pv, x.ps, x.g, x.t, x.c, .int .i64 x.f] 26)).alloc (.cells #[.int .i64 k, .string ⟨#[33, 61]⟩, .string ls, .bool false, .string rs, .bool false] 127) ∧ Below W.heap.size W W1 ∧ W1.heap[W.heap.size]? = some (.cells #[x.pv, x.ps, x.g, x.t, x.c, .int .i64 x.f] 26 (0, 0)) ∧ W1.heap[W.heap.size + 1]? = some (.cells #[.int .i64 k, .string ⟨#[33, 61]⟩, .string ls, .bool false, .string rs, .bool false] 127 (0, 0)) :=
    ⟨_, rfl, ((Below.refl _ _).alloc (Nat.le_refl _) _).alloc (by simp) _, (Below.heap_alloc _ _ _ (by simp)).trans (heap_alloc_new _ _), heap_alloc_new'⟩
  have HM : Hid (∀ (s t : ByteArray), MeC B w0 x s t → ∀ W', Below W.heap.size W W' → Calls Tryz.prog 56 #[x.val, .string s] W' fun e w' => e = .returned (.tuple #[.string t, .int .i64 0]) ∧ Below W'.heap.size W' w') := fun s t h W' hb => mean_any x s t h W' (hW.trans (hb.mono hB)) (Nat.le_trans hB hb.size)
  have HML : Hid (∀ W', Below W.heap.size W W' → Calls Tryz.prog 56 #[x.val, .string ls] W' fun e w' => e = .returned (.tuple #[.string L, .int .i64 0]) ∧ Below W'.heap.size W' w') := HM.out ls L hL
  have HMR : Hid (∀ W', Below W.heap.size W W' → Calls Tryz.prog 56 #[x.val, .string rs] W' fun e w' => e = .returned (.tuple #[.string R, .int .i64 0]) ∧ Below W'.heap.size W' w') := HM.out rs R hR
  have HC : Hid (∀ W', Below W.heap.size W W' → Calls Tryz.prog 63 #[.string L, .string R] W' fun e w' => e = .returned (.tuple #[.int .i64 (Lib.compareInt a b), .int .i64 0]) ∧ Below W'.heap.size W' w') := fun W' hb => by
    have := N.compare_any L R ad W' (hE W' (hW.trans (hb.mono hB))) (by omega) (by omega)
    have hc : N.cmpG (N.bl L) (N.bl R) = (Lib.compareInt a b, 0) := by
      have e1 : N.parseG (N.bl L) = (a, 0) := pL
      have e2 : N.parseG (N.bl R) = (b, 0) := pR
      unfold N.cmpG; rw [e1, e2]; rfl
    rw [hc] at this
    exact this
  obtain ⟨o, ho⟩ : ∃ o, o = Lib.compareInt a b := ⟨_, rfl⟩
  rw [← ho] at HC ⊢
  have he : sgnF gNe o = !decide (o = 0) := rfl
  have hbe : ∀ (p q : Bool) (w : World), Sem.run Tryz.prog (binOp .eql 4 (.bool p) (.bool q)) w = .ok (.bool (p == q)) w := fun _ _ _ => rfl
  have H1 : Hid (Below W.heap.size W W1 ∧ W1.heap[W.heap.size]? = some (.cells #[x.pv, x.ps, x.g, x.t, x.c, .int .i64 x.f] 26 (0, 0)) ∧ W1.heap[W.heap.size + 1]? = some (.cells #[.int .i64 k, .string ⟨#[33, 61]⟩, .string ls, .bool false, .string rs, .bool false] 127 (0, 0))) := ⟨hb1, hx1, hy1⟩
  have x0 := cellb hx1 0 rfl
  have x1 := cellb hx1 1 rfl
  have x2 := cellb hx1 2 rfl
  have x3 := cellb hx1 3 rfl
  have x4 := cellb hx1 4 rfl
  have x5 := cellb hx1 5 rfl
  have y2 := cellb hy1 2 rfl
  clear hL hR hE hW hb1 hx1 hy1 HM pL pR ho
  go_enter Tryz.func38, Tryz.ntmps38
  go_upto_region 1 with fail
  rw [← hW1]
  clear hW1
  go_wp2_with fail
  refine (HML.out _ H1.out.1).mono ?_
  rintro e w2 ⟨rfl, hb2⟩
  have H2 : Hid (Below W.heap.size W w2 ∧ w2.heap[W.heap.size]? = some (.cells #[x.pv, x.ps, x.g, x.t, x.c, .int .i64 x.f] 26 (0, 0)) ∧ w2.heap[W.heap.size + 1]? = some (.cells #[.int .i64 k, .string ⟨#[33, 61]⟩, .string ls, .bool false, .string rs, .bool false] 127 (0, 0))) := ⟨H1.out.1.trans (hb2.mono H1.out.1.size), (hb2.block _ (Array.getElem?_eq_some_iff.1 H1.out.2.1).1).trans H1.out.2.1, (hb2.block _ (Array.getElem?_eq_some_iff.1 H1.out.2.2).1).trans H1.out.2.2⟩
  clear hb2 x0 x1 x2 x3 x4 x5 y2 H1
  have x0 := cellb H2.out.2.1 0 rfl
  have x1 := cellb H2.out.2.1 1 rfl
  have x2 := cellb H2.out.2.1 2 rfl
  have x3 := cellb H2.out.2.1 3 rfl
  have x4 := cellb H2.out.2.1 4 rfl
  have x5 := cellb H2.out.2.1 5 rfl
  have y4 := cellb H2.out.2.2 4 rfl
  go_wp2_with fail
  refine (HMR.out _ H2.out.1).mono ?_
  rintro e w3 ⟨rfl, hb3⟩
  have H3 : Hid (Below W.heap.size W w3 ∧ w3.heap[W.heap.size + 1]? = some (.cells #[.int .i64 k, .string ⟨#[33, 61]⟩, .string ls, .bool false, .string rs, .bool false] 127 (0, 0))) := ⟨H2.out.1.trans (hb3.mono H2.out.1.size), (hb3.block _ (Array.getElem?_eq_some_iff.1 H2.out.2.2).1).trans H2.out.2.2⟩
  clear hb3 x0 x1 x2 x3 x4 x5 y4 H2
  go_wp2_with fail
  refine (HC.out _ H3.out.1).mono ?_
  rintro e w4 ⟨rfl, hb4⟩
  have H4 : Hid (Below W.heap.size W w4 ∧ w4.heap[W.heap.size + 1]? = some (.cells #[.int .i64 k, .string ⟨#[33, 61]⟩, .string ls, .bool false, .string rs, .bool false] 127 (0, 0))) := ⟨H3.out.1.trans (hb4.mono H3.out.1.size), (hb4.block _ (Array.getElem?_eq_some_iff.1 H3.out.2).1).trans H3.out.2⟩
  clear hb4 H3
  have y1 := cellb H4.out.2 1 rfl
  have y3 := cellb H4.out.2 3 rfl
  have y5 := cellb H4.out.2 5 rfl
  go_wp2
  all_goals
    go_ret2
    refine ⟨?_, H4.out.1⟩
    rw [he]
    first | rfl | (simp [*]; done)
set_option maxRecDepth 20000 in
set_option maxHeartbeats 2000000 in
theorem cmp_gLt {B : Nat} {w0 : World} (x : Wo) (k : Int) (ls rs L R : ByteArray) (a b : Int) (hL : MeC B w0 x ls L) (hR : MeC B w0 x rs R) (hLz : L.size ≤ 1000000) (hRz : R.size ≤ 1000000) (pL : N.parseG (bl L) = (a, 0)) (pR : N.parseG (bl R) = (b, 0)) (ad : Addr) (hE : ∀ W, Below B w0 W → N.Er ad W) (W : World) (hW : Below B w0 W) (hB : B ≤ W.heap.size) :
    Calls Tryz.prog 38 #[x.val, .agg #[.int .i64 k, .string ⟨#[60]⟩, .string ls, .bool false, .string rs, .bool false]] W fun e w' => e = .returned (.tuple #[.bool (sgnF gLt (Lib.compareInt a b)), .int .i64 0]) ∧ Below W.heap.size W w' := by
  obtain ⟨W1, hW1, hb1, hx1, hy1⟩ : ∃ W1, W1 = (W.alloc (.cells #[x.pv, x.ps, x.g, x.t, x.c, .int .i64 x.f] 26)).alloc (.cells #[.int .i64 k, .string ⟨#[60]⟩, .string ls, .bool false, .string rs, .bool false] 127) ∧ Below W.heap.size W W1 ∧ W1.heap[W.heap.size]? = some (.cells #[x.pv, x.ps, x.g, x.t, x.c, .int .i64 x.f] 26 (0, 0)) ∧ W1.heap[W.heap.size + 1]? = some (.cells #[.int .i64 k, .string ⟨#[60]⟩, .string ls, .bool false, .string rs, .bool false] 127 (0, 0)) :=
    ⟨_, rfl, ((Below.refl _ _).alloc (Nat.le_refl _) _).alloc (by simp) _, (Below.heap_alloc _ _ _ (by simp)).trans (heap_alloc_new _ _), heap_alloc_new'⟩
  have HM : Hid (∀ (s t : ByteArray), MeC B w0 x s t → ∀ W', Below W.heap.size W W' → Calls Tryz.prog 56 #[x.val, .string s] W' fun e w' => e = .returned (.tuple #[.string t, .int .i64 0]) ∧ Below W'.heap.size W' w') := fun s t h W' hb => mean_any x s t h W' (hW.trans (hb.mono hB)) (Nat.le_trans hB hb.size)
  have HML : Hid (∀ W', Below W.heap.size W W' → Calls Tryz.prog 56 #[x.val, .string ls] W' fun e w' => e = .returned (.tuple #[.string L, .int .i64 0]) ∧ Below W'.heap.size W' w') := HM.out ls L hL
  have HMR : Hid (∀ W', Below W.heap.size W W' → Calls Tryz.prog 56 #[x.val, .string rs] W' fun e w' => e = .returned (.tuple #[.string R, .int .i64 0]) ∧ Below W'.heap.size W' w') := HM.out rs R hR
  have HC : Hid (∀ W', Below W.heap.size W W' → Calls Tryz.prog 63 #[.string L, .string R] W' fun e w' => e = .returned (.tuple #[.int .i64 (Lib.compareInt a b), .int .i64 0]) ∧ Below W'.heap.size W' w') := fun W' hb => by
    have := N.compare_any L R ad W' (hE W' (hW.trans (hb.mono hB))) (by omega) (by omega)
    have hc : N.cmpG (N.bl L) (N.bl R) = (Lib.compareInt a b, 0) := by
      have e1 : N.parseG (N.bl L) = (a, 0) := pL
      have e2 : N.parseG (N.bl R) = (b, 0) := pR
      unfold N.cmpG; rw [e1, e2]; rfl
    rw [hc] at this
    exact this
  obtain ⟨o, ho⟩ : ∃ o, o = Lib.compareInt a b := ⟨_, rfl⟩
  rw [← ho] at HC ⊢
  have HS : Hid (∀ W, Calls Tryz.prog 64 #[.int .i64 o, .string ⟨#[60]⟩] W fun e w' => e = .returned (.bool (sgnF gLt o)) ∧ W = w') := fun W => stands_any gLt (.inl rfl) o W
  have hbe : ∀ (p q : Bool) (w : World), Sem.run Tryz.prog (binOp .eql 4 (.bool p) (.bool q)) w = .ok (.bool (p == q)) w := fun _ _ _ => rfl
  have H1 : Hid (Below W.heap.size W W1 ∧ W1.heap[W.heap.size]? = some (.cells #[x.pv, x.ps, x.g, x.t, x.c, .int .i64 x.f] 26 (0, 0)) ∧ W1.heap[W.heap.size + 1]? = some (.cells #[.int .i64 k, .string ⟨#[60]⟩, .string ls, .bool false, .string rs, .bool false] 127 (0, 0))) := ⟨hb1, hx1, hy1⟩
  have x0 := cellb hx1 0 rfl
  have x1 := cellb hx1 1 rfl
  have x2 := cellb hx1 2 rfl
  have x3 := cellb hx1 3 rfl
  have x4 := cellb hx1 4 rfl
  have x5 := cellb hx1 5 rfl
  have y2 := cellb hy1 2 rfl
  clear hL hR hE hW hb1 hx1 hy1 HM pL pR ho
  go_enter Tryz.func38, Tryz.ntmps38
  go_upto_region 1 with fail
  rw [← hW1]
  clear hW1
  go_wp2_with fail
  refine (HML.out _ H1.out.1).mono ?_
  rintro e w2 ⟨rfl, hb2⟩
  have H2 : Hid (Below W.heap.size W w2 ∧ w2.heap[W.heap.size]? = some (.cells #[x.pv, x.ps, x.g, x.t, x.c, .int .i64 x.f] 26 (0, 0)) ∧ w2.heap[W.heap.size + 1]? = some (.cells #[.int .i64 k, .string ⟨#[60]⟩, .string ls, .bool false, .string rs, .bool false] 127 (0, 0))) := ⟨H1.out.1.trans (hb2.mono H1.out.1.size), (hb2.block _ (Array.getElem?_eq_some_iff.1 H1.out.2.1).1).trans H1.out.2.1, (hb2.block _ (Array.getElem?_eq_some_iff.1 H1.out.2.2).1).trans H1.out.2.2⟩
  clear hb2 x0 x1 x2 x3 x4 x5 y2 H1
  have x0 := cellb H2.out.2.1 0 rfl
  have x1 := cellb H2.out.2.1 1 rfl
  have x2 := cellb H2.out.2.1 2 rfl
  have x3 := cellb H2.out.2.1 3 rfl
  have x4 := cellb H2.out.2.1 4 rfl
  have x5 := cellb H2.out.2.1 5 rfl
  have y4 := cellb H2.out.2.2 4 rfl
  go_wp2_with fail
  refine (HMR.out _ H2.out.1).mono ?_
  rintro e w3 ⟨rfl, hb3⟩
  have H3 : Hid (Below W.heap.size W w3 ∧ w3.heap[W.heap.size + 1]? = some (.cells #[.int .i64 k, .string ⟨#[60]⟩, .string ls, .bool false, .string rs, .bool false] 127 (0, 0))) := ⟨H2.out.1.trans (hb3.mono H2.out.1.size), (hb3.block _ (Array.getElem?_eq_some_iff.1 H2.out.2.2).1).trans H2.out.2.2⟩
  clear hb3 x0 x1 x2 x3 x4 x5 y4 H2
  go_wp2_with fail
  refine (HC.out _ H3.out.1).mono ?_
  rintro e w4 ⟨rfl, hb4⟩
  have H4 : Hid (Below W.heap.size W w4 ∧ w4.heap[W.heap.size + 1]? = some (.cells #[.int .i64 k, .string ⟨#[60]⟩, .string ls, .bool false, .string rs, .bool false] 127 (0, 0))) := ⟨H3.out.1.trans (hb4.mono H3.out.1.size), (hb4.block _ (Array.getElem?_eq_some_iff.1 H3.out.2).1).trans H3.out.2⟩
  clear hb4 H3
  have y1 := cellb H4.out.2 1 rfl
  have y3 := cellb H4.out.2 3 rfl
  have y5 := cellb H4.out.2 5 rfl
  go_wp2_with fail
  refine (HS.out _).mono ?_
  rintro e w5 ⟨rfl, rfl⟩
  go_wp2
  go_ret2
  exact ⟨rfl, H4.out.1⟩
set_option maxRecDepth 20000 in
set_option maxHeartbeats 2000000 in
theorem cmp_gLe {B : Nat} {w0 : World} (x : Wo) (k : Int) (ls rs L R : ByteArray) (a b : Int) (hL : MeC B w0 x ls L) (hR : MeC B w0 x rs R) (hLz : L.size ≤ 1000000) (hRz : R.size ≤ 1000000) (pL : N.parseG (bl L) = (a, 0)) (pR : N.parseG (bl R) = (b, 0)) (ad : Addr) (hE : ∀ W, Below B w0 W → N.Er ad W) (W : World) (hW : Below B w0 W) (hB : B ≤ W.heap.size) :
    Calls Tryz.prog 38 #[x.val, .agg #[.int .i64 k, .string ⟨#[60, 61]⟩, .string ls, .bool false, .string rs, .bool false]] W fun e w' => e = .returned (.tuple #[.bool (sgnF gLe (Lib.compareInt a b)), .int .i64 0]) ∧ Below W.heap.size W w' := by
  obtain ⟨W1, hW1, hb1, hx1, hy1⟩ : ∃ W1, W1 = (W.alloc (.cells #[x.pv, x.ps, x.g, x.t, x.c, .int .i64 x.f] 26)).alloc (.cells #[.int .i64 k, .string ⟨#[60, 61]⟩, .string ls, .bool false, .string rs, .bool false] 127) ∧ Below W.heap.size W W1 ∧ W1.heap[W.heap.size]? = some (.cells #[x.pv, x.ps, x.g, x.t, x.c, .int .i64 x.f] 26 (0, 0)) ∧ W1.heap[W.heap.size + 1]? = some (.cells #[.int .i64 k, .string ⟨#[60, 61]⟩, .string ls, .bool false, .string rs, .bool false] 127 (0, 0)) :=
    ⟨_, rfl, ((Below.refl _ _).alloc (Nat.le_refl _) _).alloc (by simp) _, (Below.heap_alloc _ _ _ (by simp)).trans (heap_alloc_new _ _), heap_alloc_new'⟩
  have HM : Hid (∀ (s t : ByteArray), MeC B w0 x s t → ∀ W', Below W.heap.size W W' → Calls Tryz.prog 56 #[x.val, .string s] W' fun e w' => e = .returned (.tuple #[.string t, .int .i64 0]) ∧ Below W'.heap.size W' w') := fun s t h W' hb => mean_any x s t h W' (hW.trans (hb.mono hB)) (Nat.le_trans hB hb.size)
  have HML : Hid (∀ W', Below W.heap.size W W' → Calls Tryz.prog 56 #[x.val, .string ls] W' fun e w' => e = .returned (.tuple #[.string L, .int .i64 0]) ∧ Below W'.heap.size W' w') := HM.out ls L hL
  have HMR : Hid (∀ W', Below W.heap.size W W' → Calls Tryz.prog 56 #[x.val, .string rs] W' fun e w' => e = .returned (.tuple #[.string R, .int .i64 0]) ∧ Below W'.heap.size W' w') := HM.out rs R hR
  have HC : Hid (∀ W', Below W.heap.size W W' → Calls Tryz.prog 63 #[.string L, .string R] W' fun e w' => e = .returned (.tuple #[.int .i64 (Lib.compareInt a b), .int .i64 0]) ∧ Below W'.heap.size W' w') := fun W' hb => by
    have := N.compare_any L R ad W' (hE W' (hW.trans (hb.mono hB))) (by omega) (by omega)
    have hc : N.cmpG (N.bl L) (N.bl R) = (Lib.compareInt a b, 0) := by
      have e1 : N.parseG (N.bl L) = (a, 0) := pL
      have e2 : N.parseG (N.bl R) = (b, 0) := pR
      unfold N.cmpG; rw [e1, e2]; rfl
    rw [hc] at this
    exact this
  obtain ⟨o, ho⟩ : ∃ o, o = Lib.compareInt a b := ⟨_, rfl⟩
  rw [← ho] at HC ⊢
  have HS : Hid (∀ W, Calls Tryz.prog 64 #[.int .i64 o, .string ⟨#[60, 61]⟩] W fun e w' => e = .returned (.bool (sgnF gLe o)) ∧ W = w') := fun W => stands_any gLe (.inr (.inl rfl)) o W
  have hbe : ∀ (p q : Bool) (w : World), Sem.run Tryz.prog (binOp .eql 4 (.bool p) (.bool q)) w = .ok (.bool (p == q)) w := fun _ _ _ => rfl
  have H1 : Hid (Below W.heap.size W W1 ∧ W1.heap[W.heap.size]? = some (.cells #[x.pv, x.ps, x.g, x.t, x.c, .int .i64 x.f] 26 (0, 0)) ∧ W1.heap[W.heap.size + 1]? = some (.cells #[.int .i64 k, .string ⟨#[60, 61]⟩, .string ls, .bool false, .string rs, .bool false] 127 (0, 0))) := ⟨hb1, hx1, hy1⟩
  have x0 := cellb hx1 0 rfl
  have x1 := cellb hx1 1 rfl
  have x2 := cellb hx1 2 rfl
  have x3 := cellb hx1 3 rfl
  have x4 := cellb hx1 4 rfl
  have x5 := cellb hx1 5 rfl
  have y2 := cellb hy1 2 rfl
  clear hL hR hE hW hb1 hx1 hy1 HM pL pR ho
  go_enter Tryz.func38, Tryz.ntmps38
  go_upto_region 1 with fail
  rw [← hW1]
  clear hW1
  go_wp2_with fail
  refine (HML.out _ H1.out.1).mono ?_
  rintro e w2 ⟨rfl, hb2⟩
  have H2 : Hid (Below W.heap.size W w2 ∧ w2.heap[W.heap.size]? = some (.cells #[x.pv, x.ps, x.g, x.t, x.c, .int .i64 x.f] 26 (0, 0)) ∧ w2.heap[W.heap.size + 1]? = some (.cells #[.int .i64 k, .string ⟨#[60, 61]⟩, .string ls, .bool false, .string rs, .bool false] 127 (0, 0))) := ⟨H1.out.1.trans (hb2.mono H1.out.1.size), (hb2.block _ (Array.getElem?_eq_some_iff.1 H1.out.2.1).1).trans H1.out.2.1, (hb2.block _ (Array.getElem?_eq_some_iff.1 H1.out.2.2).1).trans H1.out.2.2⟩
  clear hb2 x0 x1 x2 x3 x4 x5 y2 H1
  have x0 := cellb H2.out.2.1 0 rfl
  have x1 := cellb H2.out.2.1 1 rfl
  have x2 := cellb H2.out.2.1 2 rfl
  have x3 := cellb H2.out.2.1 3 rfl
  have x4 := cellb H2.out.2.1 4 rfl
  have x5 := cellb H2.out.2.1 5 rfl
  have y4 := cellb H2.out.2.2 4 rfl
  go_wp2_with fail
  refine (HMR.out _ H2.out.1).mono ?_
  rintro e w3 ⟨rfl, hb3⟩
  have H3 : Hid (Below W.heap.size W w3 ∧ w3.heap[W.heap.size + 1]? = some (.cells #[.int .i64 k, .string ⟨#[60, 61]⟩, .string ls, .bool false, .string rs, .bool false] 127 (0, 0))) := ⟨H2.out.1.trans (hb3.mono H2.out.1.size), (hb3.block _ (Array.getElem?_eq_some_iff.1 H2.out.2.2).1).trans H2.out.2.2⟩
  clear hb3 x0 x1 x2 x3 x4 x5 y4 H2
  go_wp2_with fail
  refine (HC.out _ H3.out.1).mono ?_
  rintro e w4 ⟨rfl, hb4⟩
  have H4 : Hid (Below W.heap.size W w4 ∧ w4.heap[W.heap.size + 1]? = some (.cells #[.int .i64 k, .string ⟨#[60, 61]⟩, .string ls, .bool false, .string rs, .bool false] 127 (0, 0))) := ⟨H3.out.1.trans (hb4.mono H3.out.1.size), (hb4.block _ (Array.getElem?_eq_some_iff.1 H3.out.2).1).trans H3.out.2⟩
  clear hb4 H3
  have y1 := cellb H4.out.2 1 rfl
  have y3 := cellb H4.out.2 3 rfl
  have y5 := cellb H4.out.2 5 rfl
  go_wp2_with fail
  refine (HS.out _).mono ?_
  rintro e w5 ⟨rfl, rfl⟩
  go_wp2
  go_ret2
  exact ⟨rfl, H4.out.1⟩
set_option maxRecDepth 20000 in
set_option maxHeartbeats 2000000 in
theorem cmp_gGt {B : Nat} {w0 : World} (x : Wo) (k : Int) (ls rs L R : ByteArray) (a b : Int) (hL : MeC B w0 x ls L) (hR : MeC B w0 x rs R) (hLz : L.size ≤ 1000000) (hRz : R.size ≤ 1000000) (pL : N.parseG (bl L) = (a, 0)) (pR : N.parseG (bl R) = (b, 0)) (ad : Addr) (hE : ∀ W, Below B w0 W → N.Er ad W) (W : World) (hW : Below B w0 W) (hB : B ≤ W.heap.size) :
    Calls Tryz.prog 38 #[x.val, .agg #[.int .i64 k, .string ⟨#[62]⟩, .string ls, .bool false, .string rs, .bool false]] W fun e w' => e = .returned (.tuple #[.bool (sgnF gGt (Lib.compareInt a b)), .int .i64 0]) ∧ Below W.heap.size W w' := by
  obtain ⟨W1, hW1, hb1, hx1, hy1⟩ : ∃ W1, W1 = (W.alloc (.cells #[x.pv, x.ps, x.g, x.t, x.c, .int .i64 x.f] 26)).alloc (.cells #[.int .i64 k, .string ⟨#[62]⟩, .string ls, .bool false, .string rs, .bool false] 127) ∧ Below W.heap.size W W1 ∧ W1.heap[W.heap.size]? = some (.cells #[x.pv, x.ps, x.g, x.t, x.c, .int .i64 x.f] 26 (0, 0)) ∧ W1.heap[W.heap.size + 1]? = some (.cells #[.int .i64 k, .string ⟨#[62]⟩, .string ls, .bool false, .string rs, .bool false] 127 (0, 0)) :=
    ⟨_, rfl, ((Below.refl _ _).alloc (Nat.le_refl _) _).alloc (by simp) _, (Below.heap_alloc _ _ _ (by simp)).trans (heap_alloc_new _ _), heap_alloc_new'⟩
  have HM : Hid (∀ (s t : ByteArray), MeC B w0 x s t → ∀ W', Below W.heap.size W W' → Calls Tryz.prog 56 #[x.val, .string s] W' fun e w' => e = .returned (.tuple #[.string t, .int .i64 0]) ∧ Below W'.heap.size W' w') := fun s t h W' hb => mean_any x s t h W' (hW.trans (hb.mono hB)) (Nat.le_trans hB hb.size)
  have HML : Hid (∀ W', Below W.heap.size W W' → Calls Tryz.prog 56 #[x.val, .string ls] W' fun e w' => e = .returned (.tuple #[.string L, .int .i64 0]) ∧ Below W'.heap.size W' w') := HM.out ls L hL
  have HMR : Hid (∀ W', Below W.heap.size W W' → Calls Tryz.prog 56 #[x.val, .string rs] W' fun e w' => e = .returned (.tuple #[.string R, .int .i64 0]) ∧ Below W'.heap.size W' w') := HM.out rs R hR
  have HC : Hid (∀ W', Below W.heap.size W W' → Calls Tryz.prog 63 #[.string L, .string R] W' fun e w' => e = .returned (.tuple #[.int .i64 (Lib.compareInt a b), .int .i64 0]) ∧ Below W'.heap.size W' w') := fun W' hb => by
    have := N.compare_any L R ad W' (hE W' (hW.trans (hb.mono hB))) (by omega) (by omega)
    have hc : N.cmpG (N.bl L) (N.bl R) = (Lib.compareInt a b, 0) := by
      have e1 : N.parseG (N.bl L) = (a, 0) := pL
      have e2 : N.parseG (N.bl R) = (b, 0) := pR
      unfold N.cmpG; rw [e1, e2]; rfl
    rw [hc] at this
    exact this
  obtain ⟨o, ho⟩ : ∃ o, o = Lib.compareInt a b := ⟨_, rfl⟩
  rw [← ho] at HC ⊢
  have HS : Hid (∀ W, Calls Tryz.prog 64 #[.int .i64 o, .string ⟨#[62]⟩] W fun e w' => e = .returned (.bool (sgnF gGt o)) ∧ W = w') := fun W => stands_any gGt (.inr (.inr (.inl rfl))) o W
  have hbe : ∀ (p q : Bool) (w : World), Sem.run Tryz.prog (binOp .eql 4 (.bool p) (.bool q)) w = .ok (.bool (p == q)) w := fun _ _ _ => rfl
  have H1 : Hid (Below W.heap.size W W1 ∧ W1.heap[W.heap.size]? = some (.cells #[x.pv, x.ps, x.g, x.t, x.c, .int .i64 x.f] 26 (0, 0)) ∧ W1.heap[W.heap.size + 1]? = some (.cells #[.int .i64 k, .string ⟨#[62]⟩, .string ls, .bool false, .string rs, .bool false] 127 (0, 0))) := ⟨hb1, hx1, hy1⟩
  have x0 := cellb hx1 0 rfl
  have x1 := cellb hx1 1 rfl
  have x2 := cellb hx1 2 rfl
  have x3 := cellb hx1 3 rfl
  have x4 := cellb hx1 4 rfl
  have x5 := cellb hx1 5 rfl
  have y2 := cellb hy1 2 rfl
  clear hL hR hE hW hb1 hx1 hy1 HM pL pR ho
  go_enter Tryz.func38, Tryz.ntmps38
  go_upto_region 1 with fail
  rw [← hW1]
  clear hW1
  go_wp2_with fail
  refine (HML.out _ H1.out.1).mono ?_
  rintro e w2 ⟨rfl, hb2⟩
  have H2 : Hid (Below W.heap.size W w2 ∧ w2.heap[W.heap.size]? = some (.cells #[x.pv, x.ps, x.g, x.t, x.c, .int .i64 x.f] 26 (0, 0)) ∧ w2.heap[W.heap.size + 1]? = some (.cells #[.int .i64 k, .string ⟨#[62]⟩, .string ls, .bool false, .string rs, .bool false] 127 (0, 0))) := ⟨H1.out.1.trans (hb2.mono H1.out.1.size), (hb2.block _ (Array.getElem?_eq_some_iff.1 H1.out.2.1).1).trans H1.out.2.1, (hb2.block _ (Array.getElem?_eq_some_iff.1 H1.out.2.2).1).trans H1.out.2.2⟩
  clear hb2 x0 x1 x2 x3 x4 x5 y2 H1
  have x0 := cellb H2.out.2.1 0 rfl
  have x1 := cellb H2.out.2.1 1 rfl
  have x2 := cellb H2.out.2.1 2 rfl
  have x3 := cellb H2.out.2.1 3 rfl
  have x4 := cellb H2.out.2.1 4 rfl
  have x5 := cellb H2.out.2.1 5 rfl
  have y4 := cellb H2.out.2.2 4 rfl
  go_wp2_with fail
  refine (HMR.out _ H2.out.1).mono ?_
  rintro e w3 ⟨rfl, hb3⟩
  have H3 : Hid (Below W.heap.size W w3 ∧ w3.heap[W.heap.size + 1]? = some (.cells #[.int .i64 k, .string ⟨#[62]⟩, .string ls, .bool false, .string rs, .bool false] 127 (0, 0))) := ⟨H2.out.1.trans (hb3.mono H2.out.1.size), (hb3.block _ (Array.getElem?_eq_some_iff.1 H2.out.2.2).1).trans H2.out.2.2⟩
  clear hb3 x0 x1 x2 x3 x4 x5 y4 H2
  go_wp2_with fail
  refine (HC.out _ H3.out.1).mono ?_
  rintro e w4 ⟨rfl, hb4⟩
  have H4 : Hid (Below W.heap.size W w4 ∧ w4.heap[W.heap.size + 1]? = some (.cells #[.int .i64 k, .string ⟨#[62]⟩, .string ls, .bool false, .string rs, .bool false] 127 (0, 0))) := ⟨H3.out.1.trans (hb4.mono H3.out.1.size), (hb4.block _ (Array.getElem?_eq_some_iff.1 H3.out.2).1).trans H3.out.2⟩
  clear hb4 H3
  have y1 := cellb H4.out.2 1 rfl
  have y3 := cellb H4.out.2 3 rfl
  have y5 := cellb H4.out.2 5 rfl
  go_wp2_with fail
  refine (HS.out _).mono ?_
  rintro e w5 ⟨rfl, rfl⟩
  go_wp2
  go_ret2
  exact ⟨rfl, H4.out.1⟩
set_option maxRecDepth 20000 in
set_option maxHeartbeats 2000000 in
theorem cmp_gGe {B : Nat} {w0 : World} (x : Wo) (k : Int) (ls rs L R : ByteArray) (a b : Int) (hL : MeC B w0 x ls L) (hR : MeC B w0 x rs R) (hLz : L.size ≤ 1000000) (hRz : R.size ≤ 1000000) (pL : N.parseG (bl L) = (a, 0)) (pR : N.parseG (bl R) = (b, 0)) (ad : Addr) (hE : ∀ W, Below B w0 W → N.Er ad W) (W : World) (hW : Below B w0 W) (hB : B ≤ W.heap.size) :
    Calls Tryz.prog 38 #[x.val, .agg #[.int .i64 k, .string ⟨#[62, 61]⟩, .string ls, .bool false, .string rs, .bool false]] W fun e w' => e = .returned (.tuple #[.bool (sgnF gGe (Lib.compareInt a b)), .int .i64 0]) ∧ Below W.heap.size W w' := by
  obtain ⟨W1, hW1, hb1, hx1, hy1⟩ : ∃ W1, W1 = (W.alloc (.cells #[x.pv, x.ps, x.g, x.t, x.c, .int .i64 x.f] 26)).alloc (.cells #[.int .i64 k, .string ⟨#[62, 61]⟩, .string ls, .bool false, .string rs, .bool false] 127) ∧ Below W.heap.size W W1 ∧ W1.heap[W.heap.size]? = some (.cells #[x.pv, x.ps, x.g, x.t, x.c, .int .i64 x.f] 26 (0, 0)) ∧ W1.heap[W.heap.size + 1]? = some (.cells #[.int .i64 k, .string ⟨#[62, 61]⟩, .string ls, .bool false, .string rs, .bool false] 127 (0, 0)) :=
    ⟨_, rfl, ((Below.refl _ _).alloc (Nat.le_refl _) _).alloc (by simp) _, (Below.heap_alloc _ _ _ (by simp)).trans (heap_alloc_new _ _), heap_alloc_new'⟩
  have HM : Hid (∀ (s t : ByteArray), MeC B w0 x s t → ∀ W', Below W.heap.size W W' → Calls Tryz.prog 56 #[x.val, .string s] W' fun e w' => e = .returned (.tuple #[.string t, .int .i64 0]) ∧ Below W'.heap.size W' w') := fun s t h W' hb => mean_any x s t h W' (hW.trans (hb.mono hB)) (Nat.le_trans hB hb.size)
  have HML : Hid (∀ W', Below W.heap.size W W' → Calls Tryz.prog 56 #[x.val, .string ls] W' fun e w' => e = .returned (.tuple #[.string L, .int .i64 0]) ∧ Below W'.heap.size W' w') := HM.out ls L hL
  have HMR : Hid (∀ W', Below W.heap.size W W' → Calls Tryz.prog 56 #[x.val, .string rs] W' fun e w' => e = .returned (.tuple #[.string R, .int .i64 0]) ∧ Below W'.heap.size W' w') := HM.out rs R hR
  have HC : Hid (∀ W', Below W.heap.size W W' → Calls Tryz.prog 63 #[.string L, .string R] W' fun e w' => e = .returned (.tuple #[.int .i64 (Lib.compareInt a b), .int .i64 0]) ∧ Below W'.heap.size W' w') := fun W' hb => by
    have := N.compare_any L R ad W' (hE W' (hW.trans (hb.mono hB))) (by omega) (by omega)
    have hc : N.cmpG (N.bl L) (N.bl R) = (Lib.compareInt a b, 0) := by
      have e1 : N.parseG (N.bl L) = (a, 0) := pL
      have e2 : N.parseG (N.bl R) = (b, 0) := pR
      unfold N.cmpG; rw [e1, e2]; rfl
    rw [hc] at this
    exact this
  obtain ⟨o, ho⟩ : ∃ o, o = Lib.compareInt a b := ⟨_, rfl⟩
  rw [← ho] at HC ⊢
  have HS : Hid (∀ W, Calls Tryz.prog 64 #[.int .i64 o, .string ⟨#[62, 61]⟩] W fun e w' => e = .returned (.bool (sgnF gGe o)) ∧ W = w') := fun W => stands_any gGe (.inr (.inr (.inr rfl))) o W
  have hbe : ∀ (p q : Bool) (w : World), Sem.run Tryz.prog (binOp .eql 4 (.bool p) (.bool q)) w = .ok (.bool (p == q)) w := fun _ _ _ => rfl
  have H1 : Hid (Below W.heap.size W W1 ∧ W1.heap[W.heap.size]? = some (.cells #[x.pv, x.ps, x.g, x.t, x.c, .int .i64 x.f] 26 (0, 0)) ∧ W1.heap[W.heap.size + 1]? = some (.cells #[.int .i64 k, .string ⟨#[62, 61]⟩, .string ls, .bool false, .string rs, .bool false] 127 (0, 0))) := ⟨hb1, hx1, hy1⟩
  have x0 := cellb hx1 0 rfl
  have x1 := cellb hx1 1 rfl
  have x2 := cellb hx1 2 rfl
  have x3 := cellb hx1 3 rfl
  have x4 := cellb hx1 4 rfl
  have x5 := cellb hx1 5 rfl
  have y2 := cellb hy1 2 rfl
  clear hL hR hE hW hb1 hx1 hy1 HM pL pR ho
  go_enter Tryz.func38, Tryz.ntmps38
  go_upto_region 1 with fail
  rw [← hW1]
  clear hW1
  go_wp2_with fail
  refine (HML.out _ H1.out.1).mono ?_
  rintro e w2 ⟨rfl, hb2⟩
  have H2 : Hid (Below W.heap.size W w2 ∧ w2.heap[W.heap.size]? = some (.cells #[x.pv, x.ps, x.g, x.t, x.c, .int .i64 x.f] 26 (0, 0)) ∧ w2.heap[W.heap.size + 1]? = some (.cells #[.int .i64 k, .string ⟨#[62, 61]⟩, .string ls, .bool false, .string rs, .bool false] 127 (0, 0))) := ⟨H1.out.1.trans (hb2.mono H1.out.1.size), (hb2.block _ (Array.getElem?_eq_some_iff.1 H1.out.2.1).1).trans H1.out.2.1, (hb2.block _ (Array.getElem?_eq_some_iff.1 H1.out.2.2).1).trans H1.out.2.2⟩
  clear hb2 x0 x1 x2 x3 x4 x5 y2 H1
  have x0 := cellb H2.out.2.1 0 rfl
  have x1 := cellb H2.out.2.1 1 rfl
  have x2 := cellb H2.out.2.1 2 rfl
  have x3 := cellb H2.out.2.1 3 rfl
  have x4 := cellb H2.out.2.1 4 rfl
  have x5 := cellb H2.out.2.1 5 rfl
  have y4 := cellb H2.out.2.2 4 rfl
  go_wp2_with fail
  refine (HMR.out _ H2.out.1).mono ?_
  rintro e w3 ⟨rfl, hb3⟩
  have H3 : Hid (Below W.heap.size W w3 ∧ w3.heap[W.heap.size + 1]? = some (.cells #[.int .i64 k, .string ⟨#[62, 61]⟩, .string ls, .bool false, .string rs, .bool false] 127 (0, 0))) := ⟨H2.out.1.trans (hb3.mono H2.out.1.size), (hb3.block _ (Array.getElem?_eq_some_iff.1 H2.out.2.2).1).trans H2.out.2.2⟩
  clear hb3 x0 x1 x2 x3 x4 x5 y4 H2
  go_wp2_with fail
  refine (HC.out _ H3.out.1).mono ?_
  rintro e w4 ⟨rfl, hb4⟩
  have H4 : Hid (Below W.heap.size W w4 ∧ w4.heap[W.heap.size + 1]? = some (.cells #[.int .i64 k, .string ⟨#[62, 61]⟩, .string ls, .bool false, .string rs, .bool false] 127 (0, 0))) := ⟨H3.out.1.trans (hb4.mono H3.out.1.size), (hb4.block _ (Array.getElem?_eq_some_iff.1 H3.out.2).1).trans H3.out.2⟩
  clear hb4 H3
  have y1 := cellb H4.out.2 1 rfl
  have y3 := cellb H4.out.2 3 rfl
  have y5 := cellb H4.out.2 5 rfl
  go_wp2_with fail
  refine (HS.out _).mono ?_
  rintro e w5 ⟨rfl, rfl⟩
  go_wp2
  go_ret2
  exact ⟨rfl, H4.out.1⟩
end Go.Proofs.YtkelmhpoplbacaaGreatDoor.Cd
