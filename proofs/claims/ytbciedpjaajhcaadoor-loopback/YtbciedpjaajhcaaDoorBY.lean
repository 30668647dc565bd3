/-
  What Build answers.
-/
import Derived.Test.YtbciedpjaajhcaaDoorBX
namespace Go.Proofs.YtbciedpjaajhcaaDoor
open Go.RowKit Go.Shelf
open Ex (Fr)

/-- What Build answers of lines. -/
def BuildPost (l : List Lz) (w : World) (e : Ending) (w' : World) : Prop :=
  match buildL l with
  | .bad k a => e = .returned (.tuple #[.slice none 0 0, .agg #[.int .i64 k, .int .i64 a]]) ∧ Below w.heap.size w w'
  | .good ts => ∃ v, e = .returned (.tuple #[v, .agg #[.int .i64 0, .int .i64 0]]) ∧ NdsAt (fun _ => False) w' 32 v ts ∧ Below w.heap.size w w'
theorem st_new (w : World) (b : Nat) (hb : w.heap.size = b) : St b b (w.alloc (.cells #[.slice none 0 0, .slice none 0 0] 50)) ⟨[], []⟩ := by
  subst hb
  refine ⟨nilS, nilS, [], ⟨alloc_last _ _, by simp, owns_nil _ _ _ _, ⟨[], owns_nil _ _ _ _, .nil⟩, ⟨rfl, fun i g f hg => by simp at hg⟩, by simp [hots, ob_nil], fun x hx => ?_⟩⟩
  simp [hots, ob_nil] at hx
  subst hx; simp
theorem fn_cases (wd : ByteArray) : fnOf wd = 29 ∨ fnOf wd = 30 ∨ fnOf wd = 31 ∨ fnOf wd = 32 ∨ fnOf wd = 33 ∨ fnOf wd = 34 := by
  unfold fnOf
  rcases kind_cases wd with h | h | h | h | h | h <;> rw [h] <;> simp
theorem box2 {w : World} {b : Nat} {a0 a1 : Value} {T : TypeId} (h : w.heap[b]? = some (.cells #[a0, a1] T (0, 0))) (x y : Value) :
    (w.setCell ⟨b, 0, none⟩ x).cell? ⟨b, 0, none⟩ = some x ∧ ((w.setCell ⟨b, 0, none⟩ x).setCell ⟨b, 1, none⟩ y).cell? ⟨b, 1, none⟩ = some y := by
  have h1 := heap_set (i := 0) h x
  have h2 := heap_set (i := 1) h1 y
  exact ⟨cell_in h1 0 rfl, cell_in h2 1 rfl⟩
theorem below_set2 {w w1 : World} {B b : Nat} (h : Below B w w1) (hb : B ≤ b) (x y : Value) : Below B w ((w1.setCell ⟨b, 0, none⟩ x).setCell ⟨b, 1, none⟩ y) :=
  (h.setCell (p := ⟨b, 0, none⟩) hb x).setCell (p := ⟨b, 1, none⟩) hb y
/-- What is stored over itself. -/
theorem box_same {w : World} {b : Nat} {T : TypeId} (h : w.heap[b]? = some (.cells #[.int .i64 0, .int .i64 0] T (0, 0))) :
    ((w.setCell ⟨b, 0, none⟩ (.int .i64 0)).setCell ⟨b, 1, none⟩ (.int .i64 0)).heap.size = w.heap.size ∧ ∀ g : Nat, ((w.setCell ⟨b, 0, none⟩ (.int .i64 0)).setCell ⟨b, 1, none⟩ (.int .i64 0)).heap[g]? = w.heap[g]? := by
  refine ⟨by rw [size_set, size_set], fun g => ?_⟩
  by_cases hg : g = b
  · subst hg
    rw [heap_set (heap_set h _) _, h]; rfl
  · rw [Below.heap_setCell _ _ _ _ hg, Below.heap_setCell _ _ _ _ hg]
theorem row_same {w w' : World} {base n k : Nat} {v : Value} {e : TypeId} {xs : List Value} (h : w.ownsRow base e k v n xs) (hs : ∀ g : Nat, w'.heap[g]? = w.heap[g]?) : w'.ownsRow base e k v n xs := by
  refine ⟨h.1, ?_⟩
  rcases h.2 with h0 | ⟨g, cap, cur, hv, hg, hgg, rest⟩
  · exact .inl h0
  · exact .inr ⟨g, cap, cur, hv, hg, (hs g).trans hgg, rest⟩
/-- What the loop of Build keeps. -/
def BI (l : List Lz) (w wr : World) (k : Nat) : Prop := ∃ s : Sx, St (w.heap.size + 1) (w.heap.size + 1) wr s ∧ s.Le k ∧ buildL l = s.run (l.drop k) ∧ Below w.heap.size w wr ∧ wr.heap[w.heap.size]? = some (.cells #[.int .i64 0, .int .i64 0] 28 (0, 0))
theorem run_bad {s : Sx} {x : Lz} {l : List Lz} {e : Int} (h : s.step x = .bad e) : s.run (x :: l) = .bad e x.at_ := by rw [Sx.run, h]
theorem run_ok {s s' : Sx} {x : Lz} {l : List Lz} (h : s.step x = .ok s') : s.run (x :: l) = s'.run l := by rw [Sx.run, h]

set_option maxRecDepth 20000 in
set_option maxHeartbeats 2000000 in
theorem build_any (v : Value) (l : List Lz) (w : World) (hl : l.length ≤ 1000000) (hz : ∀ x ∈ l, x.text.size ≤ 1000000) (hW : LZ w.heap.size w v l) :
    Calls Tryd.prog 7 #[v] w (BuildPost l w) := by
  obtain ⟨a, c, rfl, hc⟩ := hW.slice
  obtain ⟨n, hn⟩ : ∃ n, n = l.length := ⟨_, rfl⟩
  rw [← hn] at hl hc hW
  have HW : Hid (n = l.length ∧ LZ w.heap.size w (.slice a n c) l ∧ ∀ x ∈ l, x.text.size ≤ 1000000) := ⟨hn, hW, hz⟩
  rw [← hn]
  clear hn hW hz
  have HD : Hid (∀ (x : Lz) (W : World), x.text.size ≤ 1000000 → Calls Tryd.prog 16 #[lnV x] W fun e w' => e = .returned (.tuple #[.string (dirW x), .string (dirX x)]) ∧ Below W.heap.size W w') := fun x W h => dir_any x W h
  have HR : Hid (∀ (wd : ByteArray) (W : World), Calls Tryd.prog 17 #[.pointer (some ⟨w.heap.size + 1, 0, none⟩), .string wd] W fun e w' => e = .returned (.func (.func (fnOf wd)) #[.pointer (some ⟨w.heap.size + 1, 0, none⟩)] #[]) ∧ W = w') := fun wd W => reader_any _ wd W
  go_enter Tryd.func7, Tryd.ntmps7
  go_wp2_with fail
  go_loopw [14] (fun vi wr => ∃ k : Nat, k ≤ n ∧ vi = .int .i64 (k : Int) ∧ Hid (BI l w wr k)) (fun vi _ => n - (intOf vi).toNat)
  case atStart =>
    refine ⟨0, Nat.zero_le _, rfl, ⟨[], []⟩, ?_, ⟨Nat.le_refl _, fun f hf => by cases hf⟩, rfl, ((Below.refl _ _).alloc (Nat.le_refl _) _).alloc (by simp) _, ?_⟩
    · exact st_new _ _ (by simp)
    · rw [Below.heap_alloc _ _ _ (by simp)]; exact alloc_last _ _
  case round =>
    obtain ⟨k, hk, rfl, HI⟩ := hrel
    by_cases hlt : k < n
    · have hil : (k : Int) < (n : Int) := by omega
      have hkl : k < l.length := by rw [← HW.out.1]; exact hlt
      obtain ⟨x, hx⟩ : ∃ x, l[k]? = some x := ⟨_, List.getElem?_eq_getElem hkl⟩
      obtain ⟨bb, oo, hbb, hbB, d0, d1, d2⟩ := HW.out.2.1.pick hx
      have hxs := HW.out.2.2 x (List.mem_of_getElem? hx)
      have hdr : l.drop k = x :: l.drop (k + 1) := by
        rw [List.drop_eq_getElem_cons hkl]
        rw [List.getElem?_eq_getElem hkl] at hx
        simp at hx; rw [hx]
      obtain ⟨s, hst, hle, hrun, hbw, hcell⟩ := HI.out
      have c0 := (hbw.cell (p := ⟨bb, oo + k * 3, none⟩) hbB).trans d0
      have c1 := (hbw.cell (p := ⟨bb, oo + k * 3 + 1, none⟩) hbB).trans d1
      have c2 := (hbw.cell (p := ⟨bb, oo + k * 3 + 2, none⟩) hbB).trans d2
      have HDR : Hid (l.drop k = x :: l.drop (k + 1)) := hdr
      subst hbb
      have HDx := HD.out x
      have HDx : Hid _ := HDx
      obtain ⟨wd, hwd⟩ : ∃ wd, wd = dirW x := ⟨_, rfl⟩
      obtain ⟨tx, htx⟩ : ∃ tx, tx = dirX x := ⟨_, rfl⟩
      have HSt : Hid (∀ W, St (w.heap.size + 1) (w.heap.size + 1) W s → Calls Tryd.prog (fnOf wd) #[.pointer (some ⟨w.heap.size + 1, 0, none⟩), lnV x, .string wd, .string tx] W (StepPost (w.heap.size + 1) (w.heap.size + 1) W (s.step x))) := fun W h => by
        rw [hwd, htx]; exact step_any h (Sx.le_mono hle (by omega)) x hxs
      rw [← hwd, ← htx] at HDx
      have HSS : Hid (St (w.heap.size + 1) (w.heap.size + 1) wr s ∧ s.Le k ∧ buildL l = s.run (l.drop k) ∧ Below w.heap.size w wr ∧ wr.heap[w.heap.size]? = some (.cells #[.int .i64 0, .int .i64 0] 28 (0, 0))) := ⟨hst, hle, hrun, hbw, hcell⟩
      have hwl : w.heap.size < wr.heap.size := (Array.getElem?_eq_some_iff.1 hcell).1
      clear d0 d1 d2 hx hdr hst hle hrun hbw hcell hwd htx hbB HD HI
      obtain ⟨xt, xa, xc⟩ := x
      simp only at c0 c1 c2 hxs
      have HRw := HR.out wd
      have hfn := fn_cases wd
      obtain ⟨fn, hfe⟩ : ∃ fn, fn = fnOf wd := ⟨_, rfl⟩
      rw [← hfe] at HRw HSt hfn
      have HRw : Hid _ := HRw
      have HBX : Hid (∀ W, Below (wr.alloc (.cells #[.string xt, .int .i64 xa, .bool xc] 43)).heap.size (wr.alloc (.cells #[.string xt, .int .i64 xa, .bool xc] 43)) W → W.heap[wr.heap.size]? = some (.cells #[.string xt, .int .i64 xa, .bool xc] 43 (0, 0)) ∧ St (w.heap.size + 1) (w.heap.size + 1) W s ∧ Below w.heap.size w W ∧ W.heap[w.heap.size]? = some (.cells #[.int .i64 0, .int .i64 0] 28 (0, 0))) := fun W hW => by
        have hb : Below wr.heap.size wr W := ((Below.refl _ wr).alloc (Nat.le_refl _) _).trans (hW.mono (by simp))
        obtain ⟨vD, vO, G, hst⟩ := HSS.out.1
        exact ⟨(hW.block _ (by simp)).trans (alloc_last _ _), ⟨vD, vO, G, hst.below hb⟩, HSS.out.2.2.2.1.trans (hb.mono HSS.out.2.2.2.1.size), (hb.block _ hwl).trans HSS.out.2.2.2.2⟩
      clear hfe HR
      cases hstep : s.step ⟨xt, xa, xc⟩ with
      | bad e0 =>
        have HF : Hid (buildL l = .bad e0 xa) := by unfold Hid; rw [HSS.out.2.2.1, HDR.out, run_bad hstep]
        have he0 : ¬ e0 = 0 := by rcases step_bad3 hstep with h | h <;> omega
        have he1 : (e0 == 0) = false := by simpa using he0
        rw [hstep] at HSt
        clear hstep
        rcases hfn with rfl | rfl | rfl | rfl | rfl | rfl
        all_goals
          go_wp2_with fail
          refine (HDx.out _ hxs).mono ?_
          rintro e w2 ⟨rfl, h2⟩
          obtain ⟨q1, q2, q3, q4⟩ := HBX.out w2 h2
          have H2 : Hid _ := (⟨q2, q3, q4⟩ : _ ∧ _ ∧ _)
          have f0 := cell_in q1 0 rfl
          have f1 := cell_in q1 1 rfl
          have f2 := cell_in q1 2 rfl
          have HQ1 : Hid _ := q1
          clear h2 q1 q2 q3 q4
          go_wp2_with fail
          refine (HRw.out _).mono ?_
          rintro e w3 ⟨rfl, rfl⟩
          go_wp2_with fail
          refine (HSt.out _ H2.out.1).mono ?_
          rintro e w3 ⟨rfl, h3⟩
          have hB3 : Below w.heap.size w w3 := H2.out.2.1.trans (h3.mono H2.out.2.1.size)
          have z3 : w3.heap[w.heap.size]? = some (.cells #[.int .i64 0, .int .i64 0] 28 (0, 0)) := (h3.block _ (Array.getElem?_eq_some_iff.1 H2.out.2.2).1).trans H2.out.2.2
          have z4 : w3.heap[wr.heap.size]? = some (.cells #[.string xt, .int .i64 xa, .bool xc] 43 (0, 0)) := (h3.block _ (Array.getElem?_eq_some_iff.1 HQ1.out).1).trans HQ1.out
          have g1 : w3.cell? ⟨wr.heap.size, 1, none⟩ = some (.int .i64 xa) := cell_in z4 1 rfl
          have g2 : w3.cell? ⟨w.heap.size, 0, none⟩ = some (.int .i64 0) := cell_in z3 0 rfl
          have g3 : w3.cell? ⟨w.heap.size, 1, none⟩ = some (.int .i64 0) := cell_in z3 1 rfl
          have g4 : w3.frozen? ⟨w.heap.size, 0, none⟩ = false := by simp [World.frozen?, z3]
          have g5 : w3.frozen? ⟨w.heap.size, 1, none⟩ = false := by simp [World.frozen?, z3]
          have HB3 : Hid (Below w.heap.size w w3) := hB3
          have HZ3 : Hid _ := z3
          clear h3 hB3 z3 z4 f0 f1 f2
          have hmix : Tryd.prog.follows .mixedOrders = true := by kernel_rfl
          obtain ⟨j0, j1⟩ := box2 HZ3.out (.int .i64 e0) (.int .i64 xa)
          have j1' : ((w3.setCell ⟨w.heap.size, 0, none⟩ (.int .i64 e0)).setCell ⟨w.heap.size, 1, none⟩ (.int .i64 xa)).drew.cell? ⟨w.heap.size, 1, none⟩ = some (.int .i64 xa) := j1
          have HJ : Hid _ := (⟨j0, j1'⟩ : _ ∧ _)
          clear j0 j1 j1'
          go_wp2_with fail
          go_region_o
          go_wp2_with fail
          obtain ⟨j0, j1'⟩ := HJ.out
          refine bodyPost_ret (v := .tuple #[.slice none 0 0, .agg #[.int .i64 e0, .int .i64 xa]]) (by simp [results, Tryd.results7, go_sem, j0, j1']; try rfl) rfl ?_
          show BuildPost l w _ _
          unfold BuildPost
          rw [HF.out]
          exact ⟨rfl, (below_set2 HB3.out (Nat.le_refl _) _ _).drew⟩
      | ok s' =>
        have HF : Hid (buildL l = s'.run (l.drop (k + 1)) ∧ s'.Le (k + 1)) := ⟨by rw [HSS.out.2.2.1, HDR.out, run_ok hstep], Sx.step_le HSS.out.2.1 hstep⟩
        rw [hstep] at HSt
        clear hstep
        rcases hfn with rfl | rfl | rfl | rfl | rfl | rfl
        all_goals
          go_wp2_with fail
          refine (HDx.out _ hxs).mono ?_
          rintro e w2 ⟨rfl, h2⟩
          obtain ⟨q1, q2, q3, q4⟩ := HBX.out w2 h2
          have H2 : Hid _ := (⟨q2, q3, q4⟩ : _ ∧ _ ∧ _)
          have f0 := cell_in q1 0 rfl
          have f1 := cell_in q1 1 rfl
          have f2 := cell_in q1 2 rfl
          clear h2 q1 q2 q3 q4
          go_wp2_with fail
          refine (HRw.out _).mono ?_
          rintro e w3 ⟨rfl, rfl⟩
          go_wp2_with fail
          refine (HSt.out _ H2.out.1).mono ?_
          rintro e w3 ⟨rfl, h3, h4⟩
          have HBI : Hid (BI l w w3 (k + 1)) := ⟨s', h3, HF.out.2, HF.out.1, H2.out.2.1.trans (h4.mono (by omega)), (h4.block _ (by omega)).trans H2.out.2.2⟩
          clear h3 h4 f0 f1 f2
          go_wp2
          go_roundw
          case rel => exact ⟨k + 1, by omega, by go_num, HBI⟩
          case measure => simp [intOf]; omega
    · have hil : ¬ (k : Int) < (n : Int) := by omega
      obtain ⟨s, ⟨vD, vO, G, hst⟩, hle, hrun, hbw, hcell⟩ := HI.out
      rw [List.drop_of_length_le (by have := HW.out.1; omega)] at hrun
      have hwl : w.heap.size < wr.heap.size := (Array.getElem?_eq_some_iff.1 hcell).1
      have HBW : Hid (Below w.heap.size w wr ∧ wr.heap[w.heap.size]? = some (.cells #[.int .i64 0, .int .i64 0] 28 (0, 0))) := ⟨hbw, hcell⟩
      have e0 := cell_in hcell 0 rfl
      have e1 := cell_in hcell 1 rfl
      have q0 : wr.frozen? ⟨w.heap.size, 0, none⟩ = false := by simp [World.frozen?, hcell]
      have q1 : wr.frozen? ⟨w.heap.size, 1, none⟩ = false := by simp [World.frozen?, hcell]
      obtain ⟨done, op⟩ := s
      rcases List.eq_nil_or_concat op with rfl | ⟨fs, f, rfl⟩
      · have HF : Hid (buildL l = .good done) := hrun
        obtain ⟨aO, cO, hvO⟩ := V.owns_slice hst.rowO
        have hblk := hst.blk
        have hvO : vO = .slice aO 0 cO := hvO
        rw [hvO] at hblk
        have HIN : Hid (Calls Tryd.prog 18 #[.pointer (some ⟨w.heap.size + 1, 0, none⟩)] wr fun e w' => e = .returned (.pointer none) ∧ wr = w') := inner_none _ aO cO wr (cell_in hblk 1 rfl)
        have c0 : wr.cell? ⟨w.heap.size + 1, 0, none⟩ = some vD := cell_in hblk 0 rfl
        obtain ⟨aD, cD, hvD⟩ := V.owns_slice (show wr.ownsRow _ _ _ vD _ _ from hst.rowD.choose_spec.1)
        have HST : Hid _ := hst
        obtain ⟨g0, g1⟩ := box2 hcell (.int .i64 0) (.int .i64 0)
        have HGG : Hid _ := (⟨g0, g1⟩ : _ ∧ _)
        subst hvD
        clear hst hblk hrun hle hbw hcell HI HD HR g0 g1
        go_wp2_with fail
        refine HIN.out.mono ?_
        rintro e w' ⟨rfl, rfl⟩
        go_wp2_with fail
        obtain ⟨g0, g1⟩ := HGG.out
        refine bodyPost_ret (v := .tuple #[.slice aD done.length cD, .agg #[.int .i64 0, .int .i64 0]]) (by simp [results, Tryd.results7, go_sem, g0, g1]; try rfl) rfl ?_
        show BuildPost l w _ _
        unfold BuildPost
        rw [HF.out]
        refine ⟨_, rfl, ?_, below_set2 HBW.out.1 (Nat.le_refl _) _ _⟩
        have hsame := box_same HBW.out.2
        obtain ⟨hs1, hs2⟩ := hsame
        exact HST.out.rowD.cold ⟨Nat.le_of_eq hs1.symm, fun g _ _ => hs2 g, fun g _ h => h.elim⟩ (fun n xs hr => row_same hr hs2) (fun g _ h => h.elim)
      · rw [List.concat_eq_append] at hst hrun
        have HF : Hid (buildL l = .bad 4 f.line.at_) := by unfold Hid; rw [hrun, Sx.run]; simp
        obtain ⟨G0, g, gO, cO, cur, rfl, hfr, hfm, hvO, hcO, hcur, h31, hi⟩ := inner_at hst
        have hblk := hst.blk
        rw [hvO] at hblk
        have HIN : Hid (Calls Tryd.prog 18 #[.pointer (some ⟨w.heap.size + 1, 0, none⟩)] wr fun e w' => e = .returned (.pointer (some ⟨gO, fs.length * 8, none⟩)) ∧ ∃ q, w' = wr.drewN q) := inner_some _ gO fs.length cO wr (by omega) (cell_in hblk 1 rfl)
        have HAT : Hid (∀ q, (wr.drewN q).cell? ⟨gO, fs.length * 8 + 2, none⟩ = some (.int .i64 f.line.at_)) := fun q => cell_in hcur _ (hi 2 _ (by
          cases f with
          | cn l0 bs w0 t0 a0 ks => obtain ⟨vB', vK', css, q1, _⟩ := hfm; rw [q1]; rfl
          | fr l0 ns li0 ks => obtain ⟨vN', vK', q1, _⟩ := hfm; rw [q1]; rfl))
        obtain ⟨aa, haa⟩ : ∃ aa, aa = f.line.at_ := ⟨_, rfl⟩
        obtain ⟨m, hm⟩ : ∃ m, m = fs.length := ⟨_, rfl⟩
        rw [← haa] at HAT HF
        rw [← hm] at HAT HIN
        have HCL : Hid _ := hcell
        clear hst hblk hrun hle hbw hcell HI HD HR hfr hfm hvO hcO hcur h31 hi haa hm
        go_wp2_with fail
        refine HIN.out.mono ?_
        rintro e w' ⟨rfl, q, rfl⟩
        obtain ⟨w3, hw3⟩ : ∃ w3, w3 = wr.drewN q := ⟨_, rfl⟩
        have z3 : w3.heap[w.heap.size]? = some (.cells #[.int .i64 0, .int .i64 0] 28 (0, 0)) := by rw [hw3]; exact HCL.out
        have HB3 : Hid (Below w.heap.size w w3) := by rw [hw3]; exact HBW.out.1.trans (((Fr.drewN (D := fun _ => False) wr q).to_below (Nat.le_refl _) (fun _ h => h.elim)).mono HBW.out.1.size)
        have g1 : w3.cell? ⟨gO, m * 8 + 2, none⟩ = some (.int .i64 aa) := by rw [hw3]; exact HAT.out q
        rw [← hw3]
        have g2 : w3.cell? ⟨w.heap.size, 0, none⟩ = some (.int .i64 0) := cell_in z3 0 rfl
        have g3 : w3.cell? ⟨w.heap.size, 1, none⟩ = some (.int .i64 0) := cell_in z3 1 rfl
        have g4 : w3.frozen? ⟨w.heap.size, 0, none⟩ = false := by simp [World.frozen?, z3]
        have g5 : w3.frozen? ⟨w.heap.size, 1, none⟩ = false := by simp [World.frozen?, z3]
        have hmix : Tryd.prog.follows .mixedOrders = true := by kernel_rfl
        obtain ⟨j0, j1⟩ := box2 z3 (.int .i64 4) (.int .i64 aa)
        have j1' : ((w3.setCell ⟨w.heap.size, 0, none⟩ (.int .i64 4)).setCell ⟨w.heap.size, 1, none⟩ (.int .i64 aa)).drew.cell? ⟨w.heap.size, 1, none⟩ = some (.int .i64 aa) := j1
        have HJ : Hid _ := (⟨j0, j1'⟩ : _ ∧ _)
        clear j0 j1 j1' hw3 e0 e1 q0 q1 z3
        go_wp2_with fail
        go_region_o
        go_wp2_with fail
        obtain ⟨j0, j1'⟩ := HJ.out
        refine bodyPost_ret (v := .tuple #[.slice none 0 0, .agg #[.int .i64 4, .int .i64 aa]]) (by simp [results, Tryd.results7, go_sem, j0, j1']; try rfl) rfl ?_
        show BuildPost l w _ _
        unfold BuildPost
        rw [HF.out]
        exact ⟨rfl, (below_set2 HB3.out (Nat.le_refl _) _ _).drew⟩
end Go.Proofs.YtbciedpjaajhcaaDoor
