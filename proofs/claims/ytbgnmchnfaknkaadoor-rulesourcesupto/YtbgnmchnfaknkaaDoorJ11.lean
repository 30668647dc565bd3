/-
  Join of any rules.
-/
import Derived.Test.YtbgnmchnfaknkaaDoorJ10
namespace Go.Proofs.YtbgnmchnfaknkaaDoor
open Go.RowKit Go.Shelf Go.Maps

theorem lim_tot {m : Nat} {l : List Q.Ru} (h : Lim m l) (k : Nat) : Q.tot (l.take k) ≤ 400 := Nat.le_trans (tot_le l k) h.tot
theorem lim_row {m : Nat} {l : List Q.Ru} (h : Lim m l) {r : Q.Ru} (hr : r ∈ l) : r.targets.length ≤ 400 := by
  obtain ⟨k, hk⟩ := List.mem_iff_getElem?.1 hr
  have := tot_take l k r hk
  have := lim_tot h (k + 1)
  omega
theorem sz_big {m : Nat} {l : List Q.Ru} (h : Lim m l) {t : Nat} (ht : t ≤ 400) {es : List Q.Ru} (hs : Q.Sz (t * m) es) : ∀ e ∈ es, e.sources.length ≤ 500000000000 ∧ e.commands.length ≤ 500000000000 := by
  intro e he
  have h1 := hs e he
  have hm := h.m
  have : t * m ≤ 400 * 1000000000 := Nat.mul_le_mul ht hm
  omega
theorem ji_next {m : Nat} {l : List Q.Ru} {w wr : World} {k : Nat} {r : Q.Ru} {x : Nat} {bx : Array Value} {j : Nat} (hr : l[k]? = some r) (hj : j = r.targets.length) (h : JI2 m l w k r x bx j wr) : JI m l w (k + 1) wr := by
  subst hj
  obtain ⟨vr, es, K, h1, h2, h3, h4, h5, h6⟩ := h.js
  rw [List.drop_length] at h6
  rw [← tot_take l k r hr] at h3 h4 h5
  exact ⟨h.below, h.flt, vr, es, K, h1, h3, h4, h5, h6⟩
theorem ji_start {m : Nat} {l : List Q.Ru} {w wo w2 : World} {k : Nat} {r : Q.Ru} {bx : Array Value} {vr : Value} {es : List JE} {K : Nat} (hI : JI m l w k wo) (hJ : JS (w.heap.size + 1) (w.heap.size + 1 + 1) (w.heap.size + 1) vr es K wo) (hb : Below wo.heap.size wo w2) (hx : w2.heap[wo.heap.size]? = some (.cells bx 24 (0, 0)))
    (hK : K ≤ Q.tot (l.take k)) (hes : es.length ≤ Q.tot (l.take k)) (hsz : Q.Sz (Q.tot (l.take k) * m) (es.map JE.r)) (hE : Q.joinL classF [] l = Q.joinL classF (Q.addAll r (es.map JE.r) r.targets) (l.drop (k + 1))) : JI2 m l w k r wo.heap.size bx 0 w2 := by
  have hwo : w.heap.size < wo.heap.size := (Array.getElem?_eq_some_iff.1 hI.flt).1
  have h1 : w.heap.size + 1 + 1 < wo.heap.size := (Array.getElem?_eq_some_iff.1 hJ.blk).1
  refine ⟨below_trans hI.below hb (Nat.le_of_lt hwo), (hb.block _ hwo).trans hI.flt, hx, vr, es, K, hJ.below hb, ⟨by omega, by have := hJ.map.lt; omega, fun h => ?_, fun i e c he hc h => ?_⟩, hK, hes, hsz, hE⟩
  · have := (row_has hJ.row _ h).2; omega
  · have := (row_has (hJ.own i e c he hc) _ h).2; omega

def fin2 (W : World) (s : Nat) (x y : Value) : World := (W.setCell ⟨s, 0, none⟩ x).setCell ⟨s, 1, none⟩ y
theorem fin2_heap {W : World} {s : Nat} {a b : Value} {T : TypeId} (h : W.heap[s]? = some (.cells #[a, b] T (0, 0))) (x y : Value) : (fin2 W s x y).heap[s]? = some (.cells #[x, y] T (0, 0)) := by
  unfold fin2; rw [heap_set (heap_set h x)]; simp
theorem fin2_fr (W : World) (s : Nat) (x y : Value) : Fr (fun j => j = s) W (fin2 W s x y) := (Fr.set (D := fun j => j = s) s 0 W x rfl).trans (Fr.set (D := fun j => j = s) s 1 _ y rfl)
theorem join_ok {l : List Q.Ru} {w wr : World} {vr : Value} {es : List JE} {K : Nat} (hb : Below w.heap.size w wr) (hJ : JS (w.heap.size + 1) (w.heap.size + 1 + 1) (w.heap.size + 1) vr es K wr) (hE : Q.joinL classF [] l = (some (es.map JE.r), 0)) :
    JoinPost l w (.returned (.tuple #[vr, .agg #[.int .i64 0, .int .i64 0]])) (fin2 wr w.heap.size (.int .i64 0) (.int .i64 0)) := by
  have f := fin2_fr wr w.heap.size (.int .i64 0) (.int .i64 0)
  have hJ' := hJ.fr f (by omega) (by omega) (fun g hg h => by have := (row_has hJ.row g hg).1; omega) (fun i e c g he hc hg h => by have := (row_has (hJ.own i e c he hc) g hg).1; omega)
  refine ⟨vr, 0, 0, rfl, below_trans hb (f.below hb.size (fun j h => by omega)) (Nat.le_refl _), fun a ha => ?_, fun h => ?_⟩
  · rw [hE] at ha; cases ha
    exact ⟨rfl, rfl, hJ'.list⟩
  · rw [hE] at h; cases h
theorem join_bad {l : List Q.Ru} {w wr : World} {ra : Int} (hb : Below w.heap.size w wr) (hE : Q.joinL classF [] l = (none, ra)) :
    JoinPost l w (.returned (.tuple #[.slice none 0 0, .agg #[.int .i64 14, .int .i64 ra]])) (fin2 wr w.heap.size (.int .i64 14) (.int .i64 ra)) := by
  have f := fin2_fr wr w.heap.size (.int .i64 14) (.int .i64 ra)
  refine ⟨_, 14, ra, rfl, below_trans hb (f.below hb.size (fun j h => by omega)) (Nat.le_refl _), fun a ha => ?_, fun _ => ⟨rfl, rfl⟩⟩
  rw [hE] at ha; cases ha

set_option maxRecDepth 20000 in
set_option maxHeartbeats 2000000 in
theorem join_any (m : Nat) (l : List Q.Ru) (v : Value) (B : Nat) (w : World) (hv : RLst B w v l) (hB : B ≤ w.heap.size) (hl : Lim m l) :
    Calls Tryd.prog 13 #[v] w (JoinPost l w) := by
  obtain ⟨a, n, c, rfl⟩ : ∃ a n c, v = .slice a n c := by obtain ⟨a, n, c, h, _⟩ := hv; exact ⟨a, n, c, h⟩
  have hn := hv.len
  have hnl := hl.len
  rw [← hn.1] at hnl
  have hcap := hn.2
  have HV : Hid (RLst B w (.slice a n c) l ∧ B ≤ w.heap.size ∧ Lim m l ∧ n = l.length) := ⟨hv, hB, hl, hn.1⟩
  clear hv hB hl hn
  have hmm := @run_makeMap Tryd.prog
  obtain ⟨W0, hW0⟩ : ∃ W0, W0 = ((w.alloc (.cells #[.int .i64 0, .int .i64 0] 27)).alloc (.map #[] 0)).alloc (.cells #[.slice none 0 0, .map (some (w.heap.size + 1))] 56) := ⟨_, rfl⟩
  have H0 : Hid (JI m l w 0 W0) := by
    have e1 : W0.heap[w.heap.size]? = some (.cells #[.int .i64 0, .int .i64 0] 27 (0, 0)) := by
      rw [hW0, Below.heap_alloc _ _ _ (by simp; omega), Below.heap_alloc _ _ _ (by simp)]; exact alloc_b rfl
    have e2 : W0.heap[w.heap.size + 1]? = some (.map #[] 0) := by
      rw [hW0, Below.heap_alloc _ _ _ (by simp)]; exact alloc_b (by simp)
    have e3 : W0.heap[w.heap.size + 1 + 1]? = some (.cells #[.slice none 0 0, .map (some (w.heap.size + 1))] 56 (0, 0)) := by
      rw [hW0]; exact alloc_b (by simp)
    refine ⟨by rw [hW0]; exact (below_two _ _ _).alloc (by simp; omega) _, e1, .slice none 0 0, [], 0, ⟨e3, .empty e2, ⟨rfl, .inl ⟨rfl, rfl⟩⟩, by simp, by simp, by omega, by omega, by rw [hW0]; simp⟩, by simp [Q.tot], by simp [Q.tot], by intro x hx; simp at hx, rfl⟩
  go_enter Tryd.func13, Tryd.ntmps13
  go_wp2_with fail
  rw [← hW0]
  clear hW0
  go_loopw [13] (fun vi wr => ∃ k : Nat, k ≤ n ∧ vi = .int .i64 k ∧ Hid (JI m l w k wr)) (fun vi _ => n - (intOf vi).toNat)
  case atStart => exact ⟨0, Nat.zero_le _, rfl, H0.out⟩
  case round =>
    obtain ⟨k, hk, rfl, HI⟩ := hrel
    obtain ⟨wo, rfl⟩ : ∃ wo : World, wo = wr := ⟨_, rfl⟩
    by_cases hlt : k < n
    · have hkl : k < l.length := by rw [← HV.out.2.2.2]; exact hlt
      have hil : (k : Int) < (n : Int) := by omega
      obtain ⟨r, hr⟩ : ∃ r, l[k]? = some r := ⟨l[k], List.getElem?_eq_some_iff.2 ⟨hkl, rfl⟩⟩
      obtain ⟨vr, es, K, hJ, hK, hes, hsz, hE⟩ := HI.out.js
      rw [joinL_drop _ _ _ _ _ hr] at hE
      obtain ⟨b, o, ta, tn, tc, sa, sn, sc, ca, cn, cc, rfl, hbB, p0', p1', p2', p3', p4', w0, w1, w2⟩ := HV.out.1.pick hr
      have hbw : b < w.heap.size := Nat.lt_of_lt_of_le hbB HV.out.2.1
      have p0 := (HI.out.below.cell (p := ⟨b, o + k * 5, none⟩) hbw).trans p0'
      have p1 := (HI.out.below.cell (p := ⟨b, o + k * 5 + 1, none⟩) hbw).trans p1'
      have p2 := (HI.out.below.cell (p := ⟨b, o + k * 5 + 2, none⟩) hbw).trans p2'
      have p3 := (HI.out.below.cell (p := ⟨b, o + k * 5 + 3, none⟩) hbw).trans p3'
      have p4 := (HI.out.below.cell (p := ⟨b, o + k * 5 + 4, none⟩) hbw).trans p4'
      clear p0' p1' p2' p3' p4'
      have htn : tn = r.targets.length := by have := w0.len.1; rwa [List.length_map] at this
      obtain ⟨kr, hkr⟩ : ∃ k, k = r.kind := ⟨_, rfl⟩
      obtain ⟨ra, hra⟩ : ∃ n, n = r.at_ := ⟨_, rfl⟩
      have hrv : RuV B w (.agg #[.slice ta tn tc, .int .i64 kr, .slice sa sn sc, .slice ca cn cc, .int .i64 ra]) r := ⟨_, _, _, by rw [hkr, hra], w0, w1, w2⟩
      rw [← hkr] at p1
      rw [← hra] at p4 hE
      obtain ⟨W1, hW1⟩ : ∃ W1, W1 = wo.alloc (.cells #[.slice ta tn tc, .int .i64 kr, .slice sa sn sc, .slice ca cn cc, .int .i64 ra] 24) := ⟨_, rfl⟩
      have hB1 : Below wo.heap.size wo W1 := by rw [hW1]; exact below_alloc1 _ _
      have hJ1 := hJ.below hB1
      have hwB : B ≤ wo.heap.size := Nat.le_trans HV.out.2.1 HI.out.below.size
      have hrv1 : RuV B W1 (.agg #[.slice ta tn tc, .int .i64 kr, .slice sa sn sc, .slice ca cn cc, .int .i64 ra]) r := (hrv.below (HI.out.below.mono HV.out.2.1)).below (hB1.mono hwB)
      have hrm : r ∈ l := List.mem_of_getElem? hr
      have HC : Hid (Calls Tryd.prog 28 #[.pointer (some ⟨w.heap.size + 1 + 1, 0, none⟩), .agg #[.slice ta tn tc, .int .i64 kr, .slice sa sn sc, .slice ca cn cc, .int .i64 ra]] W1 fun x w' => x = .returned (.bool (Q.clashesR classF (es.map JE.r) r)) ∧ Below W1.heap.size W1 w') :=
        clashes_any _ _ _ vr es K r _ B W1 hJ1 hrv1 (Nat.le_trans hwB hB1.size) (HV.out.2.2.1.names r hrm) (by have := lim_row HV.out.2.2.1 hrm; omega)
      have hbx1 : W1.heap[wo.heap.size]? = some (.cells #[.slice ta tn tc, .int .i64 kr, .slice sa sn sc, .slice ca cn cc, .int .i64 ra] 24 (0, 0)) := by rw [hW1]; exact alloc_b rfl
      have x0 := cell_in hbx1 0 rfl
      have x1 := cell_in hbx1 1 rfl
      have x2 := cell_in hbx1 2 rfl
      have x3 := cell_in hbx1 3 rfl
      have x4 := cell_in hbx1 4 rfl
      have HW : Hid (JS (w.heap.size + 1) (w.heap.size + 1 + 1) (w.heap.size + 1) vr es K W1 ∧ Below wo.heap.size wo W1 ∧ W1.heap[wo.heap.size]? = some (.cells #[.slice ta tn tc, .int .i64 kr, .slice sa sn sc, .slice ca cn cc, .int .i64 ra] 24 (0, 0)) ∧ RuV B w (.agg #[.slice ta tn tc, .int .i64 kr, .slice sa sn sc, .slice ca cn cc, .int .i64 ra]) r ∧ Words B w (.slice ta tn tc) (r.targets.map ba)) := ⟨hJ1, hB1, hbx1, hrv, w0⟩
      have HR : Hid (l[k]? = some r ∧ tn = r.targets.length ∧ ra = r.at_) := ⟨hr, htn, hra⟩
      have HJE : Hid (K ≤ Q.tot (l.take k) ∧ es.length ≤ Q.tot (l.take k) ∧ Q.Sz (Q.tot (l.take k) * m) (es.map JE.r) ∧ JS (w.heap.size + 1) (w.heap.size + 1 + 1) (w.heap.size + 1) vr es K wo) := ⟨hK, hes, hsz, hJ⟩
      clear hbx1 hrv hrv1 hJ1 hB1 w0 w1 w2 hkr hra hK hes hsz hrm hr htn hJ H0
      cases hc : Q.clashesR classF (es.map JE.r) r with
      | true =>
        rw [hc] at HC
        rw [hc, if_pos rfl] at hE
        have HE : Hid (Q.joinL classF [] l = (none, ra)) := hE
        clear hE hc
        go_upto_region 5 with fail
        rw [← hW1]
        clear hW1
        go_wp2_with fail
        refine HC.out.mono ?_
        rintro e w2 ⟨rfl, hb2⟩
        have hw1 : wo.heap.size < W1.heap.size := (Array.getElem?_eq_some_iff.1 HW.out.2.2.1).1
        have hbr := (hb2.block _ hw1).trans HW.out.2.2.1
        have g4 := cell_in hbr 4 rfl
        have hwo : w.heap.size < wo.heap.size := (Array.getElem?_eq_some_iff.1 HI.out.flt).1
        have hflt := (hb2.block w.heap.size (by omega)).trans ((HW.out.2.1.block _ hwo).trans HI.out.flt)
        have HB2 : Hid (Below w.heap.size w w2) := below_trans (below_trans HI.out.below HW.out.2.1 HI.out.below.size) hb2 (by have := HI.out.below.size; omega)
        have f0 := cell_in hflt 0 rfl
        have f1 := cell_in hflt 1 rfl
        have fz0 : w2.frozen? ⟨w.heap.size, 0, none⟩ = false := by simp [World.frozen?, hflt]
        have fz1 : w2.frozen? ⟨w.heap.size, 1, none⟩ = false := by simp [World.frozen?, hflt]
        have HP : Hid (JoinPost l w (.returned (.tuple #[.slice none 0 0, .agg #[.int .i64 14, .int .i64 ra]])) (fin2 w2.drew w.heap.size (.int .i64 14) (.int .i64 ra))) := join_bad (below_drewN HB2.out 1) HE.out
        have q7 := fin2_heap (W := w2.drew) hflt (.int .i64 14) (.int .i64 ra)
        clear hb2 hbr hflt x0 x1 x2 x3 x4 HC hw1 hwo
        go_wp2_with fail
        go_region_with (fail)
        go_wp2_with fail
        change bodyPost Tryd.prog _ _ _ _ (fin2 w2.drew w.heap.size (.int .i64 14) (.int .i64 ra))
        generalize fin2 w2.drew w.heap.size (.int .i64 14) (.int .i64 ra) = w7 at q7 HP ⊢
        have c0 := cell_in q7 0 rfl
        have c1 := cell_in q7 1 rfl
        refine bodyPost_ret (v := .tuple #[.slice none 0 0, .agg #[.int .i64 14, .int .i64 ra]]) (by simp [results, Tryd.results13, go_sem, c0, c1]; try rfl) rfl ?_
        exact HP.out
      | false =>
        rw [hc] at HC
        rw [hc, if_neg (by simp)] at hE
        have HE : Hid (Q.joinL classF [] l = _) := hE
        clear hE hc
        go_upto_region 5 with fail
        rw [← hW1]
        clear hW1
        go_wp2_with fail
        refine HC.out.mono ?_
        rintro e w2 ⟨rfl, hb2⟩
        have hw1 : wo.heap.size < W1.heap.size := (Array.getElem?_eq_some_iff.1 HW.out.2.2.1).1
        have hbr := (hb2.block _ hw1).trans HW.out.2.2.1
        have H2 : Hid (JI2 m l w k r wo.heap.size #[.slice ta tn tc, .int .i64 kr, .slice sa sn sc, .slice ca cn cc, .int .i64 ra] 0 w2) := ji_start HI.out HJE.out.2.2.2 (below_trans HW.out.2.1 hb2 (Nat.le_of_lt hw1)) hbr HJE.out.1 HJE.out.2.1 HJE.out.2.2.1 HE.out
        have g0 := cell_in hbr 0 rfl
        obtain ⟨xb, hxb⟩ : ∃ xb, xb = wo.heap.size := ⟨_, rfl⟩
        rw [← hxb] at H2 g0 ⊢
        have htl : tn ≤ 400 := by rw [HR.out.2.1]; exact lim_row HV.out.2.2.1 (List.mem_of_getElem? HR.out.1)
        have htc := HW.out.2.2.2.2.len.2
        clear hb2 hbr x0 x1 x2 x3 x4 HC hw1 hxb HE
        go_wp2_with fail
        go_loopw [25] (fun vi wr => ∃ j : Nat, j ≤ tn ∧ vi = .int .i64 j ∧ Hid (JI2 m l w k r xb #[.slice ta tn tc, .int .i64 kr, .slice sa sn sc, .slice ca cn cc, .int .i64 ra] j wr)) (fun vi _ => tn - (intOf vi).toNat)
        case atStart => exact ⟨0, Nat.zero_le _, rfl, H2.out⟩
        case round =>
          obtain ⟨j, hj, rfl, HX⟩ := hrel
          by_cases hjt : j < tn
          · have hjl : j < r.targets.length := by rw [← HR.out.2.1]; exact hjt
            have hji : (j : Int) < (tn : Int) := by omega
            obtain ⟨bt, ot, rfl, hbt, hct⟩ := HW.out.2.2.2.2.pick j (by rw [List.length_map]; exact hjl)
            rw [List.getElem_map] at hct
            have hct' : wr.cell? ⟨bt, ot + j, none⟩ = some (.string (ba r.targets[j])) := (HX.out.below.cell (p := ⟨bt, ot + j, none⟩) (Nat.lt_of_lt_of_le hbt HV.out.2.1)).trans hct
            obtain ⟨vr2, es2, K2, hJ2, hno2, hK2, hes2, hsz2, hE2⟩ := HX.out.js
            have htot : Q.tot (l.take k) + j ≤ 400 := by
              have := tot_take l k r HR.out.1
              have := lim_tot HV.out.2.2.1 (k + 1)
              omega
            have hmem := List.mem_of_getElem? HR.out.1
            have hnm := HV.out.2.2.1.names r hmem _ (List.getElem_mem hjl)
            have hmm2 := HV.out.2.2.1.sz r hmem
            have hm9 := HV.out.2.2.1.m
            have HA := add_any (w.heap.size + 1) (w.heap.size + 1 + 1) (w.heap.size + 1) vr2 es2 K2 (ba r.targets[j]) r _ B wr hJ2 (HW.out.2.2.2.1.below (HX.out.below.mono HV.out.2.1)) (Nat.le_succ_of_le HV.out.2.1) (by rw [ba_size]; exact hnm) (by omega) (by omega) (sz_big HV.out.2.2.1 htot hsz2) (by omega)
            have HA' : Hid (Calls Tryd.prog 29 #[.pointer (some ⟨w.heap.size + 1 + 1, 0, none⟩), .string (ba r.targets[j]), .agg #[.slice (some ⟨bt, ot, none⟩) tn tc, .int .i64 kr, .slice sa sn sc, .slice ca cn cc, .int .i64 ra]] wr (AddPost (w.heap.size + 1) (w.heap.size + 1 + 1) (w.heap.size + 1) vr2 es2 K2 (ba r.targets[j]) r wr)) := HA
            have HN : Hid (∀ e w', AddPost (w.heap.size + 1) (w.heap.size + 1 + 1) (w.heap.size + 1) vr2 es2 K2 (ba r.targets[j]) r wr e w' → JI2 m l w k r xb #[.slice (some ⟨bt, ot, none⟩) tn tc, .int .i64 kr, .slice sa sn sc, .slice ca cn cc, .int .i64 ra] (j + 1) w') := fun e w' hP => ji_add HV.out.2.2.1 HR.out.1 hjl HX.out hno2 hK2 hes2 hsz2 hE2 hP
            have x0 := cell_in HX.out.box 0 rfl
            have x1 := cell_in HX.out.box 1 rfl
            have x2 := cell_in HX.out.box 2 rfl
            have x3 := cell_in HX.out.box 3 rfl
            have x4 := cell_in HX.out.box 4 rfl
            obtain ⟨tt, htt⟩ : ∃ tt, tt = ba r.targets[j] := ⟨_, rfl⟩
            rw [← htt] at hct' HA' HN
            clear hct hJ2 hno2 hK2 hes2 hsz2 hE2 htot hmem hnm hmm2 hm9 HA htt
            go_wp2_with fail
            refine HA'.out.mono ?_
            intro e w3 hP
            have HP3 : Hid (JI2 m l w k r xb #[.slice (some ⟨bt, ot, none⟩) tn tc, .int .i64 kr, .slice sa sn sc, .slice ca cn cc, .int .i64 ra] (j + 1) w3) := HN.out e w3 hP
            obtain ⟨rfl, _⟩ := hP
            clear HN HA' x0 x1 x2 x3 x4 hct'
            go_wp2_with fail
            go_roundw
            case rel => exact ⟨j + 1, by omega, by go_num, HP3.out⟩
            case measure => simp [intOf]; omega
          · have hjn : ¬ (j : Int) < (tn : Int) := by omega
            have HN : Hid (JI m l w (k + 1) wr) := ji_next HR.out.1 (by rw [← HR.out.2.1]; omega) HX.out
            go_wp2_with fail
            go_roundw
            case rel => exact ⟨k + 1, by omega, by go_num, HN.out⟩
            case measure => simp [intOf]; omega
    · have hnl : ¬ (k : Int) < (n : Int) := by omega
      obtain ⟨vr, es, K, hJ, hK, hes, hsz, hE⟩ := HI.out.js
      rw [List.drop_of_length_le (by rw [← HV.out.2.2.2]; omega)] at hE
      have HE : Hid (Q.joinL classF [] l = (some (es.map JE.r), 0)) := hE
      have HJ : Hid (JS (w.heap.size + 1) (w.heap.size + 1 + 1) (w.heap.size + 1) vr es K wo) := hJ
      have jc := cell_in hJ.blk 0 rfl
      have f0 := cell_in HI.out.flt 0 rfl
      have f1 := cell_in HI.out.flt 1 rfl
      have fz0 : wo.frozen? ⟨w.heap.size, 0, none⟩ = false := by simp [World.frozen?, HI.out.flt]
      have fz1 : wo.frozen? ⟨w.heap.size, 1, none⟩ = false := by simp [World.frozen?, HI.out.flt]
      have HP : Hid (JoinPost l w (.returned (.tuple #[vr, .agg #[.int .i64 0, .int .i64 0]])) (fin2 wo w.heap.size (.int .i64 0) (.int .i64 0))) := join_ok HI.out.below hJ HE.out
      have q7 := fin2_heap HI.out.flt (.int .i64 0) (.int .i64 0)
      clear hE hJ hsz
      go_wp2_with fail
      change bodyPost Tryd.prog _ _ _ _ (fin2 wo w.heap.size (.int .i64 0) (.int .i64 0))
      generalize fin2 wo w.heap.size (.int .i64 0) (.int .i64 0) = w7 at q7 HP ⊢
      have c0 := cell_in q7 0 rfl
      have c1 := cell_in q7 1 rfl
      refine bodyPost_ret (v := .tuple #[vr, .agg #[.int .i64 0, .int .i64 0]]) (by simp [results, Tryd.results13, go_sem, c0, c1]; try rfl) rfl ?_
      exact HP.out
end Go.Proofs.YtbgnmchnfaknkaaDoor
