/-
  add, where the target is there already and the rule is not Double.
-/
import Derived.Test.YtbgnmchnfaknkaaDoorJ7
import Derived.Deep.Cut
namespace Go.Proofs.YtbgnmchnfaknkaaDoor
open Go.RowKit Go.Shelf Go.Maps

/-- What add leaves. -/
def AddPost (base bj bm : Nat) (vr : Value) (es : List JE) (K : Nat) (t : ByteArray) (r : Q.Ru) (w : World) (x : Ending) (w' : World) : Prop :=
  x = .returned (.tuple #[]) ∧ ∃ vr' es' K', K' ≤ K + 1 ∧ JS base bj bm vr' es' K' w' ∧ es'.map JE.r = Q.addR r (es.map JE.r) (bl t) ∧ Below base w w' ∧ Keeps bj bm vr es vr' es' w w'

set_option maxRecDepth 20000 in
set_option maxHeartbeats 1000000 in
theorem add_old (base bj bm : Nat) (vr : Value) (es : List JE) (K : Nat) (t : ByteArray) (r : Q.Ru) (v : Value) (B : Nat) (w : World) (hJ : JS base bj bm vr es K w) (hv : RuV B w v r) (hB : B ≤ base) (hz : t.size ≤ 140737488355328)
    (i : Nat) (hf : Q.lastI (bl t) (es.map JE.r) = some i) (hk : r.kind ≠ 3) (hsz : ∀ e ∈ es.map JE.r, e.sources.length ≤ 500000000000 ∧ e.commands.length ≤ 500000000000) (hs2 : r.sources.length ≤ 500000000000 ∧ r.commands.length ≤ 500000000000) :
    Calls Tryd.prog 29 #[.pointer (some ⟨bj, 0, none⟩), .string t, v] w (AddPost base bj bm vr es K t r w) := by
  obtain ⟨x, hei', hgx⟩ := Q.lastI_some hf
  obtain ⟨e, hei, hxe⟩ : ∃ e, es[i]? = some e ∧ e.r = x := by
    rw [List.getElem?_map] at hei'
    cases h : es[i]? with
    | none => rw [h] at hei'; simp at hei'
    | some e => rw [h] at hei'; simp at hei'; exact ⟨e, rfl, hei'⟩
  subst hxe
  have hadd : Q.addR r (es.map JE.r) (bl t) = (es.set i ⟨e.vt, e.vs, e.vc, Q.extR e.r r⟩).map JE.r := by
    unfold Q.addR
    rw [hf]
    simp only [hei']
    rw [if_neg hk, List.map_set]
  have hJ0 := hJ
  obtain ⟨g, cap, cur, hvr, hg, hcur⟩ : ∃ g cap cur, vr = .slice (some ⟨g, 0, none⟩) es.length cap ∧ base ≤ g ∧ w.heap[g]? = some (.cells cur 24 (0, 0)) := by
    obtain ⟨hxl, ⟨hv, hn⟩ | ⟨g, cap, cur, hv, hg, hcur, _⟩⟩ := hJ.row
    · rw [List.length_eq_zero_iff.1 hn] at hei; simp at hei
    · exact ⟨g, cap, cur, hv, hg, hcur⟩
  have hil : i < es.length := (List.getElem?_eq_some_iff.1 hei).1
  subst hvr
  have hcell : ∀ j u, j < 5 → e.cells[j]? = some u → cur[i * 5 + j]? = some u := by
    obtain ⟨hxl, ⟨hv, hn⟩ | ⟨g', cap', cur', hv, hg', hcur', hcap, hcm, hcs, hct⟩⟩ := hJ.row
    · cases hv
    · simp only [Value.slice.injEq, Option.some.injEq, Addr.mk.injEq, and_true, true_and] at hv
      obtain ⟨rfl, rfl⟩ := hv
      rw [hcur] at hcur'
      cases hcur'
      intro j u hj hu
      have h1 : (es.flatMap JE.cells)[i * 5 + j]? = some u := by rw [fl_get JE.cells 5 cells_len es i j e hei hj]; exact hu
      rw [← hct, List.getElem?_take] at h1
      split at h1
      · rw [Array.getElem?_toList] at h1; exact h1
      · cases h1
  obtain ⟨ta, tc, sa, sc, ca, cc, rfl, w0, w1, w2⟩ := hv.open
  have hszE := hsz e.r (List.mem_of_getElem? hei')
  have HX : Hid (∀ W, Below w.heap.size w W → Calls Tryd.prog 49 #[.pointer (some ⟨g, i * 5, none⟩), .agg #[.slice ta r.targets.length tc, .int .i64 r.kind, .slice sa r.sources.length sc, .slice ca r.commands.length cc, .int .i64 r.at_]] W fun x w' => x = .returned (.tuple #[]) ∧ ∃ vs' vc', JS base bj bm (.slice (some ⟨g, 0, none⟩) es.length cap) (es.set i ⟨e.vt, vs', vc', Q.extR e.r r⟩) K w' ∧ Below base W w' ∧ Keeps bj bm (.slice (some ⟨g, 0, none⟩) es.length cap) es (.slice (some ⟨g, 0, none⟩) es.length cap) (es.set i ⟨e.vt, vs', vc', Q.extR e.r r⟩) W w' ∧ ∀ j, w.heap.size ≤ j → j < W.heap.size → w'.heap[j]? = W.heap[j]?) := by
    intro W hW
    have hJW := hJ.below hW
    have hcW : W.heap[g]? = some (.cells cur 24 (0, 0)) := (hW.block g (Array.getElem?_eq_some_iff.1 hcur).1).trans hcur
    refine (extend_any base B g (i * 5) cur e.r.kind e.vs e.vc (e.l 1) (e.l 2) r _ W hcW (hcell 1 _ (by omega) rfl) (hcell 2 _ (by omega) rfl) (hcell 3 _ (by omega) rfl) (hJW.own i e 1 hei (by omega)) (hJW.own i e 2 hei (by omega)) (fun b h1 h2 => ?_) (hv.below (hW.mono (Nat.le_trans hB hJ.lo.2.2))) hB hg hJW.lo.2.2 ?_ ?_).mono ?_
    · have := hJ.apart i i e e 1 2 b hei hei (by omega) (by omega) h1 h2; omega
    · have := hszE.1; have := hs2.1; simp only [JE.l, List.length_map]; omega
    · have := hszE.2; have := hs2.2; simp only [JE.l, List.length_map]; omega
    · rintro x w' ⟨rfl, vs', vc', hP⟩
      obtain ⟨q1, q2, q3⟩ := js_ext hJW hei rfl hg hcW hP
      refine ⟨rfl, vs', vc', q1, q2, q3, fun j hj hjl => hP.fr.block j hjl ?_⟩
      rintro (h | h | h)
      · have := (Array.getElem?_eq_some_iff.1 hcur).1; omega
      · have := (row_has (hJ.own i e 1 hei (by omega)) j h).2; omega
      · have := (row_has (hJ.own i e 2 hei (by omega)) j h).2; omega
  have HADD : Hid (∀ vs' vc', (es.set i ⟨e.vt, vs', vc', Q.extR e.r r⟩).map JE.r = Q.addR r (es.map JE.r) (bl t)) := fun vs' vc' => by rw [hadd, List.map_set, List.map_set]
  have hsee := hJ.map.see (q := t) hz w rfl
  have hsee' : ∀ o, (Instr.lookup 54 (.map (some bm)) (.string t) true).run Tryd.prog (w.alloc o) = .ok (.tuple #[.int .i64 (i : Int), .bool true]) (w.alloc o) := by
    intro o
    have hb : bm < w.heap.size := hJ.map.lt
    have := hJ.map.see (q := t) hz (w.alloc o) (Below.heap_alloc _ _ _ hb)
    rw [this]; simp [gotI, hf]
  have hbjl : bj < w.heap.size := (Array.getElem?_eq_some_iff.1 hJ.blk).1
  have hblk1 : ∀ o, (w.alloc o).heap[bj]? = some (.cells #[.slice (some ⟨g, 0, none⟩) es.length cap, .map (some bm)] 56 (0, 0)) := fun o => (Below.heap_alloc _ _ _ hbjl).trans hJ.blk
  obtain ⟨n, hn⟩ : ∃ n, n = r.targets.length := ⟨_, rfl⟩
  obtain ⟨kr, hkr⟩ : ∃ k, k = r.kind := ⟨_, rfl⟩
  obtain ⟨sn, hsn⟩ : ∃ n, n = r.sources.length := ⟨_, rfl⟩
  obtain ⟨cn, hcn⟩ : ∃ n, n = r.commands.length := ⟨_, rfl⟩
  obtain ⟨ra, hra⟩ : ∃ n, n = r.at_ := ⟨_, rfl⟩
  rw [← hn, ← hkr, ← hsn, ← hcn, ← hra] at HX
  rw [← hn, ← hkr, ← hsn, ← hcn, ← hra]
  rw [← hkr] at hk
  have hkb : (kr == 3) = false := by simpa using hk
  have hkn : (kr != 3) = true := by simp [hk]
  obtain ⟨en, hen⟩ : ∃ n, n = es.length := ⟨_, rfl⟩
  have hie : (i : Int) < (en : Int) := by omega
  have hcap : en ≤ cap := by
    obtain ⟨hxl, ⟨hv, hn⟩ | ⟨g', cap', cur', hv, hg', hcur', hcap, hcm, hcs, hct⟩⟩ := hJ.row
    · cases hv
    · simp only [Value.slice.injEq, Option.some.injEq, Addr.mk.injEq, and_true, true_and] at hv
      rw [hv.2, hen]; exact hcap
  rw [← hen] at hblk1 HX ⊢
  have jc0 := cell_in (hblk1 (.cells #[.slice ta n tc, .int .i64 kr, .slice sa sn sc, .slice ca cn cc, .int .i64 ra] 24)) 0 rfl
  have jc1 := cell_in (hblk1 (.cells #[.slice ta n tc, .int .i64 kr, .slice sa sn sc, .slice ca cn cc, .int .i64 ra] 24)) 1 rfl
  have hbx : (w.alloc (.cells #[.slice ta n tc, .int .i64 kr, .slice sa sn sc, .slice ca cn cc, .int .i64 ra] 24)).heap[w.heap.size]? = some (.cells #[.slice ta n tc, .int .i64 kr, .slice sa sn sc, .slice ca cn cc, .int .i64 ra] 24 (0, 0)) := alloc_b rfl
  have x0 := cell_in hbx 0 rfl
  have x1 := cell_in hbx 1 rfl
  have x2 := cell_in hbx 2 rfl
  have x3 := cell_in hbx 3 rfl
  have x4 := cell_in hbx 4 rfl
  have HL : Hid (bj < (w.alloc (.cells #[.slice ta n tc, .int .i64 kr, .slice sa sn sc, .slice ca cn cc, .int .i64 ra] 24)).heap.size ∧ w.heap.size < (w.alloc (.cells #[.slice ta n tc, .int .i64 kr, .slice sa sn sc, .slice ca cn cc, .int .i64 ra] 24)).heap.size) := ⟨by simp; omega, by simp⟩
  have HBX : Hid _ := hbx
  have HB1 : Hid (Below w.heap.size w (w.alloc (.cells #[.slice ta n tc, .int .i64 kr, .slice sa sn sc, .slice ca cn cc, .int .i64 ra] 24)) ∧ base ≤ w.heap.size) := ⟨below_alloc1 _ _, hJ.lo.2.2⟩
  have hseeA := hsee' (.cells #[.slice ta n tc, .int .i64 kr, .slice sa sn sc, .slice ca cn cc, .int .i64 ra] 24)
  obtain ⟨W1, hW1⟩ : ∃ W1, W1 = w.alloc (.cells #[.slice ta n tc, .int .i64 kr, .slice sa sn sc, .slice ca cn cc, .int .i64 ra] 24) := ⟨_, rfl⟩
  rw [← hW1] at jc0 jc1 x0 x1 x2 x3 x4 HB1 hseeA HL HBX
  clear hJ hJ0 hv hf hei' hgx hei hadd hcell hszE hsee hsee' hblk1 hn hkr hsn hcn hra hbx hil hen w0 w1 w2 hB hz hk hsz hs2 hg hcur
  go_enter Tryd.func29, Tryd.ntmps29
  go_upto_region 1 with fail
  rw [← hW1]
  clear hW1
  go_wp2_with fail
  have HS : Hid (∀ W, Below W1.heap.size W1 W → W.cell? ⟨bj, 0, none⟩ = some (.slice (some ⟨g, 0, none⟩) en cap) ∧ W.cell? ⟨w.heap.size, 0, none⟩ = some (.slice ta n tc) ∧ W.cell? ⟨w.heap.size, 1, none⟩ = some (.int .i64 kr) ∧ W.cell? ⟨w.heap.size, 2, none⟩ = some (.slice sa sn sc) ∧ W.cell? ⟨w.heap.size, 3, none⟩ = some (.slice ca cn cc) ∧ W.cell? ⟨w.heap.size, 4, none⟩ = some (.int .i64 ra)) := fun W hW =>
    ⟨(hW.cell HL.out.1).trans jc0, (hW.cell HL.out.2).trans x0, (hW.cell HL.out.2).trans x1, (hW.cell HL.out.2).trans x2, (hW.cell HL.out.2).trans x3, (hW.cell HL.out.2).trans x4⟩
  have HS2 : Hid (∀ (W w' : World) (es' : List JE), Below W1.heap.size W1 W → JS base bj bm (.slice (some ⟨g, 0, none⟩) en cap) es' K w' → (∀ j, w.heap.size ≤ j → j < W.heap.size → w'.heap[j]? = W.heap[j]?) → w'.cell? ⟨bj, 0, none⟩ = some (.slice (some ⟨g, 0, none⟩) en cap) ∧ w'.cell? ⟨w.heap.size, 0, none⟩ = some (.slice ta n tc) ∧ w'.cell? ⟨w.heap.size, 1, none⟩ = some (.int .i64 kr) ∧ w'.cell? ⟨w.heap.size, 2, none⟩ = some (.slice sa sn sc) ∧ w'.cell? ⟨w.heap.size, 3, none⟩ = some (.slice ca cn cc) ∧ w'.cell? ⟨w.heap.size, 4, none⟩ = some (.int .i64 ra)) := fun W w' es' hW hj hb => by
    have h0 := (hb _ (Nat.le_refl _) (Nat.lt_of_lt_of_le HL.out.2 hW.size)).trans ((hW.block _ HL.out.2).trans HBX.out)
    exact ⟨cell_in hj.blk 0 rfl, cell_in h0 0 rfl, cell_in h0 1 rfl, cell_in h0 2 rfl, cell_in h0 3 rfl, cell_in h0 4 rfl⟩
  go_region_held3 (fun W => W.cell? ⟨bj, 0, none⟩ = some (.slice (some ⟨g, 0, none⟩) en cap) ∧ W.cell? ⟨w.heap.size, 0, none⟩ = some (.slice ta n tc) ∧ W.cell? ⟨w.heap.size, 1, none⟩ = some (.int .i64 kr) ∧ W.cell? ⟨w.heap.size, 2, none⟩ = some (.slice sa sn sc) ∧ W.cell? ⟨w.heap.size, 3, none⟩ = some (.slice ca cn cc) ∧ W.cell? ⟨w.heap.size, 4, none⟩ = some (.int .i64 ra)) (first | exact HS.out _ (Below.refl _ _) | exact HS.out _ (below_drewN (Below.refl _ _) 1) | exact HS2.out _ _ _ (below_drewN (Below.refl _ _) 1) hq1 hq3) (first | (go_at_call 49; refine (HX.out _ (below_drewN HB1.out.1 1)).mono ?_; rintro x w2 ⟨rfl, vs', vc', hq1, hq2, hq4, hq3⟩))
  have HE : Hid (AddPost base bj bm (.slice (some ⟨g, 0, none⟩) en cap) es K t r w (.returned (.tuple #[])) w2) := ⟨rfl, _, _, K, Nat.le_succ _, hq1, HADD.out vs' vc', below_trans ((below_drewN HB1.out.1 1).mono HB1.out.2) hq2 (Nat.le_refl _), fun x hx h => by have hz := HB1.out.1.size; exact ⟨(hq4 x (Nat.lt_of_lt_of_le hx hz) h).1, (hq4 x (Nat.lt_of_lt_of_le hx hz) h).2.trans (HB1.out.1.block x hx)⟩⟩
  clear hq1 hq2 hq3 hq4
  go_wp2_with fail
  go_end0
  exact HE.out
end Go.Proofs.YtbgnmchnfaknkaaDoor
