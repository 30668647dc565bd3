/-
  add, where a new rule is laid.
-/
import Derived.Test.YtbgnmchnfaknkaaDoorJ8
namespace Go.Proofs.YtbgnmchnfaknkaaDoor
open Go.RowKit Go.Shelf Go.Maps

theorem infoR : (Tryd.prog.info? 24).map (fun i => (i.zero, i.size, i.bytes)) = some (some (.agg #[.slice none 0 0, .int .i64 0, .slice none 0 0, .slice none 0 0, .int .i64 0]), 5, 88) := by kernel_rfl
theorem turned_fr {m : Nat} {w w' : World} (h : Turned m w w') : Fr (fun j => j = m) w w' := ⟨h.os, h.tape, h.output, Nat.le_of_eq h.size.symm, fun j _ hn => h.block j hn⟩
theorem row_one {w : World} {b : Nat} {x : ByteArray} (h : w.heap[b]? = some (.cells #[.string x] 9 (0, 0))) {base : Nat} (hb : base ≤ b) : w.ownsRow base 9 1 (.slice (some ⟨b, 0, none⟩) 1 1) 1 [.string x] :=
  ⟨rfl, .inr ⟨b, 1, _, rfl, hb, h, Nat.le_refl _, by unfold maxLen; omega, rfl, rfl⟩⟩
theorem row_nil (w : World) (base : Nat) : w.ownsRow base 9 1 (.slice none 0 0) 0 [] := ⟨rfl, .inl ⟨rfl, rfl⟩⟩

theorem ext0 (a x y z vs vc : Value) (k : Int) : extC #[a, .int .i64 k, x, y, z] 0 k vs vc = #[a, .int .i64 k, vs, vc, z] := by
  unfold extC
  by_cases h : k = 2
  · subst h; rfl
  · rw [if_neg h]; rfl

set_option maxRecDepth 20000 in
set_option maxHeartbeats 2000000 in
theorem add_new (base bj bm : Nat) (vr : Value) (es : List JE) (K : Nat) (t : ByteArray) (r : Q.Ru) (v : Value) (B : Nat) (w : World) (hJ : JS base bj bm vr es K w) (hv : RuV B w v r) (hB : B ≤ base) (hz : t.size ≤ 140737488355328)
    (hf : Q.lastI (bl t) (es.map JE.r) = none ∨ r.kind = 3) (hK : K ≤ 1000000) (hes : es.length ≤ 1000000) (hs2 : r.sources.length ≤ 500000000000 ∧ r.commands.length ≤ 500000000000) :
    Calls Tryd.prog 29 #[.pointer (some ⟨bj, 0, none⟩), .string t, v] w (AddPost base bj bm vr es K t r w) := by
  have hadd : Q.addR r (es.map JE.r) (bl t) = es.map JE.r ++ [Q.newR (bl t) r] := by
    unfold Q.addR
    cases h : Q.lastI (bl t) (es.map JE.r) with
    | none => rfl
    | some i =>
      have hk : r.kind = 3 := by rcases hf with h' | h'; · rw [h] at h'; cases h'
                                 · exact h'
      simp only
      cases (es.map JE.r)[i]? with
      | none => rfl
      | some e => simp only; rw [if_pos hk]
  obtain ⟨va, vcap, rfl⟩ := V.owns_slice hJ.row
  obtain ⟨ta, tc, sa, sc, ca, cc, rfl, w0, w1, w2⟩ := hv.open
  have hbjl : bj < w.heap.size := (Array.getElem?_eq_some_iff.1 hJ.blk).1
  obtain ⟨W1, hW1⟩ : ∃ W1, W1 = w.alloc (.cells #[.slice ta r.targets.length tc, .int .i64 r.kind, .slice sa r.sources.length sc, .slice ca r.commands.length cc, .int .i64 r.at_] 24) := ⟨_, rfl⟩
  have hB1 : Below w.heap.size w W1 := by rw [hW1]; exact below_alloc1 _ _
  have hJ1 : JS base bj bm (.slice va es.length vcap) es K W1 := hJ.below hB1
  have hv1 := hv.below (hB1.mono (Nat.le_trans hB hJ.lo.2.2))
  have hbx : W1.heap[w.heap.size]? = some (.cells #[.slice ta r.targets.length tc, .int .i64 r.kind, .slice sa r.sources.length sc, .slice ca r.commands.length cc, .int .i64 r.at_] 24 (0, 0)) := by rw [hW1]; exact alloc_b rfl
  obtain ⟨w4, hup, hm4, ht4⟩ := (hJ1.map.of_block (w' := W1.drew) rfl).put (g := fun q => if q = t then some es.length else Q.lastI (bl q) (es.map JE.r)) hK hz es.length (fun p => rfl)
  have hsee : (Instr.lookup 54 (.map (some bm)) (.string t) true).run Tryd.prog W1 = .ok (.tuple #[.int .i64 (gotI (fun q => Q.lastI (bl q) (es.map JE.r)) t), .bool (Q.lastI (bl t) (es.map JE.r)).isSome]) W1 := hJ1.map.see hz W1 rfl
  have hbm1 : bm < W1.heap.size := hJ1.map.lt
  have hne := hJ1.ne_bj
  have h4 : Fr (fun j => j = bm) W1 w4 := (Fr.drew W1).trans (turned_fr ht4)
  have hbj4 : w4.heap[bj]? = some (.cells #[.slice va es.length vcap, .map (some bm)] 56 (0, 0)) := (h4.block bj (Array.getElem?_eq_some_iff.1 hJ1.blk).1 hne.1).trans hJ1.blk
  have hbx4 : w4.heap[w.heap.size]? = some (.cells #[.slice ta r.targets.length tc, .int .i64 r.kind, .slice sa r.sources.length sc, .slice ca r.commands.length cc, .int .i64 r.at_] 24 (0, 0)) := (h4.block _ (Array.getElem?_eq_some_iff.1 hbx).1 (fun e => by have := hJ.map.lt; omega)).trans hbx
  have hz4 : w4.heap.size = W1.heap.size := ht4.size
  obtain ⟨n, hn⟩ : ∃ n, n = r.targets.length := ⟨_, rfl⟩
  obtain ⟨kr, hkr⟩ : ∃ k, k = r.kind := ⟨_, rfl⟩
  obtain ⟨sn, hsn⟩ : ∃ n, n = r.sources.length := ⟨_, rfl⟩
  obtain ⟨cn, hcn⟩ : ∃ n, n = r.commands.length := ⟨_, rfl⟩
  obtain ⟨ra, hra⟩ : ∃ n, n = r.at_ := ⟨_, rfl⟩
  -- the new rule's own blocks
  obtain ⟨w5, hw5⟩ : ∃ w5, w5 = (w4.alloc (.cells #[.string t] 9)).alloc (.cells #[.slice (some ⟨w4.heap.size, 0, none⟩) 1 1, .int .i64 kr, .slice none 0 0, .slice none 0 0, .int .i64 ra] 24) := ⟨_, rfl⟩
  have hb5 : Below w4.heap.size w4 w5 := by rw [hw5]; exact below_two _ _ _
  have hz5 : w5.heap.size = w4.heap.size + 2 := by rw [hw5]; simp
  have hp5 : w5.heap[w4.heap.size]? = some (.cells #[.string t] 9 (0, 0)) := by rw [hw5, Below.heap_alloc _ _ _ (by simp)]; exact alloc_b rfl
  have hq5 : w5.heap[w4.heap.size + 1]? = some (.cells #[.slice (some ⟨w4.heap.size, 0, none⟩) 1 1, .int .i64 kr, .slice none 0 0, .slice none 0 0, .int .i64 ra] 24 (0, 0)) := by rw [hw5]; exact alloc_b (by simp)
  have hlo : base ≤ w4.heap.size := Nat.le_trans hJ1.lo.2.2 h4.size
  have hv5 : RuV B w5 (.agg #[.slice ta r.targets.length tc, .int .i64 r.kind, .slice sa r.sources.length sc, .slice ca r.commands.length cc, .int .i64 r.at_]) r :=
    (hv1.below ((h4.below hJ1.lo.2.2 (fun j h => by rw [h]; exact hJ1.lo.2.1)).mono hB)).below (hb5.mono (Nat.le_trans hB hlo))
  have HX : Hid (Calls Tryd.prog 49 #[.pointer (some ⟨w4.heap.size + 1, 0, none⟩), .agg #[.slice ta r.targets.length tc, .int .i64 r.kind, .slice sa r.sources.length sc, .slice ca r.commands.length cc, .int .i64 r.at_]] w5 fun x w' => x = .returned (.tuple #[]) ∧ ∃ vs' vc', ExtPost base (w4.heap.size + 1) 0 #[.slice (some ⟨w4.heap.size, 0, none⟩) 1 1, .int .i64 kr, .slice none 0 0, .slice none 0 0, .int .i64 ra] (.slice none 0 0) (.slice none 0 0) [] [] r.kind (r.sources.map ba) (r.commands.map ba) w5 w' vs' vc') := by
    refine extend_any base B (w4.heap.size + 1) 0 _ kr (.slice none 0 0) (.slice none 0 0) [] [] r _ w5 hq5 rfl rfl rfl (row_nil _ _) (row_nil _ _) (fun b h => by cases h) hv5 hB (by omega) (by omega) ?_ ?_
    · have := hs2.1; simp; omega
    · have := hs2.2; simp; omega
  have JSN : Hid (∀ (w6 w8 : World) (vs' vc' : Value) (g c2 : Nat), ExtPost base (w4.heap.size + 1) 0 #[.slice (some ⟨w4.heap.size, 0, none⟩) 1 1, .int .i64 kr, .slice none 0 0, .slice none 0 0, .int .i64 ra] (.slice none 0 0) (.slice none 0 0) [] [] r.kind (r.sources.map ba) (r.commands.map ba) w5 w6 vs' vc' → Fr (fun j => (Value.slice va es.length vcap).ownBlock = some j) w6 w8 → ((Value.slice va es.length vcap).ownBlock = some g ∨ w4.heap.size ≤ g) → w8.ownsRow base 24 5 (.slice (some ⟨g, 0, none⟩) (es.length + 1) c2) (es.length + 1) (es.flatMap JE.cells ++ [.slice (some ⟨w4.heap.size, 0, none⟩) 1 1, .int .i64 kr, vs', vc', .int .i64 ra]) →
      AddPost base bj bm (.slice va es.length vcap) es K t r w (.returned (.tuple #[])) (w8.setCell ⟨bj, 0, none⟩ (.slice (some ⟨g, 0, none⟩) (es.length + 1) c2))) := by
    intro w6 w8 vs' vc' g c2 hP h8 hgg hrow
    have hcells : (newJ t r (.slice (some ⟨w4.heap.size, 0, none⟩) 1 1) vs' vc').cells = [.slice (some ⟨w4.heap.size, 0, none⟩) 1 1, .int .i64 kr, vs', vc', .int .i64 ra] := by
      unfold newJ JE.cells
      simp only [Q.newR_kind, hkr, hra]
      rfl
    rw [← hcells] at hrow
    have f56 : Fr (fun j => j = w4.heap.size + 1) w5 w6 := hP.fr.mono fun j _ h => by
      rcases h with h | h | h
      · exact h
      · cases h
      · cases h
    have h6 : Below w4.heap.size w4 w6 := below_trans hb5 (f56.below (by omega) fun j h => by omega) (Nat.le_refl _)
    have hvt : w6.ownsRow base 9 1 (.slice (some ⟨w4.heap.size, 0, none⟩) 1 1) 1 [.string t] := by
      refine row_fr (row_one hp5 hlo) f56 fun g hg => ?_
      have : w4.heap.size = g := by simpa [Value.ownBlock] using hg
      omega
    have hnew : ∀ (v' : Value) (g : Nat), Near w5 (.slice none 0 0) v' → v'.ownBlock = some g → w5.heap.size ≤ g := by
      intro v' g hn hg
      rcases hn with h | ⟨g', h, hle⟩
      · rw [hg] at h; cases h
      · rw [hg] at h; cases h; exact hle
    have hs' := hP.src
    have hc' := hP.cmd
    simp only [List.nil_append, List.length_nil, Nat.zero_add, List.length_map] at hs' hc'
    have h1 : ∀ g, (Value.slice (some ⟨w4.heap.size, 0, none⟩) 1 1).ownBlock = some g → w4.heap.size = g := fun g hg => by simpa [Value.ownBlock] using hg
    obtain ⟨q1, q2, q3⟩ := js_new hJ1 hm4 h4 h6 hvt hs' hc' (fun g hg => by have := h1 g hg; omega) (fun g hg => by have := hnew _ g hP.nearS hg; omega) (fun g hg => by have := hnew _ g hP.nearC hg; omega)
      (fun g hg h => by have := h1 g hg; have := hnew _ g hP.nearS h; omega) (fun g hg h => by have := h1 g hg; have := hnew _ g hP.nearC h; omega) hP.apart h8 hrow (fun g' hg' => by
        have : g = g' := by simpa [Value.ownBlock] using hg'
        subst this
        exact hgg.imp id fun h => Nat.le_trans h4.size h)
    refine ⟨rfl, _, _, K + 1, Nat.le_refl _, q1, ?_, below_trans (hB1.mono hJ.lo.2.2) q2 (Nat.le_refl _), fun x hx h => ⟨(q3 x (Nat.lt_of_lt_of_le hx hB1.size) h).1, (q3 x (Nat.lt_of_lt_of_le hx hB1.size) h).2.trans (hB1.block x hx)⟩⟩
    rw [hadd, List.map_append]; rfl
  have HW6 : Hid (∀ (w6 : World) (vs' vc' : Value), ExtPost base (w4.heap.size + 1) 0 #[.slice (some ⟨w4.heap.size, 0, none⟩) 1 1, .int .i64 kr, .slice none 0 0, .slice none 0 0, .int .i64 ra] (.slice none 0 0) (.slice none 0 0) [] [] r.kind (r.sources.map ba) (r.commands.map ba) w5 w6 vs' vc' →
      w6.heap[w4.heap.size + 1]? = some (.cells #[.slice (some ⟨w4.heap.size, 0, none⟩) 1 1, .int .i64 kr, vs', vc', .int .i64 ra] 24 (0, 0)) ∧ w6.heap[bj]? = some (.cells #[.slice va es.length vcap, .map (some bm)] 56 (0, 0)) ∧ w6.ownsRow base 24 5 (.slice va es.length vcap) es.length (es.flatMap JE.cells) ∧ base ≤ w6.heap.size ∧ (∃ a n c, vs' = .slice a n c) ∧ (∃ a n c, vc' = .slice a n c)) := by
    intro w6 vs' vc' hP
    have f56 : Fr (fun j => j = w4.heap.size + 1) w5 w6 := hP.fr.mono fun j _ h => by
      rcases h with h | h | h
      · exact h
      · cases h
      · cases h
    have f46 : Fr (fun j => j = w4.heap.size + 1) w4 w6 := (Fr.of_below hb5).trans f56
    have hb := hP.blk
    rw [← hkr, ext0] at hb
    refine ⟨hb, (f46.block bj (by have := (Array.getElem?_eq_some_iff.1 hbj4).1; exact this) (fun e => by have := (Array.getElem?_eq_some_iff.1 hbj4).1; omega)).trans hbj4, ?_, Nat.le_trans hlo f46.size, ?_, ?_⟩
    · have hr4 : w4.ownsRow base 24 5 (.slice va es.length vcap) es.length (es.flatMap JE.cells) := row_fr hJ1.row h4 fun g hg h => hne.2.2.1 (h ▸ hg)
      exact row_fr hr4 f46 fun g hg h => by have := (row_has hr4 g hg).2; omega
    · obtain ⟨a, c, h⟩ := row_slice hP.src; exact ⟨a, _, c, h⟩
    · obtain ⟨a, c, h⟩ := row_slice hP.cmd; exact ⟨a, _, c, h⟩
  rw [← hn, ← hkr, ← hsn, ← hcn, ← hra] at HX hW1 hbx hbx4
  rw [← hkr] at JSN HW6
  rw [← hn, ← hkr, ← hsn, ← hcn, ← hra]
  have jc0 := cell_in hJ1.blk 0 rfl
  have jc1 := cell_in hJ1.blk 1 rfl
  have x1 := cell_in hbx 1 rfl
  have y0 : w4.cell? ⟨bj, 0, none⟩ = some (.slice va es.length vcap) := cell_in hbj4 0 rfl
  have y1 : w4.cell? ⟨bj, 1, none⟩ = some (.map (some bm)) := cell_in hbj4 1 rfl
  have hxl : w.heap.size < w4.heap.size := (Array.getElem?_eq_some_iff.1 hbx4).1
  have hbr : (w4.alloc (.cells #[.string t] 9)).heap[w.heap.size]? = _ := (Below.heap_alloc _ _ _ hxl).trans hbx4
  have r1 := cell_in hbr 1 rfl
  have r4 := cell_in hbr 4 rfl
  have hb5x := (hb5.block _ hxl).trans hbx4
  have z0 := cell_in hb5x 0 rfl
  have z1 := cell_in hb5x 1 rfl
  have z2 := cell_in hb5x 2 rfl
  have z3 := cell_in hb5x 3 rfl
  have z4 := cell_in hb5x 4 rfl
  have HS : Hid ((W1.cell? ⟨bj, 0, none⟩ = some (.slice va es.length vcap) ∧ W1.cell? ⟨bj, 1, none⟩ = some (.map (some bm))) ∧ (w4.cell? ⟨bj, 0, none⟩ = some (.slice va es.length vcap) ∧ w4.cell? ⟨bj, 1, none⟩ = some (.map (some bm)))) := ⟨⟨jc0, jc1⟩, y0, y1⟩
  have HF : Hid (Q.lastI (bl t) (es.map JE.r) = none ∨ kr = 3) := by rw [hkr]; exact hf
  obtain ⟨gi, hgi⟩ : ∃ gi, gi = gotI (fun q => Q.lastI (bl q) (es.map JE.r)) t := ⟨_, rfl⟩
  obtain ⟨th, hth⟩ : ∃ th, th = (Q.lastI (bl t) (es.map JE.r)).isSome := ⟨_, rfl⟩
  rw [← hgi, ← hth] at hsee
  have HT : Hid (th = false ∨ kr = 3) := by
    rcases HF.out with h | h
    · left; rw [hth, h]; rfl
    · exact .inr h
  obtain ⟨en, hen⟩ : ∃ n, n = es.length := ⟨_, rfl⟩
  rw [← hen] at hup jc0 HS y0 JSN HW6 hes ⊢
  obtain ⟨i0, hi, hz0, hz1, hz2⟩ := info_of infoR
  clear HF hgi hth
  have HW5 : Hid (w5 = (w4.alloc (.cells #[.string t] 9)).alloc (.cells #[.slice (some ⟨w4.heap.size, 0, none⟩) 1 1, .int .i64 kr, .slice none 0 0, .slice none 0 0, .int .i64 ra] 24)) := hw5
  have main : th = false ∨ (th = true ∧ (kr != 3) = false) → Calls Tryd.prog 29 #[.pointer (some ⟨bj, 0, none⟩), .string t, .agg #[.slice ta n tc, .int .i64 kr, .slice sa sn sc, .slice ca cn cc, .int .i64 ra]] w (AddPost base bj bm (.slice va en vcap) es K t r w) := by
    have h4' := h4
    clear hv hv1 hv5 hJ hJ1 hf hbx4 hb5x hbr hbj4 hbx hne h4 h4' hm4 ht4 hz4 hn hkr hsn hcn hra hb5 hz5 hp5 hq5 w0 w1 w2 hB hz hK hs2 hB1 hadd hen hlo hw5 hxl hbm1
    rintro (rfl | ⟨rfl, hkb⟩)
    all_goals
      go_enter Tryd.func29, Tryd.ntmps29
      go_upto_region 1 with fail
      rw [← hW1]
      clear hW1
      go_wp2_with fail
      go_region_held3 (fun W => W.cell? ⟨bj, 0, none⟩ = some (.slice va en vcap) ∧ W.cell? ⟨bj, 1, none⟩ = some (.map (some bm))) (first | exact HS.out.1 | exact HS.out.2) (fail)
      go_upto_region 6 with fail
      rw [← HW5.out]
      go_wp2_with fail
      refine HX.out.mono ?_
      rintro x w6 ⟨rfl, vs', vc', hP⟩
      obtain ⟨k1, k2, k3, k4, ⟨sa', sn', sc', rfl⟩, ⟨ca', cn', cc', rfl⟩⟩ := HW6.out _ _ _ hP
      have HP : Hid (∀ (w8 : World) (g c2 : Nat), _ → _ → _ → _) := fun w8 g c2 => JSN.out w6 w8 _ _ g c2 hP
      clear hP
      have hql6 : w4.heap.size + 1 < w6.heap.size := (Array.getElem?_eq_some_iff.1 k1).1
      have q0 := cell_in k1 0 rfl
      have q1 := cell_in k1 1 rfl
      have q2 := cell_in k1 2 rfl
      have q3 := cell_in k1 3 rfl
      have q4 := cell_in k1 4 rfl
      have jc := cell_in k2 0 rfl
      have hne6 : (Value.slice va en vcap).ownBlock ≠ some bj := row_ne k3 k2 (by decide)
      have hbl6 : bj < w6.heap.size := (Array.getElem?_eq_some_iff.1 k2).1
      have HG : Hid (∀ (w8 : World) (o2 : Obj) (g c2 : Nat), (w6.drew.alloc o2).grownBy w8 (Value.slice va en vcap).ownBlock → ((Value.slice va en vcap).ownBlock = some g ∨ g = (w6.drew.alloc o2).heap.size) → w8.ownsRow base 24 5 (.slice (some ⟨g, 0, none⟩) (en + 1) c2) (en + 1) (es.flatMap JE.cells ++ [.slice (some ⟨w4.heap.size, 0, none⟩) 1 1, .int .i64 kr, .slice sa' sn' sc', .slice ca' cn' cc', .int .i64 ra]) → w8.heap[bj]? = some (.cells #[.slice va en vcap, .map (some bm)] 56 (0, 0)) ∧ AddPost base bj bm (.slice va en vcap) es K t r w (.returned (.tuple #[])) (w8.setCell ⟨bj, 0, none⟩ (.slice (some ⟨g, 0, none⟩) (en + 1) c2))) := by
        intro w8 o2 g c2 hgr hgg hrow
        have hgg' : (Value.slice va en vcap).ownBlock = some g ∨ w4.heap.size ≤ g := hgg.imp id fun h => by
          have hz : (w6.drew.alloc o2).heap.size = w6.heap.size + 1 := by show (w6.heap.push o2).size = _; simp
          omega
        have hf : Fr (fun j => (Value.slice va en vcap).ownBlock = some j) w6 w8 := ((Fr.drew _).trans (Fr.alloc _ o2)).trans (Fr.grown hgr (fun g hg => hg))
        exact ⟨(hf.block bj hbl6 hne6).trans k2, HP.out w8 g c2 hf hgg' hrow⟩
      have HN1 : ∀ u ∈ [Value.slice (some ⟨w4.heap.size, 0, none⟩) 1 1, .int .i64 kr, .slice sa' sn' sc', .slice ca' cn' cc', .int .i64 ra], u.oneCell' = true := by
        intro u hu
        simp at hu
        rcases hu with rfl | rfl | rfl | rfl | rfl <;> rfl
      have HR6 : Hid (∀ o, (w6.drew.alloc o).ownsRow base 24 5 (.slice va en vcap) en (es.flatMap JE.cells)) := fun o => row_fr k3 ((Fr.drew (D := fun _ => False) w6).trans (Fr.alloc _ o)) fun _ _ h => h
      clear k1 k2 k3 hne6 HX JSN HW6 HP
      go_wp2_with fail
      go_region_law (first | (refine step_append_lies _ (by rfl) (.tmp 55) (.tmp 57) 34 (by rfl) base 24 i0 (.agg #[.slice none 0 0, .int .i64 0, .slice none 0 0, .slice none 0 0, .int .i64 0]) 5 88 Tryd.underlying34 hi hz0 hz1 hz2 rfl (by decide) (.slice va en vcap) en (es.flatMap JE.cells) (by rfl) (HR6.out _) ⟨w6.heap.size, 0, none⟩ 1 1 [.slice (some ⟨w4.heap.size, 0, none⟩) 1 1, .int .i64 kr, .slice sa' sn' sc', .slice ca' cn' cc', .int .i64 ra] (by rfl) rfl (World.news_of_block (alloc_b (w := w6.drew) rfl)) HN1 (by decide) (by unfold maxLen; omega) (by omega) (by simp; omega) _ rfl ?_; intro g c2 w8 hown hgr hgg hg1; obtain ⟨e1, e2⟩ := HG.out w8 _ g c2 hgr hgg hown; have HE : Hid _ := e2; have fz : w8.frozen? ⟨bj, 0, none⟩ = false := (by simp [World.frozen?, e1]); have jc8 := cell_in e1 0 rfl; clear e1 e2 hown hgr hgg hg1))
      all_goals
        go_wp2
        go_end0
        exact ⟨rfl, HE.out.2⟩
  refine main ?_
  cases th with
  | false => exact .inl rfl
  | true =>
    refine .inr ⟨rfl, ?_⟩
    rcases HT.out with h | h
    · cases h
    · rw [h]; rfl
end Go.Proofs.YtbgnmchnfaknkaaDoor
