/-
  The document's own reader: a thing, an expression in brackets, and a way.
-/
import Derived.Test.YtmmhajlfbjjocaaGreatR1
namespace Go.Proofs.YtmmhajlfbjjocaaGreat
open Go.RowKit Go.Shelf RxSem


/-- How a set is read (R2, R2b). -/
def RSet : Prop := ∀ (b : Nat) (s : ByteArray) (i o : Nat) (w : World), Par b s i o 0 0 w → s.size ≤ 1000 → i ≤ s.size → o ≤ 100 → Calls Tryz.prog 60 #[.pointer (some ⟨b, 0, none⟩)] w (SetPost b s o w (setR ((bl s).drop i)))
theorem setL_why0 : ∀ (m : Nat) (r : List UInt8) (first : Bool) (f : UInt8 → Bool) (w l : Nat), r.length ≤ m → setL r first f = .inr (w, l) → w ≠ 0 := by
  intro m
  induction m with
  | zero =>
    intro r first f w l hm h
    have : r = [] := List.length_eq_zero_iff.1 (by omega)
    subst this
    rw [setL_nil] at h
    simp at h; omega
  | succ m ih =>
    intro r first f w l hm h
    cases r with
    | nil => rw [setL_nil] at h; simp at h; omega
    | cons c t =>
      simp only [List.length_cons] at hm
      by_cases hc : c = 93 ∧ first = false
      · rw [setL_stop hc] at h; cases h
      · cases t with
        | nil => rw [setL_last hc] at h; simp at h; omega
        | cons a t =>
          simp only [List.length_cons] at hm
          by_cases ha : a = 45
          · subst ha
            cases t with
            | nil => rw [setL_dash hc] at h; simp at h; omega
            | cons d t =>
              simp only [List.length_cons] at hm
              rw [setL_range hc] at h
              by_cases hd : d = 93
              · rw [if_pos hd] at h; exact ih _ _ _ _ _ (by simp; omega) h
              · rw [if_neg hd] at h
                by_cases hl : d < c
                · rw [if_pos hl] at h; simp at h; omega
                · rw [if_neg hl] at h; exact ih _ _ _ _ _ (by omega) h
          · rw [setL_byte hc ha] at h; exact ih _ _ _ _ _ (by simp; omega) h
theorem setR_why0 {r : List UInt8} {w l : Nat} (h : setR r = .bad w l) : w ≠ 0 := by
  unfold setR at h
  split at h
  · split at h
    · cases h
    · rename_i hs; cases h; exact setL_why0 _ _ _ _ _ _ (Nat.le_refl _) hs
  · split at h
    · cases h
    · rename_i hs; cases h; exact setL_why0 _ _ _ _ _ _ (Nat.le_refl _) hs
/-- What is too deep is too deep with a bracket behind it. -/
theorem setR_shape (t : List UInt8) : (∃ f rest, setR t = .ok [.set f] rest) ∨ ∃ y left, setR t = .bad y left ∧ y ≠ 0 := by
  cases h : setR t with
  | bad y left => exact .inr ⟨y, left, rfl, setR_why0 h⟩
  | ok l rest =>
    unfold setR at h
    split at h
    · split at h
      · cases h; exact .inl ⟨_, _, rfl⟩
      · cases h
    · split at h
      · cases h; exact .inl ⟨_, _, rfl⟩
      · cases h
theorem drop_len (s : ByteArray) (i : Nat) : ((bl s).drop i).length = s.size - i := by rw [List.length_drop, bl_length]
/-- The box of a result. -/
structure BI (b : Nat) (s : ByteArray) (i o : Nat) (y a : Int) (w W : World) : Prop where
  par : Par b s i o y a W
  box : W.heap[w.heap.size]? = some (.cells #[.int .i64 0, .slice none 0 0, .slice none 0 0] 35 (0, 0))
  wr : Wrote b w W
  bw : b < w.heap.size
theorem BI.below {b : Nat} {s : ByteArray} {i o : Nat} {y a : Int} {w W W' : World} (h : BI b s i o y a w W) (hb : Below W.heap.size W W') : BI b s i o y a w W' :=
  ⟨h.par.below hb, (hb.block _ (Array.getElem?_eq_some_iff.1 h.box).1).trans h.box, h.wr.trans (Wrote.of_below hb), h.bw⟩
theorem BI.drew {b : Nat} {s : ByteArray} {i o : Nat} {y a : Int} {w W : World} (h : BI b s i o y a w W) (n : Nat) : BI b s i o y a w (W.drewN n) := h.below (below_drewN (Below.refl _ _) _)
theorem BI.at {b : Nat} {s : ByteArray} {i o : Nat} {y a : Int} {w W : World} (h : BI b s i o y a w W) (i' : Nat) (v : Value) (hv : v = .int .i64 (i' : Int)) : BI b s i' o y a w (W.setCell ⟨b, 1, none⟩ v) := by
  have h2 := h.bw
  exact ⟨h.par.at i' v hv, (Below.heap_setCell _ _ _ _ (show w.heap.size ≠ b by omega)).trans h.box, h.wr.set _, h.bw⟩
theorem BI.open {b : Nat} {s : ByteArray} {i o : Nat} {y a : Int} {w W : World} (h : BI b s i o y a w W) (o' : Nat) (v : Value) (hv : v = .int .i64 (o' : Int)) : BI b s i o' y a w (W.setCell ⟨b, 2, none⟩ v) := by
  have h2 := h.bw
  exact ⟨h.par.open o' v hv, (Below.heap_setCell _ _ _ _ (show w.heap.size ≠ b by omega)).trans h.box, h.wr.set _, h.bw⟩
theorem BI.wrote {b : Nat} {s : ByteArray} {i o i' o' : Nat} {y a y' a' : Int} {w W W' : World} (h : BI b s i o y a w W) (hw : Wrote b W W') (hp : Par b s i' o' y' a' W') : BI b s i' o' y' a' w W' := by
  have h2 := h.bw
  exact ⟨hp, (hw.block _ (Array.getElem?_eq_some_iff.1 h.box).1 (by omega)).trans h.box, h.wr.trans hw, h.bw⟩
theorem BI.start {b : Nat} {s : ByteArray} {i o : Nat} {y a : Int} {w : World} (h : Par b s i o y a w) : ∃ wa, wa = w.alloc (.cells #[.int .i64 0, .slice none 0 0, .slice none 0 0] 35) ∧ BI b s i o y a w wa := by
  obtain ⟨wa, hwa, hBa, _, hka⟩ := one_box w (.cells #[.int .i64 0, .slice none 0 0, .slice none 0 0] 35)
  exact ⟨wa, hwa, h.below hBa, hka, Wrote.of_below hBa, h.lt⟩
/-- What is there of a box ahead of the walk. -/
theorem BI.facts {b : Nat} {s : ByteArray} {i o : Nat} {y a : Int} {w W : World} (h : BI b s i o y a w W) : (∀ q, W.frozen? ⟨w.heap.size, q, none⟩ = false) ∧ W.cell? ⟨w.heap.size, 0, none⟩ = some (.int .i64 0) ∧ W.cell? ⟨w.heap.size, 1, none⟩ = some (.slice none 0 0) ∧ W.cell? ⟨w.heap.size, 2, none⟩ = some (.slice none 0 0) ∧ w.heap.size < W.heap.size := by
  have hbx := h.box
  exact ⟨fun q => by simp [World.frozen?, hbx], (node_cells hbx).1, (node_cells hbx).2.1, (node_cells hbx).2.2, (Array.getElem?_eq_some_iff.1 hbx).1⟩
/-- A result is told. -/
theorem BI.fin {b : Nat} {s : ByteArray} {i o : Nat} {y a : Int} {w W : World} (h : BI b s i o y a w W) (x0 x1 x2 : Value) : ∃ Y, Y = (((W.setCell ⟨w.heap.size, 0, none⟩ x0).setCell ⟨w.heap.size, 1, none⟩ x1).setCell ⟨w.heap.size, 2, none⟩ x2) ∧ (Y.cell? ⟨w.heap.size, 0, none⟩ = some x0 ∧ Y.cell? ⟨w.heap.size, 1, none⟩ = some x1 ∧ Y.cell? ⟨w.heap.size, 2, none⟩ = some x2) ∧ Par b s i o y a Y ∧ Wrote b w Y ∧ ∀ q, q ≠ w.heap.size → Y.heap[q]? = W.heap[q]? := by
  obtain ⟨Y, h1, h2, h3, h4, h5⟩ := box_fin h.par h.box rfl h.wr h.bw x0 x1 x2
  exact ⟨Y, h1, node_cells h2, h3, h4, h5⟩
set_option maxRecDepth 20000 in
set_option maxHeartbeats 1000000 in
theorem rthing_any (hset : RSet) (m : Nat) (hg : ∀ (b : Nat) (s : ByteArray) (i o : Nat) (w : World) (r : Res) (a : Int), Par b s (i + 1) o 0 0 w → s.size ≤ 1000 → (hi : i < s.size) → s.size - i ≤ m → o ≤ 16 → s[i] = 40 → a = (i : Int) → P .thing o ((bl s).drop i) r → Calls Tryz.prog 59 #[.pointer (some ⟨b, 0, none⟩), .int .i64 a] w (PPost hd b s o w r)) : RThing m := by
  intro b s i o w r h hs hi hm ho hP
  obtain ⟨wa, hwa, hBI⟩ := BI.start h
  have HB : Hid (BI b s i o 0 0 w wa) := hBI
  have HPeek : Hid (∀ W, Par b s i o 0 0 W → Calls Tryz.prog 17 #[.pointer (some ⟨b, 0, none⟩)] W fun e w' => e = .returned (.tuple #[.int .u8 (s[i].toNat : Int), .bool true]) ∧ Par b s i o 0 0 w' ∧ Below W.heap.size W w') := fun W hP => peek_some b s i o 0 W hP hi
  have HOne : Hid (∀ (c : UInt8) (W : World), Calls Tryz.prog 61 #[.int .u8 (c.toNat : Int)] W fun e w' => ∃ g l, e = .returned (nodeV 1 (.slice (some ⟨g, 0, none⟩) 256 256) (.slice none 0 0)) ∧ W.heap.size ≤ g ∧ Br g l w' ∧ Bits l (fun x => x == c) ∧ Below W.heap.size W w') := rone_any
  have hi2 : (i : Int) < (s.size : Int) := by omega
  have HFail : Hid (∀ W, Par b s (i + 1) o 0 0 W → Calls Tryz.prog 18 #[.pointer (some ⟨b, 0, none⟩), .int .i64 3, .int .i64 (i : Int)] W fun e w' => e = .returned (.tuple #[]) ∧ Par b s (i + 1) o 3 (i : Int) w' ∧ Wrote b W w') := fun W hP => (fails_any b s (i + 1) o 0 0 3 (i : Int) W hP).mono fun e w' h => by simpa using h
  have HBy : Hid (∀ W, Calls Tryz.prog 58 #[.bool true] W fun e w' => e = .returned (.slice (some ⟨W.heap.size, 0, none⟩) 256 256) ∧ Br W.heap.size (List.replicate 256 true) w' ∧ Below W.heap.size W w') := rbytes_any true
  clear hBI h
  rw [fi_drop hi] at hP
  obtain ⟨t, ht⟩ : ∃ t, t = (bl s).drop (i + 1) := ⟨_, rfl⟩
  have htl : t.length = s.size - (i + 1) := by rw [ht, drop_len]
  rw [← ht] at hP
  have HT : Hid (t = (bl s).drop (i + 1) ∧ t.length = s.size - (i + 1)) := ⟨ht, htl⟩
  obtain ⟨c, hc⟩ : ∃ c, c = s[i] := ⟨_, rfl⟩
  rw [← hc] at hP
  have HC : Hid (c = s[i]) := hc
  obtain ⟨B, hB⟩ : ∃ B, B = w.heap.size := ⟨_, rfl⟩
  have HBw : Hid (B = w.heap.size) := hB
  clear ht htl
  by_cases hcc : c = 42
  · subst hcc
    have hcn : s[i].toNat = 42 := by rw [← HC.out]; rfl
    have hr := P.same hP (.rep o 42 t (.inl rfl))
    subst hr
    go_enter Tryz.func43, Tryz.ntmps43
    go_wp2_with fail
    rw [← hwa, ← hB]
    clear hwa hB
    refine (HPeek.out wa HB.out.par).mono ?_
    rintro e w1 ⟨rfl, _, h1⟩
    have H1 : Hid (BI b s i o 0 0 w w1) := HB.out.below h1
    have d1 : w1.cell? ⟨b, 1, none⟩ = some (.int .i64 (i : Int)) := H1.out.par.cell 1
    have fz := H1.out.par.frozen
    have H2 : Hid (BI b s (i + 1) o 0 0 w (w1.setCell ⟨b, 1, none⟩ (.int .i64 ((i : Int) + 1)))) := H1.out.at (i + 1) _ (by simp)
    obtain ⟨X, hX⟩ : ∃ X, X = w1.setCell ⟨b, 1, none⟩ (.int .i64 ((i : Int) + 1)) := ⟨_, rfl⟩
    rw [← hX] at H2
    clear h1
    go_wp2_with fail
    rw [← hX]
    clear hX d1 fz H1
    refine (HFail.out X H2.out.par).mono ?_
    rintro e w2 ⟨rfl, h3, h4⟩
    have H4 : Hid (BI b s (i + 1) o 3 (i : Int) w w2) := H2.out.wrote h4 h3
    clear h3 h4
    go_wp2_with fail
    refine (HOne.out 42 _).mono ?_
    rintro e w3 ⟨g, l, rfl, hg, hbr, hbits, hb3⟩
    have H3 : Hid (BI b s (i + 1) o 3 (i : Int) w w3 ∧ Br g l w3 ∧ Bits l (fun x => x == 42) ∧ w.heap.size < g) := ⟨H4.out.below hb3, hbr, hbits, by have := H4.out.facts.2.2.2.2; omega⟩
    have HZ : Hid (BI b s (i + 1) o 3 (i : Int) w w3) := H3.out.1
    clear hg hbr hbits hb3
    simp only [nodeV]
    obtain ⟨fB, z0, z1, z2, hBl⟩ := HZ.out.facts
    rw [← HBw.out] at fB z0 z1 z2 hBl
    go_wp2_with fail
    try rw [← hX]
    obtain ⟨Y, hY, ⟨r0, r1, r2⟩, y2, y3, y4⟩ := HZ.out.fin (.int .i64 1) (.slice (some ⟨g, 0, none⟩) 256 256) (.slice none 0 0)
    rw [← HBw.out] at hY r0 r1 r2 y4
    rw [← hY]
    refine bodyPost_ret (by simp [results, Tryz.results43, go_sem, r0, r1, r2]; try rfl) rfl ?_
    obtain ⟨ht, htl⟩ := HT.out
    have hback : s.size - (s.size - (i + 1)) = i + 1 := by omega
    refine ⟨y3, _, _, _, rfl, ⟨_, _, _, rfl⟩, ⟨_, _, _, rfl⟩, by omega, i + 1, o, by omega, by omega, ?_⟩
    rw [htl]
    have e9 : ((s.size - (s.size - (i + 1) + 1) : Nat) : Int) = (i : Int) := by omega
    rw [e9]
    exact y2
  by_cases hcc : c = 43
  · subst hcc
    have hcn : s[i].toNat = 43 := by rw [← HC.out]; rfl
    have hr := P.same hP (.rep o 43 t (.inr (.inl rfl)))
    subst hr
    go_enter Tryz.func43, Tryz.ntmps43
    go_wp2_with fail
    rw [← hwa, ← hB]
    clear hwa hB
    refine (HPeek.out wa HB.out.par).mono ?_
    rintro e w1 ⟨rfl, _, h1⟩
    have H1 : Hid (BI b s i o 0 0 w w1) := HB.out.below h1
    have d1 : w1.cell? ⟨b, 1, none⟩ = some (.int .i64 (i : Int)) := H1.out.par.cell 1
    have fz := H1.out.par.frozen
    have H2 : Hid (BI b s (i + 1) o 0 0 w (w1.setCell ⟨b, 1, none⟩ (.int .i64 ((i : Int) + 1)))) := H1.out.at (i + 1) _ (by simp)
    obtain ⟨X, hX⟩ : ∃ X, X = w1.setCell ⟨b, 1, none⟩ (.int .i64 ((i : Int) + 1)) := ⟨_, rfl⟩
    rw [← hX] at H2
    clear h1
    go_wp2_with fail
    rw [← hX]
    clear hX d1 fz H1
    refine (HFail.out X H2.out.par).mono ?_
    rintro e w2 ⟨rfl, h3, h4⟩
    have H4 : Hid (BI b s (i + 1) o 3 (i : Int) w w2) := H2.out.wrote h4 h3
    clear h3 h4
    go_wp2_with fail
    refine (HOne.out 43 _).mono ?_
    rintro e w3 ⟨g, l, rfl, hg, hbr, hbits, hb3⟩
    have H3 : Hid (BI b s (i + 1) o 3 (i : Int) w w3 ∧ Br g l w3 ∧ Bits l (fun x => x == 43) ∧ w.heap.size < g) := ⟨H4.out.below hb3, hbr, hbits, by have := H4.out.facts.2.2.2.2; omega⟩
    have HZ : Hid (BI b s (i + 1) o 3 (i : Int) w w3) := H3.out.1
    clear hg hbr hbits hb3
    simp only [nodeV]
    obtain ⟨fB, z0, z1, z2, hBl⟩ := HZ.out.facts
    rw [← HBw.out] at fB z0 z1 z2 hBl
    go_wp2_with fail
    try rw [← hX]
    obtain ⟨Y, hY, ⟨r0, r1, r2⟩, y2, y3, y4⟩ := HZ.out.fin (.int .i64 1) (.slice (some ⟨g, 0, none⟩) 256 256) (.slice none 0 0)
    rw [← HBw.out] at hY r0 r1 r2 y4
    rw [← hY]
    refine bodyPost_ret (by simp [results, Tryz.results43, go_sem, r0, r1, r2]; try rfl) rfl ?_
    obtain ⟨ht, htl⟩ := HT.out
    have hback : s.size - (s.size - (i + 1)) = i + 1 := by omega
    refine ⟨y3, _, _, _, rfl, ⟨_, _, _, rfl⟩, ⟨_, _, _, rfl⟩, by omega, i + 1, o, by omega, by omega, ?_⟩
    rw [htl]
    have e9 : ((s.size - (s.size - (i + 1) + 1) : Nat) : Int) = (i : Int) := by omega
    rw [e9]
    exact y2
  by_cases hcc : c = 63
  · subst hcc
    have hcn : s[i].toNat = 63 := by rw [← HC.out]; rfl
    have hr := P.same hP (.rep o 63 t (.inr (.inr rfl)))
    subst hr
    go_enter Tryz.func43, Tryz.ntmps43
    go_wp2_with fail
    rw [← hwa, ← hB]
    clear hwa hB
    refine (HPeek.out wa HB.out.par).mono ?_
    rintro e w1 ⟨rfl, _, h1⟩
    have H1 : Hid (BI b s i o 0 0 w w1) := HB.out.below h1
    have d1 : w1.cell? ⟨b, 1, none⟩ = some (.int .i64 (i : Int)) := H1.out.par.cell 1
    have fz := H1.out.par.frozen
    have H2 : Hid (BI b s (i + 1) o 0 0 w (w1.setCell ⟨b, 1, none⟩ (.int .i64 ((i : Int) + 1)))) := H1.out.at (i + 1) _ (by simp)
    obtain ⟨X, hX⟩ : ∃ X, X = w1.setCell ⟨b, 1, none⟩ (.int .i64 ((i : Int) + 1)) := ⟨_, rfl⟩
    rw [← hX] at H2
    clear h1
    go_wp2_with fail
    rw [← hX]
    clear hX d1 fz H1
    refine (HFail.out X H2.out.par).mono ?_
    rintro e w2 ⟨rfl, h3, h4⟩
    have H4 : Hid (BI b s (i + 1) o 3 (i : Int) w w2) := H2.out.wrote h4 h3
    clear h3 h4
    go_wp2_with fail
    refine (HOne.out 63 _).mono ?_
    rintro e w3 ⟨g, l, rfl, hg, hbr, hbits, hb3⟩
    have H3 : Hid (BI b s (i + 1) o 3 (i : Int) w w3 ∧ Br g l w3 ∧ Bits l (fun x => x == 63) ∧ w.heap.size < g) := ⟨H4.out.below hb3, hbr, hbits, by have := H4.out.facts.2.2.2.2; omega⟩
    have HZ : Hid (BI b s (i + 1) o 3 (i : Int) w w3) := H3.out.1
    clear hg hbr hbits hb3
    simp only [nodeV]
    obtain ⟨fB, z0, z1, z2, hBl⟩ := HZ.out.facts
    rw [← HBw.out] at fB z0 z1 z2 hBl
    go_wp2_with fail
    try rw [← hX]
    obtain ⟨Y, hY, ⟨r0, r1, r2⟩, y2, y3, y4⟩ := HZ.out.fin (.int .i64 1) (.slice (some ⟨g, 0, none⟩) 256 256) (.slice none 0 0)
    rw [← HBw.out] at hY r0 r1 r2 y4
    rw [← hY]
    refine bodyPost_ret (by simp [results, Tryz.results43, go_sem, r0, r1, r2]; try rfl) rfl ?_
    obtain ⟨ht, htl⟩ := HT.out
    have hback : s.size - (s.size - (i + 1)) = i + 1 := by omega
    refine ⟨y3, _, _, _, rfl, ⟨_, _, _, rfl⟩, ⟨_, _, _, rfl⟩, by omega, i + 1, o, by omega, by omega, ?_⟩
    rw [htl]
    have e9 : ((s.size - (s.size - (i + 1) + 1) : Nat) : Int) = (i : Int) := by omega
    rw [e9]
    exact y2
  by_cases hcc : c = 46
  · subst hcc
    have hcn : s[i].toNat = 46 := by rw [← HC.out]; rfl
    have hr := P.same hP (.dot o t)
    subst hr
    go_enter Tryz.func43, Tryz.ntmps43
    go_wp2_with fail
    rw [← hwa, ← hB]
    clear hwa hB
    refine (HPeek.out wa HB.out.par).mono ?_
    rintro e w1 ⟨rfl, _, h1⟩
    have H1 : Hid (BI b s i o 0 0 w w1) := HB.out.below h1
    have d1 : w1.cell? ⟨b, 1, none⟩ = some (.int .i64 (i : Int)) := H1.out.par.cell 1
    have fz := H1.out.par.frozen
    have H2 : Hid (BI b s (i + 1) o 0 0 w (w1.setCell ⟨b, 1, none⟩ (.int .i64 ((i : Int) + 1)))) := H1.out.at (i + 1) _ (by simp)
    obtain ⟨X, hX⟩ : ∃ X, X = w1.setCell ⟨b, 1, none⟩ (.int .i64 ((i : Int) + 1)) := ⟨_, rfl⟩
    rw [← hX] at H2
    clear h1
    go_wp2_with fail
    rw [← hX]
    clear hX d1 fz H1
    refine (HBy.out X).mono ?_
    rintro e w3 ⟨rfl, hbr, hb3⟩
    obtain ⟨g, hg⟩ : ∃ g, g = X.heap.size := ⟨_, rfl⟩
    rw [← hg] at hbr ⊢
    have H3 : Hid (BI b s (i + 1) o 0 0 w w3 ∧ Br g (List.replicate 256 true) w3 ∧ w.heap.size < g) := ⟨H2.out.below hb3, hbr, by have := H2.out.facts.2.2.2.2; omega⟩
    have HZ : Hid (BI b s (i + 1) o 0 0 w w3) := H3.out.1
    clear hg hbr hb3
    obtain ⟨fB, z0, z1, z2, hBl⟩ := HZ.out.facts
    rw [← HBw.out] at fB z0 z1 z2 hBl
    go_wp2_with fail
    try rw [← hX]
    obtain ⟨Y, hY, ⟨r0, r1, r2⟩, y2, y3, y4⟩ := HZ.out.fin (.int .i64 1) (.slice (some ⟨g, 0, none⟩) 256 256) (.slice none 0 0)
    rw [← HBw.out] at hY r0 r1 r2 y4
    rw [← hY]
    refine bodyPost_ret (by simp [results, Tryz.results43, go_sem, r0, r1, r2]; try rfl) rfl ?_
    obtain ⟨ht, htl⟩ := HT.out
    have hback : s.size - (s.size - (i + 1)) = i + 1 := by omega
    refine ⟨y3, _, _, _, rfl, ⟨_, _, _, rfl⟩, ⟨_, _, _, rfl⟩, by rw [htl]; omega, by rw [htl, hback]; exact ht, by rw [htl, hback]; exact y2, ?_⟩
    have h9 := H3.out
    have hB9 := HBw.out
    show NA Y _ (.set fun _ => true) _ _ _
    rw [NA]
    exact ⟨rfl, rfl, g, _, rfl, by omega, (y4 g (by omega)).trans h9.2.1, bits_rep true⟩
  by_cases hcc : c = 94
  · subst hcc
    have hcn : s[i].toNat = 94 := by rw [← HC.out]; rfl
    have hr := P.same hP (.bol o t)
    subst hr
    go_enter Tryz.func43, Tryz.ntmps43
    go_wp2_with fail
    rw [← hwa, ← hB]
    clear hwa hB
    refine (HPeek.out wa HB.out.par).mono ?_
    rintro e w1 ⟨rfl, _, h1⟩
    have H1 : Hid (BI b s i o 0 0 w w1) := HB.out.below h1
    have d1 : w1.cell? ⟨b, 1, none⟩ = some (.int .i64 (i : Int)) := H1.out.par.cell 1
    have fz := H1.out.par.frozen
    have H2 : Hid (BI b s (i + 1) o 0 0 w (w1.setCell ⟨b, 1, none⟩ (.int .i64 ((i : Int) + 1)))) := H1.out.at (i + 1) _ (by simp)
    obtain ⟨X, hX⟩ : ∃ X, X = w1.setCell ⟨b, 1, none⟩ (.int .i64 ((i : Int) + 1)) := ⟨_, rfl⟩
    rw [← hX] at H2
    clear h1
    have fB0 := H1.out.facts
    obtain ⟨fB1, zz0, zz1, zz2, hBl1⟩ := fB0
    rw [← HBw.out] at fB1 zz0 zz1 zz2 hBl1
    have hbB : ¬ b = B := by have := H1.out.bw; have := HBw.out; omega
    have hBb : ¬ B = b := fun e => hbB e.symm
    go_wp2_with fail
    try rw [← hX]
    obtain ⟨Y, hY, ⟨r0, r1, r2⟩, y2, y3, y4⟩ := H2.out.fin (.int .i64 2) (.slice none 0 0) (.slice none 0 0)
    rw [← HBw.out] at hY r0 r1 r2 y4
    rw [← hY]
    refine bodyPost_ret (by simp [results, Tryz.results43, go_sem, r0, r1, r2]; try rfl) rfl ?_
    obtain ⟨ht, htl⟩ := HT.out
    have hback : s.size - (s.size - (i + 1)) = i + 1 := by omega
    refine ⟨y3, _, _, _, rfl, ⟨_, _, _, rfl⟩, ⟨_, _, _, rfl⟩, by rw [htl]; omega, by rw [htl, hback]; exact ht, by rw [htl, hback]; exact y2, ?_⟩
    show NA Y _ .bol _ _ _
    rw [NA]
    exact ⟨rfl, rfl, rfl⟩
  by_cases hcc : c = 36
  · subst hcc
    have hcn : s[i].toNat = 36 := by rw [← HC.out]; rfl
    have hr := P.same hP (.eol o t)
    subst hr
    go_enter Tryz.func43, Tryz.ntmps43
    go_wp2_with fail
    rw [← hwa, ← hB]
    clear hwa hB
    refine (HPeek.out wa HB.out.par).mono ?_
    rintro e w1 ⟨rfl, _, h1⟩
    have H1 : Hid (BI b s i o 0 0 w w1) := HB.out.below h1
    have d1 : w1.cell? ⟨b, 1, none⟩ = some (.int .i64 (i : Int)) := H1.out.par.cell 1
    have fz := H1.out.par.frozen
    have H2 : Hid (BI b s (i + 1) o 0 0 w (w1.setCell ⟨b, 1, none⟩ (.int .i64 ((i : Int) + 1)))) := H1.out.at (i + 1) _ (by simp)
    obtain ⟨X, hX⟩ : ∃ X, X = w1.setCell ⟨b, 1, none⟩ (.int .i64 ((i : Int) + 1)) := ⟨_, rfl⟩
    rw [← hX] at H2
    clear h1
    have fB0 := H1.out.facts
    obtain ⟨fB1, zz0, zz1, zz2, hBl1⟩ := fB0
    rw [← HBw.out] at fB1 zz0 zz1 zz2 hBl1
    have hbB : ¬ b = B := by have := H1.out.bw; have := HBw.out; omega
    have hBb : ¬ B = b := fun e => hbB e.symm
    go_wp2_with fail
    try rw [← hX]
    obtain ⟨Y, hY, ⟨r0, r1, r2⟩, y2, y3, y4⟩ := H2.out.fin (.int .i64 3) (.slice none 0 0) (.slice none 0 0)
    rw [← HBw.out] at hY r0 r1 r2 y4
    rw [← hY]
    refine bodyPost_ret (by simp [results, Tryz.results43, go_sem, r0, r1, r2]; try rfl) rfl ?_
    obtain ⟨ht, htl⟩ := HT.out
    have hback : s.size - (s.size - (i + 1)) = i + 1 := by omega
    refine ⟨y3, _, _, _, rfl, ⟨_, _, _, rfl⟩, ⟨_, _, _, rfl⟩, by rw [htl]; omega, by rw [htl, hback]; exact ht, by rw [htl, hback]; exact y2, ?_⟩
    show NA Y _ .eol _ _ _
    rw [NA]
    exact ⟨rfl, rfl, rfl⟩
  by_cases hcc : c = 40
  · subst hcc
    have hcn : s[i].toNat = 40 := by rw [← HC.out]; rfl
    have HG : Hid (∀ W, Par b s (i + 1) o 0 0 W → Calls Tryz.prog 59 #[.pointer (some ⟨b, 0, none⟩), .int .i64 (i : Int)] W (PPost hd b s o W r)) := fun W hW => hg b s i o W r _ hW hs hi hm ho HC.out.symm rfl (by rw [fi_drop hi, ← HT.out.1, ← HC.out]; exact hP)
    clear hP
    go_enter Tryz.func43, Tryz.ntmps43
    go_wp2_with fail
    rw [← hwa, ← hB]
    clear hwa hB
    refine (HPeek.out wa HB.out.par).mono ?_
    rintro e w1 ⟨rfl, _, h1⟩
    have H1 : Hid (BI b s i o 0 0 w w1) := HB.out.below h1
    have d1 : w1.cell? ⟨b, 1, none⟩ = some (.int .i64 (i : Int)) := H1.out.par.cell 1
    have fz := H1.out.par.frozen
    have H2 : Hid (BI b s (i + 1) o 0 0 w (w1.setCell ⟨b, 1, none⟩ (.int .i64 ((i : Int) + 1)))) := H1.out.at (i + 1) _ (by simp)
    obtain ⟨X, hX⟩ : ∃ X, X = w1.setCell ⟨b, 1, none⟩ (.int .i64 ((i : Int) + 1)) := ⟨_, rfl⟩
    rw [← hX] at H2
    clear h1
    go_wp2_with fail
    rw [← hX]
    clear hX d1 fz H1
    refine (HG.out X H2.out.par).mono ?_
    rintro e w3 ⟨hw3, k, sv, kv, rfl, ⟨a1, n1, c1, rfl⟩, ⟨a2, n2, c2, rfl⟩, hpost⟩
    have H3 : Hid (Wrote b X w3) := hw3
    have HQ : Hid _ := hpost
    have HPX : Hid (∃ (i' o' : Nat) (y' a' : Int), Par b s i' o' y' a' w3) := by
      have h := HQ.out
      cases r with
      | ok l rest => exact ⟨_, _, _, _, h.2.2.1⟩
      | bad y left => obtain ⟨_, i', o', _, _, h4⟩ := h; exact ⟨_, _, _, _, h4⟩
    obtain ⟨i', o', y', a', hpar⟩ := HPX.out
    have HZ : Hid (BI b s i' o' y' a' w w3) := H2.out.wrote H3.out hpar
    clear hw3 hpost hpar
    simp only [nodeV]
    obtain ⟨fB, z0, z1, z2, hBl⟩ := HZ.out.facts
    rw [← HBw.out] at fB z0 z1 z2 hBl
    go_wp2_with fail
    obtain ⟨Y, hY, ⟨r0, r1, r2⟩, y2, y3, y4⟩ := HZ.out.fin (.int .i64 k) (.slice a1 n1 c1) (.slice a2 n2 c2)
    rw [← HBw.out] at hY r0 r1 r2 y4
    rw [← hY]
    refine bodyPost_ret (by simp [results, Tryz.results43, go_sem, r0, r1, r2]; try rfl) rfl ?_
    refine ⟨y3, _, _, _, rfl, ⟨_, _, _, rfl⟩, ⟨_, _, _, rfl⟩, ?_⟩
    have hbB : b ≠ B := by have := H2.out.bw; have := HBw.out; omega
    have hXs := H2.out.facts.2.2.2.2
    have hB9 := HBw.out
    have h := HQ.out
    cases r with
    | ok l rest => exact ⟨h.1, h.2.1, (y4 b hbB).trans h.2.2.1, NA_keep (fun j hj hl => ⟨by omega, y4 j (by omega)⟩) _ _ _ _ h.2.2.2⟩
    | bad y left =>
      obtain ⟨h1, i', o', h2, h3, h4⟩ := h
      exact ⟨h1, i', o', h2, h3, (y4 b hbB).trans h4⟩
  by_cases hcc : c = 91
  · subst hcc
    have hcn : s[i].toNat = 91 := by rw [← HC.out]; rfl
    have hr := P.same hP (.set o t)
    subst hr
    have HG : Hid (∀ W, Par b s (i + 1) o 0 0 W → Calls Tryz.prog 60 #[.pointer (some ⟨b, 0, none⟩)] W (SetPost b s o W (setR t))) := fun W hW => by rw [HT.out.1]; exact hset b s (i + 1) o W hW hs (by omega) (by omega)
    clear hP
    rcases setR_shape t with ⟨f, rest, hR⟩ | ⟨y, left, hR, hy⟩
    · rw [hR] at HG ⊢
      clear hR
      go_enter Tryz.func43, Tryz.ntmps43
      go_wp2_with fail
      rw [← hwa, ← hB]
      clear hwa hB
      refine (HPeek.out wa HB.out.par).mono ?_
      rintro e w1 ⟨rfl, _, h1⟩
      have H1 : Hid (BI b s i o 0 0 w w1) := HB.out.below h1
      have d1 : w1.cell? ⟨b, 1, none⟩ = some (.int .i64 (i : Int)) := H1.out.par.cell 1
      have fz := H1.out.par.frozen
      have H2 : Hid (BI b s (i + 1) o 0 0 w (w1.setCell ⟨b, 1, none⟩ (.int .i64 ((i : Int) + 1)))) := H1.out.at (i + 1) _ (by simp)
      obtain ⟨X, hX⟩ : ∃ X, X = w1.setCell ⟨b, 1, none⟩ (.int .i64 ((i : Int) + 1)) := ⟨_, rfl⟩
      rw [← hX] at H2
      clear h1
      go_wp2_with fail
      rw [← hX]
      clear hX d1 fz H1
      refine (HG.out X H2.out.par).mono ?_
      rintro e w3 ⟨hw3, g, l, rfl, hg, hbr, hbits, hr1, hr2, hpar⟩
      have HZ : Hid (BI b s (s.size - rest.length) o 0 0 w w3) := H2.out.wrote hw3 hpar
      have H3 : Hid (Br g l w3 ∧ Bits l f ∧ rest.length ≤ s.size ∧ rest = (bl s).drop (s.size - rest.length) ∧ w.heap.size < g) := ⟨hbr, hbits, hr1, hr2, by have := H2.out.facts.2.2.2.2; omega⟩
      clear hw3 hg hbr hbits hr1 hr2 hpar
      simp only [nodeV]
      obtain ⟨fB, z0, z1, z2, hBl⟩ := HZ.out.facts
      rw [← HBw.out] at fB z0 z1 z2 hBl
      go_wp2_with fail
      try rw [← hX]
      obtain ⟨Y, hY, ⟨r0, r1, r2⟩, y2, y3, y4⟩ := HZ.out.fin (.int .i64 1) (.slice (some ⟨g, 0, none⟩) 256 256) (.slice none 0 0)
      rw [← HBw.out] at hY r0 r1 r2 y4
      rw [← hY]
      refine bodyPost_ret (by simp [results, Tryz.results43, go_sem, r0, r1, r2]; try rfl) rfl ?_
      obtain ⟨ht, htl⟩ := HT.out
      have hback : s.size - (s.size - (i + 1)) = i + 1 := by omega
      refine ⟨y3, _, _, _, rfl, ⟨_, _, _, rfl⟩, ⟨_, _, _, rfl⟩, H3.out.2.2.1, H3.out.2.2.2.1, y2, ?_⟩
      have h9 := H3.out
      have hB9 := HBw.out
      show NA Y _ (.set f) _ _ _
      rw [NA]
      exact ⟨rfl, rfl, g, l, rfl, by omega, (y4 g (by omega)).trans h9.1, h9.2.1⟩
    · rw [hR] at HG ⊢
      clear hR
      go_enter Tryz.func43, Tryz.ntmps43
      go_wp2_with fail
      rw [← hwa, ← hB]
      clear hwa hB
      refine (HPeek.out wa HB.out.par).mono ?_
      rintro e w1 ⟨rfl, _, h1⟩
      have H1 : Hid (BI b s i o 0 0 w w1) := HB.out.below h1
      have d1 : w1.cell? ⟨b, 1, none⟩ = some (.int .i64 (i : Int)) := H1.out.par.cell 1
      have fz := H1.out.par.frozen
      have H2 : Hid (BI b s (i + 1) o 0 0 w (w1.setCell ⟨b, 1, none⟩ (.int .i64 ((i : Int) + 1)))) := H1.out.at (i + 1) _ (by simp)
      obtain ⟨X, hX⟩ : ∃ X, X = w1.setCell ⟨b, 1, none⟩ (.int .i64 ((i : Int) + 1)) := ⟨_, rfl⟩
      rw [← hX] at H2
      clear h1
      go_wp2_with fail
      rw [← hX]
      clear hX d1 fz H1
      refine (HG.out X H2.out.par).mono ?_
      rintro e w3 ⟨hw3, rfl, i', hi', hpar⟩
      have HZ : Hid (BI b s i' o (y : Int) ((s.size - left : Nat) : Int) w w3) := H2.out.wrote hw3 hpar
      clear hw3 hpar
      simp only [nodeV]
      obtain ⟨fB, z0, z1, z2, hBl⟩ := HZ.out.facts
      rw [← HBw.out] at fB z0 z1 z2 hBl
      go_wp2_with fail
      try rw [← hX]
      obtain ⟨Y, hY, ⟨r0, r1, r2⟩, y2, y3, y4⟩ := HZ.out.fin (.int .i64 0) (.slice none 0 0) (.slice none 0 0)
      rw [← HBw.out] at hY r0 r1 r2 y4
      rw [← hY]
      refine bodyPost_ret (by simp [results, Tryz.results43, go_sem, r0, r1, r2]; try rfl) rfl ?_
      obtain ⟨ht, htl⟩ := HT.out
      have hback : s.size - (s.size - (i + 1)) = i + 1 := by omega
      refine ⟨y3, _, _, _, rfl, ⟨_, _, _, rfl⟩, ⟨_, _, _, rfl⟩, hy, i', o, hi', by omega, y2⟩
  by_cases hcc : c = 92
  · subst hcc
    have hcn : s[i].toNat = 92 := by rw [← HC.out]; rfl
    by_cases hi1 : i + 1 < s.size
    · obtain ⟨d, hd1⟩ : ∃ d, d = s[i + 1] := ⟨_, rfl⟩
      have ht : t = d :: (bl s).drop (i + 2) := by rw [HT.out.1, fi_drop hi1, hd1]
      rw [ht] at hP
      have hr := P.same hP (.esc o d _)
      subst hr
      have HPeek2 : Hid (∀ W, Par b s (i + 1) o 0 0 W → Calls Tryz.prog 17 #[.pointer (some ⟨b, 0, none⟩)] W fun e w' => e = .returned (.tuple #[.int .u8 (s[i + 1].toNat : Int), .bool true]) ∧ Par b s (i + 1) o 0 0 w' ∧ Below W.heap.size W w') := fun W hP => peek_some b s (i + 1) o 0 W hP hi1
      clear hP ht
      go_enter Tryz.func43, Tryz.ntmps43
      go_wp2_with fail
      rw [← hwa, ← hB]
      clear hwa hB
      refine (HPeek.out wa HB.out.par).mono ?_
      rintro e w1 ⟨rfl, _, h1⟩
      have H1 : Hid (BI b s i o 0 0 w w1) := HB.out.below h1
      have d1 : w1.cell? ⟨b, 1, none⟩ = some (.int .i64 (i : Int)) := H1.out.par.cell 1
      have fz := H1.out.par.frozen
      have H2 : Hid (BI b s (i + 1) o 0 0 w (w1.setCell ⟨b, 1, none⟩ (.int .i64 ((i : Int) + 1)))) := H1.out.at (i + 1) _ (by simp)
      obtain ⟨X, hX⟩ : ∃ X, X = w1.setCell ⟨b, 1, none⟩ (.int .i64 ((i : Int) + 1)) := ⟨_, rfl⟩
      rw [← hX] at H2
      clear h1
      go_wp2_with fail
      rw [← hX]
      clear hX d1 fz H1
      refine (HPeek2.out X H2.out.par).mono ?_
      rintro e w2 ⟨rfl, _, h2⟩
      have H3 : Hid (BI b s (i + 1) o 0 0 w w2) := H2.out.below h2
      have d1 : w2.cell? ⟨b, 1, none⟩ = some (.int .i64 ((i + 1 : Nat) : Int)) := H3.out.par.cell 1
      have fz := H3.out.par.frozen
      have H4 : Hid (BI b s (i + 2) o 0 0 w (w2.setCell ⟨b, 1, none⟩ (.int .i64 ((i : Int) + 1 + 1)))) := H3.out.at (i + 2) _ (by congr 1)
      have d1' : w2.cell? ⟨b, 1, none⟩ = some (.int .i64 ((i : Int) + 1)) := by rw [d1]; congr 2
      clear h2 d1
      go_wp2_with fail
      obtain ⟨X2, hX2⟩ : ∃ X2, X2 = w2.setCell ⟨b, 1, none⟩ (.int .i64 ((i : Int) + 1 + 1)) := ⟨_, rfl⟩
      rw [← hX2] at H4 ⊢
      clear hX2 d1' fz H3
      refine (HOne.out s[i + 1] X2).mono ?_
      rintro e w3 ⟨g, l, rfl, hg, hbr, hbits, hb3⟩
      have H5 : Hid (Br g l w3 ∧ Bits l (fun x => x == s[i + 1]) ∧ w.heap.size < g) := ⟨hbr, hbits, by have := H4.out.facts.2.2.2.2; omega⟩
      have HZ : Hid (BI b s (i + 2) o 0 0 w w3) := H4.out.below hb3
      have HDD : Hid (d = s[i + 1]) := hd1
      clear hg hbr hbits hb3
      simp only [nodeV]
      obtain ⟨fB, z0, z1, z2, hBl⟩ := HZ.out.facts
      rw [← HBw.out] at fB z0 z1 z2 hBl
      go_wp2_with fail
      try rw [← hX]
      obtain ⟨Y, hY, ⟨r0, r1, r2⟩, y2, y3, y4⟩ := HZ.out.fin (.int .i64 1) (.slice (some ⟨g, 0, none⟩) 256 256) (.slice none 0 0)
      rw [← HBw.out] at hY r0 r1 r2 y4
      rw [← hY]
      refine bodyPost_ret (by simp [results, Tryz.results43, go_sem, r0, r1, r2]; try rfl) rfl ?_
      obtain ⟨ht, htl⟩ := HT.out
      have hbk2 : s.size - (s.size - (i + 2)) = i + 2 := by omega
      have hback : s.size - (s.size - (i + 1)) = i + 1 := by omega
      refine ⟨y3, _, _, _, rfl, ⟨_, _, _, rfl⟩, ⟨_, _, _, rfl⟩, by rw [drop_len]; omega, by rw [drop_len, hbk2], by rw [drop_len, hbk2]; exact y2, ?_⟩
      have h9 := H5.out
      have hB9 := HBw.out
      show NA Y _ (.set fun x => x == d) _ _ _
      rw [NA, HDD.out]
      exact ⟨rfl, rfl, g, _, rfl, by omega, (y4 g (by omega)).trans h9.1, h9.2.1⟩
    · have ht : t = [] := by rw [HT.out.1, List.drop_of_length_le (by rw [bl_length]; omega)]
      rw [ht] at hP
      have hr := P.same hP (.escEnd o)
      subst hr
      have HPeek2 : Hid (∀ W, Par b s (i + 1) o 0 0 W → Calls Tryz.prog 17 #[.pointer (some ⟨b, 0, none⟩)] W fun e w' => e = .returned (.tuple #[.int .u8 0, .bool false]) ∧ Par b s (i + 1) o 0 0 w' ∧ Below W.heap.size W w') := fun W hP => peek_none b s (i + 1) o 0 0 W hP (.inl (by omega))
      have HFail4 : Hid (∀ W, Par b s (i + 1) o 0 0 W → Calls Tryz.prog 18 #[.pointer (some ⟨b, 0, none⟩), .int .i64 4, .int .i64 (s.size : Int)] W fun e w' => e = .returned (.tuple #[]) ∧ Par b s (i + 1) o 4 (s.size : Int) w' ∧ Wrote b W w') := fun W hP => (fails_any b s (i + 1) o 0 0 4 (s.size : Int) W hP).mono fun e w' h => by simpa using h
      clear hP ht
      go_enter Tryz.func43, Tryz.ntmps43
      go_wp2_with fail
      rw [← hwa, ← hB]
      clear hwa hB
      refine (HPeek.out wa HB.out.par).mono ?_
      rintro e w1 ⟨rfl, _, h1⟩
      have H1 : Hid (BI b s i o 0 0 w w1) := HB.out.below h1
      have d1 : w1.cell? ⟨b, 1, none⟩ = some (.int .i64 (i : Int)) := H1.out.par.cell 1
      have fz := H1.out.par.frozen
      have H2 : Hid (BI b s (i + 1) o 0 0 w (w1.setCell ⟨b, 1, none⟩ (.int .i64 ((i : Int) + 1)))) := H1.out.at (i + 1) _ (by simp)
      obtain ⟨X, hX⟩ : ∃ X, X = w1.setCell ⟨b, 1, none⟩ (.int .i64 ((i : Int) + 1)) := ⟨_, rfl⟩
      rw [← hX] at H2
      clear h1
      go_wp2_with fail
      rw [← hX]
      clear hX d1 fz H1
      refine (HPeek2.out X H2.out.par).mono ?_
      rintro e w2 ⟨rfl, _, h2⟩
      have H3 : Hid (BI b s (i + 1) o 0 0 w w2) := H2.out.below h2
      have d0 : w2.cell? ⟨b, 0, none⟩ = some (.string s) := H3.out.par.cell 0
      clear h2
      go_wp2_with fail
      refine (HFail4.out w2 H3.out.par).mono ?_
      rintro e w3 ⟨rfl, h3, h4⟩
      have HZ : Hid (BI b s (i + 1) o 4 (s.size : Int) w w3) := H3.out.wrote h4 h3
      clear h3 h4
      obtain ⟨fB, z0, z1, z2, hBl⟩ := HZ.out.facts
      rw [← HBw.out] at fB z0 z1 z2 hBl
      go_wp2_with fail
      try rw [← hX]
      obtain ⟨Y, hY, ⟨r0, r1, r2⟩, y2, y3, y4⟩ := HZ.out.fin (.int .i64 0) (.slice none 0 0) (.slice none 0 0)
      rw [← HBw.out] at hY r0 r1 r2 y4
      rw [← hY]
      refine bodyPost_ret (by simp [results, Tryz.results43, go_sem, r0, r1, r2]; try rfl) rfl ?_
      obtain ⟨ht, htl⟩ := HT.out
      have hback : s.size - (s.size - (i + 1)) = i + 1 := by omega
      refine ⟨y3, _, _, _, rfl, ⟨_, _, _, rfl⟩, ⟨_, _, _, rfl⟩, by omega, i + 1, o, by omega, by omega, y2⟩
  have hpl : plain c = true := by simp only [plain, beq_eq_false_iff_ne.2 ‹¬ c = 42›, beq_eq_false_iff_ne.2 ‹¬ c = 43›, beq_eq_false_iff_ne.2 ‹¬ c = 63›, beq_eq_false_iff_ne.2 ‹¬ c = 46›, beq_eq_false_iff_ne.2 ‹¬ c = 94›, beq_eq_false_iff_ne.2 ‹¬ c = 36›, beq_eq_false_iff_ne.2 ‹¬ c = 40›, beq_eq_false_iff_ne.2 ‹¬ c = 91›, beq_eq_false_iff_ne.2 ‹¬ c = 92›]; rfl
  have hr := P.same hP (.byte o c t hpl)
  subst hr
  obtain ⟨x0, hx0⟩ : ∃ x : Nat, s[i].toNat = x := ⟨_, rfl⟩
  have hne : ∀ (d : UInt8) (n : Nat), d.toNat = n → c ≠ d → ¬ (x0 = n) := fun d n hd hcd e => hcd (by rw [u8_eq_iff, HC.out, hx0, e, hd])
  have n42 := hne 42 42 rfl (by assumption)
  have m42 : ¬ (x0 : Int) = 42 := by omega
  have q42 : ((x0 : Int) == 42) = false := by simp; omega
  have n43 := hne 43 43 rfl (by assumption)
  have m43 : ¬ (x0 : Int) = 43 := by omega
  have q43 : ((x0 : Int) == 43) = false := by simp; omega
  have n63 := hne 63 63 rfl (by assumption)
  have m63 : ¬ (x0 : Int) = 63 := by omega
  have q63 : ((x0 : Int) == 63) = false := by simp; omega
  have n46 := hne 46 46 rfl (by assumption)
  have m46 : ¬ (x0 : Int) = 46 := by omega
  have q46 : ((x0 : Int) == 46) = false := by simp; omega
  have n94 := hne 94 94 rfl (by assumption)
  have m94 : ¬ (x0 : Int) = 94 := by omega
  have q94 : ((x0 : Int) == 94) = false := by simp; omega
  have n36 := hne 36 36 rfl (by assumption)
  have m36 : ¬ (x0 : Int) = 36 := by omega
  have q36 : ((x0 : Int) == 36) = false := by simp; omega
  have n40 := hne 40 40 rfl (by assumption)
  have m40 : ¬ (x0 : Int) = 40 := by omega
  have q40 : ((x0 : Int) == 40) = false := by simp; omega
  have n91 := hne 91 91 rfl (by assumption)
  have m91 : ¬ (x0 : Int) = 91 := by omega
  have q91 : ((x0 : Int) == 91) = false := by simp; omega
  have n92 := hne 92 92 rfl (by assumption)
  have m92 : ¬ (x0 : Int) = 92 := by omega
  have q92 : ((x0 : Int) == 92) = false := by simp; omega
  have HOneC : Hid (∀ W, Calls Tryz.prog 61 #[.int .u8 (x0 : Int)] W fun e w' => ∃ g l, e = .returned (nodeV 1 (.slice (some ⟨g, 0, none⟩) 256 256) (.slice none 0 0)) ∧ W.heap.size ≤ g ∧ Br g l w' ∧ Bits l (fun x => x == c) ∧ Below W.heap.size W w') := fun W => by have h := HOne.out c W; rw [HC.out, hx0] at h; rw [HC.out]; exact h
  clear hne
  go_enter Tryz.func43, Tryz.ntmps43
  go_wp2_with fail
  rw [← hwa, ← hB]
  clear hwa hB
  refine (HPeek.out wa HB.out.par).mono ?_
  rintro e w1 ⟨rfl, _, h1⟩
  have H1 : Hid (BI b s i o 0 0 w w1) := HB.out.below h1
  have d1 : w1.cell? ⟨b, 1, none⟩ = some (.int .i64 (i : Int)) := H1.out.par.cell 1
  have fz := H1.out.par.frozen
  have H2 : Hid (BI b s (i + 1) o 0 0 w (w1.setCell ⟨b, 1, none⟩ (.int .i64 ((i : Int) + 1)))) := H1.out.at (i + 1) _ (by simp)
  obtain ⟨X, hX⟩ : ∃ X, X = w1.setCell ⟨b, 1, none⟩ (.int .i64 ((i : Int) + 1)) := ⟨_, rfl⟩
  rw [← hX] at H2
  clear h1
  rw [hx0]
  go_wp2_with fail
  rw [← hX]
  clear hX d1 fz H1
  refine (HOneC.out X).mono ?_
  rintro e w3 ⟨g, l, rfl, hg, hbr, hbits, hb3⟩
  have H3 : Hid (BI b s (i + 1) o 0 0 w w3 ∧ Br g l w3 ∧ Bits l (fun x => x == c) ∧ w.heap.size < g) := ⟨H2.out.below hb3, hbr, hbits, by have := H2.out.facts.2.2.2.2; omega⟩
  have HZ : Hid (BI b s (i + 1) o 0 0 w w3) := H3.out.1
  clear hg hbr hbits hb3
  simp only [nodeV]
  obtain ⟨fB, z0, z1, z2, hBl⟩ := HZ.out.facts
  rw [← HBw.out] at fB z0 z1 z2 hBl
  go_wp2_with fail
  try rw [← hX]
  obtain ⟨Y, hY, ⟨r0, r1, r2⟩, y2, y3, y4⟩ := HZ.out.fin (.int .i64 1) (.slice (some ⟨g, 0, none⟩) 256 256) (.slice none 0 0)
  rw [← HBw.out] at hY r0 r1 r2 y4
  rw [← hY]
  refine bodyPost_ret (by simp [results, Tryz.results43, go_sem, r0, r1, r2]; try rfl) rfl ?_
  obtain ⟨ht, htl⟩ := HT.out
  have hback : s.size - (s.size - (i + 1)) = i + 1 := by omega
  refine ⟨y3, _, _, _, rfl, ⟨_, _, _, rfl⟩, ⟨_, _, _, rfl⟩, by rw [htl]; omega, by rw [htl, hback]; exact ht, by rw [htl, hback]; exact y2, ?_⟩
  have h9 := H3.out
  have hB9 := HBw.out
  show NA Y _ (.set fun x => x == c) _ _ _
  rw [NA]
  exact ⟨rfl, rfl, g, _, rfl, by omega, (y4 g (by omega)).trans h9.2.1, h9.2.2.1⟩

set_option maxRecDepth 20000 in
set_option maxHeartbeats 1000000 in
theorem rgroup_any (m : Nat) (hW : RWays m) (b : Nat) (s : ByteArray) (i o : Nat) (w : World) (r : Res) (a : Int) (h : Par b s (i + 1) o 0 0 w) (hs : s.size ≤ 1000) (hi : i < s.size) (hm : s.size - i ≤ m + 1) (ho : o ≤ 16) (hc : s[i] = 40) (ha : a = (i : Int)) (hP : P .thing o ((bl s).drop i) r) : Calls Tryz.prog 59 #[.pointer (some ⟨b, 0, none⟩), .int .i64 a] w (PPost hd b s o w r) := by
  subst ha
  obtain ⟨wa, hwa, hBI⟩ := BI.start h
  have HB : Hid (BI b s (i + 1) o 0 0 w wa) := hBI
  have d2 : wa.cell? ⟨b, 2, none⟩ = some (.int .i64 (o : Int)) := HB.out.par.cell 2
  have fz := HB.out.par.frozen
  have H1 : Hid (BI b s (i + 1) (o + 1) 0 0 w (wa.setCell ⟨b, 2, none⟩ (.int .i64 ((o : Int) + 1)))) := HB.out.open (o + 1) _ (by simp)
  obtain ⟨B, hB⟩ : ∃ B, B = w.heap.size := ⟨_, rfl⟩
  have HBw : Hid (B = w.heap.size) := hB
  obtain ⟨X, hX⟩ : ∃ X, X = wa.setCell ⟨b, 2, none⟩ (.int .i64 ((o : Int) + 1)) := ⟨_, rfl⟩
  rw [← hX] at H1
  clear hBI h
  rw [fi_drop hi, hc] at hP
  obtain ⟨t, ht⟩ : ∃ t, t = (bl s).drop (i + 1) := ⟨_, rfl⟩
  have htl : t.length = s.size - (i + 1) := by rw [ht, drop_len]
  rw [← ht] at hP
  have HT : Hid (t = (bl s).drop (i + 1) ∧ t.length = s.size - (i + 1)) := ⟨ht, htl⟩
  clear ht htl
  have hw1 : (wa.setCell ⟨b, 2, none⟩ (.int .i64 ((o : Int) + 1))).cell? ⟨b, 2, none⟩ = some (.int .i64 ((o : Int) + 1)) := by
    rw [← hX]
    have := H1.out.par.cell 2
    simpa using this
  by_cases hdeep : 16 ≤ o
  · have hr := P.same hP (.deep o t hdeep)
    subst hr
    have hd2 : (16 : Int) < (o : Int) + 1 := by omega
    have HFail : Hid (∀ W, Par b s (i + 1) (o + 1) 0 0 W → Calls Tryz.prog 18 #[.pointer (some ⟨b, 0, none⟩), .int .i64 5, .int .i64 (i : Int)] W fun e w' => e = .returned (.tuple #[]) ∧ Par b s (i + 1) (o + 1) 5 (i : Int) w' ∧ Wrote b W w') := fun W hP => (fails_any b s (i + 1) (o + 1) 0 0 5 (i : Int) W hP).mono fun e w' h => by simpa using h
    rw [hwa] at d2 fz hw1 hX
    go_enter Tryz.func59, Tryz.ntmps59
    go_wp2_with fail
    rw [← hX, ← hB]
    clear hwa hB hX d2 fz hw1
    refine (HFail.out X H1.out.par).mono ?_
    rintro e w2 ⟨rfl, h3, h4⟩
    have HZ : Hid (BI b s (i + 1) (o + 1) 5 (i : Int) w w2) := H1.out.wrote h4 h3
    clear h3 h4
    obtain ⟨fB, z0, z1, z2, hBl⟩ := HZ.out.facts
    rw [← HBw.out] at fB z0 z1 z2 hBl
    go_wp2_with fail
    obtain ⟨Y, hY, ⟨r0, r1, r2⟩, y2, y3, y4⟩ := HZ.out.fin (.int .i64 0) (.slice none 0 0) (.slice none 0 0)
    rw [← HBw.out] at hY r0 r1 r2 y4
    rw [← hY]
    refine bodyPost_ret (by simp [results, Tryz.results59, go_sem, r0, r1, r2]; try rfl) rfl ?_
    obtain ⟨ht, htl⟩ := HT.out
    refine ⟨y3, _, _, _, rfl, ⟨_, _, _, rfl⟩, ⟨_, _, _, rfl⟩, by omega, i + 1, o + 1, by omega, by omega, ?_⟩
    rw [htl]
    have e9 : ((s.size - (s.size - (i + 1) + 1) : Nat) : Int) = (i : Int) := by omega
    rw [e9]
    exact y2
  · have hd2 : ¬ (16 : Int) < (o : Int) + 1 := by omega
    have HWc : Hid (∀ res, P .ways (o + 1) t res → Calls Tryz.prog 16 #[.pointer (some ⟨b, 0, none⟩)] X (PPost .alt b s (o + 1) X res)) := fun res hp => hW b s (i + 1) (o + 1) X res H1.out.par hs (by omega) (by omega) (by omega) (by rw [← HT.out.1]; exact hp)
    rw [hwa] at d2 fz hw1 hX
    cases hP with
    | rep _ _ _ h => simp at h
    | deep _ _ h => omega
    | byte _ _ _ h => simp [plain] at h
    | inBad _ _ y l h h1 =>
      have HC1 := HWc.out _ h1
      go_enter Tryz.func59, Tryz.ntmps59
      go_wp2_with fail
      rw [← hX, ← hB]
      clear hwa hB hX d2 fz hw1
      refine HC1.mono ?_
      rintro e w3 ⟨hw3, k, sv, kv, rfl, ⟨a1, n1, c1, rfl⟩, ⟨a2, n2, c2, rfl⟩, hy, i', o', hi', ho', hpar⟩
      have H3 : Hid (BI b s i' o' (y : Int) ((s.size - l : Nat) : Int) w w3) := H1.out.wrote hw3 hpar
      have hyz : ¬ (y : Int) = 0 := by omega
      clear hw3 hpar HC1 HWc
      simp only [nodeV]
      go_wp2_with fail
      obtain ⟨wn, hwn, hBn, hSn, hkn⟩ := one_box w3 (.cells #[.int .i64 k, .slice a1 n1 c1, .slice a2 n2 c2] 35)
      rw [← hwn]
      clear hwn
      have H4 : Hid (BI b s i' o' (y : Int) ((s.size - l : Nat) : Int) w wn) := H3.out.below hBn
      have HPk : Hid (∀ W, Par b s i' o' (y : Int) ((s.size - l : Nat) : Int) W → Calls Tryz.prog 17 #[.pointer (some ⟨b, 0, none⟩)] W fun e w' => e = .returned (.tuple #[.int .u8 0, .bool false]) ∧ Par b s i' o' (y : Int) ((s.size - l : Nat) : Int) w' ∧ Below W.heap.size W w') := fun W hP => peek_none b s i' o' _ _ W hP (.inr hyz)
      have HFl : Hid (∀ W, Par b s i' o' (y : Int) ((s.size - l : Nat) : Int) W → Calls Tryz.prog 18 #[.pointer (some ⟨b, 0, none⟩), .int .i64 4, .int .i64 (s.size : Int)] W fun e w' => e = .returned (.tuple #[]) ∧ Par b s i' o' (y : Int) ((s.size - l : Nat) : Int) w' ∧ Wrote b W w') := fun W hP => (fails_any b s i' o' _ _ 4 (s.size : Int) W hP).mono fun e w' h => by rw [if_neg hyz, if_neg hyz] at h; exact h
      clear hBn hSn hkn H3
      refine (HPk.out wn H4.out.par).mono ?_
      rintro e w5 ⟨rfl, _, h5⟩
      have H5 : Hid (BI b s i' o' (y : Int) ((s.size - l : Nat) : Int) w w5) := H4.out.below h5
      have d0 : w5.cell? ⟨b, 0, none⟩ = some (.string s) := H5.out.par.cell 0
      clear h5
      go_wp2_with fail
      refine (HFl.out w5 H5.out.par).mono ?_
      rintro e w6 ⟨rfl, h6, h7⟩
      have HZ : Hid (BI b s i' o' (y : Int) ((s.size - l : Nat) : Int) w w6) := H5.out.wrote h7 h6
      clear h6 h7
      obtain ⟨fB, z0, z1, z2, hBl⟩ := HZ.out.facts
      rw [← HBw.out] at fB z0 z1 z2 hBl
      go_wp2_with fail
      obtain ⟨Y, hY, ⟨r0, r1, r2⟩, y2, y3, y4⟩ := HZ.out.fin (.int .i64 0) (.slice none 0 0) (.slice none 0 0)
      rw [← HBw.out] at hY r0 r1 r2 y4
      rw [← hY]
      refine bodyPost_ret (by simp [results, Tryz.results59, go_sem, r0, r1, r2]; try rfl) rfl ?_
      refine ⟨y3, _, _, _, rfl, ⟨_, _, _, rfl⟩, ⟨_, _, _, rfl⟩, hy, i', o', hi', ho', y2⟩
    | inEnd _ _ k h h1 =>
      have HC1 := HWc.out _ h1
      go_enter Tryz.func59, Tryz.ntmps59
      go_wp2_with fail
      rw [← hX, ← hB]
      clear hwa hB hX d2 fz hw1
      refine HC1.mono ?_
      rintro e w3 ⟨hw3, k', sv, kv, rfl, ⟨a1, n1, c1, rfl⟩, ⟨a2, n2, c2, rfl⟩, hr1, hr2, hpar, hna⟩
      have H3 : Hid (BI b s s.size (o + 1) 0 0 w w3) := H1.out.wrote hw3 (by simpa using hpar)
      clear hw3 hpar HC1 HWc hr1 hr2 hna
      simp only [nodeV]
      go_wp2_with fail
      obtain ⟨wn, hwn, hBn, hSn, hkn⟩ := one_box w3 (.cells #[.int .i64 k', .slice a1 n1 c1, .slice a2 n2 c2] 35)
      rw [← hwn]
      clear hwn
      have H4 : Hid (BI b s s.size (o + 1) 0 0 w wn) := H3.out.below hBn
      have HPk : Hid (∀ W, Par b s s.size (o + 1) 0 0 W → Calls Tryz.prog 17 #[.pointer (some ⟨b, 0, none⟩)] W fun e w' => e = .returned (.tuple #[.int .u8 0, .bool false]) ∧ Par b s s.size (o + 1) 0 0 w' ∧ Below W.heap.size W w') := fun W hP => peek_none b s s.size (o + 1) 0 0 W hP (.inl (Nat.le_refl _))
      have HFl : Hid (∀ W, Par b s s.size (o + 1) 0 0 W → Calls Tryz.prog 18 #[.pointer (some ⟨b, 0, none⟩), .int .i64 4, .int .i64 (s.size : Int)] W fun e w' => e = .returned (.tuple #[]) ∧ Par b s s.size (o + 1) 4 (s.size : Int) w' ∧ Wrote b W w') := fun W hP => (fails_any b s s.size (o + 1) 0 0 4 (s.size : Int) W hP).mono fun e w' h => by simpa using h
      clear hBn hSn hkn H3
      refine (HPk.out wn H4.out.par).mono ?_
      rintro e w5 ⟨rfl, _, h5⟩
      have H5 : Hid (BI b s s.size (o + 1) 0 0 w w5) := H4.out.below h5
      have d0 : w5.cell? ⟨b, 0, none⟩ = some (.string s) := H5.out.par.cell 0
      clear h5
      go_wp2_with fail
      refine (HFl.out w5 H5.out.par).mono ?_
      rintro e w6 ⟨rfl, h6, h7⟩
      have HZ : Hid (BI b s s.size (o + 1) 4 (s.size : Int) w w6) := H5.out.wrote h7 h6
      clear h6 h7
      obtain ⟨fB, z0, z1, z2, hBl⟩ := HZ.out.facts
      rw [← HBw.out] at fB z0 z1 z2 hBl
      go_wp2_with fail
      obtain ⟨Y, hY, ⟨r0, r1, r2⟩, y2, y3, y4⟩ := HZ.out.fin (.int .i64 0) (.slice none 0 0) (.slice none 0 0)
      rw [← HBw.out] at hY r0 r1 r2 y4
      rw [← hY]
      refine bodyPost_ret (by simp [results, Tryz.results59, go_sem, r0, r1, r2]; try rfl) rfl ?_
      refine ⟨y3, _, _, _, rfl, ⟨_, _, _, rfl⟩, ⟨_, _, _, rfl⟩, by omega, s.size, o + 1, Nat.le_refl _, by omega, y2⟩
    | group _ _ r' k h h1 =>
      have HC1 := HWc.out _ h1
      go_enter Tryz.func59, Tryz.ntmps59
      go_wp2_with fail
      rw [← hX, ← hB]
      clear hwa hB hX d2 fz hw1
      refine HC1.mono ?_
      rintro e w3 ⟨hw3, k', sv, kv, rfl, ⟨a1, n1, c1, rfl⟩, ⟨a2, n2, c2, rfl⟩, hr1, hr2, hpar, hna⟩
      obtain ⟨q, hq⟩ : ∃ q, q = s.size - (41 :: r').length := ⟨_, rfl⟩
      rw [← hq] at hpar hr2
      have hq1 : q < s.size := by simp only [List.length_cons] at hq hr1; omega
      have hq3 : r'.length = s.size - (q + 1) := by simp only [List.length_cons] at hq hr1; omega
      have hq2 : s[q] = 41 ∧ r' = (bl s).drop (q + 1) := by
        rw [fi_drop hq1] at hr2
        simp only [List.cons.injEq] at hr2
        exact ⟨hr2.1.symm, hr2.2⟩
      have hqn : s[q].toNat = 41 := by rw [hq2.1]; rfl
      have H3 : Hid (BI b s q (o + 1) 0 0 w w3 ∧ NA w3 (fun j => X.heap.size ≤ j) (.alt k) k' (.slice a1 n1 c1) (.slice a2 n2 c2) ∧ r' = (bl s).drop (q + 1)) := ⟨H1.out.wrote hw3 hpar, hna, hq2.2⟩
      have HPk : Hid (∀ W, Par b s q (o + 1) 0 0 W → Calls Tryz.prog 17 #[.pointer (some ⟨b, 0, none⟩)] W fun e w' => e = .returned (.tuple #[.int .u8 41, .bool true]) ∧ Par b s q (o + 1) 0 0 w' ∧ Below W.heap.size W w') := fun W hP => by
        have := peek_some b s q (o + 1) 0 W hP hq1
        rw [hqn] at this
        exact this
      clear hw3 hpar HC1 HWc hr1 hr2 hna hq hq2 hqn
      simp only [nodeV]
      go_wp2_with fail
      obtain ⟨wn, hwn, hBn, hSn, hkn⟩ := one_box w3 (.cells #[.int .i64 k', .slice a1 n1 c1, .slice a2 n2 c2] 35)
      rw [← hwn]
      clear hwn
      have H4 : Hid (BI b s q (o + 1) 0 0 w wn ∧ NA wn (fun j => w.heap.size < j) (.alt k) k' (.slice a1 n1 c1) (.slice a2 n2 c2) ∧ wn.heap[w3.heap.size]? = some (.cells #[.int .i64 k', .slice a1 n1 c1, .slice a2 n2 c2] 35 (0, 0)) ∧ w.heap.size < w3.heap.size) := ⟨H3.out.1.below hBn, NA_keep (fun j hj hl => ⟨by have := H1.out.facts.2.2.2.2; omega, hBn.block j hl⟩) _ _ _ _ H3.out.2.1, hkn, H3.out.1.facts.2.2.2.2⟩
      clear hBn hSn hkn
      refine (HPk.out wn H4.out.1.par).mono ?_
      rintro e w5 ⟨rfl, _, h5⟩
      have H5 : Hid (BI b s q (o + 1) 0 0 w w5 ∧ NA w5 (fun j => w.heap.size < j) (.alt k) k' (.slice a1 n1 c1) (.slice a2 n2 c2) ∧ w5.heap[w3.heap.size]? = some (.cells #[.int .i64 k', .slice a1 n1 c1, .slice a2 n2 c2] 35 (0, 0))) := ⟨H4.out.1.below h5, NA_keep (fun j hj hl => ⟨hj, h5.block j hl⟩) _ _ _ _ H4.out.2.1, (h5.block _ (Array.getElem?_eq_some_iff.1 H4.out.2.2.1).1).trans H4.out.2.2.1⟩
      clear h5
      have d1 : w5.cell? ⟨b, 1, none⟩ = some (.int .i64 (q : Int)) := H5.out.1.par.cell 1
      have d2 : w5.cell? ⟨b, 2, none⟩ = some (.int .i64 ((o : Int) + 1)) := by have := H5.out.1.par.cell 2; simpa using this
      have fz := H5.out.1.par.frozen
      obtain ⟨k0, k1, k2⟩ := node_cells H5.out.2.2
      obtain ⟨fB, z0, z1, z2, hBl⟩ := H5.out.1.facts
      rw [← HBw.out] at fB z0 z1 z2 hBl
      have hbB : ¬ b = B := by have := H5.out.1.bw; have := HBw.out; omega
      have hBb : ¬ B = b := fun e => hbB e.symm
      have hnb : ¬ w3.heap.size = b := by have := H5.out.1.bw; have := H4.out.2.2.2; omega
      have hbn : ¬ b = w3.heap.size := fun e => hnb e.symm
      have hnB : ¬ w3.heap.size = B := by have := HBw.out; have := H4.out.2.2.2; omega
      have hBn2 : ¬ B = w3.heap.size := fun e => hnB e.symm
      have HZ : Hid (BI b s (q + 1) o 0 0 w ((w5.setCell ⟨b, 1, none⟩ (.int .i64 ((q : Int) + 1))).setCell ⟨b, 2, none⟩ (.int .i64 (o : Int)))) := (H5.out.1.at (q + 1) _ (by simp)).open o _ rfl
      go_wp2_with fail
      obtain ⟨Y, hY, ⟨r0, r1, r2⟩, y2, y3, y4⟩ := HZ.out.fin (.int .i64 k') (.slice a1 n1 c1) (.slice a2 n2 c2)
      rw [← HBw.out] at hY r0 r1 r2 y4
      rw [← hY]
      refine bodyPost_ret (by simp [results, Tryz.results59, go_sem, r0, r1, r2]; try rfl) rfl ?_
      have hbk : s.size - r'.length = q + 1 := by omega
      have hB9 := HBw.out
      have hbw9 := H5.out.1.bw
      refine ⟨y3, _, _, _, rfl, ⟨_, _, _, rfl⟩, ⟨_, _, _, rfl⟩, by omega, by rw [hbk]; exact H3.out.2.2, by rw [hbk]; exact y2, ?_⟩
      refine NA_keep (fun j hj hl => ⟨by omega, ?_⟩) _ _ _ _ H5.out.2.1
      rw [y4 j (by omega), Below.heap_setCell _ _ _ _ (show j ≠ b by omega), Below.heap_setCell _ _ _ _ (show j ≠ b by omega)]

theorem infoN : (Tryz.prog.info? 35).map (fun i => (i.zero, i.size, i.bytes)) = some (some (.agg #[.int .i64 0, .slice none 0 0, .slice none 0 0]), 3, 56) := by kernel_rfl
theorem NC_snoc {W : World} {A : Nat → Prop} {n : Nd} {k : Int} {sv kv : Value} (hn : NA W A n k sv kv) : ∀ (K : List Nd) (xs : List Value), xs.length = K.length * 3 → NC W A K xs → NC W A (K ++ [n]) (xs ++ [.int .i64 k, sv, kv])
  | [], xs, hl, _ => by
    have : xs = [] := List.length_eq_zero_iff.1 (by simpa using hl)
    subst this
    simp only [List.nil_append]
    rw [NC]
    exact ⟨k, sv, kv, [], rfl, hn, by rw [NC]; trivial⟩
  | m :: K, xs, hl, h => by
    rw [NC] at h
    obtain ⟨k', sv', kv', rest, rfl, h2, h3⟩ := h
    simp only [List.cons_append]
    rw [NC]
    exact ⟨k', sv', kv', _, rfl, h2, NC_snoc hn K rest (by simp at hl; omega) h3⟩
theorem NC_more {W : World} {A : Nat → Prop} (ys : List Value) : ∀ (K : List Nd) (xs : List Value), NC W A K xs → NC W A K (xs ++ ys)
  | [], _, _ => by rw [NC]; trivial
  | m :: K, xs, h => by
    rw [NC] at h ⊢
    obtain ⟨k', sv', kv', rest, rfl, h2, h3⟩ := h
    exact ⟨k', sv', kv', rest ++ ys, rfl, h2, NC_more ys K rest h3⟩
def appR (K : List Nd) : Res → Res
  | .ok l rest => .ok (K ++ l) rest
  | .bad y left => .bad y left
/-- While kids are gathered: the result's box, the node's box behind it, and its row. -/
structure WG (kd : Int) (b : Nat) (s : ByteArray) (o : Nat) (w : World) (K : List Nd) (v : Value) (j : Nat) (W : World) : Prop where
  bi : BI b s j o 0 0 w W
  nb : W.heap[w.heap.size + 1]? = some (.cells #[.int .i64 kd, .slice none 0 0, v] 35 (0, 0))
  row : ∃ xs, W.ownsRow (w.heap.size + 2) 35 3 v K.length xs ∧ NC W (fun q => w.heap.size + 1 < q ∧ v.ownBlock ≠ some q) K xs
/-- A fault was told. -/
structure WB (kd : Int) (b : Nat) (s : ByteArray) (w : World) (r : Res) (W : World) : Prop where
  ex : ∃ (i o' y left : Nat) (v : Value), r = .bad y left ∧ y ≠ 0 ∧ i ≤ s.size ∧ o' ≤ 17 ∧ BI b s i o' (y : Int) ((s.size - left : Nat) : Int) w W ∧ IsSl v ∧ W.heap[w.heap.size + 1]? = some (.cells #[.int .i64 kd, .slice none 0 0, v] 35 (0, 0))
theorem row_sl {W : World} {base n k : Nat} {T : TypeId} {v : Value} {xs : List Value} (h : W.ownsRow base T k v n xs) : IsSl v := by
  obtain ⟨a, c, rfl⟩ := row_slice h
  exact ⟨_, _, _, rfl⟩
theorem WG.below {kd : Int} {b : Nat} {s : ByteArray} {o : Nat} {w : World} {K : List Nd} {v : Value} {j : Nat} {W W' : World} (h : WG kd b s o w K v j W) (hb : Below W.heap.size W W') : WG kd b s o w K v j W' := by
  obtain ⟨xs, h1, h2⟩ := h.row
  exact ⟨h.bi.below hb, (hb.block _ (Array.getElem?_eq_some_iff.1 h.nb).1).trans h.nb, xs, owns_below h1 hb, NC_keep (fun q hq hl => ⟨hq, hb.block q hl⟩) _ _ h2⟩
/-- A call of the reader's own. -/
theorem WG.wrote {kd : Int} {b : Nat} {s : ByteArray} {o : Nat} {w : World} {K : List Nd} {v : Value} {j j' : Nat} {W W' : World} (h : WG kd b s o w K v j W) (hw : Wrote b W W') (hp : Par b s j' o 0 0 W') : WG kd b s o w K v j' W' := by
  obtain ⟨xs, h1, h2⟩ := h.row
  have hb := h.bi.bw
  refine ⟨h.bi.wrote hw hp, (hw.block _ (Array.getElem?_eq_some_iff.1 h.nb).1 (by omega)).trans h.nb, xs, owns_wrote h1 hw (fun e => ?_), NC_keep (fun q hq hl => ⟨hq, hw.block q hl (by omega)⟩) _ _ h2⟩
  have := (h1.lt b e).1
  omega
/-- The first world. -/
theorem WG.start {kd : Int} {b : Nat} {s : ByteArray} {i o : Nat} {w : World} (h : Par b s i o 0 0 w) : ∃ W, W = (w.alloc (.cells #[.int .i64 0, .slice none 0 0, .slice none 0 0] 35)).alloc (.cells #[.int .i64 kd, .slice none 0 0, .slice none 0 0] 35) ∧ WG kd b s o w [] (.slice none 0 0) i W := by
  obtain ⟨W, hW, hB, hS, k1, k2⟩ := two w (.cells #[.int .i64 0, .slice none 0 0, .slice none 0 0] 35) (.cells #[.int .i64 kd, .slice none 0 0, .slice none 0 0] 35)
  exact ⟨W, hW, ⟨h.below hB, k1, Wrote.of_below hB, h.lt⟩, k2, [], World.ownsRow_nil _ _ _ _, by rw [NC]; trivial⟩
/-- A kid more: the row has grown, and the node's box holds it. -/
theorem WG.grow {kd : Int} {b : Nat} {s : ByteArray} {o : Nat} {w : World} {K : List Nd} {v v' : Value} {j : Nat} {W W1 W2 : World} {n : Nd} {k : Int} {sv kv : Value} {xs : List Value} (h : WG kd b s o w K v j W) (h1 : Below W.heap.size W W1) (hrow : W.ownsRow (w.heap.size + 2) 35 3 v K.length xs) (hnc : NC W (fun q => w.heap.size + 1 < q ∧ v.ownBlock ≠ some q) K xs) (hown : W2.ownsRow (w.heap.size + 2) 35 3 v' (K.length + 1) (xs ++ [.int .i64 k, sv, kv])) (hg : W1.grownBy W2 v.ownBlock) (ho : v'.ownBlock = v.ownBlock ∨ v'.ownBlock = some W1.heap.size) (hn : NA W (fun q => w.heap.size + 1 < q ∧ v.ownBlock ≠ some q) n k sv kv) : WG kd b s o w (K ++ [n]) v' j (W2.setCell ⟨w.heap.size + 1, 2, none⟩ v') := by
  have hbw := h.bi.bw
  have hlow : ∀ q, q < w.heap.size + 2 → v.ownBlock ≠ some q := fun q hq e => by have := (hrow.lt q e).1; omega
  have hkeep : ∀ q, q < W.heap.size → v.ownBlock ≠ some q → W2.heap[q]? = W.heap[q]? := fun q hq hne => by
    rw [hg.block q (Nat.lt_of_lt_of_le hq h1.size) (fun e => hne (by first | exact e | exact e.symm))]
    exact h1.block q hq
  have hnbl := (Array.getElem?_eq_some_iff.1 h.nb).1
  have hnb2 : W2.heap[w.heap.size + 1]? = some (.cells #[.int .i64 kd, .slice none 0 0, v] 35 (0, 0)) := (hkeep _ hnbl (hlow _ (by omega))).trans h.nb
  have hO : Only (w.heap.size + 1) W2 (W2.setCell ⟨w.heap.size + 1, 2, none⟩ v') := Only.set _ _ _ _
  have hvn : v'.ownBlock ≠ some (w.heap.size + 1) := fun e => by have := (hown.lt _ e).1; omega
  have hw2 : Wrote b w W2 := ⟨(hg.os.trans h1.os).trans h.bi.wr.os, (hg.tape.trans h1.tape).trans h.bi.wr.tape, (hg.output.trans h1.output).trans h.bi.wr.output, Nat.le_trans h.bi.wr.size (Nat.le_trans h1.size hg.size), fun q hq hb => (hkeep q (Nat.lt_of_lt_of_le hq h.bi.wr.size) (hlow q (by omega))).trans (h.bi.wr.block q hq hb)⟩
  refine ⟨⟨?_, ?_, ⟨hO.os.trans hw2.os, hO.tape.trans hw2.tape, hO.output.trans hw2.output, by rw [hO.size]; exact hw2.size, fun q hq hb => (hO.block q (by omega)).trans (hw2.block q hq hb)⟩, hbw⟩, ?_, xs ++ [.int .i64 k, sv, kv], ?_, ?_⟩
  · exact (hO.block b (by omega)).trans ((hkeep b h.bi.par.lt (hlow b (by omega))).trans h.bi.par)
  · exact (hO.block _ (by omega)).trans ((hkeep _ (by omega) (hlow _ (by omega))).trans h.bi.box)
  · exact (heap_set hnb2 _).trans rfl
  · have := row_set hown hvn v' (i := 2)
    simpa using this
  · have hnc2 := NC_snoc hn K xs hrow.1 hnc
    refine NC_keep (fun q hq hl => ⟨⟨hq.1, ?_⟩, ?_⟩) _ _ hnc2
    · rw [hO.block q (by omega)]
      exact hkeep q hl hq.2
    · intro e
      rcases ho with e1 | e1
      · exact hq.2 (by rw [← e1]; exact e)
      · rw [e1] at e
        have := Option.some.inj e
        have := h1.size
        omega
/-- The same, whatever was told. -/
theorem bi_grow {kd : Int} {b : Nat} {s : ByteArray} {i o : Nat} {y a : Int} {w W W1 W2 : World} {v v' : Value} {n n' : Nat} {xs ys : List Value} (h : BI b s i o y a w W) (hnb : W.heap[w.heap.size + 1]? = some (.cells #[.int .i64 kd, .slice none 0 0, v] 35 (0, 0))) (h1 : Below W.heap.size W W1) (hrow : W.ownsRow (w.heap.size + 2) 35 3 v n xs) (_hown : W2.ownsRow (w.heap.size + 2) 35 3 v' n' ys) (hg : W1.grownBy W2 v.ownBlock) : BI b s i o y a w (W2.setCell ⟨w.heap.size + 1, 2, none⟩ v') ∧ (W2.setCell ⟨w.heap.size + 1, 2, none⟩ v').heap[w.heap.size + 1]? = some (.cells #[.int .i64 kd, .slice none 0 0, v'] 35 (0, 0)) := by
  have hbw := h.bw
  have hlow : ∀ q, q < w.heap.size + 2 → v.ownBlock ≠ some q := fun q hq e => by have := (hrow.lt q e).1; omega
  have hkeep : ∀ q, q < W.heap.size → v.ownBlock ≠ some q → W2.heap[q]? = W.heap[q]? := fun q hq hne => by
    rw [hg.block q (Nat.lt_of_lt_of_le hq h1.size) (fun e => hne (by first | exact e | exact e.symm))]
    exact h1.block q hq
  have hnbl := (Array.getElem?_eq_some_iff.1 hnb).1
  have hnb2 : W2.heap[w.heap.size + 1]? = some (.cells #[.int .i64 kd, .slice none 0 0, v] 35 (0, 0)) := (hkeep _ hnbl (hlow _ (by omega))).trans hnb
  have hO : Only (w.heap.size + 1) W2 (W2.setCell ⟨w.heap.size + 1, 2, none⟩ v') := Only.set _ _ _ _
  have hw2 : Wrote b w W2 := ⟨(hg.os.trans h1.os).trans h.wr.os, (hg.tape.trans h1.tape).trans h.wr.tape, (hg.output.trans h1.output).trans h.wr.output, Nat.le_trans h.wr.size (Nat.le_trans h1.size hg.size), fun q hq hb => (hkeep q (Nat.lt_of_lt_of_le hq h.wr.size) (hlow q (by omega))).trans (h.wr.block q hq hb)⟩
  exact ⟨⟨(hO.block b (by omega)).trans ((hkeep b h.par.lt (hlow b (by omega))).trans h.par), (hO.block _ (by omega)).trans ((hkeep _ (by omega) (hlow _ (by omega))).trans h.box), ⟨hO.os.trans hw2.os, hO.tape.trans hw2.tape, hO.output.trans hw2.output, by rw [hO.size]; exact hw2.size, fun q hq hb => (hO.block q (by omega)).trans (hw2.block q hq hb)⟩, hbw⟩, (heap_set hnb2 _).trans rfl⟩
theorem post_star (n : Nd) (t : List UInt8) : post n (42 :: t) = (.star n, t) := rfl
theorem post_plus (n : Nd) (t : List UInt8) : post n (43 :: t) = (.plus n, t) := rfl
theorem post_opt (n : Nd) (t : List UInt8) : post n (63 :: t) = (.opt n, t) := rfl
theorem post_nil (n : Nd) : post n [] = (n, []) := by rw [post]; all_goals simp
theorem post_other (n : Nd) (c : UInt8) (t : List UInt8) (h1 : c ≠ 42) (h2 : c ≠ 43) (h3 : c ≠ 63) : post n (c :: t) = (n, c :: t) := by
  rw [post]
  all_goals
    intro u hu
    simp only [List.cons.injEq] at hu
    first | exact h1 hu.1 | exact h2 hu.1 | exact h3 hu.1
/-- What is told of a node whose kids were gathered. -/
theorem WG.na_seq {b : Nat} {s : ByteArray} {o : Nat} {w : World} {K : List Nd} {v : Value} {j : Nat} {W Y : World} (h : WG 4 b s o w K v j W) (hy : ∀ q, q ≠ w.heap.size → Y.heap[q]? = W.heap[q]?) : NA Y (fun q => w.heap.size ≤ q) (.seq K) 4 (.slice none 0 0) v := by
  obtain ⟨xs, h1, h2⟩ := h.row
  rw [NA]
  refine ⟨rfl, rfl, ?_⟩
  rcases h1.2 with ⟨e1, e2⟩ | ⟨g, cap, cur, e1, e2, e3, e4, e5, e6, e7⟩
  · exact .inl ⟨e1, List.length_eq_zero_iff.1 e2⟩
  · refine .inr ⟨g, cap, cur, e1, by omega, (hy g (by omega)).trans e3, ?_⟩
    have h3 := NC_more (cur.toList.drop (K.length * 3)) _ _ h2
    rw [← e7, List.take_append_drop] at h3
    exact NC_keep (fun q hq _ => ⟨by omega, hy q (by omega)⟩) _ _ h3
theorem WG.na_alt {b : Nat} {s : ByteArray} {o : Nat} {w : World} {K : List Nd} {v : Value} {j : Nat} {W Y : World} (h : WG 5 b s o w K v j W) (hy : ∀ q, q ≠ w.heap.size → Y.heap[q]? = W.heap[q]?) : NA Y (fun q => w.heap.size ≤ q) (.alt K) 5 (.slice none 0 0) v := by
  obtain ⟨xs, h1, h2⟩ := h.row
  rw [NA]
  refine ⟨rfl, rfl, ?_⟩
  rcases h1.2 with ⟨e1, e2⟩ | ⟨g, cap, cur, e1, e2, e3, e4, e5, e6, e7⟩
  · exact .inl ⟨e1, List.length_eq_zero_iff.1 e2⟩
  · refine .inr ⟨g, cap, cur, e1, by omega, (hy g (by omega)).trans e3, ?_⟩
    have h3 := NC_more (cur.toList.drop (K.length * 3)) _ _ h2
    rw [← e7, List.take_append_drop] at h3
    exact NC_keep (fun q hq _ => ⟨by omega, hy q (by omega)⟩) _ _ h3
def pWhy (b : Nat) (W : World) : Int := match W.cell? ⟨b, 3, none⟩ with
  | some (.int _ x) => x
  | _ => 0
/-- What a round lessens: the bytes ahead, or that no fault was told yet. -/
def WM (b : Nat) (s : ByteArray) (W : World) : Nat := if pWhy b W = 0 then s.size - pAt b W + 1 else 0
theorem pWhy_eq {b : Nat} {s : ByteArray} {i o : Nat} {y a : Int} {W : World} (h : Par b s i o y a W) : pWhy b W = y := by
  have h1 : W.cell? ⟨b, 3, none⟩ = some (.int .i64 y) := h.cell 3
  unfold pWhy
  rw [h1]
theorem WM_eq {b : Nat} {s : ByteArray} {i o : Nat} {y a : Int} {W : World} (h : Par b s i o y a W) : WM b s W = if y = 0 then s.size - i + 1 else 0 := by
  unfold WM
  rw [pWhy_eq h, pAt_eq h]
set_option maxRecDepth 20000 in
set_option maxHeartbeats 2000000 in
theorem rway_any (m : Nat) (hT : RThing m) : RWay m := by
  intro b s i o w r h hs hi hm ho hP
  obtain ⟨W0, hW0, hG⟩ := WG.start (kd := 4) h
  have H0 : Hid (WG 4 b s o w [] (.slice none 0 0) i W0 ∧ P .way o ((bl s).drop i) r) := ⟨hG, hP⟩
  obtain ⟨B, hB⟩ : ∃ B, B = w.heap.size := ⟨_, rfl⟩
  have HBw : Hid (B = w.heap.size) := hB
  have HTh : Hid (∀ j W tr, Par b s j o 0 0 W → j < s.size → i ≤ j → P .thing o ((bl s).drop j) tr → Calls Tryz.prog 43 #[.pointer (some ⟨b, 0, none⟩)] W (PPost hd b s o W tr)) := fun j W tr h1 h2 h3 h4 => hT b s j o W tr h1 hs h2 (by omega) ho h4
  have HPk : Hid (∀ (j : Nat) (hj : j < s.size) W, Par b s j o 0 0 W → Calls Tryz.prog 17 #[.pointer (some ⟨b, 0, none⟩)] W fun e w' => e = .returned (.tuple #[.int .u8 (s[j].toNat : Int), .bool true]) ∧ Par b s j o 0 0 w' ∧ Below W.heap.size W w') := fun j hj W hP => peek_some b s j o 0 W hP hj
  have HPn : Hid (∀ j o' y a W, s.size ≤ j ∨ y ≠ 0 → Par b s j o' y a W → Calls Tryz.prog 17 #[.pointer (some ⟨b, 0, none⟩)] W fun e w' => e = .returned (.tuple #[.int .u8 0, .bool false]) ∧ Par b s j o' y a w' ∧ Below W.heap.size W w') := fun j o' y a W h1 h2 => peek_none b s j o' y a W h2 h1
  clear hG hP h
  go_enter Tryz.func31, Tryz.ntmps31
  go_wp2_with fail
  rw [← hW0, ← hB]
  obtain ⟨Bn, hBn⟩ : ∃ Bn, Bn = B + 1 := ⟨_, rfl⟩
  rw [← hBn]
  have HBn : Hid (Bn = w.heap.size + 1) := by show _ = _; omega
  clear hW0 hB hBn
  go_loopw [] (fun wr => (∃ (j : Nat) (K : List Nd) (v : Value) (r' : Res), i ≤ j ∧ j ≤ s.size ∧ K.length ≤ j ∧ Hid (WG 4 b s o w K v j wr ∧ P .way o ((bl s).drop j) r' ∧ r = appR K r')) ∨ Hid (WB 4 b s w r wr)) (fun wr => WM b s wr)
  case atStart => exact .inl ⟨i, [], _, r, Nat.le_refl _, hi, Nat.zero_le _, H0.out.1, H0.out.2, by cases r <;> rfl⟩
  case round =>
    clear H0
    rcases hrel with ⟨j, K, v, r', hij, hj, hKj, HG⟩ | HW
    · obtain ⟨xs, hrow, hnc⟩ := HG.out.1.row
      obtain ⟨n1, hn1⟩ : ∃ n1, n1 = K.length := ⟨_, rfl⟩
      obtain ⟨a1, c1, hv⟩ := row_slice hrow
      rw [← hn1] at hv hKj
      have HN1 : Hid (n1 = K.length) := hn1
      subst hv
      have HI : Hid (WG 4 b s o w K (.slice a1 n1 c1) j wr) := HG.out.1
      have HP : Hid (P .way o ((bl s).drop j) r' ∧ r = appR K r') := HG.out.2
      have HM : Hid (WM b s wr = s.size - j + 1) := by
        show _ = _
        rw [WM_eq HG.out.1.bi.par, if_pos rfl]
      clear hrow hnc HG hn1
      by_cases hjs : j < s.size
      · obtain ⟨x0, hx0⟩ : ∃ x : Nat, s[j].toNat = x := ⟨_, rfl⟩
        have HPk2 : Hid (∀ W, Par b s j o 0 0 W → Calls Tryz.prog 17 #[.pointer (some ⟨b, 0, none⟩)] W fun e w' => e = .returned (.tuple #[.int .u8 (x0 : Int), .bool true]) ∧ Par b s j o 0 0 w' ∧ Below W.heap.size W w') := fun W hW => by rw [← hx0]; exact HPk.out j hjs W hW
        by_cases h124 : x0 = 124
        · subst h124
          have hr : r = .ok K ((bl s).drop j) := by
            have h1 := P.same HP.out.1 (.wayEnd o _ (by rw [fi_drop hjs, (u8_eq_iff s[j] 124).2 hx0]; rfl))
            rw [HP.out.2, h1]; simp [appR]
          subst hr
          go_wp2_with fail
          refine (HPk2.out wr HI.out.bi.par).mono ?_
          rintro e w1 ⟨rfl, _, h1⟩
          have H1 : Hid (WG 4 b s o w K (.slice a1 n1 c1) j w1) := HI.out.below h1
          have hnb := H1.out.nb
          rw [← HBn.out] at hnb
          clear h1 HI
          obtain ⟨fB, z0, z1, z2, hBl⟩ := H1.out.bi.facts
          rw [← HBw.out] at fB z0 z1 z2 hBl
          obtain ⟨k0, k1, k2⟩ := node_cells hnb
          have hnB : ¬ Bn = B := by have := HBw.out; have := HBn.out; omega
          have hBn9 : ¬ B = Bn := fun e => hnB e.symm
          go_wp2_with fail
          obtain ⟨Y, hY, ⟨r0, r1, r2⟩, y2, y3, y4⟩ := H1.out.bi.fin (.int .i64 4) (.slice none 0 0) (.slice a1 n1 c1)
          rw [← HBw.out] at hY r0 r1 r2 y4
          rw [← hY]
          refine bodyPost_ret (by simp [results, Tryz.results31, go_sem, r0, r1, r2]; try rfl) rfl ?_
          have hbk : s.size - (s.size - j) = j := by omega
          have hB9 := HBw.out
          exact ⟨y3, _, _, _, rfl, ⟨_, _, _, rfl⟩, ⟨_, _, _, rfl⟩, by rw [drop_len]; omega, by rw [drop_len, hbk], by rw [drop_len, hbk]; exact y2, H1.out.na_seq (fun q hq => y4 q (by omega))⟩
        · have n124 : ¬ (x0 : Int) = 124 := by omega
          have b124 : ((x0 : Int) == 124) = false := by simp; omega
          by_cases h41 : x0 = 41
          · subst h41
            have hr : r = .ok K ((bl s).drop j) := by
              have h1 := P.same HP.out.1 (.wayEnd o _ (by rw [fi_drop hjs, (u8_eq_iff s[j] 41).2 hx0]; rfl))
              rw [HP.out.2, h1]; simp [appR]
            subst hr
            go_wp2_with fail
            refine (HPk2.out wr HI.out.bi.par).mono ?_
            rintro e w1 ⟨rfl, _, h1⟩
            have H1 : Hid (WG 4 b s o w K (.slice a1 n1 c1) j w1) := HI.out.below h1
            have hnb := H1.out.nb
            rw [← HBn.out] at hnb
            clear h1 HI
            obtain ⟨fB, z0, z1, z2, hBl⟩ := H1.out.bi.facts
            rw [← HBw.out] at fB z0 z1 z2 hBl
            obtain ⟨k0, k1, k2⟩ := node_cells hnb
            have hnB : ¬ Bn = B := by have := HBw.out; have := HBn.out; omega
            have hBn9 : ¬ B = Bn := fun e => hnB e.symm
            go_wp2_with fail
            obtain ⟨Y, hY, ⟨r0, r1, r2⟩, y2, y3, y4⟩ := H1.out.bi.fin (.int .i64 4) (.slice none 0 0) (.slice a1 n1 c1)
            rw [← HBw.out] at hY r0 r1 r2 y4
            rw [← hY]
            refine bodyPost_ret (by simp [results, Tryz.results31, go_sem, r0, r1, r2]; try rfl) rfl ?_
            have hbk : s.size - (s.size - j) = j := by omega
            have hB9 := HBw.out
            exact ⟨y3, _, _, _, rfl, ⟨_, _, _, rfl⟩, ⟨_, _, _, rfl⟩, by rw [drop_len]; omega, by rw [drop_len, hbk], by rw [drop_len, hbk]; exact y2, H1.out.na_seq (fun q hq => y4 q (by omega))⟩
          · have n41 : ¬ (x0 : Int) = 41 := by omega
            have b41 : ((x0 : Int) == 41) = false := by simp; omega
            have HSt : Hid (stops ((bl s).drop j) = false) := by
              rw [fi_drop hjs]
              have e1 : (s[j] == 124) = false := beq_eq_false_iff_ne.2 (fun e => h124 (by rw [← hx0, e]; rfl))
              have e2 : (s[j] == 41) = false := beq_eq_false_iff_ne.2 (fun e => h41 (by rw [← hx0, e]; rfl))
              show (s[j] == 124 || s[j] == 41) = false
              rw [e1, e2]; rfl
            go_wp2_with fail
            refine (HPk2.out wr HI.out.bi.par).mono ?_
            rintro e w1 ⟨rfl, _, h1⟩
            have H1 : Hid (WG 4 b s o w K (.slice a1 n1 c1) j w1) := HI.out.below h1
            clear h1 HI
            have hcase : (∃ y left, P .thing o ((bl s).drop j) (.bad y left) ∧ r = .bad y left) ∨ (∃ n r1 res2, P .thing o ((bl s).drop j) (.ok [n] r1) ∧ P .way o (post n r1).2 res2 ∧ r = appR (K ++ [(post n r1).1]) res2) := by
              obtain ⟨hPw, hrr⟩ := HP.out
              cases hPw with
              | wayEnd _ _ h9 => rw [HSt.out] at h9; cases h9
              | wayBad _ _ y left h9 ht => exact .inl ⟨y, left, ht, hrr⟩
              | wayNext _ _ r1 r2 n k h9 ht h2 => exact .inr ⟨n, r1, _, ht, h2, by rw [hrr]; simp [appR]⟩
              | wayLater _ _ r1 n y left h9 ht h2 => exact .inr ⟨n, r1, _, ht, h2, by rw [hrr]; rfl⟩
            clear HP
            rcases hcase with ⟨y, left, ht, hr⟩ | ⟨n, r1, res2, ht, h2, hr⟩
            · subst hr
              have HTc := HTh.out j w1 _ H1.out.bi.par hjs hij ht
              have HTd : Hid (Calls Tryz.prog 43 #[.pointer (some ⟨b, 0, none⟩)] w1 (PPost hd b s o w1 (.bad y left))) := HTc
              clear ht HTc
              go_wp2_with fail
              refine HTd.out.mono ?_
              rintro e w3 ⟨hw3, k, sv, kv, rfl, ⟨a2, n2, c2, rfl⟩, ⟨a3, n3, c3, rfl⟩, hy, i', o', hi', ho', hpar⟩
              have hyz : ¬ (y : Int) = 0 := by omega
              have H3 : Hid (Wrote b w1 w3 ∧ Par b s i' o' (y : Int) ((s.size - left : Nat) : Int) w3) := ⟨hw3, hpar⟩
              clear hw3 hpar HTd
              simp only [nodeV]
              go_wp2_with fail
              obtain ⟨w4, hw4, hB4, hS4, hk4⟩ := one_box w3 (.cells #[.int .i64 k, .slice a2 n2 c2, .slice a3 n3 c3] 35)
              rw [← hw4]
              obtain ⟨Bk, hBk⟩ : ∃ Bk, Bk = w3.heap.size := ⟨_, rfl⟩
              rw [← hBk] at hk4 ⊢
              have H4 : Hid (BI b s i' o' (y : Int) ((s.size - left : Nat) : Int) w w4 ∧ w4.heap[Bk]? = some (.cells #[.int .i64 k, .slice a2 n2 c2, .slice a3 n3 c3] 35 (0, 0)) ∧ w4.heap[w.heap.size + 1]? = some (.cells #[.int .i64 4, .slice none 0 0, .slice a1 n1 c1] 35 (0, 0)) ∧ ∃ xs, w4.ownsRow (w.heap.size + 2) 35 3 (.slice a1 n1 c1) n1 xs) := by
                have hbw := H1.out.bi.bw
                have hbi3 := H1.out.bi.wrote H3.out.1 H3.out.2
                obtain ⟨xs, hrow, _⟩ := H1.out.row
                rw [← HN1.out] at hrow
                have hnl := (Array.getElem?_eq_some_iff.1 H1.out.nb).1
                have hs3 := H3.out.1.size
                exact ⟨hbi3.below hB4, hk4, (hB4.block _ (by omega)).trans ((H3.out.1.block _ hnl (by omega)).trans H1.out.nb), xs, owns_below (owns_wrote hrow H3.out.1 (fun e => by have := (hrow.lt b e).1; omega)) hB4⟩
              clear hw4 hB4 hS4 hk4 hBk
              refine (HPn.out i' o' _ _ w4 (.inr hyz) H4.out.1.par).mono ?_
              rintro e w5 ⟨rfl, _, h5⟩
              have H5 : Hid (BI b s i' o' (y : Int) ((s.size - left : Nat) : Int) w w5) := H4.out.1.below h5
              have HKb : Hid (w5.heap[Bk]? = some (.cells #[.int .i64 k, .slice a2 n2 c2, .slice a3 n3 c3] 35 (0, 0))) := (h5.block _ (Array.getElem?_eq_some_iff.1 H4.out.2.1).1).trans H4.out.2.1
              have HNb : Hid (w5.heap[Bn]? = some (.cells #[.int .i64 4, .slice none 0 0, .slice a1 n1 c1] 35 (0, 0))) := by rw [HBn.out]; exact (h5.block _ (Array.getElem?_eq_some_iff.1 H4.out.2.2.1).1).trans H4.out.2.2.1
              have HRow : Hid (∃ xs, w5.ownsRow (w.heap.size + 2) 35 3 (.slice a1 n1 c1) n1 xs ∧ True) := by
                obtain ⟨xs, hx⟩ := H4.out.2.2.2
                exact ⟨xs, owns_below hx h5, trivial⟩
              clear h5 H4
              obtain ⟨i0, hif, hz0, hz1, hz2⟩ := info_parts infoN
              obtain ⟨xs, hrow, hnc⟩ := HRow.out
              obtain ⟨m0, m1, m2⟩ := node_cells HNb.out
              obtain ⟨kk0, kk1, kk2⟩ := node_cells HKb.out
              have fN : ∀ q, w5.frozen? ⟨Bn, q, none⟩ = false := fun q => by simp [World.frozen?, HNb.out]
              have hBnl : Bn < w5.heap.size := (Array.getElem?_eq_some_iff.1 HNb.out).1
              have hBkl : Bk < w5.heap.size := (Array.getElem?_eq_some_iff.1 HKb.out).1
              have hbs : w.heap.size + 2 ≤ w5.heap.size := by have := HBn.out; omega
              go_wp2_with (first | (at_builtin; refine wpList_append_own_at _ rfl _ _ 33 rfl (w.heap.size + 2) 35 i0 (.agg #[.int .i64 0, .slice none 0 0, .slice none 0 0]) 3 56 Tryz.underlying33 hif hz0 hz1 hz2 rfl (by decide) _ _ _ rfl (hrow.alloc _) ⟨w5.heap.size, 0, none⟩ 1 1 [.int .i64 k, .slice a2 n2 c2, .slice a3 n3 c3] rfl rfl ?c1 ?c2 ?c3 ?c4 ?c5 ?_) | fail)
              case c1 =>
                intro j' u hj'
                match j', hj' with
                | 0, hj' => simp at hj'; subst hj'; simp [Addr.add]
                | 1, hj' => simp at hj'; subst hj'; simp [Addr.add]
                | 2, hj' => simp at hj'; subst hj'; simp [Addr.add]
                | j' + 3, hj' => simp at hj'
              case c2 =>
                intro u hu
                simp only [List.mem_cons, List.not_mem_nil, or_false] at hu
                rcases hu with rfl | rfl | rfl <;> rfl
              case c3 => unfold maxLen; omega
              case c4 => omega
              case c5 => simp; omega
              intro v9 w9 hown' hgrow hnil hloc
              have hB8 := (Below.refl w5.heap.size w5).alloc (Nat.le_refl _) (.cells #[.int .i64 k, .slice a2 n2 c2, .slice a3 n3 c3] 35)
              have hnv : (Value.slice a1 n1 c1).ownBlock ≠ some Bn := fun e => by have := (hrow.lt _ e).1; have := HBn.out; omega
              have hb9 : w9.heap[Bn]? = some (.cells #[.int .i64 4, .slice none 0 0, .slice a1 n1 c1] 35 (0, 0)) := by
                rw [hgrow.block Bn (by simp; omega) (fun e => hnv (by first | exact e | exact e.symm)), Below.heap_alloc _ _ _ hBnl]; exact HNb.out
              have p2 : w9.cell? ⟨Bn, 2, none⟩ = some (.slice a1 n1 c1) := (node_cells hb9).2.2
              have g9 : ∀ q, w9.frozen? ⟨Bn, q, none⟩ = false := fun q => by simp [World.frozen?, hb9]
              have hB9l : Bn < w9.heap.size := (Array.getElem?_eq_some_iff.1 hb9).1
              obtain ⟨a9, c9, hv9⟩ := row_slice hown'
              subst hv9
              have H9 : Hid (BI b s i' o' (y : Int) ((s.size - left : Nat) : Int) w (w9.setCell ⟨Bn, 2, none⟩ (.slice a9 (n1 + 1) c9)) ∧ (w9.setCell ⟨Bn, 2, none⟩ (.slice a9 (n1 + 1) c9)).heap[w.heap.size + 1]? = some (.cells #[.int .i64 4, .slice none 0 0, .slice a9 (n1 + 1) c9] 35 (0, 0))) := by
                have hq := bi_grow (v' := .slice a9 (n1 + 1) c9) H5.out (by rw [← HBn.out]; exact HNb.out) hB8 hrow hown' hgrow
                rw [← HBn.out] at hq ⊢
                exact hq
              clear hown' hgrow hnil hloc hrow hnc hb9 hnv hB8 m0 m1 m2 kk0 kk1 kk2 fN hBnl hBkl hbs hif hz0 hz1 hz2
              go_wp2_with fail
              refine ⟨.inr ⟨i', o', y, left, _, rfl, hy, hi', ho', H9.out.1, ⟨_, _, _, rfl⟩, H9.out.2⟩, ?_⟩
              rw [HM.out, WM_eq H9.out.1.par, if_neg hyz]
              omega
            · have hlen := (ht.len rfl).2 rfl
              rw [drop_len] at hlen
              have HTd : Hid (Calls Tryz.prog 43 #[.pointer (some ⟨b, 0, none⟩)] w1 (PPost hd b s o w1 (.ok [n] r1))) := HTh.out j w1 _ H1.out.bi.par hjs hij ht
              have HR2 : Hid (P .way o (post n r1).2 res2 ∧ r = appR (K ++ [(post n r1).1]) res2) := ⟨h2, hr⟩
              clear ht h2 hr
              go_wp2_with fail
              refine HTd.out.mono ?_
              rintro e w3 ⟨hw3, k, sv, kv, rfl, ⟨a2, n2, c2, rfl⟩, ⟨a3, n3, c3, rfl⟩, hr1, hr2, hpar, hna⟩
              obtain ⟨q, hq⟩ : ∃ q, q = s.size - r1.length := ⟨_, rfl⟩
              rw [← hq] at hr2 hpar
              have hjq : j < q := by omega
              have hqs : q ≤ s.size := by omega
              have H3 : Hid (Wrote b w1 w3 ∧ Par b s q o 0 0 w3 ∧ NA w3 (fun x => w1.heap.size ≤ x) n k (.slice a2 n2 c2) (.slice a3 n3 c3) ∧ r1 = (bl s).drop q) := ⟨hw3, hpar, hna, hr2⟩
              clear hw3 hpar HTd hna hr2 hr1 hq hlen
              simp only [nodeV]
              go_wp2_with fail
              obtain ⟨w4, hw4, hB4, hS4, hk4⟩ := one_box w3 (.cells #[.int .i64 k, .slice a2 n2 c2, .slice a3 n3 c3] 35)
              rw [← hw4]
              obtain ⟨Bk, hBk⟩ : ∃ Bk, Bk = w3.heap.size := ⟨_, rfl⟩
              rw [← hBk] at hk4 ⊢
              have HBk : Hid (Bk = w3.heap.size ∧ w1.heap.size ≤ Bk ∧ w4.heap.size = Bk + 1 ∧ Below w3.heap.size w3 w4) := ⟨hBk, by rw [hBk]; exact H3.out.1.size, by omega, hB4⟩
              have H4 : Hid (Wrote b w1 w4 ∧ Par b s q o 0 0 w4 ∧ w4.heap[Bk]? = some (.cells #[.int .i64 k, .slice a2 n2 c2, .slice a3 n3 c3] 35 (0, 0))) := ⟨H3.out.1.trans (Wrote.of_below hB4), H3.out.2.1.below hB4, hk4⟩
              clear hw4 hB4 hS4 hk4 hBk
              by_cases hq1 : q < s.size
              · obtain ⟨x1, hx1⟩ : ∃ x : Nat, s[q].toNat = x := ⟨_, rfl⟩
                have HPk3 : Hid (∀ W, Par b s q o 0 0 W → Calls Tryz.prog 17 #[.pointer (some ⟨b, 0, none⟩)] W fun e w' => e = .returned (.tuple #[.int .u8 (x1 : Int), .bool true]) ∧ Par b s q o 0 0 w' ∧ Below W.heap.size W w') := fun W hW => by rw [← hx1]; exact HPk.out q hq1 W hW
                have HDq : Hid (r1 = s[q] :: (bl s).drop (q + 1) ∧ s[q].toNat = x1) := ⟨by rw [H3.out.2.2.2, fi_drop hq1], hx1⟩
                clear hx1
                by_cases h42 : x1 = 42
                · subst h42
                  have hs9 : s[q] = 42 := (u8_eq_iff s[q] 42).2 HDq.out.2
                  have HR3 : Hid (P .way o ((bl s).drop (q + 1)) res2 ∧ r = appR (K ++ [.star n]) res2) := by
                    have h := HR2.out
                    rw [HDq.out.1, hs9, post_star] at h
                    exact h
                  clear hs9
                  refine (HPk3.out w4 H4.out.2.1).mono ?_
                  rintro e w5 ⟨rfl, hp5, h5⟩
                  have H5 : Hid (Wrote b w1 w5 ∧ Par b s q o 0 0 w5 ∧ Below w4.heap.size w4 w5) := ⟨H4.out.1.trans (Wrote.of_below h5), hp5, h5⟩
                  have HG5 : Hid (WG 4 b s o w K (.slice a1 n1 c1) q w5) := H1.out.wrote H5.out.1 H5.out.2.1
                  have HKb : Hid (w5.heap[Bk]? = some (.cells #[.int .i64 k, .slice a2 n2 c2, .slice a3 n3 c3] 35 (0, 0))) := (h5.block _ (Array.getElem?_eq_some_iff.1 H4.out.2.2).1).trans H4.out.2.2
                  clear h5 hp5
                  have d1 : w5.cell? ⟨b, 1, none⟩ = some (.int .i64 (q : Int)) := H5.out.2.1.cell 1
                  have fz := H5.out.2.1.frozen
                  obtain ⟨kk0, kk1, kk2⟩ := node_cells HKb.out
                  have fK : ∀ x, w5.frozen? ⟨Bk, x, none⟩ = false := fun x => by simp [World.frozen?, HKb.out]
                  have hBkl : Bk < w5.heap.size := (Array.getElem?_eq_some_iff.1 HKb.out).1
                  have hbBk : ¬ b = Bk := by have := HBk.out.2.1; have := H1.out.bi.par.lt; omega
                  have hBkb : ¬ Bk = b := fun e => hbBk e.symm
                  have HNb : Hid (w5.heap[Bn]? = some (.cells #[.int .i64 4, .slice none 0 0, .slice a1 n1 c1] 35 (0, 0))) := by rw [HBn.out]; exact HG5.out.nb
                  obtain ⟨m0, m1, m2⟩ := node_cells HNb.out
                  have fN : ∀ q, w5.frozen? ⟨Bn, q, none⟩ = false := fun q => by simp [World.frozen?, HNb.out]
                  have hBnl : Bn < w5.heap.size := (Array.getElem?_eq_some_iff.1 HNb.out).1
                  have hBnBk : ¬ Bn = Bk := by have := HBk.out.2.1; have := HBn.out; have := (Array.getElem?_eq_some_iff.1 H1.out.nb).1; omega
                  have hBkBn : ¬ Bk = Bn := fun e => hBnBk e.symm
                  have hBnb : ¬ Bn = b := by have := HBn.out; have := H1.out.bi.bw; omega
                  have hbBn : ¬ b = Bn := fun e => hBnb e.symm
                  have hbl5 : b < w5.heap.size := H5.out.2.1.lt
                  have hkw : ¬ Bk = w5.heap.size := by omega
                  have hwk : ¬ w5.heap.size = Bk := by omega
                  have hbw5 : ¬ b = w5.heap.size := by omega
                  have hwb5 : ¬ w5.heap.size = b := by omega
                  have hnw5 : ¬ Bn = w5.heap.size := by omega
                  have hwn5 : ¬ w5.heap.size = Bn := by omega
                  have h42c : ((42 : Nat) : Int) = 42 := rfl
                  obtain ⟨X6, hX6⟩ : ∃ X6, X6 = ((((w5.setCell ⟨b, 1, none⟩ (.int .i64 ((q : Int) + 1))).setCell ⟨Bk, 0, none⟩ (.int .i64 6)).setCell ⟨Bk, 1, none⟩ (.slice none 0 0)).setCell ⟨Bk, 2, none⟩ (.slice (some ⟨w5.heap.size, 0, none⟩) 1 1)).alloc (.cells #[.int .i64 k, .slice a2 n2 c2, .slice a3 n3 c3] 35) := ⟨_, rfl⟩
                  have HX : Hid (X6.heap.size = w5.heap.size + 1 ∧ X6.heap[w5.heap.size]? = some (.cells #[.int .i64 k, .slice a2 n2 c2, .slice a3 n3 c3] 35 (0, 0)) ∧ (∀ x, x < w5.heap.size → x ≠ b → x ≠ Bk → X6.heap[x]? = w5.heap[x]?) ∧ Par b s (q + 1) o 0 0 X6 ∧ X6.os = w5.os ∧ X6.tape = w5.tape ∧ X6.output = w5.output) := by
                    have o3 := only3 (w5.setCell ⟨b, 1, none⟩ (.int .i64 ((q : Int) + 1))) Bk (.int .i64 6) (.slice none 0 0) (.slice (some ⟨w5.heap.size, 0, none⟩) 1 1)
                    have o1 : Only b w5 (w5.setCell ⟨b, 1, none⟩ (.int .i64 ((q : Int) + 1))) := Only.set _ _ _ _
                    have hp1 := H5.out.2.1.at (q + 1) (.int .i64 ((q : Int) + 1)) (by simp)
                    rw [hX6]
                    generalize hZ : (((w5.setCell ⟨b, 1, none⟩ (.int .i64 ((q : Int) + 1))).setCell ⟨Bk, 0, none⟩ (.int .i64 6)).setCell ⟨Bk, 1, none⟩ (.slice none 0 0)).setCell ⟨Bk, 2, none⟩ (.slice (some ⟨w5.heap.size, 0, none⟩) 1 1) = Z at o3 ⊢
                    have hZs : Z.heap.size = w5.heap.size := by rw [o3.size, o1.size]
                    refine ⟨by simp [hZs], ?_, fun x hx h1 h2 => ?_, ?_, o3.os.trans o1.os, o3.tape.trans o1.tape, o3.output.trans o1.output⟩
                    · rw [← hZs]; exact heap_alloc_new _ _
                    · rw [Below.heap_alloc _ _ _ (by omega), o3.block x h2, o1.block x h1]
                    · exact (Below.heap_alloc _ _ _ (by omega)).trans ((o3.block b hbBk).trans hp1)
                  have HG6 : Hid (WG 4 b s o w K (.slice a1 n1 c1) (q + 1) X6) := by
                    obtain ⟨x1', x2', x3', x4', x5', x6', x7'⟩ := HX.out
                    refine H1.out.wrote ⟨x5'.trans H5.out.1.os, x6'.trans H5.out.1.tape, x7'.trans H5.out.1.output, by have := H5.out.1.size; omega, fun x hx hb => ?_⟩ x4'
                    rw [x3' x (Nat.lt_of_lt_of_le hx H5.out.1.size) hb (by have := HBk.out.2.1; omega)]
                    exact H5.out.1.block x hx hb
                  have HNA : Hid (NA X6 (fun q => w.heap.size + 1 < q ∧ (Value.slice a1 n1 c1).ownBlock ≠ some q) (.star n) 6 (.slice none 0 0) (.slice (some ⟨w5.heap.size, 0, none⟩) 1 1)) := by
                    obtain ⟨x1', x2', x3', _⟩ := HX.out
                    have hlow1 : ∀ x, (Value.slice a1 n1 c1).ownBlock = some x → x < w1.heap.size := fun x hx => by
                      obtain ⟨xs', hr', _⟩ := H1.out.row
                      exact (hr'.lt x hx).2
                    have hw1s : w.heap.size + 1 < w1.heap.size := (Array.getElem?_eq_some_iff.1 H1.out.nb).1
                    have hbw9 := H1.out.bi.bw
                    have hs5 := H5.out.1.size
                    have hbk9 := HBk.out
                    rw [NA]
                    refine ⟨rfl, rfl, w5.heap.size, k, _, _, rfl, ⟨by omega, fun e => by have := hlow1 _ e; omega⟩, x2', ?_⟩
                    refine NA_keep (fun x hx hl => ⟨⟨by omega, fun e => by have := hlow1 x e; omega⟩, ?_⟩) _ _ _ _ H3.out.2.2.1
                    rw [x3' x (by omega) (by omega) (by omega), H5.out.2.2.block x (by omega), hbk9.2.2.2.block x hl]
                  rw [h42c]
                  clear h42c
                  obtain ⟨i0, hif, hz0, hz1, hz2⟩ := info_parts infoN
                  obtain ⟨xs, hrow, hnc⟩ := HG6.out.row
                  rw [← HN1.out] at hrow
                  have hrow6 := hrow
                  rw [hX6] at hrow6
                  have hbs : w.heap.size + 2 ≤ w5.heap.size := by have := HBn.out; omega
                  go_wp2_with (first | (at_builtin; refine wpList_append_own_at _ rfl _ _ 33 rfl (w.heap.size + 2) 35 i0 (.agg #[.int .i64 0, .slice none 0 0, .slice none 0 0]) 3 56 Tryz.underlying33 hif hz0 hz1 hz2 rfl (by decide) _ _ _ rfl (hrow6.alloc _) ⟨w5.heap.size + 1, 0, none⟩ 1 1 [.int .i64 6, .slice none 0 0, .slice (some ⟨w5.heap.size, 0, none⟩) 1 1] rfl rfl ?c1 ?c2 ?c3 ?c4 ?c5 ?_) | fail)
                  case c1 =>
                    rw [← hX6, ← HX.out.1]
                    intro j' u hj'
                    match j', hj' with
                    | 0, hj' => simp at hj'; subst hj'; simp [Addr.add]
                    | 1, hj' => simp at hj'; subst hj'; simp [Addr.add]
                    | 2, hj' => simp at hj'; subst hj'; simp [Addr.add]
                    | j' + 3, hj' => simp at hj'
                  case c2 =>
                    intro u hu
                    simp only [List.mem_cons, List.not_mem_nil, or_false] at hu
                    rcases hu with rfl | rfl | rfl <;> rfl
                  case c3 => unfold maxLen; omega
                  case c4 => omega
                  case c5 =>
                    rw [← hX6]
                    have := HX.out.1
                    simp
                    omega
                  intro v9 w9 hown' hgrow hnil hloc
                  rw [← hX6] at hgrow
                  have hloc2 : v9.ownBlock = (Value.slice a1 n1 c1).ownBlock ∨ v9.ownBlock = some (X6.alloc (.cells #[.int .i64 6, .slice none 0 0, .slice (some ⟨w5.heap.size, 0, none⟩) 1 1] 35)).heap.size := by
                    rcases hloc with h | h
                    · exact .inl h
                    · exact .inr (by rw [h]; simp [HX.out.1])
                  clear hloc
                  have hB8 := (Below.refl X6.heap.size X6).alloc (Nat.le_refl _) (.cells #[.int .i64 6, .slice none 0 0, .slice (some ⟨w5.heap.size, 0, none⟩) 1 1] 35)
                  have hnb6 : X6.heap[Bn]? = some (.cells #[.int .i64 4, .slice none 0 0, .slice a1 n1 c1] 35 (0, 0)) := by rw [HBn.out]; exact HG6.out.nb
                  have hnl6 : Bn < X6.heap.size := (Array.getElem?_eq_some_iff.1 hnb6).1
                  have hnv : (Value.slice a1 n1 c1).ownBlock ≠ some Bn := fun e => by have := (hrow.lt _ e).1; have := HBn.out; omega
                  have hb9 : w9.heap[Bn]? = some (.cells #[.int .i64 4, .slice none 0 0, .slice a1 n1 c1] 35 (0, 0)) := by
                    rw [hgrow.block Bn (by simp; omega) (fun e => hnv (by first | exact e | exact e.symm)), Below.heap_alloc _ _ _ hnl6]; exact hnb6
                  have p2 : w9.cell? ⟨Bn, 2, none⟩ = some (.slice a1 n1 c1) := (node_cells hb9).2.2
                  have g9 : ∀ q, w9.frozen? ⟨Bn, q, none⟩ = false := fun q => by simp [World.frozen?, hb9]
                  have hB9l : Bn < w9.heap.size := (Array.getElem?_eq_some_iff.1 hb9).1
                  obtain ⟨a9, c9, hv9⟩ := row_slice hown'
                  subst hv9
                  have H9 : Hid (WG 4 b s o w (K ++ [.star n]) (.slice a9 (n1 + 1) c9) (q + 1) (w9.setCell ⟨Bn, 2, none⟩ (.slice a9 (n1 + 1) c9))) := by
                    have hr9 := hrow
                    rw [HN1.out] at hr9 hown' hgrow hloc2 hnc
                    have hq := WG.grow (v' := .slice a9 (K.length + 1) c9) (by have := HG6.out; rw [HN1.out] at this; exact this) hB8 hr9 hnc hown' hgrow hloc2 (by have := HNA.out; rw [HN1.out] at this; exact this)
                    rw [← HN1.out, ← HBn.out] at hq
                    exact hq
                  clear hown' hgrow hnil hloc2 hrow hrow6 hnc hb9 hnv hB8 hbs hif hz0 hz1 hz2 hX6 hnb6 hnl6
                  clear m0 m1 m2 kk0 kk1 kk2 fN fK fz d1 hkw hwk hbw5 hwb5 hnw5 hwn5
                  go_wp2_with fail
                  refine ⟨.inl ⟨q + 1, K ++ [.star n], _, res2, by omega, by omega, by have := HN1.out; simp only [List.length_append, List.length_singleton]; omega, H9.out, HR3.out.1, HR3.out.2⟩, ?_⟩
                  rw [HM.out, WM_eq H9.out.bi.par, if_pos rfl]
                  omega
                by_cases h43 : x1 = 43
                · subst h43
                  have hs9 : s[q] = 43 := (u8_eq_iff s[q] 43).2 HDq.out.2
                  have HR3 : Hid (P .way o ((bl s).drop (q + 1)) res2 ∧ r = appR (K ++ [.plus n]) res2) := by
                    have h := HR2.out
                    rw [HDq.out.1, hs9, post_plus] at h
                    exact h
                  clear hs9
                  refine (HPk3.out w4 H4.out.2.1).mono ?_
                  rintro e w5 ⟨rfl, hp5, h5⟩
                  have H5 : Hid (Wrote b w1 w5 ∧ Par b s q o 0 0 w5 ∧ Below w4.heap.size w4 w5) := ⟨H4.out.1.trans (Wrote.of_below h5), hp5, h5⟩
                  have HG5 : Hid (WG 4 b s o w K (.slice a1 n1 c1) q w5) := H1.out.wrote H5.out.1 H5.out.2.1
                  have HKb : Hid (w5.heap[Bk]? = some (.cells #[.int .i64 k, .slice a2 n2 c2, .slice a3 n3 c3] 35 (0, 0))) := (h5.block _ (Array.getElem?_eq_some_iff.1 H4.out.2.2).1).trans H4.out.2.2
                  clear h5 hp5
                  have d1 : w5.cell? ⟨b, 1, none⟩ = some (.int .i64 (q : Int)) := H5.out.2.1.cell 1
                  have fz := H5.out.2.1.frozen
                  obtain ⟨kk0, kk1, kk2⟩ := node_cells HKb.out
                  have fK : ∀ x, w5.frozen? ⟨Bk, x, none⟩ = false := fun x => by simp [World.frozen?, HKb.out]
                  have hBkl : Bk < w5.heap.size := (Array.getElem?_eq_some_iff.1 HKb.out).1
                  have hbBk : ¬ b = Bk := by have := HBk.out.2.1; have := H1.out.bi.par.lt; omega
                  have hBkb : ¬ Bk = b := fun e => hbBk e.symm
                  have HNb : Hid (w5.heap[Bn]? = some (.cells #[.int .i64 4, .slice none 0 0, .slice a1 n1 c1] 35 (0, 0))) := by rw [HBn.out]; exact HG5.out.nb
                  obtain ⟨m0, m1, m2⟩ := node_cells HNb.out
                  have fN : ∀ q, w5.frozen? ⟨Bn, q, none⟩ = false := fun q => by simp [World.frozen?, HNb.out]
                  have hBnl : Bn < w5.heap.size := (Array.getElem?_eq_some_iff.1 HNb.out).1
                  have hBnBk : ¬ Bn = Bk := by have := HBk.out.2.1; have := HBn.out; have := (Array.getElem?_eq_some_iff.1 H1.out.nb).1; omega
                  have hBkBn : ¬ Bk = Bn := fun e => hBnBk e.symm
                  have hBnb : ¬ Bn = b := by have := HBn.out; have := H1.out.bi.bw; omega
                  have hbBn : ¬ b = Bn := fun e => hBnb e.symm
                  have hbl5 : b < w5.heap.size := H5.out.2.1.lt
                  have hkw : ¬ Bk = w5.heap.size := by omega
                  have hwk : ¬ w5.heap.size = Bk := by omega
                  have hbw5 : ¬ b = w5.heap.size := by omega
                  have hwb5 : ¬ w5.heap.size = b := by omega
                  have hnw5 : ¬ Bn = w5.heap.size := by omega
                  have hwn5 : ¬ w5.heap.size = Bn := by omega
                  have h42c : ((43 : Nat) : Int) = 43 := rfl
                  obtain ⟨X6, hX6⟩ : ∃ X6, X6 = ((((w5.setCell ⟨b, 1, none⟩ (.int .i64 ((q : Int) + 1))).setCell ⟨Bk, 0, none⟩ (.int .i64 7)).setCell ⟨Bk, 1, none⟩ (.slice none 0 0)).setCell ⟨Bk, 2, none⟩ (.slice (some ⟨w5.heap.size, 0, none⟩) 1 1)).alloc (.cells #[.int .i64 k, .slice a2 n2 c2, .slice a3 n3 c3] 35) := ⟨_, rfl⟩
                  have HX : Hid (X6.heap.size = w5.heap.size + 1 ∧ X6.heap[w5.heap.size]? = some (.cells #[.int .i64 k, .slice a2 n2 c2, .slice a3 n3 c3] 35 (0, 0)) ∧ (∀ x, x < w5.heap.size → x ≠ b → x ≠ Bk → X6.heap[x]? = w5.heap[x]?) ∧ Par b s (q + 1) o 0 0 X6 ∧ X6.os = w5.os ∧ X6.tape = w5.tape ∧ X6.output = w5.output) := by
                    have o3 := only3 (w5.setCell ⟨b, 1, none⟩ (.int .i64 ((q : Int) + 1))) Bk (.int .i64 7) (.slice none 0 0) (.slice (some ⟨w5.heap.size, 0, none⟩) 1 1)
                    have o1 : Only b w5 (w5.setCell ⟨b, 1, none⟩ (.int .i64 ((q : Int) + 1))) := Only.set _ _ _ _
                    have hp1 := H5.out.2.1.at (q + 1) (.int .i64 ((q : Int) + 1)) (by simp)
                    rw [hX6]
                    generalize hZ : (((w5.setCell ⟨b, 1, none⟩ (.int .i64 ((q : Int) + 1))).setCell ⟨Bk, 0, none⟩ (.int .i64 7)).setCell ⟨Bk, 1, none⟩ (.slice none 0 0)).setCell ⟨Bk, 2, none⟩ (.slice (some ⟨w5.heap.size, 0, none⟩) 1 1) = Z at o3 ⊢
                    have hZs : Z.heap.size = w5.heap.size := by rw [o3.size, o1.size]
                    refine ⟨by simp [hZs], ?_, fun x hx h1 h2 => ?_, ?_, o3.os.trans o1.os, o3.tape.trans o1.tape, o3.output.trans o1.output⟩
                    · rw [← hZs]; exact heap_alloc_new _ _
                    · rw [Below.heap_alloc _ _ _ (by omega), o3.block x h2, o1.block x h1]
                    · exact (Below.heap_alloc _ _ _ (by omega)).trans ((o3.block b hbBk).trans hp1)
                  have HG6 : Hid (WG 4 b s o w K (.slice a1 n1 c1) (q + 1) X6) := by
                    obtain ⟨x1', x2', x3', x4', x5', x6', x7'⟩ := HX.out
                    refine H1.out.wrote ⟨x5'.trans H5.out.1.os, x6'.trans H5.out.1.tape, x7'.trans H5.out.1.output, by have := H5.out.1.size; omega, fun x hx hb => ?_⟩ x4'
                    rw [x3' x (Nat.lt_of_lt_of_le hx H5.out.1.size) hb (by have := HBk.out.2.1; omega)]
                    exact H5.out.1.block x hx hb
                  have HNA : Hid (NA X6 (fun q => w.heap.size + 1 < q ∧ (Value.slice a1 n1 c1).ownBlock ≠ some q) (.plus n) 7 (.slice none 0 0) (.slice (some ⟨w5.heap.size, 0, none⟩) 1 1)) := by
                    obtain ⟨x1', x2', x3', _⟩ := HX.out
                    have hlow1 : ∀ x, (Value.slice a1 n1 c1).ownBlock = some x → x < w1.heap.size := fun x hx => by
                      obtain ⟨xs', hr', _⟩ := H1.out.row
                      exact (hr'.lt x hx).2
                    have hw1s : w.heap.size + 1 < w1.heap.size := (Array.getElem?_eq_some_iff.1 H1.out.nb).1
                    have hbw9 := H1.out.bi.bw
                    have hs5 := H5.out.1.size
                    have hbk9 := HBk.out
                    rw [NA]
                    refine ⟨rfl, rfl, w5.heap.size, k, _, _, rfl, ⟨by omega, fun e => by have := hlow1 _ e; omega⟩, x2', ?_⟩
                    refine NA_keep (fun x hx hl => ⟨⟨by omega, fun e => by have := hlow1 x e; omega⟩, ?_⟩) _ _ _ _ H3.out.2.2.1
                    rw [x3' x (by omega) (by omega) (by omega), H5.out.2.2.block x (by omega), hbk9.2.2.2.block x hl]
                  rw [h42c]
                  clear h42c
                  obtain ⟨i0, hif, hz0, hz1, hz2⟩ := info_parts infoN
                  obtain ⟨xs, hrow, hnc⟩ := HG6.out.row
                  rw [← HN1.out] at hrow
                  have hrow6 := hrow
                  rw [hX6] at hrow6
                  have hbs : w.heap.size + 2 ≤ w5.heap.size := by have := HBn.out; omega
                  go_wp2_with (first | (at_builtin; refine wpList_append_own_at _ rfl _ _ 33 rfl (w.heap.size + 2) 35 i0 (.agg #[.int .i64 0, .slice none 0 0, .slice none 0 0]) 3 56 Tryz.underlying33 hif hz0 hz1 hz2 rfl (by decide) _ _ _ rfl (hrow6.alloc _) ⟨w5.heap.size + 1, 0, none⟩ 1 1 [.int .i64 7, .slice none 0 0, .slice (some ⟨w5.heap.size, 0, none⟩) 1 1] rfl rfl ?c1 ?c2 ?c3 ?c4 ?c5 ?_) | fail)
                  case c1 =>
                    rw [← hX6, ← HX.out.1]
                    intro j' u hj'
                    match j', hj' with
                    | 0, hj' => simp at hj'; subst hj'; simp [Addr.add]
                    | 1, hj' => simp at hj'; subst hj'; simp [Addr.add]
                    | 2, hj' => simp at hj'; subst hj'; simp [Addr.add]
                    | j' + 3, hj' => simp at hj'
                  case c2 =>
                    intro u hu
                    simp only [List.mem_cons, List.not_mem_nil, or_false] at hu
                    rcases hu with rfl | rfl | rfl <;> rfl
                  case c3 => unfold maxLen; omega
                  case c4 => omega
                  case c5 =>
                    rw [← hX6]
                    have := HX.out.1
                    simp
                    omega
                  intro v9 w9 hown' hgrow hnil hloc
                  rw [← hX6] at hgrow
                  have hloc2 : v9.ownBlock = (Value.slice a1 n1 c1).ownBlock ∨ v9.ownBlock = some (X6.alloc (.cells #[.int .i64 7, .slice none 0 0, .slice (some ⟨w5.heap.size, 0, none⟩) 1 1] 35)).heap.size := by
                    rcases hloc with h | h
                    · exact .inl h
                    · exact .inr (by rw [h]; simp [HX.out.1])
                  clear hloc
                  have hB8 := (Below.refl X6.heap.size X6).alloc (Nat.le_refl _) (.cells #[.int .i64 7, .slice none 0 0, .slice (some ⟨w5.heap.size, 0, none⟩) 1 1] 35)
                  have hnb6 : X6.heap[Bn]? = some (.cells #[.int .i64 4, .slice none 0 0, .slice a1 n1 c1] 35 (0, 0)) := by rw [HBn.out]; exact HG6.out.nb
                  have hnl6 : Bn < X6.heap.size := (Array.getElem?_eq_some_iff.1 hnb6).1
                  have hnv : (Value.slice a1 n1 c1).ownBlock ≠ some Bn := fun e => by have := (hrow.lt _ e).1; have := HBn.out; omega
                  have hb9 : w9.heap[Bn]? = some (.cells #[.int .i64 4, .slice none 0 0, .slice a1 n1 c1] 35 (0, 0)) := by
                    rw [hgrow.block Bn (by simp; omega) (fun e => hnv (by first | exact e | exact e.symm)), Below.heap_alloc _ _ _ hnl6]; exact hnb6
                  have p2 : w9.cell? ⟨Bn, 2, none⟩ = some (.slice a1 n1 c1) := (node_cells hb9).2.2
                  have g9 : ∀ q, w9.frozen? ⟨Bn, q, none⟩ = false := fun q => by simp [World.frozen?, hb9]
                  have hB9l : Bn < w9.heap.size := (Array.getElem?_eq_some_iff.1 hb9).1
                  obtain ⟨a9, c9, hv9⟩ := row_slice hown'
                  subst hv9
                  have H9 : Hid (WG 4 b s o w (K ++ [.plus n]) (.slice a9 (n1 + 1) c9) (q + 1) (w9.setCell ⟨Bn, 2, none⟩ (.slice a9 (n1 + 1) c9))) := by
                    have hr9 := hrow
                    rw [HN1.out] at hr9 hown' hgrow hloc2 hnc
                    have hq := WG.grow (v' := .slice a9 (K.length + 1) c9) (by have := HG6.out; rw [HN1.out] at this; exact this) hB8 hr9 hnc hown' hgrow hloc2 (by have := HNA.out; rw [HN1.out] at this; exact this)
                    rw [← HN1.out, ← HBn.out] at hq
                    exact hq
                  clear hown' hgrow hnil hloc2 hrow hrow6 hnc hb9 hnv hB8 hbs hif hz0 hz1 hz2 hX6 hnb6 hnl6
                  clear m0 m1 m2 kk0 kk1 kk2 fN fK fz d1 hkw hwk hbw5 hwb5 hnw5 hwn5
                  go_wp2_with fail
                  refine ⟨.inl ⟨q + 1, K ++ [.plus n], _, res2, by omega, by omega, by have := HN1.out; simp only [List.length_append, List.length_singleton]; omega, H9.out, HR3.out.1, HR3.out.2⟩, ?_⟩
                  rw [HM.out, WM_eq H9.out.bi.par, if_pos rfl]
                  omega
                by_cases h63 : x1 = 63
                · subst h63
                  have hs9 : s[q] = 63 := (u8_eq_iff s[q] 63).2 HDq.out.2
                  have HR3 : Hid (P .way o ((bl s).drop (q + 1)) res2 ∧ r = appR (K ++ [.opt n]) res2) := by
                    have h := HR2.out
                    rw [HDq.out.1, hs9, post_opt] at h
                    exact h
                  clear hs9
                  refine (HPk3.out w4 H4.out.2.1).mono ?_
                  rintro e w5 ⟨rfl, hp5, h5⟩
                  have H5 : Hid (Wrote b w1 w5 ∧ Par b s q o 0 0 w5 ∧ Below w4.heap.size w4 w5) := ⟨H4.out.1.trans (Wrote.of_below h5), hp5, h5⟩
                  have HG5 : Hid (WG 4 b s o w K (.slice a1 n1 c1) q w5) := H1.out.wrote H5.out.1 H5.out.2.1
                  have HKb : Hid (w5.heap[Bk]? = some (.cells #[.int .i64 k, .slice a2 n2 c2, .slice a3 n3 c3] 35 (0, 0))) := (h5.block _ (Array.getElem?_eq_some_iff.1 H4.out.2.2).1).trans H4.out.2.2
                  clear h5 hp5
                  have d1 : w5.cell? ⟨b, 1, none⟩ = some (.int .i64 (q : Int)) := H5.out.2.1.cell 1
                  have fz := H5.out.2.1.frozen
                  obtain ⟨kk0, kk1, kk2⟩ := node_cells HKb.out
                  have fK : ∀ x, w5.frozen? ⟨Bk, x, none⟩ = false := fun x => by simp [World.frozen?, HKb.out]
                  have hBkl : Bk < w5.heap.size := (Array.getElem?_eq_some_iff.1 HKb.out).1
                  have hbBk : ¬ b = Bk := by have := HBk.out.2.1; have := H1.out.bi.par.lt; omega
                  have hBkb : ¬ Bk = b := fun e => hbBk e.symm
                  have HNb : Hid (w5.heap[Bn]? = some (.cells #[.int .i64 4, .slice none 0 0, .slice a1 n1 c1] 35 (0, 0))) := by rw [HBn.out]; exact HG5.out.nb
                  obtain ⟨m0, m1, m2⟩ := node_cells HNb.out
                  have fN : ∀ q, w5.frozen? ⟨Bn, q, none⟩ = false := fun q => by simp [World.frozen?, HNb.out]
                  have hBnl : Bn < w5.heap.size := (Array.getElem?_eq_some_iff.1 HNb.out).1
                  have hBnBk : ¬ Bn = Bk := by have := HBk.out.2.1; have := HBn.out; have := (Array.getElem?_eq_some_iff.1 H1.out.nb).1; omega
                  have hBkBn : ¬ Bk = Bn := fun e => hBnBk e.symm
                  have hBnb : ¬ Bn = b := by have := HBn.out; have := H1.out.bi.bw; omega
                  have hbBn : ¬ b = Bn := fun e => hBnb e.symm
                  have hbl5 : b < w5.heap.size := H5.out.2.1.lt
                  have hkw : ¬ Bk = w5.heap.size := by omega
                  have hwk : ¬ w5.heap.size = Bk := by omega
                  have hbw5 : ¬ b = w5.heap.size := by omega
                  have hwb5 : ¬ w5.heap.size = b := by omega
                  have hnw5 : ¬ Bn = w5.heap.size := by omega
                  have hwn5 : ¬ w5.heap.size = Bn := by omega
                  have h42c : ((63 : Nat) : Int) = 63 := rfl
                  obtain ⟨X6, hX6⟩ : ∃ X6, X6 = ((((w5.setCell ⟨b, 1, none⟩ (.int .i64 ((q : Int) + 1))).setCell ⟨Bk, 0, none⟩ (.int .i64 8)).setCell ⟨Bk, 1, none⟩ (.slice none 0 0)).setCell ⟨Bk, 2, none⟩ (.slice (some ⟨w5.heap.size, 0, none⟩) 1 1)).alloc (.cells #[.int .i64 k, .slice a2 n2 c2, .slice a3 n3 c3] 35) := ⟨_, rfl⟩
                  have HX : Hid (X6.heap.size = w5.heap.size + 1 ∧ X6.heap[w5.heap.size]? = some (.cells #[.int .i64 k, .slice a2 n2 c2, .slice a3 n3 c3] 35 (0, 0)) ∧ (∀ x, x < w5.heap.size → x ≠ b → x ≠ Bk → X6.heap[x]? = w5.heap[x]?) ∧ Par b s (q + 1) o 0 0 X6 ∧ X6.os = w5.os ∧ X6.tape = w5.tape ∧ X6.output = w5.output) := by
                    have o3 := only3 (w5.setCell ⟨b, 1, none⟩ (.int .i64 ((q : Int) + 1))) Bk (.int .i64 8) (.slice none 0 0) (.slice (some ⟨w5.heap.size, 0, none⟩) 1 1)
                    have o1 : Only b w5 (w5.setCell ⟨b, 1, none⟩ (.int .i64 ((q : Int) + 1))) := Only.set _ _ _ _
                    have hp1 := H5.out.2.1.at (q + 1) (.int .i64 ((q : Int) + 1)) (by simp)
                    rw [hX6]
                    generalize hZ : (((w5.setCell ⟨b, 1, none⟩ (.int .i64 ((q : Int) + 1))).setCell ⟨Bk, 0, none⟩ (.int .i64 8)).setCell ⟨Bk, 1, none⟩ (.slice none 0 0)).setCell ⟨Bk, 2, none⟩ (.slice (some ⟨w5.heap.size, 0, none⟩) 1 1) = Z at o3 ⊢
                    have hZs : Z.heap.size = w5.heap.size := by rw [o3.size, o1.size]
                    refine ⟨by simp [hZs], ?_, fun x hx h1 h2 => ?_, ?_, o3.os.trans o1.os, o3.tape.trans o1.tape, o3.output.trans o1.output⟩
                    · rw [← hZs]; exact heap_alloc_new _ _
                    · rw [Below.heap_alloc _ _ _ (by omega), o3.block x h2, o1.block x h1]
                    · exact (Below.heap_alloc _ _ _ (by omega)).trans ((o3.block b hbBk).trans hp1)
                  have HG6 : Hid (WG 4 b s o w K (.slice a1 n1 c1) (q + 1) X6) := by
                    obtain ⟨x1', x2', x3', x4', x5', x6', x7'⟩ := HX.out
                    refine H1.out.wrote ⟨x5'.trans H5.out.1.os, x6'.trans H5.out.1.tape, x7'.trans H5.out.1.output, by have := H5.out.1.size; omega, fun x hx hb => ?_⟩ x4'
                    rw [x3' x (Nat.lt_of_lt_of_le hx H5.out.1.size) hb (by have := HBk.out.2.1; omega)]
                    exact H5.out.1.block x hx hb
                  have HNA : Hid (NA X6 (fun q => w.heap.size + 1 < q ∧ (Value.slice a1 n1 c1).ownBlock ≠ some q) (.opt n) 8 (.slice none 0 0) (.slice (some ⟨w5.heap.size, 0, none⟩) 1 1)) := by
                    obtain ⟨x1', x2', x3', _⟩ := HX.out
                    have hlow1 : ∀ x, (Value.slice a1 n1 c1).ownBlock = some x → x < w1.heap.size := fun x hx => by
                      obtain ⟨xs', hr', _⟩ := H1.out.row
                      exact (hr'.lt x hx).2
                    have hw1s : w.heap.size + 1 < w1.heap.size := (Array.getElem?_eq_some_iff.1 H1.out.nb).1
                    have hbw9 := H1.out.bi.bw
                    have hs5 := H5.out.1.size
                    have hbk9 := HBk.out
                    rw [NA]
                    refine ⟨rfl, rfl, w5.heap.size, k, _, _, rfl, ⟨by omega, fun e => by have := hlow1 _ e; omega⟩, x2', ?_⟩
                    refine NA_keep (fun x hx hl => ⟨⟨by omega, fun e => by have := hlow1 x e; omega⟩, ?_⟩) _ _ _ _ H3.out.2.2.1
                    rw [x3' x (by omega) (by omega) (by omega), H5.out.2.2.block x (by omega), hbk9.2.2.2.block x hl]
                  rw [h42c]
                  clear h42c
                  obtain ⟨i0, hif, hz0, hz1, hz2⟩ := info_parts infoN
                  obtain ⟨xs, hrow, hnc⟩ := HG6.out.row
                  rw [← HN1.out] at hrow
                  have hrow6 := hrow
                  rw [hX6] at hrow6
                  have hbs : w.heap.size + 2 ≤ w5.heap.size := by have := HBn.out; omega
                  go_wp2_with (first | (at_builtin; refine wpList_append_own_at _ rfl _ _ 33 rfl (w.heap.size + 2) 35 i0 (.agg #[.int .i64 0, .slice none 0 0, .slice none 0 0]) 3 56 Tryz.underlying33 hif hz0 hz1 hz2 rfl (by decide) _ _ _ rfl (hrow6.alloc _) ⟨w5.heap.size + 1, 0, none⟩ 1 1 [.int .i64 8, .slice none 0 0, .slice (some ⟨w5.heap.size, 0, none⟩) 1 1] rfl rfl ?c1 ?c2 ?c3 ?c4 ?c5 ?_) | fail)
                  case c1 =>
                    rw [← hX6, ← HX.out.1]
                    intro j' u hj'
                    match j', hj' with
                    | 0, hj' => simp at hj'; subst hj'; simp [Addr.add]
                    | 1, hj' => simp at hj'; subst hj'; simp [Addr.add]
                    | 2, hj' => simp at hj'; subst hj'; simp [Addr.add]
                    | j' + 3, hj' => simp at hj'
                  case c2 =>
                    intro u hu
                    simp only [List.mem_cons, List.not_mem_nil, or_false] at hu
                    rcases hu with rfl | rfl | rfl <;> rfl
                  case c3 => unfold maxLen; omega
                  case c4 => omega
                  case c5 =>
                    rw [← hX6]
                    have := HX.out.1
                    simp
                    omega
                  intro v9 w9 hown' hgrow hnil hloc
                  rw [← hX6] at hgrow
                  have hloc2 : v9.ownBlock = (Value.slice a1 n1 c1).ownBlock ∨ v9.ownBlock = some (X6.alloc (.cells #[.int .i64 8, .slice none 0 0, .slice (some ⟨w5.heap.size, 0, none⟩) 1 1] 35)).heap.size := by
                    rcases hloc with h | h
                    · exact .inl h
                    · exact .inr (by rw [h]; simp [HX.out.1])
                  clear hloc
                  have hB8 := (Below.refl X6.heap.size X6).alloc (Nat.le_refl _) (.cells #[.int .i64 8, .slice none 0 0, .slice (some ⟨w5.heap.size, 0, none⟩) 1 1] 35)
                  have hnb6 : X6.heap[Bn]? = some (.cells #[.int .i64 4, .slice none 0 0, .slice a1 n1 c1] 35 (0, 0)) := by rw [HBn.out]; exact HG6.out.nb
                  have hnl6 : Bn < X6.heap.size := (Array.getElem?_eq_some_iff.1 hnb6).1
                  have hnv : (Value.slice a1 n1 c1).ownBlock ≠ some Bn := fun e => by have := (hrow.lt _ e).1; have := HBn.out; omega
                  have hb9 : w9.heap[Bn]? = some (.cells #[.int .i64 4, .slice none 0 0, .slice a1 n1 c1] 35 (0, 0)) := by
                    rw [hgrow.block Bn (by simp; omega) (fun e => hnv (by first | exact e | exact e.symm)), Below.heap_alloc _ _ _ hnl6]; exact hnb6
                  have p2 : w9.cell? ⟨Bn, 2, none⟩ = some (.slice a1 n1 c1) := (node_cells hb9).2.2
                  have g9 : ∀ q, w9.frozen? ⟨Bn, q, none⟩ = false := fun q => by simp [World.frozen?, hb9]
                  have hB9l : Bn < w9.heap.size := (Array.getElem?_eq_some_iff.1 hb9).1
                  obtain ⟨a9, c9, hv9⟩ := row_slice hown'
                  subst hv9
                  have H9 : Hid (WG 4 b s o w (K ++ [.opt n]) (.slice a9 (n1 + 1) c9) (q + 1) (w9.setCell ⟨Bn, 2, none⟩ (.slice a9 (n1 + 1) c9))) := by
                    have hr9 := hrow
                    rw [HN1.out] at hr9 hown' hgrow hloc2 hnc
                    have hq := WG.grow (v' := .slice a9 (K.length + 1) c9) (by have := HG6.out; rw [HN1.out] at this; exact this) hB8 hr9 hnc hown' hgrow hloc2 (by have := HNA.out; rw [HN1.out] at this; exact this)
                    rw [← HN1.out, ← HBn.out] at hq
                    exact hq
                  clear hown' hgrow hnil hloc2 hrow hrow6 hnc hb9 hnv hB8 hbs hif hz0 hz1 hz2 hX6 hnb6 hnl6
                  clear m0 m1 m2 kk0 kk1 kk2 fN fK fz d1 hkw hwk hbw5 hwb5 hnw5 hwn5
                  go_wp2_with fail
                  refine ⟨.inl ⟨q + 1, K ++ [.opt n], _, res2, by omega, by omega, by have := HN1.out; simp only [List.length_append, List.length_singleton]; omega, H9.out, HR3.out.1, HR3.out.2⟩, ?_⟩
                  rw [HM.out, WM_eq H9.out.bi.par, if_pos rfl]
                  omega
                have q42 : ¬ (x1 : Int) = 42 := by omega
                have q43 : ¬ (x1 : Int) = 43 := by omega
                have q63 : ¬ (x1 : Int) = 63 := by omega
                have w42 : ((x1 : Int) == 42) = false := by simp; omega
                have w43 : ((x1 : Int) == 43) = false := by simp; omega
                have w63 : ((x1 : Int) == 63) = false := by simp; omega
                have HR3 : Hid (P .way o ((bl s).drop q) res2 ∧ r = appR (K ++ [n]) res2) := by
                  have e := post_other n s[q] ((bl s).drop (q + 1)) (fun e => h42 (by rw [← HDq.out.2, e]; rfl)) (fun e => h43 (by rw [← HDq.out.2, e]; rfl)) (fun e => h63 (by rw [← HDq.out.2, e]; rfl))
                  have h := HR2.out
                  rw [HDq.out.1, e] at h
                  rw [← H3.out.2.2.2, HDq.out.1]
                  exact h
                refine (HPk3.out w4 H4.out.2.1).mono ?_
                rintro e w5 ⟨rfl, hp5, h5⟩
                have H5 : Hid (Wrote b w1 w5 ∧ Par b s q o 0 0 w5 ∧ Below w4.heap.size w4 w5) := ⟨H4.out.1.trans (Wrote.of_below h5), hp5, h5⟩
                have HG5 : Hid (WG 4 b s o w K (.slice a1 n1 c1) q w5) := H1.out.wrote H5.out.1 H5.out.2.1
                have HKb : Hid (w5.heap[Bk]? = some (.cells #[.int .i64 k, .slice a2 n2 c2, .slice a3 n3 c3] 35 (0, 0))) := (h5.block _ (Array.getElem?_eq_some_iff.1 H4.out.2.2).1).trans H4.out.2.2
                clear h5 hp5
                have HNb : Hid (w5.heap[Bn]? = some (.cells #[.int .i64 4, .slice none 0 0, .slice a1 n1 c1] 35 (0, 0))) := by rw [HBn.out]; exact HG5.out.nb
                have HRow : Hid (∃ xs, w5.ownsRow (w.heap.size + 2) 35 3 (.slice a1 n1 c1) n1 xs ∧ NC w5 (fun q => w.heap.size + 1 < q ∧ (Value.slice a1 n1 c1).ownBlock ≠ some q) K xs) := by
                  obtain ⟨xs, h1, h2⟩ := HG5.out.row
                  rw [← HN1.out] at h1
                  exact ⟨xs, h1, h2⟩
                have HNA : Hid (NA w5 (fun q => w.heap.size + 1 < q ∧ (Value.slice a1 n1 c1).ownBlock ≠ some q) n k (.slice a2 n2 c2) (.slice a3 n3 c3)) := by
                  have hlow1 : ∀ x, (Value.slice a1 n1 c1).ownBlock = some x → x < w1.heap.size := fun x hx => by
                    obtain ⟨xs', hr', _⟩ := H1.out.row
                    exact (hr'.lt x hx).2
                  have hw1s : w.heap.size + 1 < w1.heap.size := (Array.getElem?_eq_some_iff.1 H1.out.nb).1
                  have hbw9 := H1.out.bi.bw
                  refine NA_keep (fun x hx hl => ⟨⟨by omega, fun e => by have := hlow1 x e; omega⟩, ?_⟩) _ _ _ _ H3.out.2.2.1
                  rw [H5.out.2.2.block x (by have := HBk.out; omega), HBk.out.2.2.2.block x hl]
                obtain ⟨i0, hif, hz0, hz1, hz2⟩ := info_parts infoN
                obtain ⟨xs, hrow, hnc⟩ := HRow.out
                obtain ⟨m0, m1, m2⟩ := node_cells HNb.out
                obtain ⟨kk0, kk1, kk2⟩ := node_cells HKb.out
                have fN : ∀ q, w5.frozen? ⟨Bn, q, none⟩ = false := fun q => by simp [World.frozen?, HNb.out]
                have hBnl : Bn < w5.heap.size := (Array.getElem?_eq_some_iff.1 HNb.out).1
                have hBkl : Bk < w5.heap.size := (Array.getElem?_eq_some_iff.1 HKb.out).1
                have hbs : w.heap.size + 2 ≤ w5.heap.size := by have := HBn.out; omega
                go_wp2_with (first | (at_builtin; refine wpList_append_own_at _ rfl _ _ 33 rfl (w.heap.size + 2) 35 i0 (.agg #[.int .i64 0, .slice none 0 0, .slice none 0 0]) 3 56 Tryz.underlying33 hif hz0 hz1 hz2 rfl (by decide) _ _ _ rfl (hrow.alloc _) ⟨w5.heap.size, 0, none⟩ 1 1 [.int .i64 k, .slice a2 n2 c2, .slice a3 n3 c3] rfl rfl ?c1 ?c2 ?c3 ?c4 ?c5 ?_) | fail)
                case c1 =>
                  intro j' u hj'
                  match j', hj' with
                  | 0, hj' => simp at hj'; subst hj'; simp [Addr.add]
                  | 1, hj' => simp at hj'; subst hj'; simp [Addr.add]
                  | 2, hj' => simp at hj'; subst hj'; simp [Addr.add]
                  | j' + 3, hj' => simp at hj'
                case c2 =>
                  intro u hu
                  simp only [List.mem_cons, List.not_mem_nil, or_false] at hu
                  rcases hu with rfl | rfl | rfl <;> rfl
                case c3 => unfold maxLen; omega
                case c4 => omega
                case c5 => simp; omega
                intro v9 w9 hown' hgrow hnil hloc
                have hB8 := (Below.refl w5.heap.size w5).alloc (Nat.le_refl _) (.cells #[.int .i64 k, .slice a2 n2 c2, .slice a3 n3 c3] 35)
                have hnv : (Value.slice a1 n1 c1).ownBlock ≠ some Bn := fun e => by have := (hrow.lt _ e).1; have := HBn.out; omega
                have hb9 : w9.heap[Bn]? = some (.cells #[.int .i64 4, .slice none 0 0, .slice a1 n1 c1] 35 (0, 0)) := by
                  rw [hgrow.block Bn (by simp; omega) (fun e => hnv (by first | exact e | exact e.symm)), Below.heap_alloc _ _ _ hBnl]; exact HNb.out
                have p2 : w9.cell? ⟨Bn, 2, none⟩ = some (.slice a1 n1 c1) := (node_cells hb9).2.2
                have g9 : ∀ q, w9.frozen? ⟨Bn, q, none⟩ = false := fun q => by simp [World.frozen?, hb9]
                have hB9l : Bn < w9.heap.size := (Array.getElem?_eq_some_iff.1 hb9).1
                obtain ⟨a9, c9, hv9⟩ := row_slice hown'
                subst hv9
                have H9 : Hid (WG 4 b s o w (K ++ [n]) (.slice a9 (n1 + 1) c9) q (w9.setCell ⟨Bn, 2, none⟩ (.slice a9 (n1 + 1) c9))) := by
                  have hr9 := hrow
                  rw [HN1.out] at hr9 hown' hgrow hloc hnc
                  have hq := WG.grow (v' := .slice a9 (K.length + 1) c9) (by have := HG5.out; rw [HN1.out] at this; exact this) hB8 hr9 hnc hown' hgrow (by simpa using hloc) (by have := HNA.out; rw [HN1.out] at this; exact this)
                  rw [← HN1.out, ← HBn.out] at hq
                  exact hq
                clear hown' hgrow hnil hloc hrow hnc hb9 hnv hB8 m0 m1 m2 kk0 kk1 kk2 fN hBnl hBkl hbs hif hz0 hz1 hz2
                go_wp2_with fail
                refine ⟨.inl ⟨q, K ++ [n], _, res2, by omega, by omega, by have := HN1.out; simp only [List.length_append, List.length_singleton]; omega, H9.out, HR3.out.1, HR3.out.2⟩, ?_⟩
                rw [HM.out, WM_eq H9.out.bi.par, if_pos rfl]
                omega
              · have HR3 : Hid (P .way o ((bl s).drop q) res2 ∧ r = appR (K ++ [n]) res2) := by
                  have e0 : r1 = [] := by rw [H3.out.2.2.2, List.drop_of_length_le (by rw [bl_length]; omega)]
                  have h := HR2.out
                  rw [e0, post_nil] at h
                  rw [← H3.out.2.2.2, e0]
                  exact h
                refine (HPn.out q o 0 0 w4 (.inl (by omega)) H4.out.2.1).mono ?_
                rintro e w5 ⟨rfl, hp5, h5⟩
                have H5 : Hid (Wrote b w1 w5 ∧ Par b s q o 0 0 w5 ∧ Below w4.heap.size w4 w5) := ⟨H4.out.1.trans (Wrote.of_below h5), hp5, h5⟩
                have HG5 : Hid (WG 4 b s o w K (.slice a1 n1 c1) q w5) := H1.out.wrote H5.out.1 H5.out.2.1
                have HKb : Hid (w5.heap[Bk]? = some (.cells #[.int .i64 k, .slice a2 n2 c2, .slice a3 n3 c3] 35 (0, 0))) := (h5.block _ (Array.getElem?_eq_some_iff.1 H4.out.2.2).1).trans H4.out.2.2
                clear h5 hp5
                have HNb : Hid (w5.heap[Bn]? = some (.cells #[.int .i64 4, .slice none 0 0, .slice a1 n1 c1] 35 (0, 0))) := by rw [HBn.out]; exact HG5.out.nb
                have HRow : Hid (∃ xs, w5.ownsRow (w.heap.size + 2) 35 3 (.slice a1 n1 c1) n1 xs ∧ NC w5 (fun q => w.heap.size + 1 < q ∧ (Value.slice a1 n1 c1).ownBlock ≠ some q) K xs) := by
                  obtain ⟨xs, h1, h2⟩ := HG5.out.row
                  rw [← HN1.out] at h1
                  exact ⟨xs, h1, h2⟩
                have HNA : Hid (NA w5 (fun q => w.heap.size + 1 < q ∧ (Value.slice a1 n1 c1).ownBlock ≠ some q) n k (.slice a2 n2 c2) (.slice a3 n3 c3)) := by
                  have hlow1 : ∀ x, (Value.slice a1 n1 c1).ownBlock = some x → x < w1.heap.size := fun x hx => by
                    obtain ⟨xs', hr', _⟩ := H1.out.row
                    exact (hr'.lt x hx).2
                  have hw1s : w.heap.size + 1 < w1.heap.size := (Array.getElem?_eq_some_iff.1 H1.out.nb).1
                  have hbw9 := H1.out.bi.bw
                  refine NA_keep (fun x hx hl => ⟨⟨by omega, fun e => by have := hlow1 x e; omega⟩, ?_⟩) _ _ _ _ H3.out.2.2.1
                  rw [H5.out.2.2.block x (by have := HBk.out; omega), HBk.out.2.2.2.block x hl]
                obtain ⟨i0, hif, hz0, hz1, hz2⟩ := info_parts infoN
                obtain ⟨xs, hrow, hnc⟩ := HRow.out
                obtain ⟨m0, m1, m2⟩ := node_cells HNb.out
                obtain ⟨kk0, kk1, kk2⟩ := node_cells HKb.out
                have fN : ∀ q, w5.frozen? ⟨Bn, q, none⟩ = false := fun q => by simp [World.frozen?, HNb.out]
                have hBnl : Bn < w5.heap.size := (Array.getElem?_eq_some_iff.1 HNb.out).1
                have hBkl : Bk < w5.heap.size := (Array.getElem?_eq_some_iff.1 HKb.out).1
                have hbs : w.heap.size + 2 ≤ w5.heap.size := by have := HBn.out; omega
                go_wp2_with (first | (at_builtin; refine wpList_append_own_at _ rfl _ _ 33 rfl (w.heap.size + 2) 35 i0 (.agg #[.int .i64 0, .slice none 0 0, .slice none 0 0]) 3 56 Tryz.underlying33 hif hz0 hz1 hz2 rfl (by decide) _ _ _ rfl (hrow.alloc _) ⟨w5.heap.size, 0, none⟩ 1 1 [.int .i64 k, .slice a2 n2 c2, .slice a3 n3 c3] rfl rfl ?c1 ?c2 ?c3 ?c4 ?c5 ?_) | fail)
                case c1 =>
                  intro j' u hj'
                  match j', hj' with
                  | 0, hj' => simp at hj'; subst hj'; simp [Addr.add]
                  | 1, hj' => simp at hj'; subst hj'; simp [Addr.add]
                  | 2, hj' => simp at hj'; subst hj'; simp [Addr.add]
                  | j' + 3, hj' => simp at hj'
                case c2 =>
                  intro u hu
                  simp only [List.mem_cons, List.not_mem_nil, or_false] at hu
                  rcases hu with rfl | rfl | rfl <;> rfl
                case c3 => unfold maxLen; omega
                case c4 => omega
                case c5 => simp; omega
                intro v9 w9 hown' hgrow hnil hloc
                have hB8 := (Below.refl w5.heap.size w5).alloc (Nat.le_refl _) (.cells #[.int .i64 k, .slice a2 n2 c2, .slice a3 n3 c3] 35)
                have hnv : (Value.slice a1 n1 c1).ownBlock ≠ some Bn := fun e => by have := (hrow.lt _ e).1; have := HBn.out; omega
                have hb9 : w9.heap[Bn]? = some (.cells #[.int .i64 4, .slice none 0 0, .slice a1 n1 c1] 35 (0, 0)) := by
                  rw [hgrow.block Bn (by simp; omega) (fun e => hnv (by first | exact e | exact e.symm)), Below.heap_alloc _ _ _ hBnl]; exact HNb.out
                have p2 : w9.cell? ⟨Bn, 2, none⟩ = some (.slice a1 n1 c1) := (node_cells hb9).2.2
                have g9 : ∀ q, w9.frozen? ⟨Bn, q, none⟩ = false := fun q => by simp [World.frozen?, hb9]
                have hB9l : Bn < w9.heap.size := (Array.getElem?_eq_some_iff.1 hb9).1
                obtain ⟨a9, c9, hv9⟩ := row_slice hown'
                subst hv9
                have H9 : Hid (WG 4 b s o w (K ++ [n]) (.slice a9 (n1 + 1) c9) q (w9.setCell ⟨Bn, 2, none⟩ (.slice a9 (n1 + 1) c9))) := by
                  have hr9 := hrow
                  rw [HN1.out] at hr9 hown' hgrow hloc hnc
                  have hq := WG.grow (v' := .slice a9 (K.length + 1) c9) (by have := HG5.out; rw [HN1.out] at this; exact this) hB8 hr9 hnc hown' hgrow (by simpa using hloc) (by have := HNA.out; rw [HN1.out] at this; exact this)
                  rw [← HN1.out, ← HBn.out] at hq
                  exact hq
                clear hown' hgrow hnil hloc hrow hnc hb9 hnv hB8 m0 m1 m2 kk0 kk1 kk2 fN hBnl hBkl hbs hif hz0 hz1 hz2
                go_wp2_with fail
                refine ⟨.inl ⟨q, K ++ [n], _, res2, by omega, by omega, by have := HN1.out; simp only [List.length_append, List.length_singleton]; omega, H9.out, HR3.out.1, HR3.out.2⟩, ?_⟩
                rw [HM.out, WM_eq H9.out.bi.par, if_pos rfl]
                omega
      · have hr : r = .ok K ((bl s).drop j) := by
          have h1 := P.same HP.out.1 (.wayEnd o _ (by rw [List.drop_of_length_le (by rw [bl_length]; omega)]; rfl))
          rw [HP.out.2, h1]; simp [appR]
        subst hr
        go_wp2_with fail
        refine (HPn.out j o 0 0 wr (.inl (by omega)) HI.out.bi.par).mono ?_
        rintro e w1 ⟨rfl, _, h1⟩
        have H1 : Hid (WG 4 b s o w K (.slice a1 n1 c1) j w1) := HI.out.below h1
        have hnb := H1.out.nb
        rw [← HBn.out] at hnb
        clear h1 HI
        obtain ⟨fB, z0, z1, z2, hBl⟩ := H1.out.bi.facts
        rw [← HBw.out] at fB z0 z1 z2 hBl
        obtain ⟨k0, k1, k2⟩ := node_cells hnb
        have hnB : ¬ Bn = B := by have := HBw.out; have := HBn.out; omega
        have hBn9 : ¬ B = Bn := fun e => hnB e.symm
        go_wp2_with fail
        obtain ⟨Y, hY, ⟨r0, r1, r2⟩, y2, y3, y4⟩ := H1.out.bi.fin (.int .i64 4) (.slice none 0 0) (.slice a1 n1 c1)
        rw [← HBw.out] at hY r0 r1 r2 y4
        rw [← hY]
        refine bodyPost_ret (by simp [results, Tryz.results31, go_sem, r0, r1, r2]; try rfl) rfl ?_
        have hbk : s.size - (s.size - j) = j := by omega
        have hB9 := HBw.out
        exact ⟨y3, _, _, _, rfl, ⟨_, _, _, rfl⟩, ⟨_, _, _, rfl⟩, by rw [drop_len]; omega, by rw [drop_len, hbk], by rw [drop_len, hbk]; exact y2, H1.out.na_seq (fun q hq => y4 q (by omega))⟩
    · obtain ⟨i', o', y, left, v, hr, hy, hi', ho', hbi, ⟨a1, n1, c1, rfl⟩, hnb⟩ := HW.out.ex
      subst hr
      have HI : Hid (BI b s i' o' (y : Int) ((s.size - left : Nat) : Int) w wr) := hbi
      rw [← HBn.out] at hnb
      have HNb : Hid (wr.heap[Bn]? = some (.cells #[.int .i64 4, .slice none 0 0, .slice a1 n1 c1] 35 (0, 0))) := hnb
      have hyz : ¬ (y : Int) = 0 := by omega
      clear hbi hnb HW
      go_wp2_with fail
      refine (HPn.out i' o' _ _ wr (.inr hyz) HI.out.par).mono ?_
      rintro e w1 ⟨rfl, _, h1⟩
      have H1 : Hid (BI b s i' o' (y : Int) ((s.size - left : Nat) : Int) w w1 ∧ w1.heap[Bn]? = some (.cells #[.int .i64 4, .slice none 0 0, .slice a1 n1 c1] 35 (0, 0))) := ⟨HI.out.below h1, (h1.block _ (Array.getElem?_eq_some_iff.1 HNb.out).1).trans HNb.out⟩
      clear h1 HI HNb
      obtain ⟨fB, z0, z1, z2, hBl⟩ := H1.out.1.facts
      rw [← HBw.out] at fB z0 z1 z2 hBl
      obtain ⟨k0, k1, k2⟩ := node_cells H1.out.2
      have hnB : ¬ Bn = B := by have := HBw.out; have := HBn.out; omega
      have hBn9 : ¬ B = Bn := fun e => hnB e.symm
      go_wp2_with fail
      obtain ⟨Y, hY, ⟨r0, r1, r2⟩, y2, y3, y4⟩ := H1.out.1.fin (.int .i64 4) (.slice none 0 0) (.slice a1 n1 c1)
      rw [← HBw.out] at hY r0 r1 r2 y4
      rw [← hY]
      refine bodyPost_ret (by simp [results, Tryz.results31, go_sem, r0, r1, r2]; try rfl) rfl ?_
      exact ⟨y3, _, _, _, rfl, ⟨_, _, _, rfl⟩, ⟨_, _, _, rfl⟩, hy, i', o', hi', ho', y2⟩
end Go.Proofs.YtmmhajlfbjjocaaGreat
