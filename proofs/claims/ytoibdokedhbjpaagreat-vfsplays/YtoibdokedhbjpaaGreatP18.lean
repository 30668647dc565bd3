/-
  The document's store and the program's answer alike: the law's function answers true.
-/
import Derived.Test.YtoibdokedhbjpaaGreatP19
namespace Go.Proofs.YtoibdokedhbjpaaGreat
open Go.RowKit Go.Shelf Go.Maps

set_option maxRecDepth 50000 in
set_option maxHeartbeats 4000000 in
theorem plays_law (room : Int) (a : Option Addr) (n c : Nat) (l : List Act) (look : ByteArray) (w : World) (hn : n ≤ 140737488355328)
    (hw : Acts w.heap.size w (.slice a n c) l) (hf : Fine l) :
    Calls Tryz.prog 3 #[.int .i64 room, .slice a n c, .string look] w fun e w' => e = .returned (.bool true) ∧ Below w.heap.size w w' := by
  have HA : Hid (∀ W, Calls Tryz.prog 6 #[] W fun e w' => e = .returned (.bool true) ∧ Below W.heap.size W w') := fun W => alive_any W
  have HL : Hid (∀ W, Below w.heap.size w W → Calls Tryz.prog 7 #[.slice a n c] W fun e w' => e = .returned (.bool (longL l)) ∧ Below W.heap.size W w') := fun W hB => long_any a n c w.heap.size l W hB.size hn (hw.below hB)
  have HW : Hid (n = l.length ∧ Acts w.heap.size w (.slice a n c) l) := ⟨hw.len, hw⟩
  clear hw
  by_cases hbad : room < 0 ∨ 1048576 < room
  · have HN : Hid (∀ W, Calls Tryz.prog 4 #[.int .i64 room] W fun e w' => e = .returned (.tuple #[.pointer none, .int .i64 1]) ∧ W = w') := fun W => (new_bad room W hbad).mono fun e w' h => ⟨h.1, h.2.symm⟩
    have HR : Hid (∀ W, Calls Tryz.prog 5 #[.int .i64 room] W fun e w' => e = .returned (.tuple #[.agg #[.int .i64 0, .int .i64 0, .slice none 0 0, .bool false, .slice none 0 0], .int .i64 1]) ∧ Below W.heap.size W w') := fun W => rnew_bad room W hbad
    clear hbad
    go_enter Tryz.func3, Tryz.ntmps3
    go_wp2_with fail
    refine (HN.out _).mono ?_
    rintro e w' ⟨rfl, rfl⟩
    go_wp2_with fail
    refine (HR.out _).mono ?_
    rintro e w1 ⟨rfl, hb1⟩
    have hbA : ∀ o, Below w.heap.size w (w1.alloc o) := fun o => hb1.alloc hb1.size _
    have HBA : Hid (∀ o, Below w.heap.size w (w1.alloc o)) := hbA
    clear hbA hb1
    go_wp2_with fail
    refine (HA.out _).mono ?_
    rintro e w2 ⟨rfl, hb2⟩
    have HB2 : Hid (Below w.heap.size w w2) := (HBA.out _).trans (hb2.mono (HBA.out _).size)
    clear hb2
    go_wp2
    go_ret
    exact ⟨rfl, HB2.out⟩
  have HN : Hid (∀ W, Calls Tryz.prog 4 #[.int .i64 room] W fun e w' => ∃ b m, e = .returned (.tuple #[ptr b, .int .i64 0]) ∧ Store W.heap.size b m (.slice none 0 0) (St.new room) w' ∧ Below W.heap.size W w') := fun W => (new_any room W (by omega) (by omega)).mono fun e w' ⟨b, h1, h2, h3⟩ => ⟨b, _, h1, h2, h3⟩
  have HR : Hid (∀ W, Calls Tryz.prog 5 #[.int .i64 room] W fun e w' => ∃ g, e = .returned (.tuple #[.agg #[.int .i64 room, .int .i64 0, .slice (some ⟨g, 0, none⟩) 1 1, .bool false, .slice none 0 0], .int .i64 0]) ∧ w'.ownsRow W.heap.size 70 4 (.slice (some ⟨g, 0, none⟩) 1 1) 1 (filesV (St.new room).L) ∧ Below W.heap.size W w') := fun W => rnew_any room W (by omega) (by omega)
  clear hbad
  have HI : Hid (∀ w1 b m w2 g, Store w.heap.size b m (.slice none 0 0) (St.new room) w1 → Below w.heap.size w w1 → w2.ownsRow w1.heap.size 70 4 (.slice (some ⟨g, 0, none⟩) 1 1) 1 (filesV (St.new room).L) → Below w1.heap.size w1 w2 →
      PR w.heap.size b m w2.heap.size w (St.new room) (St.new room) (w2.alloc (.cells #[.int .i64 room, .int .i64 0, .slice (some ⟨g, 0, none⟩) 1 1, .bool false, .slice none 0 0] 30))) := by
    intro w1 b m w2 g h1 h2 h3 h4
    have hal : Below w2.heap.size w2 (w2.alloc (.cells #[.int .i64 room, .int .i64 0, .slice (some ⟨g, 0, none⟩) 1 1, .bool false, .slice none 0 0] 30)) := (Below.refl _ w2).alloc (Nat.le_refl _) _
    have hs1 := h2.size
    have hs2 := h4.size
    refine ⟨_, .slice (some ⟨g, 0, none⟩) 1 1, .slice none 0 0, ⟨(h1.below h4).below hal, ⟨heap_alloc_new w2 _, (owns_base h3 hs1).alloc _, World.ownsRow_nil _ _ _ _, by omega⟩, fun g hg => by cases hg⟩, (h2.trans (h4.mono hs1)).trans (hal.mono (by omega))⟩
  by_cases hsk : longL l = true ∨ 3000 < look.size
  · cases hlong : longL l with
    | true =>
      rw [hlong] at HL
      clear hsk hlong
      go_enter Tryz.func3, Tryz.ntmps3
      go_wp2_with fail
      refine (HN.out _).mono ?_
      rintro e w1 ⟨b, m, rfl, hst1, hb1⟩
      have HT1 : Hid (Store w.heap.size b m (.slice none 0 0) (St.new room) w1) := hst1
      clear hst1
      go_wp2_with fail
      refine (HR.out _).mono ?_
      rintro e w2 ⟨g, rfl, hrow2, hb2⟩
      obtain ⟨v0, vL0, vN0, -, hB0⟩ := HI.out w1 b m w2 g HT1.out hb1 hrow2 hb2
      have HB0 : Hid (Below w.heap.size w (w2.alloc (.cells #[.int .i64 room, .int .i64 0, .slice (some ⟨g, 0, none⟩) 1 1, .bool false, .slice none 0 0] 30))) := hB0
      clear hB0 hrow2 hb1 hb2
      go_wp2_with fail
      refine (HA.out _).mono ?_
      rintro e w3 ⟨rfl, hb3⟩
      have hbb3 : Below w.heap.size w w3 := HB0.out.trans (hb3.mono HB0.out.size)
      clear hb3
      go_wp2_with fail
      refine (HL.out _ hbb3).mono ?_
      rintro e w4 ⟨rfl, hb4⟩
      have hbb4 := hbb3.trans (hb4.mono hbb3.size)
      clear hb4 hbb3
      go_wp2
      go_ret
      exact ⟨rfl, hbb4⟩
    | false =>
      have hlk : 3000 < look.size := by rcases hsk with h | h; rw [hlong] at h; cases h; exact h
      have hlki : (3000 : Int) < (look.size : Int) := by omega
      rw [hlong] at HL
      clear hsk hlong
      go_enter Tryz.func3, Tryz.ntmps3
      go_wp2_with fail
      refine (HN.out _).mono ?_
      rintro e w1 ⟨b, m, rfl, hst1, hb1⟩
      have HT1 : Hid (Store w.heap.size b m (.slice none 0 0) (St.new room) w1) := hst1
      clear hst1
      go_wp2_with fail
      refine (HR.out _).mono ?_
      rintro e w2 ⟨g, rfl, hrow2, hb2⟩
      obtain ⟨v0, vL0, vN0, -, hB0⟩ := HI.out w1 b m w2 g HT1.out hb1 hrow2 hb2
      have HB0 : Hid (Below w.heap.size w (w2.alloc (.cells #[.int .i64 room, .int .i64 0, .slice (some ⟨g, 0, none⟩) 1 1, .bool false, .slice none 0 0] 30))) := hB0
      clear hB0 hrow2 hb1 hb2
      go_wp2_with fail
      refine (HA.out _).mono ?_
      rintro e w3 ⟨rfl, hb3⟩
      have hbb3 : Below w.heap.size w w3 := HB0.out.trans (hb3.mono HB0.out.size)
      clear hb3
      go_wp2_with fail
      refine (HL.out _ hbb3).mono ?_
      rintro e w4 ⟨rfl, hb4⟩
      have hbb4 := hbb3.trans (hb4.mono hbb3.size)
      clear hb4 hbb3
      go_wp2
      go_ret
      exact ⟨rfl, hbb4⟩
  have hlong : longL l = false := by cases h : longL l with | true => exact absurd (.inl h) hsk | false => rfl
  have hlk : look.size ≤ 3000 := by have : ¬ 3000 < look.size := fun h => hsk (.inr h); omega
  have hlki : ¬ (3000 : Int) < (look.size : Int) := by omega
  rw [hlong] at HL
  have hnn : n ≤ 600 := by have := (longL_no hlong).1; rw [HW.out.1]; exact this
  have HRN : Hid (∀ j, (hj : j < l.length) → (St.new room).run (l.take (j + 1)) = (((St.new room).run (l.take j)).act l[j]).1) := fun j hj => run_succ (St.new room) l j hj
  have HNow : Hid (∀ j, j ≤ l.length → ((St.new room).run (l.take j)).now ≤ 700000000000000) := fun j hj => by
    have h1 := run_now (St.new room) (l.take j)
    have h2 : (St.new room).now = 0 := rfl
    have h3 : (l.take j).length ≤ 600 := by rw [List.length_take]; have := (longL_no hlong).1; omega
    have h4 := h1.2
    rw [h2] at h4
    omega
  have HTr : Hid (∀ j, j ≤ l.length → Tree ((St.new room).run (l.take j))) := fun j => by
    induction j with
    | zero => intro _; exact tree_new room
    | succ j ih => intro hj; rw [run_succ (St.new room) l j hj]; exact tree_act (ih (by omega)) _
  have HSh : Hid (∀ j, j ≤ l.length → Short ((St.new room).run (l.take j)).L) := fun j => by
    induction j with
    | zero => intro _; exact short_new room
    | succ j ih =>
      intro hj
      have h2 := (longL_no hlong).2 _ (List.getElem_mem (show j < l.length by omega))
      rw [run_succ (St.new room) l j hj]; exact short_act (ih (by omega)) _ h2.1 h2.2
  have HF2 : Hid (∀ j, (hj : j < l.length) → l[j].Ok ∧ l[j].p.size ≤ 3000 ∧ l[j].q.size ≤ 3000 ∧ l[j].t.size ≤ 140737488355328) := fun j hj => by
    have h1 := hf _ (List.getElem_mem hj)
    have h2 := (longL_no hlong).2 _ (List.getElem_mem hj)
    exact ⟨h1.1, h2.1, h2.2, h1.2⟩
  clear hsk hlong hf
  go_enter Tryz.func3, Tryz.ntmps3
  go_wp2_with fail
  refine (HN.out _).mono ?_
  rintro e w1 ⟨b, m, rfl, hst1, hb1⟩
  have HT1 : Hid (Store w.heap.size b m (.slice none 0 0) (St.new room) w1) := hst1
  clear hst1
  go_wp2_with fail
  refine (HR.out _).mono ?_
  rintro e w2 ⟨g, rfl, hrow2, hb2⟩
  have HP2 : Hid (PR w.heap.size b m w2.heap.size w (St.new room) (St.new room) (w2.alloc (.cells #[.int .i64 room, .int .i64 0, .slice (some ⟨g, 0, none⟩) 1 1, .bool false, .slice none 0 0] 30))) := HI.out w1 b m w2 g HT1.out hb1 hrow2 hb2
  clear hrow2 hb1 hb2 HT1 HI
  go_wp2_with fail
  refine (HA.out _).mono ?_
  rintro e w3 ⟨rfl, hb3⟩
  have HP3 : Hid (PR w.heap.size b m w2.heap.size w (St.new room) (St.new room) w3) := HP2.out.below hb3
  have hbb3 : Below w.heap.size w w3 := by obtain ⟨_, _, _, _, h⟩ := HP3.out; exact h
  clear hb3 HP2
  generalize w2.heap.size = br at HP3 ⊢
  go_wp2_with fail
  refine (HL.out _ hbb3).mono ?_
  rintro e w4 ⟨rfl, hb4⟩
  have HP4 : Hid (PR w.heap.size b m br w (St.new room) (St.new room) w4) := HP3.out.below hb4
  clear hb4 hbb3 HP3 HA HL HN HR
  go_wp2
  go_loopw [66] (fun vi wr => ∃ (j : Nat), j ≤ n ∧ vi = .int .i64 j ∧ PR w.heap.size b m br w ((St.new room).run (l.take j)) ((St.new room).run (l.take j)) wr)
    (fun vi _ => n - (intOf vi).toNat)
  case atStart => exact ⟨0, Nat.zero_le _, rfl, HP4.out⟩
  case round =>
    obtain ⟨j, hj, rfl, hpr⟩ := hrel
    clear HP4
    by_cases hlt : j < n
    · have hjl : j < l.length := by rw [← HW.out.1]; exact hlt
      have hil : (j : Int) < (n : Int) := by omega
      have hbel : Below w.heap.size w wr := by obtain ⟨_, _, _, _, h⟩ := hpr; exact h
      obtain ⟨g', o, rfl, x0, x1, x2, x3, x4⟩ := acts_here HW.out.2 hbel j hjl
      have HX := HRN.out j hjl
      have hfx := HF2.out j hjl
      obtain ⟨x, hxe⟩ : ∃ x, x = l[j] := ⟨_, rfl⟩
      obtain ⟨X, hXe⟩ : ∃ X, X = (St.new room).run (l.take j) := ⟨_, rfl⟩
      rw [← hxe] at x0 x1 x2 x3 x4 HX hfx
      rw [← hXe] at HX hpr
      have hXn : X.now ≤ 700000000000000 := by rw [hXe]; exact HNow.out j (by omega)
      have hXt : Tree X := by rw [hXe]; exact HTr.out j (by omega)
      have hXo : X.Ok := hpr.ok
      clear hxe hXe
      obtain ⟨kd, xp, xq, xt, xn⟩ := x
      simp only at x0 x1 x2 x3 x4
      have hk0 : (0 : Int) ≤ kd := hfx.1.k0
      have hk1 : kd ≤ 255 := hfx.1.k1
      have hxp : xp.size ≤ 3000 := hfx.2.1
      have hxq : xq.size ≤ 3000 := hfx.2.2.1
      obtain ⟨Y, hY⟩ : ∃ Y, Y = (X.act ⟨kd, xp, xq, xt, xn⟩).1 := ⟨_, rfl⟩
      obtain ⟨rr, hrr⟩ : ∃ rr, rr = (X.act ⟨kd, xp, xq, xt, xn⟩).2 := ⟨_, rfl⟩
      rw [← hY] at HX
      have HY : Hid ((St.new room).run (l.take (j + 1)) = Y) := HX
      obtain ⟨WA, hWA⟩ : ∃ WA, WA = wr.alloc (.cells #[.int .u8 kd, .string xp, .string xq, .string xt, .int .i64 xn] 36) := ⟨_, rfl⟩
      have HPA : Hid (∀ W, Below WA.heap.size WA W → PA w.heap.size b m br wr.heap.size w ⟨kd, xp, xq, xt, xn⟩ X X W) := fun W hB => by
        have h1 : PA w.heap.size b m br wr.heap.size w ⟨kd, xp, xq, xt, xn⟩ X X WA := by rw [hWA]; exact ⟨hpr.below ((Below.refl _ wr).alloc (Nat.le_refl _) _), heap_alloc_new wr _⟩
        exact h1.below hB
      by_cases hk8 : kd.tmod 10 = 8
      · have hYt : Y = X.tell (oddN xn) := by rw [hY]; unfold St.act; simp [hk8]
        have HNo : Hid (∀ W, Below WA.heap.size WA W → Calls Tryz.prog 9 #[ptr b, .bool (bits BinOp.and IntKind.i64 xn 1 == 1)] W fun e w' => ∃ u, e = .returned u ∧ PA w.heap.size b m br wr.heap.size w ⟨kd, xp, xq, xt, xn⟩ Y X w' ∧
            Hid (∀ w1, Below w'.heap.size w' w1 → Calls Tryz.prog 10 #[rptr br, .bool (bits BinOp.and IntKind.i64 xn 1 == 1)] w1 fun e w'' => ∃ u2, e = .returned u2 ∧ PA w.heap.size b m br wr.heap.size w ⟨kd, xp, xq, xt, xn⟩ Y Y w'' ∧
              Hid (∀ w3, Below w''.heap.size w'' w3 → Calls Tryz.prog 8 #[u, u2] w3 fun e w4 => e = .returned (.bool true) ∧ PA w.heap.size b m br wr.heap.size w ⟨kd, xp, xq, xt, xn⟩ Y Y w4))) := fun W hB => by
          rw [hYt]; exact (HPA.out W hB).notes _
        have HWA : Hid (WA = wr.alloc (.cells #[.int .u8 kd, .string xp, .string xq, .string xt, .int .i64 xn] 36)) := hWA
        clear hY hYt hrr hpr hbel hfx hk0 hk1 HX hXt hXo
        go_wp2_with fail
        rw [← hWA]
        clear hWA x0 x1 x2 x3 x4
        go_region_held3 (fun W => W.cell? ⟨wr.heap.size, 0, none⟩ = some (.int .u8 kd) ∧ W.cell? ⟨wr.heap.size, 1, none⟩ = some (.string xp) ∧ W.cell? ⟨wr.heap.size, 2, none⟩ = some (.string xq) ∧ W.cell? ⟨wr.heap.size, 3, none⟩ = some (.string xt) ∧ W.cell? ⟨wr.heap.size, 4, none⟩ = some (.int .i64 xn))
          (first | exact (HPA.out _ (Below.refl _ _)).cells | exact (HPA.out _ (Below.refl _ _).drew).cells | exact hp5.cells | exact hp6.cells | exact hp4.cells)
          (first
            | (go_at_call 9; refine (HNo.out _ (by first | exact Below.refl _ _ | exact (Below.refl _ _).drew)).mono ?_; rintro e w5 ⟨u, rfl, hp5, HN5⟩)
            | (go_at_call 10; refine (HN5.out _ (by first | exact Below.refl _ _ | exact (Below.refl _ _).drew)).mono ?_; rintro e w4 ⟨u2, rfl, hp4, HN4⟩)
            | (go_at_call 8; refine (HN4.out _ (by first | exact Below.refl _ _ | exact (Below.refl _ _).drew)).mono ?_; rintro e w6 ⟨rfl, hp6⟩))
        clear hp5 hp4 HN5 HN4
        have HP6 : Hid (PA w.heap.size b m br wr.heap.size w ⟨kd, xp, xq, xt, xn⟩ Y Y w6) := hp6
        clear hp6
        have hYo := HP6.out.pr.ok
        have hYl : Y.L.length ≤ 1000 := by have := hYo.len; omega
        have hYu : Y.L.used ≤ 10000000 := by have := hYo.used; have := hYo.room1; omega
        have y1 := HP6.out.cells.2.1
        obtain ⟨t1, d1, z1⟩ : ∃ t d z, Y.stat xp = (t, d, z) := ⟨_, _, _, rfl⟩
        obtain ⟨z1, hst⟩ := z1
        have HS1 : Hid (Calls Tryz.prog 13 #[ptr b, .string xp] w6 fun e w' => e = .returned (.tuple #[.int .i64 t1, .bool d1, .int .i64 z1]) ∧ PA w.heap.size b m br wr.heap.size w ⟨kd, xp, xq, xt, xn⟩ Y Y w') := by
          have := HP6.out.vstat xp (by omega)
          rw [hst] at this; exact this
        have HS2 : Hid (∀ W, PA w.heap.size b m br wr.heap.size w ⟨kd, xp, xq, xt, xn⟩ Y Y W → Calls Tryz.prog 14 #[rptr br, .string xp] W fun e w' => e = .returned (.tuple #[.int .i64 t1, .bool d1, .int .i64 z1]) ∧ PA w.heap.size b m br wr.heap.size w ⟨kd, xp, xq, xt, xn⟩ Y Y w') := fun W hW => by
          have := hW.rstat xp (by omega) hYl
          rw [hst] at this; exact this
        obtain ⟨us, hus⟩ : ∃ us, us = Y.L.used := ⟨_, rfl⟩
        obtain ⟨nw, hnw⟩ : ∃ nw, nw = Y.now := ⟨_, rfl⟩
        have HU : Hid (∀ w8 W, PR w.heap.size b m br w Y Y w8 → Below w8.heap.size w8 W → Calls Tryz.prog 15 #[ptr b] W fun e w' => e = .returned (.int .i64 us) ∧ Below w8.heap.size w8 w') := fun w8 W h8 hB => by
          obtain ⟨v8, vL8, vN8, q1, q2⟩ := h8.below hB
          rw [hus]
          exact (used_any W q1.st).mono fun e w' hh => ⟨hh.1, hB.trans (hh.2.mono hB.size)⟩
        have HUr : Hid (∀ w8 W, PR w.heap.size b m br w Y Y w8 → Below w8.heap.size w8 W → Calls Tryz.prog 16 #[rptr br] W fun e w' => e = .returned (.int .i64 us) ∧ Below w8.heap.size w8 w') := fun w8 W h8 hB => by
          obtain ⟨v8, vL8, vN8, q1, q2⟩ := h8.below hB
          rw [hus]
          exact (rused_any W q1.rs hYl hYu).mono fun e w' hh => ⟨hh.1, hh.2 ▸ hB⟩
        have HCl : Hid (∀ w8 W, PR w.heap.size b m br w Y Y w8 → Below w8.heap.size w8 W → Calls Tryz.prog 17 #[ptr b] W fun e w' => e = .returned (.int .i64 nw) ∧ Below w8.heap.size w8 w') := fun w8 W h8 hB => by
          obtain ⟨v8, vL8, vN8, q1, q2⟩ := h8.below hB
          rw [hnw]
          exact (clock_any W q1.st).mono fun e w' hh => ⟨hh.1, hh.2 ▸ hB⟩
        have HCc : Hid (∀ w8 W, PR w.heap.size b m br w Y Y w8 → Below w8.heap.size w8 W → W.cell? ⟨br, 1, none⟩ = some (.int .i64 nw)) := fun w8 W h8 hB => by rw [hnw]; exact (h8.below hB).c1
        clear hst hus hnw hYo hYl hYu
        go_wp2_with fail
        refine HS1.out.mono ?_
        rintro e w7 ⟨rfl, hp7⟩
        have HP7 : Hid (PA w.heap.size b m br wr.heap.size w ⟨kd, xp, xq, xt, xn⟩ Y Y w7) := hp7
        clear hp7 y1
        have y1 := HP7.out.cells.2.1
        go_wp2_with fail
        refine (HS2.out w7 HP7.out).mono ?_
        rintro e w8 ⟨rfl, hp8⟩
        have HP8 : Hid (PR w.heap.size b m br w Y Y w8) := hp8.pr
        clear hp8 y1
        go_wp2_with fail
        go_region_held3 (fun W => Below w8.heap.size w8 W ∧ W.cell? ⟨br, 1, none⟩ = some (.int .i64 nw))
          ((refine (fun hB => ⟨hB, HCc.out w8 _ HP8.out hB⟩) ?_; first | exact Below.refl _ _ | exact (Below.refl _ _).drew | assumption | exact Below.drew (by assumption)))
          (first
            | (go_at_call 15; refine (HU.out w8 _ HP8.out (by first | exact Below.refl _ _ | exact (Below.refl _ _).drew | assumption | exact Below.drew (by assumption))).mono ?_; rintro e w9 ⟨rfl, hb9⟩)
            | (go_at_call 16; refine (HUr.out w8 _ HP8.out (by first | exact Below.refl _ _ | exact (Below.refl _ _).drew | assumption | exact Below.drew (by assumption))).mono ?_; rintro e w10 ⟨rfl, hb10⟩)
            | (go_at_call 17; refine (HCl.out w8 _ HP8.out (by first | exact Below.refl _ _ | exact (Below.refl _ _).drew | assumption | exact Below.drew (by assumption))).mono ?_; rintro e w11 ⟨rfl, hb11⟩))
        all_goals
          (go_wp2
           go_roundw
           case rel => exact ⟨j + 1, by omega, by go_num, by rw [HY.out]; exact HP8.out.below (by first | exact Below.refl _ _ | exact (Below.refl _ _).drew | assumption | exact Below.drew (by assumption))⟩
           case measure => simp [intOf]; omega)

      · have HDo : Hid (∀ W, Below WA.heap.size WA W → Calls Tryz.prog 11 #[ptr b, .agg #[.int .u8 kd, .string xp, .string xq, .string xt, .int .i64 xn]] W fun e w' => e = .returned (.int .i64 rr) ∧ PA w.heap.size b m br wr.heap.size w ⟨kd, xp, xq, xt, xn⟩ Y X w') := fun W hB => by
          rw [hrr, hY]
          exact (HPA.out W hB).does hfx.1 (by show xp.size ≤ _; omega) (by show xq.size ≤ _; omega) hfx.2.2.2 (by omega)
        have HWo : Hid (∀ W, PA w.heap.size b m br wr.heap.size w ⟨kd, xp, xq, xt, xn⟩ Y X W → Calls Tryz.prog 12 #[rptr br, .agg #[.int .u8 kd, .string xp, .string xq, .string xt, .int .i64 xn]] W fun e w' => e = .returned (.int .i64 rr) ∧ PA w.heap.size b m br wr.heap.size w ⟨kd, xp, xq, xt, xn⟩ Y Y w') := fun W hW => by
          have := hW.would hXo hXt hfx.1 (by show xp.size ≤ _; omega) (by show xq.size ≤ _; omega) hfx.2.2.2 (by omega) hk8
          rw [← hrr, ← hY] at this; exact this
        have hkb : (0 : Int) ≤ kd.tmod 10 ∧ kd.tmod 10 ≤ 9 := by rw [Int.tmod_eq_emod_of_nonneg hk0]; omega
        have hkw : IntKind.u8.wrap (kd.tmod 10) = kd.tmod 10 := by unfold IntKind.wrap; simp [IntKind.bits, IntKind.signed]; omega
        have hk8b : (kd.tmod 10 == 8) = false := by simpa using hk8
        clear hY hrr hpr hbel hfx hk0 hk1 HX hXt hXo hkb
        go_wp2_with fail
        rw [← hWA]
        clear hWA x0 x1 x2 x3 x4 hk8 hk8b hkw
        go_region_held3 (fun W => W.cell? ⟨wr.heap.size, 0, none⟩ = some (.int .u8 kd) ∧ W.cell? ⟨wr.heap.size, 1, none⟩ = some (.string xp) ∧ W.cell? ⟨wr.heap.size, 2, none⟩ = some (.string xq) ∧ W.cell? ⟨wr.heap.size, 3, none⟩ = some (.string xt) ∧ W.cell? ⟨wr.heap.size, 4, none⟩ = some (.int .i64 xn))
          (first | exact (HPA.out _ (Below.refl _ _)).cells | exact (HPA.out _ (Below.refl _ _).drew).cells | exact hp5.cells | exact hp6.cells)
          (first
            | (go_at_call 11; refine (HDo.out _ (by first | exact Below.refl _ _ | exact (Below.refl _ _).drew)).mono ?_; rintro e w5 ⟨rfl, hp5⟩)
            | (go_at_call 12; refine (HWo.out _ (by first | exact hp5 | exact hp5.below (Below.refl _ _).drew)).mono ?_; rintro e w6 ⟨rfl, hp6⟩))
        clear hp5
        have HP6 : Hid (PA w.heap.size b m br wr.heap.size w ⟨kd, xp, xq, xt, xn⟩ Y Y w6) := hp6
        clear hp6
        have hYo := HP6.out.pr.ok
        have hYl : Y.L.length ≤ 1000 := by have := hYo.len; omega
        have hYu : Y.L.used ≤ 10000000 := by have := hYo.used; have := hYo.room1; omega
        have y1 := HP6.out.cells.2.1
        obtain ⟨t1, d1, z1⟩ : ∃ t d z, Y.stat xp = (t, d, z) := ⟨_, _, _, rfl⟩
        obtain ⟨z1, hst⟩ := z1
        have HS1 : Hid (Calls Tryz.prog 13 #[ptr b, .string xp] w6 fun e w' => e = .returned (.tuple #[.int .i64 t1, .bool d1, .int .i64 z1]) ∧ PA w.heap.size b m br wr.heap.size w ⟨kd, xp, xq, xt, xn⟩ Y Y w') := by
          have := HP6.out.vstat xp (by omega)
          rw [hst] at this; exact this
        have HS2 : Hid (∀ W, PA w.heap.size b m br wr.heap.size w ⟨kd, xp, xq, xt, xn⟩ Y Y W → Calls Tryz.prog 14 #[rptr br, .string xp] W fun e w' => e = .returned (.tuple #[.int .i64 t1, .bool d1, .int .i64 z1]) ∧ PA w.heap.size b m br wr.heap.size w ⟨kd, xp, xq, xt, xn⟩ Y Y w') := fun W hW => by
          have := hW.rstat xp (by omega) hYl
          rw [hst] at this; exact this
        obtain ⟨us, hus⟩ : ∃ us, us = Y.L.used := ⟨_, rfl⟩
        obtain ⟨nw, hnw⟩ : ∃ nw, nw = Y.now := ⟨_, rfl⟩
        have HU : Hid (∀ w8 W, PR w.heap.size b m br w Y Y w8 → Below w8.heap.size w8 W → Calls Tryz.prog 15 #[ptr b] W fun e w' => e = .returned (.int .i64 us) ∧ Below w8.heap.size w8 w') := fun w8 W h8 hB => by
          obtain ⟨v8, vL8, vN8, q1, q2⟩ := h8.below hB
          rw [hus]
          exact (used_any W q1.st).mono fun e w' hh => ⟨hh.1, hB.trans (hh.2.mono hB.size)⟩
        have HUr : Hid (∀ w8 W, PR w.heap.size b m br w Y Y w8 → Below w8.heap.size w8 W → Calls Tryz.prog 16 #[rptr br] W fun e w' => e = .returned (.int .i64 us) ∧ Below w8.heap.size w8 w') := fun w8 W h8 hB => by
          obtain ⟨v8, vL8, vN8, q1, q2⟩ := h8.below hB
          rw [hus]
          exact (rused_any W q1.rs hYl hYu).mono fun e w' hh => ⟨hh.1, hh.2 ▸ hB⟩
        have HCl : Hid (∀ w8 W, PR w.heap.size b m br w Y Y w8 → Below w8.heap.size w8 W → Calls Tryz.prog 17 #[ptr b] W fun e w' => e = .returned (.int .i64 nw) ∧ Below w8.heap.size w8 w') := fun w8 W h8 hB => by
          obtain ⟨v8, vL8, vN8, q1, q2⟩ := h8.below hB
          rw [hnw]
          exact (clock_any W q1.st).mono fun e w' hh => ⟨hh.1, hh.2 ▸ hB⟩
        have HCc : Hid (∀ w8 W, PR w.heap.size b m br w Y Y w8 → Below w8.heap.size w8 W → W.cell? ⟨br, 1, none⟩ = some (.int .i64 nw)) := fun w8 W h8 hB => by rw [hnw]; exact (h8.below hB).c1
        clear hst hus hnw hYo hYl hYu
        go_wp2_with fail
        refine HS1.out.mono ?_
        rintro e w7 ⟨rfl, hp7⟩
        have HP7 : Hid (PA w.heap.size b m br wr.heap.size w ⟨kd, xp, xq, xt, xn⟩ Y Y w7) := hp7
        clear hp7 y1
        have y1 := HP7.out.cells.2.1
        go_wp2_with fail
        refine (HS2.out w7 HP7.out).mono ?_
        rintro e w8 ⟨rfl, hp8⟩
        have HP8 : Hid (PR w.heap.size b m br w Y Y w8) := hp8.pr
        clear hp8 y1
        go_wp2_with fail
        go_region_held3 (fun W => Below w8.heap.size w8 W ∧ W.cell? ⟨br, 1, none⟩ = some (.int .i64 nw))
          ((refine (fun hB => ⟨hB, HCc.out w8 _ HP8.out hB⟩) ?_; first | exact Below.refl _ _ | exact (Below.refl _ _).drew | assumption | exact Below.drew (by assumption)))
          (first
            | (go_at_call 15; refine (HU.out w8 _ HP8.out (by first | exact Below.refl _ _ | exact (Below.refl _ _).drew | assumption | exact Below.drew (by assumption))).mono ?_; rintro e w9 ⟨rfl, hb9⟩)
            | (go_at_call 16; refine (HUr.out w8 _ HP8.out (by first | exact Below.refl _ _ | exact (Below.refl _ _).drew | assumption | exact Below.drew (by assumption))).mono ?_; rintro e w10 ⟨rfl, hb10⟩)
            | (go_at_call 17; refine (HCl.out w8 _ HP8.out (by first | exact Below.refl _ _ | exact (Below.refl _ _).drew | assumption | exact Below.drew (by assumption))).mono ?_; rintro e w11 ⟨rfl, hb11⟩))
        all_goals
          (go_wp2
           go_roundw
           case rel => exact ⟨j + 1, by omega, by go_num, by rw [HY.out]; exact HP8.out.below (by first | exact Below.refl _ _ | exact (Below.refl _ _).drew | assumption | exact Below.drew (by assumption))⟩
           case measure => simp [intOf]; omega)

    · obtain rfl : j = n := by omega
      obtain ⟨R, hR⟩ : ∃ R, R = (St.new room).run l := ⟨_, rfl⟩
      have HRr : Hid (PR w.heap.size b m br w R R wr) := by
        have := hpr
        rw [HW.out.1, List.take_length, ← hR] at this; exact this
      have hSh : Short R.L := by have := HSh.out l.length (Nat.le_refl _); rw [List.take_length, ← hR] at this; exact this
      have hRo : R.Ok := HRr.out.ok
      have hRl : R.L.length ≤ 1000 := by have := hRo.len; omega
      have hRp : ∀ x ∈ R.L, x.1.size ≤ 1100000 := fun x hx => (hRo.path x hx).2
      have hAl : R.all.length ≤ 1000 := Nat.le_trans (all_len R) hRl
      have hLl := list_len hRl look
      obtain ⟨LS, hLS⟩ : ∃ LS, LS = (R.list look).1 := ⟨_, rfl⟩
      obtain ⟨zz, hzz⟩ : ∃ zz, zz = (R.list look).2 := ⟨_, rfl⟩
      have HV1 : Hid (Calls Tryz.prog 18 #[ptr b, .string look] wr fun e w' => ∃ u, e = .returned (.tuple #[u, .int .i64 zz]) ∧ Told wr.heap.size w' u LS ∧ Below wr.heap.size wr w') := by
        rw [hLS, hzz]; exact HRr.out.vlist look (by omega)
      have HV2 : Hid (∀ W u1, Told wr.heap.size W u1 LS → Below wr.heap.size wr W → Calls Tryz.prog 19 #[rptr br, .string look] W fun e w' => ∃ u, e = .returned (.tuple #[u, .int .i64 zz]) ∧ Told wr.heap.size w' u1 LS ∧ Told wr.heap.size w' u LS ∧ Below wr.heap.size wr w') := fun W u1 hT hB => by
        have := (HRr.out.below hB).rlist look (by omega) hRl hRp
        rw [← hLS, ← hzz] at this
        refine this.mono ?_
        rintro e w' ⟨u, rfl, h1, h2⟩
        exact ⟨u, rfl, hT.below h2, owns_base h1 hB.size, hB.trans (h2.mono hB.size)⟩
      have HSm : Hid (∀ W u1 u2, Told wr.heap.size W u1 LS → Told wr.heap.size W u2 LS → Below wr.heap.size wr W → Calls Tryz.prog 20 #[u1, u2] W fun e w' => e = .returned (.bool true) ∧ Below wr.heap.size wr w') := fun W u1 u2 h1 h2 hB => by
        refine (same_told (by rw [hLS]; omega) h1 h2).mono ?_
        rintro e w' ⟨rfl, h3⟩
        exact ⟨rfl, hB.trans (h3.mono hB.size)⟩
      have HA1 : Hid (∀ W, Below wr.heap.size wr W → Calls Tryz.prog 21 #[ptr b] W fun e w' => ∃ u, e = .returned u ∧ Told wr.heap.size w' u R.all ∧ Below wr.heap.size wr w') := fun W hB => by
        refine ((HRr.out.below hB).vall).mono ?_
        rintro e w' ⟨u, rfl, h1, h2⟩
        exact ⟨u, rfl, owns_base h1 hB.size, hB.trans (h2.mono hB.size)⟩
      have HA2 : Hid (∀ W u1, Told wr.heap.size W u1 R.all → Below wr.heap.size wr W → Calls Tryz.prog 22 #[rptr br] W fun e w' => ∃ u, e = .returned u ∧ Told wr.heap.size w' u1 R.all ∧ Told wr.heap.size w' u R.all ∧ Below wr.heap.size wr w') := fun W u1 hT hB => by
        refine ((HRr.out.below hB).rall hRl).mono ?_
        rintro e w' ⟨u, rfl, h1, h2⟩
        exact ⟨u, rfl, hT.below h2, owns_base h1 hB.size, hB.trans (h2.mono hB.size)⟩
      have HSa : Hid (∀ W u1 u2, Told wr.heap.size W u1 R.all → Told wr.heap.size W u2 R.all → Below wr.heap.size wr W → Calls Tryz.prog 20 #[u1, u2] W fun e w' => e = .returned (.bool true) ∧ Below wr.heap.size wr w') := fun W u1 u2 h1 h2 hB => by
        refine (same_told (by omega) h1 h2).mono ?_
        rintro e w' ⟨rfl, h3⟩
        exact ⟨rfl, hB.trans (h3.mono hB.size)⟩
      have HA3 : Hid (∀ W, Below wr.heap.size wr W → Calls Tryz.prog 22 #[rptr br] W fun e w' => ∃ u, e = .returned u ∧ PW w.heap.size b m br w u R.all R R w') := fun W hB => by
        have hq := HRr.out.below hB
        refine (hq.rall hRl).mono ?_
        rintro e w' ⟨u, rfl, h1, h2⟩
        have hsz : w.heap.size ≤ W.heap.size := by obtain ⟨_, _, _, q1, _⟩ := hq; exact q1.sized
        exact ⟨u, rfl, hq.below h2, owns_base h1 hsz⟩
      have HSt : Hid (∀ k (hk : k < R.all.length), ∃ tx, (rd R (R.all.take k)).read R.all[k] = (rd R (R.all.take (k + 1)), tx, 0) ∧ R.all[k].size ≤ 3001) := fun k hk => rd_step hRo hSh k hk
      have HRdL : Hid (∀ k, (rd R (R.all.take k)).L.length ≤ 1000) := fun k => by rw [rd_L]; exact hRl
      clear hpr hR HW HNow HTr HRN HF2 HSh hSh hRo hRl hRp hLS hzz hLl
      go_wp2_with fail
      refine HV1.out.mono ?_
      rintro e w5 ⟨u1, rfl, ht1, hb5⟩
      have HT1 : Hid (Told wr.heap.size w5 u1 LS ∧ Below wr.heap.size wr w5) := ⟨ht1, hb5⟩
      clear ht1 hb5 HV1
      go_wp2_with fail
      refine (HV2.out w5 u1 HT1.out.1 HT1.out.2).mono ?_
      rintro e w6 ⟨u2, rfl, ht1, ht2, hb6⟩
      have HT2 : Hid (∀ W, Below w6.heap.size w6 W → Told wr.heap.size W u1 LS ∧ Told wr.heap.size W u2 LS ∧ Below wr.heap.size wr W) := fun W hB => ⟨ht1.below hB, ht2.below hB, hb6.trans (hB.mono hb6.size)⟩
      clear ht1 ht2 hb6 HT1 HV2
      go_wp2_with fail
      refine (HSm.out w6 u1 u2 (HT2.out w6 (Below.refl _ _)).1 (HT2.out w6 (Below.refl _ _)).2.1 (HT2.out w6 (Below.refl _ _)).2.2).mono ?_
      rintro e w7 ⟨rfl, hb7⟩
      have HB7 : Hid (Below wr.heap.size wr w7) := hb7
      clear hb7 HT2 HSm
      go_wp2_with fail
      refine (HA1.out w7 HB7.out).mono ?_
      rintro e w8 ⟨u3, rfl, ht3, hb8⟩
      have HB8 : Hid (Told wr.heap.size w8 u3 R.all ∧ Below wr.heap.size wr w8) := ⟨ht3, hb8⟩
      clear ht3 hb8 HB7 HA1
      go_wp2_with fail
      refine (HA2.out w8 u3 HB8.out.1 HB8.out.2).mono ?_
      rintro e w9 ⟨u4, rfl, ht3, ht4, hb9⟩
      have HB9 : Hid (Told wr.heap.size w9 u3 R.all ∧ Told wr.heap.size w9 u4 R.all ∧ Below wr.heap.size wr w9) := ⟨ht3, ht4, hb9⟩
      clear ht3 ht4 hb9 HB8 HA2
      go_wp2_with fail
      refine (HSa.out w9 u3 u4 HB9.out.1 HB9.out.2.1 HB9.out.2.2).mono ?_
      rintro e w10 ⟨rfl, hb10⟩
      have HB10 : Hid (Below wr.heap.size wr w10) := hb10
      clear hb10 HB9 HSa
      go_wp2_with fail
      refine (HA3.out w10 HB10.out).mono ?_
      rintro e w11 ⟨u5, rfl, hp11⟩
      obtain ⟨a5, c5, hu5⟩ := owns_slice hp11.row
      subst hu5
      obtain ⟨N, hN⟩ : ∃ N, N = R.all.length := ⟨_, rfl⟩
      rw [← hN] at hAl
      have HN5 : Hid (N = R.all.length) := hN
      have HP11 : Hid (PW w.heap.size b m br w (.slice a5 N c5) R.all R R w11) := by rw [hN]; exact hp11
      rw [← hN]
      clear hp11 hN HB10 HA3
      go_wp2
      go_loopw [164] (fun vi wq => ∃ (k : Nat), k ≤ N ∧ vi = .int .i64 k ∧ PW w.heap.size b m br w (.slice a5 N c5) R.all (rd R (R.all.take k)) (rd R (R.all.take k)) wq)
        (fun vi _ => N - (intOf vi).toNat)
      case atStart => exact ⟨0, Nat.zero_le _, rfl, HP11.out⟩
      case round =>
        obtain ⟨k, hk, rfl, hpw⟩ := hrel
        rename World => wz
        clear HP11
        by_cases hlt5 : k < N
        · have hki : (k : Int) < (N : Int) := by omega
          have hkl : k < R.all.length := by rw [← HN5.out]; exact hlt5
          obtain ⟨tx, hrd, hps⟩ := HSt.out k hkl
          have hrow := hpw.row
          obtain ⟨g5, c6, hv5, _, _, hcell⟩ := told_cells hrow (fun e => by rw [e] at hkl; simp at hkl)
          simp only [Value.slice.injEq] at hv5
          obtain ⟨rfl, -, -⟩ := hv5
          have y0 := hcell k hkl
          obtain ⟨p, hp⟩ : ∃ p, p = R.all[k] := ⟨_, rfl⟩
          rw [← hp] at hrd hps y0
          obtain ⟨S0, hS0⟩ : ∃ S0, S0 = rd R (R.all.take k) := ⟨_, rfl⟩
          obtain ⟨S1, hS1⟩ : ∃ S1, S1 = rd R (R.all.take (k + 1)) := ⟨_, rfl⟩
          have hL0 := HRdL.out k
          rw [← hS0] at hrd hpw hL0
          rw [← hS1] at hrd
          have hno := hpw.pr.ok.note
          have HRv : Hid (Calls Tryz.prog 23 #[ptr b, .string p] wz fun e w' => e = .returned (.tuple #[.string tx, .int .i64 0]) ∧ PW w.heap.size b m br w (.slice (some ⟨g5, 0, none⟩) N c5) R.all S1 S0 w') := hpw.vread p (by omega) hrd
          have HRr2 : Hid (∀ W, PW w.heap.size b m br w (.slice (some ⟨g5, 0, none⟩) N c5) R.all S1 S0 W → Calls Tryz.prog 24 #[rptr br, .string p] W fun e w' => e = .returned (.tuple #[.string tx, .int .i64 0]) ∧ PW w.heap.size b m br w (.slice (some ⟨g5, 0, none⟩) N c5) R.all S1 S1 w') := fun W hW => hW.rread p hL0 hno (by omega) hrd
          have HS1 : Hid (S1 = rd R (R.all.take (k + 1))) := hS1
          clear hS0 hS1 hp hcell hrow hpw hrd hkl hno hL0 hps
          go_wp2_with fail
          refine HRv.out.mono ?_
          rintro e w12 ⟨rfl, hp12⟩
          have HP12 : Hid (PW w.heap.size b m br w (.slice (some ⟨g5, 0, none⟩) N c5) R.all S1 S0 w12) := hp12
          clear hp12 y0
          go_wp2_with fail
          refine (HRr2.out w12 HP12.out).mono ?_
          rintro e w13 ⟨rfl, hp13⟩
          have HP13 : Hid (PW w.heap.size b m br w (.slice (some ⟨g5, 0, none⟩) N c5) R.all S1 S1 w13) := hp13
          clear hp13 HP12
          go_wp2
          go_roundw
          case rel => exact ⟨k + 1, by omega, by go_num, by rw [← HS1.out]; exact HP13.out⟩
          case measure => simp [intOf]; omega
        · obtain rfl : k = N := by omega
          have HNt : Hid (Calls Tryz.prog 9 #[ptr b, .bool false] wz fun e w' => ∃ u, e = .returned u ∧
              Hid (∀ w1, Below w'.heap.size w' w1 → Calls Tryz.prog 10 #[rptr br, .bool false] w1 fun e w'' => ∃ u2, e = .returned u2 ∧
                Hid (∀ w3, Below w''.heap.size w'' w3 → Calls Tryz.prog 8 #[u, u2] w3 fun e w4 => e = .returned (.bool true) ∧ Below w.heap.size w w4))) := hpw.pr.notes3 false
          clear hpw
          go_wp2_with fail
          refine HNt.out.mono ?_
          rintro e w12 ⟨u7, rfl, HN7⟩
          go_wp2_with fail
          refine (HN7.out w12 (Below.refl _ _)).mono ?_
          rintro e w13 ⟨u8, rfl, HN8⟩
          go_wp2_with fail
          refine (HN8.out w13 (Below.refl _ _)).mono ?_
          rintro e w14 ⟨rfl, hb14⟩
          go_wp2
          go_ret
          exact ⟨rfl, hb14⟩
end Go.Proofs.YtoibdokedhbjpaaGreat
