/-
  Calls that are refused turn nothing: the law's function answers true.
-/
import Derived.Test.YtoibdokedhbjpaaTwo
namespace Go.Proofs.Ytoibdokedhbjpaa
open Go.RowKit Go.Shelf Go.Maps

/-- What a script's calls may be. -/
def Fine (l : List Act) : Prop := ∀ x ∈ l, x.Ok ∧ x.t.size ≤ 140737488355328

/-- One round of a script: the next call, and what it leaves. -/
theorem round_any {base b m : Nat} {v : Value} {s0 : St} {l : List Act} (hl : longL l = false) (hf : Fine l) (h0 : s0.now ≤ 1000000000000000000) (k : Nat) (hk : k < l.length) (w : World) (h : Store base b m v (s0.run (l.take k)) w) :
    Calls Try.prog 11 #[ptr b, .agg #[.int .u8 l[k].kind, .string l[k].p, .string l[k].q, .string l[k].t, .int .i64 l[k].n]] w fun e w' => (∃ r, e = .returned (.int .i64 r)) ∧ ∃ v', Store base b m v' (s0.run (l.take (k + 1))) w' ∧ Turn b m v v' w w' := by
  obtain ⟨h6, hs⟩ := longL_no hl
  have hx := hs l[k] (List.getElem_mem hk)
  have hn := run_now s0 (l.take k)
  have hlen : (l.take k).length ≤ 600 := by rw [List.length_take]; omega
  refine (does_any l[k] w h (hf _ (List.getElem_mem hk)).1 (by omega) (by omega) (hf _ (List.getElem_mem hk)).2 (by omega)).mono ?_
  rintro e w' ⟨rfl, v', hst, ht⟩
  rw [run_succ s0 l k hk]
  exact ⟨⟨_, rfl⟩, v', hst, ht⟩

set_option maxRecDepth 50000 in
set_option maxHeartbeats 4000000 in
theorem refused_law (room : Int) (a : Option Addr) (n c : Nat) (l : List Act) (k : Int) (p q t : ByteArray) (nn : Int) (w : World) (hn : n ≤ 140737488355328) (hw : Acts w.heap.size w (.slice a n c) l) (hf : Fine l) (hk : (Act.mk k p q t nn).Ok) (hp : p.size ≤ 140737488355328) (hq : q.size ≤ 140737488355328) (ht : t.size ≤ 140737488355328) :
    Calls Try.prog 5 #[.int .i64 room, .slice a n c, .agg #[.int .u8 k, .string p, .string q, .string t, .int .i64 nn]] w fun e w' => e = .returned (.bool true) ∧ Below w.heap.size w w' := by
  have HA : Hid (∀ W, Calls Try.prog 10 #[] W fun e w' => e = .returned (.bool true) ∧ Below W.heap.size W w') := fun W => alive_any W
  have HL : Hid (∀ W, Below w.heap.size w W → Calls Try.prog 9 #[.slice a n c] W fun e w' => e = .returned (.bool (longL l)) ∧ Below W.heap.size W w') := fun W hB => long_any a n c w.heap.size l W hB.size hn (hw.below hB)
  have HW : Hid (n = l.length ∧ Acts w.heap.size w (.slice a n c) l) := ⟨hw.len, hw⟩
  have hb0 : Below w.heap.size w (w.alloc (.cells #[.int .u8 k, .string p, .string q, .string t, .int .i64 nn] 24)) := (Below.refl _ w).alloc (Nat.le_refl _) _
  clear hw
  by_cases hbad : room < 0 ∨ 1048576 < room
  · have HN : Hid (∀ W, Calls Try.prog 8 #[.int .i64 room] W fun e w' => e = .returned (.tuple #[.pointer none, .int .i64 1]) ∧ W = w') := fun W => (new_bad room W hbad).mono fun e w' h => ⟨h.1, h.2.symm⟩
    clear hbad
    go_enter Try.func5, Try.ntmps5
    go_wp2_with fail
    refine (HN.out _).mono ?_
    rintro e w' ⟨rfl, rfl⟩
    go_wp2_with fail
    refine (HA.out _).mono ?_
    rintro e w2 ⟨rfl, hb2⟩
    have hbb := hb0.trans (hb2.mono hb0.size)
    clear hb2 hb0
    go_wp2
    go_ret
    exact ⟨rfl, hbb⟩
  · have HN : Hid (∀ W, Calls Try.prog 8 #[.int .i64 room] W fun e w' => ∃ b, e = .returned (.tuple #[ptr b, .int .i64 0]) ∧ Store W.heap.size b W.heap.size (.slice none 0 0) (St.new room) w' ∧ Below W.heap.size W w') := fun W => new_any room W (by omega) (by omega)
    clear hbad
    cases hlong : longL l with
    | true =>
      rw [hlong] at HL
      go_enter Try.func5, Try.ntmps5
      go_wp2_with fail
      refine (HN.out _).mono ?_
      rintro e w1 ⟨b, rfl, -, hb1⟩
      have hbb1 := hb0.trans (hb1.mono hb0.size)
      clear hb1 hb0
      go_wp2_with fail
      refine (HL.out _ hbb1).mono ?_
      rintro e w2 ⟨rfl, hb2⟩
      have hbb2 := hbb1.trans (hb2.mono hbb1.size)
      clear hb2 hbb1
      go_wp2_with fail
      refine (HA.out _).mono ?_
      rintro e w3 ⟨rfl, hb3⟩
      have hbb3 := hbb2.trans (hb3.mono hbb2.size)
      clear hb3 hbb2
      go_wp2
      go_ret
      exact ⟨rfl, hbb3⟩
    | false =>
      rw [hlong] at HL
      have hnn : n ≤ 600 := by have := (longL_no hlong).1; rw [HW.out.1]; exact this
      obtain ⟨W0, hW0⟩ : ∃ W0, W0 = w.alloc (.cells #[.int .u8 k, .string p, .string q, .string t, .int .i64 nn] 24) := ⟨_, rfl⟩
      have hs0 : W0.heap.size = w.heap.size + 1 := by rw [hW0]; simp
      have HC : Hid (∀ W, Below (w.heap.size + 1) W0 W → Below w.heap.size w W ∧ W.cell? ⟨w.heap.size, 0, none⟩ = some (.int .u8 k) ∧ W.cell? ⟨w.heap.size, 1, none⟩ = some (.string p) ∧ W.cell? ⟨w.heap.size, 2, none⟩ = some (.string q) ∧ W.cell? ⟨w.heap.size, 3, none⟩ = some (.string t) ∧ W.cell? ⟨w.heap.size, 4, none⟩ = some (.int .i64 nn)) := fun W hB => by
        have hk0 : W.heap[w.heap.size]? = some (.cells #[.int .u8 k, .string p, .string q, .string t, .int .i64 nn] 24 (0, 0)) := by
          rw [hB.block w.heap.size (by omega), hW0]; exact heap_alloc_new w _
        refine ⟨(hW0 ▸ hb0).trans (hB.mono (by omega)), cell_in hk0 0 rfl, cell_in hk0 1 rfl, cell_in hk0 2 rfl, cell_in hk0 3 rfl, cell_in hk0 4 rfl⟩
      have HN0 : Hid (Calls Try.prog 8 #[.int .i64 room] W0 fun e w' => ∃ b m, e = .returned (.tuple #[ptr b, .int .i64 0]) ∧ Store (w.heap.size + 1) b m (.slice none 0 0) (St.new room) w' ∧ Below (w.heap.size + 1) W0 w') := by
        refine (HN.out W0).mono ?_
        rintro e w' ⟨b, rfl, hst, hb⟩
        rw [hs0] at hst hb
        exact ⟨b, _, rfl, hst, hb⟩
      by_cases hbig : 3000 < p.size + q.size
      · have hbi : (3000 : Int) < (p.size : Int) + (q.size : Int) := by omega
        go_enter Try.func5, Try.ntmps5
        go_wp2_with fail
        rw [← hW0]
        refine HN0.out.mono ?_
        rintro e w1 ⟨b, m, rfl, -, hb1⟩
        go_wp2_with fail
        refine (HL.out _ (HC.out w1 hb1).1).mono ?_
        rintro e w2 ⟨rfl, hb2⟩
        have hbb2 := hb1.trans (hb2.mono (by have := hb1.size; omega))
        obtain ⟨hlow2, y0, y1, y2, y3, y4⟩ := HC.out w2 hbb2
        clear hb2 hb1 hb0
        go_wp2_with fail
        refine (HA.out _).mono ?_
        rintro e w3 ⟨rfl, hb3⟩
        have hbb3 := hlow2.trans (hb3.mono hlow2.size)
        clear hb3 hbb2 hlow2 y0 y1 y2 y3 y4
        go_wp2
        go_ret
        exact ⟨rfl, hbb3⟩
      · have hbi : ¬ (3000 : Int) < (p.size : Int) + (q.size : Int) := by omega
        have HD : Hid (∀ b m v j, (hj : j < l.length) → ∀ W, Store (w.heap.size + 1) b m v ((St.new room).run (l.take j)) W → Calls Try.prog 11 #[ptr b, .agg #[.int .u8 l[j].kind, .string l[j].p, .string l[j].q, .string l[j].t, .int .i64 l[j].n]] W fun e w' => (∃ r, e = .returned (.int .i64 r)) ∧ ∃ v', Store (w.heap.size + 1) b m v' ((St.new room).run (l.take (j + 1))) w' ∧ Turn b m v v' W w') := fun b m v j hj W hW => round_any hlong hf (by show (0 : Int) ≤ _; decide) j hj W hW
        have hrun := run_now (St.new room) l
        have hrl := (longL_no hlong).1
        obtain ⟨s1, hs1⟩ : ∃ s1, s1 = (St.new room).run l := ⟨_, rfl⟩
        have hs1n : s1.now ≤ 1152921504606846976 := by
          rw [hs1]
          have : (St.new room).now = 0 := rfl
          omega
        have HK : Hid (∀ b m v W, Store (w.heap.size + 1) b m v s1 W → Calls Try.prog 11 #[ptr b, .agg #[.int .u8 k, .string p, .string q, .string t, .int .i64 nn]] W fun e w' => e = .returned (.int .i64 (s1.act ⟨k, p, q, t, nn⟩).2) ∧ ∃ v', Store (w.heap.size + 1) b m v' (s1.act ⟨k, p, q, t, nn⟩).1 w' ∧ Turn b m v v' W w') := fun b m v W hW => does_any ⟨k, p, q, t, nn⟩ W hW hk (by show p.size ≤ _; omega) (by show q.size ≤ _; omega) ht hs1n
        have HR : Hid ((s1.act ⟨k, p, q, t, nn⟩).2 ≠ 0 → (s1.act ⟨k, p, q, t, nn⟩).1 = s1) := fun h => act_refused s1 _ h
        obtain ⟨r, hr⟩ : ∃ r, r = (s1.act ⟨k, p, q, t, nn⟩).2 := ⟨_, rfl⟩
        obtain ⟨s2, hs2⟩ : ∃ s2, s2 = (s1.act ⟨k, p, q, t, nn⟩).1 := ⟨_, rfl⟩
        rw [← hr, ← hs2] at HK HR
        have HS1 : Hid (s1 = (St.new room).run l) := hs1
        clear hr hs2 hs1 hrun hrl hk hp hq ht hf
        go_enter Try.func5, Try.ntmps5
        go_wp2_with fail
        rw [← hW0]
        refine HN0.out.mono ?_
        rintro e w1 ⟨b, m, rfl, hst1, hb1⟩
        have HT1 : Hid (Store (w.heap.size + 1) b m (.slice none 0 0) (St.new room) w1) := hst1
        clear hst1
        go_wp2_with fail
        refine (HL.out _ (HC.out w1 hb1).1).mono ?_
        rintro e w2 ⟨rfl, hb2⟩
        have hbb2 := hb1.trans (hb2.mono (by have := hb1.size; omega))
        have HT2 : Hid (Store (w.heap.size + 1) b m (.slice none 0 0) (St.new room) w2) := HT1.out.below hb2
        obtain ⟨hlow2, y0, y1, y2, y3, y4⟩ := HC.out w2 hbb2
        clear hb2 hb1 HT1
        go_wp2_with fail
        refine (HA.out _).mono ?_
        rintro e w3 ⟨rfl, hb3⟩
        have HT3 : Hid (Store (w.heap.size + 1) b m (.slice none 0 0) (St.new room) w3 ∧ Below (w.heap.size + 1) W0 w3) := ⟨HT2.out.below hb3, hbb2.trans (hb3.mono (by have := hbb2.size; omega))⟩
        clear hb3 hbb2 HT2 hlow2 y0 y1 y2 y3 y4 HA HL
        go_wp2
        go_loopw [56] (fun vi wr => ∃ (j : Nat) (v : Value), j ≤ n ∧ vi = .int .i64 j ∧ Store (w.heap.size + 1) b m v ((St.new room).run (l.take j)) wr ∧ Below (w.heap.size + 1) W0 wr)
          (fun vi _ => n - (intOf vi).toNat)
        case atStart => exact ⟨0, _, Nat.zero_le _, rfl, HT3.out.1, HT3.out.2⟩
        case round =>
          obtain ⟨j, v, hj, rfl, hst, hb⟩ := hrel
          clear HT3
          by_cases hlt : j < n
          · have hjl : j < l.length := by rw [← HW.out.1]; exact hlt
            have hil : (j : Int) < (n : Int) := by omega
            obtain ⟨g, o, rfl, x0, x1, x2, x3, x4⟩ := acts_here HW.out.2 (HC.out wr hb).1 j hjl
            have HDj : Hid (∀ W, Below wr.heap.size wr W → Calls Try.prog 11 #[ptr b, .agg #[.int .u8 l[j].kind, .string l[j].p, .string l[j].q, .string l[j].t, .int .i64 l[j].n]] W fun e w' => (∃ r, e = .returned (.int .i64 r)) ∧ ∃ v', Store (w.heap.size + 1) b m v' ((St.new room).run (l.take (j + 1))) w' ∧ Below (w.heap.size + 1) W0 w') := fun W hB => by
              refine (HD.out b m v j hjl W (hst.below hB)).mono ?_
              rintro e w' ⟨he, v', hst', ht'⟩
              refine ⟨he, v', hst', (hb.trans (hB.mono hst.sized)).trans ((hst.below hB).low ht')⟩
            obtain ⟨x, hxe⟩ : ∃ x, x = l[j] := ⟨_, rfl⟩
            rw [← hxe] at x0 x1 x2 x3 x4 HDj
            obtain ⟨kd, xp, xq, xt, xn⟩ := x
            simp only at x0 x1 x2 x3 x4 HDj
            clear hxe hst
            go_wp2_with fail
            refine (HDj.out _ ((Below.refl _ _).alloc (Nat.le_refl _) _)).mono ?_
            rintro e w5 ⟨⟨r5, rfl⟩, v5, hst5, hb5⟩
            have HE : Hid (Store (w.heap.size + 1) b m v5 ((St.new room).run (l.take (j + 1))) w5 ∧ Below (w.heap.size + 1) W0 w5) := ⟨hst5, hb5⟩
            clear hst5 hb5 x0 x1 x2 x3 x4 HDj
            go_wp2
            go_roundw
            case rel => exact ⟨j + 1, v5, by omega, by go_num, HE.out.1, HE.out.2⟩
            case measure => simp [intOf]; omega
          · obtain rfl : j = n := by omega
            have hstl : Store (w.heap.size + 1) b m v s1 wr := by
              have := hst
              rw [HW.out.1, List.take_length, ← HS1.out] at this; exact this
            have HCp : Hid (Calls Try.prog 12 #[ptr b] wr fun e w' => ∃ b' m', e = .returned (ptr b') ∧ Two (w.heap.size + 1) b m v s1 b' m' (.slice none 0 0) s1.copy w' ∧ Below (w.heap.size + 1) W0 w') := by
              refine (copy_any wr hstl).mono ?_
              rintro e w' ⟨b', m', rfl, hc, hb'⟩
              exact ⟨b', m', rfl, Two.of_copy hstl hstl.sized hc hb', hb.trans (hb'.mono hstl.sized)⟩
            clear hst hstl hb HW HD
            go_wp2_with fail
            refine HCp.out.mono ?_
            rintro e w5 ⟨b', m', rfl, htwo, hb5⟩
            have HT5 : Hid (Two (w.heap.size + 1) b m v s1 b' m' (.slice none 0 0) s1.copy w5 ∧ Below (w.heap.size + 1) W0 w5) := ⟨htwo, hb5⟩
            obtain ⟨hlow5, y0, y1, y2, y3, y4⟩ := HC.out w5 hb5
            clear htwo hb5 hlow5 HCp
            go_wp2_with fail
            refine (HK.out b m v w5 HT5.out.1.one).mono ?_
            rintro e w6 ⟨rfl, v6, hst6, ht6⟩
            have HT6 : Hid (Two (w.heap.size + 1) b m v6 s2 b' m' (.slice none 0 0) s1.copy w6 ∧ Below (w.heap.size + 1) W0 w6) := ⟨HT5.out.1.left hst6 ht6, HT5.out.2.trans (HT5.out.1.one.low ht6)⟩
            clear hst6 ht6 HT5 y0 y1 y2 y3 y4
            by_cases hr0 : r = 0
            · subst hr0
              go_wp2
              go_ret
              exact ⟨rfl, (HC.out w6 HT6.out.2).1⟩
            · have hr0' : (r == 0) = false := by simpa using hr0
              have hs21 := HR.out hr0
              subst hs21
              obtain ⟨al, hal⟩ : ∃ al, al = s2.all := ⟨_, rfl⟩
              have hall : al.length ≤ 512 := by rw [hal]; exact Nat.le_trans (all_len s2) HT6.out.1.one.ok.len
              have A1 : Hid (∀ W, Below w6.heap.size w6 W → Calls Try.prog 15 #[ptr b] W fun e w' => ∃ u, e = .returned u ∧ Told W.heap.size w' u al ∧ Below W.heap.size W w') := fun W hB => by rw [hal]; exact all_any W (HT6.out.1.one.below hB)
              have A2 : Hid (∀ W, Below w6.heap.size w6 W → Calls Try.prog 15 #[ptr b'] W fun e w' => ∃ u, e = .returned u ∧ Told W.heap.size w' u al ∧ Below W.heap.size W w') := fun W hB => by rw [hal]; exact all_any (s := s2.copy) W (HT6.out.1.two.below hB)
              have AS : Hid (∀ W B1 B2 u1 u2, Told B1 W u1 al → Told B2 W u2 al → Calls Try.prog 14 #[u1, u2] W fun e w' => e = .returned (.bool true) ∧ Below W.heap.size W w') := fun W B1 B2 u1 u2 h1 h2 => same_told (by omega) h1 h2
              have C1 : Hid (∀ W, Below w6.heap.size w6 W → Calls Try.prog 16 #[ptr b] W fun e w' => e = .returned (.int .i64 s2.now) ∧ W = w') := fun W hB => (clock_any W (HT6.out.1.one.below hB)).mono fun e w' h => ⟨h.1, h.2.symm⟩
              have C2 : Hid (∀ W, Below w6.heap.size w6 W → Calls Try.prog 16 #[ptr b'] W fun e w' => e = .returned (.int .i64 s2.now) ∧ W = w') := fun W hB => (clock_any W (HT6.out.1.two.below hB)).mono fun e w' h => ⟨h.1, h.2.symm⟩
              have U1 : Hid (∀ W, Below w6.heap.size w6 W → Calls Try.prog 17 #[ptr b] W fun e w' => e = .returned (.int .i64 s2.L.used) ∧ Below W.heap.size W w') := fun W hB => used_any W (HT6.out.1.one.below hB)
              have U2 : Hid (∀ W, Below w6.heap.size w6 W → Calls Try.prog 17 #[ptr b'] W fun e w' => e = .returned (.int .i64 s2.L.used) ∧ Below W.heap.size W w') := fun W hB => used_any (s := s2.copy) W (HT6.out.1.two.below hB)
              obtain ⟨us, hus⟩ : ∃ us, us = s2.L.used := ⟨_, rfl⟩
              rw [← hus] at U1 U2
              have HAL : Hid (∀ x ∈ al, ∃ e, s2.L.look x = some e ∧ e.dir = false ∧ wh x = some x ∧ x.size ≤ 1100000) := fun x hx => by
                rw [hal] at hx
                obtain ⟨e, he, hd⟩ := all_mem hx
                have ho := HT6.out.1.one.ok
                exact ⟨e, Fs.mem_look ho.uniq he, hd, ho.path _ he⟩
              have HC6 : Hid (Below w.heap.size w w6) := (HC.out w6 HT6.out.2).1
              clear hus hal HK HR hr0 HC hb0
              go_wp2_with fail
              refine (A1.out _ (Below.refl _ _)).mono ?_
              rintro e w7 ⟨u7, rfl, ht7, hb7⟩
              have T7 : Hid (Told w6.heap.size w7 u7 al) := ht7
              clear ht7
              go_wp2_with fail
              refine (A2.out _ hb7).mono ?_
              rintro e w8 ⟨u8', rfl, ht8, hb8⟩
              have T8 : Hid (Told w7.heap.size w8 u8' al ∧ Told w6.heap.size w8 u7 al) := ⟨ht8, T7.out.below hb8⟩
              have hbb8 := hb7.trans (hb8.mono hb7.size)
              clear ht8 hb7 hb8 T7
              go_wp2_with fail
              refine (AS.out _ _ _ _ _ T8.out.2 T8.out.1).mono ?_
              rintro e w9 ⟨rfl, hb9⟩
              have hbb9 := hbb8.trans (hb9.mono hbb8.size)
              clear hb9 hbb8 T8
              go_wp2_with fail
              refine (C1.out _ hbb9).mono ?_
              rintro e w' ⟨rfl, rfl⟩
              go_wp2_with fail
              refine (C2.out _ hbb9).mono ?_
              rintro e w' ⟨rfl, rfl⟩
              go_wp2_with fail
              refine (U1.out _ hbb9).mono ?_
              rintro e w10 ⟨rfl, hb10⟩
              have hbb10 := hbb9.trans (hb10.mono hbb9.size)
              clear hb10 hbb9
              go_wp2_with fail
              refine (U2.out _ hbb10).mono ?_
              rintro e w11 ⟨rfl, hb11⟩
              have hbb11 := hbb10.trans (hb11.mono hbb10.size)
              clear hb11 hbb10
              go_wp2_with fail
              refine (A1.out _ hbb11).mono ?_
              rintro e w12 ⟨u12', rfl, ht12, hb12⟩
              have hbb12 := hbb11.trans (hb12.mono hbb11.size)
              obtain ⟨N, hN⟩ : ∃ N, N = al.length := ⟨_, rfl⟩
              obtain ⟨au, capu, hu12⟩ := owns_slice ht12
              rw [← hN] at hu12 hall
              subst hu12
              have T12 : Hid (N = al.length ∧ Told w11.heap.size w12 (.slice au N capu) al ∧ Two (w.heap.size + 1) b m v6 s2 b' m' (.slice none 0 0) s2.copy w12 ∧ Below w.heap.size w w12) := ⟨hN, ht12, HT6.out.1.below hbb12, HC6.out.trans (hbb12.mono HC6.out.size)⟩
              clear ht12 hb12 hbb12 hbb11 HT6 HC6 A1 A2 AS C1 C2 U1 U2 hN
              go_wp2
              go_loopw [99] (fun vi wz => ∃ (i : Nat) (vz vc : Value) (sz : St), i ≤ N ∧ vi = .int .i64 i ∧ Told w11.heap.size wz (.slice au N capu) al ∧ Two (w.heap.size + 1) b m vz sz b' m' vc s2.copy wz ∧ sz.L = s2.L ∧ Below w.heap.size w wz)
                (fun vi _ => N - (intOf vi).toNat)
              case atStart => exact ⟨0, _, _, s2, Nat.zero_le _, rfl, T12.out.2.1, T12.out.2.2.1, rfl, T12.out.2.2.2⟩
              case round =>
                obtain ⟨i, vz, vc, sz, hi, rfl, htold, htwo, hszL, hbz⟩ := hrel
                by_cases hlt2 : i < N
                · have hil2 : (i : Int) < (N : Int) := by omega
                  have hial : i < al.length := by rw [← T12.out.1]; exact hlt2
                  obtain ⟨x, hx⟩ : ∃ x, x = al[i] := ⟨_, rfl⟩
                  obtain ⟨ex, hex, hexd, hexw, hexs⟩ := HAL.out x (by rw [hx]; exact List.getElem_mem _)
                  obtain ⟨a', cap', hau, hcell⟩ := htold.at
                  obtain ⟨g, hg1, hg2⟩ := hcell i hial
                  simp only [Value.slice.injEq] at hau
                  have hau1 := hau.1
                  clear hau
                  subst hau1
                  subst hg1
                  rw [← hx] at hg2
                  have R1 : Hid (Calls Try.prog 18 #[ptr b, .string x] wr fun e w' => e = .returned (.tuple #[.string ex.text, .int .i64 0]) ∧ ∃ v', Two (w.heap.size + 1) b m v' (sz.note 1 x) b' m' vc s2.copy w' ∧ Told w11.heap.size w' (.slice (some ⟨g, 0, none⟩) N capu) al ∧ Below w.heap.size w w') := by
                    refine (read_any x wr htwo.one hexs).mono ?_
                    rintro e w' ⟨rfl, v', hst', ht'⟩
                    rw [read_file hexw (by rw [hszL]; exact hex) hexd] at hst' ⊢
                    exact ⟨rfl, v', htwo.left hst' ht', htold.turn htwo.one ht', hbz.trans ((htwo.one.low ht').mono (by omega))⟩
                  have R2 : Hid (∀ v1 W, Two (w.heap.size + 1) b m v1 (sz.note 1 x) b' m' vc s2.copy W → Told w11.heap.size W (.slice (some ⟨g, 0, none⟩) N capu) al → Calls Try.prog 18 #[ptr b', .string x] W fun e w' => e = .returned (.tuple #[.string ex.text, .int .i64 0]) ∧ ∃ vc', Two (w.heap.size + 1) b m v1 (sz.note 1 x) b' m' vc' s2.copy w' ∧ Told w11.heap.size w' (.slice (some ⟨g, 0, none⟩) N capu) al ∧ Below w.heap.size W w') := fun v1 W h2 ht2 => by
                    refine (read_any x W h2.two hexs).mono ?_
                    rintro e w' ⟨rfl, v', hst', ht'⟩
                    rw [read_file (s := s2.copy) hexw hex hexd, note_off rfl] at hst'
                    rw [read_file (s := s2.copy) hexw hex hexd]
                    exact ⟨rfl, v', h2.right hst' ht', ht2.turn h2.two ht', (h2.two.low ht').mono (by omega)⟩
                  have S1 : Hid (∀ v1 vc' W, Two (w.heap.size + 1) b m v1 (sz.note 1 x) b' m' vc' s2.copy W → Calls Try.prog 20 #[ptr b, .string x] W fun e w' => e = .returned (.tuple #[.int .i64 ex.time, .bool ex.dir, .int .i64 0]) ∧ Below W.heap.size W w') := fun v1 vc' W h2 => by
                    have := stat_any x W h2.one hexs
                    rw [stat_at hexw (by rw [note_L, hszL]; exact hex)] at this
                    exact this
                  have S2 : Hid (∀ v1 vc' W, Two (w.heap.size + 1) b m v1 (sz.note 1 x) b' m' vc' s2.copy W → Calls Try.prog 20 #[ptr b', .string x] W fun e w' => e = .returned (.tuple #[.int .i64 ex.time, .bool ex.dir, .int .i64 0]) ∧ Below W.heap.size W w') := fun v1 vc' W h2 => by
                    have := stat_any x W h2.two hexs
                    rw [stat_at (s := s2.copy) hexw hex] at this
                    exact this
                  have HZ : Hid ((sz.note 1 x).L = s2.L) := by unfold Hid; rw [note_L]; exact hszL
                  obtain ⟨ex1, ex2, ex3⟩ := ex
                  simp only at R1 R2 S1 S2
                  clear hx hex hexd hexw hexs hcell htold htwo hszL hbz
                  go_wp2_with fail
                  refine R1.out.mono ?_
                  rintro e w13 ⟨rfl, v13, h13, t13, b13⟩
                  have T13 : Hid (Two (w.heap.size + 1) b m v13 (sz.note 1 x) b' m' vc s2.copy w13 ∧ Told w11.heap.size w13 (.slice (some ⟨g, 0, none⟩) N capu) al ∧ Below w.heap.size w w13) := ⟨h13, t13, b13⟩
                  clear h13 t13 b13 R1 hg2
                  go_wp2_with fail
                  refine (R2.out v13 w13 T13.out.1 T13.out.2.1).mono ?_
                  rintro e w14 ⟨rfl, v14, h14, t14, b14⟩
                  have T14 : Hid (Two (w.heap.size + 1) b m v13 (sz.note 1 x) b' m' v14 s2.copy w14 ∧ Told w11.heap.size w14 (.slice (some ⟨g, 0, none⟩) N capu) al ∧ Below w.heap.size w w14) := ⟨h14, t14, T13.out.2.2.trans b14⟩
                  clear h14 t14 b14 R2 T13
                  go_wp2_with fail
                  refine (S1.out _ _ w14 T14.out.1).mono ?_
                  rintro e w15 ⟨rfl, b15⟩
                  have T15 : Hid (Two (w.heap.size + 1) b m v13 (sz.note 1 x) b' m' v14 s2.copy w15 ∧ Told w11.heap.size w15 (.slice (some ⟨g, 0, none⟩) N capu) al ∧ Below w.heap.size w w15) := ⟨T14.out.1.below b15, T14.out.2.1.below b15, T14.out.2.2.trans (b15.mono T14.out.2.2.size)⟩
                  clear b15 T14 S1
                  go_wp2_with fail
                  refine (S2.out _ _ w15 T15.out.1).mono ?_
                  rintro e w16 ⟨rfl, b16⟩
                  have T16 : Hid (Two (w.heap.size + 1) b m v13 (sz.note 1 x) b' m' v14 s2.copy w16 ∧ Told w11.heap.size w16 (.slice (some ⟨g, 0, none⟩) N capu) al ∧ Below w.heap.size w w16) := ⟨T15.out.1.below b16, T15.out.2.1.below b16, T15.out.2.2.trans (b16.mono T15.out.2.2.size)⟩
                  clear b16 T15 S2
                  go_wp2
                  go_roundw
                  case rel => exact ⟨i + 1, v13, v14, sz.note 1 x, by omega, by go_num, T16.out.2.1, T16.out.1, HZ.out, T16.out.2.2⟩
                  case measure => simp [intOf]; omega
                · obtain rfl : i = N := by omega
                  clear htold htwo
                  go_wp2
                  go_ret
                  exact ⟨rfl, hbz⟩
end Go.Proofs.Ytoibdokedhbjpaa
