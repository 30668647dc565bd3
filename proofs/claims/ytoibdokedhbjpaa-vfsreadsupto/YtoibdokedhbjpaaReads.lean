/-
  What is written is read, and no other file turns: the law's function answers true where the path has at most 2^20 bytes.
-/
import Derived.Test.YtoibdokedhbjpaaRefused
import Derived.Test.YtoibdokedhbjpaaWhere
namespace Go.Proofs.Ytoibdokedhbjpaa
open Go.RowKit Go.Shelf Go.Maps

theorem write_refused (s : St) (p x : ByteArray) (h : (s.write p x).2 ≠ 0) : (s.write p x).1 = s := by
  revert h
  unfold St.write
  split
  · intro _; rfl
  · intro hh
    rcases put_cases s _ x with ⟨h1, _⟩ | ⟨h1, _⟩
    · exact h1
    · exact absurd h1 hh
theorem write_good (s : St) (p x : ByteArray) (h : (s.write p x).2 = 0) : ∃ q, wh p = some q ∧ (s.write p x).1 = St.note { s with now := s.now + 1, L := s.L.set q ⟨x, s.now + 1, false⟩ } 2 q := by
  revert h
  unfold St.write
  split
  · intro h; cases h
  · rename_i q hq
    intro hh
    rcases put_cases s q x with ⟨_, h1⟩ | ⟨_, _, h1⟩
    · exact absurd hh h1
    · exact ⟨q, hq, h1⟩

set_option maxRecDepth 50000 in
set_option maxHeartbeats 4000000 in
theorem reads_law (room : Int) (a : Option Addr) (n c : Nat) (l : List Act) (k : Int) (p q t : ByteArray) (nn : Int) (w : World) (hn : n ≤ 140737488355328) (hw : Acts w.heap.size w (.slice a n c) l) (hf : Fine l) (hp : p.size ≤ 1048577) (ht : t.size ≤ 140737488355328) :
    Calls Try.prog 3 #[.int .i64 room, .slice a n c, .agg #[.int .u8 k, .string p, .string q, .string t, .int .i64 nn]] w fun e w' => e = .returned (.bool true) ∧ Below w.heap.size w w' := by
  have HA : Hid (∀ W, Calls Try.prog 10 #[] W fun e w' => e = .returned (.bool true) ∧ Below W.heap.size W w') := fun W => alive_any W
  have HL : Hid (∀ W, Below w.heap.size w W → Calls Try.prog 9 #[.slice a n c] W fun e w' => e = .returned (.bool (longL l)) ∧ Below W.heap.size W w') := fun W hB => long_any a n c w.heap.size l W hB.size hn (hw.below hB)
  have HW : Hid (n = l.length ∧ Acts w.heap.size w (.slice a n c) l) := ⟨hw.len, hw⟩
  have hb0 : Below w.heap.size w (w.alloc (.cells #[.int .u8 k, .string p, .string q, .string t, .int .i64 nn] 24)) := (Below.refl _ w).alloc (Nat.le_refl _) _
  clear hw
  by_cases hbad : room < 0 ∨ 1048576 < room
  · have HN : Hid (∀ W, Calls Try.prog 8 #[.int .i64 room] W fun e w' => e = .returned (.tuple #[.pointer none, .int .i64 1]) ∧ W = w') := fun W => (new_bad room W hbad).mono fun e w' h => ⟨h.1, h.2.symm⟩
    clear hbad
    go_enter Try.func3, Try.ntmps3
    go_wp2_with fail
    refine (HN.out _).mono ?_
    rintro e w' ⟨rfl, rfl⟩
    go_wp2_with fail
    refine (HA.out _).mono ?_
    rintro e w2 ⟨rfl, hb2⟩
    have hbb := hb0.trans (hb2.mono hb0.size)
    clear hb2 hb0
    go_wp2
    go_ret
    exact ⟨rfl, hbb⟩
  · have HN : Hid (∀ W, Calls Try.prog 8 #[.int .i64 room] W fun e w' => ∃ b, e = .returned (.tuple #[ptr b, .int .i64 0]) ∧ Store W.heap.size b W.heap.size (.slice none 0 0) (St.new room) w' ∧ Below W.heap.size W w') := fun W => new_any room W (by omega) (by omega)
    clear hbad
    cases hlong : longL l with
    | true =>
      rw [hlong] at HL
      go_enter Try.func3, Try.ntmps3
      go_wp2_with fail
      refine (HN.out _).mono ?_
      rintro e w1 ⟨b, rfl, -, hb1⟩
      have hbb1 := hb0.trans (hb1.mono hb0.size)
      clear hb1 hb0
      go_wp2_with fail
      refine (HL.out _ hbb1).mono ?_
      rintro e w2 ⟨rfl, hb2⟩
      have hbb2 := hbb1.trans (hb2.mono hbb1.size)
      clear hb2 hbb1
      go_wp2_with fail
      refine (HA.out _).mono ?_
      rintro e w3 ⟨rfl, hb3⟩
      have hbb3 := hbb2.trans (hb3.mono hbb2.size)
      clear hb3 hbb2
      go_wp2
      go_ret
      exact ⟨rfl, hbb3⟩
    | false =>
      rw [hlong] at HL
      have hnn : n ≤ 600 := by have := (longL_no hlong).1; rw [HW.out.1]; exact this
      obtain ⟨W0, hW0⟩ : ∃ W0, W0 = w.alloc (.cells #[.int .u8 k, .string p, .string q, .string t, .int .i64 nn] 24) := ⟨_, rfl⟩
      have hs0 : W0.heap.size = w.heap.size + 1 := by rw [hW0]; simp
      have HC : Hid (∀ W, Below (w.heap.size + 1) W0 W → Below w.heap.size w W ∧ W.cell? ⟨w.heap.size, 0, none⟩ = some (.int .u8 k) ∧ W.cell? ⟨w.heap.size, 1, none⟩ = some (.string p) ∧ W.cell? ⟨w.heap.size, 2, none⟩ = some (.string q) ∧ W.cell? ⟨w.heap.size, 3, none⟩ = some (.string t) ∧ W.cell? ⟨w.heap.size, 4, none⟩ = some (.int .i64 nn)) := fun W hB => by
        have hk0 : W.heap[w.heap.size]? = some (.cells #[.int .u8 k, .string p, .string q, .string t, .int .i64 nn] 24 (0, 0)) := by
          rw [hB.block w.heap.size (by omega), hW0]; exact heap_alloc_new w _
        refine ⟨(hW0 ▸ hb0).trans (hB.mono (by omega)), cell_in hk0 0 rfl, cell_in hk0 1 rfl, cell_in hk0 2 rfl, cell_in hk0 3 rfl, cell_in hk0 4 rfl⟩
      have HN0 : Hid (Calls Try.prog 8 #[.int .i64 room] W0 fun e w' => ∃ b m, e = .returned (.tuple #[ptr b, .int .i64 0]) ∧ Store (w.heap.size + 1) b m (.slice none 0 0) (St.new room) w' ∧ Below (w.heap.size + 1) W0 w') := by
        refine (HN.out W0).mono ?_
        rintro e w' ⟨b, rfl, hst, hb⟩
        rw [hs0] at hst hb
        exact ⟨b, _, rfl, hst, hb⟩
      have HD : Hid (∀ b m v j, (hj : j < l.length) → ∀ W, Store (w.heap.size + 1) b m v ((St.new room).run (l.take j)) W → Calls Try.prog 11 #[ptr b, .agg #[.int .u8 l[j].kind, .string l[j].p, .string l[j].q, .string l[j].t, .int .i64 l[j].n]] W fun e w' => (∃ r, e = .returned (.int .i64 r)) ∧ ∃ v', Store (w.heap.size + 1) b m v' ((St.new room).run (l.take (j + 1))) w' ∧ Turn b m v v' W w') := fun b m v j hj W hW => round_any hlong hf (by show (0 : Int) ≤ _; decide) j hj W hW
      have hrun := run_now (St.new room) l
      have hrl := (longL_no hlong).1
      obtain ⟨s1, hs1⟩ : ∃ s1, s1 = (St.new room).run l := ⟨_, rfl⟩
      have hs1n : s1.now ≤ 1152921504606846976 := by
        rw [hs1]
        have : (St.new room).now = 0 := rfl
        omega
      have HK : Hid (∀ b m v W, Store (w.heap.size + 1) b m v s1 W → Calls Try.prog 13 #[ptr b, .string p, .string t] W fun e w' => e = .returned (.int .i64 (s1.write p t).2) ∧ ∃ v', Store (w.heap.size + 1) b m v' (s1.write p t).1 w' ∧ Turn b m v v' W w') := fun b m v W hW => write_any p t W hW hp ht (by omega)
      have HR : Hid ((s1.write p t).2 ≠ 0 → (s1.write p t).1 = s1) := fun h => write_refused s1 p t h
      have HG : Hid ((s1.write p t).2 = 0 → ∃ q, wh p = some q ∧ (s1.write p t).1 = St.note { s1 with now := s1.now + 1, L := s1.L.set q ⟨t, s1.now + 1, false⟩ } 2 q) := fun h => write_good s1 p t h
      obtain ⟨r, hr⟩ : ∃ r, r = (s1.write p t).2 := ⟨_, rfl⟩
      obtain ⟨s2, hs2⟩ : ∃ s2, s2 = (s1.write p t).1 := ⟨_, rfl⟩
      rw [← hr, ← hs2] at HK HR HG
      have HS1 : Hid (s1 = (St.new room).run l) := hs1
      clear hr hs2 hs1 hrun hrl hf
      go_enter Try.func3, Try.ntmps3
      go_wp2_with fail
      rw [← hW0]
      refine HN0.out.mono ?_
      rintro e w1 ⟨b, m, rfl, hst1, hb1⟩
      have HT1 : Hid (Store (w.heap.size + 1) b m (.slice none 0 0) (St.new room) w1) := hst1
      clear hst1
      go_wp2_with fail
      refine (HL.out _ (HC.out w1 hb1).1).mono ?_
      rintro e w2 ⟨rfl, hb2⟩
      have hbb2 := hb1.trans (hb2.mono (by have := hb1.size; omega))
      have HT2 : Hid (Store (w.heap.size + 1) b m (.slice none 0 0) (St.new room) w2) := HT1.out.below hb2
      obtain ⟨hlow2, y0, y1, y2, y3, y4⟩ := HC.out w2 hbb2
      clear hb2 hb1 HT1
      go_wp2_with fail
      refine (HA.out _).mono ?_
      rintro e w3 ⟨rfl, hb3⟩
      have HT3 : Hid (Store (w.heap.size + 1) b m (.slice none 0 0) (St.new room) w3 ∧ Below (w.heap.size + 1) W0 w3) := ⟨HT2.out.below hb3, hbb2.trans (hb3.mono (by have := hbb2.size; omega))⟩
      clear hb3 hbb2 HT2 hlow2 y0 y1 y2 y3 y4 HA HL
      go_wp2
      go_loopw [44] (fun vi wr => ∃ (j : Nat) (v : Value), j ≤ n ∧ vi = .int .i64 j ∧ Store (w.heap.size + 1) b m v ((St.new room).run (l.take j)) wr ∧ Below (w.heap.size + 1) W0 wr)
        (fun vi _ => n - (intOf vi).toNat)
      case atStart => exact ⟨0, _, Nat.zero_le _, rfl, HT3.out.1, HT3.out.2⟩
      case round =>
        obtain ⟨j, v, hj, rfl, hst, hb⟩ := hrel
        clear HT3
        by_cases hlt : j < n
        · have hjl : j < l.length := by rw [← HW.out.1]; exact hlt
          have hil : (j : Int) < (n : Int) := by omega
          obtain ⟨g, o, rfl, x0, x1, x2, x3, x4⟩ := acts_here HW.out.2 (HC.out wr hb).1 j hjl
          have HDj : Hid (∀ W, Below wr.heap.size wr W → Calls Try.prog 11 #[ptr b, .agg #[.int .u8 l[j].kind, .string l[j].p, .string l[j].q, .string l[j].t, .int .i64 l[j].n]] W fun e w' => (∃ r, e = .returned (.int .i64 r)) ∧ ∃ v', Store (w.heap.size + 1) b m v' ((St.new room).run (l.take (j + 1))) w' ∧ Below (w.heap.size + 1) W0 w') := fun W hB => by
            refine (HD.out b m v j hjl W (hst.below hB)).mono ?_
            rintro e w' ⟨he, v', hst', ht'⟩
            refine ⟨he, v', hst', (hb.trans (hB.mono hst.sized)).trans ((hst.below hB).low ht')⟩
          obtain ⟨x, hxe⟩ : ∃ x, x = l[j] := ⟨_, rfl⟩
          rw [← hxe] at x0 x1 x2 x3 x4 HDj
          obtain ⟨kd, xp, xq, xt, xn⟩ := x
          simp only at x0 x1 x2 x3 x4 HDj
          clear hxe hst
          go_wp2_with fail
          refine (HDj.out _ ((Below.refl _ _).alloc (Nat.le_refl _) _)).mono ?_
          rintro e w5 ⟨⟨r5, rfl⟩, v5, hst5, hb5⟩
          have HE : Hid (Store (w.heap.size + 1) b m v5 ((St.new room).run (l.take (j + 1))) w5 ∧ Below (w.heap.size + 1) W0 w5) := ⟨hst5, hb5⟩
          clear hst5 hb5 x0 x1 x2 x3 x4 HDj
          go_wp2
          go_roundw
          case rel => exact ⟨j + 1, v5, by omega, by go_num, HE.out.1, HE.out.2⟩
          case measure => simp [intOf]; omega
        · obtain rfl : j = n := by omega
          have hstl : Store (w.heap.size + 1) b m v s1 wr := by
            have := hst
            rw [HW.out.1, List.take_length, ← HS1.out] at this; exact this
          have HCp : Hid (Calls Try.prog 12 #[ptr b] wr fun e w' => ∃ b' m', e = .returned (ptr b') ∧ Two (w.heap.size + 1) b m v s1 b' m' (.slice none 0 0) s1.copy w' ∧ Below (w.heap.size + 1) W0 w') := by
            refine (copy_any wr hstl).mono ?_
            rintro e w' ⟨b', m', rfl, hc, hb'⟩
            exact ⟨b', m', rfl, Two.of_copy hstl hstl.sized hc hb', hb.trans (hb'.mono hstl.sized)⟩
          clear hst hstl hb HW HD
          go_wp2_with fail
          refine HCp.out.mono ?_
          rintro e w5 ⟨b', m', rfl, htwo, hb5⟩
          have HT5 : Hid (Two (w.heap.size + 1) b m v s1 b' m' (.slice none 0 0) s1.copy w5 ∧ Below (w.heap.size + 1) W0 w5) := ⟨htwo, hb5⟩
          obtain ⟨hlow5, y0, y1, y2, y3, y4⟩ := HC.out w5 hb5
          clear htwo hb5 hlow5 HCp
          go_wp2_with fail
          refine (HK.out b m v w5 HT5.out.1.one).mono ?_
          rintro e w6 ⟨rfl, v6, hst6, ht6⟩
          have HT6 : Hid (Two (w.heap.size + 1) b m v6 s2 b' m' (.slice none 0 0) s1.copy w6 ∧ Below (w.heap.size + 1) W0 w6) := ⟨HT5.out.1.left hst6 ht6, HT5.out.2.trans (HT5.out.1.one.low ht6)⟩
          clear hst6 ht6 HT5 y0 y1 y2 y3 y4
          have HB6 : Hid (Below w.heap.size w w6) := (HC.out w6 HT6.out.2).1
          by_cases hr0 : r = 0
          · subst hr0
            obtain ⟨q', hwq, hsq⟩ := HG.out rfl
            have hql := wh_size hwq
            have hs2L : s2.L = s1.L.set q' ⟨t, s1.now + 1, false⟩ := by rw [hsq, note_L]
            have hs2n : s2.now = s1.now + 1 := by rw [hsq, note_now]
            have RP : Hid (Calls Try.prog 18 #[ptr b, .string p] w6 fun e w' => e = .returned (.tuple #[.string t, .int .i64 0]) ∧ ∃ v', Two (w.heap.size + 1) b m v' (s2.note 1 q') b' m' (.slice none 0 0) s1.copy w' ∧ Below (w.heap.size + 1) W0 w') := by
              refine (read_any p w6 HT6.out.1.one (by omega)).mono ?_
              rintro e w' ⟨rfl, v', hst', ht'⟩
              have hrd : s2.read p = (s2.note 1 q', t, 0) := by
                unfold St.read
                rw [hwq]; dsimp only
                rw [hs2L, Fs.look_set_same]; rfl
              rw [hrd] at hst' ⊢
              exact ⟨rfl, v', HT6.out.1.left hst' ht', HT6.out.2.trans (HT6.out.1.one.low ht')⟩
            have WP : Hid (∀ W, Calls Try.prog 19 #[.string p] W fun e w' => e = .returned (.tuple #[.string q', .bool true]) ∧ Below W.heap.size W w') := fun W => by
              have := where_any p W (by omega)
              rw [hwq] at this
              exact this
            obtain ⟨al, hal⟩ : ∃ al, al = s1.copy.all := ⟨_, rfl⟩
            have hall : al.length ≤ 512 := by rw [hal]; exact Nat.le_trans (all_len s1.copy) HT6.out.1.two.ok.len
            have A2 : Hid (∀ v s W, Two (w.heap.size + 1) b m v s b' m' (.slice none 0 0) s1.copy W → Calls Try.prog 15 #[ptr b'] W fun e w' => ∃ u, e = .returned u ∧ Told W.heap.size w' u al ∧ Below W.heap.size W w') := fun v s W hW => by rw [hal]; exact all_any W hW.two
            have HAL : Hid (∀ x ∈ al, ∃ e, s1.L.look x = some e ∧ e.dir = false ∧ wh x = some x ∧ x.size ≤ 1100000) := fun x hx => by
              rw [hal] at hx
              obtain ⟨e, he, hd⟩ := all_mem hx
              have ho := HT6.out.1.two.ok
              exact ⟨e, Fs.mem_look ho.uniq he, hd, ho.path _ he⟩
            have HSL : Hid (s2.L = s1.L.set q' ⟨t, s1.now + 1, false⟩ ∧ s2.now = s1.now + 1) := ⟨hs2L, hs2n⟩
            have h0n : 0 ≤ s1.now := HT6.out.1.two.ok.now0
            clear hal hs2L hs2n hsq hwq HK HR HG
            obtain ⟨-, z0, z1, z2, z3, z4⟩ := HC.out w6 HT6.out.2
            go_wp2_with fail
            refine RP.out.mono ?_
            rintro e w7 ⟨rfl, v7, h7, b7⟩
            have T7 : Hid (Two (w.heap.size + 1) b m v7 (s2.note 1 q') b' m' (.slice none 0 0) s1.copy w7 ∧ Below (w.heap.size + 1) W0 w7) := ⟨h7, b7⟩
            clear h7 b7 z0 z1 z2 z3 z4 HT6 RP HB6
            obtain ⟨-, z0, z1, z2, z3, z4⟩ := HC.out w7 T7.out.2
            go_wp2_with fail
            refine (WP.out _).mono ?_
            rintro e w8 ⟨rfl, hb8⟩
            have T8 : Hid (Two (w.heap.size + 1) b m v7 (s2.note 1 q') b' m' (.slice none 0 0) s1.copy w8 ∧ Below (w.heap.size + 1) W0 w8) := ⟨T7.out.1.below hb8, T7.out.2.trans (hb8.mono T7.out.1.one.sized)⟩
            clear hb8 T7 z0 z1 z2 z3 z4 WP
            go_wp2_with fail
            refine (A2.out _ _ _ T8.out.1).mono ?_
            rintro e w9 ⟨u9', rfl, ht9, hb9⟩
            obtain ⟨N, hN⟩ : ∃ N, N = al.length := ⟨_, rfl⟩
            obtain ⟨au, capu, hu9⟩ := owns_slice ht9
            rw [← hN] at hu9 hall
            subst hu9
            have T9 : Hid (N = al.length ∧ Told w8.heap.size w9 (.slice au N capu) al ∧ Two (w.heap.size + 1) b m v7 (s2.note 1 q') b' m' (.slice none 0 0) s1.copy w9 ∧ Below w.heap.size w w9) := ⟨hN, ht9, T8.out.1.below hb9, (HC.out w9 (T8.out.2.trans (hb9.mono T8.out.1.one.sized))).1⟩
            clear ht9 hb9 T8 A2 hN HC
            go_wp2
            go_loopw [106] (fun vi wz => ∃ (i : Nat) (vz vc : Value) (sz : St), i ≤ N ∧ vi = .int .i64 i ∧ Told w8.heap.size wz (.slice au N capu) al ∧ Two (w.heap.size + 1) b m vz sz b' m' vc s1.copy wz ∧ sz.L = s2.L ∧ sz.now = s2.now ∧ Below w.heap.size w wz)
              (fun vi _ => N - (intOf vi).toNat)
            case atStart => exact ⟨0, _, _, s2.note 1 q', Nat.zero_le _, rfl, T9.out.2.1, T9.out.2.2.1, note_L _ _ _, note_now _ _ _, T9.out.2.2.2⟩
            case round =>
              obtain ⟨i, vz, vc, sz, hi, rfl, htold, htwo, hszL, hszn, hbz⟩ := hrel
              by_cases hlt2 : i < N
              · have hil2 : (i : Int) < (N : Int) := by omega
                have hial : i < al.length := by rw [← T9.out.1]; exact hlt2
                obtain ⟨x, hx⟩ : ∃ x, x = al[i] := ⟨_, rfl⟩
                obtain ⟨ex, hex, hexd, hexw, hexs⟩ := HAL.out x (by rw [hx]; exact List.getElem_mem _)
                obtain ⟨a', cap', hau, hcell⟩ := htold.at
                obtain ⟨g, hg1, hg2⟩ := hcell i hial
                simp only [Value.slice.injEq] at hau
                have hau1 := hau.1
                clear hau
                subst hau1
                subst hg1
                rw [← hx] at hg2
                obtain ⟨ey, hey, heyd, heyt⟩ : ∃ ey : Ent, sz.L.look x = some ey ∧ ey.dir = false ∧ (x ≠ q' → ey.text = ex.text) := by
                  rw [hszL, HSL.out.1]
                  by_cases hxq : x = q'
                  · subst hxq; exact ⟨_, Fs.look_set_same _ _ _, rfl, fun h => absurd rfl h⟩
                  · exact ⟨ex, by rw [Fs.look_set_other _ _ _ _ hxq]; exact hex, hexd, fun _ => rfl⟩
                have R1 : Hid (Calls Try.prog 18 #[ptr b', .string x] wr fun e w' => e = .returned (.tuple #[.string ex.text, .int .i64 0]) ∧ ∃ vc', Two (w.heap.size + 1) b m vz sz b' m' vc' s1.copy w' ∧ Told w8.heap.size w' (.slice (some ⟨g, 0, none⟩) N capu) al ∧ Below w.heap.size w w') := by
                  refine (read_any x wr htwo.two hexs).mono ?_
                  rintro e w' ⟨rfl, v', hst', ht'⟩
                  rw [read_file (s := s1.copy) hexw hex hexd, note_off rfl] at hst'
                  rw [read_file (s := s1.copy) hexw hex hexd]
                  exact ⟨rfl, v', htwo.right hst' ht', htold.turn htwo.two ht', hbz.trans ((htwo.two.low ht').mono (by omega))⟩
                have R2 : Hid (∀ vc' W, Two (w.heap.size + 1) b m vz sz b' m' vc' s1.copy W → Told w8.heap.size W (.slice (some ⟨g, 0, none⟩) N capu) al → Calls Try.prog 18 #[ptr b, .string x] W fun e w' => e = .returned (.tuple #[.string ey.text, .int .i64 0]) ∧ ∃ v', Two (w.heap.size + 1) b m v' (sz.note 1 x) b' m' vc' s1.copy w' ∧ Told w8.heap.size w' (.slice (some ⟨g, 0, none⟩) N capu) al ∧ Below w.heap.size W w') := fun vc' W h2 ht2 => by
                  refine (read_any x W h2.one hexs).mono ?_
                  rintro e w' ⟨rfl, v', hst', ht'⟩
                  rw [read_file hexw hey heyd] at hst' ⊢
                  exact ⟨rfl, v', h2.left hst' ht', ht2.turn h2.one ht', (h2.one.low ht').mono (by omega)⟩
                have HZ : Hid ((sz.note 1 x).L = s2.L ∧ (sz.note 1 x).now = s2.now) := by unfold Hid; rw [note_L, note_now]; exact ⟨hszL, hszn⟩
                have HT : Hid (x ≠ q' → ey.text = ex.text) := heyt
                obtain ⟨tx, htx⟩ : ∃ tx, tx = ex.text := ⟨_, rfl⟩
                obtain ⟨ty, hty⟩ : ∃ ty, ty = ey.text := ⟨_, rfl⟩
                rw [← htx] at R1 HT
                rw [← hty] at R2 HT
                clear hx hex hexd hexw hexs hcell htold htwo hszL hszn hbz hey heyd heyt htx hty
                go_wp2_with fail
                refine R1.out.mono ?_
                rintro e w13 ⟨rfl, v13, h13, t13, b13⟩
                have T13 : Hid (Two (w.heap.size + 1) b m vz sz b' m' v13 s1.copy w13 ∧ Told w8.heap.size w13 (.slice (some ⟨g, 0, none⟩) N capu) al ∧ Below w.heap.size w w13) := ⟨h13, t13, b13⟩
                clear h13 t13 b13 R1 hg2
                go_wp2_with fail
                refine (R2.out v13 w13 T13.out.1 T13.out.2.1).mono ?_
                rintro e w14 ⟨rfl, v14, h14, t14, b14⟩
                have T14 : Hid (Two (w.heap.size + 1) b m v14 (sz.note 1 x) b' m' v13 s1.copy w14 ∧ Told w8.heap.size w14 (.slice (some ⟨g, 0, none⟩) N capu) al ∧ Below w.heap.size w w14) := ⟨h14, t14, T13.out.2.2.trans b14⟩
                clear h14 t14 b14 R2 T13
                by_cases hxq : x = q'
                · subst hxq
                  go_wp2
                  go_roundw
                  case rel => exact ⟨i + 1, v14, v13, _, by omega, by go_num, T14.out.2.1, T14.out.1, HZ.out.1, HZ.out.2, T14.out.2.2⟩
                  case measure => simp [intOf]; omega
                · have hty := HT.out hxq
                  subst hty
                  have t1 : ¬ x.toList = q'.toList := by rw [Lib.toList_data, Lib.toList_data]; exact fun e => hxq (bl_inj e)
                  have t1' : (x.toList == q'.toList) = false := by simpa using t1
                  clear hxq HT
                  go_wp2
                  go_roundw
                  case rel => exact ⟨i + 1, v14, v13, _, by omega, by go_num, T14.out.2.1, T14.out.1, HZ.out.1, HZ.out.2, T14.out.2.2⟩
                  case measure => simp [intOf]; omega
              · obtain rfl : i = N := by omega
                have C1 : Hid (Calls Try.prog 16 #[ptr b] wr fun e w' => e = .returned (.int .i64 (s1.now + 1)) ∧ wr = w') := by
                  rw [← HSL.out.2, ← hszn]; exact (clock_any wr htwo.one).mono fun e w' h => ⟨h.1, h.2.symm⟩
                have C2 : Hid (Calls Try.prog 16 #[ptr b'] wr fun e w' => e = .returned (.int .i64 s1.now) ∧ wr = w') := (clock_any (s := s1.copy) wr htwo.two).mono fun e w' h => ⟨h.1, h.2.symm⟩
                clear htold htwo hszL hszn
                go_wp2_with fail
                refine C1.out.mono ?_
                rintro e w' ⟨rfl, rfl⟩
                go_wp2_with fail
                refine C2.out.mono ?_
                rintro e w' ⟨rfl, rfl⟩
                go_wp2
                go_ret
                exact ⟨ret_bool (by simp), hbz⟩
          · have hr0' : (r == 0) = false := by simpa using hr0
            have hs21 := HR.out hr0
            subst hs21
            obtain ⟨al, hal⟩ : ∃ al, al = s2.all := ⟨_, rfl⟩
            have hall : al.length ≤ 512 := by rw [hal]; exact Nat.le_trans (all_len s2) HT6.out.1.one.ok.len
            have A1 : Hid (∀ W, Below w6.heap.size w6 W → Calls Try.prog 15 #[ptr b] W fun e w' => ∃ u, e = .returned u ∧ Told W.heap.size w' u al ∧ Below W.heap.size W w') := fun W hB => by rw [hal]; exact all_any W (HT6.out.1.one.below hB)
            have A2 : Hid (∀ W, Below w6.heap.size w6 W → Calls Try.prog 15 #[ptr b'] W fun e w' => ∃ u, e = .returned u ∧ Told W.heap.size w' u al ∧ Below W.heap.size W w') := fun W hB => by rw [hal]; exact all_any (s := s2.copy) W (HT6.out.1.two.below hB)
            have AS : Hid (∀ W B1 B2 u1 u2, Told B1 W u1 al → Told B2 W u2 al → Calls Try.prog 14 #[u1, u2] W fun e w' => e = .returned (.bool true) ∧ Below W.heap.size W w') := fun W B1 B2 u1 u2 h1 h2 => same_told (by omega) h1 h2
            have C1 : Hid (∀ W, Below w6.heap.size w6 W → Calls Try.prog 16 #[ptr b] W fun e w' => e = .returned (.int .i64 s2.now) ∧ W = w') := fun W hB => (clock_any W (HT6.out.1.one.below hB)).mono fun e w' h => ⟨h.1, h.2.symm⟩
            have C2 : Hid (∀ W, Below w6.heap.size w6 W → Calls Try.prog 16 #[ptr b'] W fun e w' => e = .returned (.int .i64 s2.now) ∧ W = w') := fun W hB => (clock_any W (HT6.out.1.two.below hB)).mono fun e w' h => ⟨h.1, h.2.symm⟩
            have U1 : Hid (∀ W, Below w6.heap.size w6 W → Calls Try.prog 17 #[ptr b] W fun e w' => e = .returned (.int .i64 s2.L.used) ∧ Below W.heap.size W w') := fun W hB => used_any W (HT6.out.1.one.below hB)
            have U2 : Hid (∀ W, Below w6.heap.size w6 W → Calls Try.prog 17 #[ptr b'] W fun e w' => e = .returned (.int .i64 s2.L.used) ∧ Below W.heap.size W w') := fun W hB => used_any (s := s2.copy) W (HT6.out.1.two.below hB)
            obtain ⟨us, hus⟩ : ∃ us, us = s2.L.used := ⟨_, rfl⟩
            rw [← hus] at U1 U2
            clear hus hal HK HR HG hr0 HC hb0
            go_wp2_with fail
            refine (A1.out _ (Below.refl _ _)).mono ?_
            rintro e w7 ⟨u7, rfl, ht7, hb7⟩
            have T7 : Hid (Told w6.heap.size w7 u7 al) := ht7
            clear ht7
            go_wp2_with fail
            refine (A2.out _ hb7).mono ?_
            rintro e w8 ⟨u8', rfl, ht8, hb8⟩
            have T8 : Hid (Told w7.heap.size w8 u8' al ∧ Told w6.heap.size w8 u7 al) := ⟨ht8, T7.out.below hb8⟩
            have hbb8 := hb7.trans (hb8.mono hb7.size)
            clear ht8 hb7 hb8 T7
            go_wp2_with fail
            refine (AS.out _ _ _ _ _ T8.out.2 T8.out.1).mono ?_
            rintro e w9 ⟨rfl, hb9⟩
            have hbb9 := hbb8.trans (hb9.mono hbb8.size)
            clear hb9 hbb8 T8
            go_wp2_with fail
            refine (C1.out _ hbb9).mono ?_
            rintro e w' ⟨rfl, rfl⟩
            go_wp2_with fail
            refine (C2.out _ hbb9).mono ?_
            rintro e w' ⟨rfl, rfl⟩
            go_wp2_with fail
            refine (U1.out _ hbb9).mono ?_
            rintro e w10 ⟨rfl, hb10⟩
            have hbb10 := hbb9.trans (hb10.mono hbb9.size)
            clear hb10 hbb9
            go_wp2_with fail
            refine (U2.out _ hbb10).mono ?_
            rintro e w11 ⟨rfl, hb11⟩
            have hbb11 := hbb10.trans (hb11.mono hbb10.size)
            clear hb11 hbb10
            go_wp2
            go_ret
            exact ⟨rfl, HB6.out.trans (hbb11.mono HB6.out.size)⟩
end Go.Proofs.Ytoibdokedhbjpaa
