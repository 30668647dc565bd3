/-
  The clock never goes back, and a file that is written or touched is younger than all others: the law's function answers true.
-/
import Derived.Test.YtoibdokedhbjpaaRefused
import Derived.Test.YtoibdokedhbjpaaYoungP
import Derived.Test.YtoibdokedhbjpaaWhere
namespace Go.Proofs.Ytoibdokedhbjpaa
open Go.RowKit Go.Shelf Go.Maps

set_option maxRecDepth 50000 in
set_option maxHeartbeats 8000000 in
theorem young_law (room : Int) (a : Option Addr) (n c : Nat) (l : List Act) (w : World) (hn : n ≤ 140737488355328) (hw : Acts w.heap.size w (.slice a n c) l) (hf : Fine l) :
    Calls Try.prog 4 #[.int .i64 room, .slice a n c] w fun e w' => e = .returned (.bool true) ∧ Below w.heap.size w w' := by
  have HA : Hid (∀ W, Calls Try.prog 10 #[] W fun e w' => e = .returned (.bool true) ∧ Below W.heap.size W w') := fun W => alive_any W
  have HL : Hid (∀ W, Below w.heap.size w W → Calls Try.prog 9 #[.slice a n c] W fun e w' => e = .returned (.bool (longL l)) ∧ Below W.heap.size W w') := fun W hB => long_any a n c w.heap.size l W hB.size hn (hw.below hB)
  have HW : Hid (n = l.length ∧ Acts w.heap.size w (.slice a n c) l) := ⟨hw.len, hw⟩
  clear hw
  by_cases hbad : room < 0 ∨ 1048576 < room
  · have HN : Hid (∀ W, Calls Try.prog 8 #[.int .i64 room] W fun e w' => e = .returned (.tuple #[.pointer none, .int .i64 1]) ∧ W = w') := fun W => (new_bad room W hbad).mono fun e w' h => ⟨h.1, h.2.symm⟩
    clear hbad
    go_enter Try.func4, Try.ntmps4
    go_wp2_with fail
    refine (HN.out _).mono ?_
    rintro e w' ⟨rfl, rfl⟩
    go_wp2_with fail
    refine (HA.out _).mono ?_
    rintro e w2 ⟨rfl, hb2⟩
    go_wp2
    go_ret
    exact ⟨rfl, hb2⟩
  · have HN : Hid (∀ W, Calls Try.prog 8 #[.int .i64 room] W fun e w' => ∃ b, e = .returned (.tuple #[ptr b, .int .i64 0]) ∧ Store W.heap.size b W.heap.size (.slice none 0 0) (St.new room) w' ∧ Below W.heap.size W w') := fun W => new_any room W (by omega) (by omega)
    clear hbad
    cases hlong : longL l with
    | true =>
      rw [hlong] at HL
      go_enter Try.func4, Try.ntmps4
      go_wp2_with fail
      refine (HN.out _).mono ?_
      rintro e w1 ⟨b, rfl, -, hb1⟩
      go_wp2_with fail
      refine (HL.out _ hb1).mono ?_
      rintro e w2 ⟨rfl, hb2⟩
      have hbb2 := hb1.trans (hb2.mono hb1.size)
      clear hb2 hb1
      go_wp2_with fail
      refine (HA.out _).mono ?_
      rintro e w3 ⟨rfl, hb3⟩
      have hbb3 := hbb2.trans (hb3.mono hbb2.size)
      clear hb3 hbb2
      go_wp2
      go_ret
      exact ⟨rfl, hbb3⟩
    | false =>
      rw [hlong] at HL
      have hnn : n ≤ 600 := by have := (longL_no hlong).1; rw [HW.out.1]; exact this
      have HD : Hid (∀ b m v j, (hj : j < l.length) → ∀ W, Store w.heap.size b m v ((St.new room).run (l.take j)) W → Calls Try.prog 11 #[ptr b, .agg #[.int .u8 l[j].kind, .string l[j].p, .string l[j].q, .string l[j].t, .int .i64 l[j].n]] W fun e w' => e = .returned (.int .i64 (((St.new room).run (l.take j)).act l[j]).2) ∧ ∃ v', Store w.heap.size b m v' (((St.new room).run (l.take j)).act l[j]).1 w' ∧ Turn b m v v' W w') := fun b m v j hj W hW => by
        have hx := (longL_no hlong).2 l[j] (List.getElem_mem hj)
        have hnow := run_now (St.new room) (l.take j)
        have hlen : (l.take j).length ≤ 600 := by have := (longL_no hlong).1; rw [List.length_take]; omega
        have h00 : (St.new room).now = 0 := rfl
        exact does_any l[j] W hW (hf _ (List.getElem_mem hj)).1 (by omega) (by omega) (hf _ (List.getElem_mem hj)).2 (by omega)
      have HX : Hid (∀ j, (hj : j < l.length) → l[j].p.size ≤ 3000 ∧ l[j].q.size ≤ 3000 ∧ 0 ≤ l[j].kind ∧ l[j].kind ≤ 255) := fun j hj => by
        have hx := (longL_no hlong).2 l[j] (List.getElem_mem hj)
        have ho := (hf _ (List.getElem_mem hj)).1
        exact ⟨hx.1, hx.2, ho.k0, ho.k1⟩
      clear hf
      go_enter Try.func4, Try.ntmps4
      go_wp2_with fail
      refine (HN.out _).mono ?_
      rintro e w1 ⟨b, rfl, hst1, hb1⟩
      obtain ⟨m, hm⟩ : ∃ m, m = w.heap.size := ⟨_, rfl⟩
      have HT1 : Hid (Store w.heap.size b m (.slice none 0 0) (St.new room) w1) := by rw [hm]; exact hst1
      clear hst1 hm
      go_wp2_with fail
      refine (HL.out _ hb1).mono ?_
      rintro e w2 ⟨rfl, hb2⟩
      have hbb2 := hb1.trans (hb2.mono hb1.size)
      have HT2 : Hid (Store w.heap.size b m (.slice none 0 0) (St.new room) w2) := HT1.out.below hb2
      clear hb2 hb1 HT1
      go_wp2_with fail
      refine (HA.out _).mono ?_
      rintro e w3 ⟨rfl, hb3⟩
      have HT3 : Hid (Store w.heap.size b m (.slice none 0 0) (St.new room) w3 ∧ Below w.heap.size w w3) := ⟨HT2.out.below hb3, hbb2.trans (hb3.mono hbb2.size)⟩
      clear hb3 hbb2 HT2 HA HL
      go_wp2
      go_loopw [45] (fun vi wr => ∃ (j : Nat) (v : Value), j ≤ n ∧ vi = .int .i64 j ∧ Store w.heap.size b m v ((St.new room).run (l.take j)) wr ∧ Below w.heap.size w wr)
        (fun vi _ => n - (intOf vi).toNat)
      case atStart => exact ⟨0, _, Nat.zero_le _, rfl, HT3.out.1, HT3.out.2⟩
      case round =>
        obtain ⟨j, v, hj, rfl, hst, hb⟩ := hrel
        clear HT3
        by_cases hlt : j < n
        · have hjl : j < l.length := by rw [← HW.out.1]; exact hlt
          have hil : (j : Int) < (n : Int) := by omega
          obtain ⟨g, o, rfl, x0, x1, x2, x3, x4⟩ := acts_here HW.out.2 hb j hjl
          have HXj := HX.out j hjl
          have HR : Hid ((St.new room).run (l.take (j + 1)) = (((St.new room).run (l.take j)).act l[j]).1) := run_succ _ l j hjl
          have HDj : Hid (∀ W, Below wr.heap.size wr W → Calls Try.prog 11 #[ptr b, .agg #[.int .u8 l[j].kind, .string l[j].p, .string l[j].q, .string l[j].t, .int .i64 l[j].n]] W fun e w' => e = .returned (.int .i64 (((St.new room).run (l.take j)).act l[j]).2) ∧ ∃ v', Store w.heap.size b m v' (((St.new room).run (l.take j)).act l[j]).1 w' ∧ Turn b m v v' W w') := fun W hB => HD.out b m v j hjl W (hst.below hB)
          obtain ⟨x, hxe⟩ : ∃ x, x = l[j] := ⟨_, rfl⟩
          obtain ⟨s, hs⟩ : ∃ s, s = (St.new room).run (l.take j) := ⟨_, rfl⟩
          rw [← hxe] at x0 x1 x2 x3 x4 HDj HXj HR
          rw [← hs] at hst HDj HR
          have hok := hst.ok
          have HC : Hid (∀ W, Below wr.heap.size wr W → Calls Try.prog 16 #[ptr b] W fun e w' => e = .returned (.int .i64 s.now) ∧ W = w') := fun W hB => (clock_any W (hst.below hB)).mono fun e w' h => ⟨h.1, h.2.symm⟩
          have hnow := act_now s x
          have HRf : Hid ((s.act x).2 ≠ 0 → (s.act x).1 = s) := fun h => act_refused s x h
          have HYg : Hid (x.kind.tmod 10 = 0 ∨ x.kind.tmod 10 = 1 ∨ x.kind.tmod 10 = 6 → (s.act x).2 = 0 → ∃ q, wh x.p = some q ∧ ((s.act x).1.stat x.p).1 = s.now + 1 ∧ ∀ y, y ≠ q → (s.act x).1.L.look y = s.L.look y) := fun h1 h2 => young_act s x h1 h2
          obtain ⟨s', hs'⟩ : ∃ s', s' = (s.act x).1 := ⟨_, rfl⟩
          obtain ⟨r, hr⟩ : ∃ r, r = (s.act x).2 := ⟨_, rfl⟩
          rw [← hs', ← hr] at HDj HRf HYg
          rw [← hs'] at HR hnow
          obtain ⟨kd, xp, xq, xt, xn⟩ := x
          simp only at x0 x1 x2 x3 x4 HDj HXj HYg
          have HLt : Hid (b < wr.heap.size ∧ m < wr.heap.size ∧ ∀ g, v.ownBlock = some g → g < wr.heap.size) := ⟨hst.lt, hst.ltm, fun g hg => (hst.ltv g hg).2⟩
          have HB : Hid (Below w.heap.size w wr ∧ Store w.heap.size b m v s wr) := ⟨hb, hst⟩
          obtain ⟨hpz, hqz, hk0, hk1⟩ := HXj
          clear hxe hs hs' hr hst hb HD HX
          have hB0 : Below wr.heap.size wr (wr.alloc (.cells #[.int .u8 kd, .string xp, .string xq, .string xt, .int .i64 xn] 24)) := (Below.refl _ _).alloc (Nat.le_refl _) _
          go_wp2_with fail
          refine (HC.out _ hB0).mono ?_
          rintro e w' ⟨rfl, rfl⟩
          go_wp2_with fail
          refine (HDj.out _ hB0).mono ?_
          rintro e w5 ⟨rfl, v5, hst5, ht5⟩
          have hblk := ht5.block wr.heap.size (by simp) (by have := HLt.out.1; omega) (by have := HLt.out.2.1; omega) (fun e => by have := HLt.out.2.2 _ e; omega)
          have hk5 : w5.heap[wr.heap.size]? = some (.cells #[.int .u8 kd, .string xp, .string xq, .string xt, .int .i64 xn] 24 (0, 0)) := by rw [hblk]; exact heap_alloc_new wr _
          have z0 := cell_in hk5 0 (u := .int .u8 kd) rfl
          have z1 := cell_in hk5 1 (u := .string xp) rfl
          have z2 := cell_in hk5 2 (u := .string xq) rfl
          have T5 : Hid (Store w.heap.size b m v5 s' w5 ∧ Below w.heap.size w w5 ∧ wr.heap.size < w5.heap.size) := by
            have hsz := ht5.size
            refine ⟨hst5, HB.out.1.trans ((hB0.mono HB.out.1.size).trans ((HB.out.2.below hB0).low ht5)), ?_⟩
            simp at hsz; omega
          have HC5 : Hid (∀ W, Below w5.heap.size w5 W → Calls Try.prog 16 #[ptr b] W fun e w' => e = .returned (.int .i64 s'.now) ∧ W = w') := fun W hB => (clock_any W (T5.out.1.below hB)).mono fun e w' h => ⟨h.1, h.2.symm⟩
          clear hst5 ht5 hblk hk5 hB0 x0 x1 x2 x3 x4 HC HDj
          go_wp2_with fail
          refine (HC5.out _ (Below.refl _ _)).mono ?_
          rintro e w' ⟨rfl, rfl⟩
          have hn1 : ¬ s'.now < s.now := by omega
          have hkk : kd.tmod 10 = 0 ∨ kd.tmod 10 = 1 ∨ kd.tmod 10 = 2 ∨ kd.tmod 10 = 3 ∨ kd.tmod 10 = 4 ∨ kd.tmod 10 = 5 ∨ kd.tmod 10 = 6 ∨ kd.tmod 10 = 7 ∨ kd.tmod 10 = 8 ∨ kd.tmod 10 = 9 := by
            rw [Int.tmod_eq_emod_of_nonneg hk0]; omega
          by_cases hr0 : r = 0
          · subst hr0
            have HSt : Hid (∀ y, y.size ≤ 1100000 → ∀ v W, Store w.heap.size b m v s' W → Calls Try.prog 20 #[ptr b, .string y] W fun e w' => e = .returned (.tuple #[.int .i64 (s'.stat y).1, .bool (s'.stat y).2.1, .int .i64 (s'.stat y).2.2]) ∧ Below W.heap.size W w') := fun y hy v W hW => stat_any y W hW hy
            have HWh : Hid (∀ y W, y.size ≤ 3000 → Calls Try.prog 19 #[.string y] W fun e w' => e = .returned (whereV (wh y)) ∧ Below W.heap.size W w') := fun y W hy => where_any y W (by omega)
            obtain ⟨al, hal⟩ : ∃ al, al = s'.all := ⟨_, rfl⟩
            have hall : al.length ≤ 512 := by rw [hal]; exact Nat.le_trans (all_len s') T5.out.1.ok.len
            have HAl : Hid (∀ v W, Store w.heap.size b m v s' W → Calls Try.prog 15 #[ptr b] W fun e w' => ∃ u, e = .returned u ∧ Told W.heap.size w' u al ∧ Below W.heap.size W w') := fun v W hW => by rw [hal]; exact all_any W hW
            have HAL : Hid (∀ x ∈ al, ∃ e, s'.L.look x = some e ∧ (s'.stat x).1 = e.time ∧ x.size ≤ 1100000) := fun x hx => by
              rw [hal] at hx
              obtain ⟨e, he, hd⟩ := all_mem hx
              have ho := T5.out.1.ok
              have hlk := Fs.mem_look ho.uniq he
              have hpt := ho.path _ he
              refine ⟨e, hlk, ?_, hpt.2⟩
              rw [stat_at hpt.1 hlk]
            clear hal
            have HY : Hid (∀ y at', kd.tmod 10 ≠ 4 → (kd.tmod 10 = 0 ∨ kd.tmod 10 = 1 ∨ kd.tmod 10 = 6) → y = xp → (∃ tb, whereV (wh y) = .tuple #[.string at', .bool tb]) → ∀ x e, s'.L.look x = some e → x ≠ at' → e.time < (s'.stat y).1) := by
              rintro y at' _ h3 rfl ⟨tb, htb⟩ x e hlk hne
              obtain ⟨q, hq1, hq2, hq3⟩ := HYg.out h3 rfl
              rw [hq1] at htb
              have : q = at' := by
                unfold whereV at htb
                simp only [Value.tuple.injEq, Array.mk.injEq, List.cons.injEq, Value.string.injEq] at htb
                exact htb.1
              subst this
              rw [hq2]
              exact young_time hok hq3 hne hlk
            have hwv : ∀ y, ∃ at' tb, whereV (wh y) = .tuple #[.string at', .bool tb] := fun y => by
              cases wh y with
              | none => exact ⟨_, _, rfl⟩
              | some q => exact ⟨_, _, rfl⟩
            obtain ⟨ap, tp, hap⟩ := hwv xp
            obtain ⟨aq, tq, haq⟩ := hwv xq
            have HWp : Hid (∀ W, Calls Try.prog 19 #[.string xp] W fun e w' => e = .returned (.tuple #[.string ap, .bool tp]) ∧ Below W.heap.size W w') := fun W => by rw [← hap]; exact HWh.out xp W hpz
            have HWq : Hid (∀ W, Calls Try.prog 19 #[.string xq] W fun e w' => e = .returned (.tuple #[.string aq, .bool tq]) ∧ Below W.heap.size W w') := fun W => by rw [← haq]; exact HWh.out xq W hqz
            have HYp : Hid (kd.tmod 10 ≠ 4 → (kd.tmod 10 = 0 ∨ kd.tmod 10 = 1 ∨ kd.tmod 10 = 6) → ∀ x e, s'.L.look x = some e → x ≠ ap → e.time < (s'.stat xp).1) := fun h1 h2 => HY.out xp ap h1 h2 rfl ⟨tp, hap⟩
            obtain ⟨mp, hmp⟩ : ∃ mp, mp = (s'.stat xp).1 := ⟨_, rfl⟩
            obtain ⟨mq, hmq⟩ : ∃ mq, mq = (s'.stat xq).1 := ⟨_, rfl⟩
            rw [← hmp] at HYp
            have HSp : Hid (Calls Try.prog 20 #[ptr b, .string xp] w5 fun e w' => e = .returned (.tuple #[.int .i64 mp, .bool (s'.stat xp).2.1, .int .i64 (s'.stat xp).2.2]) ∧ Below w5.heap.size w5 w') := by rw [hmp]; exact HSt.out xp (by omega) v5 w5 T5.out.1
            have HSq : Hid (Calls Try.prog 20 #[ptr b, .string xq] w5 fun e w' => e = .returned (.tuple #[.int .i64 mq, .bool (s'.stat xq).2.1, .int .i64 (s'.stat xq).2.2]) ∧ Below w5.heap.size w5 w') := by rw [hmq]; exact HSt.out xq (by omega) v5 w5 T5.out.1
            clear hwv hap haq hmp hmq HY HWh HYg HRf hok hnow
            have hgo : (kd.tmod 10 = 2 ∨ kd.tmod 10 = 3 ∨ kd.tmod 10 = 5 ∨ kd.tmod 10 = 7 ∨ kd.tmod 10 = 8 ∨ kd.tmod 10 = 9) ∨ (kd.tmod 10 = 0 ∨ kd.tmod 10 = 1 ∨ kd.tmod 10 = 6) ∨ kd.tmod 10 = 4 := by omega
            clear hkk
            rcases hgo with hk | hk | hk
            · rcases hk with hk | hk | hk | hk | hk | hk
              all_goals
                go_wp2
                go_roundw
                case rel => exact ⟨j + 1, v5, by omega, by go_num, by rw [HR.out]; exact T5.out.1, T5.out.2.1⟩
                case measure => simp [intOf]; omega
            · have HYk : Hid (∀ x e, s'.L.look x = some e → x ≠ ap → e.time < mp) := HYp.out (by omega) hk
              clear HYp HWq HSq
              rcases hk with hk | hk | hk
              all_goals
                go_wp2_with fail
                refine HSp.out.mono ?_
                rintro e w6 ⟨rfl, hb6⟩
                go_wp2_with fail
                refine (HWp.out _).mono ?_
                rintro e w7 ⟨rfl, hb7⟩
                have hbb7 := hb6.trans (hb7.mono hb6.size)
                clear hb6 hb7
                go_wp2_with fail
                refine (HAl.out v5 w7 (T5.out.1.below hbb7)).mono ?_
                rintro e w8 ⟨u8', rfl, ht8, hb8⟩
                obtain ⟨N, hN⟩ : ∃ N, N = al.length := ⟨_, rfl⟩
                obtain ⟨au, capu, hu8⟩ := owns_slice ht8
                rw [← hN] at hu8 hall
                subst hu8
                have T8 : Hid (N = al.length ∧ Told w7.heap.size w8 (.slice au N capu) al ∧ Store w.heap.size b m v5 s' w8 ∧ Below w.heap.size w w8) := ⟨hN, ht8, (T5.out.1.below hbb7).below hb8, T5.out.2.1.trans ((hbb7.trans (hb8.mono hbb7.size)).mono T5.out.1.sized)⟩
                clear ht8 hb8 hbb7 hN
                go_wp2
                go_loopw [106] (fun vi wz => ∃ (i : Nat), i ≤ N ∧ vi = .int .i64 i ∧ Told w7.heap.size wz (.slice au N capu) al ∧ Store w.heap.size b m v5 s' wz ∧ Below w.heap.size w wz)
                  (fun vi _ => N - (intOf vi).toNat)
                case atStart => exact ⟨0, Nat.zero_le _, rfl, T8.out.2.1, T8.out.2.2.1, T8.out.2.2.2⟩
                case round =>
                  obtain ⟨i, hi, rfl, htold, hstz, hbz⟩ := hrel
                  by_cases hlt2 : i < N
                  · have hil2 : (i : Int) < (N : Int) := by omega
                    have hial : i < al.length := by rw [← T8.out.1]; exact hlt2
                    obtain ⟨x, hx⟩ : ∃ x, x = al[i] := ⟨_, rfl⟩
                    obtain ⟨ex, hex, hext, hexs⟩ := HAL.out x (by rw [hx]; exact List.getElem_mem _)
                    obtain ⟨a', cap', hau, hcell⟩ := htold.at
                    obtain ⟨g2, hg1, hg2⟩ := hcell i hial
                    simp only [Value.slice.injEq] at hau
                    have hau1 := hau.1
                    clear hau
                    subst hau1
                    subst hg1
                    rw [← hx] at hg2
                    have HS9 : Hid (Calls Try.prog 20 #[ptr b, .string x] wr fun e w' => e = .returned (.tuple #[.int .i64 ex.time, .bool (s'.stat x).2.1, .int .i64 (s'.stat x).2.2]) ∧ Told w7.heap.size w' (.slice (some ⟨g2, 0, none⟩) N capu) al ∧ Store w.heap.size b m v5 s' w' ∧ Below w.heap.size w w') := by
                      refine (HSt.out x hexs v5 wr hstz).mono ?_
                      rintro e w' ⟨rfl, hb'⟩
                      rw [hext]
                      exact ⟨rfl, htold.below hb', hstz.below hb', hbz.trans (hb'.mono hbz.size)⟩
                    have hcmp := HYk.out x ex hex
                    obtain ⟨et, het⟩ : ∃ et, et = ex.time := ⟨_, rfl⟩
                    rw [← het] at HS9 hcmp
                    clear hx hex hext hexs hcell htold hstz hbz het
                    go_wp2_with fail
                    refine HS9.out.mono ?_
                    rintro e w9 ⟨rfl, t9, s9, b9⟩
                    have T9 : Hid (Told w7.heap.size w9 (.slice (some ⟨g2, 0, none⟩) N capu) al ∧ Store w.heap.size b m v5 s' w9 ∧ Below w.heap.size w w9) := ⟨t9, s9, b9⟩
                    clear t9 s9 b9 HS9 hg2
                    by_cases hxa : x = ap
                    · subst hxa
                      clear hcmp
                      go_wp2
                      go_roundw
                      case rel => exact ⟨i + 1, by omega, by go_num, T9.out⟩
                      case measure => simp [intOf]; omega
                    · have hlt3 : ¬ mp ≤ et := by have := hcmp hxa; omega
                      have t1 : ¬ x.toList = ap.toList := by rw [Lib.toList_data, Lib.toList_data]; exact fun e => hxa (bl_inj e)
                      have t1' : (x.toList == ap.toList) = false := by simpa using t1
                      clear hcmp hxa
                      go_wp2
                      go_roundw
                      case rel => exact ⟨i + 1, by omega, by go_num, T9.out⟩
                      case measure => simp [intOf]; omega
                  · obtain rfl : i = N := by omega
                    have T10 : Hid (Store w.heap.size b m v5 s' wr ∧ Below w.heap.size w wr) := ⟨hstz, hbz⟩
                    clear htold hstz hbz
                    go_wp2
                    go_roundw
                    case rel => exact ⟨j + 1, v5, by omega, by go_num, by rw [HR.out]; exact T10.out.1, T10.out.2⟩
                    case measure => simp [intOf]; omega
            · clear HYp HWp HSp
              go_wp2_with fail
              refine HSq.out.mono ?_
              rintro e w6 ⟨rfl, hb6⟩
              go_wp2_with fail
              refine (HWq.out _).mono ?_
              rintro e w7 ⟨rfl, hb7⟩
              have hbb7 := hb6.trans (hb7.mono hb6.size)
              clear hb6 hb7
              go_wp2_with fail
              refine (HAl.out v5 w7 (T5.out.1.below hbb7)).mono ?_
              rintro e w8 ⟨u8', rfl, ht8, hb8⟩
              obtain ⟨N, hN⟩ : ∃ N, N = al.length := ⟨_, rfl⟩
              obtain ⟨au, capu, hu8⟩ := owns_slice ht8
              rw [← hN] at hu8 hall
              subst hu8
              have T8 : Hid (N = al.length ∧ Told w7.heap.size w8 (.slice au N capu) al ∧ Store w.heap.size b m v5 s' w8 ∧ Below w.heap.size w w8) := ⟨hN, ht8, (T5.out.1.below hbb7).below hb8, T5.out.2.1.trans ((hbb7.trans (hb8.mono hbb7.size)).mono T5.out.1.sized)⟩
              clear ht8 hb8 hbb7 hN
              go_wp2
              go_loopw [106] (fun vi wz => ∃ (i : Nat), i ≤ N ∧ vi = .int .i64 i ∧ Told w7.heap.size wz (.slice au N capu) al ∧ Store w.heap.size b m v5 s' wz ∧ Below w.heap.size w wz)
                (fun vi _ => N - (intOf vi).toNat)
              case atStart => exact ⟨0, Nat.zero_le _, rfl, T8.out.2.1, T8.out.2.2.1, T8.out.2.2.2⟩
              case round =>
                obtain ⟨i, hi, rfl, htold, hstz, hbz⟩ := hrel
                by_cases hlt2 : i < N
                · have hil2 : (i : Int) < (N : Int) := by omega
                  have hial : i < al.length := by rw [← T8.out.1]; exact hlt2
                  obtain ⟨x, hx⟩ : ∃ x, x = al[i] := ⟨_, rfl⟩
                  obtain ⟨ex, hex, hext, hexs⟩ := HAL.out x (by rw [hx]; exact List.getElem_mem _)
                  obtain ⟨a', cap', hau, hcell⟩ := htold.at
                  obtain ⟨g2, hg1, hg2⟩ := hcell i hial
                  simp only [Value.slice.injEq] at hau
                  have hau1 := hau.1
                  clear hau
                  subst hau1
                  subst hg1
                  rw [← hx] at hg2
                  have HS9 : Hid (Calls Try.prog 20 #[ptr b, .string x] wr fun e w' => e = .returned (.tuple #[.int .i64 ex.time, .bool (s'.stat x).2.1, .int .i64 (s'.stat x).2.2]) ∧ Told w7.heap.size w' (.slice (some ⟨g2, 0, none⟩) N capu) al ∧ Store w.heap.size b m v5 s' w' ∧ Below w.heap.size w w') := by
                    refine (HSt.out x hexs v5 wr hstz).mono ?_
                    rintro e w' ⟨rfl, hb'⟩
                    rw [hext]
                    exact ⟨rfl, htold.below hb', hstz.below hb', hbz.trans (hb'.mono hbz.size)⟩
                  obtain ⟨et, het⟩ : ∃ et, et = ex.time := ⟨_, rfl⟩
                  rw [← het] at HS9
                  clear hx hex hext hexs hcell htold hstz hbz het
                  go_wp2_with fail
                  refine HS9.out.mono ?_
                  rintro e w9 ⟨rfl, t9, s9, b9⟩
                  have T9 : Hid (Told w7.heap.size w9 (.slice (some ⟨g2, 0, none⟩) N capu) al ∧ Store w.heap.size b m v5 s' w9 ∧ Below w.heap.size w w9) := ⟨t9, s9, b9⟩
                  clear t9 s9 b9 HS9 hg2
                  by_cases hxa : x = aq
                  · subst hxa
                    go_wp2
                    go_roundw
                    case rel => exact ⟨i + 1, by omega, by go_num, T9.out⟩
                    case measure => simp [intOf]; omega
                  · have t1 : ¬ x.toList = aq.toList := by rw [Lib.toList_data, Lib.toList_data]; exact fun e => hxa (bl_inj e)
                    have t1' : (x.toList == aq.toList) = false := by simpa using t1
                    clear hxa
                    by_cases hlt3 : mq ≤ et
                    · go_wp2
                      go_roundw
                      case rel => exact ⟨i + 1, by omega, by go_num, T9.out⟩
                      case measure => simp [intOf]; omega
                    · go_wp2
                      go_roundw
                      case rel => exact ⟨i + 1, by omega, by go_num, T9.out⟩
                      case measure => simp [intOf]; omega
                · obtain rfl : i = N := by omega
                  have T10 : Hid (Store w.heap.size b m v5 s' wr ∧ Below w.heap.size w wr) := ⟨hstz, hbz⟩
                  clear htold hstz hbz
                  go_wp2
                  go_roundw
                  case rel => exact ⟨j + 1, v5, by omega, by go_num, by rw [HR.out]; exact T10.out.1, T10.out.2⟩
                  case measure => simp [intOf]; omega
          · have hr0' : (r == 0) = false := by simpa using hr0
            have hss := HRf.out hr0
            have hnow2 : s'.now = s.now := by rw [hss]
            obtain ⟨tn, htn⟩ : ∃ tn, tn = s.now := ⟨_, rfl⟩
            rw [hnow2, ← htn] at HC5 hn1 ⊢
            clear hnow hnow2 htn hss hkk HYg
            go_wp2_with fail
            refine (HC5.out _ (Below.refl _ _)).mono ?_
            rintro e w' ⟨rfl, rfl⟩
            go_wp2
            go_roundw
            case rel => exact ⟨j + 1, v5, by omega, by go_num, by rw [HR.out]; exact T5.out.1, T5.out.2.1⟩
            case measure => simp [intOf]; omega
        · obtain rfl : j = n := by omega
          clear hst
          go_wp2
          go_ret
          exact ⟨rfl, hb⟩
end Go.Proofs.Ytoibdokedhbjpaa
