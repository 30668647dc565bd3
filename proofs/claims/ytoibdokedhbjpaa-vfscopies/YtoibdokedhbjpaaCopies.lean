/-
  A copy is as the store was, and lives by itself: the law's function answers true.
-/
import Derived.Test.YtoibdokedhbjpaaRefused
import Derived.Test.YtoibdokedhbjpaaAlike
namespace Go.Proofs.Ytoibdokedhbjpaa
open Go.RowKit Go.Shelf Go.Maps

structure Three (base b m : Nat) (v : Value) (s : St) (b1 m1 : Nat) (v1 : Value) (s1 : St) (b2 m2 : Nat) (v2 : Value) (s2 : St) (w : World) : Prop where
  sc : Two base b m v s b1 m1 v1 s1 w
  sd : Two base b m v s b2 m2 v2 s2 w
  cd : Two base b1 m1 v1 s1 b2 m2 v2 s2 w
theorem Three.left {base b m b1 m1 b2 m2 : Nat} {v v1 v2 : Value} {s s1 s2 : St} {w w' : World} (h : Three base b m v s b1 m1 v1 s1 b2 m2 v2 s2 w) {v' : Value} {s' : St} (hs : Store base b m v' s' w') (ht : Turn b m v v' w w') : Three base b m v' s' b1 m1 v1 s1 b2 m2 v2 s2 w' :=
  ⟨h.sc.left hs ht, h.sd.left hs ht, ⟨(h.sc.left hs ht).two, (h.sd.left hs ht).two, h.cd.bb, h.cd.mm, h.cd.vv⟩⟩
theorem Three.below {base b m b1 m1 b2 m2 : Nat} {v v1 v2 : Value} {s s1 s2 : St} {w w' : World} (h : Three base b m v s b1 m1 v1 s1 b2 m2 v2 s2 w) (hb : Below w.heap.size w w') : Three base b m v s b1 m1 v1 s1 b2 m2 v2 s2 w' := ⟨h.sc.below hb, h.sd.below hb, h.cd.below hb⟩

set_option maxRecDepth 50000 in
set_option maxHeartbeats 8000000 in
theorem copies_law (room : Int) (a : Option Addr) (n c : Nat) (l : List Act) (a2 : Option Addr) (n2 c2 : Nat) (l2 : List Act) (w : World) (hn : n ≤ 140737488355328) (hw : Acts w.heap.size w (.slice a n c) l) (hf : Fine l) (hn2 : n2 ≤ 140737488355328) (hw2 : Acts w.heap.size w (.slice a2 n2 c2) l2) (hf2 : Fine l2) :
    Calls Try.prog 6 #[.int .i64 room, .slice a n c, .slice a2 n2 c2] w fun e w' => e = .returned (.bool true) ∧ Below w.heap.size w w' := by
  have HA : Hid (∀ W, Calls Try.prog 10 #[] W fun e w' => e = .returned (.bool true) ∧ Below W.heap.size W w') := fun W => alive_any W
  have HL : Hid (∀ W, Below w.heap.size w W → Calls Try.prog 9 #[.slice a n c] W fun e w' => e = .returned (.bool (longL l)) ∧ Below W.heap.size W w') := fun W hB => long_any a n c w.heap.size l W hB.size hn (hw.below hB)
  have HL2 : Hid (∀ W, Below w.heap.size w W → Calls Try.prog 9 #[.slice a2 n2 c2] W fun e w' => e = .returned (.bool (longL l2)) ∧ Below W.heap.size W w') := fun W hB => long_any a2 n2 c2 w.heap.size l2 W hB.size hn2 (hw2.below hB)
  have HW : Hid (n = l.length ∧ Acts w.heap.size w (.slice a n c) l) := ⟨hw.len, hw⟩
  have HW2 : Hid (n2 = l2.length ∧ Acts w.heap.size w (.slice a2 n2 c2) l2) := ⟨hw2.len, hw2⟩
  clear hw hw2
  by_cases hbad : room < 0 ∨ 1048576 < room
  · have HN : Hid (∀ W, Calls Try.prog 8 #[.int .i64 room] W fun e w' => e = .returned (.tuple #[.pointer none, .int .i64 1]) ∧ W = w') := fun W => (new_bad room W hbad).mono fun e w' h => ⟨h.1, h.2.symm⟩
    clear hbad
    go_enter Try.func6, Try.ntmps6
    go_wp2_with fail
    refine (HN.out _).mono ?_
    rintro e w' ⟨rfl, rfl⟩
    go_wp2_with fail
    refine (HA.out _).mono ?_
    rintro e w2 ⟨rfl, hb2⟩
    go_wp2
    go_ret
    exact ⟨rfl, hb2⟩
  · have HN : Hid (∀ W, Calls Try.prog 8 #[.int .i64 room] W fun e w' => ∃ b, e = .returned (.tuple #[ptr b, .int .i64 0]) ∧ Store W.heap.size b W.heap.size (.slice none 0 0) (St.new room) w' ∧ Below W.heap.size W w') := fun W => new_any room W (by omega) (by omega)
    clear hbad
    cases hlong : longL l with
    | true =>
      rw [hlong] at HL
      go_enter Try.func6, Try.ntmps6
      go_wp2_with fail
      refine (HN.out _).mono ?_
      rintro e w1 ⟨b, rfl, -, hb1⟩
      go_wp2_with fail
      refine (HL.out _ hb1).mono ?_
      rintro e w2 ⟨rfl, hb2⟩
      have hbb2 := hb1.trans (hb2.mono hb1.size)
      clear hb2 hb1
      go_wp2_with fail
      refine (HA.out _).mono ?_
      rintro e w3 ⟨rfl, hb3⟩
      have hbb3 := hbb2.trans (hb3.mono hbb2.size)
      clear hb3 hbb2
      go_wp2
      go_ret
      exact ⟨rfl, hbb3⟩
    | false =>
      rw [hlong] at HL
      cases hlong2 : longL l2 with
      | true =>
        rw [hlong2] at HL2
        go_enter Try.func6, Try.ntmps6
        go_wp2_with fail
        refine (HN.out _).mono ?_
        rintro e w1 ⟨b, rfl, -, hb1⟩
        go_wp2_with fail
        refine (HL.out _ hb1).mono ?_
        rintro e w2 ⟨rfl, hb2⟩
        have hbb2 := hb1.trans (hb2.mono hb1.size)
        clear hb2 hb1
        go_wp2_with fail
        refine (HL2.out _ hbb2).mono ?_
        rintro e w3 ⟨rfl, hb3⟩
        have hbb3 := hbb2.trans (hb3.mono hbb2.size)
        clear hb3 hbb2
        go_wp2_with fail
        refine (HA.out _).mono ?_
        rintro e w4 ⟨rfl, hb4⟩
        have hbb4 := hbb3.trans (hb4.mono hbb3.size)
        clear hb4 hbb3
        go_wp2
        go_ret
        exact ⟨rfl, hbb4⟩
      | false =>
        rw [hlong2] at HL2
        have hnn : n ≤ 600 := by have := (longL_no hlong).1; rw [HW.out.1]; exact this
        have hnn2 : n2 ≤ 600 := by have := (longL_no hlong2).1; rw [HW2.out.1]; exact this
        have HD : Hid (∀ b m v j, (hj : j < l.length) → ∀ W, Store w.heap.size b m v ((St.new room).run (l.take j)) W → Calls Try.prog 11 #[ptr b, .agg #[.int .u8 l[j].kind, .string l[j].p, .string l[j].q, .string l[j].t, .int .i64 l[j].n]] W fun e w' => (∃ r, e = .returned (.int .i64 r)) ∧ ∃ v', Store w.heap.size b m v' ((St.new room).run (l.take (j + 1))) w' ∧ Turn b m v v' W w') := fun b m v j hj W hW => round_any hlong hf (by show (0 : Int) ≤ _; decide) j hj W hW
        have hrun := run_now (St.new room) l
        have hrl := (longL_no hlong).1
        obtain ⟨s1, hs1⟩ : ∃ s1, s1 = (St.new room).run l := ⟨_, rfl⟩
        have hs1n : s1.now ≤ 1000000000000000000 := by
          rw [hs1]
          have : (St.new room).now = 0 := rfl
          omega
        have HD2 : Hid (∀ s0 : St, s0.now ≤ 1000000000000000000 → ∀ b m v j, (hj : j < l2.length) → ∀ W, Store w.heap.size b m v (s0.run (l2.take j)) W → Calls Try.prog 11 #[ptr b, .agg #[.int .u8 l2[j].kind, .string l2[j].p, .string l2[j].q, .string l2[j].t, .int .i64 l2[j].n]] W fun e w' => (∃ r, e = .returned (.int .i64 r)) ∧ ∃ v', Store w.heap.size b m v' (s0.run (l2.take (j + 1))) w' ∧ Turn b m v v' W w') := fun s0 h0 b m v j hj W hW => round_any hlong2 hf2 h0 j hj W hW
        have HS1 : Hid (s1 = (St.new room).run l) := hs1
        have HLk : Hid ((s1.run l2).Like (s1.copy.run l2)) := Like.run (like_copy s1) l2
        clear hs1 hrun hrl hf hf2
        go_enter Try.func6, Try.ntmps6
        go_wp2_with fail
        refine (HN.out _).mono ?_
        rintro e w1 ⟨b, rfl, hst1, hb1⟩
        obtain ⟨m, hm⟩ : ∃ m, m = w.heap.size := ⟨_, rfl⟩
        have HT1 : Hid (Store w.heap.size b m (.slice none 0 0) (St.new room) w1) := by rw [hm]; exact hst1
        clear hst1 hm
        go_wp2_with fail
        refine (HL.out _ hb1).mono ?_
        rintro e w2 ⟨rfl, hb2⟩
        have hbb2 := hb1.trans (hb2.mono hb1.size)
        have HT2 : Hid (Store w.heap.size b m (.slice none 0 0) (St.new room) w2) := HT1.out.below hb2
        clear hb2 hb1 HT1
        go_wp2_with fail
        refine (HL2.out _ hbb2).mono ?_
        rintro e w3 ⟨rfl, hb3⟩
        have hbb3 := hbb2.trans (hb3.mono hbb2.size)
        have HT3 : Hid (Store w.heap.size b m (.slice none 0 0) (St.new room) w3) := HT2.out.below hb3
        clear hb3 hbb2 HT2
        go_wp2_with fail
        refine (HA.out _).mono ?_
        rintro e w4 ⟨rfl, hb4⟩
        have HT4 : Hid (Store w.heap.size b m (.slice none 0 0) (St.new room) w4 ∧ Below w.heap.size w w4) := ⟨HT3.out.below hb4, hbb3.trans (hb4.mono hbb3.size)⟩
        clear hb4 hbb3 HT3 HA HL HL2
        go_wp2
        go_loopw [49] (fun vi wr => ∃ (j : Nat) (v : Value), j ≤ n ∧ vi = .int .i64 j ∧ Store w.heap.size b m v ((St.new room).run (l.take j)) wr ∧ Below w.heap.size w wr)
          (fun vi _ => n - (intOf vi).toNat)
        case atStart => exact ⟨0, _, Nat.zero_le _, rfl, HT4.out.1, HT4.out.2⟩
        case round =>
          obtain ⟨j, v, hj, rfl, hst, hb⟩ := hrel
          clear HT4
          by_cases hlt : j < n
          · have hjl : j < l.length := by rw [← HW.out.1]; exact hlt
            have hil : (j : Int) < (n : Int) := by omega
            obtain ⟨g, o, rfl, x0, x1, x2, x3, x4⟩ := acts_here HW.out.2 hb j hjl
            have HDj : Hid (∀ W, Below wr.heap.size wr W → Calls Try.prog 11 #[ptr b, .agg #[.int .u8 l[j].kind, .string l[j].p, .string l[j].q, .string l[j].t, .int .i64 l[j].n]] W fun e w' => (∃ r, e = .returned (.int .i64 r)) ∧ ∃ v', Store w.heap.size b m v' ((St.new room).run (l.take (j + 1))) w' ∧ Below w.heap.size w w') := fun W hB => by
              refine (HD.out b m v j hjl W (hst.below hB)).mono ?_
              rintro e w' ⟨he, v', hst', ht'⟩
              refine ⟨he, v', hst', (hb.trans (hB.mono hst.sized)).trans ((hst.below hB).low ht')⟩
            obtain ⟨x, hxe⟩ : ∃ x, x = l[j] := ⟨_, rfl⟩
            rw [← hxe] at x0 x1 x2 x3 x4 HDj
            obtain ⟨kd, xp, xq, xt, xn⟩ := x
            simp only at x0 x1 x2 x3 x4 HDj
            clear hxe hst
            go_wp2_with fail
            refine (HDj.out _ ((Below.refl _ _).alloc (Nat.le_refl _) _)).mono ?_
            rintro e w5 ⟨⟨r5, rfl⟩, v5, hst5, hb5⟩
            have HE : Hid (Store w.heap.size b m v5 ((St.new room).run (l.take (j + 1))) w5 ∧ Below w.heap.size w w5) := ⟨hst5, hb5⟩
            clear hst5 hb5 x0 x1 x2 x3 x4 HDj
            go_wp2
            go_roundw
            case rel => exact ⟨j + 1, v5, by omega, by go_num, HE.out.1, HE.out.2⟩
            case measure => simp [intOf]; omega
          · obtain rfl : j = n := by omega
            have hstl : Store w.heap.size b m v s1 wr := by
              have := hst
              rw [HW.out.1, List.take_length, ← HS1.out] at this; exact this
            have HCp : Hid (Calls Try.prog 12 #[ptr b] wr fun e w' => ∃ b' m', e = .returned (ptr b') ∧ Two w.heap.size b m v s1 b' m' (.slice none 0 0) s1.copy w' ∧ Below w.heap.size w w') := by
              refine (copy_any wr hstl).mono ?_
              rintro e w' ⟨b', m', rfl, hc, hb'⟩
              exact ⟨b', m', rfl, Two.of_copy hstl hstl.sized hc hb', hb.trans (hb'.mono hstl.sized)⟩
            have HCp2 : Hid (∀ b1 m1 W, Two w.heap.size b m v s1 b1 m1 (.slice none 0 0) s1.copy W → Calls Try.prog 12 #[ptr b] W fun e w' => ∃ b' m', e = .returned (ptr b') ∧ Three w.heap.size b m v s1 b1 m1 (.slice none 0 0) s1.copy b' m' (.slice none 0 0) s1.copy w' ∧ Below w.heap.size W w') := fun b1 m1 W hW => by
              refine (copy_any W hW.one).mono ?_
              rintro e w' ⟨b', m', rfl, hc, hb'⟩
              exact ⟨b', m', rfl, ⟨hW.below hb', Two.of_copy hW.one hW.one.sized hc hb', Two.of_copy hW.two hW.two.sized hc hb'⟩, hb'.mono hW.one.sized⟩
            clear hst hstl hb HW HD
            go_wp2_with fail
            refine HCp.out.mono ?_
            rintro e w5 ⟨b1, m1, rfl, htwo, hb5⟩
            have HT5 : Hid (Two w.heap.size b m v s1 b1 m1 (.slice none 0 0) s1.copy w5 ∧ Below w.heap.size w w5) := ⟨htwo, hb5⟩
            clear htwo hb5 HCp
            go_wp2_with fail
            refine (HCp2.out b1 m1 w5 HT5.out.1).mono ?_
            rintro e w6 ⟨b2, m2, rfl, hth, hb6⟩
            have HT6 : Hid (Three w.heap.size b m v s1 b1 m1 (.slice none 0 0) s1.copy b2 m2 (.slice none 0 0) s1.copy w6 ∧ Below w.heap.size w w6) := ⟨hth, HT5.out.2.trans hb6⟩
            clear hth hb6 HT5 HCp2
            go_wp2
            go_loopw [69] (fun vi wz => ∃ (i : Nat) (vz : Value), i ≤ n2 ∧ vi = .int .i64 i ∧ Three w.heap.size b m vz (s1.run (l2.take i)) b1 m1 (.slice none 0 0) s1.copy b2 m2 (.slice none 0 0) s1.copy wz ∧ Below w.heap.size w wz)
              (fun vi _ => n2 - (intOf vi).toNat)
            case atStart => exact ⟨0, v, Nat.zero_le _, rfl, HT6.out.1, HT6.out.2⟩
            case round =>
              obtain ⟨i, vz, hi, rfl, hth, hbz⟩ := hrel
              clear HT6
              by_cases hlt2 : i < n2
              · have hil2 : i < l2.length := by rw [← HW2.out.1]; exact hlt2
                have hii : (i : Int) < (n2 : Int) := by omega
                obtain ⟨g, o, rfl, x0, x1, x2, x3, x4⟩ := acts_here HW2.out.2 hbz i hil2
                have HDj : Hid (∀ W, Below wr.heap.size wr W → Calls Try.prog 11 #[ptr b, .agg #[.int .u8 l2[i].kind, .string l2[i].p, .string l2[i].q, .string l2[i].t, .int .i64 l2[i].n]] W fun e w' => (∃ r, e = .returned (.int .i64 r)) ∧ ∃ v', Three w.heap.size b m v' (s1.run (l2.take (i + 1))) b1 m1 (.slice none 0 0) s1.copy b2 m2 (.slice none 0 0) s1.copy w' ∧ Below w.heap.size w w') := fun W hB => by
                  have h3 := hth.below hB
                  refine (HD2.out s1 hs1n b m vz i hil2 W h3.sc.one).mono ?_
                  rintro e w' ⟨he, v', hst', ht'⟩
                  exact ⟨he, v', h3.left hst' ht', (hbz.trans (hB.mono hth.sc.one.sized)).trans (h3.sc.one.low ht')⟩
                obtain ⟨x, hxe⟩ : ∃ x, x = l2[i] := ⟨_, rfl⟩
                rw [← hxe] at x0 x1 x2 x3 x4 HDj
                obtain ⟨kd, xp, xq, xt, xn⟩ := x
                simp only at x0 x1 x2 x3 x4 HDj
                clear hxe hth
                go_wp2_with fail
                refine (HDj.out _ ((Below.refl _ _).alloc (Nat.le_refl _) _)).mono ?_
                rintro e w7 ⟨⟨r7, rfl⟩, v7, hst7, hb7⟩
                have HE : Hid (Three w.heap.size b m v7 (s1.run (l2.take (i + 1))) b1 m1 (.slice none 0 0) s1.copy b2 m2 (.slice none 0 0) s1.copy w7 ∧ Below w.heap.size w w7) := ⟨hst7, hb7⟩
                clear hst7 hb7 x0 x1 x2 x3 x4 HDj
                go_wp2
                go_roundw
                case rel => exact ⟨i + 1, v7, by omega, by go_num, HE.out.1, HE.out.2⟩
                case measure => simp [intOf]; omega
              · obtain rfl : i = n2 := by omega
                obtain ⟨i2, hi2⟩ : ∃ i2, i2 = i := ⟨_, rfl⟩
                subst hi2
                obtain ⟨s2, hs2⟩ : ∃ s2, s2 = s1.run l2 := ⟨_, rfl⟩
                have h3 : Three w.heap.size b m vz s2 b1 m1 (.slice none 0 0) s1.copy b2 m2 (.slice none 0 0) s1.copy wr := by
                  have := hth
                  rw [HW2.out.1, List.take_length, ← hs2] at this; exact this
                rw [← hs2] at HLk
                have HT7 : Hid (Three w.heap.size b m vz s2 b1 m1 (.slice none 0 0) s1.copy b2 m2 (.slice none 0 0) s1.copy wr ∧ Below w.heap.size w wr) := ⟨h3, hbz⟩
                clear hth hbz h3 hs2
                obtain ⟨al, hal⟩ : ∃ al, al = s1.copy.all := ⟨_, rfl⟩
                have hall : al.length ≤ 512 := by rw [hal]; exact Nat.le_trans (all_len s1.copy) HT7.out.1.sc.two.ok.len
                have A1 : Hid (∀ W, Below wr.heap.size wr W → Calls Try.prog 15 #[ptr b1] W fun e w' => ∃ u, e = .returned u ∧ Told W.heap.size w' u al ∧ Below W.heap.size W w') := fun W hB => by rw [hal]; exact all_any W (HT7.out.1.sc.two.below hB)
                have A2 : Hid (∀ W, Below wr.heap.size wr W → Calls Try.prog 15 #[ptr b2] W fun e w' => ∃ u, e = .returned u ∧ Told W.heap.size w' u al ∧ Below W.heap.size W w') := fun W hB => by rw [hal]; exact all_any W (HT7.out.1.sd.two.below hB)
                have AS : Hid (∀ W B1 B2 u1 u2, Told B1 W u1 al → Told B2 W u2 al → Calls Try.prog 14 #[u1, u2] W fun e w' => e = .returned (.bool true) ∧ Below W.heap.size W w') := fun W B1 B2 u1 u2 h1 h2 => same_told (by omega) h1 h2
                have C1 : Hid (∀ W, Below wr.heap.size wr W → Calls Try.prog 16 #[ptr b1] W fun e w' => e = .returned (.int .i64 s1.now) ∧ W = w') := fun W hB => (clock_any (s := s1.copy) W (HT7.out.1.sc.two.below hB)).mono fun e w' h => ⟨h.1, h.2.symm⟩
                have C2 : Hid (∀ W, Below wr.heap.size wr W → Calls Try.prog 16 #[ptr b2] W fun e w' => e = .returned (.int .i64 s1.now) ∧ W = w') := fun W hB => (clock_any (s := s1.copy) W (HT7.out.1.sd.two.below hB)).mono fun e w' h => ⟨h.1, h.2.symm⟩
                have N1 : Hid (∀ W, Below wr.heap.size wr W → Calls Try.prog 21 #[ptr b1, .bool false] W fun e w' => e = .returned (.slice none 0 0) ∧ Two w.heap.size b m vz s2 b1 m1 (.slice none 0 0) s1.copy w' ∧ Below w.heap.size w w') := fun W hB => by
                  have h3 := HT7.out.1.below hB
                  refine (notes_any false W h3.sc.two).mono ?_
                  rintro e w' ⟨rfl, hst', _, ht'⟩
                  exact ⟨rfl, h3.sc.right (s1 := s1.copy) hst' ht', (HT7.out.2.trans (hB.mono HT7.out.1.sc.one.sized)).trans (h3.sc.two.low ht')⟩
                clear hal
                go_wp2_with fail
                refine (A1.out _ (Below.refl _ _)).mono ?_
                rintro e w8 ⟨u8', rfl, ht8, hb8⟩
                have T8 : Hid (Told wr.heap.size w8 u8' al) := ht8
                clear ht8
                go_wp2_with fail
                refine (A2.out _ hb8).mono ?_
                rintro e w9 ⟨u9', rfl, ht9, hb9⟩
                have T9 : Hid (Told w8.heap.size w9 u9' al ∧ Told wr.heap.size w9 u8' al) := ⟨ht9, T8.out.below hb9⟩
                have hbb9 := hb8.trans (hb9.mono hb8.size)
                clear ht9 hb8 hb9 T8
                go_wp2_with fail
                refine (AS.out _ _ _ _ _ T9.out.2 T9.out.1).mono ?_
                rintro e w10 ⟨rfl, hb10⟩
                have hbb10 := hbb9.trans (hb10.mono hbb9.size)
                clear hb10 hbb9 T9
                go_wp2_with fail
                refine (C1.out _ hbb10).mono ?_
                rintro e w' ⟨rfl, rfl⟩
                go_wp2_with fail
                refine (C2.out _ hbb10).mono ?_
                rintro e w' ⟨rfl, rfl⟩
                go_wp2_with fail
                refine (N1.out _ hbb10).mono ?_
                rintro e w11 ⟨rfl, htw, hb11⟩
                have T11 : Hid (Two w.heap.size b m vz s2 b1 m1 (.slice none 0 0) s1.copy w11 ∧ Below w.heap.size w w11) := ⟨htw, hb11⟩
                clear htw hb11 hbb10 A1 A2 AS C1 C2 N1 HT7
                go_wp2
                go_loopw [98] (fun vi wz => ∃ (i : Nat) (vc : Value), i ≤ i2 ∧ vi = .int .i64 i ∧ Two w.heap.size b m vz s2 b1 m1 vc (s1.copy.run (l2.take i)) wz ∧ Below w.heap.size w wz)
                  (fun vi _ => i2 - (intOf vi).toNat)
                case atStart => exact ⟨0, .slice none 0 0, Nat.zero_le _, rfl, T11.out.1, T11.out.2⟩
                case round =>
                  obtain ⟨i, vc, hi, rfl, hth, hbz⟩ := hrel
                  clear T11
                  by_cases hlt3 : i < i2
                  · have hil3 : i < l2.length := by rw [← HW2.out.1]; exact hlt3
                    have hii : (i : Int) < (i2 : Int) := by omega
                    obtain ⟨g, o, rfl, x0, x1, x2, x3, x4⟩ := acts_here HW2.out.2 hbz i hil3
                    have HDj : Hid (∀ W, Below wr.heap.size wr W → Calls Try.prog 11 #[ptr b1, .agg #[.int .u8 l2[i].kind, .string l2[i].p, .string l2[i].q, .string l2[i].t, .int .i64 l2[i].n]] W fun e w' => (∃ r, e = .returned (.int .i64 r)) ∧ ∃ v', Two w.heap.size b m vz s2 b1 m1 v' (s1.copy.run (l2.take (i + 1))) w' ∧ Below w.heap.size w w') := fun W hB => by
                      have h3 := hth.below hB
                      refine (HD2.out s1.copy hs1n b1 m1 vc i hil3 W h3.two).mono ?_
                      rintro e w' ⟨he, v', hst', ht'⟩
                      exact ⟨he, v', h3.right hst' ht', (hbz.trans (hB.mono hth.one.sized)).trans (h3.two.low ht')⟩
                    obtain ⟨x, hxe⟩ : ∃ x, x = l2[i] := ⟨_, rfl⟩
                    rw [← hxe] at x0 x1 x2 x3 x4 HDj
                    obtain ⟨kd, xp, xq, xt, xn⟩ := x
                    simp only at x0 x1 x2 x3 x4 HDj
                    clear hxe hth
                    go_wp2_with fail
                    refine (HDj.out _ ((Below.refl _ _).alloc (Nat.le_refl _) _)).mono ?_
                    rintro e w12 ⟨⟨r12, rfl⟩, v12, hst12, hb12⟩
                    have HE : Hid (Two w.heap.size b m vz s2 b1 m1 v12 (s1.copy.run (l2.take (i + 1))) w12 ∧ Below w.heap.size w w12) := ⟨hst12, hb12⟩
                    clear hst12 hb12 x0 x1 x2 x3 x4 HDj
                    go_wp2
                    go_roundw
                    case rel => exact ⟨i + 1, v12, by omega, by go_num, HE.out.1, HE.out.2⟩
                    case measure => simp [intOf]; omega
                  · obtain rfl : i = i2 := by omega
                    obtain ⟨cz, hcz⟩ : ∃ cz, cz = s1.copy.run l2 := ⟨_, rfl⟩
                    have h4 : Two w.heap.size b m vz s2 b1 m1 vc cz wr := by
                      have := hth
                      rw [HW2.out.1, List.take_length, ← hcz] at this; exact this
                    rw [← hcz] at HLk
                    have T12 : Hid (Two w.heap.size b m vz s2 b1 m1 vc cz wr ∧ Below w.heap.size w wr) := ⟨h4, hbz⟩
                    clear hth hbz h4 hcz al hall
                    obtain ⟨al, hal⟩ : ∃ al, al = s2.all := ⟨_, rfl⟩
                    have hall : al.length ≤ 512 := by rw [hal]; exact Nat.le_trans (all_len s2) T12.out.1.one.ok.len
                    have A1 : Hid (∀ W, Below wr.heap.size wr W → Calls Try.prog 15 #[ptr b] W fun e w' => ∃ u, e = .returned u ∧ Told W.heap.size w' u al ∧ Below W.heap.size W w') := fun W hB => by rw [hal]; exact all_any W (T12.out.1.one.below hB)
                    have A2 : Hid (∀ W, Below wr.heap.size wr W → Calls Try.prog 15 #[ptr b1] W fun e w' => ∃ u, e = .returned u ∧ Told W.heap.size w' u al ∧ Below W.heap.size W w') := fun W hB => by rw [hal, Like.all HLk.out]; exact all_any W (T12.out.1.two.below hB)
                    have AS : Hid (∀ W B1 B2 u1 u2, Told B1 W u1 al → Told B2 W u2 al → Calls Try.prog 14 #[u1, u2] W fun e w' => e = .returned (.bool true) ∧ Below W.heap.size W w') := fun W B1 B2 u1 u2 h1 h2 => same_told (by omega) h1 h2
                    have C1 : Hid (∀ W, Below wr.heap.size wr W → Calls Try.prog 16 #[ptr b] W fun e w' => e = .returned (.int .i64 s2.now) ∧ W = w') := fun W hB => (clock_any W (T12.out.1.one.below hB)).mono fun e w' h => ⟨h.1, h.2.symm⟩
                    have C2 : Hid (∀ W, Below wr.heap.size wr W → Calls Try.prog 16 #[ptr b1] W fun e w' => e = .returned (.int .i64 s2.now) ∧ W = w') := fun W hB => by rw [HLk.out.now]; exact (clock_any W (T12.out.1.two.below hB)).mono fun e w' h => ⟨h.1, h.2.symm⟩
                    have U1 : Hid (∀ W, Below wr.heap.size wr W → Calls Try.prog 17 #[ptr b] W fun e w' => e = .returned (.int .i64 s2.L.used) ∧ Below W.heap.size W w') := fun W hB => used_any W (T12.out.1.one.below hB)
                    have U2 : Hid (∀ W, Below wr.heap.size wr W → Calls Try.prog 17 #[ptr b1] W fun e w' => e = .returned (.int .i64 s2.L.used) ∧ Below W.heap.size W w') := fun W hB => by rw [HLk.out.L]; exact used_any W (T12.out.1.two.below hB)
                    obtain ⟨us, hus⟩ : ∃ us, us = s2.L.used := ⟨_, rfl⟩
                    obtain ⟨tn, htn⟩ : ∃ tn, tn = s2.now := ⟨_, rfl⟩
                    rw [← hus] at U1 U2
                    rw [← htn] at C1 C2
                    have HAL : Hid (∀ x ∈ al, ∃ e, s2.L.look x = some e ∧ e.dir = false ∧ wh x = some x ∧ x.size ≤ 1100000) := fun x hx => by
                      rw [hal] at hx
                      obtain ⟨e, he, hd⟩ := all_mem hx
                      have ho := T12.out.1.one.ok
                      exact ⟨e, Fs.mem_look ho.uniq he, hd, ho.path _ he⟩
                    have HcL : Hid (cz.L = s2.L) := HLk.out.L.symm
                    clear hus htn hal HLk HD2
                    go_wp2_with fail
                    refine (A1.out _ (Below.refl _ _)).mono ?_
                    rintro e w13 ⟨u13', rfl, ht13, hb13⟩
                    have T13 : Hid (Told wr.heap.size w13 u13' al) := ht13
                    clear ht13
                    go_wp2_with fail
                    refine (A2.out _ hb13).mono ?_
                    rintro e w14 ⟨u14', rfl, ht14, hb14⟩
                    have T14 : Hid (Told w13.heap.size w14 u14' al ∧ Told wr.heap.size w14 u13' al) := ⟨ht14, T13.out.below hb14⟩
                    have hbb14 := hb13.trans (hb14.mono hb13.size)
                    clear ht14 hb13 hb14 T13
                    go_wp2_with fail
                    refine (AS.out _ _ _ _ _ T14.out.2 T14.out.1).mono ?_
                    rintro e w15 ⟨rfl, hb15⟩
                    have hbb15 := hbb14.trans (hb15.mono hbb14.size)
                    clear hb15 hbb14 T14
                    go_wp2_with fail
                    refine (C1.out _ hbb15).mono ?_
                    rintro e w' ⟨rfl, rfl⟩
                    go_wp2_with fail
                    refine (C2.out _ hbb15).mono ?_
                    rintro e w' ⟨rfl, rfl⟩
                    go_wp2_with fail
                    refine (U1.out _ hbb15).mono ?_
                    rintro e w16 ⟨rfl, hb16⟩
                    have hbb16 := hbb15.trans (hb16.mono hbb15.size)
                    clear hb16 hbb15
                    go_wp2_with fail
                    refine (U2.out _ hbb16).mono ?_
                    rintro e w17 ⟨rfl, hb17⟩
                    have hbb17 := hbb16.trans (hb17.mono hbb16.size)
                    clear hb17 hbb16
                    go_wp2_with fail
                    refine (A1.out _ hbb17).mono ?_
                    rintro e w18 ⟨u18', rfl, ht18, hb18⟩
                    have hbb18 := hbb17.trans (hb18.mono hbb17.size)
                    obtain ⟨N, hN⟩ : ∃ N, N = al.length := ⟨_, rfl⟩
                    obtain ⟨au, capu, hu18⟩ := owns_slice ht18
                    rw [← hN] at hu18 hall
                    subst hu18
                    have T18 : Hid (N = al.length ∧ Told w17.heap.size w18 (.slice au N capu) al ∧ Two w.heap.size b m vz s2 b1 m1 vc cz w18 ∧ Below w.heap.size w w18) := ⟨hN, ht18, T12.out.1.below hbb18, T12.out.2.trans (hbb18.mono T12.out.1.one.sized)⟩
                    clear ht18 hb18 hbb18 hbb17 T12 A1 A2 AS C1 C2 U1 U2 hN
                    go_wp2
                    go_loopw [129] (fun vi wz => ∃ (q : Nat) (va vb : Value) (sa sb : St), q ≤ N ∧ vi = .int .i64 q ∧ Told w17.heap.size wz (.slice au N capu) al ∧ Two w.heap.size b m va sa b1 m1 vb sb wz ∧ sa.L = s2.L ∧ sb.L = s2.L ∧ Below w.heap.size w wz)
                      (fun vi _ => N - (intOf vi).toNat)
                    case atStart => exact ⟨0, _, _, s2, cz, Nat.zero_le _, rfl, T18.out.2.1, T18.out.2.2.1, rfl, HcL.out, T18.out.2.2.2⟩
                    case round =>
                      obtain ⟨q, va, vb, sa, sb, hq, rfl, htold, htwo, haL, hbL, hbz⟩ := hrel
                      by_cases hlt4 : q < N
                      · have hil4 : (q : Int) < (N : Int) := by omega
                        have hqal : q < al.length := by rw [← T18.out.1]; exact hlt4
                        obtain ⟨x, hx⟩ : ∃ x, x = al[q] := ⟨_, rfl⟩
                        obtain ⟨ex, hex, hexd, hexw, hexs⟩ := HAL.out x (by rw [hx]; exact List.getElem_mem _)
                        obtain ⟨a', cap', hau, hcell⟩ := htold.at
                        obtain ⟨g, hg1, hg2⟩ := hcell q hqal
                        simp only [Value.slice.injEq] at hau
                        have hau1 := hau.1
                        clear hau
                        subst hau1
                        subst hg1
                        rw [← hx] at hg2
                        have R1 : Hid (Calls Try.prog 18 #[ptr b, .string x] wr fun e w' => e = .returned (.tuple #[.string ex.text, .int .i64 0]) ∧ ∃ v', Two w.heap.size b m v' (sa.note 1 x) b1 m1 vb sb w' ∧ Told w17.heap.size w' (.slice (some ⟨g, 0, none⟩) N capu) al ∧ Below w.heap.size w w') := by
                          refine (read_any x wr htwo.one hexs).mono ?_
                          rintro e w' ⟨rfl, v', hst', ht'⟩
                          rw [read_file hexw (by rw [haL]; exact hex) hexd] at hst' ⊢
                          exact ⟨rfl, v', htwo.left hst' ht', htold.turn htwo.one ht', hbz.trans (htwo.one.low ht')⟩
                        have R2 : Hid (∀ v1 W, Two w.heap.size b m v1 (sa.note 1 x) b1 m1 vb sb W → Told w17.heap.size W (.slice (some ⟨g, 0, none⟩) N capu) al → Calls Try.prog 18 #[ptr b1, .string x] W fun e w' => e = .returned (.tuple #[.string ex.text, .int .i64 0]) ∧ ∃ v', Two w.heap.size b m v1 (sa.note 1 x) b1 m1 v' (sb.note 1 x) w' ∧ Told w17.heap.size w' (.slice (some ⟨g, 0, none⟩) N capu) al ∧ Below w.heap.size W w') := fun v1 W h2 ht2 => by
                          refine (read_any x W h2.two hexs).mono ?_
                          rintro e w' ⟨rfl, v', hst', ht'⟩
                          rw [read_file hexw (by rw [hbL]; exact hex) hexd] at hst' ⊢
                          exact ⟨rfl, v', h2.right hst' ht', ht2.turn h2.two ht', h2.two.low ht'⟩
                        have HZ : Hid ((sa.note 1 x).L = s2.L ∧ (sb.note 1 x).L = s2.L) := by unfold Hid; rw [note_L, note_L]; exact ⟨haL, hbL⟩
                        obtain ⟨ex1, ex2, ex3⟩ := ex
                        simp only at R1 R2
                        clear hx hex hexd hexw hexs hcell htold htwo haL hbL hbz
                        go_wp2_with fail
                        refine R1.out.mono ?_
                        rintro e w19 ⟨rfl, v19, h19, t19, b19⟩
                        have T19 : Hid (Two w.heap.size b m v19 (sa.note 1 x) b1 m1 vb sb w19 ∧ Told w17.heap.size w19 (.slice (some ⟨g, 0, none⟩) N capu) al ∧ Below w.heap.size w w19) := ⟨h19, t19, b19⟩
                        clear h19 t19 b19 R1 hg2
                        go_wp2_with fail
                        refine (R2.out v19 w19 T19.out.1 T19.out.2.1).mono ?_
                        rintro e w20 ⟨rfl, v20, h20, t20, b20⟩
                        have T20 : Hid (Two w.heap.size b m v19 (sa.note 1 x) b1 m1 v20 (sb.note 1 x) w20 ∧ Told w17.heap.size w20 (.slice (some ⟨g, 0, none⟩) N capu) al ∧ Below w.heap.size w w20) := ⟨h20, t20, T19.out.2.2.trans b20⟩
                        clear h20 t20 b20 R2 T19
                        go_wp2
                        go_roundw
                        case rel => exact ⟨q + 1, v19, v20, sa.note 1 x, sb.note 1 x, by omega, by go_num, T20.out.2.1, T20.out.1, HZ.out.1, HZ.out.2, T20.out.2.2⟩
                        case measure => simp [intOf]; omega
                      · obtain rfl : q = N := by omega
                        clear htold htwo
                        go_wp2
                        go_ret
                        exact ⟨rfl, hbz⟩
end Go.Proofs.Ytoibdokedhbjpaa
