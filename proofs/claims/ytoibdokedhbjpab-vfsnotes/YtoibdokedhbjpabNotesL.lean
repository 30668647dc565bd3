/-
  What is noted while a store notes: the law's function answers true.
-/
import Derived.Test.YtoibdokedhbjpabNotesP
import Derived.Test.YtoibdokedhbjpabWhere
import Derived.Test.YtoibdokedhbjpabTouches
namespace Go.Proofs.Ytoibdokedhbjpab
open Go.RowKit Go.Shelf Go.Maps

structure NS (base b m : Nat) (v : Value) (s : St) (u : Value) (ws : List (Int × ByteArray)) (w : World) : Prop where
  st : Store base b m v s w
  row : w.ownsRow base 39 2 u ws.length (notesV ws)
  apart : ∀ g, u.ownBlock = some g → v.ownBlock ≠ some g
section
variable {base b m : Nat} {v u : Value} {s : St} {ws : List (Int × ByteArray)} {w w' : World}
theorem NS.turn (h : NS base b m v s u ws w) {v1 : Value} {s1 : St} (hs : Store base b m v1 s1 w') (ht : Turn b m v v1 w w') : NS base b m v1 s1 u ws w' := by
  refine ⟨hs, ⟨h.row.1, ?_⟩, fun g hg e => ?_⟩
  · rcases h.row.2 with h0 | ⟨g, cap, cur, hu, hg, hgg, rest⟩
    · exact .inl h0
    · refine .inr ⟨g, cap, cur, hu, hg, ?_, rest⟩
      rw [ht.block g (Array.getElem?_eq_some_iff.1 hgg).1 (fun e => ?_) (fun e => ?_) (fun e => ?_)]
      · exact hgg
      · have := h.st.blk; rw [← e, hgg] at this; simp at this
      · obtain ⟨es, clock, hx⟩ := h.st.map.isMap
        rw [← e, hgg] at hx; cases hx
      · exact h.apart g (by rw [hu]; rfl) e
  · rcases ht.own g e with e1 | e1
    · exact h.apart g hg e1
    · have := (h.row.lt g hg).2; omega
theorem NS.below (h : NS base b m v s u ws w) (hb : Below w.heap.size w w') : NS base b m v s u ws w' := ⟨h.st.below hb, owns_below h.row hb, h.apart⟩
/-- What is wanted has grown. -/
theorem NS.more (h : NS base b m v s u ws w) {w1 : World} {u' : Value} {ws' : List (Int × ByteArray)} (hb : Below w.heap.size w w1) (hg : w1.grownBy w' u.ownBlock) (hrow : w'.ownsRow base 39 2 u' ws'.length (notesV ws')) (hloc : ∀ g, u'.ownBlock = some g → u.ownBlock = some g ∨ w.heap.size ≤ g) : NS base b m v s u' ws' w' := by
  have hub : u.ownBlock ≠ some b := fun e => by
    obtain ⟨cur, hc⟩ := row_type h.row e
    have := h.st.blk; rw [hc] at this; simp at this
  have hum : u.ownBlock ≠ some m := fun e => by
    obtain ⟨cur, hc⟩ := row_type h.row e
    obtain ⟨es, clock, hx⟩ := h.st.map.isMap
    rw [hc] at hx; cases hx
  have s1 := h.st.below hb
  have hst : Store base b m v s w' := by
    refine ⟨(hg.block b s1.lt (fun e => hub e.symm)).trans s1.blk, s1.map.of_block (hg.block m s1.ltm (fun e => hum e.symm)), ?_, s1.hb, s1.hm, s1.ok⟩
    refine s1.row.kept hg ?_
    by_cases hv : v.ownBlock = none
    · exact .inl hv
    · refine .inr (fun e => ?_)
      cases hu : u.ownBlock with
      | none => rw [hu] at e; exact hv e
      | some g => rw [hu] at e; exact h.apart g hu e
  refine ⟨hst, hrow, fun g hg' e => ?_⟩
  rcases hloc g hg' with e1 | e1
  · exact h.apart g e1 e
  · have := (h.st.ltv g e).2; omega
/-- .. and what lay below is as it was. -/
theorem NS.low (h : NS base b m v s u ws w) {w0 w1 : World} {B : Nat} (hB : B ≤ base) (h0 : Below B w0 w) (hb : Below w.heap.size w w1) (hg : w1.grownBy w' u.ownBlock) : Below B w0 w' := by
  have h1 : Below B w0 w1 := h0.trans (hb.mono (Nat.le_trans hB h.st.sized))
  have hs := h1.size
  refine h1.grown hg ?_ (fun k hk => Nat.le_trans hB (h.row.lt k hk).1)
  have := h.st.sized
  have := hb.size
  omega
end
theorem where_t (o : Option ByteArray) : whereV o = .tuple #[.string (o.getD E), .bool o.isSome] := by cases o <;> rfl
theorem notesV_app (a c : List (Int × ByteArray)) : notesV (a ++ c) = notesV a ++ notesV c := by unfold notesV; rw [List.flatMap_append]

/-- What one round of the noted calls leaves. -/
structure NR (base b m : Nat) (w0 : World) (x : St × List (Int × ByteArray)) (u : Value) (w : World) : Prop where
  ex : ∃ v, NS base b m v x.1 u x.2 w ∧ Below base w0 w
theorem NR.below {base b m : Nat} {w0 : World} {x : St × List (Int × ByteArray)} {u : Value} {w w' : World} (h : NR base b m w0 x u w) (hb : Below w.heap.size w w') : NR base b m w0 x u w' := by
  obtain ⟨v, h1, h2⟩ := h
  exact ⟨v, h1.below hb, h2.trans (hb.mono h1.st.sized)⟩

theorem nr_more {base b m : Nat} {v u : Value} {s : St} {ws new : List (Int × ByteArray)} {w0 w w1 w' : World} {u' : Value} (h : NS base b m v s u ws w) (hbel : Below base w0 w) (hb : Below w.heap.size w w1) (hg : w1.grownBy w' u.ownBlock) (hrow : w'.ownsRow base 39 2 u' (ws.length + new.length) (notesV ws ++ notesV new)) (hloc : ∀ g, u'.ownBlock = some g → u.ownBlock = some g ∨ w.heap.size ≤ g) : NR base b m w0 (s, ws ++ new) u' w' := by
  refine ⟨v, h.more hb hg ?_ hloc, h.low (Nat.le_refl _) hbel hb hg⟩
  dsimp only
  rw [notesV_app, List.length_append]; exact hrow
theorem loc_le {k g n : Nat} (h : some k = some g) (hk : n ≤ k) : n ≤ g := by cases h; exact hk
theorem infoT2 : (Try.prog.info? 39).map (fun i => (i.zero, i.size, i.bytes)) = some (some (.agg #[.int .i64 0, .string ⟨#[]⟩]), 2, 24) := by kernel_rfl

set_option maxRecDepth 50000 in
set_option maxHeartbeats 4000000 in
theorem notes_law (room : Int) (a : Option Addr) (n c : Nat) (l : List Act) (a2 : Option Addr) (n2 c2 : Nat) (l2 : List Act) (w : World) (hn : n ≤ 140737488355328) (hn2 : n2 ≤ 140737488355328) (hc2 : n2 ≤ c2)
    (hw : Acts w.heap.size w (.slice a n c) l) (hf : Fine l) (hw2 : Acts w.heap.size w (.slice a2 n2 c2) l2) (hf2 : Fine l2) :
    Calls Try.prog 3 #[.int .i64 room, .slice a n c, .slice a2 n2 c2] w fun e w' => e = .returned (.bool true) ∧ Below w.heap.size w w' := by
  obtain ⟨i0, hi, hz0, hz1, hz2⟩ := info_parts infoT2
  have HA : Hid (∀ W, Calls Try.prog 6 #[] W fun e w' => e = .returned (.bool true) ∧ Below W.heap.size W w') := fun W => alive_any W
  have HL : Hid (∀ W, Below w.heap.size w W → Calls Try.prog 5 #[.slice a n c] W fun e w' => e = .returned (.bool (longL l)) ∧ Below W.heap.size W w') := fun W hB => long_any a n c w.heap.size l W hB.size hn (hw.below hB)
  have HL2 : Hid (∀ W, Below w.heap.size w W → Calls Try.prog 5 #[.slice a2 n2 c2] W fun e w' => e = .returned (.bool (longL l2)) ∧ Below W.heap.size W w') := fun W hB => long_any a2 n2 c2 w.heap.size l2 W hB.size hn2 (hw2.below hB)
  have HW : Hid (n = l.length ∧ Acts w.heap.size w (.slice a n c) l) := ⟨hw.len, hw⟩
  have HW2 : Hid (n2 = l2.length ∧ Acts w.heap.size w (.slice a2 n2 c2) l2) := ⟨hw2.len, hw2⟩
  clear hw hw2
  by_cases hbad : room < 0 ∨ 1048576 < room
  · have HN : Hid (∀ W, Calls Try.prog 4 #[.int .i64 room] W fun e w' => e = .returned (.tuple #[.pointer none, .int .i64 1]) ∧ W = w') := fun W => (new_bad room W hbad).mono fun e w' h => ⟨h.1, h.2.symm⟩
    clear hbad
    go_enter Try.func3, Try.ntmps3
    go_wp2_with fail
    refine (HN.out _).mono ?_
    rintro e w' ⟨rfl, rfl⟩
    go_wp2_with fail
    refine (HA.out _).mono ?_
    rintro e w2 ⟨rfl, hb2⟩
    go_wp2
    go_ret
    exact ⟨rfl, hb2⟩
  have HN : Hid (∀ W, Calls Try.prog 4 #[.int .i64 room] W fun e w' => ∃ b m, e = .returned (.tuple #[ptr b, .int .i64 0]) ∧ Store W.heap.size b m (.slice none 0 0) (St.new room) w' ∧ Below W.heap.size W w') := fun W => (new_any room W (by omega) (by omega)).mono fun e w' ⟨b, h1, h2, h3⟩ => ⟨b, _, h1, h2, h3⟩
  clear hbad
  cases hlong : longL l with
  | true =>
    rw [hlong] at HL
    go_enter Try.func3, Try.ntmps3
    go_wp2_with fail
    refine (HN.out _).mono ?_
    rintro e w1 ⟨b, m, rfl, -, hb1⟩
    go_wp2_with fail
    refine (HL.out _ hb1).mono ?_
    rintro e w2 ⟨rfl, hb2⟩
    have hbb2 := hb1.trans (hb2.mono hb1.size)
    clear hb2 hb1
    go_wp2_with fail
    refine (HA.out _).mono ?_
    rintro e w3 ⟨rfl, hb3⟩
    have hbb3 := hbb2.trans (hb3.mono hbb2.size)
    clear hb3 hbb2
    go_wp2
    go_ret
    exact ⟨rfl, hbb3⟩
  | false =>
  rw [hlong] at HL
  cases hlong2 : longL l2 with
  | true =>
    rw [hlong2] at HL2
    go_enter Try.func3, Try.ntmps3
    go_wp2_with fail
    refine (HN.out _).mono ?_
    rintro e w1 ⟨b, m, rfl, -, hb1⟩
    go_wp2_with fail
    refine (HL.out _ hb1).mono ?_
    rintro e w2 ⟨rfl, hb2⟩
    have hbb2 := hb1.trans (hb2.mono hb1.size)
    clear hb2 hb1
    go_wp2_with fail
    refine (HL2.out _ hbb2).mono ?_
    rintro e w3 ⟨rfl, hb3⟩
    have hbb3 := hbb2.trans (hb3.mono hbb2.size)
    clear hb3 hbb2
    go_wp2_with fail
    refine (HA.out _).mono ?_
    rintro e w4 ⟨rfl, hb4⟩
    have hbb4 := hbb3.trans (hb4.mono hbb3.size)
    clear hb4 hbb3
    go_wp2
    go_ret
    exact ⟨rfl, hbb4⟩
  | false =>
  rw [hlong2] at HL2
  have hnn : n ≤ 600 := by have := (longL_no hlong).1; rw [HW.out.1]; exact this
  have hnn2 : n2 ≤ 600 := by have := (longL_no hlong2).1; rw [HW2.out.1]; exact this
  have HD : Hid (∀ b m v j, (hj : j < l.length) → ∀ W, Store w.heap.size b m v ((St.new room).run (l.take j)) W → Calls Try.prog 7 #[ptr b, .agg #[.int .u8 l[j].kind, .string l[j].p, .string l[j].q, .string l[j].t, .int .i64 l[j].n]] W fun e w' => (∃ r, e = .returned (.int .i64 r)) ∧ ∃ v', Store w.heap.size b m v' ((St.new room).run (l.take (j + 1))) w' ∧ Turn b m v v' W w') := fun b m v j hj W hW => round_any hlong hf (by show (0 : Int) ≤ _; decide) j hj W hW
  have hrun := run_now (St.new room) l
  have hrl := (longL_no hlong).1
  obtain ⟨s1, hs1⟩ : ∃ s1, s1 = (St.new room).run l := ⟨_, rfl⟩
  have hs1n : s1.now ≤ 700000000000000000 := by
    rw [hs1]
    have : (St.new room).now = 0 := rfl
    omega
  obtain ⟨s2, hs2⟩ : ∃ s2, s2 = s1.tell true := ⟨_, rfl⟩
  have hs2n : s2.now ≤ 700000000000000000 := by rw [hs2]; exact hs1n
  obtain ⟨N, hN⟩ : ∃ N, N = min n2 300 := ⟨_, rfl⟩
  have hN3 : N ≤ 300 := by omega
  have hNn : N ≤ n2 := by omega
  have hNc : (N : Int) ≤ (c2 : Int) := by omega
  have hmin : min (n2 : Int) 300 = (N : Int) := by omega
  have HOK : Hid (∀ j, j ≤ N → NOk s2.now j (runN s2 (l2.take j))) := fun j hj => runN_ok s2 l2 (by rw [hs2]; rfl) (by rw [hs2]; rfl) j (by rw [← HW2.out.1]; omega) (by omega)
  have HRN : Hid (∀ j, (hj : j < l2.length) → runN s2 (l2.take (j + 1)) = stepN (runN s2 (l2.take j)) l2[j]) := fun j hj => runN_succ s2 l2 j hj
  have HF2 : Hid (∀ j, (hj : j < l2.length) → l2[j].Ok ∧ l2[j].p.size ≤ 3000 ∧ l2[j].q.size ≤ 3000 ∧ l2[j].t.size ≤ 140737488355328) := fun j hj => by
    have h1 := hf2 _ (List.getElem_mem hj)
    have h2 := (longL_no hlong2).2 _ (List.getElem_mem hj)
    exact ⟨h1.1, h2.1, h2.2, h1.2⟩
  have HS1 : Hid (s1 = (St.new room).run l ∧ s2 = s1.tell true) := ⟨hs1, hs2⟩
  clear hs1 hs2 hrun hrl hf hf2 hlong hlong2 hN
  go_enter Try.func3, Try.ntmps3
  go_wp2_with fail
  refine (HN.out _).mono ?_
  rintro e w1 ⟨b, m, rfl, hst1, hb1⟩
  have HT1 : Hid (Store w.heap.size b m (.slice none 0 0) (St.new room) w1) := hst1
  clear hst1
  go_wp2_with fail
  refine (HL.out _ hb1).mono ?_
  rintro e w2 ⟨rfl, hb2⟩
  have hbb2 := hb1.trans (hb2.mono hb1.size)
  have HT2 : Hid (Store w.heap.size b m (.slice none 0 0) (St.new room) w2) := HT1.out.below hb2
  clear hb2 hb1 HT1
  go_wp2_with fail
  refine (HL2.out _ hbb2).mono ?_
  rintro e w3 ⟨rfl, hb3⟩
  have hbb3 := hbb2.trans (hb3.mono hbb2.size)
  have HT3 : Hid (Store w.heap.size b m (.slice none 0 0) (St.new room) w3) := HT2.out.below hb3
  clear hb3 hbb2 HT2
  go_wp2_with fail
  refine (HA.out _).mono ?_
  rintro e w4 ⟨rfl, hb4⟩
  have HT4 : Hid (Store w.heap.size b m (.slice none 0 0) (St.new room) w4 ∧ Below w.heap.size w w4) := ⟨HT3.out.below hb4, hbb3.trans (hb4.mono hbb3.size)⟩
  clear hb4 hbb3 HT3 HA HL HL2
  go_wp2
  go_loopw [47] (fun vi wr => ∃ (j : Nat) (v : Value), j ≤ n ∧ vi = .int .i64 j ∧ Store w.heap.size b m v ((St.new room).run (l.take j)) wr ∧ Below w.heap.size w wr)
    (fun vi _ => n - (intOf vi).toNat)
  case atStart => exact ⟨0, _, Nat.zero_le _, rfl, HT4.out.1, HT4.out.2⟩
  case round =>
    obtain ⟨j, v, hj, rfl, hst, hb⟩ := hrel
    clear HT4
    by_cases hlt : j < n
    · have hjl : j < l.length := by rw [← HW.out.1]; exact hlt
      have hil : (j : Int) < (n : Int) := by omega
      obtain ⟨g, o, rfl, x0, x1, x2, x3, x4⟩ := acts_here HW.out.2 hb j hjl
      have HDj : Hid (∀ W, Below wr.heap.size wr W → Calls Try.prog 7 #[ptr b, .agg #[.int .u8 l[j].kind, .string l[j].p, .string l[j].q, .string l[j].t, .int .i64 l[j].n]] W fun e w' => (∃ r, e = .returned (.int .i64 r)) ∧ ∃ v', Store w.heap.size b m v' ((St.new room).run (l.take (j + 1))) w' ∧ Below w.heap.size w w') := fun W hB => by
        refine (HD.out b m v j hjl W (hst.below hB)).mono ?_
        rintro e w' ⟨he, v', hst', ht'⟩
        refine ⟨he, v', hst', (hb.trans (hB.mono hst.sized)).trans ((hst.below hB).low ht')⟩
      obtain ⟨x, hxe⟩ : ∃ x, x = l[j] := ⟨_, rfl⟩
      rw [← hxe] at x0 x1 x2 x3 x4 HDj
      obtain ⟨kd, xp, xq, xt, xn⟩ := x
      simp only at x0 x1 x2 x3 x4 HDj
      clear hxe hst
      go_wp2_with fail
      refine (HDj.out _ ((Below.refl _ _).alloc (Nat.le_refl _) _)).mono ?_
      rintro e w5 ⟨⟨r5, rfl⟩, v5, hst5, hb5⟩
      have HE : Hid (Store w.heap.size b m v5 ((St.new room).run (l.take (j + 1))) w5 ∧ Below w.heap.size w w5) := ⟨hst5, hb5⟩
      clear hst5 hb5 x0 x1 x2 x3 x4 HDj
      go_wp2
      go_roundw
      case rel => exact ⟨j + 1, v5, by omega, by go_num, HE.out.1, HE.out.2⟩
      case measure => simp [intOf]; omega
    · obtain rfl : j = n := by omega
      have hstl : Store w.heap.size b m v s1 wr := by
        have := hst
        rw [HW.out.1, List.take_length, ← HS1.out.1] at this; exact this
      have HNt : Hid (Calls Try.prog 8 #[ptr b, .bool true] wr fun e w' => (∃ x, e = .returned x) ∧ NR w.heap.size b m w (s2, []) (.slice none 0 0) w') := by
        refine (notes_any true wr hstl).mono ?_
        rintro e w' ⟨rfl, h1, _, h3⟩
        refine ⟨⟨_, rfl⟩, .slice none 0 0, ⟨by rw [HS1.out.2]; exact h1, World.ownsRow_nil _ _ _ _, fun g hg => by cases hg⟩, hb.trans (hstl.low h3)⟩
      clear hst hstl hb HW HD HS1
      go_wp2_with fail
      refine HNt.out.mono ?_
      rintro e w5 ⟨⟨x5, rfl⟩, hnr5⟩
      have HR5 : Hid (NR w.heap.size b m w (s2, []) (.slice none 0 0) w5) := hnr5
      clear hnr5 HNt
      go_wp2
      go_loopw [11, 63] (fun u vi wr => ∃ j : Nat, j ≤ N ∧ vi = .int .i64 j ∧ NR w.heap.size b m w (runN s2 (l2.take j)) u wr)
        (fun _ vi _ => N - (intOf vi).toNat)
      case atStart => exact ⟨0, Nat.zero_le _, rfl, HR5.out⟩
      case round =>
        obtain ⟨j, hj, rfl, hnr⟩ := hrel
        clear HR5
        have hok := HOK.out j hj
        obtain ⟨v, hns, hbel⟩ := hnr
        by_cases hlt : j < N
        · have hjl : j < l2.length := by rw [← HW2.out.1]; omega
          have hil : (j : Int) < (N : Int) := by omega
          obtain ⟨g, o, rfl, x0, x1, x2, x3, x4⟩ := acts_here HW2.out.2 hbel j hjl
          have HX := HRN.out j hjl
          have hfx := HF2.out j hjl
          obtain ⟨x, hxe⟩ : ∃ x, x = l2[j] := ⟨_, rfl⟩
          obtain ⟨X, hXe⟩ : ∃ X, X = runN s2 (l2.take j) := ⟨_, rfl⟩
          rw [← hxe] at x0 x1 x2 x3 x4 HX hfx
          rw [← hXe] at HX hok hns
          clear hxe hXe
          obtain ⟨kd, xp, xq, xt, xn⟩ := x
          simp only at x0 x1 x2 x3 x4
          have hk0 : (0 : Int) ≤ kd := hfx.1.k0
          have hk1 : kd ≤ 255 := hfx.1.k1
          have hxp : xp.size ≤ 3000 := hfx.2.1
          have hxq : xq.size ≤ 3000 := hfx.2.2.1
          obtain ⟨pp, hpp⟩ : ∃ pp, pp = pOf xp := ⟨_, rfl⟩
          obtain ⟨pq, hpq⟩ : ∃ pq, pq = pOf xq := ⟨_, rfl⟩
          have HWp : Hid (∀ W, Calls Try.prog 9 #[.string xp] W fun e w' => ∃ f, e = .returned (.tuple #[.string pp, .bool f]) ∧ Below W.heap.size W w') := fun W => by
            have := where_any xp W (by omega)
            rw [where_t] at this
            rw [hpp]
            exact this.mono fun e w' h => ⟨_, h⟩
          have HWq : Hid (∀ W, Calls Try.prog 9 #[.string xq] W fun e w' => ∃ f, e = .returned (.tuple #[.string pq, .bool f]) ∧ Below W.heap.size W w') := fun W => by
            have := where_any xq W (by omega)
            rw [where_t] at this
            rw [hpq]
            exact this.mono fun e w' h => ⟨_, h⟩
          obtain ⟨dr, hdr⟩ : ∃ dr, dr = (X.1.stat xp).2.1 := ⟨_, rfl⟩
          have HSt : Hid (∀ W, Below wr.heap.size wr W → Calls Try.prog 10 #[ptr b, .string xp] W fun e w' => ∃ t z, e = .returned (.tuple #[.int .i64 t, .bool dr, .int .i64 z]) ∧ Below W.heap.size W w') := fun W hB => by
            rw [hdr]
            exact (stat_any xp W (hns.st.below hB) (by omega)).mono fun e w' h => ⟨_, _, h⟩
          obtain ⟨r, hr⟩ : ∃ r, r = (X.1.act ⟨kd, xp, xq, xt, xn⟩).2 := ⟨_, rfl⟩
          obtain ⟨s3, hs3⟩ : ∃ s3, s3 = (X.1.act ⟨kd, xp, xq, xt, xn⟩).1 := ⟨_, rfl⟩
          obtain ⟨WA, hWA⟩ : ∃ WA, WA = wr.alloc (.cells #[.int .u8 kd, .string xp, .string xq, .string xt, .int .i64 xn] 30) := ⟨_, rfl⟩
          have hsA : WA.heap.size = wr.heap.size + 1 := by rw [hWA]; simp
          have HC : Hid (∀ W, Below (wr.heap.size + 1) WA W → Below wr.heap.size wr W ∧ W.heap[wr.heap.size]? = some (.cells #[.int .u8 kd, .string xp, .string xq, .string xt, .int .i64 xn] 30 (0, 0))) := fun W hB => by
            refine ⟨((Below.refl _ wr).alloc (Nat.le_refl _) (.cells #[.int .u8 kd, .string xp, .string xq, .string xt, .int .i64 xn] 30)).trans (hWA ▸ hB.mono (by omega)), ?_⟩
            rw [hB.block wr.heap.size (by omega), hWA]; exact heap_alloc_new wr _
          have HDo : Hid (∀ W, Below (wr.heap.size + 1) WA W → Calls Try.prog 7 #[ptr b, .agg #[.int .u8 kd, .string xp, .string xq, .string xt, .int .i64 xn]] W fun e w' => e = .returned (.int .i64 r) ∧ w'.cell? ⟨wr.heap.size, 0, none⟩ = some (.int .u8 kd) ∧ ∃ v', NS w.heap.size b m v' s3 u11 X.2 w' ∧ Below w.heap.size w w') := fun W hB => by
            obtain ⟨hB1, hB2⟩ := HC.out W hB
            have hS := hns.below hB1
            rw [hr, hs3]
            refine (does_any ⟨kd, xp, xq, xt, xn⟩ W hS.st hfx.1 (by show xp.size ≤ _; omega) (by show xq.size ≤ _; omega) hfx.2.2.2 (by have := hok.now; omega)).mono ?_
            rintro e w' ⟨rfl, v', hst', ht'⟩
            refine ⟨rfl, ?_, v', hS.turn hst' ht', (hbel.trans (hB1.mono hns.st.sized)).trans (hS.st.low ht')⟩
            have hlt := (Array.getElem?_eq_some_iff.1 hB2).1
            refine cell_in ((ht'.block wr.heap.size hlt (fun e => ?_) (fun e => ?_) (fun e => ?_)).trans hB2) 0 rfl
            · have := hns.st.lt; omega
            · have := hns.st.ltm; omega
            · have := (hns.st.ltv _ e).2; omega
          have hlen := hok.len
          obtain ⟨n1, hul⟩ : ∃ n1, X.2.length = n1 := ⟨_, rfl⟩
          rw [hul] at hlen
          have HP : Hid (pp = pOf xp ∧ pq = pOf xq ∧ dr = (X.1.stat xp).2.1 ∧ r = (X.1.act ⟨kd, xp, xq, xt, xn⟩).2 ∧ s3 = (X.1.act ⟨kd, xp, xq, xt, xn⟩).1) := ⟨hpp, hpq, hdr, hr, hs3⟩
          have HX1 : Hid (runN s2 (l2.take (j + 1)) = stepN X ⟨kd, xp, xq, xt, xn⟩) := HX
          have HB0 : Hid (Below (wr.heap.size + 1) WA WA) := Below.refl _ _
          have hNS0 : Hid (NS w.heap.size b m v X.1 u11 X.2 wr ∧ Below w.heap.size w wr) := ⟨hns, hbel⟩
          have HWA : Hid (WA = wr.alloc (.cells #[.int .u8 kd, .string xp, .string xq, .string xt, .int .i64 xn] 30)) := hWA
          clear hpp hpq hdr hr hs3 HX hns hbel hok hfx hxp hxq hk0 hk1
          go_wp2_with fail
          rw [← hWA]
          clear hWA x0 x1 x2 x3 x4
          refine (HWp.out _).mono ?_
          rintro e w1 ⟨f1, rfl, hb1⟩
          have hbb1 : Below (wr.heap.size + 1) WA w1 := hb1.mono (by omega)
          have y2 := cell_in (HC.out w1 hbb1).2 2 rfl
          have hz1s := hbb1.size
          clear hb1
          go_wp2_with fail
          refine (HWq.out _).mono ?_
          rintro e w2 ⟨f2, rfl, hb2⟩
          have hbb2 : Below (wr.heap.size + 1) WA w2 := hbb1.trans (hb2.mono (by omega))
          have y1 := cell_in (HC.out w2 hbb2).2 1 rfl
          have hz2s := hbb2.size
          clear hb2 hbb1 y2
          go_wp2_with fail
          refine (HSt.out _ (HC.out w2 hbb2).1).mono ?_
          rintro e w3 ⟨t3, z3, rfl, hb3⟩
          have hbb3 : Below (wr.heap.size + 1) WA w3 := hbb2.trans (hb3.mono (by omega))
          have y0 := cell_in (HC.out w3 hbb3).2 0 rfl
          have yy1 := cell_in (HC.out w3 hbb3).2 1 rfl
          have yy2 := cell_in (HC.out w3 hbb3).2 2 rfl
          have yy3 := cell_in (HC.out w3 hbb3).2 3 rfl
          have yy4 := cell_in (HC.out w3 hbb3).2 4 rfl
          clear hb3 hbb2 y1
          by_cases h8 : kd.tmod 10 = 8
          · have HG : Hid (NR w.heap.size b m w (runN s2 (l2.take (j + 1))) u11 w3) := by
              have e : stepN X ⟨kd, xp, xq, xt, xn⟩ = X := by unfold stepN; rw [if_pos h8]
              rw [HX1.out, e]
              have hbw := (HC.out w3 hbb3).1
              exact ⟨v, hNS0.out.1.below hbw, hNS0.out.2.trans (hbw.mono hNS0.out.1.st.sized)⟩
            clear hbb3
            go_wp2
            go_roundw
            case rel => exact ⟨j + 1, by omega, by go_num, HG.out⟩
            case measure => simp [intOf]; omega
          · have h8i : ((kd.tmod 10 : Int) == 8) = false := by simpa using h8
            by_cases hr0 : r = 0
            · subst hr0
              have HX2a : Hid (stepN X ⟨kd, xp, xq, xt, xn⟩ = (s3, X.2 ++ wantL X.1 ⟨kd, xp, xq, xt, xn⟩)) := by
                unfold Hid stepN
                rw [if_neg h8, if_pos HP.out.2.2.2.1.symm, ← HP.out.2.2.2.2]
              by_cases k0 : kd.tmod 10 = 0
              · have HX2 : Hid (stepN X ⟨kd, xp, xq, xt, xn⟩ = (s3, X.2 ++ [(2, pp)])) := by
                  rw [HX2a.out]
                  have ew : wantL X.1 ⟨kd, xp, xq, xt, xn⟩ = [(2, pp)] := by
                    unfold wantL; dsimp only
                    rw [← HP.out.1, ← HP.out.2.1, ← HP.out.2.2.1]
                    rw [if_pos k0]
                  rw [ew]; rfl
                go_wp2_with fail
                refine (HDo.out _ hbb3).mono ?_
                rintro e w5 ⟨rfl, y5, v5, hns5, hbl5⟩
                have HN5 : Hid (NS w.heap.size b m v5 s3 u11 X.2 w5 ∧ Below w.heap.size w w5) := ⟨hns5, hbl5⟩
                have hrow : w5.ownsRow w.heap.size 39 2 u11 n1 (notesV X.2) := by rw [← hul]; exact hns5.row
                have hbs5 : w.heap.size ≤ w5.heap.size := hbl5.size
                clear hns5 hbl5 hbb3 HX2a
                go_wp2_with (at_builtin; refine wpList_append_own_at _ rfl _ _ 32 rfl w.heap.size 39 i0 (.agg #[.int .i64 0, .string ⟨#[]⟩]) 2 24 Try.underlying32 hi hz0 hz1 hz2 rfl (by decide) _ _ _ rfl (hrow.alloc _) ⟨w5.heap.size, 0, none⟩ 1 1 [.int .i64 2, .string pp] rfl rfl (by intro j u hj; match j, hj with | 0, hj => simp at hj; subst hj; simp [Addr.add] | 1, hj => simp at hj; subst hj; simp [Addr.add]) (by intro u hu; simp only [List.mem_cons, List.not_mem_nil, or_false] at hu; rcases hu with rfl | rfl <;> rfl) (by unfold maxLen; omega) (by omega) (by first | (simp; done) | (simp; omega)) ?_; intro u' w6 hown' hgrow _ hloc; have HG : Hid (NR w.heap.size b m w (stepN X ⟨kd, xp, xq, xt, xn⟩) u' w6) := (by rw [HX2.out]; exact nr_more (new := [(2, pp)]) HN5.out.1 HN5.out.2 ((Below.refl _ _).alloc (Nat.le_refl _) _) hgrow (by rw [hul]; exact hown') (fun g hg => hloc.elim (fun e => .inl (e ▸ hg)) (fun e => .inr (loc_le (e.symm.trans hg) (by first | omega | (simp; done) | (simp; omega)))))); clear hown' hgrow hloc hrow)
                go_roundw
                case rel => exact ⟨j + 1, by omega, by go_num, by rw [HX1.out]; exact Hid.out (by assumption)⟩
                case measure => simp [intOf]; omega
              by_cases k1 : kd.tmod 10 = 1
              · have HX2 : Hid (stepN X ⟨kd, xp, xq, xt, xn⟩ = (s3, X.2 ++ [(2, pp)])) := by
                  rw [HX2a.out]
                  have ew : wantL X.1 ⟨kd, xp, xq, xt, xn⟩ = [(2, pp)] := by
                    unfold wantL; dsimp only
                    rw [← HP.out.1, ← HP.out.2.1, ← HP.out.2.2.1]
                    rw [if_neg (by omega), if_pos k1]
                  rw [ew]; rfl
                go_wp2_with fail
                refine (HDo.out _ hbb3).mono ?_
                rintro e w5 ⟨rfl, y5, v5, hns5, hbl5⟩
                have HN5 : Hid (NS w.heap.size b m v5 s3 u11 X.2 w5 ∧ Below w.heap.size w w5) := ⟨hns5, hbl5⟩
                have hrow : w5.ownsRow w.heap.size 39 2 u11 n1 (notesV X.2) := by rw [← hul]; exact hns5.row
                have hbs5 : w.heap.size ≤ w5.heap.size := hbl5.size
                clear hns5 hbl5 hbb3 HX2a
                go_wp2_with (at_builtin; refine wpList_append_own_at _ rfl _ _ 32 rfl w.heap.size 39 i0 (.agg #[.int .i64 0, .string ⟨#[]⟩]) 2 24 Try.underlying32 hi hz0 hz1 hz2 rfl (by decide) _ _ _ rfl (hrow.alloc _) ⟨w5.heap.size, 0, none⟩ 1 1 [.int .i64 2, .string pp] rfl rfl (by intro j u hj; match j, hj with | 0, hj => simp at hj; subst hj; simp [Addr.add] | 1, hj => simp at hj; subst hj; simp [Addr.add]) (by intro u hu; simp only [List.mem_cons, List.not_mem_nil, or_false] at hu; rcases hu with rfl | rfl <;> rfl) (by unfold maxLen; omega) (by omega) (by first | (simp; done) | (simp; omega)) ?_; intro u' w6 hown' hgrow _ hloc; have HG : Hid (NR w.heap.size b m w (stepN X ⟨kd, xp, xq, xt, xn⟩) u' w6) := (by rw [HX2.out]; exact nr_more (new := [(2, pp)]) HN5.out.1 HN5.out.2 ((Below.refl _ _).alloc (Nat.le_refl _) _) hgrow (by rw [hul]; exact hown') (fun g hg => hloc.elim (fun e => .inl (e ▸ hg)) (fun e => .inr (loc_le (e.symm.trans hg) (by first | omega | (simp; done) | (simp; omega)))))); clear hown' hgrow hloc hrow)
                go_roundw
                case rel => exact ⟨j + 1, by omega, by go_num, by rw [HX1.out]; exact Hid.out (by assumption)⟩
                case measure => simp [intOf]; omega
              by_cases k2 : kd.tmod 10 = 2
              · have HX2 : Hid (stepN X ⟨kd, xp, xq, xt, xn⟩ = (s3, X.2 ++ [(1, pp)])) := by
                  rw [HX2a.out]
                  have ew : wantL X.1 ⟨kd, xp, xq, xt, xn⟩ = [(1, pp)] := by
                    unfold wantL; dsimp only
                    rw [← HP.out.1, ← HP.out.2.1, ← HP.out.2.2.1]
                    rw [if_neg (by omega), if_neg (by omega), if_pos k2]
                  rw [ew]; rfl
                go_wp2_with fail
                refine (HDo.out _ hbb3).mono ?_
                rintro e w5 ⟨rfl, y5, v5, hns5, hbl5⟩
                have HN5 : Hid (NS w.heap.size b m v5 s3 u11 X.2 w5 ∧ Below w.heap.size w w5) := ⟨hns5, hbl5⟩
                have hrow : w5.ownsRow w.heap.size 39 2 u11 n1 (notesV X.2) := by rw [← hul]; exact hns5.row
                have hbs5 : w.heap.size ≤ w5.heap.size := hbl5.size
                clear hns5 hbl5 hbb3 HX2a
                go_wp2_with (at_builtin; refine wpList_append_own_at _ rfl _ _ 32 rfl w.heap.size 39 i0 (.agg #[.int .i64 0, .string ⟨#[]⟩]) 2 24 Try.underlying32 hi hz0 hz1 hz2 rfl (by decide) _ _ _ rfl (hrow.alloc _) ⟨w5.heap.size, 0, none⟩ 1 1 [.int .i64 1, .string pp] rfl rfl (by intro j u hj; match j, hj with | 0, hj => simp at hj; subst hj; simp [Addr.add] | 1, hj => simp at hj; subst hj; simp [Addr.add]) (by intro u hu; simp only [List.mem_cons, List.not_mem_nil, or_false] at hu; rcases hu with rfl | rfl <;> rfl) (by unfold maxLen; omega) (by omega) (by first | (simp; done) | (simp; omega)) ?_; intro u' w6 hown' hgrow _ hloc; have HG : Hid (NR w.heap.size b m w (stepN X ⟨kd, xp, xq, xt, xn⟩) u' w6) := (by rw [HX2.out]; exact nr_more (new := [(1, pp)]) HN5.out.1 HN5.out.2 ((Below.refl _ _).alloc (Nat.le_refl _) _) hgrow (by rw [hul]; exact hown') (fun g hg => hloc.elim (fun e => .inl (e ▸ hg)) (fun e => .inr (loc_le (e.symm.trans hg) (by first | omega | (simp; done) | (simp; omega)))))); clear hown' hgrow hloc hrow)
                go_roundw
                case rel => exact ⟨j + 1, by omega, by go_num, by rw [HX1.out]; exact Hid.out (by assumption)⟩
                case measure => simp [intOf]; omega
              by_cases k3 : kd.tmod 10 = 3
              · cases dr
                · have HX2 : Hid (stepN X ⟨kd, xp, xq, xt, xn⟩ = (s3, X.2 ++ [(3, pp)])) := by
                    rw [HX2a.out]
                    have ew : wantL X.1 ⟨kd, xp, xq, xt, xn⟩ = [(3, pp)] := by
                      unfold wantL; dsimp only
                      rw [← HP.out.1, ← HP.out.2.1, ← HP.out.2.2.1]
                      rw [if_neg (by omega), if_neg (by omega), if_neg (by omega), if_pos k3]; rfl
                    rw [ew]; rfl
                  go_wp2_with fail
                  refine (HDo.out _ hbb3).mono ?_
                  rintro e w5 ⟨rfl, y5, v5, hns5, hbl5⟩
                  have HN5 : Hid (NS w.heap.size b m v5 s3 u11 X.2 w5 ∧ Below w.heap.size w w5) := ⟨hns5, hbl5⟩
                  have hrow : w5.ownsRow w.heap.size 39 2 u11 n1 (notesV X.2) := by rw [← hul]; exact hns5.row
                  have hbs5 : w.heap.size ≤ w5.heap.size := hbl5.size
                  clear hns5 hbl5 hbb3 HX2a
                  go_wp2_with (at_builtin; refine wpList_append_own_at _ rfl _ _ 32 rfl w.heap.size 39 i0 (.agg #[.int .i64 0, .string ⟨#[]⟩]) 2 24 Try.underlying32 hi hz0 hz1 hz2 rfl (by decide) _ _ _ rfl (hrow.alloc _) ⟨w5.heap.size, 0, none⟩ 1 1 [.int .i64 3, .string pp] rfl rfl (by intro j u hj; match j, hj with | 0, hj => simp at hj; subst hj; simp [Addr.add] | 1, hj => simp at hj; subst hj; simp [Addr.add]) (by intro u hu; simp only [List.mem_cons, List.not_mem_nil, or_false] at hu; rcases hu with rfl | rfl <;> rfl) (by unfold maxLen; omega) (by omega) (by first | (simp; done) | (simp; omega)) ?_; intro u' w6 hown' hgrow _ hloc; have HG : Hid (NR w.heap.size b m w (stepN X ⟨kd, xp, xq, xt, xn⟩) u' w6) := (by rw [HX2.out]; exact nr_more (new := [(3, pp)]) HN5.out.1 HN5.out.2 ((Below.refl _ _).alloc (Nat.le_refl _) _) hgrow (by rw [hul]; exact hown') (fun g hg => hloc.elim (fun e => .inl (e ▸ hg)) (fun e => .inr (loc_le (e.symm.trans hg) (by first | omega | (simp; done) | (simp; omega)))))); clear hown' hgrow hloc hrow)
                  go_roundw
                  case rel => exact ⟨j + 1, by omega, by go_num, by rw [HX1.out]; exact Hid.out (by assumption)⟩
                  case measure => simp [intOf]; omega
                · have HX2 : Hid (stepN X ⟨kd, xp, xq, xt, xn⟩ = (s3, X.2 ++ [])) := by
                    rw [HX2a.out]
                    have ew : wantL X.1 ⟨kd, xp, xq, xt, xn⟩ = [] := by
                      unfold wantL; dsimp only
                      rw [← HP.out.1, ← HP.out.2.1, ← HP.out.2.2.1]
                      rw [if_neg (by omega), if_neg (by omega), if_neg (by omega), if_pos k3]; rfl
                    rw [ew]; rfl
                  go_wp2_with fail
                  refine (HDo.out _ hbb3).mono ?_
                  rintro e w5 ⟨rfl, y5, v5, hns5, hbl5⟩
                  have HN5 : Hid (NS w.heap.size b m v5 s3 u11 X.2 w5 ∧ Below w.heap.size w w5) := ⟨hns5, hbl5⟩
                  have HG : Hid (NR w.heap.size b m w (runN s2 (l2.take (j + 1))) u11 w5) := by
                    rw [HX1.out, HX2.out, List.append_nil]
                    exact ⟨v5, hns5, hbl5⟩
                  clear hns5 hbl5 hbb3 HX2a
                  go_wp2
                  go_roundw
                  case rel => exact ⟨j + 1, by omega, by go_num, HG.out⟩
                  case measure => simp [intOf]; omega
              by_cases k4 : kd.tmod 10 = 4
              · by_cases hpe : pp = pq
                · subst hpe
                  have HX2 : Hid (stepN X ⟨kd, xp, xq, xt, xn⟩ = (s3, X.2 ++ [])) := by
                    rw [HX2a.out]
                    have ew : wantL X.1 ⟨kd, xp, xq, xt, xn⟩ = [] := by
                      unfold wantL; dsimp only
                      rw [← HP.out.1, ← HP.out.2.1, ← HP.out.2.2.1]
                      rw [if_neg (by omega), if_neg (by omega), if_neg (by omega), if_neg (by omega), if_pos k4]; rw [if_pos rfl]
                    rw [ew]; rfl
                  go_wp2_with fail
                  refine (HDo.out _ hbb3).mono ?_
                  rintro e w5 ⟨rfl, y5, v5, hns5, hbl5⟩
                  have HN5 : Hid (NS w.heap.size b m v5 s3 u11 X.2 w5 ∧ Below w.heap.size w w5) := ⟨hns5, hbl5⟩
                  have HG : Hid (NR w.heap.size b m w (runN s2 (l2.take (j + 1))) u11 w5) := by
                    rw [HX1.out, HX2.out, List.append_nil]
                    exact ⟨v5, hns5, hbl5⟩
                  clear hns5 hbl5 hbb3 HX2a
                  go_wp2
                  go_roundw
                  case rel => exact ⟨j + 1, by omega, by go_num, HG.out⟩
                  case measure => simp [intOf]; omega
                · have t0 : ¬ pp.toList = pq.toList := fun e => hpe (bl_inj (by unfold bl; rw [← Lib.toList_data, ← Lib.toList_data]; exact e))
                  have t1 : (pp.toList == pq.toList) = false := by simpa using t0
                  have HX2 : Hid (stepN X ⟨kd, xp, xq, xt, xn⟩ = (s3, X.2 ++ [(3, pp), (2, pq)])) := by
                    rw [HX2a.out]
                    have ew : wantL X.1 ⟨kd, xp, xq, xt, xn⟩ = [(3, pp), (2, pq)] := by
                      unfold wantL; dsimp only
                      rw [← HP.out.1, ← HP.out.2.1, ← HP.out.2.2.1]
                      rw [if_neg (by omega), if_neg (by omega), if_neg (by omega), if_neg (by omega), if_pos k4]; rw [if_neg hpe]
                    rw [ew]; rfl
                  go_wp2_with fail
                  refine (HDo.out _ hbb3).mono ?_
                  rintro e w5 ⟨rfl, y5, v5, hns5, hbl5⟩
                  have HN5 : Hid (NS w.heap.size b m v5 s3 u11 X.2 w5 ∧ Below w.heap.size w w5) := ⟨hns5, hbl5⟩
                  have hrow : w5.ownsRow w.heap.size 39 2 u11 n1 (notesV X.2) := by rw [← hul]; exact hns5.row
                  have hbs5 : w.heap.size ≤ w5.heap.size := hbl5.size
                  clear hns5 hbl5 hbb3 HX2a
                  go_wp2_with (at_builtin; refine wpList_append_own_at _ rfl _ _ 32 rfl w.heap.size 39 i0 (.agg #[.int .i64 0, .string ⟨#[]⟩]) 2 24 Try.underlying32 hi hz0 hz1 hz2 rfl (by decide) _ _ _ rfl (hrow.alloc _) ⟨w5.heap.size, 0, none⟩ 2 2 [.int .i64 3, .string pp, .int .i64 2, .string pq] rfl rfl (by intro j u hj; match j, hj with | 0, hj => simp at hj; subst hj; simp [Addr.add] | 1, hj => simp at hj; subst hj; simp [Addr.add] | 2, hj => simp at hj; subst hj; simp [Addr.add] | 3, hj => simp at hj; subst hj; simp [Addr.add]) (by intro u hu; simp only [List.mem_cons, List.not_mem_nil, or_false] at hu; rcases hu with rfl | rfl | rfl | rfl <;> rfl) (by unfold maxLen; omega) (by omega) (by first | (simp; done) | (simp; omega)) ?_; intro u' w6 hown' hgrow _ hloc; have HG : Hid (NR w.heap.size b m w (stepN X ⟨kd, xp, xq, xt, xn⟩) u' w6) := (by rw [HX2.out]; exact nr_more (new := [(3, pp), (2, pq)]) HN5.out.1 HN5.out.2 ((Below.refl _ _).alloc (Nat.le_refl _) _) hgrow (by rw [hul]; exact hown') (fun g hg => hloc.elim (fun e => .inl (e ▸ hg)) (fun e => .inr (loc_le (e.symm.trans hg) (by first | omega | (simp; done) | (simp; omega)))))); clear hown' hgrow hloc hrow)
                  go_roundw
                  case rel => exact ⟨j + 1, by omega, by go_num, by rw [HX1.out]; exact Hid.out (by assumption)⟩
                  case measure => simp [intOf]; omega
              by_cases k6 : kd.tmod 10 = 6
              · cases dr
                · have HX2 : Hid (stepN X ⟨kd, xp, xq, xt, xn⟩ = (s3, X.2 ++ [(2, pp)])) := by
                    rw [HX2a.out]
                    have ew : wantL X.1 ⟨kd, xp, xq, xt, xn⟩ = [(2, pp)] := by
                      unfold wantL; dsimp only
                      rw [← HP.out.1, ← HP.out.2.1, ← HP.out.2.2.1]
                      rw [if_neg (by omega), if_neg (by omega), if_neg (by omega), if_neg (by omega), if_neg (by omega), if_pos k6]; rfl
                    rw [ew]; rfl
                  go_wp2_with fail
                  refine (HDo.out _ hbb3).mono ?_
                  rintro e w5 ⟨rfl, y5, v5, hns5, hbl5⟩
                  have HN5 : Hid (NS w.heap.size b m v5 s3 u11 X.2 w5 ∧ Below w.heap.size w w5) := ⟨hns5, hbl5⟩
                  have hrow : w5.ownsRow w.heap.size 39 2 u11 n1 (notesV X.2) := by rw [← hul]; exact hns5.row
                  have hbs5 : w.heap.size ≤ w5.heap.size := hbl5.size
                  clear hns5 hbl5 hbb3 HX2a
                  go_wp2_with (at_builtin; refine wpList_append_own_at _ rfl _ _ 32 rfl w.heap.size 39 i0 (.agg #[.int .i64 0, .string ⟨#[]⟩]) 2 24 Try.underlying32 hi hz0 hz1 hz2 rfl (by decide) _ _ _ rfl (hrow.alloc _) ⟨w5.heap.size, 0, none⟩ 1 1 [.int .i64 2, .string pp] rfl rfl (by intro j u hj; match j, hj with | 0, hj => simp at hj; subst hj; simp [Addr.add] | 1, hj => simp at hj; subst hj; simp [Addr.add]) (by intro u hu; simp only [List.mem_cons, List.not_mem_nil, or_false] at hu; rcases hu with rfl | rfl <;> rfl) (by unfold maxLen; omega) (by omega) (by first | (simp; done) | (simp; omega)) ?_; intro u' w6 hown' hgrow _ hloc; have HG : Hid (NR w.heap.size b m w (stepN X ⟨kd, xp, xq, xt, xn⟩) u' w6) := (by rw [HX2.out]; exact nr_more (new := [(2, pp)]) HN5.out.1 HN5.out.2 ((Below.refl _ _).alloc (Nat.le_refl _) _) hgrow (by rw [hul]; exact hown') (fun g hg => hloc.elim (fun e => .inl (e ▸ hg)) (fun e => .inr (loc_le (e.symm.trans hg) (by first | omega | (simp; done) | (simp; omega)))))); clear hown' hgrow hloc hrow)
                  go_roundw
                  case rel => exact ⟨j + 1, by omega, by go_num, by rw [HX1.out]; exact Hid.out (by assumption)⟩
                  case measure => simp [intOf]; omega
                · have HX2 : Hid (stepN X ⟨kd, xp, xq, xt, xn⟩ = (s3, X.2 ++ [])) := by
                    rw [HX2a.out]
                    have ew : wantL X.1 ⟨kd, xp, xq, xt, xn⟩ = [] := by
                      unfold wantL; dsimp only
                      rw [← HP.out.1, ← HP.out.2.1, ← HP.out.2.2.1]
                      rw [if_neg (by omega), if_neg (by omega), if_neg (by omega), if_neg (by omega), if_neg (by omega), if_pos k6]; rfl
                    rw [ew]; rfl
                  go_wp2_with fail
                  refine (HDo.out _ hbb3).mono ?_
                  rintro e w5 ⟨rfl, y5, v5, hns5, hbl5⟩
                  have HN5 : Hid (NS w.heap.size b m v5 s3 u11 X.2 w5 ∧ Below w.heap.size w w5) := ⟨hns5, hbl5⟩
                  have HG : Hid (NR w.heap.size b m w (runN s2 (l2.take (j + 1))) u11 w5) := by
                    rw [HX1.out, HX2.out, List.append_nil]
                    exact ⟨v5, hns5, hbl5⟩
                  clear hns5 hbl5 hbb3 HX2a
                  go_wp2
                  go_roundw
                  case rel => exact ⟨j + 1, by omega, by go_num, HG.out⟩
                  case measure => simp [intOf]; omega
              have t0 : ((kd.tmod 10 : Int) == 0) = false := by simpa using k0
              have t1 : ((kd.tmod 10 : Int) == 1) = false := by simpa using k1
              have t2 : ((kd.tmod 10 : Int) == 2) = false := by simpa using k2
              have t3 : ((kd.tmod 10 : Int) == 3) = false := by simpa using k3
              have t4 : ((kd.tmod 10 : Int) == 4) = false := by simpa using k4
              have t6 : ((kd.tmod 10 : Int) == 6) = false := by simpa using k6
              have HX2 : Hid (stepN X ⟨kd, xp, xq, xt, xn⟩ = (s3, X.2 ++ [])) := by
                rw [HX2a.out]
                have ew : wantL X.1 ⟨kd, xp, xq, xt, xn⟩ = [] := by
                  unfold wantL; dsimp only
                  rw [← HP.out.1, ← HP.out.2.1, ← HP.out.2.2.1]
                  rw [if_neg (by omega), if_neg (by omega), if_neg (by omega), if_neg (by omega), if_neg (by omega), if_neg (by omega)]
                rw [ew]; rfl
              go_wp2_with fail
              refine (HDo.out _ hbb3).mono ?_
              rintro e w5 ⟨rfl, y5, v5, hns5, hbl5⟩
              have HN5 : Hid (NS w.heap.size b m v5 s3 u11 X.2 w5 ∧ Below w.heap.size w w5) := ⟨hns5, hbl5⟩
              have HG : Hid (NR w.heap.size b m w (runN s2 (l2.take (j + 1))) u11 w5) := by
                rw [HX1.out, HX2.out, List.append_nil]
                exact ⟨v5, hns5, hbl5⟩
              clear hns5 hbl5 hbb3 HX2a
              go_wp2
              go_roundw
              case rel => exact ⟨j + 1, by omega, by go_num, HG.out⟩
              case measure => simp [intOf]; omega
            · have hr0' : (r != 0) = true := by simpa using hr0
              have HX2 : Hid (runN s2 (l2.take (j + 1)) = X ∧ s3 = X.1) := by
                have h1 : (X.1.act ⟨kd, xp, xq, xt, xn⟩).2 ≠ 0 := by rw [← HP.out.2.2.2.1]; exact hr0
                refine ⟨?_, by rw [HP.out.2.2.2.2]; exact act_refused X.1 _ h1⟩
                rw [HX1.out]; unfold stepN; rw [if_neg h8, if_neg h1]
              go_wp2_with fail
              refine (HDo.out _ hbb3).mono ?_
              rintro e w5 ⟨rfl, y5, v5, hns5, hbl5⟩
              have HG : Hid (NR w.heap.size b m w (runN s2 (l2.take (j + 1))) u11 w5) := by
                rw [HX2.out.1]
                rw [HX2.out.2] at hns5
                exact ⟨v5, hns5, hbl5⟩
              clear hns5 hbl5 hbb3
              go_wp2
              go_roundw
              case rel => exact ⟨j + 1, by omega, by go_num, HG.out⟩
              case measure => simp [intOf]; omega
        · obtain rfl : j = N := by omega
          obtain ⟨X, hXe⟩ : ∃ X, X = runN s2 (l2.take j) := ⟨_, rfl⟩
          rw [← hXe] at hok hns
          clear hXe
          have hlen := hok.len
          have HT : Hid (∀ v1 B1 W, W.ownsRow B1 39 2 v1 X.2.length (notesV X.2) → W.ownsRow w.heap.size 39 2 u11 X.2.length (notesV X.2) → Calls Try.prog 11 #[v1, u11] W fun e w' => e = .returned (.bool true) ∧ Below W.heap.size W w') := fun v1 B1 W h1 h2 => touches_any X.2 v1 u11 B1 w.heap.size W (by omega) h1 h2
          have HN1 : Hid (Calls Try.prog 8 #[ptr b, .bool false] wr fun e w' => e = .returned v ∧ NS w.heap.size b m (.slice none 0 0) (X.1.tell false) u11 X.2 w' ∧ w'.ownsRow w.heap.size 39 2 v X.2.length (notesV X.2) ∧ Below w.heap.size w w') := by
            refine (notes_any false wr hns.st).mono ?_
            rintro e w' ⟨rfl, h1, h2, h3⟩
            rw [hok.notes] at h2
            exact ⟨rfl, hns.turn h1 h3, h2, hbel.trans (hns.st.low h3)⟩
          have HN2 : Hid (∀ W, Store w.heap.size b m (.slice none 0 0) (X.1.tell false) W → Calls Try.prog 8 #[ptr b, .bool false] W fun e w' => e = .returned (.slice none 0 0) ∧ Below w.heap.size W w') := fun W hS => by
            refine (notes_any false W hS).mono ?_
            rintro e w' ⟨rfl, h1, h2, h3⟩
            exact ⟨rfl, hS.low h3⟩
          clear hns hbel hok hlen
          go_wp2_with fail
          refine HN1.out.mono ?_
          rintro e w6 ⟨rfl, hns6, hrow6, hbl6⟩
          have HS6 : Hid (NS w.heap.size b m (.slice none 0 0) (X.1.tell false) u11 X.2 w6 ∧ w6.ownsRow w.heap.size 39 2 v X.2.length (notesV X.2) ∧ Below w.heap.size w w6) := ⟨hns6, hrow6, hbl6⟩
          clear hns6 hrow6 hbl6 HN1
          go_wp2_with fail
          refine (HT.out _ _ _ HS6.out.2.1 HS6.out.1.row).mono ?_
          rintro e w7 ⟨rfl, hb7⟩
          have HS7 : Hid (Store w.heap.size b m (.slice none 0 0) (X.1.tell false) w7 ∧ Below w.heap.size w w7) := ⟨HS6.out.1.st.below hb7, HS6.out.2.2.trans (hb7.mono HS6.out.2.2.size)⟩
          clear hb7 HS6
          go_wp2_with fail
          refine (HN2.out _ HS7.out.1).mono ?_
          rintro e w8 ⟨rfl, hb8⟩
          have hbb := HS7.out.2.trans hb8
          clear hb8 HS7
          go_wp2
          go_ret
          exact ⟨rfl, hbb⟩
end Go.Proofs.Ytoibdokedhbjpab
