/-
  VarsPlays at every script and name.
-/
import Derived.Test.YtjbmmeneejcpbaaVP9
import Derived.Test.YtjbmmeneejcpbaaVApart
namespace Go.Proofs.Ytjbmmeneejcpbaa
open Go.RowKit Go.Shelf Go.Maps

/-- The program's set and the document's side by side. -/
structure Side (B : Nat) (M : Int → Nat) (br : Nat) (s s' : VS) (w W : World) : Prop where
  prog : VSet B B M s W
  doc : ∃ vL L, RSet B br vL L W ∧ Rel L s'
  low : Below B w W
section
variable {B br : Nat} {M : Int → Nat} {s s' : VS} {w W W' : World}
theorem Side.below (h : Side B M br s s' w W) (hb : Below W.heap.size W W') : Side B M br s s' w W' := by
  obtain ⟨vL, L, h1, h2⟩ := h.doc
  exact ⟨h.prog.below hb, ⟨vL, L, h1.below hb, h2⟩, h.low.trans (hb.mono (Nat.le_of_lt h.prog.lt))⟩
theorem RSet.turn {base : Nat} {vL : Value} {L : Vl} (h : RSet base br vL L W) (hv : VSet B B M s W) (ht : Turn M W W') : RSet base br vL L W' := by
  have hnb : ∀ n, isSc n = true → br ≠ M n := fun n hn e => by
    obtain ⟨es, clock, hm⟩ := (hv.map n hn).isMap
    have := h.blk; rw [e, hm] at this; cases this
  refine ⟨(ht.block br h.lt hnb).trans h.blk, ⟨h.row.1, ?_⟩, h.hb⟩
  rcases h.row.2 with h0 | ⟨g, cap, cur, hvv, hg, hgg, rest⟩
  · exact .inl h0
  · refine .inr ⟨g, cap, cur, hvv, hg, ?_, rest⟩
    rw [ht.block g (Array.getElem?_eq_some_iff.1 hgg).1 (fun n hn e => ?_)]
    · exact hgg
    · obtain ⟨es, clock, hm⟩ := (hv.map n hn).isMap
      rw [e, hm] at hgg; cases hgg
theorem VSet.rturn {base : Nat} {vL : Value} {L : Vl} (h : VSet B B M s W) (hr : RSet base br vL L W) (ht : RTurn br W W') : VSet B B M s W' := by
  refine h.of_block (ht.block B h.lt fun e => ?_) fun n hn => ht.block (M n) (h.ltm hn) fun e => ?_
  · have h1 := h.blk; have h2 := hr.blk; rw [e, h2] at h1; simp at h1
  · obtain ⟨es, clock, hm⟩ := (h.map n hn).isMap
    have h2 := hr.blk; rw [← e, hm] at h2; cases h2
/-- The call's own block beside them. -/
def Own (ab : Nat) (a : Act) (W : World) : Prop := W.heap[ab]? = some (.cells #[.int .u8 a.kind, .int .i64 a.n, .string a.q, .string a.t] 32 (0, 0))
theorem Own.lt {ab : Nat} {a : Act} (h : Own ab a W) : ab < W.heap.size := (Array.getElem?_eq_some_iff.1 h).1
theorem Own.below {ab : Nat} {a : Act} (h : Own ab a W) (hb : Below W.heap.size W W') : Own ab a W' := (hb.block ab h.lt).trans h
theorem side_does {ab : Nat} {a : Act} (h : Side B M br s s' w W) (ho : Own ab a W) (ha : a.Fine) :
    Calls Try.prog 14 #[ptr B, actArg a] W fun e w' => e = .returned (.int .i64 (s.act a).2) ∧ Side B M br (s.act a).1 s' w w' ∧ Own ab a w' := by
  refine (does_any a W h.prog ha).mono ?_
  rintro e w' ⟨rfl, hv, ht⟩
  obtain ⟨vL, L, h1, h2⟩ := h.doc
  refine ⟨rfl, ⟨hv, ⟨vL, L, h1.turn h.prog ht, h2⟩, h.low.trans (h.prog.low ht)⟩, (ht.block ab ho.lt fun n hn e => ?_).trans ho⟩
  obtain ⟨es, clock, hm⟩ := (h.prog.map n hn).isMap
  have h3 : W.heap[ab]? = _ := ho
  rw [e, hm] at h3; cases h3
theorem side_would {ab : Nat} {a : Act} (h : Side B M br s s' w W) (ho : Own ab a W) (ha : a.Fine) :
    Calls Try.prog 15 #[rptr br, actArg a] W fun e w' => e = .returned (.int .i64 (s'.act a).2) ∧ Side B M br s (s'.act a).1 w w' ∧ Own ab a w' := by
  obtain ⟨vL, L, h1, h2⟩ := h.doc
  refine (would_any a W h1 h2 ha).mono ?_
  rintro e w' ⟨rfl, vL', L', h3, h4, ht⟩
  refine ⟨rfl, ⟨h.prog.rturn h1 ht, ⟨vL', L', h3, h4⟩, h.low.trans (h1.low ht)⟩, (ht.block ab ho.lt fun e => ?_).trans ho⟩
  have h5 : W.heap[ab]? = _ := ho
  have h6 := h1.blk
  rw [← e, h5] at h6; simp at h6
theorem side_get (q : ByteArray) (h : Side B M br s s' w W) (hq : q.size ≤ 140737488355328) : Calls Try.prog 16 #[ptr B, .string q] W fun e w' => e = .returned (.tuple #[.string ((s.get q).getD E), .bool (s.get q).isSome]) ∧ Below W.heap.size W w' := get_any q W h.prog hq
theorem side_in (n : Int) (q : ByteArray) (h : Side B M br s s' w W) (hq : q.size ≤ 140737488355328) : Calls Try.prog 18 #[ptr B, .int .i64 n, .string q] W fun e w' => e = .returned (.tuple #[.string (((s n).look q).getD E), .bool ((s n).look q).isSome]) ∧ Below W.heap.size W w' := in_any n q W h.prog hq
theorem side_rget (q : ByteArray) (h : Side B M br s s' w W) : Calls Try.prog 17 #[rptr br, .string q] W fun e w' => e = .returned (.tuple #[.string ((s'.get q).getD E), .bool (s'.get q).isSome]) ∧ W = w' := by
  obtain ⟨vL, L, h1, h2⟩ := h.doc
  exact rget_any q W h1 h2
theorem side_rin (n : Int) (q : ByteArray) (h : Side B M br s s' w W) : Calls Try.prog 19 #[rptr br, .int .i64 n, .string q] W fun e w' => e = .returned (.tuple #[.string (((s' n).look q).getD E), .bool ((s' n).look q).isSome]) ∧ W = w' := by
  obtain ⟨vL, L, h1, h2⟩ := h.doc
  exact rin_any n q W h1 h2
theorem side_rnames (n : Int) (h : Side B M br s s' w W) : Calls Try.prog 22 #[rptr br, .int .i64 n] W fun e w' => ∃ a m c, e = .returned (.slice a m c) ∧ Words w'.heap.size w' (.slice a m c) (s'.names n) ∧ Below W.heap.size W w' := by
  obtain ⟨vL, L, h1, h2⟩ := h.doc
  refine (rnames_any n W h1 h2).mono ?_
  rintro e w' ⟨a, m, c, rfl, hw, hb⟩
  exact ⟨a, m, c, rfl, hw.2.1, hb⟩
end

set_option maxRecDepth 20000 in
set_option maxHeartbeats 8000000 in
theorem plays_law (a : Option Addr) (n c : Nat) (l : List Act) (q : ByteArray) (w : World) (hn : n ≤ 140737488355328) (hc : n ≤ c) (hw : Acts w.heap.size w (.slice a n c) l) (hf : Fine l) (hq : q.size ≤ 140737488355328) :
    Calls Try.prog 3 #[.slice a n c, .string q] w fun e w' => e = .returned (.bool true) ∧ Below w.heap.size w w' := by
  have HA : Hid (∀ W, Calls Try.prog 12 #[] W fun e w' => e = .returned (.bool true) ∧ Below W.heap.size W w') := fun W => alive_any W
  have HS : Hid (∀ W, Calls Try.prog 13 #[.slice a n c] W fun e w' => e = .returned (.slice a (min n 1500) c) ∧ W = w') := fun W => short_any a n c W hn hc
  have HR1 : Hid (∀ W, Calls Try.prog 10 #[.string q] W fun e w' => e = .returned (.bool (rightB q)) ∧ Below W.heap.size W w') := fun W => right_any q W
  have HR2 : Hid (∀ W, Calls Try.prog 11 #[.string q] W fun e w' => e = .returned (.bool (rightB q)) ∧ Below W.heap.size W w') := fun W => rright_any q W hq
  obtain ⟨rq, hrq⟩ : ∃ rq, rq = rightB q := ⟨_, rfl⟩
  rw [← hrq] at HR1 HR2
  obtain ⟨k1, hk1⟩ : ∃ k1, k1 = min n 1500 := ⟨_, rfl⟩
  have hk15 : k1 ≤ 1500 := by omega
  have hwc := hw.cut k1 c (by omega)
  have hfc := fine_take hf k1
  obtain ⟨l1, hl1⟩ : ∃ l1, l1 = l.take k1 := ⟨_, rfl⟩
  rw [← hl1] at hwc hfc
  rw [← hk1] at HS
  clear hl1 hk1 hw hf hn hc hrq
  have HW : Hid (k1 = l1.length ∧ Acts w.heap.size w (.slice a k1 c) l1) := ⟨hwc.len, hwc⟩
  have HFi : Hid (Fine l1) := hfc
  have HN : Hid (∀ W : World, W = w → Calls Try.prog 9 #[] W fun e w' => e = .returned (ptr w.heap.size) ∧ VSet w.heap.size w.heap.size (newM w.heap.size) VS.none_ w' ∧ Below w.heap.size w w') := by
    rintro W rfl; exact new_any W
  obtain ⟨M, hM⟩ : ∃ M, M = newM w.heap.size := ⟨_, rfl⟩
  rw [← hM] at HN
  have hbn : ∀ (x y : Bool) (W : World), (Sem.run Try.prog (binOp .neq 4 (.bool x) (.bool y)) W) = .ok (.bool (x != y)) W := fun x y W => rfl
  have hbe : ∀ (x y : Bool) (W : World), (Sem.run Try.prog (binOp .eql 4 (.bool x) (.bool y)) W) = .ok (.bool (x == y)) W := fun x y W => rfl
  clear hM hfc hwc
  go_enter Try.func3, Try.ntmps3
  go_wp2_with fail
  refine (HN.out _ rfl).mono ?_
  rintro e w1 ⟨rfl, hv1, hb1⟩
  have HSd0 : Hid (Side w.heap.size M w1.heap.size VS.none_ VS.none_ w (w1.alloc (.cells #[.slice none 0 0] 27))) := by
    have hb : Below w1.heap.size w1 (w1.alloc (.cells #[.slice none 0 0] 27)) := (Below.refl _ _).alloc (Nat.le_refl _) _
    refine ⟨hv1.below hb, ⟨.slice none 0 0, [], ⟨heap_alloc_new w1 _, World.ownsRow_nil _ _ _ _, hb1.size⟩, rel_none⟩, hb1.trans (hb.mono hb1.size)⟩
  obtain ⟨br, hbr⟩ : ∃ br, br = w1.heap.size := ⟨_, rfl⟩
  rw [← hbr] at HSd0
  clear hv1 hb1 HN
  go_wp2_with fail
  rw [← hbr]
  refine (HR1.out _).mono ?_
  rintro e w2 ⟨rfl, hb2⟩
  have HSd2 : Hid (Side w.heap.size M br VS.none_ VS.none_ w w2) := HSd0.out.below hb2
  clear hb2 HSd0 hbr
  go_wp2_with fail
  refine (HR2.out _).mono ?_
  rintro e w3 ⟨rfl, hb3⟩
  have HSd3 : Hid (Side w.heap.size M br VS.none_ VS.none_ w w3) := HSd2.out.below hb3
  clear hb3 HSd2
  go_wp2_with fail
  refine (HA.out _).mono ?_
  rintro e w4 ⟨rfl, hb4⟩
  have HSd4 : Hid (Side w.heap.size M br VS.none_ VS.none_ w w4) := HSd3.out.below hb4
  clear hb4 HSd3
  go_wp2_with fail
  refine (HS.out _).mono ?_
  rintro e w' ⟨rfl, rfl⟩
  clear HA HS HR1 HR2
  go_wp2
  go_loopw [39] (fun vi wr => ∃ j : Nat, j ≤ k1 ∧ vi = .int .i64 j ∧ Hid (Side w.heap.size M br (VS.none_.run (l1.take j)) (VS.none_.run (l1.take j)) w wr))
    (fun vi _ => k1 - (intOf vi).toNat)
  case atStart => exact ⟨0, Nat.zero_le _, rfl, HSd4⟩
  case round =>
    obtain ⟨j, hj, rfl, HT1⟩ := hrel
    clear HSd4
    by_cases hlt : j < k1
    · have hjl : j < l1.length := by rw [← HW.out.1]; exact hlt
      have hil : (j : Int) < (k1 : Int) := by omega
      obtain ⟨g, o, rfl, x0, x1, x2, x3⟩ := acts_here HW.out.2 HT1.out.low j hjl
      have HF1 : Hid (l1[j].Fine) := HFi.out _ (List.getElem_mem hjl)
      have HRn : Hid (VS.none_.run (l1.take (j + 1)) = ((VS.none_.run (l1.take j)).act l1[j]).1) := run_succ _ _ _ hjl
      obtain ⟨s, hs⟩ : ∃ s, s = VS.none_.run (l1.take j) := ⟨_, rfl⟩
      obtain ⟨x, hxe⟩ : ∃ x, x = l1[j] := ⟨_, rfl⟩
      rw [← hxe] at x0 x1 x2 x3 HF1 HRn
      rw [← hs] at HT1 HRn
      clear hxe hs
      obtain ⟨s2, hs2⟩ : ∃ s2, s2 = (s.act x).1 := ⟨_, rfl⟩
      obtain ⟨r2, hr2⟩ : ∃ r2, r2 = (s.act x).2 := ⟨_, rfl⟩
      have HD : Hid (∀ W, Side w.heap.size M br s s w W ∧ Own wr.heap.size x W → Calls Try.prog 14 #[ptr w.heap.size, .agg #[.int .u8 x.kind, .int .i64 x.n, .string x.q, .string x.t]] W fun e w' => e = .returned (.int .i64 r2) ∧ (Side w.heap.size M br s2 s w w' ∧ Own wr.heap.size x w')) := fun W h => by
        rw [hs2, hr2]; exact side_does h.1 h.2 HF1.out
      have HWd : Hid (∀ W, Side w.heap.size M br s2 s w W ∧ Own wr.heap.size x W → Calls Try.prog 15 #[rptr br, .agg #[.int .u8 x.kind, .int .i64 x.n, .string x.q, .string x.t]] W fun e w' => e = .returned (.int .i64 r2) ∧ (Side w.heap.size M br s2 s2 w w' ∧ Own wr.heap.size x w')) := fun W h => by
        have := side_would h.1 h.2 HF1.out
        rw [← hs2, ← hr2] at this; exact this
      rw [← hs2] at HRn
      have hxq := HF1.out.2.1
      clear hs2 hr2 HF1
      have HP0 : Hid (Side w.heap.size M br s s w (wr.alloc (.cells #[.int .u8 x.kind, .int .i64 x.n, .string x.q, .string x.t] 32)).drew ∧ Own wr.heap.size x (wr.alloc (.cells #[.int .u8 x.kind, .int .i64 x.n, .string x.q, .string x.t] 32)).drew) :=
        ⟨HT1.out.below ((Below.refl _ _).alloc (Nat.le_refl _) _).drew, heap_alloc_new wr _⟩
      have HCl : Hid (∀ W, Own wr.heap.size x W → W.cell? ⟨wr.heap.size, 0, none⟩ = some (.int .u8 x.kind) ∧ W.cell? ⟨wr.heap.size, 1, none⟩ = some (.int .i64 x.n) ∧ W.cell? ⟨wr.heap.size, 2, none⟩ = some (.string x.q) ∧ W.cell? ⟨wr.heap.size, 3, none⟩ = some (.string x.t)) := fun W h => ⟨cell_in h 0 rfl, cell_in h 1 rfl, cell_in h 2 rfl, cell_in h 3 rfl⟩
      have HGp : Hid (∀ W, Side w.heap.size M br s2 s2 w W → Calls Try.prog 16 #[ptr w.heap.size, .string x.q] W fun e w' => e = .returned (.tuple #[.string ((s2.get x.q).getD E), .bool (s2.get x.q).isSome]) ∧ Below W.heap.size W w') := fun W h => side_get x.q h hxq
      have HGr : Hid (∀ W, Side w.heap.size M br s2 s2 w W → Calls Try.prog 17 #[rptr br, .string x.q] W fun e w' => e = .returned (.tuple #[.string ((s2.get x.q).getD E), .bool (s2.get x.q).isSome]) ∧ W = w') := fun W h => side_rget x.q h
      have HIp : Hid (∀ W, Side w.heap.size M br s2 s2 w W → Calls Try.prog 18 #[ptr w.heap.size, .int .i64 x.n, .string x.q] W fun e w' => e = .returned (.tuple #[.string (((s2 x.n).look x.q).getD E), .bool ((s2 x.n).look x.q).isSome]) ∧ Below W.heap.size W w') := fun W h => side_in x.n x.q h hxq
      have HIr : Hid (∀ W, Side w.heap.size M br s2 s2 w W → Calls Try.prog 19 #[rptr br, .int .i64 x.n, .string x.q] W fun e w' => e = .returned (.tuple #[.string (((s2 x.n).look x.q).getD E), .bool ((s2 x.n).look x.q).isSome]) ∧ W = w') := fun W h => side_rin x.n x.q h
      obtain ⟨gv, hgv⟩ : ∃ gv, gv = (s2.get x.q).getD E := ⟨_, rfl⟩
      obtain ⟨gt, hgt⟩ : ∃ gt, gt = (s2.get x.q).isSome := ⟨_, rfl⟩
      obtain ⟨iv, hiv⟩ : ∃ iv, iv = ((s2 x.n).look x.q).getD E := ⟨_, rfl⟩
      obtain ⟨it, hit⟩ : ∃ it, it = ((s2 x.n).look x.q).isSome := ⟨_, rfl⟩
      rw [← hgv, ← hgt] at HGp HGr
      rw [← hiv, ← hit] at HIp HIr
      clear hgv hgt hiv hit hxq
      obtain ⟨kd, nn, p, t⟩ := x
      simp only at x0 x1 x2 x3 HD HWd HP0 HCl HGp HGr HIp HIr
      go_wp2_with fail
      go_region_held3 (fun W => W.cell? ⟨wr.heap.size, 0, none⟩ = some (.int .u8 kd) ∧ W.cell? ⟨wr.heap.size, 1, none⟩ = some (.int .i64 nn) ∧ W.cell? ⟨wr.heap.size, 2, none⟩ = some (.string p) ∧ W.cell? ⟨wr.heap.size, 3, none⟩ = some (.string t))
        (first | exact HCl.out _ HP0.out.2 | exact HCl.out _ (And.right ‹_›) | assumption)
        (first
          | (go_at_call 14; refine (HD.out _ HP0.out).mono ?_; rintro e w5 ⟨rfl, hP5⟩; have hS5 := HCl.out _ hP5.2)
          | (go_at_call 15; refine (HWd.out _ hP5).mono ?_; rintro e w6 ⟨rfl, hP6⟩; have hS6 := HCl.out _ hP6.2))
      have HP6 : Hid (Side w.heap.size M br s2 s2 w w6 ∧ Own wr.heap.size ⟨kd, nn, p, t⟩ w6) := hP6
      obtain ⟨d0, d1, d2, d3⟩ := HCl.out _ hP6.2
      clear hP5 hP6 hS5 hS6 HP0 HD HWd HT1 x0 x1 x2 x3
      go_wp2_with fail
      refine (HGp.out _ HP6.out.1).mono ?_
      rintro e w7 ⟨rfl, hb7⟩
      have HP7 : Hid (Side w.heap.size M br s2 s2 w w7 ∧ Own wr.heap.size ⟨kd, nn, p, t⟩ w7) := ⟨HP6.out.1.below hb7, HP6.out.2.below hb7⟩
      clear hb7 HP6 d0 d1 d2 d3
      obtain ⟨d0, d1, d2, d3⟩ := HCl.out _ HP7.out.2
      go_wp2_with fail
      refine (HGr.out _ HP7.out.1).mono ?_
      rintro e w' ⟨rfl, rfl⟩
      go_wp2_with fail
      refine (HIp.out _ HP7.out.1).mono ?_
      rintro e w8 ⟨rfl, hb8⟩
      have HP8 : Hid (Side w.heap.size M br s2 s2 w w8 ∧ Own wr.heap.size ⟨kd, nn, p, t⟩ w8) := ⟨HP7.out.1.below hb8, HP7.out.2.below hb8⟩
      clear hb8 HP7 d0 d1 d2 d3
      obtain ⟨d0, d1, d2, d3⟩ := HCl.out _ HP8.out.2
      go_wp2_with fail
      refine (HIr.out _ HP8.out.1).mono ?_
      rintro e w' ⟨rfl, rfl⟩
      clear HGp HGr HIp HIr HCl
      have HEn : Hid (Side w.heap.size M br (VS.none_.run (l1.take (j + 1))) (VS.none_.run (l1.take (j + 1))) w w8) := by rw [HRn.out]; exact HP8.out.1
      clear HP8 HRn d0 d1 d2 d3
      go_wp2
      go_roundw
      case rel => exact ⟨j + 1, by omega, by go_num, HEn⟩
      case measure => simp [intOf]; omega
    · have hil : ¬ (j : Int) < (k1 : Int) := by omega
      obtain ⟨s, hs⟩ : ∃ s, s = VS.none_.run (l1.take j) := ⟨_, rfl⟩
      rw [← hs] at HT1
      have HN1 : Hid (∀ i W, Side w.heap.size M br s s w W → Calls Try.prog 21 #[ptr w.heap.size, .int .i64 i] W fun e w' => ∃ a c, e = .returned (.slice a (s.names i).length c) ∧ Words w'.heap.size w' (.slice a (s.names i).length c) (s.names i) ∧ Below W.heap.size W w') := fun i W h => names_words i W h.prog
      have HN2 : Hid (∀ i W, Side w.heap.size M br s s w W → Calls Try.prog 22 #[rptr br, .int .i64 i] W fun e w' => ∃ a m c, e = .returned (.slice a m c) ∧ Words w'.heap.size w' (.slice a m c) (s.names i) ∧ Below W.heap.size W w') := fun i W h => side_rnames i h
      have HSm : Hid (∀ (i : Int) v1 v2 B1 B2 (W : World), Words B1 W v1 (s.names i) → Words B2 W v2 (s.names i) → Calls Try.prog 20 #[v1, v2] W fun e w' => e = .returned (.bool true) ∧ ∃ n, w' = W.drewN n) := fun i v1 v2 B1 B2 W h1 h2 => same_any _ v1 v2 B1 B2 W (by rw [names_len]; have := HT1.out.prog.ok.len i; omega) h1 h2
      have HGp : Hid (∀ W, Side w.heap.size M br s s w W → Calls Try.prog 16 #[ptr w.heap.size, .string q] W fun e w' => e = .returned (.tuple #[.string ((s.get q).getD E), .bool (s.get q).isSome]) ∧ Below W.heap.size W w') := fun W h => side_get q h hq
      have HGr : Hid (∀ W, Side w.heap.size M br s s w W → Calls Try.prog 17 #[rptr br, .string q] W fun e w' => e = .returned (.tuple #[.string ((s.get q).getD E), .bool (s.get q).isSome]) ∧ W = w') := fun W h => side_rget q h
      obtain ⟨gv, hgv⟩ : ∃ gv, gv = (s.get q).getD E := ⟨_, rfl⟩
      obtain ⟨gt, hgt⟩ : ∃ gt, gt = (s.get q).isSome := ⟨_, rfl⟩
      rw [← hgv, ← hgt] at HGp HGr
      clear hgv hgt hs HW HFi
      go_wp2
      go_loopw [98] (fun vi wq => ∃ z : Nat, z ≤ 6 ∧ vi = .int .i64 z ∧ Hid (Side w.heap.size M br s s w wq))
        (fun vi _ => 6 - (intOf vi).toNat)
      case atStart => exact ⟨0, Nat.zero_le _, rfl, HT1⟩
      case round =>
        obtain ⟨z, hz, rfl, HT2⟩ := hrel
        clear HT1
        by_cases hz6 : z < 6
        · have hzi : (z : Int) < 6 := by omega
          go_wp2_with fail
          refine (HN1.out _ _ HT2.out).mono ?_
          rintro e w5 ⟨a5, c5, rfl, hw5, hb5⟩
          have h5 := HT2.out.below hb5
          clear hb5 HT2
          go_wp2_with fail
          refine (HN2.out _ _ h5).mono ?_
          rintro e w6 ⟨a6, m6, c6, rfl, hw6, hb6⟩
          have h6 := h5.below hb6
          have hw56 := hw5.below hb6
          clear hb6 h5 hw5
          go_wp2_with fail
          refine (HSm.out _ _ _ _ _ _ hw56 hw6).mono ?_
          rintro e w7 ⟨rfl, n7, hw7⟩
          have H7 : Hid (Side w.heap.size M br s s w w7) := by rw [hw7]; exact h6.below (below_drewN (Below.refl _ _) n7)
          clear hw7 h6 hw56 hw6
          go_wp2
          go_roundw
          case rel => exact ⟨z + 1, by omega, by go_num, H7⟩
          case measure => simp [intOf]; omega
        · have hzi : ¬ (z : Int) < 6 := by omega
          clear HN1 HN2 HSm
          go_wp2_with fail
          refine (HGp.out _ HT2.out).mono ?_
          rintro e w5 ⟨rfl, hb5⟩
          have h5 := HT2.out.below hb5
          clear hb5 HT2
          go_wp2_with fail
          refine (HGr.out _ h5).mono ?_
          rintro e w' ⟨rfl, rfl⟩
          have hlow := h5.low
          clear h5
          go_wp2
          go_ret
          exact ⟨ret_bool (by simp), hlow⟩
end Go.Proofs.Ytjbmmeneejcpbaa
