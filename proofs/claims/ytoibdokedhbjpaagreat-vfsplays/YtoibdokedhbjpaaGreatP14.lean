/-
  What one call of a script answers and leaves with the document's own store.
-/
import Derived.Test.YtoibdokedhbjpaaGreatP13
import Derived.Test.YtoibdokedhbjpaaGreatDoes
namespace Go.Proofs.YtoibdokedhbjpaaGreat
open Go.RowKit Go.Shelf Go.Maps
section
variable {base br : Nat} {vL vN : Value} {s : St}

set_option maxRecDepth 20000 in
set_option maxHeartbeats 400000 in
theorem would_0 (k : Int) (p q t : ByteArray) (n : Int) (w : World) (h : RSt base br vL vN s w) (ok : s.Ok) (tr : Tree s) (hk : k.tmod 10 = 0) (hall : (0 ≤ k ∧ k ≤ 255) ∧ p.size ≤ 1048577 ∧ q.size ≤ 1048577 ∧ t.size ≤ 140737488355328 ∧ s.now ≤ 1152921504606846976 ∧ (-9223372036854775808 ≤ n ∧ n ≤ 9223372036854775807)) :
    Calls Tryz.prog 12 #[rptr br, .agg #[.int .u8 k, .string p, .string q, .string t, .int .i64 n]] w fun e w' => e = .returned (.int .i64 ((s.write p t).2)) ∧ ∃ vL' vN', RSt base br vL' vN' ((s.write p t).1) w' ∧ RTurn br w w' ∧ Fresh w.heap.size vN vN' := by
  obtain ⟨⟨hk0, hk1⟩, hp, hq, ht, hn, hnn⟩ := hall
  have HN : Hid (∀ W, Below w.heap.size w W → Calls Tryz.prog 33 #[rptr br, .string p, .string t] W fun e w' => e = .returned (.int .i64 ((s.write p t).2)) ∧ ∃ vL' vN', RSt base br vL' vN' ((s.write p t).1) w' ∧ RTurn br W w' ∧ Fresh W.heap.size vN vN') := fun W hB => rwrite_any p t W (h.below hB) ok tr hn hp (by omega)
  have HS : Hid (∀ W, Below w.heap.size w W → RSt base br vL vN s W) := fun W hB => h.below hB
  clear h hp hq ht hn hnn ok tr
  have hb0 : Below w.heap.size w (w.alloc (.cells #[.int .u8 k, .string p, .string q, .string t, .int .i64 n] 36)) := (Below.refl _ w).alloc (Nat.le_refl _) _
  go_enter Tryz.func12, Tryz.ntmps12
  go_wp2_with fail
  refine (HN.out _ hb0).mono ?_
  rintro e w2 ⟨rfl, vL', vN', hst, htn, hfr⟩
  have HE : Hid (RSt base br vL' vN' ((s.write p t).1) w2 ∧ RTurn br w w2 ∧ Fresh w.heap.size vN vN') := ⟨hst, (RTurn.of_below hb0).trans htn, hfr.of_le (by simp)⟩
  clear hst htn hfr hb0
  go_wp2
  go_ret
  exact ⟨rfl, _, _, HE.out.1, HE.out.2.1, HE.out.2.2⟩

set_option maxRecDepth 20000 in
set_option maxHeartbeats 400000 in
theorem would_1 (k : Int) (p q t : ByteArray) (n : Int) (w : World) (h : RSt base br vL vN s w) (ok : s.Ok) (tr : Tree s) (hk : k.tmod 10 = 1) (hall : (0 ≤ k ∧ k ≤ 255) ∧ p.size ≤ 1048577 ∧ q.size ≤ 1048577 ∧ t.size ≤ 140737488355328 ∧ s.now ≤ 1152921504606846976 ∧ (-9223372036854775808 ≤ n ∧ n ≤ 9223372036854775807)) :
    Calls Tryz.prog 12 #[rptr br, .agg #[.int .u8 k, .string p, .string q, .string t, .int .i64 n]] w fun e w' => e = .returned (.int .i64 ((s.append p t).2)) ∧ ∃ vL' vN', RSt base br vL' vN' ((s.append p t).1) w' ∧ RTurn br w w' ∧ Fresh w.heap.size vN vN' := by
  obtain ⟨⟨hk0, hk1⟩, hp, hq, ht, hn, hnn⟩ := hall
  have HN : Hid (∀ W, Below w.heap.size w W → Calls Tryz.prog 34 #[rptr br, .string p, .string t] W fun e w' => e = .returned (.int .i64 ((s.append p t).2)) ∧ ∃ vL' vN', RSt base br vL' vN' ((s.append p t).1) w' ∧ RTurn br W w' ∧ Fresh W.heap.size vN vN') := fun W hB => rappend_any p t W (h.below hB) ok tr hn hp ht
  have HS : Hid (∀ W, Below w.heap.size w W → RSt base br vL vN s W) := fun W hB => h.below hB
  clear h hp hq ht hn hnn ok tr
  have hb0 : Below w.heap.size w (w.alloc (.cells #[.int .u8 k, .string p, .string q, .string t, .int .i64 n] 36)) := (Below.refl _ w).alloc (Nat.le_refl _) _
  go_enter Tryz.func12, Tryz.ntmps12
  go_wp2_with fail
  refine (HN.out _ hb0).mono ?_
  rintro e w2 ⟨rfl, vL', vN', hst, htn, hfr⟩
  have HE : Hid (RSt base br vL' vN' ((s.append p t).1) w2 ∧ RTurn br w w2 ∧ Fresh w.heap.size vN vN') := ⟨hst, (RTurn.of_below hb0).trans htn, hfr.of_le (by simp)⟩
  clear hst htn hfr hb0
  go_wp2
  go_ret
  exact ⟨rfl, _, _, HE.out.1, HE.out.2.1, HE.out.2.2⟩

set_option maxRecDepth 20000 in
set_option maxHeartbeats 400000 in
theorem would_2 (k : Int) (p q t : ByteArray) (n : Int) (w : World) (h : RSt base br vL vN s w) (ok : s.Ok) (_tr : Tree s) (hk : k.tmod 10 = 2) (hall : (0 ≤ k ∧ k ≤ 255) ∧ p.size ≤ 1048577 ∧ q.size ≤ 1048577 ∧ t.size ≤ 140737488355328 ∧ s.now ≤ 1152921504606846976 ∧ (-9223372036854775808 ≤ n ∧ n ≤ 9223372036854775807)) :
    Calls Tryz.prog 12 #[rptr br, .agg #[.int .u8 k, .string p, .string q, .string t, .int .i64 n]] w fun e w' => e = .returned (.int .i64 ((s.read p).2.2)) ∧ ∃ vL' vN', RSt base br vL' vN' ((s.read p).1) w' ∧ RTurn br w w' ∧ Fresh w.heap.size vN vN' := by
  obtain ⟨⟨hk0, hk1⟩, hp, hq, ht, hn, hnn⟩ := hall
  have HN : Hid (∀ W, Below w.heap.size w W → Calls Tryz.prog 24 #[rptr br, .string p] W fun e w' => e = .returned (readV (s.read p).2) ∧ ∃ vN', RSt base br vL vN' ((s.read p).1) w' ∧ RTurn br W w' ∧ Fresh W.heap.size vN vN') := fun W hB => rread_any p W (h.below hB) (by have := ok.len; omega) ok.note (by omega)
  have HS : Hid (∀ W, Below w.heap.size w W → RSt base br vL vN s W) := fun W hB => h.below hB
  clear h hp hq ht hn hnn ok 
  have hb0 : Below w.heap.size w (w.alloc (.cells #[.int .u8 k, .string p, .string q, .string t, .int .i64 n] 36)) := (Below.refl _ w).alloc (Nat.le_refl _) _
  go_enter Tryz.func12, Tryz.ntmps12
  go_wp2_with fail
  refine (HN.out _ hb0).mono ?_
  rintro e w2 ⟨rfl, vN', hst, htn, hfr⟩
  unfold readV
  have HE : Hid (RSt base br vL vN' ((s.read p).1) w2 ∧ RTurn br w w2 ∧ Fresh w.heap.size vN vN') := ⟨hst, (RTurn.of_below hb0).trans htn, hfr.of_le (by simp)⟩
  clear hst htn hfr hb0
  go_wp2
  go_ret
  exact ⟨rfl, _, _, HE.out.1, HE.out.2.1, HE.out.2.2⟩

set_option maxRecDepth 20000 in
set_option maxHeartbeats 400000 in
theorem would_3 (k : Int) (p q t : ByteArray) (n : Int) (w : World) (h : RSt base br vL vN s w) (ok : s.Ok) (tr : Tree s) (hk : k.tmod 10 = 3) (hall : (0 ≤ k ∧ k ≤ 255) ∧ p.size ≤ 1048577 ∧ q.size ≤ 1048577 ∧ t.size ≤ 140737488355328 ∧ s.now ≤ 1152921504606846976 ∧ (-9223372036854775808 ≤ n ∧ n ≤ 9223372036854775807)) :
    Calls Tryz.prog 12 #[rptr br, .agg #[.int .u8 k, .string p, .string q, .string t, .int .i64 n]] w fun e w' => e = .returned (.int .i64 ((s.remove p).2)) ∧ ∃ vL' vN', RSt base br vL' vN' ((s.remove p).1) w' ∧ RTurn br w w' ∧ Fresh w.heap.size vN vN' := by
  obtain ⟨⟨hk0, hk1⟩, hp, hq, ht, hn, hnn⟩ := hall
  have HN : Hid (∀ W, Below w.heap.size w W → Calls Tryz.prog 35 #[rptr br, .string p] W fun e w' => e = .returned (.int .i64 ((s.remove p).2)) ∧ ∃ vL' vN', RSt base br vL' vN' ((s.remove p).1) w' ∧ RTurn br W w' ∧ Fresh W.heap.size vN vN') := fun W hB => rremove_any p W (h.below hB) ok tr hn hp
  have HS : Hid (∀ W, Below w.heap.size w W → RSt base br vL vN s W) := fun W hB => h.below hB
  clear h hp hq ht hn hnn ok tr
  have hb0 : Below w.heap.size w (w.alloc (.cells #[.int .u8 k, .string p, .string q, .string t, .int .i64 n] 36)) := (Below.refl _ w).alloc (Nat.le_refl _) _
  go_enter Tryz.func12, Tryz.ntmps12
  go_wp2_with fail
  refine (HN.out _ hb0).mono ?_
  rintro e w2 ⟨rfl, vL', vN', hst, htn, hfr⟩
  have HE : Hid (RSt base br vL' vN' ((s.remove p).1) w2 ∧ RTurn br w w2 ∧ Fresh w.heap.size vN vN') := ⟨hst, (RTurn.of_below hb0).trans htn, hfr.of_le (by simp)⟩
  clear hst htn hfr hb0
  go_wp2
  go_ret
  exact ⟨rfl, _, _, HE.out.1, HE.out.2.1, HE.out.2.2⟩

set_option maxRecDepth 20000 in
set_option maxHeartbeats 400000 in
theorem would_4 (k : Int) (p q t : ByteArray) (n : Int) (w : World) (h : RSt base br vL vN s w) (ok : s.Ok) (tr : Tree s) (hk : k.tmod 10 = 4) (hall : (0 ≤ k ∧ k ≤ 255) ∧ p.size ≤ 1048577 ∧ q.size ≤ 1048577 ∧ t.size ≤ 140737488355328 ∧ s.now ≤ 1152921504606846976 ∧ (-9223372036854775808 ≤ n ∧ n ≤ 9223372036854775807)) :
    Calls Tryz.prog 12 #[rptr br, .agg #[.int .u8 k, .string p, .string q, .string t, .int .i64 n]] w fun e w' => e = .returned (.int .i64 ((s.move p q).2)) ∧ ∃ vL' vN', RSt base br vL' vN' ((s.move p q).1) w' ∧ RTurn br w w' ∧ Fresh w.heap.size vN vN' := by
  obtain ⟨⟨hk0, hk1⟩, hp, hq, ht, hn, hnn⟩ := hall
  have HN : Hid (∀ W, Below w.heap.size w W → Calls Tryz.prog 36 #[rptr br, .string p, .string q] W fun e w' => e = .returned (.int .i64 ((s.move p q).2)) ∧ ∃ vL' vN', RSt base br vL' vN' ((s.move p q).1) w' ∧ RTurn br W w' ∧ Fresh W.heap.size vN vN') := fun W hB => rmove_any p q W (h.below hB) ok tr hn hp hq
  have HS : Hid (∀ W, Below w.heap.size w W → RSt base br vL vN s W) := fun W hB => h.below hB
  clear h hp hq ht hn hnn ok tr
  have hb0 : Below w.heap.size w (w.alloc (.cells #[.int .u8 k, .string p, .string q, .string t, .int .i64 n] 36)) := (Below.refl _ w).alloc (Nat.le_refl _) _
  go_enter Tryz.func12, Tryz.ntmps12
  go_wp2_with fail
  refine (HN.out _ hb0).mono ?_
  rintro e w2 ⟨rfl, vL', vN', hst, htn, hfr⟩
  have HE : Hid (RSt base br vL' vN' ((s.move p q).1) w2 ∧ RTurn br w w2 ∧ Fresh w.heap.size vN vN') := ⟨hst, (RTurn.of_below hb0).trans htn, hfr.of_le (by simp)⟩
  clear hst htn hfr hb0
  go_wp2
  go_ret
  exact ⟨rfl, _, _, HE.out.1, HE.out.2.1, HE.out.2.2⟩

set_option maxRecDepth 20000 in
set_option maxHeartbeats 400000 in
theorem would_5 (k : Int) (p q t : ByteArray) (n : Int) (w : World) (h : RSt base br vL vN s w) (ok : s.Ok) (tr : Tree s) (hk : k.tmod 10 = 5) (hall : (0 ≤ k ∧ k ≤ 255) ∧ p.size ≤ 1048577 ∧ q.size ≤ 1048577 ∧ t.size ≤ 140737488355328 ∧ s.now ≤ 1152921504606846976 ∧ (-9223372036854775808 ≤ n ∧ n ≤ 9223372036854775807)) :
    Calls Tryz.prog 12 #[rptr br, .agg #[.int .u8 k, .string p, .string q, .string t, .int .i64 n]] w fun e w' => e = .returned (.int .i64 ((s.mkdir p).2)) ∧ ∃ vL' vN', RSt base br vL' vN' ((s.mkdir p).1) w' ∧ RTurn br w w' ∧ Fresh w.heap.size vN vN' := by
  obtain ⟨⟨hk0, hk1⟩, hp, hq, ht, hn, hnn⟩ := hall
  have HN : Hid (∀ W, Below w.heap.size w W → Calls Tryz.prog 37 #[rptr br, .string p] W fun e w' => e = .returned (.int .i64 ((s.mkdir p).2)) ∧ ∃ vL', RSt base br vL' vN ((s.mkdir p).1) w' ∧ RTurn br W w') := fun W hB => rmkdir_any p W (h.below hB) ok tr hn hp
  have HS : Hid (∀ W, Below w.heap.size w W → RSt base br vL vN s W) := fun W hB => h.below hB
  clear h hp hq ht hn hnn ok tr
  have hb0 : Below w.heap.size w (w.alloc (.cells #[.int .u8 k, .string p, .string q, .string t, .int .i64 n] 36)) := (Below.refl _ w).alloc (Nat.le_refl _) _
  go_enter Tryz.func12, Tryz.ntmps12
  go_wp2_with fail
  refine (HN.out _ hb0).mono ?_
  rintro e w2 ⟨rfl, vL', hst, htn⟩
  have HE : Hid (RSt base br vL' vN ((s.mkdir p).1) w2 ∧ RTurn br w w2 ∧ Fresh w.heap.size vN vN) := ⟨hst, (RTurn.of_below hb0).trans htn, .inl rfl⟩
  clear hst htn hb0
  go_wp2
  go_ret
  exact ⟨rfl, _, _, HE.out.1, HE.out.2.1, HE.out.2.2⟩

set_option maxRecDepth 20000 in
set_option maxHeartbeats 400000 in
theorem would_6 (k : Int) (p q t : ByteArray) (n : Int) (w : World) (h : RSt base br vL vN s w) (ok : s.Ok) (tr : Tree s) (hk : k.tmod 10 = 6) (hall : (0 ≤ k ∧ k ≤ 255) ∧ p.size ≤ 1048577 ∧ q.size ≤ 1048577 ∧ t.size ≤ 140737488355328 ∧ s.now ≤ 1152921504606846976 ∧ (-9223372036854775808 ≤ n ∧ n ≤ 9223372036854775807)) :
    Calls Tryz.prog 12 #[rptr br, .agg #[.int .u8 k, .string p, .string q, .string t, .int .i64 n]] w fun e w' => e = .returned (.int .i64 ((s.touch p).2)) ∧ ∃ vL' vN', RSt base br vL' vN' ((s.touch p).1) w' ∧ RTurn br w w' ∧ Fresh w.heap.size vN vN' := by
  obtain ⟨⟨hk0, hk1⟩, hp, hq, ht, hn, hnn⟩ := hall
  have HN : Hid (∀ W, Below w.heap.size w W → Calls Tryz.prog 38 #[rptr br, .string p] W fun e w' => e = .returned (.int .i64 ((s.touch p).2)) ∧ ∃ vL' vN', RSt base br vL' vN' ((s.touch p).1) w' ∧ RTurn br W w' ∧ Fresh W.heap.size vN vN') := fun W hB => rtouch_any p W (h.below hB) ok tr hn hp
  have HS : Hid (∀ W, Below w.heap.size w W → RSt base br vL vN s W) := fun W hB => h.below hB
  clear h hp hq ht hn hnn ok tr
  have hb0 : Below w.heap.size w (w.alloc (.cells #[.int .u8 k, .string p, .string q, .string t, .int .i64 n] 36)) := (Below.refl _ w).alloc (Nat.le_refl _) _
  go_enter Tryz.func12, Tryz.ntmps12
  go_wp2_with fail
  refine (HN.out _ hb0).mono ?_
  rintro e w2 ⟨rfl, vL', vN', hst, htn, hfr⟩
  have HE : Hid (RSt base br vL' vN' ((s.touch p).1) w2 ∧ RTurn br w w2 ∧ Fresh w.heap.size vN vN') := ⟨hst, (RTurn.of_below hb0).trans htn, hfr.of_le (by simp)⟩
  clear hst htn hfr hb0
  go_wp2
  go_ret
  exact ⟨rfl, _, _, HE.out.1, HE.out.2.1, HE.out.2.2⟩

set_option maxRecDepth 20000 in
set_option maxHeartbeats 400000 in
theorem would_7 (k : Int) (p q t : ByteArray) (n : Int) (w : World) (h : RSt base br vL vN s w) (ok : s.Ok) (_tr : Tree s) (hk : k.tmod 10 = 7) (hall : (0 ≤ k ∧ k ≤ 255) ∧ p.size ≤ 1048577 ∧ q.size ≤ 1048577 ∧ t.size ≤ 140737488355328 ∧ s.now ≤ 1152921504606846976 ∧ (-9223372036854775808 ≤ n ∧ n ≤ 9223372036854775807)) :
    Calls Tryz.prog 12 #[rptr br, .agg #[.int .u8 k, .string p, .string q, .string t, .int .i64 n]] w fun e w' => e = .returned (.int .i64 (0)) ∧ ∃ vL' vN', RSt base br vL' vN' (s.later n) w' ∧ RTurn br w w' ∧ Fresh w.heap.size vN vN' := by
  obtain ⟨⟨hk0, hk1⟩, hp, hq, ht, hn, hnn⟩ := hall
  have HN : Hid (∀ W, Below w.heap.size w W → Calls Tryz.prog 39 #[rptr br, .int .i64 n] W fun e w' => e = .returned (.tuple #[]) ∧ RSt base br vL vN (s.later n) w' ∧ RTurn br W w') := fun W hB => rlater_any n W (h.below hB) ok.now0 (by omega) hnn
  have HS : Hid (∀ W, Below w.heap.size w W → RSt base br vL vN s W) := fun W hB => h.below hB
  clear h hp hq ht hn hnn ok 
  have hb0 : Below w.heap.size w (w.alloc (.cells #[.int .u8 k, .string p, .string q, .string t, .int .i64 n] 36)) := (Below.refl _ w).alloc (Nat.le_refl _) _
  go_enter Tryz.func12, Tryz.ntmps12
  go_wp2_with fail
  refine (HN.out _ hb0).mono ?_
  rintro e w2 ⟨rfl, hst, htn⟩
  have HE : Hid (RSt base br vL vN (s.later n) w2 ∧ RTurn br w w2 ∧ Fresh w.heap.size vN vN) := ⟨hst, (RTurn.of_below hb0).trans htn, .inl rfl⟩
  clear hst htn hb0
  go_wp2
  go_ret
  exact ⟨rfl, _, _, HE.out.1, HE.out.2.1, HE.out.2.2⟩

set_option maxRecDepth 20000 in
set_option maxHeartbeats 400000 in
theorem would_9 (k : Int) (p q t : ByteArray) (n : Int) (w : World) (h : RSt base br vL vN s w) (ok : s.Ok) (_tr : Tree s) (hk : k.tmod 10 = 9) (hall : (0 ≤ k ∧ k ≤ 255) ∧ p.size ≤ 1048577 ∧ q.size ≤ 1048577 ∧ t.size ≤ 140737488355328 ∧ s.now ≤ 1152921504606846976 ∧ (-9223372036854775808 ≤ n ∧ n ≤ 9223372036854775807)) :
    Calls Tryz.prog 12 #[rptr br, .agg #[.int .u8 k, .string p, .string q, .string t, .int .i64 n]] w fun e w' => e = .returned (.int .i64 ((s.list p).2)) ∧ ∃ vL' vN', RSt base br vL' vN' (s) w' ∧ RTurn br w w' ∧ Fresh w.heap.size vN vN' := by
  obtain ⟨⟨hk0, hk1⟩, hp, hq, ht, hn, hnn⟩ := hall
  have HN : Hid (∀ W, Below w.heap.size w W → Calls Tryz.prog 19 #[rptr br, .string p] W fun e w' => ∃ u, e = .returned (listV u (s.list p).2) ∧ Told W.heap.size w' u (s.list p).1 ∧ Below W.heap.size W w') := fun W hB => rlist_any p W (h.below hB) (by have := ok.len; omega) (by omega) (fun x hx => (ok.path x hx).2)
  have HS : Hid (∀ W, Below w.heap.size w W → RSt base br vL vN s W) := fun W hB => h.below hB
  clear h hp hq ht hn hnn ok 
  have hb0 : Below w.heap.size w (w.alloc (.cells #[.int .u8 k, .string p, .string q, .string t, .int .i64 n] 36)) := (Below.refl _ w).alloc (Nat.le_refl _) _
  go_enter Tryz.func12, Tryz.ntmps12
  go_wp2_with fail
  refine (HN.out _ hb0).mono ?_
  rintro e w2 ⟨u, rfl, _, hb2⟩
  unfold listV
  have hbb := hb0.trans (hb2.mono (by simp))
  have HE : Hid (RSt base br vL vN (s) w2 ∧ RTurn br w w2 ∧ Fresh w.heap.size vN vN) := ⟨HS.out _ hbb, RTurn.of_below hbb, .inl rfl⟩
  clear hb0 hb2 hbb
  go_wp2
  go_ret
  exact ⟨rfl, _, _, HE.out.1, HE.out.2.1, HE.out.2.2⟩

theorem would_any (a : Act) (w : World) (h : RSt base br vL vN s w) (ok : s.Ok) (tr : Tree s) (ho : a.Ok) (hp : a.p.size ≤ 1048577) (hq : a.q.size ≤ 1048577) (ht : a.t.size ≤ 140737488355328) (hn : s.now ≤ 1152921504606846976) (h8 : a.kind.tmod 10 ≠ 8) :
    Calls Tryz.prog 12 #[rptr br, actArg a] w fun e w' => e = .returned (.int .i64 (s.act a).2) ∧ ∃ vL' vN', RSt base br vL' vN' (s.act a).1 w' ∧ RTurn br w w' ∧ Fresh w.heap.size vN vN' := by
  have h0 := ho.k0
  have h1 := ho.k1
  have hnn := And.intro ho.n0 ho.n1
  have hj : a.kind.tmod 10 = 0 ∨ a.kind.tmod 10 = 1 ∨ a.kind.tmod 10 = 2 ∨ a.kind.tmod 10 = 3 ∨ a.kind.tmod 10 = 4 ∨ a.kind.tmod 10 = 5 ∨ a.kind.tmod 10 = 6 ∨ a.kind.tmod 10 = 7 ∨ a.kind.tmod 10 = 9 := by
    rw [Int.tmod_eq_emod_of_nonneg h0] at h8 ⊢; omega
  unfold St.act
  rcases hj with hj | hj | hj | hj | hj | hj | hj | hj | hj
  · have := would_0 (s := s) a.kind a.p a.q a.t a.n w h ok tr hj ⟨⟨h0, h1⟩, hp, hq, ht, hn, hnn⟩
    simpa [hj] using this
  · have := would_1 (s := s) a.kind a.p a.q a.t a.n w h ok tr hj ⟨⟨h0, h1⟩, hp, hq, ht, hn, hnn⟩
    simpa [hj] using this
  · have := would_2 (s := s) a.kind a.p a.q a.t a.n w h ok tr hj ⟨⟨h0, h1⟩, hp, hq, ht, hn, hnn⟩
    simpa [hj] using this
  · have := would_3 (s := s) a.kind a.p a.q a.t a.n w h ok tr hj ⟨⟨h0, h1⟩, hp, hq, ht, hn, hnn⟩
    simpa [hj] using this
  · have := would_4 (s := s) a.kind a.p a.q a.t a.n w h ok tr hj ⟨⟨h0, h1⟩, hp, hq, ht, hn, hnn⟩
    simpa [hj] using this
  · have := would_5 (s := s) a.kind a.p a.q a.t a.n w h ok tr hj ⟨⟨h0, h1⟩, hp, hq, ht, hn, hnn⟩
    simpa [hj] using this
  · have := would_6 (s := s) a.kind a.p a.q a.t a.n w h ok tr hj ⟨⟨h0, h1⟩, hp, hq, ht, hn, hnn⟩
    simpa [hj] using this
  · have := would_7 (s := s) a.kind a.p a.q a.t a.n w h ok tr hj ⟨⟨h0, h1⟩, hp, hq, ht, hn, hnn⟩
    simpa [hj] using this
  · have := would_9 (s := s) a.kind a.p a.q a.t a.n w h ok tr hj ⟨⟨h0, h1⟩, hp, hq, ht, hn, hnn⟩
    simpa [hj] using this
end
end Go.Proofs.YtoibdokedhbjpaaGreat
