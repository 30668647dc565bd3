/-
  What one call of a script answers and leaves.
-/
import Derived.Test.YtoibdokedhbjpaaGreatMethE
import Derived.Test.YtoibdokedhbjpaaGreatActs
namespace Go.Proofs.YtoibdokedhbjpaaGreat
open Go.RowKit Go.Shelf Go.Maps

def oddN (n : Int) : Bool := bits BinOp.and IntKind.i64 n 1 == 1
def St.act (s : St) (a : Act) : St × Int :=
  if a.kind.tmod 10 = 0 then s.write a.p a.t else if a.kind.tmod 10 = 1 then s.append a.p a.t else if a.kind.tmod 10 = 2 then ((s.read a.p).1, (s.read a.p).2.2)
  else if a.kind.tmod 10 = 3 then s.remove a.p else if a.kind.tmod 10 = 4 then s.move a.p a.q else if a.kind.tmod 10 = 5 then s.mkdir a.p else if a.kind.tmod 10 = 6 then s.touch a.p
  else if a.kind.tmod 10 = 7 then (s.later a.n, 0) else if a.kind.tmod 10 = 8 then (s.tell (oddN a.n), 0) else (s, (s.list a.p).2)

abbrev actArg (a : Act) : Value := .agg #[.int .u8 a.kind, .string a.p, .string a.q, .string a.t, .int .i64 a.n]
section
variable {base b m : Nat} {v : Value} {s : St}

set_option maxRecDepth 20000 in
set_option maxHeartbeats 400000 in
theorem does_0 (k : Int) (p q t : ByteArray) (n : Int) (w : World) (h : Store base b m v s w) (hk : k.tmod 10 = 0) (hall : (0 ≤ k ∧ k ≤ 255) ∧ p.size ≤ 1048577 ∧ q.size ≤ 1048577 ∧ t.size ≤ 140737488355328 ∧ s.now ≤ 1152921504606846976) :
    Calls Tryz.prog 11 #[ptr b, .agg #[.int .u8 k, .string p, .string q, .string t, .int .i64 n]] w fun e w' => e = .returned (.int .i64 ((s.write p t).2)) ∧ ∃ v', Store base b m v' ((s.write p t).1) w' ∧ Turn b m v v' w w' := by
  obtain ⟨⟨hk0, hk1⟩, hp, hq, ht, hn⟩ := hall
  have HN : Hid (∀ W, Below w.heap.size w W → Calls Tryz.prog 25 #[ptr b, .string p, .string t] W fun e w' => e = .returned (.int .i64 (s.write p t).2) ∧ ∃ v', Store base b m v' (s.write p t).1 w' ∧ Turn b m v v' W w') := fun W hB => write_any p t W (h.below hB) hp ht (by omega)
  have HS : Hid (∀ W, Below w.heap.size w W → Store base b m v s W) := fun W hB => h.below hB
  clear h hp hq ht hn
  have hb0 : Below w.heap.size w (w.alloc (.cells #[.int .u8 k, .string p, .string q, .string t, .int .i64 n] 36)) := (Below.refl _ w).alloc (Nat.le_refl _) _
  go_enter Tryz.func11, Tryz.ntmps11
  go_wp2_with fail
  refine (HN.out _ hb0).mono ?_
  rintro e w2 ⟨rfl, v', hst, htn⟩
  have HE : Hid (Store base b m v' (s.write p t).1 w2 ∧ Turn b m v v' w w2) := ⟨hst, (Turn.of_below hb0).trans htn⟩
  clear hst htn hb0
  go_wp2
  go_ret
  exact ⟨rfl, _, HE.out.1, HE.out.2⟩

set_option maxRecDepth 20000 in
set_option maxHeartbeats 400000 in
theorem does_1 (k : Int) (p q t : ByteArray) (n : Int) (w : World) (h : Store base b m v s w) (hk : k.tmod 10 = 1) (hall : (0 ≤ k ∧ k ≤ 255) ∧ p.size ≤ 1048577 ∧ q.size ≤ 1048577 ∧ t.size ≤ 140737488355328 ∧ s.now ≤ 1152921504606846976) :
    Calls Tryz.prog 11 #[ptr b, .agg #[.int .u8 k, .string p, .string q, .string t, .int .i64 n]] w fun e w' => e = .returned (.int .i64 ((s.append p t).2)) ∧ ∃ v', Store base b m v' ((s.append p t).1) w' ∧ Turn b m v v' w w' := by
  obtain ⟨⟨hk0, hk1⟩, hp, hq, ht, hn⟩ := hall
  have HN : Hid (∀ W, Below w.heap.size w W → Calls Tryz.prog 28 #[ptr b, .string p, .string t] W fun e w' => e = .returned (.int .i64 (s.append p t).2) ∧ ∃ v', Store base b m v' (s.append p t).1 w' ∧ Turn b m v v' W w') := fun W hB => append_any p t W (h.below hB) hp ht (by omega)
  have HS : Hid (∀ W, Below w.heap.size w W → Store base b m v s W) := fun W hB => h.below hB
  clear h hp hq ht hn
  have hb0 : Below w.heap.size w (w.alloc (.cells #[.int .u8 k, .string p, .string q, .string t, .int .i64 n] 36)) := (Below.refl _ w).alloc (Nat.le_refl _) _
  go_enter Tryz.func11, Tryz.ntmps11
  go_wp2_with fail
  refine (HN.out _ hb0).mono ?_
  rintro e w2 ⟨rfl, v', hst, htn⟩
  have HE : Hid (Store base b m v' (s.append p t).1 w2 ∧ Turn b m v v' w w2) := ⟨hst, (Turn.of_below hb0).trans htn⟩
  clear hst htn hb0
  go_wp2
  go_ret
  exact ⟨rfl, _, HE.out.1, HE.out.2⟩

set_option maxRecDepth 20000 in
set_option maxHeartbeats 400000 in
theorem does_2 (k : Int) (p q t : ByteArray) (n : Int) (w : World) (h : Store base b m v s w) (hk : k.tmod 10 = 2) (hall : (0 ≤ k ∧ k ≤ 255) ∧ p.size ≤ 1048577 ∧ q.size ≤ 1048577 ∧ t.size ≤ 140737488355328 ∧ s.now ≤ 1152921504606846976) :
    Calls Tryz.prog 11 #[ptr b, .agg #[.int .u8 k, .string p, .string q, .string t, .int .i64 n]] w fun e w' => e = .returned (.int .i64 ((s.read p).2.2)) ∧ ∃ v', Store base b m v' ((s.read p).1) w' ∧ Turn b m v v' w w' := by
  obtain ⟨⟨hk0, hk1⟩, hp, hq, ht, hn⟩ := hall
  have HN : Hid (∀ W, Below w.heap.size w W → Calls Tryz.prog 23 #[ptr b, .string p] W fun e w' => e = .returned (readV (s.read p).2) ∧ ∃ v', Store base b m v' (s.read p).1 w' ∧ Turn b m v v' W w') := fun W hB => read_any p W (h.below hB) (by omega)
  have HS : Hid (∀ W, Below w.heap.size w W → Store base b m v s W) := fun W hB => h.below hB
  clear h hp hq ht hn
  have hb0 : Below w.heap.size w (w.alloc (.cells #[.int .u8 k, .string p, .string q, .string t, .int .i64 n] 36)) := (Below.refl _ w).alloc (Nat.le_refl _) _
  go_enter Tryz.func11, Tryz.ntmps11
  go_wp2_with fail
  refine (HN.out _ hb0).mono ?_
  rintro e w2 ⟨rfl, v', hst, htn⟩
  unfold readV
  have HE : Hid (Store base b m v' (s.read p).1 w2 ∧ Turn b m v v' w w2) := ⟨hst, (Turn.of_below hb0).trans htn⟩
  clear hst htn hb0
  go_wp2
  go_ret
  exact ⟨rfl, _, HE.out.1, HE.out.2⟩

set_option maxRecDepth 20000 in
set_option maxHeartbeats 400000 in
theorem does_3 (k : Int) (p q t : ByteArray) (n : Int) (w : World) (h : Store base b m v s w) (hk : k.tmod 10 = 3) (hall : (0 ≤ k ∧ k ≤ 255) ∧ p.size ≤ 1048577 ∧ q.size ≤ 1048577 ∧ t.size ≤ 140737488355328 ∧ s.now ≤ 1152921504606846976) :
    Calls Tryz.prog 11 #[ptr b, .agg #[.int .u8 k, .string p, .string q, .string t, .int .i64 n]] w fun e w' => e = .returned (.int .i64 ((s.remove p).2)) ∧ ∃ v', Store base b m v' ((s.remove p).1) w' ∧ Turn b m v v' w w' := by
  obtain ⟨⟨hk0, hk1⟩, hp, hq, ht, hn⟩ := hall
  have HN : Hid (∀ W, Below w.heap.size w W → Calls Tryz.prog 29 #[ptr b, .string p] W fun e w' => e = .returned (.int .i64 (s.remove p).2) ∧ ∃ v', Store base b m v' (s.remove p).1 w' ∧ Turn b m v v' W w') := fun W hB => remove_any p W (h.below hB) hp (by omega)
  have HS : Hid (∀ W, Below w.heap.size w W → Store base b m v s W) := fun W hB => h.below hB
  clear h hp hq ht hn
  have hb0 : Below w.heap.size w (w.alloc (.cells #[.int .u8 k, .string p, .string q, .string t, .int .i64 n] 36)) := (Below.refl _ w).alloc (Nat.le_refl _) _
  go_enter Tryz.func11, Tryz.ntmps11
  go_wp2_with fail
  refine (HN.out _ hb0).mono ?_
  rintro e w2 ⟨rfl, v', hst, htn⟩
  have HE : Hid (Store base b m v' (s.remove p).1 w2 ∧ Turn b m v v' w w2) := ⟨hst, (Turn.of_below hb0).trans htn⟩
  clear hst htn hb0
  go_wp2
  go_ret
  exact ⟨rfl, _, HE.out.1, HE.out.2⟩

set_option maxRecDepth 20000 in
set_option maxHeartbeats 400000 in
theorem does_4 (k : Int) (p q t : ByteArray) (n : Int) (w : World) (h : Store base b m v s w) (hk : k.tmod 10 = 4) (hall : (0 ≤ k ∧ k ≤ 255) ∧ p.size ≤ 1048577 ∧ q.size ≤ 1048577 ∧ t.size ≤ 140737488355328 ∧ s.now ≤ 1152921504606846976) :
    Calls Tryz.prog 11 #[ptr b, .agg #[.int .u8 k, .string p, .string q, .string t, .int .i64 n]] w fun e w' => e = .returned (.int .i64 ((s.move p q).2)) ∧ ∃ v', Store base b m v' ((s.move p q).1) w' ∧ Turn b m v v' w w' := by
  obtain ⟨⟨hk0, hk1⟩, hp, hq, ht, hn⟩ := hall
  have HN : Hid (∀ W, Below w.heap.size w W → Calls Tryz.prog 30 #[ptr b, .string p, .string q] W fun e w' => e = .returned (.int .i64 (s.move p q).2) ∧ ∃ v', Store base b m v' (s.move p q).1 w' ∧ Turn b m v v' W w') := fun W hB => move_any p q W (h.below hB) hp hq (by omega)
  have HS : Hid (∀ W, Below w.heap.size w W → Store base b m v s W) := fun W hB => h.below hB
  clear h hp hq ht hn
  have hb0 : Below w.heap.size w (w.alloc (.cells #[.int .u8 k, .string p, .string q, .string t, .int .i64 n] 36)) := (Below.refl _ w).alloc (Nat.le_refl _) _
  go_enter Tryz.func11, Tryz.ntmps11
  go_wp2_with fail
  refine (HN.out _ hb0).mono ?_
  rintro e w2 ⟨rfl, v', hst, htn⟩
  have HE : Hid (Store base b m v' (s.move p q).1 w2 ∧ Turn b m v v' w w2) := ⟨hst, (Turn.of_below hb0).trans htn⟩
  clear hst htn hb0
  go_wp2
  go_ret
  exact ⟨rfl, _, HE.out.1, HE.out.2⟩

set_option maxRecDepth 20000 in
set_option maxHeartbeats 400000 in
theorem does_5 (k : Int) (p q t : ByteArray) (n : Int) (w : World) (h : Store base b m v s w) (hk : k.tmod 10 = 5) (hall : (0 ≤ k ∧ k ≤ 255) ∧ p.size ≤ 1048577 ∧ q.size ≤ 1048577 ∧ t.size ≤ 140737488355328 ∧ s.now ≤ 1152921504606846976) :
    Calls Tryz.prog 11 #[ptr b, .agg #[.int .u8 k, .string p, .string q, .string t, .int .i64 n]] w fun e w' => e = .returned (.int .i64 ((s.mkdir p).2)) ∧ ∃ v', Store base b m v' ((s.mkdir p).1) w' ∧ Turn b m v v' w w' := by
  obtain ⟨⟨hk0, hk1⟩, hp, hq, ht, hn⟩ := hall
  have HN : Hid (∀ W, Below w.heap.size w W → Calls Tryz.prog 31 #[ptr b, .string p] W fun e w' => e = .returned (.int .i64 (s.mkdir p).2) ∧ ∃ v', Store base b m v' (s.mkdir p).1 w' ∧ Turn b m v v' W w') := fun W hB => mkdir_any p W (h.below hB) hp (by omega)
  have HS : Hid (∀ W, Below w.heap.size w W → Store base b m v s W) := fun W hB => h.below hB
  clear h hp hq ht hn
  have hb0 : Below w.heap.size w (w.alloc (.cells #[.int .u8 k, .string p, .string q, .string t, .int .i64 n] 36)) := (Below.refl _ w).alloc (Nat.le_refl _) _
  go_enter Tryz.func11, Tryz.ntmps11
  go_wp2_with fail
  refine (HN.out _ hb0).mono ?_
  rintro e w2 ⟨rfl, v', hst, htn⟩
  have HE : Hid (Store base b m v' (s.mkdir p).1 w2 ∧ Turn b m v v' w w2) := ⟨hst, (Turn.of_below hb0).trans htn⟩
  clear hst htn hb0
  go_wp2
  go_ret
  exact ⟨rfl, _, HE.out.1, HE.out.2⟩

set_option maxRecDepth 20000 in
set_option maxHeartbeats 400000 in
theorem does_6 (k : Int) (p q t : ByteArray) (n : Int) (w : World) (h : Store base b m v s w) (hk : k.tmod 10 = 6) (hall : (0 ≤ k ∧ k ≤ 255) ∧ p.size ≤ 1048577 ∧ q.size ≤ 1048577 ∧ t.size ≤ 140737488355328 ∧ s.now ≤ 1152921504606846976) :
    Calls Tryz.prog 11 #[ptr b, .agg #[.int .u8 k, .string p, .string q, .string t, .int .i64 n]] w fun e w' => e = .returned (.int .i64 ((s.touch p).2)) ∧ ∃ v', Store base b m v' ((s.touch p).1) w' ∧ Turn b m v v' w w' := by
  obtain ⟨⟨hk0, hk1⟩, hp, hq, ht, hn⟩ := hall
  have HN : Hid (∀ W, Below w.heap.size w W → Calls Tryz.prog 26 #[ptr b, .string p] W fun e w' => e = .returned (.int .i64 (s.touch p).2) ∧ ∃ v', Store base b m v' (s.touch p).1 w' ∧ Turn b m v v' W w') := fun W hB => touch_any p W (h.below hB) hp (by omega)
  have HS : Hid (∀ W, Below w.heap.size w W → Store base b m v s W) := fun W hB => h.below hB
  clear h hp hq ht hn
  have hb0 : Below w.heap.size w (w.alloc (.cells #[.int .u8 k, .string p, .string q, .string t, .int .i64 n] 36)) := (Below.refl _ w).alloc (Nat.le_refl _) _
  go_enter Tryz.func11, Tryz.ntmps11
  go_wp2_with fail
  refine (HN.out _ hb0).mono ?_
  rintro e w2 ⟨rfl, v', hst, htn⟩
  have HE : Hid (Store base b m v' (s.touch p).1 w2 ∧ Turn b m v v' w w2) := ⟨hst, (Turn.of_below hb0).trans htn⟩
  clear hst htn hb0
  go_wp2
  go_ret
  exact ⟨rfl, _, HE.out.1, HE.out.2⟩

set_option maxRecDepth 20000 in
set_option maxHeartbeats 400000 in
theorem does_7 (k : Int) (p q t : ByteArray) (n : Int) (w : World) (h : Store base b m v s w) (hk : k.tmod 10 = 7) (hall : (0 ≤ k ∧ k ≤ 255) ∧ p.size ≤ 1048577 ∧ q.size ≤ 1048577 ∧ t.size ≤ 140737488355328 ∧ s.now ≤ 1152921504606846976) :
    Calls Tryz.prog 11 #[ptr b, .agg #[.int .u8 k, .string p, .string q, .string t, .int .i64 n]] w fun e w' => e = .returned (.int .i64 (0)) ∧ ∃ v', Store base b m v' (s.later n) w' ∧ Turn b m v v' w w' := by
  obtain ⟨⟨hk0, hk1⟩, hp, hq, ht, hn⟩ := hall
  have HN : Hid (∀ W, Below w.heap.size w W → Calls Tryz.prog 32 #[ptr b, .int .i64 n] W fun e w' => e = .returned (.tuple #[]) ∧ Store base b m v (s.later n) w' ∧ Turn b m v v W w') := fun W hB => later_any n W (h.below hB) hn
  have HS : Hid (∀ W, Below w.heap.size w W → Store base b m v s W) := fun W hB => h.below hB
  clear h hp hq ht hn
  have hb0 : Below w.heap.size w (w.alloc (.cells #[.int .u8 k, .string p, .string q, .string t, .int .i64 n] 36)) := (Below.refl _ w).alloc (Nat.le_refl _) _
  go_enter Tryz.func11, Tryz.ntmps11
  go_wp2_with fail
  refine (HN.out _ hb0).mono ?_
  rintro e w2 ⟨rfl, hst, htn⟩
  have HE : Hid (Store base b m v (s.later n) w2 ∧ Turn b m v v w w2) := ⟨hst, (Turn.of_below hb0).trans htn⟩
  clear hst htn hb0
  go_wp2
  go_ret
  exact ⟨rfl, _, HE.out.1, HE.out.2⟩

set_option maxRecDepth 20000 in
set_option maxHeartbeats 400000 in
theorem does_8 (k : Int) (p q t : ByteArray) (n : Int) (w : World) (h : Store base b m v s w) (hk : k.tmod 10 = 8) (hall : (0 ≤ k ∧ k ≤ 255) ∧ p.size ≤ 1048577 ∧ q.size ≤ 1048577 ∧ t.size ≤ 140737488355328 ∧ s.now ≤ 1152921504606846976) :
    Calls Tryz.prog 11 #[ptr b, .agg #[.int .u8 k, .string p, .string q, .string t, .int .i64 n]] w fun e w' => e = .returned (.int .i64 (0)) ∧ ∃ v', Store base b m v' (s.tell (oddN n)) w' ∧ Turn b m v v' w w' := by
  obtain ⟨⟨hk0, hk1⟩, hp, hq, ht, hn⟩ := hall
  have HN : Hid (∀ W, Below w.heap.size w W → Calls Tryz.prog 9 #[ptr b, .bool (bits BinOp.and IntKind.i64 n 1 == 1)] W fun e w' => e = .returned v ∧ Store base b m (.slice none 0 0) (s.tell (oddN n)) w' ∧ w'.ownsRow base 74 2 v s.notes.length (notesV s.notes) ∧ Turn b m v (.slice none 0 0) W w') := fun W hB => notes_any _ W (h.below hB)
  have HS : Hid (∀ W, Below w.heap.size w W → Store base b m v s W) := fun W hB => h.below hB
  clear h hp hq ht hn
  have hb0 : Below w.heap.size w (w.alloc (.cells #[.int .u8 k, .string p, .string q, .string t, .int .i64 n] 36)) := (Below.refl _ w).alloc (Nat.le_refl _) _
  go_enter Tryz.func11, Tryz.ntmps11
  go_wp2_with fail
  refine (HN.out _ hb0).mono ?_
  rintro e w2 ⟨rfl, hst, _, htn⟩
  have HE : Hid (Store base b m (.slice none 0 0) (s.tell (oddN n)) w2 ∧ Turn b m v (.slice none 0 0) w w2) := ⟨hst, (Turn.of_below hb0).trans htn⟩
  clear hst htn hb0
  go_wp2
  go_ret
  exact ⟨rfl, _, HE.out.1, HE.out.2⟩

set_option maxRecDepth 20000 in
set_option maxHeartbeats 400000 in
theorem does_9 (k : Int) (p q t : ByteArray) (n : Int) (w : World) (h : Store base b m v s w) (hk : k.tmod 10 = 9) (hall : (0 ≤ k ∧ k ≤ 255) ∧ p.size ≤ 1048577 ∧ q.size ≤ 1048577 ∧ t.size ≤ 140737488355328 ∧ s.now ≤ 1152921504606846976) :
    Calls Tryz.prog 11 #[ptr b, .agg #[.int .u8 k, .string p, .string q, .string t, .int .i64 n]] w fun e w' => e = .returned (.int .i64 ((s.list p).2)) ∧ ∃ v', Store base b m v' (s) w' ∧ Turn b m v v' w w' := by
  obtain ⟨⟨hk0, hk1⟩, hp, hq, ht, hn⟩ := hall
  have HN : Hid (∀ W, Below w.heap.size w W → Calls Tryz.prog 18 #[ptr b, .string p] W fun e w' => ∃ u, e = .returned (listV u (s.list p).2) ∧ Told W.heap.size w' u (s.list p).1 ∧ Below W.heap.size W w') := fun W hB => list_any p W (h.below hB) (by omega)
  have HS : Hid (∀ W, Below w.heap.size w W → Store base b m v s W) := fun W hB => h.below hB
  clear h hp hq ht hn
  have hb0 : Below w.heap.size w (w.alloc (.cells #[.int .u8 k, .string p, .string q, .string t, .int .i64 n] 36)) := (Below.refl _ w).alloc (Nat.le_refl _) _
  go_enter Tryz.func11, Tryz.ntmps11
  go_wp2_with fail
  refine (HN.out _ hb0).mono ?_
  rintro e w2 ⟨u, rfl, _, hb2⟩
  unfold listV
  have hbb := hb0.trans (hb2.mono (by simp))
  have HE : Hid (Store base b m v s w2 ∧ Turn b m v v w w2) := ⟨HS.out _ hbb, Turn.of_below hbb⟩
  clear hb0 hb2 hbb
  go_wp2
  go_ret
  exact ⟨rfl, _, HE.out.1, HE.out.2⟩

theorem does_any (a : Act) (w : World) (h : Store base b m v s w) (ho : a.Ok) (hp : a.p.size ≤ 1048577) (hq : a.q.size ≤ 1048577) (ht : a.t.size ≤ 140737488355328) (hn : s.now ≤ 1152921504606846976) :
    Calls Tryz.prog 11 #[ptr b, actArg a] w fun e w' => e = .returned (.int .i64 (s.act a).2) ∧ ∃ v', Store base b m v' (s.act a).1 w' ∧ Turn b m v v' w w' := by
  have h0 := ho.k0
  have h1 := ho.k1
  have hj : a.kind.tmod 10 = 0 ∨ a.kind.tmod 10 = 1 ∨ a.kind.tmod 10 = 2 ∨ a.kind.tmod 10 = 3 ∨ a.kind.tmod 10 = 4 ∨ a.kind.tmod 10 = 5 ∨ a.kind.tmod 10 = 6 ∨ a.kind.tmod 10 = 7 ∨ a.kind.tmod 10 = 8 ∨ a.kind.tmod 10 = 9 := by
    rw [Int.tmod_eq_emod_of_nonneg h0]; omega
  unfold St.act
  rcases hj with hj | hj | hj | hj | hj | hj | hj | hj | hj | hj
  · have := does_0 (s := s) a.kind a.p a.q a.t a.n w h hj ⟨⟨h0, h1⟩, hp, hq, ht, hn⟩
    simpa [hj] using this
  · have := does_1 (s := s) a.kind a.p a.q a.t a.n w h hj ⟨⟨h0, h1⟩, hp, hq, ht, hn⟩
    simpa [hj] using this
  · have := does_2 (s := s) a.kind a.p a.q a.t a.n w h hj ⟨⟨h0, h1⟩, hp, hq, ht, hn⟩
    simpa [hj] using this
  · have := does_3 (s := s) a.kind a.p a.q a.t a.n w h hj ⟨⟨h0, h1⟩, hp, hq, ht, hn⟩
    simpa [hj] using this
  · have := does_4 (s := s) a.kind a.p a.q a.t a.n w h hj ⟨⟨h0, h1⟩, hp, hq, ht, hn⟩
    simpa [hj] using this
  · have := does_5 (s := s) a.kind a.p a.q a.t a.n w h hj ⟨⟨h0, h1⟩, hp, hq, ht, hn⟩
    simpa [hj] using this
  · have := does_6 (s := s) a.kind a.p a.q a.t a.n w h hj ⟨⟨h0, h1⟩, hp, hq, ht, hn⟩
    simpa [hj] using this
  · have := does_7 (s := s) a.kind a.p a.q a.t a.n w h hj ⟨⟨h0, h1⟩, hp, hq, ht, hn⟩
    simpa [hj] using this
  · have := does_8 (s := s) a.kind a.p a.q a.t a.n w h hj ⟨⟨h0, h1⟩, hp, hq, ht, hn⟩
    simpa [hj] using this
  · have := does_9 (s := s) a.kind a.p a.q a.t a.n w h hj ⟨⟨h0, h1⟩, hp, hq, ht, hn⟩
    simpa [hj] using this
end
end Go.Proofs.YtoibdokedhbjpaaGreat
