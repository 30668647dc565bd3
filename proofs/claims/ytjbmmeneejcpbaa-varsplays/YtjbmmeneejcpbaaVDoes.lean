/-
  What one call of a script answers and leaves; whether the package is alive; scripts cut short.
-/
import Derived.Test.YtjbmmeneejcpbaaVActs
namespace Go.Proofs.Ytjbmmeneejcpbaa
open Go.RowKit Go.Shelf Go.Maps

def VS.act (s : VS) (a : Act) : VS × Int :=
  if a.kind.tmod 5 = 0 then s.put a.n a.q a.t else if a.kind.tmod 5 = 1 then s.add a.n a.q a.t else if a.kind.tmod 5 = 2 then s.dflt a.n a.q a.t
  else if a.kind.tmod 5 = 3 then s.drop a.n a.q else (s.clear a.n, 0)

section
variable {base b : Nat} {m : Int → Nat} {s : VS}

set_option maxRecDepth 20000 in
set_option maxHeartbeats 400000 in
theorem does_0 (k n : Int) (q t : ByteArray) (w : World) (h : VSet base b m s w) (hk : k.tmod 5 = 0) (hall : (0 ≤ k ∧ k ≤ 255) ∧ q.size ≤ 140737488355328 ∧ t.size ≤ 140737488355328) :
    Calls Try.prog 14 #[ptr b, .agg #[.int .u8 k, .int .i64 n, .string q, .string t]] w fun e w' => e = .returned (.int .i64 (s.put n q t).2) ∧ VSet base b m (s.put n q t).1 w' ∧ Turn m w w' := by
  obtain ⟨⟨hk0, hk1⟩, hq, ht⟩ := hall
  have hwr : IntKind.u8.wrap (k.tmod 5) = k.tmod 5 := by rw [hk]; decide
  have HN : Hid (∀ W, Below w.heap.size w W → Calls Try.prog 24 #[ptr b, .int .i64 n, .string q, .string t] W fun e w' => e = .returned (.int .i64 (s.put n q t).2) ∧ VSet base b m (s.put n q t).1 w' ∧ Turn m W w') := fun W hB => put_any n q t W (h.below hB) ht
  clear h hq ht hk0 hk1
  have hb0 : Below w.heap.size w (w.alloc (.cells #[.int .u8 k, .int .i64 n, .string q, .string t] 32)) := (Below.refl _ w).alloc (Nat.le_refl _) _
  go_enter Try.func14, Try.ntmps14
  go_wp2_with fail
  refine (HN.out _ hb0).mono ?_
  rintro e w2 ⟨rfl, hst, htn⟩
  have HE : Hid (VSet base b m (s.put n q t).1 w2 ∧ Turn m w w2) := ⟨hst, (Turn.of_below hb0).trans htn⟩
  clear hst htn hb0
  go_wp2
  go_ret
  exact ⟨rfl, HE.out.1, HE.out.2⟩

set_option maxRecDepth 20000 in
set_option maxHeartbeats 400000 in
theorem does_1 (k n : Int) (q t : ByteArray) (w : World) (h : VSet base b m s w) (hk : k.tmod 5 = 1) (hall : (0 ≤ k ∧ k ≤ 255) ∧ q.size ≤ 140737488355328 ∧ t.size ≤ 140737488355328) :
    Calls Try.prog 14 #[ptr b, .agg #[.int .u8 k, .int .i64 n, .string q, .string t]] w fun e w' => e = .returned (.int .i64 (s.add n q t).2) ∧ VSet base b m (s.add n q t).1 w' ∧ Turn m w w' := by
  obtain ⟨⟨hk0, hk1⟩, hq, ht⟩ := hall
  have hwr : IntKind.u8.wrap (k.tmod 5) = k.tmod 5 := by rw [hk]; decide
  have HN : Hid (∀ W, Below w.heap.size w W → Calls Try.prog 27 #[ptr b, .int .i64 n, .string q, .string t] W fun e w' => e = .returned (.int .i64 (s.add n q t).2) ∧ VSet base b m (s.add n q t).1 w' ∧ Turn m W w') := fun W hB => add_any n q t W (h.below hB) hq ht
  clear h hq ht hk0 hk1
  have hb0 : Below w.heap.size w (w.alloc (.cells #[.int .u8 k, .int .i64 n, .string q, .string t] 32)) := (Below.refl _ w).alloc (Nat.le_refl _) _
  go_enter Try.func14, Try.ntmps14
  go_wp2_with fail
  refine (HN.out _ hb0).mono ?_
  rintro e w2 ⟨rfl, hst, htn⟩
  have HE : Hid (VSet base b m (s.add n q t).1 w2 ∧ Turn m w w2) := ⟨hst, (Turn.of_below hb0).trans htn⟩
  clear hst htn hb0
  go_wp2
  go_ret
  exact ⟨rfl, HE.out.1, HE.out.2⟩

set_option maxRecDepth 20000 in
set_option maxHeartbeats 400000 in
theorem does_2 (k n : Int) (q t : ByteArray) (w : World) (h : VSet base b m s w) (hk : k.tmod 5 = 2) (hall : (0 ≤ k ∧ k ≤ 255) ∧ q.size ≤ 140737488355328 ∧ t.size ≤ 140737488355328) :
    Calls Try.prog 14 #[ptr b, .agg #[.int .u8 k, .int .i64 n, .string q, .string t]] w fun e w' => e = .returned (.int .i64 (s.dflt n q t).2) ∧ VSet base b m (s.dflt n q t).1 w' ∧ Turn m w w' := by
  obtain ⟨⟨hk0, hk1⟩, hq, ht⟩ := hall
  have hwr : IntKind.u8.wrap (k.tmod 5) = k.tmod 5 := by rw [hk]; decide
  have HN : Hid (∀ W, Below w.heap.size w W → Calls Try.prog 28 #[ptr b, .int .i64 n, .string q, .string t] W fun e w' => e = .returned (.int .i64 (s.dflt n q t).2) ∧ VSet base b m (s.dflt n q t).1 w' ∧ Turn m W w') := fun W hB => dflt_any n q t W (h.below hB) hq ht
  clear h hq ht hk0 hk1
  have hb0 : Below w.heap.size w (w.alloc (.cells #[.int .u8 k, .int .i64 n, .string q, .string t] 32)) := (Below.refl _ w).alloc (Nat.le_refl _) _
  go_enter Try.func14, Try.ntmps14
  go_wp2_with fail
  refine (HN.out _ hb0).mono ?_
  rintro e w2 ⟨rfl, hst, htn⟩
  have HE : Hid (VSet base b m (s.dflt n q t).1 w2 ∧ Turn m w w2) := ⟨hst, (Turn.of_below hb0).trans htn⟩
  clear hst htn hb0
  go_wp2
  go_ret
  exact ⟨rfl, HE.out.1, HE.out.2⟩

set_option maxRecDepth 20000 in
set_option maxHeartbeats 400000 in
theorem does_3 (k n : Int) (q t : ByteArray) (w : World) (h : VSet base b m s w) (hk : k.tmod 5 = 3) (hall : (0 ≤ k ∧ k ≤ 255) ∧ q.size ≤ 140737488355328 ∧ t.size ≤ 140737488355328) :
    Calls Try.prog 14 #[ptr b, .agg #[.int .u8 k, .int .i64 n, .string q, .string t]] w fun e w' => e = .returned (.int .i64 (s.drop n q).2) ∧ VSet base b m (s.drop n q).1 w' ∧ Turn m w w' := by
  obtain ⟨⟨hk0, hk1⟩, hq, ht⟩ := hall
  have hwr : IntKind.u8.wrap (k.tmod 5) = k.tmod 5 := by rw [hk]; decide
  have HN : Hid (∀ W, Below w.heap.size w W → Calls Try.prog 23 #[ptr b, .int .i64 n, .string q] W fun e w' => e = .returned (.int .i64 (s.drop n q).2) ∧ VSet base b m (s.drop n q).1 w' ∧ Turn m W w') := fun W hB => drop_any n q W (h.below hB) hq
  clear h hq ht hk0 hk1
  have hb0 : Below w.heap.size w (w.alloc (.cells #[.int .u8 k, .int .i64 n, .string q, .string t] 32)) := (Below.refl _ w).alloc (Nat.le_refl _) _
  go_enter Try.func14, Try.ntmps14
  go_wp2_with fail
  refine (HN.out _ hb0).mono ?_
  rintro e w2 ⟨rfl, hst, htn⟩
  have HE : Hid (VSet base b m (s.drop n q).1 w2 ∧ Turn m w w2) := ⟨hst, (Turn.of_below hb0).trans htn⟩
  clear hst htn hb0
  go_wp2
  go_ret
  exact ⟨rfl, HE.out.1, HE.out.2⟩

set_option maxRecDepth 20000 in
set_option maxHeartbeats 400000 in
theorem does_4 (k n : Int) (q t : ByteArray) (w : World) (h : VSet base b m s w) (hk : k.tmod 5 = 4) :
    Calls Try.prog 14 #[ptr b, .agg #[.int .u8 k, .int .i64 n, .string q, .string t]] w fun e w' => e = .returned (.int .i64 0) ∧ VSet base b m (s.clear n) w' ∧ Turn m w w' := by
  have hwr : IntKind.u8.wrap (k.tmod 5) = k.tmod 5 := by rw [hk]; decide
  have HN : Hid (∀ W, Below w.heap.size w W → Calls Try.prog 26 #[ptr b, .int .i64 n] W fun e w' => e = .returned (.int .i64 (s n).length) ∧ VSet base b m (s.clear n) w' ∧ Turn m W w') := fun W hB => clear_any n W (h.below hB)
  clear h
  have hb0 : Below w.heap.size w (w.alloc (.cells #[.int .u8 k, .int .i64 n, .string q, .string t] 32)) := (Below.refl _ w).alloc (Nat.le_refl _) _
  go_enter Try.func14, Try.ntmps14
  go_wp2_with fail
  refine (HN.out _ hb0).mono ?_
  rintro e w2 ⟨rfl, hst, htn⟩
  have HE : Hid (VSet base b m (s.clear n) w2 ∧ Turn m w w2) := ⟨hst, (Turn.of_below hb0).trans htn⟩
  clear hst htn hb0
  go_wp2
  go_ret
  exact ⟨rfl, HE.out.1, HE.out.2⟩

abbrev actArg (a : Act) : Value := .agg #[.int .u8 a.kind, .int .i64 a.n, .string a.q, .string a.t]
/-- What a call of a script may be. -/
def Act.Fine (a : Act) : Prop := a.Ok ∧ a.q.size ≤ 140737488355328 ∧ a.t.size ≤ 140737488355328

theorem does_any (a : Act) (w : World) (h : VSet base b m s w) (ha : a.Fine) :
    Calls Try.prog 14 #[ptr b, actArg a] w fun e w' => e = .returned (.int .i64 (s.act a).2) ∧ VSet base b m (s.act a).1 w' ∧ Turn m w w' := by
  obtain ⟨k, n, q, t⟩ := a
  obtain ⟨⟨hk0, hk1, _, _⟩, hq, ht⟩ := ha
  simp only at hk0 hk1 hq ht
  have hm : k.tmod 5 = 0 ∨ k.tmod 5 = 1 ∨ k.tmod 5 = 2 ∨ k.tmod 5 = 3 ∨ k.tmod 5 = 4 := by
    have h1 := Int.tmod_eq_emod_of_nonneg (b := 5) hk0
    omega
  unfold VS.act actArg
  simp only
  rcases hm with e | e | e | e | e
  · rw [if_pos e]; exact does_0 k n q t w h e ⟨⟨hk0, hk1⟩, hq, ht⟩
  · rw [if_neg (by omega), if_pos e]; exact does_1 k n q t w h e ⟨⟨hk0, hk1⟩, hq, ht⟩
  · rw [if_neg (by omega), if_neg (by omega), if_pos e]; exact does_2 k n q t w h e ⟨⟨hk0, hk1⟩, hq, ht⟩
  · rw [if_neg (by omega), if_neg (by omega), if_neg (by omega), if_pos e]; exact does_3 k n q t w h e ⟨⟨hk0, hk1⟩, hq, ht⟩
  · rw [if_neg (by omega), if_neg (by omega), if_neg (by omega), if_neg (by omega)]; exact does_4 k n q t w h e
end
end Go.Proofs.Ytjbmmeneejcpbaa
