/-
  What a set that nobody made answers.
-/
import Derived.Test.YtjbmmeneejcpbaaVRefused
namespace Go.Proofs.Ytjbmmeneejcpbaa
open Go.RowKit Go.Shelf Go.Maps

/-- A set that nobody made. -/
def No (v : Value) (w : World) : Prop := v = .pointer none ∨ ∃ b, v = ptr b ∧ b < w.heap.size ∧ w.cell? ⟨b, 0, none⟩ = some (.bool false)
theorem No.below {v : Value} {w w' : World} (h : No v w) (hb : Below w.heap.size w w') : No v w' := by
  rcases h with rfl | ⟨b, rfl, hl, hc⟩
  · exact .inl rfl
  · exact .inr ⟨b, rfl, Nat.lt_of_lt_of_le hl hb.size, (hb.cell (p := ⟨b, 0, none⟩) hl).trans hc⟩

set_option maxHeartbeats 400000 in
theorem no_ready {v : Value} (w : World) (h : No v w) : Calls Try.prog 40 #[v] w fun e w' => e = .returned (.bool false) ∧ w = w' := by
  rcases h with rfl | ⟨b, rfl, hl, hc⟩
  · go_enter Try.func40, Try.ntmps40
    go_wp2
    go_ret
    exact ⟨rfl, rfl⟩
  · clear hl
    go_enter Try.func40, Try.ntmps40
    go_wp2
    go_ret
    exact ⟨rfl, rfl⟩

section
variable {v : Value}
set_option maxHeartbeats 400000 in
theorem no_all (n : Int) (w : World) (h : No v w) : Calls Try.prog 36 #[v, .int .i64 n] w fun e w' => e = .returned (.map none) ∧ w = w' := by
  have HR : Hid (Calls Try.prog 40 #[v] w fun e w' => e = .returned (.bool false) ∧ w = w') := no_ready w h
  clear h
  go_enter Try.func36, Try.ntmps36
  go_wp2_with fail
  refine HR.out.mono ?_
  rintro e w' ⟨rfl, rfl⟩
  go_wp2
  go_ret
  exact ⟨ret_map rfl, rfl⟩

set_option maxHeartbeats 400000 in
theorem no_in (n : Int) (q : ByteArray) (w : World) (h : No v w) (hq : q.size ≤ 140737488355328) : Calls Try.prog 18 #[v, .int .i64 n, .string q] w fun e w' => e = .returned (.tuple #[.string ⟨#[]⟩, .bool false]) ∧ Below w.heap.size w w' := by
  have HA : Hid (Calls Try.prog 36 #[v, .int .i64 n] w fun e w' => e = .returned (.map none) ∧ w = w') := no_all n w h
  have hl := see_nil hq w
  clear h hq
  go_enter Try.func18, Try.ntmps18
  go_wp2_with fail
  refine HA.out.mono ?_
  rintro e w' ⟨rfl, rfl⟩
  go_wp2
  go_ret2
  exact ⟨rfl, (Below.refl _ _).alloc (Nat.le_refl _) _⟩

set_option maxHeartbeats 800000 in
theorem no_get (q : ByteArray) (w : World) (h : No v w) (hq : q.size ≤ 140737488355328) : Calls Try.prog 16 #[v, .string q] w fun e w' => e = .returned (.tuple #[.string ⟨#[]⟩, .bool false]) ∧ Below w.heap.size w w' := by
  have HI : Hid (∀ n W, Below w.heap.size w W → Calls Try.prog 18 #[v, .int .i64 n, .string q] W fun e w' => e = .returned (.tuple #[.string ⟨#[]⟩, .bool false]) ∧ Below W.heap.size W w') := fun n W hB => no_in n q W (h.below hB) hq
  clear h hq
  go_enter Try.func16, Try.ntmps16
  go_wp2
  go_loopw [6] (fun u wr => ∃ k : Nat, k ≤ 4 ∧ u = .int .i64 (5 - (k : Int)) ∧ Below w.heap.size w wr)
    (fun u _ => (5 - intOf u).toNat)
  case atStart => exact ⟨4, Nat.le_refl _, rfl, Below.refl _ _⟩
  case round =>
    obtain ⟨k, hk, rfl, hb⟩ := hrel
    cases k with
    | zero =>
      go_wp2
      go_ret2
      exact ⟨rfl, hb⟩
    | succ k =>
      obtain ⟨n, hn⟩ : ∃ n : Int, n = 5 - ((k + 1 : Nat) : Int) := ⟨_, rfl⟩
      rw [← hn]
      have h1 : 1 ≤ n := by omega
      have h4 : n ≤ 4 := by omega
      have HN : Hid (n = 5 - ((k + 1 : Nat) : Int)) := hn
      clear hn
      have HC : Hid (Calls Try.prog 18 #[v, .int .i64 n, .string q] wr fun e w' => e = .returned (.tuple #[.string ⟨#[]⟩, .bool false]) ∧ Below wr.heap.size wr w') := HI.out n wr hb
      go_wp2_with fail
      refine HC.out.mono ?_
      rintro e w2 ⟨rfl, hb2⟩
      have hb3 : Below w.heap.size w w2 := hb.trans (hb2.mono hb.size)
      go_wp2
      go_roundw
      case rel =>
        have := HN.out
        have e1 : n + 1 = 5 - (k : Int) := by omega
        exact ⟨k, by omega, by rw [← e1], hb3⟩
      case measure => simp [intOf]; omega

set_option maxHeartbeats 400000 in
theorem no_may (n : Int) (q : ByteArray) (w : World) (h : No v w) : Calls Try.prog 42 #[v, .int .i64 n, .string q] w fun e w' => e = .returned (.int .i64 2) ∧ w = w' := by
  have HR : Hid (Calls Try.prog 40 #[v] w fun e w' => e = .returned (.bool false) ∧ w = w') := no_ready w h
  clear h
  go_enter Try.func42, Try.ntmps42
  go_wp2_with fail
  refine HR.out.mono ?_
  rintro e w' ⟨rfl, rfl⟩
  go_wp2
  go_ret
  exact ⟨rfl, rfl⟩

set_option maxHeartbeats 400000 in
theorem no_put (n : Int) (q t : ByteArray) (w : World) (h : No v w) : Calls Try.prog 24 #[v, .int .i64 n, .string q, .string t] w fun e w' => e = .returned (.int .i64 2) ∧ w = w' := by
  have HR : Hid (Calls Try.prog 42 #[v, .int .i64 n, .string q] w fun e w' => e = .returned (.int .i64 2) ∧ w = w') := no_may n q w h
  clear h
  go_enter Try.func24, Try.ntmps24
  go_wp2_with fail
  refine HR.out.mono ?_
  rintro e w' ⟨rfl, rfl⟩
  go_wp2
  go_ret
  exact ⟨rfl, rfl⟩

set_option maxHeartbeats 400000 in
theorem no_add (n : Int) (q t : ByteArray) (w : World) (h : No v w) : Calls Try.prog 27 #[v, .int .i64 n, .string q, .string t] w fun e w' => e = .returned (.int .i64 2) ∧ w = w' := by
  have HR : Hid (Calls Try.prog 42 #[v, .int .i64 n, .string q] w fun e w' => e = .returned (.int .i64 2) ∧ w = w') := no_may n q w h
  clear h
  go_enter Try.func27, Try.ntmps27
  go_wp2_with fail
  refine HR.out.mono ?_
  rintro e w' ⟨rfl, rfl⟩
  go_wp2
  go_ret
  exact ⟨rfl, rfl⟩

set_option maxHeartbeats 400000 in
theorem no_dflt (n : Int) (q t : ByteArray) (w : World) (h : No v w) : Calls Try.prog 28 #[v, .int .i64 n, .string q, .string t] w fun e w' => e = .returned (.int .i64 2) ∧ w = w' := by
  have HR : Hid (Calls Try.prog 42 #[v, .int .i64 n, .string q] w fun e w' => e = .returned (.int .i64 2) ∧ w = w') := no_may n q w h
  clear h
  go_enter Try.func28, Try.ntmps28
  go_wp2_with fail
  refine HR.out.mono ?_
  rintro e w' ⟨rfl, rfl⟩
  go_wp2
  go_ret
  exact ⟨rfl, rfl⟩

set_option maxHeartbeats 400000 in
theorem no_drop (n : Int) (q : ByteArray) (w : World) (h : No v w) : Calls Try.prog 23 #[v, .int .i64 n, .string q] w fun e w' => e = .returned (.int .i64 2) ∧ w = w' := by
  have HR : Hid (Calls Try.prog 40 #[v] w fun e w' => e = .returned (.bool false) ∧ w = w') := no_ready w h
  clear h
  go_enter Try.func23, Try.ntmps23
  go_wp2_with fail
  refine HR.out.mono ?_
  rintro e w' ⟨rfl, rfl⟩
  go_wp2
  go_ret
  exact ⟨rfl, rfl⟩

set_option maxHeartbeats 400000 in
theorem no_clear (n : Int) (w : World) (h : No v w) : Calls Try.prog 26 #[v, .int .i64 n] w fun e w' => e = .returned (.int .i64 0) ∧ w = w' := by
  have HA : Hid (Calls Try.prog 36 #[v, .int .i64 n] w fun e w' => e = .returned (.map none) ∧ w = w') := no_all n w h
  have hl := fun ty W => Maps.len_nil (P := Try.prog) (w := W) Try.underlying52 ty
  have hc := clear_nil
  clear h
  go_enter Try.func26, Try.ntmps26
  go_wp2_with fail
  refine HA.out.mono ?_
  rintro e w' ⟨rfl, rfl⟩
  go_wp2
  go_ret
  exact ⟨rfl, rfl⟩

set_option maxHeartbeats 400000 in
theorem no_copy (w : World) (h : No v w) : Calls Try.prog 25 #[v] w fun e w' => e = .returned (.pointer none) ∧ w = w' := by
  have HR : Hid (Calls Try.prog 40 #[v] w fun e w' => e = .returned (.bool false) ∧ w = w') := no_ready w h
  clear h
  go_enter Try.func25, Try.ntmps25
  go_wp2_with fail
  refine HR.out.mono ?_
  rintro e w' ⟨rfl, rfl⟩
  go_wp2
  go_ret
  exact ⟨rfl, rfl⟩

set_option maxHeartbeats 1000000 in
theorem no_names (n : Int) (w : World) (h : No v w) : Calls Try.prog 21 #[v, .int .i64 n] w fun e w' => ∃ a c, e = .returned (.slice a 0 c) ∧ Below w.heap.size w w' := by
  have HA := no_all n w h
  refine (callsIn_wide (n := 6)).1 ?_
  have HA2 : Hid (CallsIn Fence.wide 5 Try.prog 36 #[v, .int .i64 n] w fun e w' => e = .returned (.map none) ∧ w = w') := callsIn_wide.2 HA
  have hfA : Fence.wide.fn 36 := trivial
  have hfK : Fence.wide.fn 38 := trivial
  have hfS : Fence.wide.fn 37 := trivial
  clear h HA
  refine callsIn_of_wp Try.func21 rfl trivial ?_ rfl
  simp only [Try.ntmps21, List.size_toArray, List.length_cons, List.length_nil, Nat.reduceAdd, Nat.reduceSub, Array.replicate_succ, Array.replicate_zero, List.push_toArray, List.append_toArray, List.nil_append, List.cons_append]
  gi_wp2_with (first
    | (gi_at_call 36; refine HA2.out.mono ?_; rintro e w' ⟨rfl, rfl⟩)
    | (gi_at_call 38; refine (Try.maps_Keys_38 _ _).mono ?_; rintro e w' ⟨rfl, rfl⟩)
    | (gi_at_call 37; refine (Try.slices_Sorted_keys_nil_37_38 w).mono ?_; rintro e w' ⟨v, ss, rfl, hS, hrow, hnil, hb⟩))
  go_ret
  subst hS
  obtain ⟨a, c, rfl⟩ := owns_slice hrow
  exact ⟨a, c, rfl, ((Below.refl _ w).alloc (Nat.le_refl _) _).trans (hb.mono (by simp))⟩
end
end Go.Proofs.Ytjbmmeneejcpbaa
