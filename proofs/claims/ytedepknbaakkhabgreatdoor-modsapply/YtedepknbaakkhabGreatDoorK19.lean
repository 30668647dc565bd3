/-
  PPuts PThing
-/
import Derived.Test.YtedepknbaakkhabGreatDoorK17
import Derived.Test.YtedepknbaakkhabGreatDoorK18
set_option maxRecDepth 20000
namespace Go.Proofs.YtedepknbaakkhabGreatDoor.X
open Go.RowKit Go.Shelf RxSem
def puts (B : Nat) : Nat → List Value → World → World
  | _, [], w => w
  | i, v :: vs, w => puts B (i + 1) vs (w.setCell ⟨B, i, none⟩ v)
theorem puts_only (B : Nat) : ∀ (vs : List Value) (i : Nat) (w : World), Only B w (puts B i vs w)
  | [], _, _ => Only.refl _ _
  | _ :: vs, i, _ => (Only.set _ _ _ _).trans (puts_only B vs (i + 1) _)
theorem puts_heap (B : Nat) {T : TypeId} : ∀ (vs : List Value) (pre : List Value) (w : World) (cs : List Value), w.heap[B]? = some (.cells (pre ++ cs).toArray T (0, 0)) → cs.length = vs.length → (puts B pre.length vs w).heap[B]? = some (.cells (pre ++ vs).toArray T (0, 0))
  | [], pre, w, cs, h, hl => by
    have : cs = [] := List.length_eq_zero_iff.1 hl
    subst this; exact h
  | v :: vs, pre, w, cs, h, hl => by
    cases cs with
    | nil => cases hl
    | cons c cs =>
      have h1 := heap_set (i := pre.length) h v
      have e : (pre ++ c :: cs).toArray.setIfInBounds pre.length v = ((pre ++ [v]) ++ cs).toArray := by
        rw [List.setIfInBounds_toArray]
        congr 1
        rw [List.set_append_right _ _ (Nat.le_refl _)]
        simp
      rw [e] at h1
      have := puts_heap B vs (pre ++ [v]) _ cs h1 (by simpa using hl)
      rw [List.length_append, List.length_singleton] at this
      simpa [puts] using this
theorem puts_all {B : Nat} {T : TypeId} {w : World} {cs : Array Value} (h : w.heap[B]? = some (.cells cs T (0, 0))) (vs : List Value) (hl : cs.size = vs.length) : (puts B 0 vs w).heap[B]? = some (.cells vs.toArray T (0, 0)) := by
  have := puts_heap B vs [] w cs.toList (by simpa using h) (by simpa using hl)
  simpa using this
theorem Wrote.only {b B : Nat} {w w1 w9 : World} (h : Wrote b w w1) (hB : w.heap.size ≤ B) (hO : Only B w1 w9) : Wrote b w w9 :=
  ⟨hO.os.trans h.os, hO.tape.trans h.tape, hO.output.trans h.output, by rw [hO.size]; exact h.size, fun j hj hb => (hO.block j (by omega)).trans (h.block j hj hb)⟩
structure SG where
  m : UInt8
  v : SV
def signC (x : SG) : List Value := .int .u8 (x.m.toNat : Int) :: stepC x.v
def signV (x : SG) : Value := .agg (signC x).toArray
def SG.abs (x : SG) : Sg := if x.m = 0 then .thing x.v.abs else .mark x.m
theorem two (w : World) (o1 o2 : Obj) : ∃ W, W = (w.alloc o1).alloc o2 ∧ Below w.heap.size w W ∧ W.heap.size = w.heap.size + 2 ∧ W.heap[w.heap.size]? = some o1 ∧ W.heap[w.heap.size + 1]? = some o2 := by
  refine ⟨_, rfl, ((Below.refl _ _).alloc (Nat.le_refl _) _).alloc (by simp) _, by simp, ?_, ?_⟩
  · rw [Below.heap_alloc _ _ _ (by simp)]; exact heap_alloc_new _ _
  · have := heap_alloc_new (w.alloc o1) o2
    simpa using this
end Go.Proofs.YtedepknbaakkhabGreatDoor.X
namespace Go.Proofs.YtedepknbaakkhabGreatDoor.X
open Go.RowKit Go.Shelf RxSem
theorem one_has (c : UInt8) : (W4.zero.addN c.toNat (c.toNat + 1 - c.toNat)).has = fun x => x == c := by
  have hc : c.toNat < 256 := c.toNat_lt
  funext x
  rw [W4.addN_has _ _ _ (by omega), W4.zero_has, Bool.false_or, Bool.eq_iff_iff, decide_eq_true_iff, beq_iff_eq, u8_eq_iff]
  omega
set_option maxHeartbeats 800000 in
theorem thing_94 {b : Nat} {t : ByteArray} {i o : Nat} {ah : Bool} (w : World) (h : Rd b t i o ah w) (ht : t.size ≤ 1000000) (hi : i < t.size) (hc : t[i].toNat = 94) : Calls Tryz.prog 148 #[.pointer (some ⟨b, 0, none⟩)] w (ThingPost b t o ah w (.inl (.first, (bl t).drop (i + 1)))) := by
  have hb := h.lt
  obtain ⟨W0, hW, hB, hS, k1, k2⟩ := two w (.cells #[.int .i64 0, .int .u64 0, .int .u64 0, .int .u64 0, .int .u64 0, .int .i64 0, .int .i64 0] 146) (.cells #[.int .i64 0, .int .i64 0] 28)
  have h0 := h.below hB
  have c0 := h0.c0
  have c1 := h0.c1
  have fr := h0.fr
  have b0 : ¬ b = w.heap.size := by omega
  have b1 : ¬ b = w.heap.size + 1 := by omega
  have hi2 : (i : Int) < (t.size : Int) := by omega
  have s0 : W0.cell? ⟨w.heap.size, 0, none⟩ = some (.int .i64 0) := by simp only [World.cell?, k1]; rfl
  have s1 : W0.cell? ⟨w.heap.size, 1, none⟩ = some (.int .u64 0) := by simp only [World.cell?, k1]; rfl
  have s2 : W0.cell? ⟨w.heap.size, 2, none⟩ = some (.int .u64 0) := by simp only [World.cell?, k1]; rfl
  have s3 : W0.cell? ⟨w.heap.size, 3, none⟩ = some (.int .u64 0) := by simp only [World.cell?, k1]; rfl
  have s4 : W0.cell? ⟨w.heap.size, 4, none⟩ = some (.int .u64 0) := by simp only [World.cell?, k1]; rfl
  have s5 : W0.cell? ⟨w.heap.size, 5, none⟩ = some (.int .i64 0) := by simp only [World.cell?, k1]; rfl
  have s6 : W0.cell? ⟨w.heap.size, 6, none⟩ = some (.int .i64 0) := by simp only [World.cell?, k1]; rfl
  have sf : ∀ j, W0.frozen? ⟨w.heap.size, j, none⟩ = false := fun j => by simp [World.frozen?, k1]
  have t0 : W0.cell? ⟨w.heap.size + 1, 0, none⟩ = some (.int .i64 0) := by simp only [World.cell?, k2]; rfl
  have t1 : W0.cell? ⟨w.heap.size + 1, 1, none⟩ = some (.int .i64 0) := by simp only [World.cell?, k2]; rfl
  have tf : ∀ j, W0.frozen? ⟨w.heap.size + 1, j, none⟩ = false := fun j => by simp [World.frozen?, k2]
  have HW : Hid (Below w.heap.size w W0 ∧ Rd b t i o ah W0 ∧ W0.heap[w.heap.size]? = _ ∧ W0.heap[w.heap.size + 1]? = _ ∧ W0.heap.size = w.heap.size + 2) := ⟨hB, h0, k1, k2, hS⟩
  clear h h0 hB hS k1 k2
  go_enter Tryz.func148, Tryz.ntmps148
  go_wp2_with fail
  rw [← hW]
  clear hW
  go_wp2_with fail
  go_quiet (fail)
  go_wp2_with fail
  refine bodyPost_ret (by simp [results, Tryz.results148, go_sem, s0, s1, s2, s3, s4, s5, s6, t0, t1]; try rfl) rfl ?_
  exact ⟨Wrote.only (Wrote.only (((Wrote.of_below HW.out.1).drewN _).set _) (Nat.le_refl _) (puts_only w.heap.size [.int .i64 1, .int .u64 0, .int .u64 0, .int .u64 0, .int .u64 0, .int .i64 0, .int .i64 0] 0 _)) (by omega) (puts_only (w.heap.size + 1) [.int .i64 0, .int .i64 0] 0 _), ⟨1, W4.zero, 0, 0⟩, ⟨W4.zero_ok, by simp, by simp, by simp⟩, rfl, rfl, (i + 1), ((puts_only (w.heap.size + 1) [.int .i64 0, .int .i64 0] 0 _).block b b1).trans (((puts_only w.heap.size [.int .i64 1, .int .u64 0, .int .u64 0, .int .u64 0, .int .u64 0, .int .i64 0, .int .i64 0] 0 _).block b b0).trans (Rd.set1 (w := W0.drewN nq) HW.out.2.1 (i + 1))), by omega, rfl⟩
set_option maxHeartbeats 800000 in
theorem thing_36 {b : Nat} {t : ByteArray} {i o : Nat} {ah : Bool} (w : World) (h : Rd b t i o ah w) (ht : t.size ≤ 1000000) (hi : i < t.size) (hc : t[i].toNat = 36) : Calls Tryz.prog 148 #[.pointer (some ⟨b, 0, none⟩)] w (ThingPost b t o ah w (.inl (.last, (bl t).drop (i + 1)))) := by
  have hb := h.lt
  obtain ⟨W0, hW, hB, hS, k1, k2⟩ := two w (.cells #[.int .i64 0, .int .u64 0, .int .u64 0, .int .u64 0, .int .u64 0, .int .i64 0, .int .i64 0] 146) (.cells #[.int .i64 0, .int .i64 0] 28)
  have h0 := h.below hB
  have c0 := h0.c0
  have c1 := h0.c1
  have fr := h0.fr
  have b0 : ¬ b = w.heap.size := by omega
  have b1 : ¬ b = w.heap.size + 1 := by omega
  have hi2 : (i : Int) < (t.size : Int) := by omega
  have s0 : W0.cell? ⟨w.heap.size, 0, none⟩ = some (.int .i64 0) := by simp only [World.cell?, k1]; rfl
  have s1 : W0.cell? ⟨w.heap.size, 1, none⟩ = some (.int .u64 0) := by simp only [World.cell?, k1]; rfl
  have s2 : W0.cell? ⟨w.heap.size, 2, none⟩ = some (.int .u64 0) := by simp only [World.cell?, k1]; rfl
  have s3 : W0.cell? ⟨w.heap.size, 3, none⟩ = some (.int .u64 0) := by simp only [World.cell?, k1]; rfl
  have s4 : W0.cell? ⟨w.heap.size, 4, none⟩ = some (.int .u64 0) := by simp only [World.cell?, k1]; rfl
  have s5 : W0.cell? ⟨w.heap.size, 5, none⟩ = some (.int .i64 0) := by simp only [World.cell?, k1]; rfl
  have s6 : W0.cell? ⟨w.heap.size, 6, none⟩ = some (.int .i64 0) := by simp only [World.cell?, k1]; rfl
  have sf : ∀ j, W0.frozen? ⟨w.heap.size, j, none⟩ = false := fun j => by simp [World.frozen?, k1]
  have t0 : W0.cell? ⟨w.heap.size + 1, 0, none⟩ = some (.int .i64 0) := by simp only [World.cell?, k2]; rfl
  have t1 : W0.cell? ⟨w.heap.size + 1, 1, none⟩ = some (.int .i64 0) := by simp only [World.cell?, k2]; rfl
  have tf : ∀ j, W0.frozen? ⟨w.heap.size + 1, j, none⟩ = false := fun j => by simp [World.frozen?, k2]
  have HW : Hid (Below w.heap.size w W0 ∧ Rd b t i o ah W0 ∧ W0.heap[w.heap.size]? = _ ∧ W0.heap[w.heap.size + 1]? = _ ∧ W0.heap.size = w.heap.size + 2) := ⟨hB, h0, k1, k2, hS⟩
  clear h h0 hB hS k1 k2
  go_enter Tryz.func148, Tryz.ntmps148
  go_wp2_with fail
  rw [← hW]
  clear hW
  go_wp2_with fail
  go_quiet (fail)
  go_wp2_with fail
  refine bodyPost_ret (by simp [results, Tryz.results148, go_sem, s0, s1, s2, s3, s4, s5, s6, t0, t1]; try rfl) rfl ?_
  exact ⟨Wrote.only (Wrote.only (((Wrote.of_below HW.out.1).drewN _).set _) (Nat.le_refl _) (puts_only w.heap.size [.int .i64 2, .int .u64 0, .int .u64 0, .int .u64 0, .int .u64 0, .int .i64 0, .int .i64 0] 0 _)) (by omega) (puts_only (w.heap.size + 1) [.int .i64 0, .int .i64 0] 0 _), ⟨2, W4.zero, 0, 0⟩, ⟨W4.zero_ok, by simp, by simp, by simp⟩, rfl, rfl, (i + 1), ((puts_only (w.heap.size + 1) [.int .i64 0, .int .i64 0] 0 _).block b b1).trans (((puts_only w.heap.size [.int .i64 2, .int .u64 0, .int .u64 0, .int .u64 0, .int .u64 0, .int .i64 0, .int .i64 0] 0 _).block b b0).trans (Rd.set1 (w := W0.drewN nq) HW.out.2.1 (i + 1))), by omega, rfl⟩
set_option maxHeartbeats 800000 in
theorem thing_46 {b : Nat} {t : ByteArray} {i o : Nat} {ah : Bool} (w : World) (h : Rd b t i o ah w) (ht : t.size ≤ 1000000) (hi : i < t.size) (hc : t[i].toNat = 46) : Calls Tryz.prog 148 #[.pointer (some ⟨b, 0, none⟩)] w (ThingPost b t o ah w (.inl (.take fun _ => true, (bl t).drop (i + 1)))) := by
  have hb := h.lt
  obtain ⟨W0, hW, hB, hS, k1, k2⟩ := two w (.cells #[.int .i64 0, .int .u64 0, .int .u64 0, .int .u64 0, .int .u64 0, .int .i64 0, .int .i64 0] 146) (.cells #[.int .i64 0, .int .i64 0] 28)
  have h0 := h.below hB
  have c0 := h0.c0
  have c1 := h0.c1
  have fr := h0.fr
  have b0 : ¬ b = w.heap.size := by omega
  have b1 : ¬ b = w.heap.size + 1 := by omega
  have hi2 : (i : Int) < (t.size : Int) := by omega
  have s0 : W0.cell? ⟨w.heap.size, 0, none⟩ = some (.int .i64 0) := by simp only [World.cell?, k1]; rfl
  have s1 : W0.cell? ⟨w.heap.size, 1, none⟩ = some (.int .u64 0) := by simp only [World.cell?, k1]; rfl
  have s2 : W0.cell? ⟨w.heap.size, 2, none⟩ = some (.int .u64 0) := by simp only [World.cell?, k1]; rfl
  have s3 : W0.cell? ⟨w.heap.size, 3, none⟩ = some (.int .u64 0) := by simp only [World.cell?, k1]; rfl
  have s4 : W0.cell? ⟨w.heap.size, 4, none⟩ = some (.int .u64 0) := by simp only [World.cell?, k1]; rfl
  have s5 : W0.cell? ⟨w.heap.size, 5, none⟩ = some (.int .i64 0) := by simp only [World.cell?, k1]; rfl
  have s6 : W0.cell? ⟨w.heap.size, 6, none⟩ = some (.int .i64 0) := by simp only [World.cell?, k1]; rfl
  have sf : ∀ j, W0.frozen? ⟨w.heap.size, j, none⟩ = false := fun j => by simp [World.frozen?, k1]
  have t0 : W0.cell? ⟨w.heap.size + 1, 0, none⟩ = some (.int .i64 0) := by simp only [World.cell?, k2]; rfl
  have t1 : W0.cell? ⟨w.heap.size + 1, 1, none⟩ = some (.int .i64 0) := by simp only [World.cell?, k2]; rfl
  have tf : ∀ j, W0.frozen? ⟨w.heap.size + 1, j, none⟩ = false := fun j => by simp [World.frozen?, k2]
  have HW : Hid (Below w.heap.size w W0 ∧ Rd b t i o ah W0 ∧ W0.heap[w.heap.size]? = _ ∧ W0.heap[w.heap.size + 1]? = _ ∧ W0.heap.size = w.heap.size + 2) := ⟨hB, h0, k1, k2, hS⟩
  have HO : Hid (∀ W, Calls Tryz.prog 169 #[.agg #[.int .u64 0, .int .u64 0, .int .u64 0, .int .u64 0]] W fun e w' => e = .returned (setV W4.zero.not) ∧ Below W.heap.size W w') := fun W => others_any W4.zero W4.zero_ok W
  clear h h0 hB hS k1 k2
  go_enter Tryz.func148, Tryz.ntmps148
  go_wp2_with fail
  rw [← hW]
  clear hW
  go_wp2_with fail
  go_quiet (fail)
  go_wp2_with fail
  refine (HO.out ((W0.drewN nq).setCell ⟨b, 1, none⟩ (.int .i64 ((i : Int) + 1)))).mono ?_
  rintro e w1 ⟨rfl, hb1⟩
  have HH1 : Hid (w1.heap[w.heap.size]? = W0.heap[w.heap.size]? ∧ w1.heap[w.heap.size + 1]? = W0.heap[w.heap.size + 1]? ∧ Wrote b w w1 ∧ Rd b t (i + 1) o ah w1) := by
    have u : ∀ j, j ≠ b → j < W0.heap.size → w1.heap[j]? = W0.heap[j]? := fun j hj hl => (hb1.block j (by rw [size_set]; exact hl)).trans (Below.heap_setCell _ _ _ _ hj)
    have hs := HW.out.2.2.2.2
    exact ⟨u _ (Ne.symm b0) (by omega), u _ (Ne.symm b1) (by omega), (((Wrote.of_below HW.out.1).drewN _).set _).trans (.of_below hb1), Rd.below (Rd.set1 (w := W0.drewN nq) HW.out.2.1 (i + 1)) hb1⟩
  have s0 : w1.cell? ⟨w.heap.size, 0, none⟩ = some (.int .i64 0) := by simp only [World.cell?, HH1.out.1, HW.out.2.2.1]; rfl
  have s1 : w1.cell? ⟨w.heap.size, 1, none⟩ = some (.int .u64 0) := by simp only [World.cell?, HH1.out.1, HW.out.2.2.1]; rfl
  have s2 : w1.cell? ⟨w.heap.size, 2, none⟩ = some (.int .u64 0) := by simp only [World.cell?, HH1.out.1, HW.out.2.2.1]; rfl
  have s3 : w1.cell? ⟨w.heap.size, 3, none⟩ = some (.int .u64 0) := by simp only [World.cell?, HH1.out.1, HW.out.2.2.1]; rfl
  have s4 : w1.cell? ⟨w.heap.size, 4, none⟩ = some (.int .u64 0) := by simp only [World.cell?, HH1.out.1, HW.out.2.2.1]; rfl
  have s5 : w1.cell? ⟨w.heap.size, 5, none⟩ = some (.int .i64 0) := by simp only [World.cell?, HH1.out.1, HW.out.2.2.1]; rfl
  have s6 : w1.cell? ⟨w.heap.size, 6, none⟩ = some (.int .i64 0) := by simp only [World.cell?, HH1.out.1, HW.out.2.2.1]; rfl
  have sf : ∀ j, w1.frozen? ⟨w.heap.size, j, none⟩ = false := fun j => by simp [World.frozen?, HH1.out.1, HW.out.2.2.1]
  have t0 : w1.cell? ⟨w.heap.size + 1, 0, none⟩ = some (.int .i64 0) := by simp only [World.cell?, HH1.out.2.1, HW.out.2.2.2.1]; rfl
  have t1 : w1.cell? ⟨w.heap.size + 1, 1, none⟩ = some (.int .i64 0) := by simp only [World.cell?, HH1.out.2.1, HW.out.2.2.2.1]; rfl
  have tf : ∀ j, w1.frozen? ⟨w.heap.size + 1, j, none⟩ = false := fun j => by simp [World.frozen?, HH1.out.2.1, HW.out.2.2.2.1]
  clear hb1
  unfold setV
  go_wp2_with fail
  refine bodyPost_ret (by simp [results, Tryz.results148, go_sem, s0, s1, s2, s3, s4, s5, s6, t0, t1]; try rfl) rfl ?_
  exact ⟨Wrote.only (Wrote.only (HH1.out.2.2.1) (Nat.le_refl _) (puts_only w.heap.size [.int .i64 0, .int .u64 (W4.zero.not.a : Int), .int .u64 (W4.zero.not.b : Int), .int .u64 (W4.zero.not.c : Int), .int .u64 (W4.zero.not.d : Int), .int .i64 0, .int .i64 0] 0 _)) (by omega) (puts_only (w.heap.size + 1) [.int .i64 0, .int .i64 0] 0 _), ⟨0, W4.zero.not, 0, 0⟩, ⟨W4.not_ok _, by simp, by simp, by simp⟩, (by simp only [SV.abs]; congr 1; funext c; rw [W4.not_has _ W4.zero_ok, W4.zero_has]; rfl), rfl, (i + 1), ((puts_only (w.heap.size + 1) [.int .i64 0, .int .i64 0] 0 _).block b b1).trans (((puts_only w.heap.size [.int .i64 0, .int .u64 (W4.zero.not.a : Int), .int .u64 (W4.zero.not.b : Int), .int .u64 (W4.zero.not.c : Int), .int .u64 (W4.zero.not.d : Int), .int .i64 0, .int .i64 0] 0 _).block b b0).trans (HH1.out.2.2.2)), by omega, rfl⟩
set_option maxHeartbeats 800000 in
theorem thing_byte {b : Nat} {t : ByteArray} {i o : Nat} {ah : Bool} (w : World) (h : Rd b t i o ah w) (ht : t.size ≤ 1000000) (hi : i < t.size) (hc : ¬ t[i].toNat = 94 ∧ ¬ t[i].toNat = 36 ∧ ¬ t[i].toNat = 46 ∧ ¬ t[i].toNat = 91 ∧ ¬ t[i].toNat = 92) : Calls Tryz.prog 148 #[.pointer (some ⟨b, 0, none⟩)] w (ThingPost b t o ah w (.inl (.take fun x => x == t[i], (bl t).drop (i + 1)))) := by
  have hb := h.lt
  obtain ⟨W0, hW, hB, hS, k1, k2⟩ := two w (.cells #[.int .i64 0, .int .u64 0, .int .u64 0, .int .u64 0, .int .u64 0, .int .i64 0, .int .i64 0] 146) (.cells #[.int .i64 0, .int .i64 0] 28)
  have h0 := h.below hB
  have c0 := h0.c0
  have c1 := h0.c1
  have fr := h0.fr
  have b0 : ¬ b = w.heap.size := by omega
  have b1 : ¬ b = w.heap.size + 1 := by omega
  have hi2 : (i : Int) < (t.size : Int) := by omega
  have s0 : W0.cell? ⟨w.heap.size, 0, none⟩ = some (.int .i64 0) := by simp only [World.cell?, k1]; rfl
  have s1 : W0.cell? ⟨w.heap.size, 1, none⟩ = some (.int .u64 0) := by simp only [World.cell?, k1]; rfl
  have s2 : W0.cell? ⟨w.heap.size, 2, none⟩ = some (.int .u64 0) := by simp only [World.cell?, k1]; rfl
  have s3 : W0.cell? ⟨w.heap.size, 3, none⟩ = some (.int .u64 0) := by simp only [World.cell?, k1]; rfl
  have s4 : W0.cell? ⟨w.heap.size, 4, none⟩ = some (.int .u64 0) := by simp only [World.cell?, k1]; rfl
  have s5 : W0.cell? ⟨w.heap.size, 5, none⟩ = some (.int .i64 0) := by simp only [World.cell?, k1]; rfl
  have s6 : W0.cell? ⟨w.heap.size, 6, none⟩ = some (.int .i64 0) := by simp only [World.cell?, k1]; rfl
  have sf : ∀ j, W0.frozen? ⟨w.heap.size, j, none⟩ = false := fun j => by simp [World.frozen?, k1]
  have t0 : W0.cell? ⟨w.heap.size + 1, 0, none⟩ = some (.int .i64 0) := by simp only [World.cell?, k2]; rfl
  have t1 : W0.cell? ⟨w.heap.size + 1, 1, none⟩ = some (.int .i64 0) := by simp only [World.cell?, k2]; rfl
  have tf : ∀ j, W0.frozen? ⟨w.heap.size + 1, j, none⟩ = false := fun j => by simp [World.frozen?, k2]
  have HW : Hid (Below w.heap.size w W0 ∧ Rd b t i o ah W0 ∧ W0.heap[w.heap.size]? = _ ∧ W0.heap[w.heap.size + 1]? = _ ∧ W0.heap.size = w.heap.size + 2) := ⟨hB, h0, k1, k2, hS⟩
  obtain ⟨d1, d2, d3, d4, d5⟩ := hc
  obtain ⟨c, hcc⟩ : ∃ c, c = t[i] := ⟨_, rfl⟩
  have HC : Hid (c = t[i]) := hcc
  have HO : Hid (∀ W, Calls Tryz.prog 171 #[.agg #[.int .u64 0, .int .u64 0, .int .u64 0, .int .u64 0], .int .u8 (t[i].toNat : Int), .int .u8 (t[i].toNat : Int)] W fun e w' => e = .returned (setV (W4.zero.addN c.toNat (c.toNat + 1 - c.toNat))) ∧ Below W.heap.size W w') := fun W => by rw [hcc]; exact with_any W4.zero W4.zero_ok t[i] t[i] W
  obtain ⟨y, hy⟩ : ∃ y, y = W4.zero.addN c.toNat (c.toNat + 1 - c.toNat) := ⟨_, rfl⟩
  have HY : Hid (y.Ok ∧ y.has = fun x => x == c) := ⟨by rw [hy]; exact W4.addN_ok W4.zero_ok _ _, by rw [hy]; exact one_has c⟩
  rw [← hy] at HO
  clear hy hcc
  clear h h0 hB hS k1 k2
  go_enter Tryz.func148, Tryz.ntmps148
  go_wp2_with fail
  rw [← hW]
  clear hW
  go_wp2_with fail
  go_quiet (fail)
  go_wp2_with fail
  refine (HO.out ((W0.drewN nq).setCell ⟨b, 1, none⟩ (.int .i64 ((i : Int) + 1)))).mono ?_
  rintro e w1 ⟨rfl, hb1⟩
  have HH1 : Hid (w1.heap[w.heap.size]? = W0.heap[w.heap.size]? ∧ w1.heap[w.heap.size + 1]? = W0.heap[w.heap.size + 1]? ∧ Wrote b w w1 ∧ Rd b t (i + 1) o ah w1) := by
    have u : ∀ j, j ≠ b → j < W0.heap.size → w1.heap[j]? = W0.heap[j]? := fun j hj hl => (hb1.block j (by rw [size_set]; exact hl)).trans (Below.heap_setCell _ _ _ _ hj)
    have hs := HW.out.2.2.2.2
    exact ⟨u _ (Ne.symm b0) (by omega), u _ (Ne.symm b1) (by omega), (((Wrote.of_below HW.out.1).drewN _).set _).trans (.of_below hb1), Rd.below (Rd.set1 (w := W0.drewN nq) HW.out.2.1 (i + 1)) hb1⟩
  have s0 : w1.cell? ⟨w.heap.size, 0, none⟩ = some (.int .i64 0) := by simp only [World.cell?, HH1.out.1, HW.out.2.2.1]; rfl
  have s1 : w1.cell? ⟨w.heap.size, 1, none⟩ = some (.int .u64 0) := by simp only [World.cell?, HH1.out.1, HW.out.2.2.1]; rfl
  have s2 : w1.cell? ⟨w.heap.size, 2, none⟩ = some (.int .u64 0) := by simp only [World.cell?, HH1.out.1, HW.out.2.2.1]; rfl
  have s3 : w1.cell? ⟨w.heap.size, 3, none⟩ = some (.int .u64 0) := by simp only [World.cell?, HH1.out.1, HW.out.2.2.1]; rfl
  have s4 : w1.cell? ⟨w.heap.size, 4, none⟩ = some (.int .u64 0) := by simp only [World.cell?, HH1.out.1, HW.out.2.2.1]; rfl
  have s5 : w1.cell? ⟨w.heap.size, 5, none⟩ = some (.int .i64 0) := by simp only [World.cell?, HH1.out.1, HW.out.2.2.1]; rfl
  have s6 : w1.cell? ⟨w.heap.size, 6, none⟩ = some (.int .i64 0) := by simp only [World.cell?, HH1.out.1, HW.out.2.2.1]; rfl
  have sf : ∀ j, w1.frozen? ⟨w.heap.size, j, none⟩ = false := fun j => by simp [World.frozen?, HH1.out.1, HW.out.2.2.1]
  have t0 : w1.cell? ⟨w.heap.size + 1, 0, none⟩ = some (.int .i64 0) := by simp only [World.cell?, HH1.out.2.1, HW.out.2.2.2.1]; rfl
  have t1 : w1.cell? ⟨w.heap.size + 1, 1, none⟩ = some (.int .i64 0) := by simp only [World.cell?, HH1.out.2.1, HW.out.2.2.2.1]; rfl
  have tf : ∀ j, w1.frozen? ⟨w.heap.size + 1, j, none⟩ = false := fun j => by simp [World.frozen?, HH1.out.2.1, HW.out.2.2.2.1]
  clear hb1
  unfold setV
  go_wp2_with fail
  refine bodyPost_ret (by simp [results, Tryz.results148, go_sem, s0, s1, s2, s3, s4, s5, s6, t0, t1]; try rfl) rfl ?_
  rw [← HC.out]
  exact ⟨Wrote.only (Wrote.only (HH1.out.2.2.1) (Nat.le_refl _) (puts_only w.heap.size [.int .i64 0, .int .u64 (y.a : Int), .int .u64 (y.b : Int), .int .u64 (y.c : Int), .int .u64 (y.d : Int), .int .i64 0, .int .i64 0] 0 _)) (by omega) (puts_only (w.heap.size + 1) [.int .i64 0, .int .i64 0] 0 _), ⟨0, y, 0, 0⟩, ⟨HY.out.1, by simp, by simp, by simp⟩, (by simp only [SV.abs]; rw [HY.out.2]), rfl, (i + 1), ((puts_only (w.heap.size + 1) [.int .i64 0, .int .i64 0] 0 _).block b b1).trans (((puts_only w.heap.size [.int .i64 0, .int .u64 (y.a : Int), .int .u64 (y.b : Int), .int .u64 (y.c : Int), .int .u64 (y.d : Int), .int .i64 0, .int .i64 0] 0 _).block b b0).trans (HH1.out.2.2.2)), by omega, rfl⟩
set_option maxHeartbeats 800000 in
theorem thing_92no {b : Nat} {t : ByteArray} {i o : Nat} {ah : Bool} (w : World) (h : Rd b t i o ah w) (ht : t.size ≤ 1000000) (hi : i < t.size) (hc : t[i].toNat = 92) (he : i + 1 = t.size) : Calls Tryz.prog 148 #[.pointer (some ⟨b, 0, none⟩)] w (ThingPost b t o ah w (.inr (4, 0))) := by
  have hb := h.lt
  obtain ⟨W0, hW, hB, hS, k1, k2⟩ := two w (.cells #[.int .i64 0, .int .u64 0, .int .u64 0, .int .u64 0, .int .u64 0, .int .i64 0, .int .i64 0] 146) (.cells #[.int .i64 0, .int .i64 0] 28)
  have h0 := h.below hB
  have c0 := h0.c0
  have c1 := h0.c1
  have fr := h0.fr
  have b0 : ¬ b = w.heap.size := by omega
  have b1 : ¬ b = w.heap.size + 1 := by omega
  have hi2 : (i : Int) < (t.size : Int) := by omega
  have s0 : W0.cell? ⟨w.heap.size, 0, none⟩ = some (.int .i64 0) := by simp only [World.cell?, k1]; rfl
  have s1 : W0.cell? ⟨w.heap.size, 1, none⟩ = some (.int .u64 0) := by simp only [World.cell?, k1]; rfl
  have s2 : W0.cell? ⟨w.heap.size, 2, none⟩ = some (.int .u64 0) := by simp only [World.cell?, k1]; rfl
  have s3 : W0.cell? ⟨w.heap.size, 3, none⟩ = some (.int .u64 0) := by simp only [World.cell?, k1]; rfl
  have s4 : W0.cell? ⟨w.heap.size, 4, none⟩ = some (.int .u64 0) := by simp only [World.cell?, k1]; rfl
  have s5 : W0.cell? ⟨w.heap.size, 5, none⟩ = some (.int .i64 0) := by simp only [World.cell?, k1]; rfl
  have s6 : W0.cell? ⟨w.heap.size, 6, none⟩ = some (.int .i64 0) := by simp only [World.cell?, k1]; rfl
  have sf : ∀ j, W0.frozen? ⟨w.heap.size, j, none⟩ = false := fun j => by simp [World.frozen?, k1]
  have t0 : W0.cell? ⟨w.heap.size + 1, 0, none⟩ = some (.int .i64 0) := by simp only [World.cell?, k2]; rfl
  have t1 : W0.cell? ⟨w.heap.size + 1, 1, none⟩ = some (.int .i64 0) := by simp only [World.cell?, k2]; rfl
  have tf : ∀ j, W0.frozen? ⟨w.heap.size + 1, j, none⟩ = false := fun j => by simp [World.frozen?, k2]
  have HW : Hid (Below w.heap.size w W0 ∧ Rd b t i o ah W0 ∧ W0.heap[w.heap.size]? = _ ∧ W0.heap[w.heap.size + 1]? = _ ∧ W0.heap.size = w.heap.size + 2) := ⟨hB, h0, k1, k2, hS⟩
  have HO : Hid (∀ W, Rd b t (i + 1) o ah W → Calls Tryz.prog 115 #[.pointer (some ⟨b, 0, none⟩)] W fun e w' => e = .returned (faultV 4 t.size) ∧ Below W.heap.size W w') := fun W hW => missing_any W hW
  have he2 : (i : Int) + 1 = (t.size : Int) := by omega
  clear h h0 hB hS k1 k2
  go_enter Tryz.func148, Tryz.ntmps148
  go_wp2_with fail
  rw [← hW]
  clear hW
  go_wp2_with fail
  go_quiet (fail)
  go_wp2_with fail
  obtain ⟨W2, hW2⟩ : ∃ W2, W2 = (W0.drewN nq).setCell ⟨b, 1, none⟩ (.int .i64 ((t.size : Int))) := ⟨_, rfl⟩
  have HH2 : Hid (W2.heap[w.heap.size]? = W0.heap[w.heap.size]? ∧ W2.heap[w.heap.size + 1]? = W0.heap[w.heap.size + 1]? ∧ Wrote b w W2 ∧ Rd b t (i + 1) o ah W2 ∧ W2.heap.size = W0.heap.size) := by
    rw [hW2]
    exact ⟨Below.heap_setCell _ _ _ _ (Ne.symm b0), Below.heap_setCell _ _ _ _ (Ne.symm b1), ((Wrote.of_below HW.out.1).drewN _).set _, by rw [← he2]; exact Rd.set1 (w := W0.drewN nq) HW.out.2.1 (i + 1), size_set _ _ _⟩
  rw [← hW2]
  clear hW2 nq
  clear c0 c1 fr s0 s1 s2 s3 s4 s5 s6 sf t0 t1 tf
  have c0 := HH2.out.2.2.2.1.c0
  have c1 := HH2.out.2.2.2.1.c1
  have fr := HH2.out.2.2.2.1.fr
  rw [show ((i + 1 : Nat) : Int) = (t.size : Int) by omega] at c1
  go_quiet (fail)
  go_wp2_with fail
  refine (HO.out (W2.drewN nq) HH2.out.2.2.2.1).mono ?_
  rintro e w1 ⟨rfl, hb1⟩
  have HH1 : Hid (w1.heap[w.heap.size]? = W0.heap[w.heap.size]? ∧ w1.heap[w.heap.size + 1]? = W0.heap[w.heap.size + 1]? ∧ Wrote b w w1 ∧ Rd b t (i + 1) o ah w1) := by
    have hs := HW.out.2.2.2.2
    have hs2 := HH2.out.2.2.2.2
    exact ⟨(hb1.block _ (by show _ < W2.heap.size; omega)).trans HH2.out.1, (hb1.block _ (by show _ < W2.heap.size; omega)).trans HH2.out.2.1, (HH2.out.2.2.1.drewN _).trans (.of_below hb1), Rd.below (w := W2.drewN nq) HH2.out.2.2.2.1 hb1⟩
  have s0 : w1.cell? ⟨w.heap.size, 0, none⟩ = some (.int .i64 0) := by simp only [World.cell?, HH1.out.1, HW.out.2.2.1]; rfl
  have s1 : w1.cell? ⟨w.heap.size, 1, none⟩ = some (.int .u64 0) := by simp only [World.cell?, HH1.out.1, HW.out.2.2.1]; rfl
  have s2 : w1.cell? ⟨w.heap.size, 2, none⟩ = some (.int .u64 0) := by simp only [World.cell?, HH1.out.1, HW.out.2.2.1]; rfl
  have s3 : w1.cell? ⟨w.heap.size, 3, none⟩ = some (.int .u64 0) := by simp only [World.cell?, HH1.out.1, HW.out.2.2.1]; rfl
  have s4 : w1.cell? ⟨w.heap.size, 4, none⟩ = some (.int .u64 0) := by simp only [World.cell?, HH1.out.1, HW.out.2.2.1]; rfl
  have s5 : w1.cell? ⟨w.heap.size, 5, none⟩ = some (.int .i64 0) := by simp only [World.cell?, HH1.out.1, HW.out.2.2.1]; rfl
  have s6 : w1.cell? ⟨w.heap.size, 6, none⟩ = some (.int .i64 0) := by simp only [World.cell?, HH1.out.1, HW.out.2.2.1]; rfl
  have sf : ∀ j, w1.frozen? ⟨w.heap.size, j, none⟩ = false := fun j => by simp [World.frozen?, HH1.out.1, HW.out.2.2.1]
  have t0 : w1.cell? ⟨w.heap.size + 1, 0, none⟩ = some (.int .i64 0) := by simp only [World.cell?, HH1.out.2.1, HW.out.2.2.2.1]; rfl
  have t1 : w1.cell? ⟨w.heap.size + 1, 1, none⟩ = some (.int .i64 0) := by simp only [World.cell?, HH1.out.2.1, HW.out.2.2.2.1]; rfl
  have tf : ∀ j, w1.frozen? ⟨w.heap.size + 1, j, none⟩ = false := fun j => by simp [World.frozen?, HH1.out.2.1, HW.out.2.2.2.1]
  clear hb1
  unfold faultV
  go_wp2_with fail
  refine bodyPost_ret (by simp [results, Tryz.results148, go_sem, s0, s1, s2, s3, s4, s5, s6, t0, t1]; try rfl) rfl ?_
  exact ⟨Wrote.only (Wrote.only HH1.out.2.2.1 (Nat.le_refl _) (puts_only w.heap.size [.int .i64 0, .int .u64 0, .int .u64 0, .int .u64 0, .int .u64 0, .int .i64 0, .int .i64 0] 0 _)) (by omega) (puts_only (w.heap.size + 1) [.int .i64 4, .int .i64 (t.size : Int)] 0 _), SV.zero, i + 1, rfl, ((puts_only (w.heap.size + 1) [.int .i64 4, .int .i64 (t.size : Int)] 0 _).block b b1).trans (((puts_only w.heap.size [.int .i64 0, .int .u64 0, .int .u64 0, .int .u64 0, .int .u64 0, .int .i64 0, .int .i64 0] 0 _).block b b0).trans HH1.out.2.2.2)⟩
set_option maxHeartbeats 800000 in
theorem thing_92 {b : Nat} {t : ByteArray} {i o : Nat} {ah : Bool} (w : World) (h : Rd b t i o ah w) (ht : t.size ≤ 1000000) (hi : i < t.size) (hc : t[i].toNat = 92) (j : Nat) (hj : j = i + 1) (he : j < t.size) : Calls Tryz.prog 148 #[.pointer (some ⟨b, 0, none⟩)] w (ThingPost b t o ah w (.inl (.take fun x => x == t[j], (bl t).drop (j + 1)))) := by
  have hb := h.lt
  obtain ⟨W0, hW, hB, hS, k1, k2⟩ := two w (.cells #[.int .i64 0, .int .u64 0, .int .u64 0, .int .u64 0, .int .u64 0, .int .i64 0, .int .i64 0] 146) (.cells #[.int .i64 0, .int .i64 0] 28)
  have h0 := h.below hB
  have c0 := h0.c0
  have c1 := h0.c1
  have fr := h0.fr
  have b0 : ¬ b = w.heap.size := by omega
  have b1 : ¬ b = w.heap.size + 1 := by omega
  have hi2 : (i : Int) < (t.size : Int) := by omega
  have s0 : W0.cell? ⟨w.heap.size, 0, none⟩ = some (.int .i64 0) := by simp only [World.cell?, k1]; rfl
  have s1 : W0.cell? ⟨w.heap.size, 1, none⟩ = some (.int .u64 0) := by simp only [World.cell?, k1]; rfl
  have s2 : W0.cell? ⟨w.heap.size, 2, none⟩ = some (.int .u64 0) := by simp only [World.cell?, k1]; rfl
  have s3 : W0.cell? ⟨w.heap.size, 3, none⟩ = some (.int .u64 0) := by simp only [World.cell?, k1]; rfl
  have s4 : W0.cell? ⟨w.heap.size, 4, none⟩ = some (.int .u64 0) := by simp only [World.cell?, k1]; rfl
  have s5 : W0.cell? ⟨w.heap.size, 5, none⟩ = some (.int .i64 0) := by simp only [World.cell?, k1]; rfl
  have s6 : W0.cell? ⟨w.heap.size, 6, none⟩ = some (.int .i64 0) := by simp only [World.cell?, k1]; rfl
  have sf : ∀ j, W0.frozen? ⟨w.heap.size, j, none⟩ = false := fun j => by simp [World.frozen?, k1]
  have t0 : W0.cell? ⟨w.heap.size + 1, 0, none⟩ = some (.int .i64 0) := by simp only [World.cell?, k2]; rfl
  have t1 : W0.cell? ⟨w.heap.size + 1, 1, none⟩ = some (.int .i64 0) := by simp only [World.cell?, k2]; rfl
  have tf : ∀ j, W0.frozen? ⟨w.heap.size + 1, j, none⟩ = false := fun j => by simp [World.frozen?, k2]
  have HW : Hid (Below w.heap.size w W0 ∧ Rd b t i o ah W0 ∧ W0.heap[w.heap.size]? = _ ∧ W0.heap[w.heap.size + 1]? = _ ∧ W0.heap.size = w.heap.size + 2) := ⟨hB, h0, k1, k2, hS⟩
  have he2 : ¬ (j : Int) = (t.size : Int) := by omega
  have he3 : (j : Int) < (t.size : Int) := by omega
  obtain ⟨c, hcc⟩ : ∃ c, c = t[j] := ⟨_, rfl⟩
  have HC : Hid (c = t[j]) := hcc
  have HJ : Hid (j = i + 1) := hj
  have HO : Hid (∀ W, Calls Tryz.prog 171 #[.agg #[.int .u64 0, .int .u64 0, .int .u64 0, .int .u64 0], .int .u8 (t[j].toNat : Int), .int .u8 (t[j].toNat : Int)] W fun e w' => e = .returned (setV (W4.zero.addN c.toNat (c.toNat + 1 - c.toNat))) ∧ Below W.heap.size W w') := fun W => by rw [hcc]; exact with_any W4.zero W4.zero_ok t[j] t[j] W
  obtain ⟨y, hy⟩ : ∃ y, y = W4.zero.addN c.toNat (c.toNat + 1 - c.toNat) := ⟨_, rfl⟩
  have HY : Hid (y.Ok ∧ y.has = fun x => x == c) := ⟨by rw [hy]; exact W4.addN_ok W4.zero_ok _ _, by rw [hy]; exact one_has c⟩
  rw [← hy] at HO
  clear hy hcc hj
  clear h h0 hB hS k1 k2
  go_enter Tryz.func148, Tryz.ntmps148
  go_wp2_with fail
  rw [← hW]
  clear hW
  go_wp2_with fail
  go_quiet (fail)
  go_wp2_with fail
  obtain ⟨W2, hW2⟩ : ∃ W2, W2 = (W0.drewN nq).setCell ⟨b, 1, none⟩ (.int .i64 ((i : Int) + 1)) := ⟨_, rfl⟩
  have HH2 : Hid (W2.heap[w.heap.size]? = W0.heap[w.heap.size]? ∧ W2.heap[w.heap.size + 1]? = W0.heap[w.heap.size + 1]? ∧ Wrote b w W2 ∧ Rd b t (i + 1) o ah W2 ∧ W2.heap.size = W0.heap.size) := by
    rw [hW2]
    exact ⟨Below.heap_setCell _ _ _ _ (Ne.symm b0), Below.heap_setCell _ _ _ _ (Ne.symm b1), ((Wrote.of_below HW.out.1).drewN _).set _, Rd.set1 (w := W0.drewN nq) HW.out.2.1 (i + 1), size_set _ _ _⟩
  rw [← hW2]
  clear hW2 nq
  clear c0 c1 fr s0 s1 s2 s3 s4 s5 s6 sf t0 t1 tf
  have c0 := HH2.out.2.2.2.1.c0
  have c1 := HH2.out.2.2.2.1.c1
  have fr := HH2.out.2.2.2.1.fr
  have HH3 : Hid (W2.heap[w.heap.size]? = W0.heap[w.heap.size]? ∧ W2.heap[w.heap.size + 1]? = W0.heap[w.heap.size + 1]? ∧ Wrote b w W2 ∧ Rd b t j o ah W2 ∧ W2.heap.size = W0.heap.size) := by rw [HJ.out]; exact HH2.out
  rw [← HJ.out] at c1
  clear HH2
  go_quiet (fail)
  obtain ⟨n1, hn1⟩ : ∃ n, n = nq := ⟨_, rfl⟩
  rw [← hn1]
  clear hn1 nq
  go_wp2_with fail
  go_quiet (fail)
  go_wp2_with fail
  refine (HO.out ((W2.drewN (n1 + nq)).setCell ⟨b, 1, none⟩ (.int .i64 ((j : Int) + 1)))).mono ?_
  rintro e w1 ⟨rfl, hb1⟩
  have HH1 : Hid (w1.heap[w.heap.size]? = W0.heap[w.heap.size]? ∧ w1.heap[w.heap.size + 1]? = W0.heap[w.heap.size + 1]? ∧ Wrote b w w1 ∧ Rd b t (j + 1) o ah w1) := by
    have hs := HW.out.2.2.2.2
    have hs2 := HH3.out.2.2.2.2
    have u : ∀ k, k ≠ b → k < W2.heap.size → w1.heap[k]? = W2.heap[k]? := fun k hk hl => (hb1.block k (by rw [size_set]; exact hl)).trans (Below.heap_setCell _ _ _ _ hk)
    exact ⟨(u _ (Ne.symm b0) (by omega)).trans HH3.out.1, (u _ (Ne.symm b1) (by omega)).trans HH3.out.2.1, ((HH3.out.2.2.1.drewN _).set _).trans (.of_below hb1), Rd.below (Rd.set1 (w := W2.drewN (n1 + nq)) HH3.out.2.2.2.1 (j + 1)) hb1⟩
  have s0 : w1.cell? ⟨w.heap.size, 0, none⟩ = some (.int .i64 0) := by simp only [World.cell?, HH1.out.1, HW.out.2.2.1]; rfl
  have s1 : w1.cell? ⟨w.heap.size, 1, none⟩ = some (.int .u64 0) := by simp only [World.cell?, HH1.out.1, HW.out.2.2.1]; rfl
  have s2 : w1.cell? ⟨w.heap.size, 2, none⟩ = some (.int .u64 0) := by simp only [World.cell?, HH1.out.1, HW.out.2.2.1]; rfl
  have s3 : w1.cell? ⟨w.heap.size, 3, none⟩ = some (.int .u64 0) := by simp only [World.cell?, HH1.out.1, HW.out.2.2.1]; rfl
  have s4 : w1.cell? ⟨w.heap.size, 4, none⟩ = some (.int .u64 0) := by simp only [World.cell?, HH1.out.1, HW.out.2.2.1]; rfl
  have s5 : w1.cell? ⟨w.heap.size, 5, none⟩ = some (.int .i64 0) := by simp only [World.cell?, HH1.out.1, HW.out.2.2.1]; rfl
  have s6 : w1.cell? ⟨w.heap.size, 6, none⟩ = some (.int .i64 0) := by simp only [World.cell?, HH1.out.1, HW.out.2.2.1]; rfl
  have sf : ∀ j, w1.frozen? ⟨w.heap.size, j, none⟩ = false := fun j => by simp [World.frozen?, HH1.out.1, HW.out.2.2.1]
  have t0 : w1.cell? ⟨w.heap.size + 1, 0, none⟩ = some (.int .i64 0) := by simp only [World.cell?, HH1.out.2.1, HW.out.2.2.2.1]; rfl
  have t1 : w1.cell? ⟨w.heap.size + 1, 1, none⟩ = some (.int .i64 0) := by simp only [World.cell?, HH1.out.2.1, HW.out.2.2.2.1]; rfl
  have tf : ∀ j, w1.frozen? ⟨w.heap.size + 1, j, none⟩ = false := fun j => by simp [World.frozen?, HH1.out.2.1, HW.out.2.2.2.1]
  clear hb1
  unfold setV
  go_wp2_with fail
  refine bodyPost_ret (by simp [results, Tryz.results148, go_sem, s0, s1, s2, s3, s4, s5, s6, t0, t1]; try rfl) rfl ?_
  rw [← HC.out]
  exact ⟨Wrote.only (Wrote.only (HH1.out.2.2.1) (Nat.le_refl _) (puts_only w.heap.size [.int .i64 0, .int .u64 (y.a : Int), .int .u64 (y.b : Int), .int .u64 (y.c : Int), .int .u64 (y.d : Int), .int .i64 0, .int .i64 0] 0 _)) (by omega) (puts_only (w.heap.size + 1) [.int .i64 0, .int .i64 0] 0 _), ⟨0, y, 0, 0⟩, ⟨HY.out.1, by simp, by simp, by simp⟩, (by simp only [SV.abs]; rw [HY.out.2]), rfl, (j + 1), ((puts_only (w.heap.size + 1) [.int .i64 0, .int .i64 0] 0 _).block b b1).trans (((puts_only w.heap.size [.int .i64 0, .int .u64 (y.a : Int), .int .u64 (y.b : Int), .int .u64 (y.c : Int), .int .u64 (y.d : Int), .int .i64 0, .int .i64 0] 0 _).block b b0).trans (HH1.out.2.2.2)), by omega, rfl⟩
set_option maxHeartbeats 800000 in
theorem thing_91 {b : Nat} {t : ByteArray} {i o : Nat} {ah : Bool} (w : World) (h : Rd b t i o ah w) (ht : t.size ≤ 1000000) (hi : i < t.size) (hc : t[i].toNat = 91) (R : (Stp × List UInt8) ⊕ (Nat × Nat)) (hR : thingR (91 :: (bl t).drop (i + 1)) = R) : Calls Tryz.prog 148 #[.pointer (some ⟨b, 0, none⟩)] w (ThingPost b t o ah w (R)) := by
  have hb := h.lt
  obtain ⟨W0, hW, hB, hS, k1, k2⟩ := two w (.cells #[.int .i64 0, .int .u64 0, .int .u64 0, .int .u64 0, .int .u64 0, .int .i64 0, .int .i64 0] 146) (.cells #[.int .i64 0, .int .i64 0] 28)
  have h0 := h.below hB
  have c0 := h0.c0
  have c1 := h0.c1
  have fr := h0.fr
  have b0 : ¬ b = w.heap.size := by omega
  have b1 : ¬ b = w.heap.size + 1 := by omega
  have hi2 : (i : Int) < (t.size : Int) := by omega
  have s0 : W0.cell? ⟨w.heap.size, 0, none⟩ = some (.int .i64 0) := by simp only [World.cell?, k1]; rfl
  have s1 : W0.cell? ⟨w.heap.size, 1, none⟩ = some (.int .u64 0) := by simp only [World.cell?, k1]; rfl
  have s2 : W0.cell? ⟨w.heap.size, 2, none⟩ = some (.int .u64 0) := by simp only [World.cell?, k1]; rfl
  have s3 : W0.cell? ⟨w.heap.size, 3, none⟩ = some (.int .u64 0) := by simp only [World.cell?, k1]; rfl
  have s4 : W0.cell? ⟨w.heap.size, 4, none⟩ = some (.int .u64 0) := by simp only [World.cell?, k1]; rfl
  have s5 : W0.cell? ⟨w.heap.size, 5, none⟩ = some (.int .i64 0) := by simp only [World.cell?, k1]; rfl
  have s6 : W0.cell? ⟨w.heap.size, 6, none⟩ = some (.int .i64 0) := by simp only [World.cell?, k1]; rfl
  have sf : ∀ j, W0.frozen? ⟨w.heap.size, j, none⟩ = false := fun j => by simp [World.frozen?, k1]
  have t0 : W0.cell? ⟨w.heap.size + 1, 0, none⟩ = some (.int .i64 0) := by simp only [World.cell?, k2]; rfl
  have t1 : W0.cell? ⟨w.heap.size + 1, 1, none⟩ = some (.int .i64 0) := by simp only [World.cell?, k2]; rfl
  have tf : ∀ j, W0.frozen? ⟨w.heap.size + 1, j, none⟩ = false := fun j => by simp [World.frozen?, k2]
  have HW : Hid (Below w.heap.size w W0 ∧ Rd b t i o ah W0 ∧ W0.heap[w.heap.size]? = _ ∧ W0.heap[w.heap.size + 1]? = _ ∧ W0.heap.size = w.heap.size + 2) := ⟨hB, h0, k1, k2, hS⟩
  have HO : Hid (∀ W, Rd b t (i + 1) o ah W → Calls Tryz.prog 170 #[.pointer (some ⟨b, 0, none⟩)] W (ThingPost b t o ah W R)) := fun W hW => bytes_any W hW ht (by omega) R hR
  clear h h0 hB hS k1 k2
  go_enter Tryz.func148, Tryz.ntmps148
  go_wp2_with fail
  rw [← hW]
  clear hW
  go_wp2_with fail
  go_quiet (fail)
  go_wp2_with fail
  refine (HO.out ((W0.drewN nq).setCell ⟨b, 1, none⟩ (.int .i64 ((i : Int) + 1))) (Rd.set1 (w := W0.drewN nq) HW.out.2.1 (i + 1))).mono ?_
  rintro e w1 ⟨hw1, hp⟩
  have HH1 : Hid (w1.heap[w.heap.size]? = W0.heap[w.heap.size]? ∧ w1.heap[w.heap.size + 1]? = W0.heap[w.heap.size + 1]? ∧ Wrote b w w1) := by
    have u : ∀ j, j ≠ b → j < W0.heap.size → w1.heap[j]? = W0.heap[j]? := fun j hj hl => (hw1.block j (by rw [size_set]; exact hl) hj).trans (Below.heap_setCell _ _ _ _ hj)
    have hs := HW.out.2.2.2.2
    exact ⟨u _ (Ne.symm b0) (by omega), u _ (Ne.symm b1) (by omega), (((Wrote.of_below HW.out.1).drewN _).set _).trans hw1⟩
  have s0 : w1.cell? ⟨w.heap.size, 0, none⟩ = some (.int .i64 0) := by simp only [World.cell?, HH1.out.1, HW.out.2.2.1]; rfl
  have s1 : w1.cell? ⟨w.heap.size, 1, none⟩ = some (.int .u64 0) := by simp only [World.cell?, HH1.out.1, HW.out.2.2.1]; rfl
  have s2 : w1.cell? ⟨w.heap.size, 2, none⟩ = some (.int .u64 0) := by simp only [World.cell?, HH1.out.1, HW.out.2.2.1]; rfl
  have s3 : w1.cell? ⟨w.heap.size, 3, none⟩ = some (.int .u64 0) := by simp only [World.cell?, HH1.out.1, HW.out.2.2.1]; rfl
  have s4 : w1.cell? ⟨w.heap.size, 4, none⟩ = some (.int .u64 0) := by simp only [World.cell?, HH1.out.1, HW.out.2.2.1]; rfl
  have s5 : w1.cell? ⟨w.heap.size, 5, none⟩ = some (.int .i64 0) := by simp only [World.cell?, HH1.out.1, HW.out.2.2.1]; rfl
  have s6 : w1.cell? ⟨w.heap.size, 6, none⟩ = some (.int .i64 0) := by simp only [World.cell?, HH1.out.1, HW.out.2.2.1]; rfl
  have sf : ∀ j, w1.frozen? ⟨w.heap.size, j, none⟩ = false := fun j => by simp [World.frozen?, HH1.out.1, HW.out.2.2.1]
  have t0 : w1.cell? ⟨w.heap.size + 1, 0, none⟩ = some (.int .i64 0) := by simp only [World.cell?, HH1.out.2.1, HW.out.2.2.2.1]; rfl
  have t1 : w1.cell? ⟨w.heap.size + 1, 1, none⟩ = some (.int .i64 0) := by simp only [World.cell?, HH1.out.2.1, HW.out.2.2.2.1]; rfl
  have tf : ∀ j, w1.frozen? ⟨w.heap.size + 1, j, none⟩ = false := fun j => by simp [World.frozen?, HH1.out.2.1, HW.out.2.2.2.1]
  clear hw1
  match R, hp with
  | .inl (x, r), hp =>
    obtain ⟨v, hv, hab, rfl, i2, hRd, hi2', hd⟩ := hp
    have HP : Hid (v.Ok ∧ v.abs = x ∧ Rd b t i2 o ah w1 ∧ i2 ≤ t.size ∧ (bl t).drop i2 = r) := ⟨hv, hab, hRd, hi2', hd⟩
    clear hv hab hRd hi2' hd
    obtain ⟨vk, ⟨va, vb, vc, vd⟩, fa, fb⟩ := v
    unfold stepV faultV
    dsimp only
    go_wp2_with fail
    refine bodyPost_ret (by simp [results, Tryz.results148, go_sem, s0, s1, s2, s3, s4, s5, s6, t0, t1]; try rfl) rfl ?_
    exact ⟨Wrote.only (Wrote.only HH1.out.2.2 (Nat.le_refl _) (puts_only w.heap.size [.int .i64 (vk : Int), .int .u64 (va : Int), .int .u64 (vb : Int), .int .u64 (vc : Int), .int .u64 (vd : Int), .int .i64 fa, .int .i64 fb] 0 _)) (by omega) (puts_only (w.heap.size + 1) [.int .i64 0, .int .i64 0] 0 _), ⟨vk, ⟨va, vb, vc, vd⟩, fa, fb⟩, HP.out.1, HP.out.2.1, rfl, i2, ((puts_only (w.heap.size + 1) [.int .i64 0, .int .i64 0] 0 _).block b b1).trans (((puts_only w.heap.size [.int .i64 (vk : Int), .int .u64 (va : Int), .int .u64 (vb : Int), .int .u64 (vc : Int), .int .u64 (vd : Int), .int .i64 fa, .int .i64 fb] 0 _).block b b0).trans HP.out.2.2.1), HP.out.2.2.2.1, HP.out.2.2.2.2⟩
  | .inr (why, left), hp =>
    obtain ⟨v, i2, rfl, hRd⟩ := hp
    have HP : Hid (Rd b t i2 o ah w1) := hRd
    clear hRd
    obtain ⟨vk, ⟨va, vb, vc, vd⟩, fa, fb⟩ := v
    obtain ⟨q, hq⟩ : ∃ q, q = t.size - left := ⟨_, rfl⟩
    have HQ : Hid (q = t.size - left) := hq
    rw [← hq]
    clear hq
    unfold stepV faultV
    dsimp only
    go_wp2_with fail
    refine bodyPost_ret (by simp [results, Tryz.results148, go_sem, s0, s1, s2, s3, s4, s5, s6, t0, t1]; try rfl) rfl ?_
    exact ⟨Wrote.only (Wrote.only HH1.out.2.2 (Nat.le_refl _) (puts_only w.heap.size [.int .i64 (vk : Int), .int .u64 (va : Int), .int .u64 (vb : Int), .int .u64 (vc : Int), .int .u64 (vd : Int), .int .i64 fa, .int .i64 fb] 0 _)) (by omega) (puts_only (w.heap.size + 1) [.int .i64 (why : Int), .int .i64 (q : Int)] 0 _), ⟨vk, ⟨va, vb, vc, vd⟩, fa, fb⟩, i2, by rw [← HQ.out]; rfl, ((puts_only (w.heap.size + 1) [.int .i64 (why : Int), .int .i64 (q : Int)] 0 _).block b b1).trans (((puts_only w.heap.size [.int .i64 (vk : Int), .int .u64 (va : Int), .int .u64 (vb : Int), .int .u64 (vc : Int), .int .u64 (vd : Int), .int .i64 fa, .int .i64 fb] 0 _).block b b0).trans HP.out)⟩
theorem thing_any {b : Nat} {t : ByteArray} {i o : Nat} {ah : Bool} (w : World) (h : Rd b t i o ah w) (ht : t.size ≤ 1000000) (hi : i < t.size) : Calls Tryz.prog 148 #[.pointer (some ⟨b, 0, none⟩)] w (ThingPost b t o ah w (thingR ((bl t).drop i))) := by
  rw [drop_ba t i hi]
  by_cases h1 : t[i] = 94
  · have e : thingR (t[i] :: (bl t).drop (i + 1)) = .inl (.first, (bl t).drop (i + 1)) := by unfold thingR; simp [h1]
    rw [e]; exact thing_94 w h ht hi (by rw [h1]; rfl)
  · by_cases h2 : t[i] = 36
    · have e : thingR (t[i] :: (bl t).drop (i + 1)) = .inl (.last, (bl t).drop (i + 1)) := by unfold thingR; simp [h2]
      rw [e]; exact thing_36 w h ht hi (by rw [h2]; rfl)
    · by_cases h3 : t[i] = 46
      · have e : thingR (t[i] :: (bl t).drop (i + 1)) = .inl (.take fun _ => true, (bl t).drop (i + 1)) := by unfold thingR; simp [h3]
        rw [e]; exact thing_46 w h ht hi (by rw [h3]; rfl)
      · by_cases h4 : t[i] = 91
        · rw [h4]; exact thing_91 w h ht hi (by rw [h4]; rfl) _ rfl
        · by_cases h5 : t[i] = 92
          · by_cases h6 : i + 1 < t.size
            · have e : thingR (t[i] :: (bl t).drop (i + 1)) = .inl (.take fun x => x == t[i + 1], (bl t).drop (i + 1 + 1)) := by
                rw [drop_ba t (i + 1) h6]; unfold thingR; simp [h5]
              rw [e]; exact thing_92 w h ht hi (by rw [h5]; rfl) (i + 1) rfl h6
            · have e : thingR (t[i] :: (bl t).drop (i + 1)) = .inr (4, 0) := by
                rw [List.drop_of_length_le (by rw [bl_length]; omega)]; unfold thingR; simp [h5]
              rw [e]; exact thing_92no w h ht hi (by rw [h5]; rfl) (by omega)
          · have e : thingR (t[i] :: (bl t).drop (i + 1)) = .inl (.take fun x => x == t[i], (bl t).drop (i + 1)) := by unfold thingR; simp [h1, h2, h3, h4, h5]
            rw [e]
            refine thing_byte w h ht hi ⟨?_, ?_, ?_, ?_, ?_⟩
            · rw [← u8_lit _ 94 (by omega)]; exact h1
            · rw [← u8_lit _ 36 (by omega)]; exact h2
            · rw [← u8_lit _ 46 (by omega)]; exact h3
            · rw [← u8_lit _ 91 (by omega)]; exact h4
            · rw [← u8_lit _ 92 (by omega)]; exact h5
end Go.Proofs.YtedepknbaakkhabGreatDoor.X
