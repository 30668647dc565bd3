/-
  PNext PRead
-/
import Derived.Test.YtedepknbaakkhabGreatDoorK19
import Derived.Test.YtedepknbaakkhabGreatDoorK20
import Derived.Lib.IndexAny
import Derived.Laws.AppendOwnNone
import Derived.Maps.AppendAt
set_option maxRecDepth 20000
namespace Go.Proofs.YtedepknbaakkhabGreatDoor.X
open Go.RowKit Go.Shelf RxSem
inductive NR where
  | ok (x : Sg) (o : Nat) (a : Bool) (r : List UInt8)
  | bad (why left : Nat)
def nextR (o : Nat) (a : Bool) : List UInt8 → NR
  | [] => .bad 0 0
  | c :: t => if isMark c then (match markR o a c with
      | .inl w => .bad w (t.length + 1)
      | .inr (o', a') => .ok (.mark c) o' a' t) else match thingR (c :: t) with
      | .inl (x, r) => .ok (.thing x) o true r
      | .inr (w, l) => .bad w l
def NextPost (b : Nat) (t : ByteArray) (w : World) (R : NR) (e : Ending) (w' : World) : Prop := Wrote b w w' ∧ match R with
  | .ok x o a r => ∃ s : SG, s.v.Ok ∧ s.abs = x ∧ e = .returned (.tuple #[signV s, faultV 0 0]) ∧ ∃ i, Rd b t i o a w' ∧ i ≤ t.size ∧ (bl t).drop i = r
  | .bad why left => ∃ s : SG, e = .returned (.tuple #[signV s, faultV why (t.size - left)])
theorem Rd.drew {b : Nat} {t : ByteArray} {i o : Nat} {ah : Bool} {w : World} (h : Rd b t i o ah w) : Rd b t i o ah w.drew := h
theorem alloc2_heap {X : World} {o1 o2 : Obj} {j : Nat} (hj : j < X.heap.size) : (((X.alloc o1).alloc o2).drew).heap[j]? = X.heap[j]? :=
  (Below.heap_alloc (X.alloc o1) o2 j (by simp; omega)).trans (Below.heap_alloc X o1 j hj)
theorem res_next {tmps : Array Value} {B : Nat} {w9 : World} (x0 x1 x2 x3 x4 x5 x6 x7 z0 z1 : Value) (h2 : tmps[2]? = some (.pointer (some ⟨B, 0, none⟩))) (h3 : tmps[3]? = some (.pointer (some ⟨B + 1, 0, none⟩))) (k1 : w9.heap[B]? = some (.cells #[x0, x1, x2, x3, x4, x5, x6, x7] 148 (0, 0))) (k2 : w9.heap[B + 1]? = some (.cells #[z0, z1] 28 (0, 0))) :
    (results Tryz.f114 tmps).run Tryz.prog w9 = .ok (.tuple #[.agg #[x0, x1, x2, x3, x4, x5, x6, x7], .agg #[z0, z1]]) w9 := by
  have r0 : w9.cell? ⟨B, 0, none⟩ = some x0 := by simp only [World.cell?, k1]; rfl
  have r1 : w9.cell? ⟨B, 1, none⟩ = some x1 := by simp only [World.cell?, k1]; rfl
  have r2 : w9.cell? ⟨B, 2, none⟩ = some x2 := by simp only [World.cell?, k1]; rfl
  have r3 : w9.cell? ⟨B, 3, none⟩ = some x3 := by simp only [World.cell?, k1]; rfl
  have r4 : w9.cell? ⟨B, 4, none⟩ = some x4 := by simp only [World.cell?, k1]; rfl
  have r5 : w9.cell? ⟨B, 5, none⟩ = some x5 := by simp only [World.cell?, k1]; rfl
  have r6 : w9.cell? ⟨B, 6, none⟩ = some x6 := by simp only [World.cell?, k1]; rfl
  have r7 : w9.cell? ⟨B, 7, none⟩ = some x7 := by simp only [World.cell?, k1]; rfl
  have q0 : w9.cell? ⟨B + 1, 0, none⟩ = some z0 := by simp only [World.cell?, k2]; rfl
  have q1 : w9.cell? ⟨B + 1, 1, none⟩ = some z1 := by simp only [World.cell?, k2]; rfl
  simp [results, Tryz.results114, go_sem, h2, h3, r0, r1, r2, r3, r4, r5, r6, r7, q0, q1]
theorem Rd.alloc {b : Nat} {t : ByteArray} {i o : Nat} {ah : Bool} {w : World} (h : Rd b t i o ah w) (x : Obj) : Rd b t i o ah (w.alloc x) := (Below.heap_alloc _ _ _ h.lt).trans h
theorem isMark_idx (c : UInt8) : isMark c = decide (0 ≤ Lib.indexByte [42, 43, 63, 124, 40, 41] c) := by
  rw [← Lib.contains_iff_indexByte]
  unfold isMark
  simp only [List.contains_cons, List.contains_nil, Bool.or_false, Bool.or_assoc]
theorem mark_ne {c : UInt8} (h : isMark c = true) : c ≠ 0 := by rintro rfl; revert h; decide
set_option maxHeartbeats 800000 in
theorem next_mark {b : Nat} {t : ByteArray} {i o : Nat} {ah : Bool} (w : World) (h : Rd b t i o ah w) (ht : t.size ≤ 1000000) (hi : i < t.size) (ho : o ≤ 16) (hm : isMark t[i] = true) : Calls Tryz.prog 114 #[.pointer (some ⟨b, 0, none⟩)] w (NextPost b t w (nextR o ah ((bl t).drop i))) := by
  have hb := h.lt
  obtain ⟨W0, hW, hB, hS, k1, k2⟩ := two w (.cells #[.int .u8 0, .int .i64 0, .int .u64 0, .int .u64 0, .int .u64 0, .int .u64 0, .int .i64 0, .int .i64 0] 148) (.cells #[.int .i64 0, .int .i64 0] 28)
  have h0 := h.below hB
  have c0 := h0.c0
  have c1 := h0.c1
  have fr := h0.fr
  have b0 : ¬ b = w.heap.size := by omega
  have b1 : ¬ b = w.heap.size + 1 := by omega
  have hi2 : (i : Int) < (t.size : Int) := by omega
  obtain ⟨x, hx0, hx⟩ : ∃ x : Int,  0 ≤ x ∧ x = Lib.indexByte [42, 43, 63, 124, 40, 41] t[i] := by
    rw [isMark_idx] at hm; exact ⟨_, by simpa using hm, rfl⟩
  have HI : Hid (∀ W, Calls Tryz.prog 142 #[.string ⟨#[42, 43, 63, 124, 40, 41]⟩, .int .u8 (t[i].toNat : Int)] W fun e w' => e = .returned (.int .i64 x) ∧ w' = W) := fun W => by
    have := Tryz.strings_IndexByte ⟨#[42, 43, 63, 124, 40, 41]⟩ (t[i].toNat : Int) W
    rw [u8_back] at this
    rw [hx]; exact this
  have HW : Hid (Below w.heap.size w W0 ∧ Rd b t i o ah W0 ∧ W0.heap[w.heap.size]? = _ ∧ W0.heap[w.heap.size + 1]? = _ ∧ W0.heap.size = w.heap.size + 2) := ⟨hB, h0, k1, k2, hS⟩
  have HM : Hid (∀ W, Rd b t i o ah W → Calls Tryz.prog 147 #[.pointer (some ⟨b, 0, none⟩), .int .u8 (t[i].toNat : Int)] W (MarkPost b t i t[i] W (markR o ah t[i]))) := fun W hW => mark_any t[i] hm W hW ht hi ho
  have HN : Hid (nextR o ah ((bl t).drop i) = match markR o ah t[i] with
      | .inl w => .bad w (((bl t).drop (i + 1)).length + 1)
      | .inr (o', a') => .ok (.mark t[i]) o' a' ((bl t).drop (i + 1))) := by
    unfold Hid
    rw [drop_ba t i hi]; unfold nextR; dsimp only; rw [if_pos hm]
  have HMK : Hid (t[i] ≠ 0) := mark_ne hm
  clear h h0 hB hS k1 k2 hx hm
  go_enter Tryz.func114, Tryz.ntmps114
  go_wp2_with fail
  rw [← hW]
  clear hW
  go_wp2_with fail
  go_quiet (fail)
  go_wp2_with fail
  refine (HI.out _).mono ?_
  rintro e w1 ⟨rfl, rfl⟩
  go_wp2_with fail
  refine (HM.out (W0.drewN nq) HW.out.2.1).mono ?_
  rintro e w1 ⟨hw1, hp⟩
  have HH1 : Hid (w1.heap[w.heap.size]? = W0.heap[w.heap.size]? ∧ w1.heap[w.heap.size + 1]? = W0.heap[w.heap.size + 1]? ∧ Wrote b w w1) := by
    have u : ∀ j, j ≠ b → j < W0.heap.size → w1.heap[j]? = W0.heap[j]? := fun j hj hl => hw1.block j hl hj
    have hs := HW.out.2.2.2.2
    exact ⟨u _ (Ne.symm b0) (by omega), u _ (Ne.symm b1) (by omega), ((Wrote.of_below HW.out.1).drewN nq).trans hw1⟩
  have s0 : w1.cell? ⟨w.heap.size, 0, none⟩ = some (.int .u8 0) := by simp only [World.cell?, HH1.out.1, HW.out.2.2.1]; rfl
  have s1 : w1.cell? ⟨w.heap.size, 1, none⟩ = some (.int .i64 0) := by simp only [World.cell?, HH1.out.1, HW.out.2.2.1]; rfl
  have s2 : w1.cell? ⟨w.heap.size, 2, none⟩ = some (.int .u64 0) := by simp only [World.cell?, HH1.out.1, HW.out.2.2.1]; rfl
  have s3 : w1.cell? ⟨w.heap.size, 3, none⟩ = some (.int .u64 0) := by simp only [World.cell?, HH1.out.1, HW.out.2.2.1]; rfl
  have s4 : w1.cell? ⟨w.heap.size, 4, none⟩ = some (.int .u64 0) := by simp only [World.cell?, HH1.out.1, HW.out.2.2.1]; rfl
  have s5 : w1.cell? ⟨w.heap.size, 5, none⟩ = some (.int .u64 0) := by simp only [World.cell?, HH1.out.1, HW.out.2.2.1]; rfl
  have s6 : w1.cell? ⟨w.heap.size, 6, none⟩ = some (.int .i64 0) := by simp only [World.cell?, HH1.out.1, HW.out.2.2.1]; rfl
  have s7 : w1.cell? ⟨w.heap.size, 7, none⟩ = some (.int .i64 0) := by simp only [World.cell?, HH1.out.1, HW.out.2.2.1]; rfl
  have sf : ∀ j, w1.frozen? ⟨w.heap.size, j, none⟩ = false := fun j => by simp [World.frozen?, HH1.out.1, HW.out.2.2.1]
  have t0 : w1.cell? ⟨w.heap.size + 1, 0, none⟩ = some (.int .i64 0) := by simp only [World.cell?, HH1.out.2.1, HW.out.2.2.2.1]; rfl
  have t1 : w1.cell? ⟨w.heap.size + 1, 1, none⟩ = some (.int .i64 0) := by simp only [World.cell?, HH1.out.2.1, HW.out.2.2.2.1]; rfl
  have tf : ∀ j, w1.frozen? ⟨w.heap.size + 1, j, none⟩ = false := fun j => by simp [World.frozen?, HH1.out.2.1, HW.out.2.2.2.1]
  have z0 : w.heap.size < w1.heap.size := by have := HW.out.2.2.2.2; have := hw1.size; simp at this; omega
  have z1 : w.heap.size + 1 < w1.heap.size := by have := HW.out.2.2.2.2; have := hw1.size; simp at this; omega
  have z2 : b < w1.heap.size := by omega
  clear hw1
  clear HM HI
  revert hp HN
  generalize markR o ah t[i] = R
  intro HN hp
  match R, hp, HN with
  | .inl why, hp, HN =>
    have HN : Hid (nextR o ah ((bl t).drop i) = .bad why (((bl t).drop (i + 1)).length + 1)) := HN
    dsimp only at hp
    subst hp
    unfold signV signC stepC faultV SV.zero W4.zero
    dsimp only
    go_wp2_with fail
    refine bodyPost_ret (by simp [results, Tryz.results114, go_sem, s0, s1, s2, s3, s4, s5, s6, s7, t0, t1]; try rfl) rfl ?_
    rw [HN.out]
    refine ⟨Wrote.only (Wrote.only HH1.out.2.2 (Nat.le_refl _) (puts_only w.heap.size [.int .u8 0, .int .i64 0, .int .u64 0, .int .u64 0, .int .u64 0, .int .u64 0, .int .i64 0, .int .i64 0] 0 _)) (by omega) (puts_only (w.heap.size + 1) [.int .i64 (why : Int), .int .i64 (i : Int)] 0 _), ⟨0, SV.zero⟩, ?_⟩
    rw [List.length_drop, bl_length, show t.size - (t.size - (i + 1) + 1) = i by omega]
    rfl
  | .inr (o', a'), hp, HN =>
    have HN : Hid (nextR o ah ((bl t).drop i) = .ok (.mark t[i]) o' a' ((bl t).drop (i + 1))) := HN
    obtain ⟨rfl, hRd⟩ := hp
    have HP : Hid (Rd b t (i + 1) o' a' w1) := hRd
    clear hRd
    unfold signV signC stepC faultV SV.zero W4.zero
    dsimp only
    go_wp2_with fail
    refine bodyPost_ret (by simp [results, Tryz.results114, go_sem, s0, s1, s2, s3, s4, s5, s6, s7, t0, t1]; try rfl) rfl ?_
    rw [HN.out]
    exact ⟨Wrote.only (Wrote.only HH1.out.2.2 (Nat.le_refl _) (puts_only w.heap.size [.int .u8 ((t[i]).toNat : Int), .int .i64 0, .int .u64 0, .int .u64 0, .int .u64 0, .int .u64 0, .int .i64 0, .int .i64 0] 0 _)) (by omega) (puts_only (w.heap.size + 1) [.int .i64 0, .int .i64 0] 0 _), ⟨t[i], SV.zero⟩, ⟨W4.zero_ok, by simp [SV.zero], by simp [SV.zero], by simp [SV.zero]⟩, if_neg HMK.out, rfl, i + 1, ((puts_only (w.heap.size + 1) [.int .i64 0, .int .i64 0] 0 _).block b b1).trans (((puts_only w.heap.size [.int .u8 ((t[i]).toNat : Int), .int .i64 0, .int .u64 0, .int .u64 0, .int .u64 0, .int .u64 0, .int .i64 0, .int .i64 0] 0 _).block b b0).trans HP.out), by omega, rfl⟩
set_option maxHeartbeats 800000 in
theorem next_thing {b : Nat} {t : ByteArray} {i o : Nat} {ah : Bool} (w : World) (h : Rd b t i o ah w) (ht : t.size ≤ 1000000) (hi : i < t.size) (hm : isMark t[i] = false) : Calls Tryz.prog 114 #[.pointer (some ⟨b, 0, none⟩)] w (NextPost b t w (nextR o ah ((bl t).drop i))) := by
  have hb := h.lt
  obtain ⟨W0, hW, hB, hS, k1, k2⟩ := two w (.cells #[.int .u8 0, .int .i64 0, .int .u64 0, .int .u64 0, .int .u64 0, .int .u64 0, .int .i64 0, .int .i64 0] 148) (.cells #[.int .i64 0, .int .i64 0] 28)
  have h0 := h.below hB
  have c0 := h0.c0
  have c1 := h0.c1
  have fr := h0.fr
  have b0 : ¬ b = w.heap.size := by omega
  have b1 : ¬ b = w.heap.size + 1 := by omega
  have hi2 : (i : Int) < (t.size : Int) := by omega
  obtain ⟨x, hx0, hx⟩ : ∃ x : Int, ¬ 0 ≤ x ∧ x = Lib.indexByte [42, 43, 63, 124, 40, 41] t[i] := by
    rw [isMark_idx] at hm; exact ⟨_, by simpa using hm, rfl⟩
  have HI : Hid (∀ W, Calls Tryz.prog 142 #[.string ⟨#[42, 43, 63, 124, 40, 41]⟩, .int .u8 (t[i].toNat : Int)] W fun e w' => e = .returned (.int .i64 x) ∧ w' = W) := fun W => by
    have := Tryz.strings_IndexByte ⟨#[42, 43, 63, 124, 40, 41]⟩ (t[i].toNat : Int) W
    rw [u8_back] at this
    rw [hx]; exact this
  have HW : Hid (Below w.heap.size w W0 ∧ Rd b t i o ah W0 ∧ W0.heap[w.heap.size]? = _ ∧ W0.heap[w.heap.size + 1]? = _ ∧ W0.heap.size = w.heap.size + 2) := ⟨hB, h0, k1, k2, hS⟩
  have HM : Hid (∀ W, Rd b t i o ah W → Calls Tryz.prog 148 #[.pointer (some ⟨b, 0, none⟩)] W (ThingPost b t o ah W (thingR ((bl t).drop i)))) := fun W hW => thing_any W hW ht hi
  have HN : Hid (nextR o ah ((bl t).drop i) = match thingR ((bl t).drop i) with
      | .inl (x, r) => .ok (.thing x) o true r
      | .inr (w, l) => .bad w l) := by
    unfold Hid
    rw [drop_ba t i hi]; unfold nextR; dsimp only; rw [if_neg (by rw [hm]; simp)]
  clear h h0 hB hS k1 k2 hx hm
  go_enter Tryz.func114, Tryz.ntmps114
  go_wp2_with fail
  rw [← hW]
  clear hW
  go_wp2_with fail
  go_quiet (fail)
  go_wp2_with fail
  refine (HI.out _).mono ?_
  rintro e w1 ⟨rfl, rfl⟩
  go_wp2_with fail
  refine (HM.out (W0.drewN nq) HW.out.2.1).mono ?_
  rintro e w1 ⟨hw1, hp⟩
  have HH1 : Hid (w1.heap[w.heap.size]? = W0.heap[w.heap.size]? ∧ w1.heap[w.heap.size + 1]? = W0.heap[w.heap.size + 1]? ∧ Wrote b w w1) := by
    have u : ∀ j, j ≠ b → j < W0.heap.size → w1.heap[j]? = W0.heap[j]? := fun j hj hl => hw1.block j hl hj
    have hs := HW.out.2.2.2.2
    exact ⟨u _ (Ne.symm b0) (by omega), u _ (Ne.symm b1) (by omega), ((Wrote.of_below HW.out.1).drewN nq).trans hw1⟩
  have s0 : w1.cell? ⟨w.heap.size, 0, none⟩ = some (.int .u8 0) := by simp only [World.cell?, HH1.out.1, HW.out.2.2.1]; rfl
  have s1 : w1.cell? ⟨w.heap.size, 1, none⟩ = some (.int .i64 0) := by simp only [World.cell?, HH1.out.1, HW.out.2.2.1]; rfl
  have s2 : w1.cell? ⟨w.heap.size, 2, none⟩ = some (.int .u64 0) := by simp only [World.cell?, HH1.out.1, HW.out.2.2.1]; rfl
  have s3 : w1.cell? ⟨w.heap.size, 3, none⟩ = some (.int .u64 0) := by simp only [World.cell?, HH1.out.1, HW.out.2.2.1]; rfl
  have s4 : w1.cell? ⟨w.heap.size, 4, none⟩ = some (.int .u64 0) := by simp only [World.cell?, HH1.out.1, HW.out.2.2.1]; rfl
  have s5 : w1.cell? ⟨w.heap.size, 5, none⟩ = some (.int .u64 0) := by simp only [World.cell?, HH1.out.1, HW.out.2.2.1]; rfl
  have s6 : w1.cell? ⟨w.heap.size, 6, none⟩ = some (.int .i64 0) := by simp only [World.cell?, HH1.out.1, HW.out.2.2.1]; rfl
  have s7 : w1.cell? ⟨w.heap.size, 7, none⟩ = some (.int .i64 0) := by simp only [World.cell?, HH1.out.1, HW.out.2.2.1]; rfl
  have sf : ∀ j, w1.frozen? ⟨w.heap.size, j, none⟩ = false := fun j => by simp [World.frozen?, HH1.out.1, HW.out.2.2.1]
  have t0 : w1.cell? ⟨w.heap.size + 1, 0, none⟩ = some (.int .i64 0) := by simp only [World.cell?, HH1.out.2.1, HW.out.2.2.2.1]; rfl
  have t1 : w1.cell? ⟨w.heap.size + 1, 1, none⟩ = some (.int .i64 0) := by simp only [World.cell?, HH1.out.2.1, HW.out.2.2.2.1]; rfl
  have tf : ∀ j, w1.frozen? ⟨w.heap.size + 1, j, none⟩ = false := fun j => by simp [World.frozen?, HH1.out.2.1, HW.out.2.2.2.1]
  have z0 : w.heap.size < w1.heap.size := by have := HW.out.2.2.2.2; have := hw1.size; simp at this; omega
  have z1 : w.heap.size + 1 < w1.heap.size := by have := HW.out.2.2.2.2; have := hw1.size; simp at this; omega
  have z2 : b < w1.heap.size := by omega
  clear hw1
  clear HM HI
  revert hp HN
  generalize thingR ((bl t).drop i) = R
  intro HN hp
  match R, hp, HN with
  | .inl (y, r), hp, HN =>
    have HN : Hid (nextR o ah ((bl t).drop i) = .ok (.thing y) o true r) := HN
    obtain ⟨v, hv, hab, rfl, i2, hRd, hi2', hd⟩ := hp
    have HP : Hid (v.Ok ∧ v.abs = y ∧ Rd b t i2 o ah w1 ∧ i2 ≤ t.size ∧ (bl t).drop i2 = r) := ⟨hv, hab, hRd, hi2', hd⟩
    have d3 := hRd.c3
    have fr := hRd.fr
    clear hv hab hRd hi2' hd
    obtain ⟨vk, ⟨va, vb, vc, vd⟩, fa, fb⟩ := v
    unfold stepV faultV
    dsimp only
    go_wp2_with fail
    go_region_with (fail)
    all_goals
      go_wp2_with fail
      refine bodyPost_ret (res_next (B := w.heap.size) (.int .u8 0) (.int .i64 (vk : Int)) (.int .u64 (va : Int)) (.int .u64 (vb : Int)) (.int .u64 (vc : Int)) (.int .u64 (vd : Int)) (.int .i64 fa) (.int .i64 fb) (.int .i64 0) (.int .i64 0) rfl rfl ?g1 ?g2) rfl ?_
      case g1 =>
        refine (alloc2_heap (X := puts (w.heap.size + 1) 0 [.int .i64 0, .int .i64 0] (puts w.heap.size 0 [.int .u8 0, .int .i64 (vk : Int), .int .u64 (va : Int), .int .u64 (vb : Int), .int .u64 (vc : Int), .int .u64 (vd : Int), .int .i64 fa, .int .i64 fb] (w1.setCell ⟨b, 3, none⟩ (.bool true)))) ?_).trans (((puts_only (w.heap.size + 1) [.int .i64 0, .int .i64 0] 0 _).block _ (by omega)).trans (puts_all (w := w1.setCell ⟨b, 3, none⟩ (.bool true)) ((Below.heap_setCell _ _ _ _ (Ne.symm b0)).trans (HH1.out.1.trans HW.out.2.2.1)) [.int .u8 0, .int .i64 (vk : Int), .int .u64 (va : Int), .int .u64 (vb : Int), .int .u64 (vc : Int), .int .u64 (vd : Int), .int .i64 fa, .int .i64 fb] rfl))
        rw [(puts_only _ _ _ _).size, (puts_only _ _ _ _).size, size_set]; exact z0
      case g2 =>
        refine (alloc2_heap (X := puts (w.heap.size + 1) 0 [.int .i64 0, .int .i64 0] (puts w.heap.size 0 [.int .u8 0, .int .i64 (vk : Int), .int .u64 (va : Int), .int .u64 (vb : Int), .int .u64 (vc : Int), .int .u64 (vd : Int), .int .i64 fa, .int .i64 fb] (w1.setCell ⟨b, 3, none⟩ (.bool true)))) ?_).trans (puts_all (w := puts w.heap.size 0 [.int .u8 0, .int .i64 (vk : Int), .int .u64 (va : Int), .int .u64 (vb : Int), .int .u64 (vc : Int), .int .u64 (vd : Int), .int .i64 fa, .int .i64 fb] (w1.setCell ⟨b, 3, none⟩ (.bool true))) (((puts_only w.heap.size [.int .u8 0, .int .i64 (vk : Int), .int .u64 (va : Int), .int .u64 (vb : Int), .int .u64 (vc : Int), .int .u64 (vd : Int), .int .i64 fa, .int .i64 fb] 0 _).block _ (by omega)).trans ((Below.heap_setCell _ _ _ _ (Ne.symm b1)).trans (HH1.out.2.1.trans HW.out.2.2.2.1))) [.int .i64 0, .int .i64 0] rfl)
        rw [(puts_only _ _ _ _).size, (puts_only _ _ _ _).size, size_set]; exact z1
      rw [HN.out]
      have wX : Wrote b w (puts (w.heap.size + 1) 0 [.int .i64 0, .int .i64 0] (puts w.heap.size 0 [.int .u8 0, .int .i64 (vk : Int), .int .u64 (va : Int), .int .u64 (vb : Int), .int .u64 (vc : Int), .int .u64 (vd : Int), .int .i64 fa, .int .i64 fb] (w1.setCell ⟨b, 3, none⟩ (.bool true)))) := Wrote.only (Wrote.only (HH1.out.2.2.set _) (Nat.le_refl _) (puts_only w.heap.size [.int .u8 0, .int .i64 (vk : Int), .int .u64 (va : Int), .int .u64 (vb : Int), .int .u64 (vc : Int), .int .u64 (vd : Int), .int .i64 fa, .int .i64 fb] 0 _)) (by omega) (puts_only (w.heap.size + 1) [.int .i64 0, .int .i64 0] 0 _)
      have q : Rd b t i2 o true (puts (w.heap.size + 1) 0 [.int .i64 0, .int .i64 0] (puts w.heap.size 0 [.int .u8 0, .int .i64 (vk : Int), .int .u64 (va : Int), .int .u64 (vb : Int), .int .u64 (vc : Int), .int .u64 (vd : Int), .int .i64 fa, .int .i64 fb] (w1.setCell ⟨b, 3, none⟩ (.bool true)))) := ((puts_only (w.heap.size + 1) [.int .i64 0, .int .i64 0] 0 _).block b b1).trans (((puts_only w.heap.size _ 0 _).block b b0).trans (HP.out.2.2.1.set3 true))
      have q2 := ((q.alloc (.cells #[.int .i64 (vk : Int), .int .u64 (va : Int), .int .u64 (vb : Int), .int .u64 (vc : Int), .int .u64 (vd : Int), .int .i64 fa, .int .i64 fb] 146)).alloc (.cells #[.int .i64 0, .int .i64 0] 28)).drew
      have w2 := ((wX.alloc (.cells #[.int .i64 (vk : Int), .int .u64 (va : Int), .int .u64 (vb : Int), .int .u64 (vc : Int), .int .u64 (vd : Int), .int .i64 fa, .int .i64 fb] 146)).alloc (.cells #[.int .i64 0, .int .i64 0] 28)).drew
      exact ⟨w2, ⟨0, ⟨vk, ⟨va, vb, vc, vd⟩, fa, fb⟩⟩, HP.out.1, by rw [SG.abs, if_pos rfl, HP.out.2.1], rfl, i2, q2, HP.out.2.2.2.1, HP.out.2.2.2.2⟩
  | .inr (why, left), hp, HN =>
    have HN : Hid (nextR o ah ((bl t).drop i) = .bad why left) := HN
    obtain ⟨v, i2, rfl, hRd⟩ := hp
    have d3 := hRd.c3
    have fr := hRd.fr
    clear hRd
    obtain ⟨vk, ⟨va, vb, vc, vd⟩, fa, fb⟩ := v
    obtain ⟨q, hq⟩ : ∃ q, q = t.size - left := ⟨_, rfl⟩
    have HQ : Hid (q = t.size - left) := hq
    rw [← hq]
    clear hq
    unfold stepV faultV
    dsimp only
    go_wp2_with fail
    go_region_with (fail)
    all_goals
      go_wp2_with fail
      refine bodyPost_ret (res_next (B := w.heap.size) (.int .u8 0) (.int .i64 (vk : Int)) (.int .u64 (va : Int)) (.int .u64 (vb : Int)) (.int .u64 (vc : Int)) (.int .u64 (vd : Int)) (.int .i64 fa) (.int .i64 fb) (.int .i64 (why : Int)) (.int .i64 (q : Int)) rfl rfl ?g1 ?g2) rfl ?_
      case g1 =>
        refine (alloc2_heap (X := puts (w.heap.size + 1) 0 [.int .i64 (why : Int), .int .i64 (q : Int)] (puts w.heap.size 0 [.int .u8 0, .int .i64 (vk : Int), .int .u64 (va : Int), .int .u64 (vb : Int), .int .u64 (vc : Int), .int .u64 (vd : Int), .int .i64 fa, .int .i64 fb] (w1.setCell ⟨b, 3, none⟩ (.bool true)))) ?_).trans (((puts_only (w.heap.size + 1) [.int .i64 (why : Int), .int .i64 (q : Int)] 0 _).block _ (by omega)).trans (puts_all (w := w1.setCell ⟨b, 3, none⟩ (.bool true)) ((Below.heap_setCell _ _ _ _ (Ne.symm b0)).trans (HH1.out.1.trans HW.out.2.2.1)) [.int .u8 0, .int .i64 (vk : Int), .int .u64 (va : Int), .int .u64 (vb : Int), .int .u64 (vc : Int), .int .u64 (vd : Int), .int .i64 fa, .int .i64 fb] rfl))
        rw [(puts_only _ _ _ _).size, (puts_only _ _ _ _).size, size_set]; exact z0
      case g2 =>
        refine (alloc2_heap (X := puts (w.heap.size + 1) 0 [.int .i64 (why : Int), .int .i64 (q : Int)] (puts w.heap.size 0 [.int .u8 0, .int .i64 (vk : Int), .int .u64 (va : Int), .int .u64 (vb : Int), .int .u64 (vc : Int), .int .u64 (vd : Int), .int .i64 fa, .int .i64 fb] (w1.setCell ⟨b, 3, none⟩ (.bool true)))) ?_).trans (puts_all (w := puts w.heap.size 0 [.int .u8 0, .int .i64 (vk : Int), .int .u64 (va : Int), .int .u64 (vb : Int), .int .u64 (vc : Int), .int .u64 (vd : Int), .int .i64 fa, .int .i64 fb] (w1.setCell ⟨b, 3, none⟩ (.bool true))) (((puts_only w.heap.size [.int .u8 0, .int .i64 (vk : Int), .int .u64 (va : Int), .int .u64 (vb : Int), .int .u64 (vc : Int), .int .u64 (vd : Int), .int .i64 fa, .int .i64 fb] 0 _).block _ (by omega)).trans ((Below.heap_setCell _ _ _ _ (Ne.symm b1)).trans (HH1.out.2.1.trans HW.out.2.2.2.1))) [.int .i64 (why : Int), .int .i64 (q : Int)] rfl)
        rw [(puts_only _ _ _ _).size, (puts_only _ _ _ _).size, size_set]; exact z1
      rw [HN.out]
      have wX : Wrote b w (puts (w.heap.size + 1) 0 [.int .i64 (why : Int), .int .i64 (q : Int)] (puts w.heap.size 0 [.int .u8 0, .int .i64 (vk : Int), .int .u64 (va : Int), .int .u64 (vb : Int), .int .u64 (vc : Int), .int .u64 (vd : Int), .int .i64 fa, .int .i64 fb] (w1.setCell ⟨b, 3, none⟩ (.bool true)))) := Wrote.only (Wrote.only (HH1.out.2.2.set _) (Nat.le_refl _) (puts_only w.heap.size _ 0 _)) (by omega) (puts_only (w.heap.size + 1) [.int .i64 (why : Int), .int .i64 (q : Int)] 0 _)
      have w2 := ((wX.alloc (.cells #[.int .i64 (vk : Int), .int .u64 (va : Int), .int .u64 (vb : Int), .int .u64 (vc : Int), .int .u64 (vd : Int), .int .i64 fa, .int .i64 fb] 146)).alloc (.cells #[.int .i64 (why : Int), .int .i64 (q : Int)] 28)).drew
      exact ⟨w2, ⟨0, ⟨vk, ⟨va, vb, vc, vd⟩, fa, fb⟩⟩, by rw [← HQ.out]; rfl⟩
theorem next_any {b : Nat} {t : ByteArray} {i o : Nat} {ah : Bool} (w : World) (h : Rd b t i o ah w) (ht : t.size ≤ 1000000) (hi : i < t.size) (ho : o ≤ 16) : Calls Tryz.prog 114 #[.pointer (some ⟨b, 0, none⟩)] w (NextPost b t w (nextR o ah ((bl t).drop i))) := by
  cases hm : isMark t[i] with
  | true => exact next_mark w h ht hi ho hm
  | false => exact next_thing w h ht hi hm
end Go.Proofs.YtedepknbaakkhabGreatDoor.X
namespace Go.Proofs.YtedepknbaakkhabGreatDoor.X
open Go.RowKit Go.Shelf RxSem
theorem sc_next {o : Nat} {a : Bool} {c : UInt8} {t : List UInt8} {res : SRes} (h : Sc o a (c :: t) res) : match nextR o a (c :: t) with
    | .ok x o' a' r => ∃ res', Sc o' a' r res' ∧ res = res'.cons x
    | .bad w l => res = .bad w l := by
  unfold nextR
  dsimp only
  cases h with
  | markBad _ _ _ _ w h h1 => rw [if_pos h, h1]
  | mark _ _ _ _ o' a' r h h1 h2 => rw [if_pos h, h1]; exact ⟨r, h2, rfl⟩
  | thingBad _ _ _ _ w l h h1 => rw [if_neg (by rw [h]; simp), h1]
  | thing _ _ _ _ t' x r h h1 h2 => rw [if_neg (by rw [h]; simp), h1]; exact ⟨r, h2, rfl⟩
theorem thingR_len {c : UInt8} {t : List UInt8} {x : Stp} {r : List UInt8} (h : thingR (c :: t) = .inl (x, r)) : r.length < (c :: t).length := by
  unfold thingR at h
  dsimp only at h
  split at h
  · cases h; simp
  · split at h
    · cases h; simp
    · split at h
      · cases h; simp
      · split at h
        · split at h
          · rename_i hs; cases h; have := setR_len hs; simp; omega
          · cases h
          · cases h
        · split at h
          · split at h
            · cases h
            · cases h; simp; omega
          · cases h; simp
theorem next_less {o : Nat} {a : Bool} {c : UInt8} {t : List UInt8} (ho : o ≤ 16) {x : Sg} {o' : Nat} {a' : Bool} {r : List UInt8} (h : nextR o a (c :: t) = .ok x o' a' r) : o' ≤ 16 ∧ r.length < (c :: t).length := by
  unfold nextR at h
  dsimp only at h
  split at h
  · split at h
    · cases h
    · rename_i hm
      cases h
      refine ⟨?_, by simp⟩
      unfold markR at hm
      split at hm
      · cases hm
      · split at hm
        · cases hm
        · split at hm
          · rename_i h1 h2 h3
            simp only [Sum.inr.injEq, Prod.mk.injEq] at hm
            have : ¬ o = 16 := fun e => h2 ⟨h3, e⟩
            omega
          · split at hm
            · simp only [Sum.inr.injEq, Prod.mk.injEq] at hm; omega
            · simp only [Sum.inr.injEq, Prod.mk.injEq] at hm; omega
  · split at h
    · rename_i hm; cases h; exact ⟨ho, thingR_len hm⟩
    · cases h
theorem setL_34 : ∀ (m : Nat) (r : List UInt8) (first : Bool) (f : UInt8 → Bool) (w l : Nat), r.length ≤ m → setL r first f = .inr (w, l) → w ≠ 0 := by
  intro m
  induction m with
  | zero =>
    intro r first f w l hm h
    have : r = [] := List.length_eq_zero_iff.1 (by omega)
    subst this
    rw [setL_nil] at h
    simp at h; omega
  | succ m ih =>
    intro r first f w l hm h
    cases r with
    | nil => rw [setL_nil] at h; simp at h; omega
    | cons c t =>
      simp only [List.length_cons] at hm
      by_cases hc : c = 93 ∧ first = false
      · rw [setL_stop hc] at h; cases h
      · cases t with
        | nil => rw [setL_last hc] at h; simp at h; omega
        | cons a t =>
          simp only [List.length_cons] at hm
          by_cases ha : a = 45
          · subst ha
            cases t with
            | nil => rw [setL_dash hc] at h; simp at h; omega
            | cons d t =>
              simp only [List.length_cons] at hm
              rw [setL_range hc] at h
              by_cases hd : d = 93
              · rw [if_pos hd] at h; exact ih _ _ _ _ _ (by simp; omega) h
              · rw [if_neg hd] at h
                by_cases hl : d < c
                · rw [if_pos hl] at h; simp at h; omega
                · rw [if_neg hl] at h; exact ih _ _ _ _ _ (by omega) h
          · rw [setL_byte hc ha] at h; exact ih _ _ _ _ _ (by simp; omega) h
theorem setR_34 {r : List UInt8} {w l : Nat} (h : setR r = .bad w l) : w ≠ 0 := by
  unfold setR at h
  split at h
  · split at h
    · cases h
    · rename_i hs; cases h; exact setL_34 _ _ _ _ _ _ (Nat.le_refl _) hs
  · split at h
    · cases h
    · rename_i hs; cases h; exact setL_34 _ _ _ _ _ _ (Nat.le_refl _) hs
theorem next_why {o : Nat} {a : Bool} {c : UInt8} {t : List UInt8} {w l : Nat} (h : nextR o a (c :: t) = .bad w l) : w ≠ 0 := by
  unfold nextR at h
  dsimp only at h
  split at h
  · split at h
    · rename_i hm
      cases h
      unfold markR at hm
      split at hm
      · simp only [Sum.inl.injEq] at hm; omega
      · split at hm
        · simp only [Sum.inl.injEq] at hm; omega
        · split at hm
          · cases hm
          · split at hm <;> cases hm
    · cases h
  · split at h
    · cases h
    · rename_i hm
      cases h
      unfold thingR at hm
      dsimp only at hm
      split at hm
      · cases hm
      · split at hm
        · cases hm
        · split at hm
          · cases hm
          · split at hm
            · rcases setR_shape t with ⟨f, r, e⟩ | ⟨w', l', e⟩
              · rw [e] at hm; cases hm
              · rw [e] at hm; cases hm; exact setR_34 e
            · split at hm
              · split at hm
                · simp only [Sum.inr.injEq, Prod.mk.injEq] at hm; omega
                · cases hm
              · cases hm
theorem infoS : (Tryz.prog.info? 148).map (fun i => (i.zero, i.size, i.bytes)) = some (some (.agg #[.int .u8 0, .int .i64 0, .int .u64 0, .int .u64 0, .int .u64 0, .int .u64 0, .int .i64 0, .int .i64 0]), 8, 64) := by kernel_rfl
theorem info_parts {P : Program} {T : TypeId} {z : Option Value} {k n : Nat} (h : (P.info? T).map (fun i => (i.zero, i.size, i.bytes)) = some (z, k, n)) : ∃ i, P.info? T = some i ∧ i.zero = z ∧ i.size = k ∧ i.bytes = n := by
  cases hi : P.info? T with
  | none => rw [hi] at h; cases h
  | some i => rw [hi] at h; simp at h; exact ⟨i, rfl, h.1, h.2.1, h.2.2⟩
theorem signC_len (x : SG) : (signC x).length = 8 := rfl
theorem row_ne {w : World} {base g : Nat} {v : Value} {e T : TypeId} {k n : Nat} {xs : List Value} {cs : Array Value} (h : w.ownsRow base e k v n xs) (hg : w.heap[g]? = some (.cells cs T (0, 0))) (hT : ¬ e = T) : v.ownBlock ≠ some g := fun hv => by
  obtain ⟨cur, hc⟩ := row_type h hv
  rw [hc] at hg
  simp at hg
  exact hT hg.2
theorem wrote_row {b : Nat} {w w1 : World} {base n k : Nat} {v : Value} {e : TypeId} {xs : List Value} (h : Wrote b w w1) (hr : w.ownsRow base e k v n xs) (hb : v.ownBlock ≠ some b) : w1.ownsRow base e k v n xs := by
  refine ⟨hr.1, ?_⟩
  rcases hr.2 with h0 | ⟨g, cap, cur, hv, hg, hgg, rest⟩
  · exact .inl h0
  · refine .inr ⟨g, cap, cur, hv, hg, ?_, rest⟩
    rw [h.block g (Array.getElem?_eq_some_iff.1 hgg).1 (fun e => hb (by rw [hv, e]; rfl))]
    exact hgg
theorem res_read {tmps : Array Value} {B : Nat} {w9 : World} (v z0 z1 : Value) (h2 : tmps[2]? = some v) (h3 : tmps[3]? = some (.pointer (some ⟨B, 0, none⟩))) (k2 : w9.heap[B]? = some (.cells #[z0, z1] 28 (0, 0))) :
    (results Tryz.f78 tmps).run Tryz.prog w9 = .ok (.tuple #[v, .agg #[z0, z1]]) w9 := by
  have q0 : w9.cell? ⟨B, 0, none⟩ = some z0 := by simp only [World.cell?, k2]; rfl
  have q1 : w9.cell? ⟨B, 1, none⟩ = some z1 := by simp only [World.cell?, k2]; rfl
  simp [results, Tryz.results78, go_sem, h2, h3, q0, q1]
def ReadPost (s : ByteArray) (w : World) (res : SRes) (e : Ending) (w' : World) : Prop := Below w.heap.size w w' ∧ match res with
    | .ok sg => ∃ (v : Value) (L : List SG), e = .returned (.tuple #[v, faultV 0 0]) ∧ w'.ownsRow w.heap.size 148 8 v L.length (L.flatMap signC) ∧ L.map SG.abs = sg ∧ ∀ x ∈ L, x.v.Ok
    | .bad why left => e = .returned (.tuple #[.slice none 0 0, faultV why (s.size - left)])
set_option maxHeartbeats 400000 in
theorem read_any (s : ByteArray) (hs : s.size ≤ 200) (res : SRes) (hres : Sc 0 false (bl s) res) (w : World) : Calls Tryz.prog 78 #[.string s] w (ReadPost s w res) := by
  obtain ⟨i0, hi, hz0, hz1, hz2⟩ := info_parts infoS
  have hs2 : ¬ (200 : Int) < (s.size : Int) := by omega
  obtain ⟨W0, hW, hB, hS, k1, k2⟩ := two w (.cells #[.int .i64 0, .int .i64 0] 28) (.cells #[.string s, .int .i64 0, .int .i64 0, .bool false] 141)
  have HRes : Hid (Sc 0 false (bl s) res) := hres
  have HW : Hid (Below w.heap.size w W0 ∧ W0.heap[w.heap.size]? = _ ∧ W0.heap.size = w.heap.size + 2 ∧ Rd (w.heap.size + 1) s 0 0 false W0) := ⟨hB, k1, hS, k2⟩
  clear hres hB k1 k2 hS
  go_enter Tryz.func78, Tryz.ntmps78
  go_wp2_with fail
  rw [← hW]
  clear hW
  go_loopw [5] (fun v wr => ∃ (i o : Nat) (ah : Bool) (L : List SG) (res' : SRes), Rd (w.heap.size + 1) s i o ah wr ∧ i ≤ s.size ∧ o ≤ 16 ∧ L.length ≤ i ∧ Sc o ah ((bl s).drop i) res' ∧ res'.app (L.map SG.abs) = res ∧ wr.ownsRow w.heap.size 148 8 v L.length (L.flatMap signC) ∧ (∀ x ∈ L, x.v.Ok) ∧ Below w.heap.size w wr ∧ wr.heap[w.heap.size]? = some (.cells #[.int .i64 0, .int .i64 0] 28 (0, 0))) (fun _ wr => s.size - atOf (w.heap.size + 1) wr)
  case atStart =>
    obtain ⟨g1, g2, g3, g4⟩ := HW.out
    exact ⟨0, 0, false, [], res, g4, Nat.zero_le _, by omega, Nat.le_refl _, HRes.out, SRes.app_nil _, World.ownsRow_nil _ _ _ _, by simp, g1, g2⟩
  case round =>
    obtain ⟨i, o, ah, L, res', hRd, hi', ho, hL, hSc, happ, hrow, hok, hBw, hk0⟩ := hrel
    have c1 := hRd.c1
    have hlt0 := hRd.lt
    by_cases hlt : i < s.size
    · have hl2 : (i : Int) < (s.size : Int) := by omega
      have HNx : Hid (∀ W, Rd (w.heap.size + 1) s i o ah W → Calls Tryz.prog 114 #[.pointer (some ⟨w.heap.size + 1, 0, none⟩)] W (NextPost (w.heap.size + 1) s W (nextR o ah ((bl s).drop i)))) := fun W hW => next_any W hW (by omega) hlt ho
      have hsc := sc_next (o := o) (a := ah) (c := s[i]) (t := (bl s).drop (i + 1)) (res := res') (by rw [← drop_ba s i hlt]; exact hSc)
      have hless : ∀ x o' a' r, nextR o ah (s[i] :: (bl s).drop (i + 1)) = .ok x o' a' r → o' ≤ 16 ∧ r.length < (s[i] :: (bl s).drop (i + 1)).length := fun _ _ _ _ h => next_less ho h
      have hwhy : ∀ w l, nextR o ah (s[i] :: (bl s).drop (i + 1)) = .bad w l → w ≠ 0 := fun _ _ h => next_why h
      rw [← drop_ba s i hlt] at hsc hless hwhy
      have HK : Hid (wr.ownsRow w.heap.size 148 8 u5 L.length (L.flatMap signC) ∧ Below w.heap.size w wr ∧ wr.heap[w.heap.size]? = some (.cells #[.int .i64 0, .int .i64 0] 28 (0, 0)) ∧ Rd (w.heap.size + 1) s i o ah wr ∧ L.length ≤ i ∧ res'.app (L.map SG.abs) = res ∧ (∀ x ∈ L, x.v.Ok)) := ⟨hrow, hBw, hk0, hRd, hL, happ, hok⟩
      have z1 : w.heap.size < wr.heap.size := by omega
      clear hrow hBw hk0 hRd hL happ hok hSc ho hi'
      revert hsc hless hwhy HNx
      generalize nextR o ah ((bl s).drop i) = R
      intro HNx hsc hless hwhy
      go_wp2_with fail
      refine (HNx.out wr HK.out.2.2.2.1).mono ?_
      rintro e w1 ⟨hw1, hp⟩
      have HH1 : Hid (Wrote (w.heap.size + 1) wr w1) := hw1
      have z2 : w.heap.size < w1.heap.size := by have := hw1.size; omega
      have z3 : w.heap.size + 1 < w1.heap.size := by have := hw1.size; omega
      have k0 : w1.heap[w.heap.size]? = some (.cells #[.int .i64 0, .int .i64 0] 28 (0, 0)) := (hw1.block _ z1 (by omega)).trans HK.out.2.2.1
      have t0 : w1.cell? ⟨w.heap.size, 0, none⟩ = some (.int .i64 0) := by simp only [World.cell?, k0]; rfl
      have t1 : w1.cell? ⟨w.heap.size, 1, none⟩ = some (.int .i64 0) := by simp only [World.cell?, k0]; rfl
      have tf : ∀ j, w1.frozen? ⟨w.heap.size, j, none⟩ = false := fun j => by simp [World.frozen?, k0]
      have HK0 : Hid (w1.heap[w.heap.size]? = _) := k0
      clear hw1 k0 c1 hlt0 HNx
      match R, hsc, hless, hwhy, hp with
      | .bad why left, hsc, hless, hwhy, hp =>
        obtain ⟨⟨sm, sk, ⟨sa, sb, sc, sd⟩, fa, fb⟩, rfl⟩ := hp
        have hw0 : ¬ (why : Int) = 0 := by have := hwhy _ _ rfl; omega
        have HSC : Hid (res' = .bad why left) := hsc
        obtain ⟨q, hq⟩ : ∃ q, q = s.size - left := ⟨_, rfl⟩
        have HQ : Hid (q = s.size - left) := hq
        rw [← hq]
        clear hsc hless hwhy hq
        have HB1 : Hid (Below w.heap.size w w1) := HK.out.2.1.trans (HH1.out.below (by omega) (by omega))
        unfold signV signC stepC faultV
        dsimp only
        go_wp2_with fail
        go_region_with (fail)
        all_goals
          go_wp2_with fail
          refine bodyPost_ret (res_read (B := w.heap.size) (.slice none 0 0) (.int .i64 (why : Int)) (.int .i64 (q : Int)) rfl rfl ?g1) rfl ?_
          case g1 =>
            refine (alloc2_heap (X := puts w.heap.size 0 [.int .i64 (why : Int), .int .i64 (q : Int)] w1) ?_).trans (puts_all (w := w1) HK0.out [.int .i64 (why : Int), .int .i64 (q : Int)] rfl)
            rw [(puts_only _ _ _ _).size]; exact z2
          have wX : Below w.heap.size w (puts w.heap.size 0 [.int .i64 (why : Int), .int .i64 (q : Int)] w1) := (puts_only w.heap.size [.int .i64 (why : Int), .int .i64 (q : Int)] 0 w1).below (Nat.le_refl _) HB1.out
          have w2 := ((wX.alloc wX.size (.cells #[.int .u8 (sm.toNat : Int), .int .i64 (sk : Int), .int .u64 (sa : Int), .int .u64 (sb : Int), .int .u64 (sc : Int), .int .u64 (sd : Int), .int .i64 fa, .int .i64 fb] 148)).alloc (Nat.le_trans wX.size (by simp)) (.cells #[.int .i64 (why : Int), .int .i64 (q : Int)] 28)).drew
          obtain ⟨hrow, hBw, hk0, hRd, hL, happ, hok⟩ := HK.out
          rw [← happ, HSC.out]
          refine ⟨w2, ?_⟩
          show _ = Ending.returned (.tuple #[.slice none 0 0, faultV why (s.size - left)])
          rw [← HQ.out]; rfl
      | .ok x o' a' r, hsc, hless, hwhy, hp =>
        obtain ⟨⟨sm, sk, ⟨sa, sb, sc, sd⟩, fa, fb⟩, hv, hab, rfl, i2, hRd2, hi2, hd2⟩ := hp
        have HSC : Hid (_ ∧ _ ∧ _ ∧ _ ∧ _ ∧ _ ∧ _) := ⟨hsc, hless _ _ _ _ rfl, hv, hab, hRd2, hi2, hd2⟩
        clear hsc hless hwhy hv hab hRd2 hi2 hd2
        obtain ⟨n, hn⟩ : ∃ n, n = L.length := ⟨_, rfl⟩
        have hr1 : w1.ownsRow w.heap.size 148 8 u5 n (L.flatMap signC) := by
          rw [hn]
          exact wrote_row HH1.out HK.out.1 (row_ne HK.out.1 HK.out.2.2.2.1 (by decide))
        have hn2 : n ≤ 200 := by have := HK.out.2.2.2.2.1; omega
        have HN : Hid (n = L.length) := hn
        have HB1 : Hid (Below w.heap.size w w1) := HK.out.2.1.trans (HH1.out.below (by omega) (by omega))
        have hsl : ∃ a cap, u5 = .slice a n cap := by
          rcases hr1.2 with ⟨rfl, rfl⟩ | ⟨g, cap, cur, rfl, _⟩
          · exact ⟨_, _, rfl⟩
          · exact ⟨_, _, rfl⟩
        obtain ⟨a, cap, rfl⟩ := hsl
        clear hn
        unfold signV signC stepC faultV
        dsimp only
        go_wp2_with (first | (at_builtin; refine wpList_append_own_at _ rfl _ _ 96 rfl w.heap.size 148 i0 (.agg #[.int .u8 0, .int .i64 0, .int .u64 0, .int .u64 0, .int .u64 0, .int .u64 0, .int .i64 0, .int .i64 0]) 8 64 Tryz.underlying96 hi hz0 hz1 hz2 rfl (by decide) _ _ _ rfl (((hr1.alloc _).alloc _).alloc _) ⟨w1.heap.size + 1 + 1, 0, none⟩ 1 1 [.int .u8 (sm.toNat : Int), .int .i64 (sk : Int), .int .u64 (sa : Int), .int .u64 (sb : Int), .int .u64 (sc : Int), .int .u64 (sd : Int), .int .i64 fa, .int .i64 fb] rfl rfl ?c1 ?c2 ?c3 ?c4 ?c5 ?_) | fail)
        case c2 => exact ⟨rfl, rfl, rfl, rfl, rfl, rfl, rfl, rfl⟩
        case c3 => unfold maxLen; omega
        case c4 => omega
        case c5 => omega
        intro v0 w3 hown' hgrow _ hloc
        have hs3 := hgrow.size
        have HG : Hid (∀ j, j < w1.heap.size → (∃ cs T, w1.heap[j]? = some (.cells cs T (0, 0)) ∧ ¬ 148 = T) → w3.heap[j]? = w1.heap[j]?) := fun j hj hT => by
          obtain ⟨cs, T, hc, hT⟩ := hT
          rw [hgrow.block j (by simp; omega) (fun e => row_ne hr1 hc hT e.symm)]
          rw [Below.heap_alloc _ _ _ (by simp; omega), Below.heap_alloc _ _ _ (by simp; omega)]
          exact Below.heap_alloc _ _ _ hj
        have HB3 : Hid (Below w.heap.size w w3) := by
          refine ⟨hgrow.os.trans HB1.out.os, hgrow.tape.trans HB1.out.tape, hgrow.output.trans HB1.out.output, by simp at hs3; omega, fun j hj => ?_⟩
          rw [hgrow.block j (by simp; omega) (fun e => by have := (hr1.lt j e.symm).1; omega)]
          rw [Below.heap_alloc _ _ _ (by simp; omega), Below.heap_alloc _ _ _ (by simp; omega), Below.heap_alloc _ _ _ (by omega)]
          exact HB1.out.block j hj
        have HO : Hid (w3.ownsRow w.heap.size 148 8 v0 (L ++ [(⟨sm, sk, ⟨sa, sb, sc, sd⟩, fa, fb⟩ : SG)]).length ((L ++ [(⟨sm, sk, ⟨sa, sb, sc, sd⟩, fa, fb⟩ : SG)]).flatMap signC)) := by
          unfold Hid
          rw [List.flatMap_append, List.length_append, ← HN.out]
          exact hown'
        clear hown' hgrow hloc hs3 hr1
        go_wp2_with fail
        go_roundw
        case rel =>
          obtain ⟨hrow, hBw, hk0, hRd, hL, happ, hok⟩ := HK.out
          obtain ⟨⟨res2, hsc2, hres2⟩, hless, hv, hab, hRd2, hi2, hd2⟩ := HSC.out
          have hlen : i < i2 := by
            have h2 := hless.2
            rw [← hd2, List.length_drop, List.length_drop, bl_length] at h2
            omega
          refine ⟨i2, o', a', L ++ [⟨sm, sk, ⟨sa, sb, sc, sd⟩, fa, fb⟩], res2, (HG.out _ z3 ⟨_, _, hRd2, by decide⟩).trans hRd2, hi2, hless.1, by rw [List.length_append]; simp; omega, by rw [hd2]; exact hsc2, ?_, HO.out, ?_, HB3.out, (HG.out _ z2 ⟨_, _, HK0.out, by decide⟩).trans HK0.out⟩
          · rw [← happ, hres2, ← hab, List.map_append, ← SRes.app_app]
            congr 1
          · intro y hy
            rcases List.mem_append.1 hy with hy | hy
            · exact hok y hy
            · have : y = ⟨sm, sk, ⟨sa, sb, sc, sd⟩, fa, fb⟩ := by simpa using hy
              rw [this]; exact hv
        case measure =>
          obtain ⟨hrow, hBw, hk0, hRd, hL, happ, hok⟩ := HK.out
          obtain ⟨_, hless, hv, hab, hRd2, hi2, hd2⟩ := HSC.out
          have hlen : i < i2 := by
            have h2 := hless.2
            rw [← hd2, List.length_drop, List.length_drop, bl_length] at h2
            omega
          have e1 : atOf (w.heap.size + 1) w3 = i2 := Rd.at (t := s) (o := o') (ah := a') ((HG.out _ z3 ⟨_, _, hRd2, by decide⟩).trans hRd2)
          rw [e1, hRd.at]
          omega
    · have hl2 : ¬ (i : Int) < (s.size : Int) := by omega
      have c2 := hRd.c2
      have HMi : Hid (∀ W, Rd (w.heap.size + 1) s i o ah W → Calls Tryz.prog 115 #[.pointer (some ⟨w.heap.size + 1, 0, none⟩)] W fun e w' => e = .returned (faultV 4 s.size) ∧ Below W.heap.size W w') := fun W hW => missing_any W hW
      have HK : Hid (wr.ownsRow w.heap.size 148 8 u5 L.length (L.flatMap signC) ∧ Below w.heap.size w wr ∧ wr.heap[w.heap.size]? = some (.cells #[.int .i64 0, .int .i64 0] 28 (0, 0)) ∧ Rd (w.heap.size + 1) s i o ah wr ∧ L.length ≤ i ∧ res'.app (L.map SG.abs) = res ∧ (∀ x ∈ L, x.v.Ok)) := ⟨hrow, hBw, hk0, hRd, hL, happ, hok⟩
      have t0 : wr.cell? ⟨w.heap.size, 0, none⟩ = some (.int .i64 0) := by simp only [World.cell?, hk0]; rfl
      have t1 : wr.cell? ⟨w.heap.size, 1, none⟩ = some (.int .i64 0) := by simp only [World.cell?, hk0]; rfl
      have tf : ∀ j, wr.frozen? ⟨w.heap.size, j, none⟩ = false := fun j => by simp [World.frozen?, hk0]
      have hdr : (bl s).drop i = [] := List.drop_of_length_le (by rw [bl_length]; omega)
      rw [hdr] at hSc
      cases hSc with
      | nil =>
        have HK0 : Hid (wr.heap[w.heap.size]? = some (.cells #[.int .i64 0, .int .i64 0] 28 (0, 0))) := hk0
        clear hrow hBw hk0 hRd hL happ hok hi' ho hdr HMi
        go_wp2_with fail
        refine bodyPost_ret (by simp [results, Tryz.results78, go_sem, t0, t1]; try rfl) rfl ?_
        obtain ⟨hrow, hBw, hk0, hRd, hL, happ, hok⟩ := HK.out
        rw [← happ]
        refine ⟨(((Only.set w.heap.size 0 wr (.int .i64 0)).trans (Only.set w.heap.size 1 _ (.int .i64 0))).below (Nat.le_refl _) hBw), u5, L, rfl, ?_, by simp, hok⟩
        have hne := row_ne hrow HK0.out (by decide)
        exact row_set (row_set hrow hne _) hne _
      | opened _ _ ho0 =>
        have ho1 : (0 : Int) < (o : Int) := by omega
        have HK0 : Hid (wr.heap[w.heap.size]? = some (.cells #[.int .i64 0, .int .i64 0] 28 (0, 0))) := hk0
        have z1 : w.heap.size < wr.heap.size := by omega
        clear hrow hBw hk0 hRd hL happ hok hi' ho hdr
        go_wp2_with fail
        refine (HMi.out wr HK.out.2.2.2.1).mono ?_
        rintro e w1 ⟨rfl, hb1⟩
        have k0 : w1.heap[w.heap.size]? = some (.cells #[.int .i64 0, .int .i64 0] 28 (0, 0)) := (hb1.block _ z1).trans HK0.out
        have t0 : w1.cell? ⟨w.heap.size, 0, none⟩ = some (.int .i64 0) := by simp only [World.cell?, k0]; rfl
        have t1 : w1.cell? ⟨w.heap.size, 1, none⟩ = some (.int .i64 0) := by simp only [World.cell?, k0]; rfl
        have tf : ∀ j, w1.frozen? ⟨w.heap.size, j, none⟩ = false := fun j => by simp [World.frozen?, k0]
        have HB1 : Hid (Below w.heap.size w w1) := HK.out.2.1.trans (hb1.mono (by omega))
        clear hb1 k0 HMi
        unfold faultV
        go_wp2_with fail
        refine bodyPost_ret (by simp [results, Tryz.results78, go_sem, t0, t1]; try rfl) rfl ?_
        obtain ⟨hrow, hBw, hk0, hRd, hL, happ, hok⟩ := HK.out
        rw [← happ]
        exact ⟨(((Only.set w.heap.size 0 w1 (.int .i64 4)).trans (Only.set w.heap.size 1 _ (.int .i64 (s.size : Int)))).below (Nat.le_refl _) HB1.out), rfl⟩
end Go.Proofs.YtedepknbaakkhabGreatDoor.X
