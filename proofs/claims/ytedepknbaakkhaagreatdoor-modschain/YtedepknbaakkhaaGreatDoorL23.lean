/-
  PNext
-/
import Derived.Test.YtedepknbaakkhaaGreatDoorL21
import Derived.Test.YtedepknbaakkhaaGreatDoorL22
import Derived.Lib.IndexAny
set_option maxRecDepth 20000
namespace Go.Proofs.YtedepknbaakkhaaGreatDoor.X
open Go.RowKit Go.Shelf RxSem
inductive NR where
  | ok (x : Sg) (o : Nat) (a : Bool) (r : List UInt8)
  | bad (why left : Nat)
def nextR (o : Nat) (a : Bool) : List UInt8 → NR
  | [] => .bad 0 0
  | c :: t => if isMark c then (match markR o a c with
      | .inl w => .bad w (t.length + 1)
      | .inr (o', a') => .ok (.mark c) o' a' t) else match thingR (c :: t) with
      | .inl (x, r) => .ok (.thing x) o true r
      | .inr (w, l) => .bad w l
def NextPost (b : Nat) (t : ByteArray) (w : World) (R : NR) (e : Ending) (w' : World) : Prop := Wrote b w w' ∧ match R with
  | .ok x o a r => ∃ s : SG, s.v.Ok ∧ s.abs = x ∧ e = .returned (.tuple #[signV s, faultV 0 0]) ∧ ∃ i, Rd b t i o a w' ∧ i ≤ t.size ∧ (bl t).drop i = r
  | .bad why left => ∃ s : SG, e = .returned (.tuple #[signV s, faultV why (t.size - left)])
theorem Rd.drew {b : Nat} {t : ByteArray} {i o : Nat} {ah : Bool} {w : World} (h : Rd b t i o ah w) : Rd b t i o ah w.drew := h
theorem alloc2_heap {X : World} {o1 o2 : Obj} {j : Nat} (hj : j < X.heap.size) : (((X.alloc o1).alloc o2).drew).heap[j]? = X.heap[j]? :=
  (Below.heap_alloc (X.alloc o1) o2 j (by simp; omega)).trans (Below.heap_alloc X o1 j hj)
theorem res_next {tmps : Array Value} {B : Nat} {w9 : World} (x0 x1 x2 x3 x4 x5 x6 x7 z0 z1 : Value) (h2 : tmps[2]? = some (.pointer (some ⟨B, 0, none⟩))) (h3 : tmps[3]? = some (.pointer (some ⟨B + 1, 0, none⟩))) (k1 : w9.heap[B]? = some (.cells #[x0, x1, x2, x3, x4, x5, x6, x7] 192 (0, 0))) (k2 : w9.heap[B + 1]? = some (.cells #[z0, z1] 33 (0, 0))) :
    (results Tryz.f167 tmps).run Tryz.prog w9 = .ok (.tuple #[.agg #[x0, x1, x2, x3, x4, x5, x6, x7], .agg #[z0, z1]]) w9 := by
  have r0 : w9.cell? ⟨B, 0, none⟩ = some x0 := by simp only [World.cell?, k1]; rfl
  have r1 : w9.cell? ⟨B, 1, none⟩ = some x1 := by simp only [World.cell?, k1]; rfl
  have r2 : w9.cell? ⟨B, 2, none⟩ = some x2 := by simp only [World.cell?, k1]; rfl
  have r3 : w9.cell? ⟨B, 3, none⟩ = some x3 := by simp only [World.cell?, k1]; rfl
  have r4 : w9.cell? ⟨B, 4, none⟩ = some x4 := by simp only [World.cell?, k1]; rfl
  have r5 : w9.cell? ⟨B, 5, none⟩ = some x5 := by simp only [World.cell?, k1]; rfl
  have r6 : w9.cell? ⟨B, 6, none⟩ = some x6 := by simp only [World.cell?, k1]; rfl
  have r7 : w9.cell? ⟨B, 7, none⟩ = some x7 := by simp only [World.cell?, k1]; rfl
  have q0 : w9.cell? ⟨B + 1, 0, none⟩ = some z0 := by simp only [World.cell?, k2]; rfl
  have q1 : w9.cell? ⟨B + 1, 1, none⟩ = some z1 := by simp only [World.cell?, k2]; rfl
  simp [results, Tryz.results167, go_sem, h2, h3, r0, r1, r2, r3, r4, r5, r6, r7, q0, q1]
theorem Rd.alloc {b : Nat} {t : ByteArray} {i o : Nat} {ah : Bool} {w : World} (h : Rd b t i o ah w) (x : Obj) : Rd b t i o ah (w.alloc x) := (Below.heap_alloc _ _ _ h.lt).trans h
theorem isMark_idx (c : UInt8) : isMark c = decide (0 ≤ Lib.indexByte [42, 43, 63, 124, 40, 41] c) := by
  rw [← Lib.contains_iff_indexByte]
  unfold isMark
  simp only [List.contains_cons, List.contains_nil, Bool.or_false, Bool.or_assoc]
theorem mark_ne {c : UInt8} (h : isMark c = true) : c ≠ 0 := by rintro rfl; revert h; decide
set_option maxHeartbeats 800000 in
theorem next_mark {b : Nat} {t : ByteArray} {i o : Nat} {ah : Bool} (w : World) (h : Rd b t i o ah w) (ht : t.size ≤ 1000000) (hi : i < t.size) (ho : o ≤ 16) (hm : isMark t[i] = true) : Calls Tryz.prog 167 #[.pointer (some ⟨b, 0, none⟩)] w (NextPost b t w (nextR o ah ((bl t).drop i))) := by
  have hb := h.lt
  obtain ⟨W0, hW, hB, hS, k1, k2⟩ := two w (.cells #[.int .u8 0, .int .i64 0, .int .u64 0, .int .u64 0, .int .u64 0, .int .u64 0, .int .i64 0, .int .i64 0] 192) (.cells #[.int .i64 0, .int .i64 0] 33)
  have h0 := h.below hB
  have c0 := h0.c0
  have c1 := h0.c1
  have fr := h0.fr
  have b0 : ¬ b = w.heap.size := by omega
  have b1 : ¬ b = w.heap.size + 1 := by omega
  have hi2 : (i : Int) < (t.size : Int) := by omega
  obtain ⟨x, hx0, hx⟩ : ∃ x : Int,  0 ≤ x ∧ x = Lib.indexByte [42, 43, 63, 124, 40, 41] t[i] := by
    rw [isMark_idx] at hm; exact ⟨_, by simpa using hm, rfl⟩
  have HI : Hid (∀ W, Calls Tryz.prog 196 #[.string ⟨#[42, 43, 63, 124, 40, 41]⟩, .int .u8 (t[i].toNat : Int)] W fun e w' => e = .returned (.int .i64 x) ∧ w' = W) := fun W => by
    have := Tryz.strings_IndexByte ⟨#[42, 43, 63, 124, 40, 41]⟩ (t[i].toNat : Int) W
    rw [u8_back] at this
    rw [hx]; exact this
  have HW : Hid (Below w.heap.size w W0 ∧ Rd b t i o ah W0 ∧ W0.heap[w.heap.size]? = _ ∧ W0.heap[w.heap.size + 1]? = _ ∧ W0.heap.size = w.heap.size + 2) := ⟨hB, h0, k1, k2, hS⟩
  have HM : Hid (∀ W, Rd b t i o ah W → Calls Tryz.prog 201 #[.pointer (some ⟨b, 0, none⟩), .int .u8 (t[i].toNat : Int)] W (MarkPost b t i t[i] W (markR o ah t[i]))) := fun W hW => mark_any t[i] hm W hW ht hi ho
  have HN : Hid (nextR o ah ((bl t).drop i) = match markR o ah t[i] with
      | .inl w => .bad w (((bl t).drop (i + 1)).length + 1)
      | .inr (o', a') => .ok (.mark t[i]) o' a' ((bl t).drop (i + 1))) := by
    unfold Hid
    rw [drop_ba t i hi]; unfold nextR; dsimp only; rw [if_pos hm]
  have HMK : Hid (t[i] ≠ 0) := mark_ne hm
  clear h h0 hB hS k1 k2 hx hm
  go_enter Tryz.func167, Tryz.ntmps167
  go_wp2_with fail
  rw [← hW]
  clear hW
  go_wp2_with fail
  go_quiet (fail)
  go_wp2_with fail
  refine (HI.out _).mono ?_
  rintro e w1 ⟨rfl, rfl⟩
  go_wp2_with fail
  refine (HM.out (W0.drewN nq) HW.out.2.1).mono ?_
  rintro e w1 ⟨hw1, hp⟩
  have HH1 : Hid (w1.heap[w.heap.size]? = W0.heap[w.heap.size]? ∧ w1.heap[w.heap.size + 1]? = W0.heap[w.heap.size + 1]? ∧ Wrote b w w1) := by
    have u : ∀ j, j ≠ b → j < W0.heap.size → w1.heap[j]? = W0.heap[j]? := fun j hj hl => hw1.block j hl hj
    have hs := HW.out.2.2.2.2
    exact ⟨u _ (Ne.symm b0) (by omega), u _ (Ne.symm b1) (by omega), ((Wrote.of_below HW.out.1).drewN nq).trans hw1⟩
  have s0 : w1.cell? ⟨w.heap.size, 0, none⟩ = some (.int .u8 0) := by simp only [World.cell?, HH1.out.1, HW.out.2.2.1]; rfl
  have s1 : w1.cell? ⟨w.heap.size, 1, none⟩ = some (.int .i64 0) := by simp only [World.cell?, HH1.out.1, HW.out.2.2.1]; rfl
  have s2 : w1.cell? ⟨w.heap.size, 2, none⟩ = some (.int .u64 0) := by simp only [World.cell?, HH1.out.1, HW.out.2.2.1]; rfl
  have s3 : w1.cell? ⟨w.heap.size, 3, none⟩ = some (.int .u64 0) := by simp only [World.cell?, HH1.out.1, HW.out.2.2.1]; rfl
  have s4 : w1.cell? ⟨w.heap.size, 4, none⟩ = some (.int .u64 0) := by simp only [World.cell?, HH1.out.1, HW.out.2.2.1]; rfl
  have s5 : w1.cell? ⟨w.heap.size, 5, none⟩ = some (.int .u64 0) := by simp only [World.cell?, HH1.out.1, HW.out.2.2.1]; rfl
  have s6 : w1.cell? ⟨w.heap.size, 6, none⟩ = some (.int .i64 0) := by simp only [World.cell?, HH1.out.1, HW.out.2.2.1]; rfl
  have s7 : w1.cell? ⟨w.heap.size, 7, none⟩ = some (.int .i64 0) := by simp only [World.cell?, HH1.out.1, HW.out.2.2.1]; rfl
  have sf : ∀ j, w1.frozen? ⟨w.heap.size, j, none⟩ = false := fun j => by simp [World.frozen?, HH1.out.1, HW.out.2.2.1]
  have t0 : w1.cell? ⟨w.heap.size + 1, 0, none⟩ = some (.int .i64 0) := by simp only [World.cell?, HH1.out.2.1, HW.out.2.2.2.1]; rfl
  have t1 : w1.cell? ⟨w.heap.size + 1, 1, none⟩ = some (.int .i64 0) := by simp only [World.cell?, HH1.out.2.1, HW.out.2.2.2.1]; rfl
  have tf : ∀ j, w1.frozen? ⟨w.heap.size + 1, j, none⟩ = false := fun j => by simp [World.frozen?, HH1.out.2.1, HW.out.2.2.2.1]
  have z0 : w.heap.size < w1.heap.size := by have := HW.out.2.2.2.2; have := hw1.size; simp at this; omega
  have z1 : w.heap.size + 1 < w1.heap.size := by have := HW.out.2.2.2.2; have := hw1.size; simp at this; omega
  have z2 : b < w1.heap.size := by omega
  clear hw1
  clear HM HI
  revert hp HN
  generalize markR o ah t[i] = R
  intro HN hp
  match R, hp, HN with
  | .inl why, hp, HN =>
    have HN : Hid (nextR o ah ((bl t).drop i) = .bad why (((bl t).drop (i + 1)).length + 1)) := HN
    dsimp only at hp
    subst hp
    unfold signV signC stepC faultV SV.zero W4.zero
    dsimp only
    go_wp2_with fail
    refine bodyPost_ret (by simp [results, Tryz.results167, go_sem, s0, s1, s2, s3, s4, s5, s6, s7, t0, t1]; try rfl) rfl ?_
    rw [HN.out]
    refine ⟨Wrote.only (Wrote.only HH1.out.2.2 (Nat.le_refl _) (puts_only w.heap.size [.int .u8 0, .int .i64 0, .int .u64 0, .int .u64 0, .int .u64 0, .int .u64 0, .int .i64 0, .int .i64 0] 0 _)) (by omega) (puts_only (w.heap.size + 1) [.int .i64 (why : Int), .int .i64 (i : Int)] 0 _), ⟨0, SV.zero⟩, ?_⟩
    rw [List.length_drop, bl_length, show t.size - (t.size - (i + 1) + 1) = i by omega]
    rfl
  | .inr (o', a'), hp, HN =>
    have HN : Hid (nextR o ah ((bl t).drop i) = .ok (.mark t[i]) o' a' ((bl t).drop (i + 1))) := HN
    obtain ⟨rfl, hRd⟩ := hp
    have HP : Hid (Rd b t (i + 1) o' a' w1) := hRd
    clear hRd
    unfold signV signC stepC faultV SV.zero W4.zero
    dsimp only
    go_wp2_with fail
    refine bodyPost_ret (by simp [results, Tryz.results167, go_sem, s0, s1, s2, s3, s4, s5, s6, s7, t0, t1]; try rfl) rfl ?_
    rw [HN.out]
    exact ⟨Wrote.only (Wrote.only HH1.out.2.2 (Nat.le_refl _) (puts_only w.heap.size [.int .u8 ((t[i]).toNat : Int), .int .i64 0, .int .u64 0, .int .u64 0, .int .u64 0, .int .u64 0, .int .i64 0, .int .i64 0] 0 _)) (by omega) (puts_only (w.heap.size + 1) [.int .i64 0, .int .i64 0] 0 _), ⟨t[i], SV.zero⟩, ⟨W4.zero_ok, by simp [SV.zero], by simp [SV.zero], by simp [SV.zero]⟩, if_neg HMK.out, rfl, i + 1, ((puts_only (w.heap.size + 1) [.int .i64 0, .int .i64 0] 0 _).block b b1).trans (((puts_only w.heap.size [.int .u8 ((t[i]).toNat : Int), .int .i64 0, .int .u64 0, .int .u64 0, .int .u64 0, .int .u64 0, .int .i64 0, .int .i64 0] 0 _).block b b0).trans HP.out), by omega, rfl⟩
set_option maxHeartbeats 800000 in
theorem next_thing {b : Nat} {t : ByteArray} {i o : Nat} {ah : Bool} (w : World) (h : Rd b t i o ah w) (ht : t.size ≤ 1000000) (hi : i < t.size) (hm : isMark t[i] = false) : Calls Tryz.prog 167 #[.pointer (some ⟨b, 0, none⟩)] w (NextPost b t w (nextR o ah ((bl t).drop i))) := by
  have hb := h.lt
  obtain ⟨W0, hW, hB, hS, k1, k2⟩ := two w (.cells #[.int .u8 0, .int .i64 0, .int .u64 0, .int .u64 0, .int .u64 0, .int .u64 0, .int .i64 0, .int .i64 0] 192) (.cells #[.int .i64 0, .int .i64 0] 33)
  have h0 := h.below hB
  have c0 := h0.c0
  have c1 := h0.c1
  have fr := h0.fr
  have b0 : ¬ b = w.heap.size := by omega
  have b1 : ¬ b = w.heap.size + 1 := by omega
  have hi2 : (i : Int) < (t.size : Int) := by omega
  obtain ⟨x, hx0, hx⟩ : ∃ x : Int, ¬ 0 ≤ x ∧ x = Lib.indexByte [42, 43, 63, 124, 40, 41] t[i] := by
    rw [isMark_idx] at hm; exact ⟨_, by simpa using hm, rfl⟩
  have HI : Hid (∀ W, Calls Tryz.prog 196 #[.string ⟨#[42, 43, 63, 124, 40, 41]⟩, .int .u8 (t[i].toNat : Int)] W fun e w' => e = .returned (.int .i64 x) ∧ w' = W) := fun W => by
    have := Tryz.strings_IndexByte ⟨#[42, 43, 63, 124, 40, 41]⟩ (t[i].toNat : Int) W
    rw [u8_back] at this
    rw [hx]; exact this
  have HW : Hid (Below w.heap.size w W0 ∧ Rd b t i o ah W0 ∧ W0.heap[w.heap.size]? = _ ∧ W0.heap[w.heap.size + 1]? = _ ∧ W0.heap.size = w.heap.size + 2) := ⟨hB, h0, k1, k2, hS⟩
  have HM : Hid (∀ W, Rd b t i o ah W → Calls Tryz.prog 202 #[.pointer (some ⟨b, 0, none⟩)] W (ThingPost b t o ah W (thingR ((bl t).drop i)))) := fun W hW => thing_any W hW ht hi
  have HN : Hid (nextR o ah ((bl t).drop i) = match thingR ((bl t).drop i) with
      | .inl (x, r) => .ok (.thing x) o true r
      | .inr (w, l) => .bad w l) := by
    unfold Hid
    rw [drop_ba t i hi]; unfold nextR; dsimp only; rw [if_neg (by rw [hm]; simp)]
  clear h h0 hB hS k1 k2 hx hm
  go_enter Tryz.func167, Tryz.ntmps167
  go_wp2_with fail
  rw [← hW]
  clear hW
  go_wp2_with fail
  go_quiet (fail)
  go_wp2_with fail
  refine (HI.out _).mono ?_
  rintro e w1 ⟨rfl, rfl⟩
  go_wp2_with fail
  refine (HM.out (W0.drewN nq) HW.out.2.1).mono ?_
  rintro e w1 ⟨hw1, hp⟩
  have HH1 : Hid (w1.heap[w.heap.size]? = W0.heap[w.heap.size]? ∧ w1.heap[w.heap.size + 1]? = W0.heap[w.heap.size + 1]? ∧ Wrote b w w1) := by
    have u : ∀ j, j ≠ b → j < W0.heap.size → w1.heap[j]? = W0.heap[j]? := fun j hj hl => hw1.block j hl hj
    have hs := HW.out.2.2.2.2
    exact ⟨u _ (Ne.symm b0) (by omega), u _ (Ne.symm b1) (by omega), ((Wrote.of_below HW.out.1).drewN nq).trans hw1⟩
  have s0 : w1.cell? ⟨w.heap.size, 0, none⟩ = some (.int .u8 0) := by simp only [World.cell?, HH1.out.1, HW.out.2.2.1]; rfl
  have s1 : w1.cell? ⟨w.heap.size, 1, none⟩ = some (.int .i64 0) := by simp only [World.cell?, HH1.out.1, HW.out.2.2.1]; rfl
  have s2 : w1.cell? ⟨w.heap.size, 2, none⟩ = some (.int .u64 0) := by simp only [World.cell?, HH1.out.1, HW.out.2.2.1]; rfl
  have s3 : w1.cell? ⟨w.heap.size, 3, none⟩ = some (.int .u64 0) := by simp only [World.cell?, HH1.out.1, HW.out.2.2.1]; rfl
  have s4 : w1.cell? ⟨w.heap.size, 4, none⟩ = some (.int .u64 0) := by simp only [World.cell?, HH1.out.1, HW.out.2.2.1]; rfl
  have s5 : w1.cell? ⟨w.heap.size, 5, none⟩ = some (.int .u64 0) := by simp only [World.cell?, HH1.out.1, HW.out.2.2.1]; rfl
  have s6 : w1.cell? ⟨w.heap.size, 6, none⟩ = some (.int .i64 0) := by simp only [World.cell?, HH1.out.1, HW.out.2.2.1]; rfl
  have s7 : w1.cell? ⟨w.heap.size, 7, none⟩ = some (.int .i64 0) := by simp only [World.cell?, HH1.out.1, HW.out.2.2.1]; rfl
  have sf : ∀ j, w1.frozen? ⟨w.heap.size, j, none⟩ = false := fun j => by simp [World.frozen?, HH1.out.1, HW.out.2.2.1]
  have t0 : w1.cell? ⟨w.heap.size + 1, 0, none⟩ = some (.int .i64 0) := by simp only [World.cell?, HH1.out.2.1, HW.out.2.2.2.1]; rfl
  have t1 : w1.cell? ⟨w.heap.size + 1, 1, none⟩ = some (.int .i64 0) := by simp only [World.cell?, HH1.out.2.1, HW.out.2.2.2.1]; rfl
  have tf : ∀ j, w1.frozen? ⟨w.heap.size + 1, j, none⟩ = false := fun j => by simp [World.frozen?, HH1.out.2.1, HW.out.2.2.2.1]
  have z0 : w.heap.size < w1.heap.size := by have := HW.out.2.2.2.2; have := hw1.size; simp at this; omega
  have z1 : w.heap.size + 1 < w1.heap.size := by have := HW.out.2.2.2.2; have := hw1.size; simp at this; omega
  have z2 : b < w1.heap.size := by omega
  clear hw1
  clear HM HI
  revert hp HN
  generalize thingR ((bl t).drop i) = R
  intro HN hp
  match R, hp, HN with
  | .inl (y, r), hp, HN =>
    have HN : Hid (nextR o ah ((bl t).drop i) = .ok (.thing y) o true r) := HN
    obtain ⟨v, hv, hab, rfl, i2, hRd, hi2', hd⟩ := hp
    have HP : Hid (v.Ok ∧ v.abs = y ∧ Rd b t i2 o ah w1 ∧ i2 ≤ t.size ∧ (bl t).drop i2 = r) := ⟨hv, hab, hRd, hi2', hd⟩
    have d3 := hRd.c3
    have fr := hRd.fr
    clear hv hab hRd hi2' hd
    obtain ⟨vk, ⟨va, vb, vc, vd⟩, fa, fb⟩ := v
    unfold stepV faultV
    dsimp only
    go_wp2_with fail
    go_region_with (fail)
    all_goals
      go_wp2_with fail
      refine bodyPost_ret (res_next (B := w.heap.size) (.int .u8 0) (.int .i64 (vk : Int)) (.int .u64 (va : Int)) (.int .u64 (vb : Int)) (.int .u64 (vc : Int)) (.int .u64 (vd : Int)) (.int .i64 fa) (.int .i64 fb) (.int .i64 0) (.int .i64 0) rfl rfl ?g1 ?g2) rfl ?_
      case g1 =>
        refine (alloc2_heap (X := puts (w.heap.size + 1) 0 [.int .i64 0, .int .i64 0] (puts w.heap.size 0 [.int .u8 0, .int .i64 (vk : Int), .int .u64 (va : Int), .int .u64 (vb : Int), .int .u64 (vc : Int), .int .u64 (vd : Int), .int .i64 fa, .int .i64 fb] (w1.setCell ⟨b, 3, none⟩ (.bool true)))) ?_).trans (((puts_only (w.heap.size + 1) [.int .i64 0, .int .i64 0] 0 _).block _ (by omega)).trans (puts_all (w := w1.setCell ⟨b, 3, none⟩ (.bool true)) ((Below.heap_setCell _ _ _ _ (Ne.symm b0)).trans (HH1.out.1.trans HW.out.2.2.1)) [.int .u8 0, .int .i64 (vk : Int), .int .u64 (va : Int), .int .u64 (vb : Int), .int .u64 (vc : Int), .int .u64 (vd : Int), .int .i64 fa, .int .i64 fb] rfl))
        rw [(puts_only _ _ _ _).size, (puts_only _ _ _ _).size, size_set]; exact z0
      case g2 =>
        refine (alloc2_heap (X := puts (w.heap.size + 1) 0 [.int .i64 0, .int .i64 0] (puts w.heap.size 0 [.int .u8 0, .int .i64 (vk : Int), .int .u64 (va : Int), .int .u64 (vb : Int), .int .u64 (vc : Int), .int .u64 (vd : Int), .int .i64 fa, .int .i64 fb] (w1.setCell ⟨b, 3, none⟩ (.bool true)))) ?_).trans (puts_all (w := puts w.heap.size 0 [.int .u8 0, .int .i64 (vk : Int), .int .u64 (va : Int), .int .u64 (vb : Int), .int .u64 (vc : Int), .int .u64 (vd : Int), .int .i64 fa, .int .i64 fb] (w1.setCell ⟨b, 3, none⟩ (.bool true))) (((puts_only w.heap.size [.int .u8 0, .int .i64 (vk : Int), .int .u64 (va : Int), .int .u64 (vb : Int), .int .u64 (vc : Int), .int .u64 (vd : Int), .int .i64 fa, .int .i64 fb] 0 _).block _ (by omega)).trans ((Below.heap_setCell _ _ _ _ (Ne.symm b1)).trans (HH1.out.2.1.trans HW.out.2.2.2.1))) [.int .i64 0, .int .i64 0] rfl)
        rw [(puts_only _ _ _ _).size, (puts_only _ _ _ _).size, size_set]; exact z1
      rw [HN.out]
      have wX : Wrote b w (puts (w.heap.size + 1) 0 [.int .i64 0, .int .i64 0] (puts w.heap.size 0 [.int .u8 0, .int .i64 (vk : Int), .int .u64 (va : Int), .int .u64 (vb : Int), .int .u64 (vc : Int), .int .u64 (vd : Int), .int .i64 fa, .int .i64 fb] (w1.setCell ⟨b, 3, none⟩ (.bool true)))) := Wrote.only (Wrote.only (HH1.out.2.2.set _) (Nat.le_refl _) (puts_only w.heap.size [.int .u8 0, .int .i64 (vk : Int), .int .u64 (va : Int), .int .u64 (vb : Int), .int .u64 (vc : Int), .int .u64 (vd : Int), .int .i64 fa, .int .i64 fb] 0 _)) (by omega) (puts_only (w.heap.size + 1) [.int .i64 0, .int .i64 0] 0 _)
      have q : Rd b t i2 o true (puts (w.heap.size + 1) 0 [.int .i64 0, .int .i64 0] (puts w.heap.size 0 [.int .u8 0, .int .i64 (vk : Int), .int .u64 (va : Int), .int .u64 (vb : Int), .int .u64 (vc : Int), .int .u64 (vd : Int), .int .i64 fa, .int .i64 fb] (w1.setCell ⟨b, 3, none⟩ (.bool true)))) := ((puts_only (w.heap.size + 1) [.int .i64 0, .int .i64 0] 0 _).block b b1).trans (((puts_only w.heap.size _ 0 _).block b b0).trans (HP.out.2.2.1.set3 true))
      have q2 := ((q.alloc (.cells #[.int .i64 (vk : Int), .int .u64 (va : Int), .int .u64 (vb : Int), .int .u64 (vc : Int), .int .u64 (vd : Int), .int .i64 fa, .int .i64 fb] 190)).alloc (.cells #[.int .i64 0, .int .i64 0] 33)).drew
      have w2 := ((wX.alloc (.cells #[.int .i64 (vk : Int), .int .u64 (va : Int), .int .u64 (vb : Int), .int .u64 (vc : Int), .int .u64 (vd : Int), .int .i64 fa, .int .i64 fb] 190)).alloc (.cells #[.int .i64 0, .int .i64 0] 33)).drew
      exact ⟨w2, ⟨0, ⟨vk, ⟨va, vb, vc, vd⟩, fa, fb⟩⟩, HP.out.1, by rw [SG.abs, if_pos rfl, HP.out.2.1], rfl, i2, q2, HP.out.2.2.2.1, HP.out.2.2.2.2⟩
  | .inr (why, left), hp, HN =>
    have HN : Hid (nextR o ah ((bl t).drop i) = .bad why left) := HN
    obtain ⟨v, i2, rfl, hRd⟩ := hp
    have d3 := hRd.c3
    have fr := hRd.fr
    clear hRd
    obtain ⟨vk, ⟨va, vb, vc, vd⟩, fa, fb⟩ := v
    obtain ⟨q, hq⟩ : ∃ q, q = t.size - left := ⟨_, rfl⟩
    have HQ : Hid (q = t.size - left) := hq
    rw [← hq]
    clear hq
    unfold stepV faultV
    dsimp only
    go_wp2_with fail
    go_region_with (fail)
    all_goals
      go_wp2_with fail
      refine bodyPost_ret (res_next (B := w.heap.size) (.int .u8 0) (.int .i64 (vk : Int)) (.int .u64 (va : Int)) (.int .u64 (vb : Int)) (.int .u64 (vc : Int)) (.int .u64 (vd : Int)) (.int .i64 fa) (.int .i64 fb) (.int .i64 (why : Int)) (.int .i64 (q : Int)) rfl rfl ?g1 ?g2) rfl ?_
      case g1 =>
        refine (alloc2_heap (X := puts (w.heap.size + 1) 0 [.int .i64 (why : Int), .int .i64 (q : Int)] (puts w.heap.size 0 [.int .u8 0, .int .i64 (vk : Int), .int .u64 (va : Int), .int .u64 (vb : Int), .int .u64 (vc : Int), .int .u64 (vd : Int), .int .i64 fa, .int .i64 fb] (w1.setCell ⟨b, 3, none⟩ (.bool true)))) ?_).trans (((puts_only (w.heap.size + 1) [.int .i64 (why : Int), .int .i64 (q : Int)] 0 _).block _ (by omega)).trans (puts_all (w := w1.setCell ⟨b, 3, none⟩ (.bool true)) ((Below.heap_setCell _ _ _ _ (Ne.symm b0)).trans (HH1.out.1.trans HW.out.2.2.1)) [.int .u8 0, .int .i64 (vk : Int), .int .u64 (va : Int), .int .u64 (vb : Int), .int .u64 (vc : Int), .int .u64 (vd : Int), .int .i64 fa, .int .i64 fb] rfl))
        rw [(puts_only _ _ _ _).size, (puts_only _ _ _ _).size, size_set]; exact z0
      case g2 =>
        refine (alloc2_heap (X := puts (w.heap.size + 1) 0 [.int .i64 (why : Int), .int .i64 (q : Int)] (puts w.heap.size 0 [.int .u8 0, .int .i64 (vk : Int), .int .u64 (va : Int), .int .u64 (vb : Int), .int .u64 (vc : Int), .int .u64 (vd : Int), .int .i64 fa, .int .i64 fb] (w1.setCell ⟨b, 3, none⟩ (.bool true)))) ?_).trans (puts_all (w := puts w.heap.size 0 [.int .u8 0, .int .i64 (vk : Int), .int .u64 (va : Int), .int .u64 (vb : Int), .int .u64 (vc : Int), .int .u64 (vd : Int), .int .i64 fa, .int .i64 fb] (w1.setCell ⟨b, 3, none⟩ (.bool true))) (((puts_only w.heap.size [.int .u8 0, .int .i64 (vk : Int), .int .u64 (va : Int), .int .u64 (vb : Int), .int .u64 (vc : Int), .int .u64 (vd : Int), .int .i64 fa, .int .i64 fb] 0 _).block _ (by omega)).trans ((Below.heap_setCell _ _ _ _ (Ne.symm b1)).trans (HH1.out.2.1.trans HW.out.2.2.2.1))) [.int .i64 (why : Int), .int .i64 (q : Int)] rfl)
        rw [(puts_only _ _ _ _).size, (puts_only _ _ _ _).size, size_set]; exact z1
      rw [HN.out]
      have wX : Wrote b w (puts (w.heap.size + 1) 0 [.int .i64 (why : Int), .int .i64 (q : Int)] (puts w.heap.size 0 [.int .u8 0, .int .i64 (vk : Int), .int .u64 (va : Int), .int .u64 (vb : Int), .int .u64 (vc : Int), .int .u64 (vd : Int), .int .i64 fa, .int .i64 fb] (w1.setCell ⟨b, 3, none⟩ (.bool true)))) := Wrote.only (Wrote.only (HH1.out.2.2.set _) (Nat.le_refl _) (puts_only w.heap.size _ 0 _)) (by omega) (puts_only (w.heap.size + 1) [.int .i64 (why : Int), .int .i64 (q : Int)] 0 _)
      have w2 := ((wX.alloc (.cells #[.int .i64 (vk : Int), .int .u64 (va : Int), .int .u64 (vb : Int), .int .u64 (vc : Int), .int .u64 (vd : Int), .int .i64 fa, .int .i64 fb] 190)).alloc (.cells #[.int .i64 (why : Int), .int .i64 (q : Int)] 33)).drew
      exact ⟨w2, ⟨0, ⟨vk, ⟨va, vb, vc, vd⟩, fa, fb⟩⟩, by rw [← HQ.out]; rfl⟩
theorem next_any {b : Nat} {t : ByteArray} {i o : Nat} {ah : Bool} (w : World) (h : Rd b t i o ah w) (ht : t.size ≤ 1000000) (hi : i < t.size) (ho : o ≤ 16) : Calls Tryz.prog 167 #[.pointer (some ⟨b, 0, none⟩)] w (NextPost b t w (nextR o ah ((bl t).drop i))) := by
  cases hm : isMark t[i] with
  | true => exact next_mark w h ht hi ho hm
  | false => exact next_thing w h ht hi hm
end Go.Proofs.YtedepknbaakkhaaGreatDoor.X
