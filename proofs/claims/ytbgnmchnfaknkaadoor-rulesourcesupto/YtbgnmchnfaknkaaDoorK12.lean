/-
  Whether two rules, two faults are the same; that the package is alive.
-/
import Derived.Test.YtbgnmchnfaknkaaDoorK11
import Derived.Maps.AppendAt
namespace Go.Proofs.YtbgnmchnfaknkaaDoor
open Go.RowKit Go.Shelf

set_option maxHeartbeats 1600000 in
theorem same_some (l : List ByteArray) (b1 o1 c1 b2 o2 c2 : Nat) (w : World) (hl : l.length ≤ 1000000000)
    (h1 : ∀ i (h : i < l.length), w.cell? ⟨b1, o1 + i, none⟩ = some (.string l[i])) (h2 : ∀ i (h : i < l.length), w.cell? ⟨b2, o2 + i, none⟩ = some (.string l[i])) :
    Calls Tryd.prog 15 #[.slice (some ⟨b1, o1, none⟩) l.length c1, .slice (some ⟨b2, o2, none⟩) l.length c2] w fun e w' => e = .returned (.bool true) ∧ ∃ n, w' = w.drewN n := by
  obtain ⟨n, hn⟩ : ∃ n, n = l.length := ⟨_, rfl⟩
  have HC : Hid (n = l.length ∧ (∀ i (h : i < l.length), w.cell? ⟨b1, o1 + i, none⟩ = some (.string l[i])) ∧ (∀ i (h : i < l.length), w.cell? ⟨b2, o2 + i, none⟩ = some (.string l[i]))) := ⟨hn, h1, h2⟩
  rw [← hn] at hl ⊢
  clear h1 h2 hn
  go_enter Tryd.func15, Tryd.ntmps15
  go_wp2
  go_loopw [5] (fun vi wr => ∃ k m : Nat, k ≤ n ∧ vi = .int .i64 k ∧ wr = w.drewN m) (fun vi _ => n - (intOf vi).toNat)
  case atStart => exact ⟨0, 0, Nat.zero_le _, rfl, rfl⟩
  case round =>
    obtain ⟨k, m, hk, rfl, rfl⟩ := hrel
    by_cases hlt : k < n
    · have hkl : k < l.length := by rw [← HC.out.1]; exact hlt
      have hil : (k : Int) < (n : Int) := by omega
      have e1 := HC.out.2.1 k hkl
      have e2 := HC.out.2.2 k hkl
      obtain ⟨x, hxe⟩ : ∃ x, x = l[k] := ⟨_, rfl⟩
      rw [← hxe] at e1 e2
      clear hxe
      go_wp2
      go_quiet (fail)
      go_wp2
      go_roundw
      case rel => exact ⟨k + 1, _, by omega, by go_num, rfl⟩
      case measure => simp [intOf]; omega
    · go_wp2
      go_ret
      exact ⟨rfl, _, rfl⟩

set_option maxHeartbeats 1600000 in
theorem same_none (a1 a2 : Option Addr) (c1 c2 : Nat) (w : World) :
    Calls Tryd.prog 15 #[.slice a1 0 c1, .slice a2 0 c2] w fun e w' => e = .returned (.bool true) ∧ ∃ n, w' = w.drewN n := by
  go_enter Tryd.func15, Tryd.ntmps15
  go_wp2
  refine wp_loop_rounds 1 ?_
  rw [rounds_succ]
  go_wp2
  go_ret
  exact ⟨rfl, 0, rfl⟩

theorem same_any (l : List ByteArray) (v1 v2 : Value) (B1 B2 : Nat) (w : World) (hl : l.length ≤ 1000000000) (h1 : Words B1 w v1 l) (h2 : Words B2 w v2 l) :
    Calls Tryd.prog 15 #[v1, v2] w fun e w' => e = .returned (.bool true) ∧ ∃ n, w' = w.drewN n := by
  by_cases hne : l = []
  · subst hne
    obtain ⟨a, n, c, rfl, hn, hc1, _⟩ := h1
    obtain ⟨a', n', c', rfl, hn', hc2, _⟩ := h2
    simp at hn hn'; subst hn; subst hn'
    exact same_none a a' c c' w
  · obtain ⟨b, o, c, rfl, hb, hcc, hc⟩ := h1.at hne
    obtain ⟨b', o', c', rfl, hb', hcc', hc'⟩ := h2.at hne
    exact same_some l b o c b' o' c' w hl hc hc'

theorem below_drew3 {B : Nat} {w w1 : World} (h : Below B w w1) (n : Nat) : Below B w (w1.drewN n) := below_drewN h n

set_option maxRecDepth 20000 in
set_option maxHeartbeats 2000000 in
theorem rsame_any (r : Q.Ru) (v v' : Value) (w : World) (h1 : RuV w.heap.size w v r) (h2 : RuV w.heap.size w v' r) (hlt : r.targets.length ≤ 1000000000) (hls : r.sources.length ≤ 1000000000) (hlc : r.commands.length ≤ 1000000000) :
    Calls Tryd.prog 9 #[v, v'] w fun e w' => e = .returned (.bool true) ∧ Below w.heap.size w w' := by
  obtain ⟨vt, vs, vc, rfl, a1, a2, a3⟩ := h1
  obtain ⟨ut, us, uc, rfl, b1, b2, b3⟩ := h2
  have hB : Below w.heap.size w ((w.alloc (.cells #[vt, .int .i64 r.kind, vs, vc, .int .i64 r.at_] 24)).alloc (.cells #[ut, .int .i64 r.kind, us, uc, .int .i64 r.at_] 24)) := (below_alloc1 _ _).alloc (by simp) _
  have key : ∀ l vx vy, l.length ≤ 1000000000 → Words w.heap.size w vx l → Words w.heap.size w vy l → ∀ n, Calls Tryd.prog 15 #[vx, vy] (((w.alloc (.cells #[vt, .int .i64 r.kind, vs, vc, .int .i64 r.at_] 24)).alloc (.cells #[ut, .int .i64 r.kind, us, uc, .int .i64 r.at_] 24)).drewN n) fun e w' => e = .returned (.bool true) ∧ ∃ m, w' = ((w.alloc (.cells #[vt, .int .i64 r.kind, vs, vc, .int .i64 r.at_] 24)).alloc (.cells #[ut, .int .i64 r.kind, us, uc, .int .i64 r.at_] 24)).drewN m := by
    intro l vx vy hl hx hy n
    refine (same_any l vx vy w.heap.size w.heap.size _ hl ((hx.below hB).drewN n) ((hy.below hB).drewN n)).mono ?_
    rintro e w' ⟨he, m, rfl⟩
    exact ⟨he, n + m, by simp⟩
  have H1 : Hid _ := key _ vt ut (by rw [List.length_map]; exact hlt) a1 b1
  have H2 : Hid _ := key _ vs us (by rw [List.length_map]; exact hls) a2 b2
  have H3 : Hid _ := key _ vc uc (by rw [List.length_map]; exact hlc) a3 b3
  have HB : Hid _ := hB
  obtain ⟨kd, hkd⟩ : ∃ k, k = r.kind := ⟨_, rfl⟩
  obtain ⟨at_, hat⟩ : ∃ k, k = r.at_ := ⟨_, rfl⟩
  clear key hB
  obtain ⟨ta, tn, tc, rfl⟩ : ∃ a n c, vt = .slice a n c := by obtain ⟨a, n, c, h, _⟩ := a1; exact ⟨a, n, c, h⟩
  obtain ⟨sa, sn, sc, rfl⟩ : ∃ a n c, vs = .slice a n c := by obtain ⟨a, n, c, h, _⟩ := a2; exact ⟨a, n, c, h⟩
  obtain ⟨ca, cn, cc, rfl⟩ : ∃ a n c, vc = .slice a n c := by obtain ⟨a, n, c, h, _⟩ := a3; exact ⟨a, n, c, h⟩
  obtain ⟨ta', tn', tc', rfl⟩ : ∃ a n c, ut = .slice a n c := by obtain ⟨a, n, c, h, _⟩ := b1; exact ⟨a, n, c, h⟩
  obtain ⟨sa', sn', sc', rfl⟩ : ∃ a n c, us = .slice a n c := by obtain ⟨a, n, c, h, _⟩ := b2; exact ⟨a, n, c, h⟩
  obtain ⟨ca', cn', cc', rfl⟩ : ∃ a n c, uc = .slice a n c := by obtain ⟨a, n, c, h, _⟩ := b3; exact ⟨a, n, c, h⟩
  rw [← hkd, ← hat] at H1 H2 H3 HB ⊢
  clear a1 a2 a3 b1 b2 b3 hkd hat
  go_enter Tryd.func9, Tryd.ntmps9
  go_wp2_with fail
  refine (H1.out 0).mono ?_
  rintro e w1 ⟨rfl, m1, rfl⟩
  go_wp2_with fail
  refine (H2.out m1).mono ?_
  rintro e w1 ⟨rfl, m2, rfl⟩
  go_wp2_with fail
  refine (H3.out m2).mono ?_
  rintro e w1 ⟨rfl, m3, rfl⟩
  go_wp2
  go_ret
  exact ⟨rfl, below_drewN HB.out m3⟩

set_option maxRecDepth 20000 in
theorem eqFault (x y c d : Int) (w : World) : Sem.run Tryd.prog (Op.equalIn 10000 27 (.agg #[.int .i64 x, .int .i64 y]) (.agg #[.int .i64 c, .int .i64 d])) w = .ok (x == c && y == d) w := by
  rw [run_equalIn_agg w 9999 27 _ _ (by kernel_rfl) (by kernel_rfl)]
  simp only [Program.fieldsOf, Tryd.underlying27]
  have p0 : ∀ (x y : Int) (w : World), (part 25 #[.int .i64 x, .int .i64 y] 0).run Tryd.prog w = .ok (.int .i64 x) w := fun x y w => by kernel_rfl
  have p1 : ∀ (x y : Int) (w : World), (part 3 #[.int .i64 x, .int .i64 y] 1).run Tryd.prog w = .ok (.int .i64 y) w := fun x y w => by kernel_rfl
  have q0 := run_equalIn_int (P := Tryd.prog) w 9998 25 .i64 .i64 x c Tryd.underlying25
  have q1 := run_equalIn_int (P := Tryd.prog) w 9998 3 .i64 .i64 y d Tryd.underlying3
  generalize (x == c) = u at q0 ⊢
  generalize (y == d) = v at q1 ⊢
  simp only [Op.eqFields, Sem.run_bind, Sem.run_ite, p0, p1, Result.andThen_ok, q0, q1]
  cases u <;> cases v <;> simp
theorem neqFault (x y c d : Int) (w : World) : Sem.run Tryd.prog (binOp .neq 27 (.agg #[.int .i64 x, .int .i64 y]) (.agg #[.int .i64 c, .int .i64 d])) w = .ok (.bool (!(x == c && y == d))) w := by
  rw [run_neq_struct, eqFault]; rfl
theorem eqlFault (x y c d : Int) (w : World) : Sem.run Tryd.prog (binOp .eql 27 (.agg #[.int .i64 x, .int .i64 y]) (.agg #[.int .i64 c, .int .i64 d])) w = .ok (.bool (x == c && y == d)) w := by
  rw [run_eql_struct, eqFault]; rfl
end Go.Proofs.YtbgnmchnfaknkaaDoor
