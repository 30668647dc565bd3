/-
  A text is compiled.
-/
import Derived.Test.YtmmhajlfbjjocaaGreatPRead
namespace Go.Proofs.YtmmhajlfbjjocaaGreat
open Go.RowKit Go.Shelf RxSem

set_option maxRecDepth 20000 in
set_option maxHeartbeats 400000 in
theorem read_long (s : ByteArray) (hs : 200 < s.size) (w : World) : Calls Tryz.prog 15 #[.string s] w fun e w' => Below w.heap.size w w' ∧ e = .returned (.tuple #[.slice none 0 0, faultV 5 0]) := by
  have hs2 : (200 : Int) < (s.size : Int) := by omega
  go_enter Tryz.func15, Tryz.ntmps15
  go_wp2_with fail
  refine bodyPost_ret (by simp [results, Tryz.results15, go_sem]; try rfl) rfl ?_
  exact ⟨(Below.refl _ _).alloc (Nat.le_refl _) _, rfl⟩

/-- An expression that was made, its steps not yet found. -/
structure Fresh (base b : Nat) (t : ByteArray) (L : List SG) (w : World) : Prop where
  ok : ∃ v, w.heap[b]? = some (.cells #[.bool true, .string t, .int .u32 0, .int .i32 0, .int .u32 0, v, .slice none 0 0] 63 (0, 0)) ∧ w.ownsRow base 98 8 v L.length (L.flatMap signC)
  signs : ∀ x ∈ L, x.v.Ok
def CompPost (s : ByteArray) (w : World) (c : List Nd ⊕ (Nat × Nat)) (e : Ending) (w' : World) : Prop := Below w.heap.size w w' ∧ match c with
  | .inl k => ∃ (b : Nat) (L : List SG), e = .returned (.tuple #[.pointer (some ⟨b, 0, none⟩), faultV 0 0]) ∧ w.heap.size ≤ b ∧ Fresh w.heap.size b s L w' ∧ SP .ways (L.map SG.abs) k []
  | .inr (why, at') => e = .returned (.tuple #[.pointer none, faultV why at'])

theorem sc_why {o : Nat} {a : Bool} {r : List UInt8} {res : SRes} {w l : Nat} (h : Sc o a r res) (hr : res = .bad w l) : w ≠ 0 := by
  induction h with
  | nil => cases hr
  | opened => cases hr; omega
  | markBad o a c t w' h h1 =>
    cases hr
    exact next_why (o := o) (a := a) (c := c) (t := t) (l := t.length + 1) (by unfold nextR; dsimp only; rw [if_pos h, h1])
  | mark o a c t o' a' r h h1 h2 ih =>
    cases r with
    | ok => cases hr
    | bad => exact ih hr
  | thingBad o a c t w' l' h h1 =>
    cases hr
    exact next_why (o := o) (a := a) (c := c) (t := t) (l := l) (by unfold nextR; dsimp only; rw [if_neg (by rw [h]; simp), h1])
  | thing o a c t t' x r h h1 h2 ih =>
    cases r with
    | ok => cases hr
    | bad => exact ih hr
theorem row_base {w : World} {base base' n k : Nat} {v : Value} {e : TypeId} {xs : List Value} (h : w.ownsRow base e k v n xs) (hb : base' ≤ base) : w.ownsRow base' e k v n xs := by
  refine ⟨h.1, ?_⟩
  rcases h.2 with h0 | ⟨g, cap, cur, hv, hg, rest⟩
  · exact .inl h0
  · exact .inr ⟨g, cap, cur, hv, by omega, rest⟩
theorem row_slice {w : World} {base n k : Nat} {v : Value} {e : TypeId} {xs : List Value} (h : w.ownsRow base e k v n xs) : ∃ a cap, v = .slice a n cap := by
  rcases h.2 with ⟨rfl, rfl⟩ | ⟨g, cap, cur, rfl, _⟩
  · exact ⟨_, _, rfl⟩
  · exact ⟨_, _, rfl⟩
theorem res_comp {tmps : Array Value} {B : Nat} {w9 : World} (v z0 z1 : Value) (h2 : tmps[2]? = some v) (h3 : tmps[3]? = some (.pointer (some ⟨B, 0, none⟩))) (k2 : w9.heap[B]? = some (.cells #[z0, z1] 29 (0, 0))) :
    (results Tryz.f6 tmps).run Tryz.prog w9 = .ok (.tuple #[v, .agg #[z0, z1]]) w9 := by
  have q0 : w9.cell? ⟨B, 0, none⟩ = some z0 := by simp only [World.cell?, k2]; rfl
  have q1 : w9.cell? ⟨B, 1, none⟩ = some z1 := by simp only [World.cell?, k2]; rfl
  simp [results, Tryz.results6, go_sem, h2, h3, q0, q1]
theorem alloc1_heap {X : World} {o1 : Obj} {j : Nat} (hj : j < X.heap.size) : ((X.alloc o1).drew).heap[j]? = X.heap[j]? := Below.heap_alloc X o1 j hj
theorem one_box (w : World) (o1 : Obj) : ∃ W, W = w.alloc o1 ∧ Below w.heap.size w W ∧ W.heap.size = w.heap.size + 1 ∧ W.heap[w.heap.size]? = some o1 :=
  ⟨_, rfl, (Below.refl _ _).alloc (Nat.le_refl _) _, by simp, heap_alloc_new _ _⟩

set_option maxRecDepth 20000 in
set_option maxHeartbeats 400000 in
theorem compile_bad (s : ByteArray) (why at' : Nat) (hw : why ≠ 0) (hr : ∀ W, Calls Tryz.prog 15 #[.string s] W fun e w' => Below W.heap.size W w' ∧ e = .returned (.tuple #[.slice none 0 0, faultV why at'])) (w : World) : Calls Tryz.prog 6 #[.string s] w fun e w' => Below w.heap.size w w' ∧ e = .returned (.tuple #[.pointer none, faultV why at']) := by
  have HR : Hid (∀ W, Calls Tryz.prog 15 #[.string s] W fun e w' => Below W.heap.size W w' ∧ e = .returned (.tuple #[.slice none 0 0, faultV why at'])) := hr
  have hw0 : ¬ (why : Int) = 0 := by omega
  obtain ⟨W0, hW, hB, hS, k1⟩ := one_box w (.cells #[.int .i64 0, .int .i64 0] 29)
  clear hr
  go_enter Tryz.func6, Tryz.ntmps6
  go_wp2_with fail
  rw [← hW]
  clear hW
  refine (HR.out W0).mono ?_
  rintro e w1 ⟨hb1, rfl⟩
  have k0 : w1.heap[w.heap.size]? = some (.cells #[.int .i64 0, .int .i64 0] 29 (0, 0)) := (hb1.block _ (by omega)).trans k1
  have z2 : w.heap.size < w1.heap.size := by have := hb1.size; omega
  have t0 : w1.cell? ⟨w.heap.size, 0, none⟩ = some (.int .i64 0) := by simp only [World.cell?, k0]; rfl
  have t1 : w1.cell? ⟨w.heap.size, 1, none⟩ = some (.int .i64 0) := by simp only [World.cell?, k0]; rfl
  have tf : ∀ j, w1.frozen? ⟨w.heap.size, j, none⟩ = false := fun j => by simp [World.frozen?, k0]
  have HB1 : Hid (Below w.heap.size w w1 ∧ w1.heap[w.heap.size]? = some (.cells #[.int .i64 0, .int .i64 0] 29 (0, 0))) := ⟨hB.trans (hb1.mono (by omega)), k0⟩
  clear hb1 k0 hB hS k1 HR
  unfold faultV
  go_wp2_with fail
  go_region_with (fail)
  all_goals
    go_wp2_with fail
    refine bodyPost_ret (res_comp (B := w.heap.size) (.pointer none) (.int .i64 (why : Int)) (.int .i64 (at' : Int)) rfl rfl ?g1) rfl ?_
    case g1 =>
      refine (alloc1_heap (X := puts w.heap.size 0 [.int .i64 (why : Int), .int .i64 (at' : Int)] w1) ?_).trans (puts_all (w := w1) HB1.out.2 [.int .i64 (why : Int), .int .i64 (at' : Int)] rfl)
      rw [(puts_only _ _ _ _).size]; exact z2
    have wX : Below w.heap.size w (puts w.heap.size 0 [.int .i64 (why : Int), .int .i64 (at' : Int)] w1) := (puts_only w.heap.size [.int .i64 (why : Int), .int .i64 (at' : Int)] 0 w1).below (Nat.le_refl _) HB1.out.1
    have w2 := (wX.alloc wX.size (.cells #[.int .i64 (why : Int), .int .i64 (at' : Int)] 29)).drew
    exact ⟨w2, rfl⟩

set_option maxRecDepth 20000 in
set_option maxHeartbeats 400000 in
theorem compile_ok (s : ByteArray) (sg : List Sg) (hr : ∀ W, Calls Tryz.prog 15 #[.string s] W (ReadPost s W (.ok sg))) (w : World) : Calls Tryz.prog 6 #[.string s] w fun e w' => Below w.heap.size w w' ∧ ∃ (b : Nat) (L : List SG), e = .returned (.tuple #[.pointer (some ⟨b, 0, none⟩), faultV 0 0]) ∧ w.heap.size ≤ b ∧ Fresh w.heap.size b s L w' ∧ L.map SG.abs = sg := by
  have HR : Hid (∀ W, Calls Tryz.prog 15 #[.string s] W (ReadPost s W (.ok sg))) := hr
  obtain ⟨W0, hW, hB, hS, k1⟩ := one_box w (.cells #[.int .i64 0, .int .i64 0] 29)
  clear hr
  go_enter Tryz.func6, Tryz.ntmps6
  go_wp2_with fail
  rw [← hW]
  clear hW
  refine (HR.out W0).mono ?_
  rintro e w1 ⟨hb1, v, L, rfl, hrow, habs, hok⟩
  have k0 : w1.heap[w.heap.size]? = some (.cells #[.int .i64 0, .int .i64 0] 29 (0, 0)) := (hb1.block _ (by omega)).trans k1
  have z2 : w.heap.size < w1.heap.size := by have := hb1.size; omega
  have t0 : w1.cell? ⟨w.heap.size, 0, none⟩ = some (.int .i64 0) := by simp only [World.cell?, k0]; rfl
  have t1 : w1.cell? ⟨w.heap.size, 1, none⟩ = some (.int .i64 0) := by simp only [World.cell?, k0]; rfl
  have tf : ∀ j, w1.frozen? ⟨w.heap.size, j, none⟩ = false := fun j => by simp [World.frozen?, k0]
  have HB1 : Hid (Below w.heap.size w w1 ∧ w1.heap[w.heap.size]? = some (.cells #[.int .i64 0, .int .i64 0] 29 (0, 0)) ∧ w1.ownsRow w.heap.size 98 8 v L.length (L.flatMap signC) ∧ L.map SG.abs = sg ∧ ∀ x ∈ L, x.v.Ok) := ⟨hB.trans (hb1.mono (by omega)), k0, row_base hrow (by omega), habs, hok⟩
  obtain ⟨a, cap, hv⟩ := row_slice hrow
  obtain ⟨n, hn⟩ : ∃ n, n = L.length := ⟨_, rfl⟩
  rw [← hn] at hv
  subst hv
  have HN : Hid (n = L.length) := hn
  clear hb1 k0 hB hS k1 HR hrow habs hok hn
  unfold faultV
  go_wp2_with fail
  refine bodyPost_ret (res_comp (B := w.heap.size) (.pointer (some ⟨w1.heap.size + 1, 0, none⟩)) (.int .i64 0) (.int .i64 0) rfl rfl ?g1) rfl ?_
  case g1 =>
    refine (Below.heap_alloc _ _ _ ?_).trans ((Below.heap_alloc (puts w.heap.size 0 [.int .i64 0, .int .i64 0] w1) _ _ ?_).trans (puts_all (w := w1) HB1.out.2.1 [.int .i64 0, .int .i64 0] rfl))
    · simp; omega
    · rw [(puts_only _ _ _ _).size]; exact z2
  obtain ⟨h1, h2, h3, h4, h5⟩ := HB1.out
  have oX : Only w.heap.size w1 ((w1.setCell ⟨w.heap.size, 0, none⟩ (.int .i64 0)).setCell ⟨w.heap.size, 1, none⟩ (.int .i64 0)) := (Only.set _ _ _ _).trans (Only.set _ _ _ _)
  generalize ((w1.setCell ⟨w.heap.size, 0, none⟩ (.int .i64 0)).setCell ⟨w.heap.size, 1, none⟩ (.int .i64 0)) = X at oX ⊢
  have wX : Below w.heap.size w X := oX.below (Nat.le_refl _) h1
  have rX := oX.row h3 (row_ne h3 h2 (by decide))
  have sX := oX.size
  refine ⟨(wX.alloc wX.size _).alloc (Nat.le_trans wX.size (by simp)) _, w1.heap.size + 1, L, rfl, by omega, ⟨⟨.slice a n cap, ?_, (rX.alloc _).alloc _⟩, h5⟩, h4⟩
  have := heap_alloc_new (X.alloc (.cells #[.int .i64 0, .int .i64 0] 29)) (.cells #[.bool true, .string s, .int .u32 0, .int .i32 0, .int .u32 0, .slice a n cap, .slice none 0 0] 63)
  rw [show (X.alloc (.cells #[.int .i64 0, .int .i64 0] 29)).heap.size = w1.heap.size + 1 by simp [sX]] at this
  exact this
theorem compile_any (s : ByteArray) (c : List Nd ⊕ (Nat × Nat)) (hc : Comp (bl s) c) (w : World) : Calls Tryz.prog 6 #[.string s] w (CompPost s w c) := by
  by_cases hs : 200 < s.size
  · have e : c = .inr (5, 0) := hc.same (.long (by rw [bl_length]; exact hs))
    subst e
    exact compile_bad s 5 0 (by omega) (fun W => read_long s hs W) w
  · cases c with
    | inl k =>
      obtain ⟨sg, h1, h2⟩ := hc.flat (by rw [bl_length]; omega)
      refine (compile_ok s sg (fun W => read_any s (by omega) _ h1 W) w).mono ?_
      rintro e w' ⟨hb, b, L, he, hl, hF, hL⟩
      exact ⟨hb, b, L, he, hl, hF, by rw [hL]; exact h2⟩
    | inr x =>
      obtain ⟨why, at'⟩ := x
      obtain ⟨l, h1, h2⟩ := hc.flat (by rw [bl_length]; omega)
      rw [bl_length] at h2
      subst h2
      exact compile_bad s why (s.size - l) (sc_why h1 rfl) (fun W => read_any s (by omega) _ h1 W) w
end Go.Proofs.YtmmhajlfbjjocaaGreat
