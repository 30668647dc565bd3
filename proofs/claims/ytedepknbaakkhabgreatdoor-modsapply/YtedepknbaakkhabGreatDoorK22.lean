/-
  PComp PWalk
-/
import Derived.Test.YtedepknbaakkhabGreatDoorK21
set_option maxRecDepth 20000
namespace Go.Proofs.YtedepknbaakkhabGreatDoor.X
open Go.RowKit Go.Shelf RxSem
set_option maxHeartbeats 400000 in
theorem read_long (s : ByteArray) (hs : 200 < s.size) (w : World) : Calls Tryz.prog 78 #[.string s] w fun e w' => Below w.heap.size w w' ∧ e = .returned (.tuple #[.slice none 0 0, faultV 5 0]) := by
  have hs2 : (200 : Int) < (s.size : Int) := by omega
  go_enter Tryz.func78, Tryz.ntmps78
  go_wp2_with fail
  refine bodyPost_ret (by simp [results, Tryz.results78, go_sem]; try rfl) rfl ?_
  exact ⟨(Below.refl _ _).alloc (Nat.le_refl _) _, rfl⟩
structure Fresh (base b : Nat) (t : ByteArray) (L : List SG) (w : World) : Prop where
  ok : ∃ v, w.heap[b]? = some (.cells #[.bool true, .string t, .int .u32 0, .int .i32 0, .int .u32 0, v, .slice none 0 0] 113 (0, 0)) ∧ w.ownsRow base 148 8 v L.length (L.flatMap signC)
  signs : ∀ x ∈ L, x.v.Ok
def CompPost (s : ByteArray) (w : World) (c : List Nd ⊕ (Nat × Nat)) (e : Ending) (w' : World) : Prop := Below w.heap.size w w' ∧ match c with
  | .inl k => ∃ (b : Nat) (L : List SG), e = .returned (.tuple #[.pointer (some ⟨b, 0, none⟩), faultV 0 0]) ∧ w.heap.size ≤ b ∧ Fresh w.heap.size b s L w' ∧ SP .ways (L.map SG.abs) k []
  | .inr (why, at') => e = .returned (.tuple #[.pointer none, faultV why at'])
theorem sc_why {o : Nat} {a : Bool} {r : List UInt8} {res : SRes} {w l : Nat} (h : Sc o a r res) (hr : res = .bad w l) : w ≠ 0 := by
  induction h with
  | nil => cases hr
  | opened => cases hr; omega
  | markBad o a c t w' h h1 =>
    cases hr
    exact next_why (o := o) (a := a) (c := c) (t := t) (l := t.length + 1) (by unfold nextR; dsimp only; rw [if_pos h, h1])
  | mark o a c t o' a' r h h1 h2 ih =>
    cases r with
    | ok => cases hr
    | bad => exact ih hr
  | thingBad o a c t w' l' h h1 =>
    cases hr
    exact next_why (o := o) (a := a) (c := c) (t := t) (l := l) (by unfold nextR; dsimp only; rw [if_neg (by rw [h]; simp), h1])
  | thing o a c t t' x r h h1 h2 ih =>
    cases r with
    | ok => cases hr
    | bad => exact ih hr
theorem row_base {w : World} {base base' n k : Nat} {v : Value} {e : TypeId} {xs : List Value} (h : w.ownsRow base e k v n xs) (hb : base' ≤ base) : w.ownsRow base' e k v n xs := by
  refine ⟨h.1, ?_⟩
  rcases h.2 with h0 | ⟨g, cap, cur, hv, hg, rest⟩
  · exact .inl h0
  · exact .inr ⟨g, cap, cur, hv, by omega, rest⟩
theorem row_slice {w : World} {base n k : Nat} {v : Value} {e : TypeId} {xs : List Value} (h : w.ownsRow base e k v n xs) : ∃ a cap, v = .slice a n cap := by
  rcases h.2 with ⟨rfl, rfl⟩ | ⟨g, cap, cur, rfl, _⟩
  · exact ⟨_, _, rfl⟩
  · exact ⟨_, _, rfl⟩
theorem res_comp {tmps : Array Value} {B : Nat} {w9 : World} (v z0 z1 : Value) (h2 : tmps[2]? = some v) (h3 : tmps[3]? = some (.pointer (some ⟨B, 0, none⟩))) (k2 : w9.heap[B]? = some (.cells #[z0, z1] 28 (0, 0))) :
    (results Tryz.f49 tmps).run Tryz.prog w9 = .ok (.tuple #[v, .agg #[z0, z1]]) w9 := by
  have q0 : w9.cell? ⟨B, 0, none⟩ = some z0 := by simp only [World.cell?, k2]; rfl
  have q1 : w9.cell? ⟨B, 1, none⟩ = some z1 := by simp only [World.cell?, k2]; rfl
  simp [results, Tryz.results49, go_sem, h2, h3, q0, q1]
theorem alloc1_heap {X : World} {o1 : Obj} {j : Nat} (hj : j < X.heap.size) : ((X.alloc o1).drew).heap[j]? = X.heap[j]? := Below.heap_alloc X o1 j hj
theorem one_box (w : World) (o1 : Obj) : ∃ W, W = w.alloc o1 ∧ Below w.heap.size w W ∧ W.heap.size = w.heap.size + 1 ∧ W.heap[w.heap.size]? = some o1 :=
  ⟨_, rfl, (Below.refl _ _).alloc (Nat.le_refl _) _, by simp, heap_alloc_new _ _⟩
set_option maxHeartbeats 400000 in
theorem compile_bad (s : ByteArray) (why at' : Nat) (hw : why ≠ 0) (hr : ∀ W, Calls Tryz.prog 78 #[.string s] W fun e w' => Below W.heap.size W w' ∧ e = .returned (.tuple #[.slice none 0 0, faultV why at'])) (w : World) : Calls Tryz.prog 49 #[.string s] w fun e w' => Below w.heap.size w w' ∧ e = .returned (.tuple #[.pointer none, faultV why at']) := by
  have HR : Hid (∀ W, Calls Tryz.prog 78 #[.string s] W fun e w' => Below W.heap.size W w' ∧ e = .returned (.tuple #[.slice none 0 0, faultV why at'])) := hr
  have hw0 : ¬ (why : Int) = 0 := by omega
  obtain ⟨W0, hW, hB, hS, k1⟩ := one_box w (.cells #[.int .i64 0, .int .i64 0] 28)
  clear hr
  go_enter Tryz.func49, Tryz.ntmps49
  go_wp2_with fail
  rw [← hW]
  clear hW
  refine (HR.out W0).mono ?_
  rintro e w1 ⟨hb1, rfl⟩
  have k0 : w1.heap[w.heap.size]? = some (.cells #[.int .i64 0, .int .i64 0] 28 (0, 0)) := (hb1.block _ (by omega)).trans k1
  have z2 : w.heap.size < w1.heap.size := by have := hb1.size; omega
  have t0 : w1.cell? ⟨w.heap.size, 0, none⟩ = some (.int .i64 0) := by simp only [World.cell?, k0]; rfl
  have t1 : w1.cell? ⟨w.heap.size, 1, none⟩ = some (.int .i64 0) := by simp only [World.cell?, k0]; rfl
  have tf : ∀ j, w1.frozen? ⟨w.heap.size, j, none⟩ = false := fun j => by simp [World.frozen?, k0]
  have HB1 : Hid (Below w.heap.size w w1 ∧ w1.heap[w.heap.size]? = some (.cells #[.int .i64 0, .int .i64 0] 28 (0, 0))) := ⟨hB.trans (hb1.mono (by omega)), k0⟩
  clear hb1 k0 hB hS k1 HR
  unfold faultV
  go_wp2_with fail
  go_region_with (fail)
  all_goals
    go_wp2_with fail
    refine bodyPost_ret (res_comp (B := w.heap.size) (.pointer none) (.int .i64 (why : Int)) (.int .i64 (at' : Int)) rfl rfl ?g1) rfl ?_
    case g1 =>
      refine (alloc1_heap (X := puts w.heap.size 0 [.int .i64 (why : Int), .int .i64 (at' : Int)] w1) ?_).trans (puts_all (w := w1) HB1.out.2 [.int .i64 (why : Int), .int .i64 (at' : Int)] rfl)
      rw [(puts_only _ _ _ _).size]; exact z2
    have wX : Below w.heap.size w (puts w.heap.size 0 [.int .i64 (why : Int), .int .i64 (at' : Int)] w1) := (puts_only w.heap.size [.int .i64 (why : Int), .int .i64 (at' : Int)] 0 w1).below (Nat.le_refl _) HB1.out.1
    have w2 := (wX.alloc wX.size (.cells #[.int .i64 (why : Int), .int .i64 (at' : Int)] 28)).drew
    exact ⟨w2, rfl⟩
set_option maxHeartbeats 400000 in
theorem compile_ok (s : ByteArray) (sg : List Sg) (hr : ∀ W, Calls Tryz.prog 78 #[.string s] W (ReadPost s W (.ok sg))) (w : World) : Calls Tryz.prog 49 #[.string s] w fun e w' => Below w.heap.size w w' ∧ ∃ (b : Nat) (L : List SG), e = .returned (.tuple #[.pointer (some ⟨b, 0, none⟩), faultV 0 0]) ∧ w.heap.size ≤ b ∧ Fresh w.heap.size b s L w' ∧ L.map SG.abs = sg := by
  have HR : Hid (∀ W, Calls Tryz.prog 78 #[.string s] W (ReadPost s W (.ok sg))) := hr
  obtain ⟨W0, hW, hB, hS, k1⟩ := one_box w (.cells #[.int .i64 0, .int .i64 0] 28)
  clear hr
  go_enter Tryz.func49, Tryz.ntmps49
  go_wp2_with fail
  rw [← hW]
  clear hW
  refine (HR.out W0).mono ?_
  rintro e w1 ⟨hb1, v, L, rfl, hrow, habs, hok⟩
  have k0 : w1.heap[w.heap.size]? = some (.cells #[.int .i64 0, .int .i64 0] 28 (0, 0)) := (hb1.block _ (by omega)).trans k1
  have z2 : w.heap.size < w1.heap.size := by have := hb1.size; omega
  have t0 : w1.cell? ⟨w.heap.size, 0, none⟩ = some (.int .i64 0) := by simp only [World.cell?, k0]; rfl
  have t1 : w1.cell? ⟨w.heap.size, 1, none⟩ = some (.int .i64 0) := by simp only [World.cell?, k0]; rfl
  have tf : ∀ j, w1.frozen? ⟨w.heap.size, j, none⟩ = false := fun j => by simp [World.frozen?, k0]
  have HB1 : Hid (Below w.heap.size w w1 ∧ w1.heap[w.heap.size]? = some (.cells #[.int .i64 0, .int .i64 0] 28 (0, 0)) ∧ w1.ownsRow w.heap.size 148 8 v L.length (L.flatMap signC) ∧ L.map SG.abs = sg ∧ ∀ x ∈ L, x.v.Ok) := ⟨hB.trans (hb1.mono (by omega)), k0, row_base hrow (by omega), habs, hok⟩
  obtain ⟨a, cap, hv⟩ := row_slice hrow
  obtain ⟨n, hn⟩ : ∃ n, n = L.length := ⟨_, rfl⟩
  rw [← hn] at hv
  subst hv
  have HN : Hid (n = L.length) := hn
  clear hb1 k0 hB hS k1 HR hrow habs hok hn
  unfold faultV
  go_wp2_with fail
  refine bodyPost_ret (res_comp (B := w.heap.size) (.pointer (some ⟨w1.heap.size + 1, 0, none⟩)) (.int .i64 0) (.int .i64 0) rfl rfl ?g1) rfl ?_
  case g1 =>
    refine (Below.heap_alloc _ _ _ ?_).trans ((Below.heap_alloc (puts w.heap.size 0 [.int .i64 0, .int .i64 0] w1) _ _ ?_).trans (puts_all (w := w1) HB1.out.2.1 [.int .i64 0, .int .i64 0] rfl))
    · simp; omega
    · rw [(puts_only _ _ _ _).size]; exact z2
  obtain ⟨h1, h2, h3, h4, h5⟩ := HB1.out
  have oX : Only w.heap.size w1 ((w1.setCell ⟨w.heap.size, 0, none⟩ (.int .i64 0)).setCell ⟨w.heap.size, 1, none⟩ (.int .i64 0)) := (Only.set _ _ _ _).trans (Only.set _ _ _ _)
  generalize ((w1.setCell ⟨w.heap.size, 0, none⟩ (.int .i64 0)).setCell ⟨w.heap.size, 1, none⟩ (.int .i64 0)) = X at oX ⊢
  have wX : Below w.heap.size w X := oX.below (Nat.le_refl _) h1
  have rX := oX.row h3 (row_ne h3 h2 (by decide))
  have sX := oX.size
  refine ⟨(wX.alloc wX.size _).alloc (Nat.le_trans wX.size (by simp)) _, w1.heap.size + 1, L, rfl, by omega, ⟨⟨.slice a n cap, ?_, (rX.alloc _).alloc _⟩, h5⟩, h4⟩
  have := heap_alloc_new (X.alloc (.cells #[.int .i64 0, .int .i64 0] 28)) (.cells #[.bool true, .string s, .int .u32 0, .int .i32 0, .int .u32 0, .slice a n cap, .slice none 0 0] 113)
  rw [show (X.alloc (.cells #[.int .i64 0, .int .i64 0] 28)).heap.size = w1.heap.size + 1 by simp [sX]] at this
  exact this
theorem compile_any (s : ByteArray) (c : List Nd ⊕ (Nat × Nat)) (hc : Comp (bl s) c) (w : World) : Calls Tryz.prog 49 #[.string s] w (CompPost s w c) := by
  by_cases hs : 200 < s.size
  · have e : c = .inr (5, 0) := hc.same (.long (by rw [bl_length]; exact hs))
    subst e
    exact compile_bad s 5 0 (by omega) (fun W => read_long s hs W) w
  · cases c with
    | inl k =>
      obtain ⟨sg, h1, h2⟩ := hc.flat (by rw [bl_length]; omega)
      refine (compile_ok s sg (fun W => read_any s (by omega) _ h1 W) w).mono ?_
      rintro e w' ⟨hb, b, L, he, hl, hF, hL⟩
      exact ⟨hb, b, L, he, hl, hF, by rw [hL]; exact h2⟩
    | inr x =>
      obtain ⟨why, at'⟩ := x
      obtain ⟨l, h1, h2⟩ := hc.flat (by rw [bl_length]; omega)
      rw [bl_length] at h2
      subst h2
      exact compile_bad s why (s.size - l) (sc_why h1 rfl) (fun W => read_any s (by omega) _ h1 W) w
end Go.Proofs.YtedepknbaakkhabGreatDoor.X
namespace Go.Proofs.YtedepknbaakkhabGreatDoor.X
open Go.RowKit Go.Shelf RxSem
structure Turn (b m : Nat) (v v' : Value) (w w' : World) : Prop where
  os : w'.os = w.os
  tape : w'.tape = w.tape
  output : w'.output = w.output
  size : w.heap.size ≤ w'.heap.size
  block : ∀ j, j < w.heap.size → j ≠ b → j ≠ m → v.ownBlock ≠ some j → w'.heap[j]? = w.heap[j]?
  own : ∀ g, v'.ownBlock = some g → v.ownBlock = some g ∨ w.heap.size ≤ g
theorem Turn.trans {b m : Nat} {v v' v'' : Value} {w w' w'' : World} (h : Turn b m v v' w w') (k : Turn b m v' v'' w' w'') : Turn b m v v'' w w'' := by
  refine ⟨k.os.trans h.os, k.tape.trans h.tape, k.output.trans h.output, Nat.le_trans h.size k.size, fun j hj hb hm hv => ?_, fun g hg => ?_⟩
  · rw [k.block j (Nat.lt_of_lt_of_le hj h.size) hb hm (fun e => ?_)]
    · exact h.block j hj hb hm hv
    · rcases h.own j e with e' | e'
      · exact hv e'
      · omega
  · rcases k.own g hg with e | e
    · exact h.own g e
    · exact .inr (Nat.le_trans h.size e)
theorem Turn.of_below {b m : Nat} {v : Value} {w w' : World} (h : Below w.heap.size w w') : Turn b m v v w w' :=
  ⟨h.os, h.tape, h.output, h.size, fun j hj _ _ _ => h.block j hj, fun _ hg => .inl hg⟩
theorem Turn.refl (b m : Nat) (v : Value) (w : World) : Turn b m v v w w := Turn.of_below (Below.refl _ _)
theorem Turn.only_b {b m : Nat} {v : Value} {w w' : World} (h : Only b w w') : Turn b m v v w w' :=
  ⟨h.os, h.tape, h.output, by rw [h.size]; exact Nat.le_refl _, fun j _ hb _ _ => h.block j hb, fun _ hg => .inl hg⟩
theorem Turn.only_m {b m : Nat} {v : Value} {w w' : World} (h : Only m w w') : Turn b m v v w w' :=
  ⟨h.os, h.tape, h.output, by rw [h.size]; exact Nat.le_refl _, fun j _ _ hm _ => h.block j hm, fun _ hg => .inl hg⟩
theorem Turn.drewN {b m : Nat} {v v' : Value} {w w' : World} (h : Turn b m v v' w w') (n : Nat) : Turn b m v v' w (w'.drewN n) := ⟨h.os, h.tape, h.output, h.size, h.block, h.own⟩
def walkC (gs n capS : Nat) (t : ByteArray) (p : Int) (gn capN : Nat) (tv sp : Value) (lo : Int) : Array Value := #[.slice (some ⟨gs, 0, none⟩) n capS, .string t, .int .i64 p, .slice (some ⟨gn, 0, none⟩) n capN, tv, sp, .int .i64 lo]
def snC (sn : List Int) : Array Value := (sn.map fun x => Value.int .i64 x).toArray
def thrC (T : List (Nat × Nat)) : List Value := T.flatMap fun x => [.int .i64 (x.1 : Int), .int .i64 (x.2 : Int)]
structure Wk (base b gs gn capS capN : Nat) (L : List SV) (t : ByteArray) (p : Nat) (tv sp : Value) (st : St) (w : World) : Prop where
  blk : w.heap[b]? = some (.cells (walkC gs L.length capS t p gn capN tv sp st.lo) 219 (0, 0))
  stp : ∃ cur, w.heap[gs]? = some (.cells cur 146 (0, 0)) ∧ cur.toList.take (7 * L.length) = L.flatMap stepC
  sn : w.heap[gn]? = some (.cells (snC st.sn) 3 (0, 0))
  len : st.sn.length = L.length
  row : w.ownsRow base 223 2 tv st.T.length (thrC st.T)
  oks : ∀ x ∈ L, x.Ok
  few : L.length ≤ 100000
  base : base ≤ b
  small : st.T.length + unseen p st.sn ≤ 100000
theorem flat_get {α : Type} (f : α → List Value) (k : Nat) (hk : ∀ x, (f x).length = k) : ∀ (L : List α) (i j : Nat) (hi : i < L.length), j < k → (L.flatMap f)[k * i + j]? = (f L[i])[j]?
  | [], _, _, hi, _ => by simp at hi
  | x :: L, 0, j, _, hj => by
    rw [List.flatMap_cons, Nat.mul_zero, Nat.zero_add, List.getElem?_append_left (by rw [hk]; exact hj)]
    rfl
  | x :: L, i + 1, j, hi, hj => by
    rw [List.flatMap_cons, List.getElem?_append_right (by rw [hk, Nat.mul_add]; omega), hk]
    have := flat_get f k hk L i j (by simpa using hi) hj
    rw [show k * (i + 1) + j - k = k * i + j by rw [Nat.mul_add]; omega, this]
    rfl
theorem flat_len2 {α : Type} (f : α → List Value) (k : Nat) (hk : ∀ x, (f x).length = k) (L : List α) : (L.flatMap f).length = k * L.length := by
  induction L with
  | nil => simp
  | cons x L ih => rw [List.flatMap_cons, List.length_append, ih, hk, List.length_cons, Nat.mul_add]; omega
section
variable {base b gs gn capS capN : Nat} {L : List SV} {t : ByteArray} {p : Nat} {tv sp : Value} {st : St} {w : World}
theorem Wk.lt (h : Wk base b gs gn capS capN L t p tv sp st w) : b < w.heap.size := (Array.getElem?_eq_some_iff.1 h.blk).1
theorem Wk.ltn (h : Wk base b gs gn capS capN L t p tv sp st w) : gn < w.heap.size := (Array.getElem?_eq_some_iff.1 h.sn).1
theorem Wk.cb (h : Wk base b gs gn capS capN L t p tv sp st w) (j : Nat) : w.cell? ⟨b, j, none⟩ = (walkC gs L.length capS t p gn capN tv sp st.lo)[j]? := by simp only [World.cell?, h.blk]; rfl
theorem Wk.fb (h : Wk base b gs gn capS capN L t p tv sp st w) (j : Nat) : w.frozen? ⟨b, j, none⟩ = false := by simp [World.frozen?, h.blk]
theorem Wk.fn (h : Wk base b gs gn capS capN L t p tv sp st w) (j : Nat) : w.frozen? ⟨gn, j, none⟩ = false := by simp [World.frozen?, h.sn]
theorem Wk.cs (h : Wk base b gs gn capS capN L t p tv sp st w) (i : Nat) (hi : i < L.length) (j : Nat) (hj : j < 7) : w.cell? ⟨gs, 7 * i + j, none⟩ = (stepC L[i])[j]? := by
  obtain ⟨cur, h1, h2⟩ := h.stp
  have e := flat_get stepC 7 (fun _ => rfl) L i j hi hj
  rw [← h2, List.getElem?_take_of_lt (by omega)] at e
  simp only [World.cell?, h1]
  rw [← e]; simp
theorem Wk.cn (h : Wk base b gs gn capS capN L t p tv sp st w) (i : Nat) (hi : i < st.sn.length) : w.cell? ⟨gn, i, none⟩ = some (.int .i64 st.sn[i]) := by
  simp only [World.cell?, h.sn, snC]
  simp [hi]
theorem Wk.bn (h : Wk base b gs gn capS capN L t p tv sp st w) : b ≠ gn := fun e => by
  have h1 := h.blk; have h2 := h.sn
  rw [e, h2] at h1; simp at h1
theorem Wk.bs (h : Wk base b gs gn capS capN L t p tv sp st w) : b ≠ gs := fun e => by
  obtain ⟨cur, h2, _⟩ := h.stp
  have h1 := h.blk
  rw [e, h2] at h1; simp at h1
theorem Wk.ns (h : Wk base b gs gn capS capN L t p tv sp st w) : gn ≠ gs := fun e => by
  obtain ⟨cur, h2, _⟩ := h.stp
  have h1 := h.sn
  rw [e, h2] at h1; simp at h1
theorem Wk.vb (h : Wk base b gs gn capS capN L t p tv sp st w) : tv.ownBlock ≠ some b := row_ne h.row h.blk (by decide)
theorem Wk.vn (h : Wk base b gs gn capS capN L t p tv sp st w) : tv.ownBlock ≠ some gn := row_ne h.row h.sn (by decide)
theorem Wk.vs (h : Wk base b gs gn capS capN L t p tv sp st w) : tv.ownBlock ≠ some gs := by
  obtain ⟨cur, h2, _⟩ := h.stp
  exact row_ne h.row h2 (by decide)
theorem Wk.mark (h : Wk base b gs gn capS capN L t p tv sp st w) (i : Nat) (hi : i < st.sn.length) (hns : ¬ sees p st i) : Wk base b gs gn capS capN L t p tv sp (RxSem.mark p i st) (w.setCell ⟨gn, i, none⟩ (.int .i64 (p : Int))) := by
  obtain ⟨cur, h2, h3⟩ := h.stp
  refine ⟨(Below.heap_setCell _ _ _ _ h.bn).trans h.blk, ⟨cur, (Below.heap_setCell _ _ _ _ (Ne.symm h.ns)).trans h2, h3⟩, ?_, by unfold RxSem.mark; simpa using h.len, row_set h.row h.vn _, h.oks, h.few, h.base, ?_⟩
  · refine (heap_set h.sn _).trans ?_
    unfold snC RxSem.mark
    congr 2
    rw [List.setIfInBounds_toArray]
    congr 1
    rw [List.map_set]
  · have := unseen_set (p := p) hi hns
    have h4 := h.small
    unfold RxSem.mark; dsimp only; omega
theorem Wk.told (h : Wk base b gs gn capS capN L t p tv sp st w) (e : Int) : Wk base b gs gn capS capN L t p tv sp ⟨st.sn, st.T, e⟩ (w.setCell ⟨b, 6, none⟩ (.int .i64 e)) := by
  obtain ⟨cur, h2, h3⟩ := h.stp
  exact ⟨heap_set h.blk _, ⟨cur, (Below.heap_setCell _ _ _ _ (Ne.symm h.bs)).trans h2, h3⟩, (Below.heap_setCell _ _ _ _ (Ne.symm h.bn)).trans h.sn, h.len, row_set h.row h.vb _, h.oks, h.few, h.base, h.small⟩
end
end Go.Proofs.YtedepknbaakkhabGreatDoor.X
