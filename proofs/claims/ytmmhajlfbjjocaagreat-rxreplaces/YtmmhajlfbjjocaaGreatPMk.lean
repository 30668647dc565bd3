/-
  Signs are made steps.
-/
import Derived.Test.YtmmhajlfbjjocaaGreatPMaker
namespace Go.Proofs.YtmmhajlfbjjocaaGreat
open Go.RowKit Go.Shelf RxSem

/-- How far the signs are made steps. -/
structure Mk (bm sb : Nat) (v : Value) (L : List SG) (i : Nat) (w : World) : Prop where
  blk : w.heap[bm]? = some (.cells #[v, .int .i64 (i : Int)] 141 (0, 0))
  row : w.ownsRow sb 98 8 v L.length (L.flatMap signC)
  few : L.length ≤ 200
theorem Mk.lt {bm sb : Nat} {v : Value} {L : List SG} {i : Nat} {w : World} (h : Mk bm sb v L i w) : bm < w.heap.size := (Array.getElem?_eq_some_iff.1 h.blk).1
theorem Mk.step {bm sb : Nat} {v : Value} {L : List SG} {i : Nat} {w : World} (h : Mk bm sb v L i w) (j : Nat) : Mk bm sb v L j (w.setCell ⟨bm, 1, none⟩ (.int .i64 (j : Int))) :=
  ⟨heap_set h.blk _, row_set h.row (row_ne h.row h.blk (by decide)) _, h.few⟩
theorem Mk.below {bm sb : Nat} {v : Value} {L : List SG} {i : Nat} {w w' : World} (h : Mk bm sb v L i w) (hb : Below w.heap.size w w') : Mk bm sb v L i w' :=
  ⟨(hb.block bm h.lt).trans h.blk, owns_below h.row hb, h.few⟩
theorem Mk.sign {bm sb : Nat} {v : Value} {L : List SG} {i : Nat} {w : World} (h : Mk bm sb v L i w) (j : Nat) (hj : j < L.length) : ∃ g cap, v = .slice (some ⟨g, 0, none⟩) L.length cap ∧ ∀ c, c < 8 → w.cell? ⟨g, 8 * j + c, none⟩ = (signC L[j])[c]? := by
  have hr := h.row
  rcases hr.2 with ⟨h1, h2⟩ | ⟨g, cap, cur, h1, _⟩
  · omega
  · refine ⟨g, cap, h1, fun c hc => ?_⟩
    subst h1
    have e := flat_get signC 8 (fun _ => rfl) L j c hj hc
    have hl : c < (signC L[j]).length := by rw [signC_len]; exact hc
    rw [List.getElem?_eq_getElem hl] at e ⊢
    exact row_cell hr _ _ e
theorem Mk.drewN {bm sb : Nat} {v : Value} {L : List SG} {i : Nat} {w : World} (h : Mk bm sb v L i w) (n : Nat) : Mk bm sb v L i (w.drewN n) := ⟨h.blk, h.row, h.few⟩
def isNext (c : UInt8) : List SG → Bool
  | x :: _ => x.m == c
  | [] => false

set_option maxRecDepth 20000 in
set_option maxHeartbeats 400000 in
theorem is_any' {bm sb : Nat} {v : Value} {L : List SG} {i : Nat} (c : UInt8) (w : World) (h : Mk bm sb v L i w) (hi : i ≤ L.length) : Calls Tryz.prog 75 #[.pointer (some ⟨bm, 0, none⟩), .int .u8 (c.toNat : Int)] w fun e w' => e = .returned (.bool (isNext c (L.drop i))) ∧ Mk bm sb v L (if isNext c (L.drop i) then i + 1 else i) w' ∧ Wrote bm w w' := by
  have c0 : w.cell? ⟨bm, 0, none⟩ = some v := by simp only [World.cell?, h.blk]; rfl
  have c1 : w.cell? ⟨bm, 1, none⟩ = some (.int .i64 (i : Int)) := by simp only [World.cell?, h.blk]; rfl
  have fb : ∀ j, w.frozen? ⟨bm, j, none⟩ = false := fun j => by simp [World.frozen?, h.blk]
  have hbl := h.lt
  have HM : Hid (Mk bm sb v L i w) := h
  have hfew := h.few
  obtain ⟨n, hn⟩ : ∃ n, n = L.length := ⟨_, rfl⟩
  by_cases hlt : i < L.length
  · obtain ⟨g, cap, hv, hs⟩ := h.sign i hlt
    have s0 : w.cell? ⟨g, i * 8, none⟩ = some (.int .u8 (L[i].m.toNat : Int)) := by
      have := hs 0 (by omega); rw [Nat.add_zero, Nat.mul_comm] at this; exact this
    have hd : L.drop i = L[i] :: L.drop (i + 1) := List.drop_eq_getElem_cons hlt
    obtain ⟨x, hx⟩ : ∃ x, x = L[i].m := ⟨_, rfl⟩
    rw [← hx] at s0
    have HD : Hid (∀ b, (x == c) = b → isNext c (L.drop i) = b) := fun b hb => by rw [hd]; show (L[i].m == c) = b; rw [← hx]; exact hb
    rw [← hn] at hv hlt hfew
    subst hv
    have hl2 : (i : Int) < (n : Int) := by omega
    clear hs hd hx h hn
    by_cases hxc : x = c
    · have HD2 : Hid (isNext c (L.drop i) = true) := HD.out true (by simp [hxc])
      subst hxc
      rw [HD2.out]
      clear HD
      go_enter Tryz.func75, Tryz.ntmps75
      go_wp2_with fail
      go_quiet (fail)
      go_wp2_with fail
      go_ret
      exact ⟨rfl, (HM.out.drewN _).step (i + 1), ((Wrote.refl _ _).drewN _).set _⟩
    · have HD2 : Hid (isNext c (L.drop i) = false) := HD.out false (by simp [hxc])
      have hxn : ¬ (x.toNat : Int) = (c.toNat : Int) := fun e => hxc (by rw [u8_eq_iff]; omega)
      rw [HD2.out]
      clear HD
      go_enter Tryz.func75, Tryz.ntmps75
      go_wp2_with fail
      go_quiet (fail)
      go_wp2_with fail
      go_ret
      exact ⟨rfl, HM.out.drewN _, (Wrote.refl _ _).drewN _⟩
  · have hd : L.drop i = [] := List.drop_of_length_le (by omega)
    have HD2 : Hid (isNext c (L.drop i) = false) := by unfold Hid; rw [hd]; rfl
    obtain ⟨a, cap, hv⟩ := row_slice h.row
    rw [← hn] at hv hlt hfew hi
    subst hv
    have hl2 : ¬ (i : Int) < (n : Int) := by omega
    rw [HD2.out]
    clear h hn hd
    go_enter Tryz.func75, Tryz.ntmps75
    go_wp2_with fail
    go_quiet (fail)
    go_wp2_with fail
    go_ret
    exact ⟨rfl, HM.out.drewN _, (Wrote.refl _ _).drewN _⟩

/-- What a call of the maker gives. -/
def MkPost (bm sb : Nat) (v : Value) (L : List SG) (rest : List Sg) (C : List Stp) (w : World) (e : Ending) (w' : World) : Prop := ∃ (v' : Value) (A : List SV) (j : Nat), e = .returned v' ∧ Row w.heap.size v' A w' ∧ Mk bm sb v L j w' ∧ j ≤ L.length ∧ (L.drop j).map SG.abs = rest ∧ Wrote bm w w' ∧ A.map SV.abs = C ∧ ∀ x ∈ A, x.Ok
def ThingC (bm sb : Nat) (v : Value) (L : List SG) (m : Nat) : Prop := ∀ (i : Nat) (n : Nd) (rest : List Sg) (w : World), L.length - i ≤ m → i ≤ L.length → Mk bm sb v L i w → (∀ x ∈ L, x.v.Ok) → SP .thing ((L.drop i).map SG.abs) [n] rest → Calls Tryz.prog 93 #[.pointer (some ⟨bm, 0, none⟩)] w (MkPost bm sb v L rest (code n) w)
def WaysC (bm sb : Nat) (v : Value) (L : List SG) (m : Nat) : Prop := ∀ (i : Nat) (k : List Nd) (rest : List Sg) (w : World), L.length - i ≤ m → i ≤ L.length → Mk bm sb v L i w → (∀ x ∈ L, x.v.Ok) → SP .ways ((L.drop i).map SG.abs) k rest → Calls Tryz.prog 65 #[.pointer (some ⟨bm, 0, none⟩)] w (MkPost bm sb v L rest (code (.alt k)) w)
theorem drop_mark {L : List SG} {i : Nat} {c : UInt8} {t : List Sg} (h : (L.drop i).map SG.abs = .mark c :: t) : ∃ hi : i < L.length, L[i].m = c ∧ c ≠ 0 ∧ (L.drop (i + 1)).map SG.abs = t := by
  have hi : i < L.length := by
    rcases Nat.lt_or_ge i L.length with h1 | h1
    · exact h1
    · rw [List.drop_of_length_le h1] at h; cases h
  rw [List.drop_eq_getElem_cons hi, List.map_cons] at h
  simp only [List.cons.injEq] at h
  refine ⟨hi, ?_, ?_, h.2⟩
  · have := h.1; unfold SG.abs at this; split at this
    · cases this
    · cases this; rfl
  · have := h.1; unfold SG.abs at this; split at this
    · cases this
    · rename_i h0; cases this; exact h0
theorem drop_thing {L : List SG} {i : Nat} {x : Stp} {t : List Sg} (h : (L.drop i).map SG.abs = .thing x :: t) : ∃ hi : i < L.length, L[i].m = 0 ∧ L[i].v.abs = x ∧ (L.drop (i + 1)).map SG.abs = t := by
  have hi : i < L.length := by
    rcases Nat.lt_or_ge i L.length with h1 | h1
    · exact h1
    · rw [List.drop_of_length_le h1] at h; cases h
  rw [List.drop_eq_getElem_cons hi, List.map_cons] at h
  simp only [List.cons.injEq] at h
  refine ⟨hi, ?_, ?_, h.2⟩
  · have := h.1; unfold SG.abs at this; split at this
    · assumption
    · cases this
  · have := h.1; unfold SG.abs at this; split at this
    · cases this; rfl
    · cases this
set_option maxRecDepth 20000 in
set_option maxHeartbeats 400000 in
theorem thing_one {bm sb : Nat} {v : Value} {L : List SG} (i : Nat) (w : World) (h : Mk bm sb v L i w) (hi : i < L.length) (hok : ∀ x ∈ L, x.v.Ok) (hm : L[i].m = 0) : Calls Tryz.prog 93 #[.pointer (some ⟨bm, 0, none⟩)] w (MkPost bm sb v L ((L.drop (i + 1)).map SG.abs) [L[i].v.abs] w) := by
  have HIs : Hid (∀ W, Mk bm sb v L i W → Calls Tryz.prog 75 #[.pointer (some ⟨bm, 0, none⟩), .int .u8 40] W fun e w' => e = .returned (.bool false) ∧ Mk bm sb v L i w' ∧ Wrote bm W w') := fun W hW => by
    have := is_any' 40 W hW (by omega)
    have e : isNext 40 (L.drop i) = false := by rw [List.drop_eq_getElem_cons hi]; show (L[i].m == 40) = false; rw [hm]; rfl
    rw [e] at this
    exact this
  have HM : Hid (Mk bm sb v L i w) := h
  clear h
  go_enter Tryz.func93, Tryz.ntmps93
  go_wp2_with fail
  refine (HIs.out w HM.out).mono ?_
  rintro e w1 ⟨rfl, hM1, hw1⟩
  have c1 : w1.cell? ⟨bm, 1, none⟩ = some (.int .i64 (i : Int)) := by simp only [World.cell?, hM1.blk]; rfl
  have fb : ∀ j, w1.frozen? ⟨bm, j, none⟩ = false := fun j => by simp [World.frozen?, hM1.blk]
  have HM1 : Hid (Mk bm sb v L i w1 ∧ Wrote bm w w1) := ⟨hM1, hw1⟩
  have hfew := hM1.few
  have hi3 : i ≤ 200 := by omega
  clear hM1 hw1 HIs
  go_wp2_with fail
  obtain ⟨w2, hw2⟩ : ∃ w2, w2 = w1.setCell ⟨bm, 1, none⟩ (.int .i64 ((i : Int) + 1)) := ⟨_, rfl⟩
  have hM2 : Mk bm sb v L (i + 1) w2 := by rw [hw2]; exact HM1.out.1.step (i + 1)
  have hW2 : Wrote bm w w2 := by rw [hw2]; exact HM1.out.2.set _
  rw [← hw2]
  obtain ⟨g, cap, hv, hs⟩ := hM2.sign i hi
  obtain ⟨x, hx⟩ : ∃ x, x = L[i].v := ⟨_, rfl⟩
  have hsc : ∀ c, c < 8 → w2.cell? ⟨g, i * 8 + c, none⟩ = ((.int .u8 (L[i].m.toNat : Int) :: stepC x) : List Value)[c]? := fun c hc => by
    have := hs c hc; rw [Nat.mul_comm] at this; rw [this, hx]; rfl
  obtain ⟨n, hn⟩ : ∃ n, n = L.length := ⟨_, rfl⟩
  rw [← hn] at hv
  have d0 : w2.cell? ⟨bm, 0, none⟩ = some (.slice (some ⟨g, 0, none⟩) n cap) := by rw [← hv]; simp only [World.cell?, hM2.blk]; rfl
  obtain ⟨j1, hj1⟩ : ∃ j, j = i + 1 := ⟨_, rfl⟩
  have d1 : w2.cell? ⟨bm, 1, none⟩ = some (.int .i64 (j1 : Int)) := by rw [hj1]; simp only [World.cell?, hM2.blk]; rfl
  have q1 : (j1 : Int) - 1 = (i : Int) := by omega
  have q2 : IntKind.i64.wrap (i : Int) = (i : Int) := by (simp [IntKind.wrap, IntKind.bits, IntKind.signed]; omega)
  have q3 : IntKind.i64.wrap ((j1 : Int) - 1) = (i : Int) := by rw [q1]; exact q2
  have k1 : w2.cell? ⟨g, i * 8 + 1, none⟩ = some (.int .i64 (x.k : Int)) := hsc 1 (by omega)
  have k2 : w2.cell? ⟨g, i * 8 + 1 + 1, none⟩ = some (.int .u64 (x.s.a : Int)) := hsc 2 (by omega)
  have k3 : w2.cell? ⟨g, i * 8 + 1 + 2, none⟩ = some (.int .u64 (x.s.b : Int)) := hsc 3 (by omega)
  have k4 : w2.cell? ⟨g, i * 8 + 1 + 3, none⟩ = some (.int .u64 (x.s.c : Int)) := hsc 4 (by omega)
  have k5 : w2.cell? ⟨g, i * 8 + 1 + 4, none⟩ = some (.int .u64 (x.s.d : Int)) := hsc 5 (by omega)
  have k6 : w2.cell? ⟨g, i * 8 + 1 + 5, none⟩ = some (.int .i64 x.a) := hsc 6 (by omega)
  have k7 : w2.cell? ⟨g, i * 8 + 1 + 6, none⟩ = some (.int .i64 x.b) := hsc 7 (by omega)
  have hi4 : (i : Int) < (n : Int) := by omega
  have HX : Hid (Mk bm sb v L (i + 1) w2 ∧ Wrote bm w w2 ∧ x.Ok ∧ x = L[i].v) := ⟨hM2, hW2, by rw [hx]; exact hok _ (List.getElem_mem hi), hx⟩
  clear hw2 hM2 hW2 hs hsc hv hx hok hn c1 fb hj1
  go_region_with (fail)
  all_goals
    go_wp2_with fail
    go_ret
    obtain ⟨h1, h2, h3, h4⟩ := HX.out
    have hB : Below w2.heap.size w2 ((w2.alloc (.cells #[.int .i64 (x.k : Int), .int .u64 (x.s.a : Int), .int .u64 (x.s.b : Int), .int .u64 (x.s.c : Int), .int .u64 (x.s.d : Int), .int .i64 x.a, .int .i64 x.b] 96)).drew) := ((Below.refl _ _).alloc (Nat.le_refl _) _).drew
    refine ⟨.slice (some ⟨w2.heap.size, 0, none⟩) 1 1, [x], i + 1, rfl, ⟨rfl, .inr ⟨w2.heap.size, 1, _, rfl, h2.size, heap_alloc_new _ _, by simp, by unfold maxLen; omega, rfl, rfl⟩⟩, h1.below hB, by omega, rfl, h2.trans (.of_below hB), by rw [← h4]; rfl, fun y hy => ?_⟩
    have : y = x := by simpa using hy
    rw [this]; exact h3
set_option maxRecDepth 20000 in
set_option maxHeartbeats 400000 in
theorem thing_group {bm sb : Nat} {v : Value} {L : List SG} (i : Nat) (C : List Stp) (rest : List Sg) (w : World) (h : Mk bm sb v L i w) (hi : i < L.length) (hm : L[i].m = 40) (hw : ∀ W, Mk bm sb v L (i + 1) W → Calls Tryz.prog 65 #[.pointer (some ⟨bm, 0, none⟩)] W (MkPost bm sb v L (.mark 41 :: rest) C W)) : Calls Tryz.prog 93 #[.pointer (some ⟨bm, 0, none⟩)] w (MkPost bm sb v L rest C w) := by
  have HIs : Hid (∀ W, Mk bm sb v L i W → Calls Tryz.prog 75 #[.pointer (some ⟨bm, 0, none⟩), .int .u8 40] W fun e w' => e = .returned (.bool true) ∧ Mk bm sb v L (i + 1) w' ∧ Wrote bm W w') := fun W hW => by
    have := is_any' 40 W hW (by omega)
    have e : isNext 40 (L.drop i) = true := by rw [List.drop_eq_getElem_cons hi]; show (L[i].m == 40) = true; rw [hm]; rfl
    rw [e] at this
    exact this
  have HWs : Hid (∀ W, Mk bm sb v L (i + 1) W → Calls Tryz.prog 65 #[.pointer (some ⟨bm, 0, none⟩)] W (MkPost bm sb v L (.mark 41 :: rest) C W)) := hw
  have HM : Hid (Mk bm sb v L i w) := h
  clear h hw
  go_enter Tryz.func93, Tryz.ntmps93
  go_wp2_with fail
  refine (HIs.out w HM.out).mono ?_
  rintro e w1 ⟨rfl, hM1, hw1⟩
  have H1 : Hid (Mk bm sb v L (i + 1) w1 ∧ Wrote bm w w1) := ⟨hM1, hw1⟩
  clear hM1 hw1 HIs
  go_wp2_with fail
  refine (HWs.out w1 H1.out.1).mono ?_
  rintro e w2 ⟨v', A, j, rfl, hR, hM2, hj, hrest, hw2, hC, hok⟩
  have c1 : w2.cell? ⟨bm, 1, none⟩ = some (.int .i64 (j : Int)) := by simp only [World.cell?, hM2.blk]; rfl
  have fb : ∀ j, w2.frozen? ⟨bm, j, none⟩ = false := fun j => by simp [World.frozen?, hM2.blk]
  have hj2 : j ≤ 200 := by have := hM2.few; omega
  obtain ⟨a', c', hv'⟩ := row_slice hR
  have H2 : Hid (Row w1.heap.size v' A w2 ∧ Mk bm sb v L j w2 ∧ j ≤ L.length ∧ (L.drop j).map SG.abs = .mark 41 :: rest ∧ Wrote bm w1 w2 ∧ A.map SV.abs = C ∧ ∀ x ∈ A, x.Ok) := ⟨hR, hM2, hj, hrest, hw2, hC, hok⟩
  subst hv'
  clear hR hM2 hj hrest hw2 hC hok HWs
  go_wp2_with fail
  go_ret
  obtain ⟨hR, hM2, hj, hrest, hw2, hC, hok⟩ := H2.out
  obtain ⟨hj3, _, _, hr2⟩ := drop_mark hrest
  exact ⟨_, A, j + 1, rfl, row_base (row_set hR (row_ne hR hM2.blk (by decide)) _) H1.out.2.size, hM2.step (j + 1), hj3, hr2, (H1.out.2.trans hw2).set _, hC, hok⟩
theorem thing_any' {bm sb : Nat} {v : Value} {L : List SG} (m : Nat) (hw : ∀ m', m' < m → WaysC bm sb v L m') : ThingC bm sb v L m := by
  intro i n rest w hm hi h hok hsp
  cases hs : (L.drop i).map SG.abs with
  | nil => rw [hs] at hsp; cases hsp
  | cons s t =>
    rw [hs] at hsp
    cases hsp with
    | one x _ hx =>
      obtain ⟨hi2, h1, h2, h3⟩ := drop_thing hs
      have := thing_one i w h hi2 hok h1
      rw [h2, h3] at this
      have e : code (ndOf x) = [x] := by obtain ⟨f, rfl | rfl | rfl⟩ := hx <;> simp [ndOf, code]
      rw [e]; exact this
    | group _ _ k hk =>
      obtain ⟨hi2, h1, _, h3⟩ := drop_mark hs
      refine thing_group i (code (.alt k)) rest w h hi2 h1 (fun W hW => ?_)
      exact hw (L.length - (i + 1)) (by omega) (i + 1) k _ W (Nat.le_refl _) hi2 hW hok (by rw [h3]; exact hk)
end Go.Proofs.YtmmhajlfbjjocaaGreat
