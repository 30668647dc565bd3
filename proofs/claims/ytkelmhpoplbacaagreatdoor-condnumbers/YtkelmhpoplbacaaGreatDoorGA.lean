/-
  What enclosed, side and word do.
-/
import Derived.Test.YtkelmhpoplbacaaGreatDoorD3
import Derived.Deep.Cut
namespace Go.Proofs.YtkelmhpoplbacaaGreatDoor.Cd
open Go.RowKit Go.Shelf Ex

def EnPost (b : Nat) (s : ByteArray) (d : Nat) (r : RR ByteArray) (w : World) (e : Ending) (w' : World) : Prop :=
  Wt b w w' ∧ match r with
  | .ok p t => e = .returned (.tuple #[.string t, fV 0 0]) ∧ Cr b s p d w'
  | .bad y n => e = .returned (.tuple #[.string E0, fV y (n : Int)]) ∧ ∃ a', Cr b s a' d w'
def SdPost (b : Nat) (s : ByteArray) (d : Nat) (r : RR Sd) (w : World) (e : Ending) (w' : World) : Prop :=
  Wt b w w' ∧ match r with
  | .ok p l => e = .returned (.tuple #[.agg #[.string l.t, .bool l.q], fV 0 0]) ∧ Cr b s p d w'
  | .bad y n => (∃ l : Sd, e = .returned (.tuple #[.agg #[.string l.t, .bool l.q], fV y (n : Int)])) ∧ ∃ a', Cr b s a' d w'
section
variable {b : Nat} {s : ByteArray} {a d : Nat} {w W W' : World}
theorem Fx.alloc (h : Fx b s a d w W) (o : Obj) : Fx b s a d w (W.alloc o) := h.below ((Below.refl _ _).alloc (Nat.le_refl _) _)
theorem Fx.set (h : Fx b s a d w W) {g i : Nat} (x : Value) (hg : w.heap.size < g) : Fx b s a d w (W.setCell ⟨g, i, none⟩ x) :=
  have h1 : b ≠ g := by have := h.hb; omega
  have h2 : w.heap.size ≠ g := by omega
  ⟨h.cr.set _ h1, h.wt.new (by omega) _, h.hb, (Below.heap_setCell _ _ _ _ h2).trans h.bx⟩
theorem Fx.box (h : Fx b s a d w W) (x y : Value) : ∃ W' g, W' = W.alloc (.cells #[x, y] 43) ∧ g = W.heap.size ∧ Fx b s a d w W' ∧ W'.heap[g]? = some (.cells #[x, y] 43 (0, 0)) ∧ w.heap.size < g :=
  ⟨_, _, rfl, rfl, h.alloc _, heap_alloc_new _ _, h.bl⟩
end
set_option maxRecDepth 20000 in
set_option maxHeartbeats 2000000 in
theorem enclosed_any (b : Nat) (s : ByteArray) (c : UInt8) (hs : s.size ≤ 1000000) (a d : Nat) (ha : a < s.size) (w : World) (h : Cr b s a d w) :
    Calls Tryz.prog 133 #[.pointer (some ⟨b, 0, none⟩), .string ⟨#[c]⟩] w (EnPost b s d (enclR s a c) w) := by
  have H0 : Hid (Fx b s a d w (w.alloc (.cells #[.int .i64 0, .int .i64 0] 43))) := Fx.start h
  have H1 : Hid (Fx b s (a + 1) d w ((w.alloc (.cells #[.int .i64 0, .int .i64 0] 43)).setCell ⟨b, 1, none⟩ (.int .i64 ((a : Int) + 1)))) := H0.out.at_ (a + 1) _ (by omega)
  have c1 := H0.out.cr.c1
  have f1 := H0.out.cr.fr 1
  obtain ⟨W1, hW1⟩ : ∃ W1, W1 = (w.alloc (.cells #[.int .i64 0, .int .i64 0] 43)).setCell ⟨b, 1, none⟩ (.int .i64 ((a : Int) + 1)) := ⟨_, rfl⟩
  rw [← hW1] at H1
  have HU : Hid (Calls Tryz.prog 156 #[.pointer (some ⟨b, 0, none⟩), .string ⟨#[c]⟩] W1 (UpPost b s (a + 1) d (untilP (bl s) [c] (a + 1)) W1)) := upTo_any b s ⟨#[c]⟩ hs (a + 1) d (by omega) W1 H1.out.cr
  have hul := until_le (s := s) (st := [c]) _ (a + 1) (Nat.le_refl _) (by omega)
  have HWr : Hid (∀ W, Calls Tryz.prog 34 #[.int .i64 (a : Int)] W fun e w' => e = .returned (fV 13 (a : Int)) ∧ Below W.heap.size W w') := fun W => wrong_any _ W
  unfold enclR
  generalize untilP (bl s) [c] (a + 1) = r at HU hul ⊢
  obtain ⟨ok, e⟩ := r
  dsimp only at hul ⊢
  clear h H0
  cases ok
  · simp only [Bool.false_eq_true, if_false]
    go_enter Tryz.func133, Tryz.ntmps133
    go_wp2_with fail
    rw [← hW1]
    clear hW1 c1 f1
    refine HU.out.mono ?_
    rintro e1 w2 ⟨hw2, rfl, a', hc2⟩
    dsimp only
    obtain ⟨W3, g, hW3, hg, HF3, hbx, hgl⟩ := (H1.out.next hc2 hw2).box (.int .i64 13) (.int .i64 (e : Int))
    have H3 : Hid (Fx b s a' d w W3) := HF3
    go_upto_region 4 with fail
    rw [← hW3, ← hg]
    clear hW3 hg HF3 hw2 hc2
    have x0 := cellb hbx 0 rfl
    have x1 := cellb hbx 1 rfl
    have g0 := H3.out.b0
    have g1 := H3.out.b1
    have gf0 := H3.out.bf 0
    have gf1 := H3.out.bf 1
    clear hbx
    go_wp2_with fail
    go_region_with (fail)
    all_goals
      go_wp2
      refine bodyPost_ret (v := .tuple #[.string E0, fV 13 (e : Int)]) (by simp [results, Tryz.results133, go_sem, g0, g1]; try rfl) rfl ?_
      first | exact ⟨(H3.out.fin _ _).2.drew, rfl, a', (H3.out.fin _ _).1.drew⟩ | exact ⟨(H3.out.drew.fin _ _).2, rfl, a', (H3.out.drew.fin _ _).1⟩
  · simp only [if_true]
    by_cases hz : e = s.size
    · rw [if_pos hz]
      go_enter Tryz.func133, Tryz.ntmps133
      go_wp2_with fail
      rw [← hW1]
      clear hW1 c1 f1
      refine HU.out.mono ?_
      rintro e1 w2 ⟨hw2, rfl, hc2⟩
      dsimp only at hc2 ⊢
      obtain ⟨W3, g, hW3, hg, HF3, hbx, hgl⟩ := (H1.out.next hc2 hw2).box (.int .i64 0) (.int .i64 0)
      have H3 : Hid (Fx b s e d w W3) := HF3
      obtain ⟨u, hu⟩ : ∃ u, u = s.extract (a + 1) e := ⟨_, rfl⟩
      rw [← hu]
      go_upto_region 4 with fail
      rw [← hW3, ← hg]
      clear hW3 hg HF3 hw2 hc2 hu
      have x0 := cellb hbx 0 rfl
      have x1 := cellb hbx 1 rfl
      have k0 := H3.out.cr.c0
      have k1 := H3.out.cr.c1
      have hei : (e : Int) = (s.size : Int) := by omega
      have hed : ((e : Int) == (s.size : Int)) = true := by simpa using hei
      clear hz hbx
      go_wp2_with fail
      go_quiet (fail)
      go_wp2_with fail
      refine (HWr.out _).mono ?_
      rintro e2 w4 ⟨rfl, hb4⟩
      have H4 : Hid (Fx b s e d w w4) := Fx.on hb4 (H3.out.drewN _)
      clear hb4
      have g0 := H4.out.b0
      have g1 := H4.out.b1
      have gf0 := H4.out.bf 0
      have gf1 := H4.out.bf 1
      go_wp2
      refine bodyPost_ret (v := .tuple #[.string E0, fV 13 (a : Int)]) (by simp [results, Tryz.results133, go_sem, g0, g1]; try rfl) rfl ?_
      exact ⟨(H4.out.fin _ _).2, rfl, e, (H4.out.fin _ _).1⟩
    · rw [if_neg hz]
      go_enter Tryz.func133, Tryz.ntmps133
      go_wp2_with fail
      rw [← hW1]
      clear hW1 c1 f1
      refine HU.out.mono ?_
      rintro e1 w2 ⟨hw2, rfl, hc2⟩
      dsimp only at hc2 ⊢
      obtain ⟨W3, g, hW3, hg, HF3, hbx, hgl⟩ := (H1.out.next hc2 hw2).box (.int .i64 0) (.int .i64 0)
      have H3 : Hid (Fx b s e d w W3) := HF3
      go_upto_region 4 with fail
      rw [← hW3, ← hg]
      clear hW3 hg HF3 hw2 hc2
      have x0 := cellb hbx 0 rfl
      have x1 := cellb hbx 1 rfl
      have k0 := H3.out.cr.c0
      have k1 := H3.out.cr.c1
      have kf := H3.out.cr.fr 1
      have hei : ¬ (e : Int) = (s.size : Int) := by omega
      have hed : ((e : Int) == (s.size : Int)) = false := by simpa using hei
      have he6 : e ≤ 1000000 := by omega
      clear hz hbx
      go_wp2_with fail
      go_quiet (fail)
      have H4 : Hid (Fx b s (e + 1) d w ((W3.drewN nq).setCell ⟨b, 1, none⟩ (.int .i64 ((e : Int) + 1)))) := (H3.out.drewN nq).at_ (e + 1) _ (by omega)
      obtain ⟨W4, hW4⟩ : ∃ W4, W4 = (W3.drewN nq).setCell ⟨b, 1, none⟩ (.int .i64 ((e : Int) + 1)) := ⟨_, rfl⟩
      rw [← hW4] at H4
      go_upto_region 9 with fail
      rw [← hW4]
      clear hW4 k0 k1 kf x0 x1
      have g0 := H4.out.b0
      have g1 := H4.out.b1
      have gf0 := H4.out.bf 0
      have gf1 := H4.out.bf 1
      go_wp2
      refine bodyPost_ret (v := .tuple #[.string (s.extract (a + 1) e), fV 0 0]) (by simp [results, Tryz.results133, go_sem, g0, g1]; try rfl) rfl ?_
      exact ⟨(H4.out.fin _ _).2, rfl, (H4.out.fin _ _).1⟩

end Go.Proofs.YtkelmhpoplbacaaGreatDoor.Cd
namespace Go.Proofs.YtkelmhpoplbacaaGreatDoor.Cd
open Go.RowKit Go.Shelf Ex

/-- Two boxes of answers are written, and the call ends. -/
theorem fin4 {b : Nat} {s : ByteArray} {a d : Nat} {w W : World} (hc : Cr b s a d W) (hw : Wt b w W) (hb : b < w.heap.size) (x y u v : Value) :
    Cr b s a d ((((W.setCell ⟨w.heap.size, 0, none⟩ x).setCell ⟨w.heap.size, 1, none⟩ y).setCell ⟨w.heap.size + 1, 0, none⟩ u).setCell ⟨w.heap.size + 1, 1, none⟩ v) ∧ Wt b w ((((W.setCell ⟨w.heap.size, 0, none⟩ x).setCell ⟨w.heap.size, 1, none⟩ y).setCell ⟨w.heap.size + 1, 0, none⟩ u).setCell ⟨w.heap.size + 1, 1, none⟩ v) := by
  have h1 : b ≠ w.heap.size := by omega
  have h2 : b ≠ w.heap.size + 1 := by omega
  exact ⟨(((hc.set _ h1).set _ h1).set _ h2).set _ h2, (((hw.new (Nat.le_refl _) _).new (Nat.le_refl _) _).new (by omega) _).new (by omega) _⟩
theorem pre_at {s : ByteArray} {q : Nat} (c : UInt8) : Lib.hasPrefix (bl (s.extract q s.size)) [c] = decide ((bl s)[q]? = some c) := by
  have h := pre_next s ⟨#[c]⟩ q
  have e : bl (⟨#[c]⟩ : ByteArray) = [c] := rfl
  rw [e] at h
  rw [h]
  have hd : (bl s)[q]? = ((bl s).drop q)[0]? := by rw [List.getElem?_drop, Nat.add_zero]
  rw [hd]
  cases (bl s).drop q with
  | nil => simp
  | cons x r =>
    rw [Bool.eq_iff_iff]
    simp [List.isPrefixOf]
    exact eq_comm
/-- What is true of the two boxes of a call of side. -/
structure Sx (b : Nat) (w W1 : World) : Prop where
  wt : Wt b w W1
  b1 : W1.heap[w.heap.size]? = some (.cells #[.string ⟨#[]⟩, .bool false] 122 (0, 0))
  b2 : W1.heap[w.heap.size + 1]? = some (.cells #[.int .i64 0, .int .i64 0] 43 (0, 0))
  lt : b < w.heap.size
theorem Sx.next {b : Nat} {w W1 W2 : World} (h : Sx b w W1) (k : Wt b W1 W2) : Sx b w W2 :=
  have h1 := (Array.getElem?_eq_some_iff.1 h.b1).1
  have h2 := (Array.getElem?_eq_some_iff.1 h.b2).1
  ⟨h.wt.trans k, (k.block _ h1 (by have := h.lt; omega)).trans h.b1, (k.block _ h2 (by have := h.lt; omega)).trans h.b2, h.lt⟩
theorem Sx.drew {b : Nat} {w W1 : World} (h : Sx b w W1) : Sx b w W1.drew := ⟨h.wt.drew, h.b1, h.b2, h.lt⟩
theorem Sx.set {b : Nat} {w W1 : World} (h : Sx b w W1) {g i : Nat} (x : Value) (hg : w.heap.size + 1 < g) : Sx b w (W1.setCell ⟨g, i, none⟩ x) := by
  have h1 : w.heap.size ≠ g := by omega
  have h2 : w.heap.size + 1 ≠ g := by omega
  exact ⟨h.wt.new (by omega) _, (Below.heap_setCell _ _ _ _ h1).trans h.b1, (Below.heap_setCell _ _ _ _ h2).trans h.b2, h.lt⟩
theorem Sx.box {b : Nat} {w W : World} (h : Sx b w W) {s : ByteArray} {a d : Nat} (hc : Cr b s a d W) (x y : Value) : ∃ W' g, W' = W.alloc (.cells #[x, y] 43) ∧ g = W.heap.size ∧ Sx b w W' ∧ Cr b s a d W' ∧ W'.heap[g]? = some (.cells #[x, y] 43 (0, 0)) ∧ w.heap.size + 1 < g :=
  ⟨_, _, rfl, rfl, h.next (Wt.below ((Below.refl _ _).alloc (Nat.le_refl _) _)), hc.alloc _, heap_alloc_new _ _, (Array.getElem?_eq_some_iff.1 h.b2).1⟩

set_option maxRecDepth 20000 in
set_option maxHeartbeats 2000000 in
theorem side_any (b : Nat) (s : ByteArray) (hs : s.size ≤ 1000000) (a d : Nat) (ha : a ≤ s.size) (w : World) (h : Cr b s a d w) :
    Calls Tryz.prog 134 #[.pointer (some ⟨b, 0, none⟩)] w (SdPost b s d (sideR s a) w) := by
  have hk := skip_le ha
  obtain ⟨W1, hW1, hw1, hc1, hbx1, hbx2, hlt1⟩ : ∃ W1, W1 = (w.alloc (.cells #[.string ⟨#[]⟩, .bool false] 122)).alloc (.cells #[.int .i64 0, .int .i64 0] 43) ∧ Wt b w W1 ∧ Cr b s a d W1 ∧ W1.heap[w.heap.size]? = some (.cells #[.string ⟨#[]⟩, .bool false] 122 (0, 0)) ∧ W1.heap[w.heap.size + 1]? = some (.cells #[.int .i64 0, .int .i64 0] 43 (0, 0)) ∧ b < w.heap.size :=
    ⟨_, rfl, Wt.below (((Below.refl _ _).alloc (Nat.le_refl _) _).alloc (by simp) _), (h.alloc _).alloc _, (Below.heap_alloc _ _ _ (by simp)).trans (heap_alloc_new _ _), heap_alloc_new', h.lt⟩
  have HR : Hid (Calls Tryz.prog 33 #[.pointer (some ⟨b, 0, none⟩)] W1 fun e w' => e = .returned (.string (s.extract (skipP (bl s) a) s.size)) ∧ Cr b s (skipP (bl s) a) d w' ∧ Wt b W1 w') := rest_any b s hs a d ha W1 hc1
  unfold sideR
  generalize skipP (bl s) a = q at HR hk ⊢
  have HP : Hid (∀ W, Calls Tryz.prog 103 #[.string (s.extract q s.size), .string ⟨#[34]⟩] W fun e w' => e = .returned (.bool (Lib.hasPrefix (bl (s.extract q s.size)) [34])) ∧ W = w') := fun W => (Tryz.strings_HasPrefix _ ⟨#[34]⟩ W).mono fun e w' h => ⟨h.1, h.2.symm⟩
  have HK : Hid (Sx b w W1) := ⟨hw1, hbx1, hbx2, hlt1⟩
  clear hw1 hc1 hbx1 hbx2 hlt1 h
  by_cases h34 : (bl s)[q]? = some 34
  · rw [if_pos h34]
    have HP2 : Hid (∀ W, Calls Tryz.prog 103 #[.string (s.extract q s.size), .string ⟨#[34]⟩] W fun e w' => e = .returned (.bool true) ∧ W = w') := fun W => by have := HP.out W; rw [pre_at, decide_eq_true h34] at this; exact this
    have hql := at_lt h34
    have HE : Hid (∀ W, Cr b s q d W → Calls Tryz.prog 133 #[.pointer (some ⟨b, 0, none⟩), .string ⟨#[34]⟩] W (EnPost b s d (enclR s q 34) W)) := fun W hc => enclosed_any b s 34 hs q d hql W hc
    have HE2 : Hid (∀ W, Cr b s q d W → Calls Tryz.prog 133 #[.pointer (some ⟨b, 0, none⟩), .string ⟨#[34]⟩] W fun e w' => ∃ (t : ByteArray) (y n : Int) (a' : Nat), e = .returned (.tuple #[.string t, fV y n]) ∧ Wt b W w' ∧ Cr b s a' d w' ∧ ∀ w2, Cr b s a' d w2 → Wt b w w2 → SdPost b s d ((enclR s q 34).map (fun t => ⟨t, true⟩)) w (.returned (.tuple #[.agg #[.string t, .bool true], fV y n])) w2) := fun W hc => (HE.out W hc).mono fun e w' hx => by
      cases hr : enclR s q 34 with
      | ok p t => rw [hr] at hx; exact ⟨t, 0, 0, p, hx.2.1, hx.1, hx.2.2, fun w2 h1 h2 => ⟨h2, rfl, h1⟩⟩
      | bad y n => rw [hr] at hx; obtain ⟨h1, h2, a', h3⟩ := hx; exact ⟨E0, y, n, a', h2, h1, h3, fun w2 h1 h2 => ⟨h2, ⟨⟨E0, true⟩, rfl⟩, a', h1⟩⟩
    clear HP h34 HE
    go_enter Tryz.func134, Tryz.ntmps134
    go_wp2_with fail
    rw [← hW1]
    clear hW1
    refine HR.out.mono ?_
    rintro e w2 ⟨rfl, hc2, hw2⟩
    go_wp2_with fail
    refine (HP2.out _).mono ?_
    rintro e w3 ⟨rfl, rfl⟩
    go_wp2_with fail
    refine (HE2.out _ hc2).mono ?_
    rintro e w3 ⟨t, y, n, a', rfl, hw3, hc3, hdone⟩
    have HD : Hid (∀ w2, Cr b s a' d w2 → Wt b w w2 → SdPost b s d ((enclR s q 34).map (fun t => ⟨t, true⟩)) w (.returned (.tuple #[.agg #[.string t, .bool true], fV y n])) w2) := hdone
    obtain ⟨W4, g, hW4, hg, hs4, hc4, hbx, hgl⟩ := ((HK.out.next hw2).next hw3).box hc3 (.int .i64 y) (.int .i64 n)
    have H4 : Hid (Sx b w W4 ∧ Cr b s a' d W4) := ⟨hs4, hc4⟩
    go_upto_region 3 with fail
    rw [← hW4, ← hg]
    clear hW4 hg hs4 hc4 hw2 hw3 hc2 hc3 hdone
    have x0 := cellb hbx 0 rfl
    have x1 := cellb hbx 1 rfl
    have g0 := cellb H4.out.1.b1 0 rfl
    have g1 := cellb H4.out.1.b1 1 rfl
    have g2 := cellb H4.out.1.b2 0 rfl
    have g3 := cellb H4.out.1.b2 1 rfl
    have gf0 : ∀ i, W4.frozen? ⟨w.heap.size, i, none⟩ = false := fun i => by simp [World.frozen?, H4.out.1.b1]
    have gf1 : ∀ i, W4.frozen? ⟨w.heap.size + 1, i, none⟩ = false := fun i => by simp [World.frozen?, H4.out.1.b2]
    clear hbx
    go_wp2_with fail
    go_region_with (fail)
    all_goals
      go_wp2
      refine bodyPost_ret (v := .tuple #[.agg #[.string t, .bool true], fV y n]) (by simp [results, Tryz.results134, go_sem, g0, g1, g2, g3]; try rfl) rfl ?_
      first | exact HD.out _ (fin4 H4.out.2 H4.out.1.wt H4.out.1.lt _ _ _ _).1.drew (fin4 H4.out.2 H4.out.1.wt H4.out.1.lt _ _ _ _).2.drew | exact HD.out _ (fin4 H4.out.2.drew H4.out.1.wt.drew H4.out.1.lt _ _ _ _).1 (fin4 H4.out.2.drew H4.out.1.wt.drew H4.out.1.lt _ _ _ _).2
  · rw [if_neg h34]
    have HP2 : Hid (∀ W, Calls Tryz.prog 103 #[.string (s.extract q s.size), .string ⟨#[34]⟩] W fun e w' => e = .returned (.bool false) ∧ W = w') := fun W => by have := HP.out W; rw [pre_at, decide_eq_false h34] at this; exact this
    have HU : Hid (∀ W, Cr b s q d W → Calls Tryz.prog 156 #[.pointer (some ⟨b, 0, none⟩), .string ⟨#[32, 9, 61, 33, 60, 62, 38, 124, 40, 41]⟩] W (UpPost b s q d (untilP (bl s) endsB q) W)) := fun W hc => upTo_any b s ⟨#[32, 9, 61, 33, 60, 62, 38, 124, 40, 41]⟩ hs q d hk.2 W hc
    have hul := until_le (s := s) (st := endsB) _ q (Nat.le_refl _) hk.2
    unfold bareR
    generalize untilP (bl s) endsB q = r at HU hul ⊢
    obtain ⟨ok, e⟩ := r
    dsimp only at hul ⊢
    clear HP h34
    cases ok
    · simp only [Bool.false_eq_true, if_false]
      have HD : Hid (∀ w2 a', Cr b s a' d w2 → Wt b w w2 → SdPost b s d (.bad 13 e) w (.returned (.tuple #[.agg #[.string E0, .bool false], fV 13 (e : Int)])) w2) := fun w2 a' h1 h2 => ⟨h2, ⟨⟨E0, false⟩, rfl⟩, a', h1⟩
      go_enter Tryz.func134, Tryz.ntmps134
      go_wp2_with fail
      rw [← hW1]
      clear hW1
      refine HR.out.mono ?_
      rintro e1 w2 ⟨rfl, hc2, hw2⟩
      go_wp2_with fail
      refine (HP2.out _).mono ?_
      rintro e1 w3 ⟨rfl, rfl⟩
      go_wp2_with fail
      refine (HU.out _ hc2).mono ?_
      rintro e1 w3 ⟨hw3, rfl, a', hc3⟩
      obtain ⟨W4, g, hW4, hg, hs4, hc4, hbx, hgl⟩ := ((HK.out.next hw2).next hw3).box hc3 (.int .i64 13) (.int .i64 (e : Int))
      have H4 : Hid (Sx b w W4 ∧ Cr b s a' d W4) := ⟨hs4, hc4⟩
      go_upto_region 5 with fail
      rw [← hW4, ← hg]
      clear hW4 hg hs4 hc4 hw2 hw3 hc2 hc3
      have x0 := cellb hbx 0 rfl
      have x1 := cellb hbx 1 rfl
      have g0 := cellb H4.out.1.b1 0 rfl
      have g1 := cellb H4.out.1.b1 1 rfl
      have g2 := cellb H4.out.1.b2 0 rfl
      have g3 := cellb H4.out.1.b2 1 rfl
      have gf0 : ∀ i, W4.frozen? ⟨w.heap.size, i, none⟩ = false := fun i => by simp [World.frozen?, H4.out.1.b1]
      have gf1 : ∀ i, W4.frozen? ⟨w.heap.size + 1, i, none⟩ = false := fun i => by simp [World.frozen?, H4.out.1.b2]
      clear hbx
      go_wp2_with fail
      go_region_with (fail)
      all_goals
        go_wp2
        refine bodyPost_ret (v := .tuple #[.agg #[.string E0, .bool false], fV 13 (e : Int)]) (by simp [results, Tryz.results134, go_sem, g0, g1, g2, g3]; try rfl) rfl ?_
        first | exact HD.out _ _ (fin4 H4.out.2 H4.out.1.wt H4.out.1.lt _ _ _ _).1.drew (fin4 H4.out.2 H4.out.1.wt H4.out.1.lt _ _ _ _).2.drew | exact HD.out _ _ (fin4 H4.out.2.drew H4.out.1.wt.drew H4.out.1.lt _ _ _ _).1 (fin4 H4.out.2.drew H4.out.1.wt.drew H4.out.1.lt _ _ _ _).2
    · simp only [if_true]
      by_cases hz : e = q
      · rw [if_pos hz]
        have HD : Hid (∀ w2 a', Cr b s a' d w2 → Wt b w w2 → SdPost b s d (.bad 13 q) w (.returned (.tuple #[.agg #[.string E0, .bool false], fV 13 (q : Int)])) w2) := fun w2 a' h1 h2 => ⟨h2, ⟨⟨E0, false⟩, rfl⟩, a', h1⟩
        have hem : s.extract q e = E0 := by
          apply bl_inj
          rw [bl_extract, hz, List.drop_take, Nat.sub_self, List.take_zero]; rfl
        have HWr : Hid (∀ W, Calls Tryz.prog 34 #[.int .i64 (q : Int)] W fun e w' => e = .returned (fV 13 (q : Int)) ∧ Below W.heap.size W w') := fun W => wrong_any _ W
        unfold UpPost at HU
        simp only [if_true] at HU
        rw [hem] at HU
        have HZ : Hid (e = q) := hz
        clear hz hem
        go_enter Tryz.func134, Tryz.ntmps134
        go_wp2_with fail
        rw [← hW1]
        clear hW1
        refine HR.out.mono ?_
        rintro e1 w2 ⟨rfl, hc2, hw2⟩
        go_wp2_with fail
        refine (HP2.out _).mono ?_
        rintro e1 w3 ⟨rfl, rfl⟩
        go_wp2_with fail
        refine (HU.out _ hc2).mono ?_
        rintro e1 w3 ⟨hw3, rfl, hc3⟩
        rw [HZ.out] at hc3
        obtain ⟨W4, g, hW4, hg, hs4, hc4, hbx, hgl⟩ := ((HK.out.next hw2).next hw3).box hc3 (.int .i64 0) (.int .i64 0)
        have H4 : Hid (Sx b w W4 ∧ Cr b s q d W4) := ⟨hs4, hc4⟩
        go_upto_region 5 with fail
        rw [← hW4, ← hg]
        clear hW4 hg hs4 hc4 hw2 hw3 hc2 hc3
        have k1 := H4.out.2.c1
        have x0 := cellb hbx 0 rfl
        have x1 := cellb hbx 1 rfl
        have HBX : Hid (W4.heap[g]? = some (.cells #[.int .i64 0, .int .i64 0] 43 (0, 0))) := hbx
        clear hbx
        go_wp2_with fail
        refine (HWr.out _).mono ?_
        rintro e2 w5 ⟨rfl, hb5⟩
        obtain ⟨W6, hW6, hs6, hc6, hb6, y0, y1, yf⟩ : ∃ W6, W6 = (w5.setCell ⟨g, 0, none⟩ (.int .i64 13)).setCell ⟨g, 1, none⟩ (.int .i64 (q : Int)) ∧ Sx b w W6 ∧ Cr b s q d W6 ∧ W6.heap[g]? = some (.cells #[.int .i64 13, .int .i64 (q : Int)] 43 (0, 0)) ∧ w5.cell? ⟨g, 0, none⟩ = some (.int .i64 0) ∧ w5.cell? ⟨g, 1, none⟩ = some (.int .i64 0) ∧ ∀ i, w5.frozen? ⟨g, i, none⟩ = false := by
          have h5 := (hb5.block g (Array.getElem?_eq_some_iff.1 HBX.out).1).trans HBX.out
          have hbg : b ≠ g := by have := H4.out.1.lt; omega
          exact ⟨_, rfl, ((H4.out.1.next (Wt.below hb5)).set _ hgl).set _ hgl, ((Cr.on hb5 H4.out.2).set _ hbg).set _ hbg, heap_setb (heap_setb h5 _) _, cellb h5 0 rfl, cellb h5 1 rfl, fun i => by simp [World.frozen?, h5]⟩
        have H6 : Hid (Sx b w W6 ∧ Cr b s q d W6) := ⟨hs6, hc6⟩
        clear hb5 x0 x1 k1 H4 HBX hs6 hc6
        go_upto_region 7 with fail
        rw [← hW6]
        clear hW6 y0 y1 yf
        have x0 := cellb hb6 0 rfl
        have x1 := cellb hb6 1 rfl
        have g0 := cellb H6.out.1.b1 0 rfl
        have g1 := cellb H6.out.1.b1 1 rfl
        have g2 := cellb H6.out.1.b2 0 rfl
        have g3 := cellb H6.out.1.b2 1 rfl
        have gf0 : ∀ i, W6.frozen? ⟨w.heap.size, i, none⟩ = false := fun i => by simp [World.frozen?, H6.out.1.b1]
        have gf1 : ∀ i, W6.frozen? ⟨w.heap.size + 1, i, none⟩ = false := fun i => by simp [World.frozen?, H6.out.1.b2]
        clear hb6
        go_wp2_with fail
        go_region_with (fail)
        all_goals
          go_wp2
          refine bodyPost_ret (v := .tuple #[.agg #[.string E0, .bool false], fV 13 (q : Int)]) (by simp [results, Tryz.results134, go_sem, g0, g1, g2, g3]; try rfl) rfl ?_
          first | exact HD.out _ _ (fin4 H6.out.2 H6.out.1.wt H6.out.1.lt _ _ _ _).1.drew (fin4 H6.out.2 H6.out.1.wt H6.out.1.lt _ _ _ _).2.drew | exact HD.out _ _ (fin4 H6.out.2.drew H6.out.1.wt.drew H6.out.1.lt _ _ _ _).1 (fin4 H6.out.2.drew H6.out.1.wt.drew H6.out.1.lt _ _ _ _).2
      · rw [if_neg hz]
        have HD : Hid (∀ w2, Cr b s e d w2 → Wt b w w2 → SdPost b s d (.ok e ⟨s.extract q e, false⟩) w (.returned (.tuple #[.agg #[.string (s.extract q e), .bool false], fV 0 0])) w2) := fun w2 h1 h2 => ⟨h2, rfl, h1⟩
        have hne : ¬ (s.extract q e).toList = [] := by
          rw [Lib.toList_data]
          intro h0
          have h1 : (bl (s.extract q e)).length = 0 := by unfold bl; rw [h0]; rfl
          rw [bl_extract, List.length_drop, List.length_take, bl_length] at h1
          omega
        have hne2 : (s.extract q e).toList.isEmpty = false := by simpa using hne
        have hne3 : ((s.extract q e).toList == []) = false := by simpa using hne
        unfold UpPost at HU
        simp only [if_true] at HU
        obtain ⟨u, hu⟩ : ∃ u, u = s.extract q e := ⟨_, rfl⟩
        rw [← hu] at HU HD hne hne2 hne3 ⊢
        clear hu hz
        go_enter Tryz.func134, Tryz.ntmps134
        go_wp2_with fail
        rw [← hW1]
        clear hW1
        refine HR.out.mono ?_
        rintro e1 w2 ⟨rfl, hc2, hw2⟩
        go_wp2_with fail
        refine (HP2.out _).mono ?_
        rintro e1 w3 ⟨rfl, rfl⟩
        go_wp2_with fail
        refine (HU.out _ hc2).mono ?_
        rintro e1 w3 ⟨hw3, rfl, hc3⟩
        obtain ⟨W4, g, hW4, hg, hs4, hc4, hbx, hgl⟩ := ((HK.out.next hw2).next hw3).box hc3 (.int .i64 0) (.int .i64 0)
        have H4 : Hid (Sx b w W4 ∧ Cr b s e d W4) := ⟨hs4, hc4⟩
        go_upto_region 5 with fail
        rw [← hW4, ← hg]
        clear hW4 hg hs4 hc4 hw2 hw3 hc2 hc3
        have x0 := cellb hbx 0 rfl
        have x1 := cellb hbx 1 rfl
        have g0 := cellb H4.out.1.b1 0 rfl
        have g1 := cellb H4.out.1.b1 1 rfl
        have g2 := cellb H4.out.1.b2 0 rfl
        have g3 := cellb H4.out.1.b2 1 rfl
        have gf0 : ∀ i, W4.frozen? ⟨w.heap.size, i, none⟩ = false := fun i => by simp [World.frozen?, H4.out.1.b1]
        have gf1 : ∀ i, W4.frozen? ⟨w.heap.size + 1, i, none⟩ = false := fun i => by simp [World.frozen?, H4.out.1.b2]
        clear hbx
        go_wp2_with fail
        go_region_with (fail)
        all_goals
          go_wp2
          refine bodyPost_ret (v := .tuple #[.agg #[.string u, .bool false], fV 0 0]) (by simp [results, Tryz.results134, go_sem, g0, g1, g2, g3]; try rfl) rfl ?_
          first | exact HD.out _ (fin4 H4.out.2 H4.out.1.wt H4.out.1.lt _ _ _ _).1.drew (fin4 H4.out.2 H4.out.1.wt H4.out.1.lt _ _ _ _).2.drew | exact HD.out _ (fin4 H4.out.2.drew H4.out.1.wt.drew H4.out.1.lt _ _ _ _).1 (fin4 H4.out.2.drew H4.out.1.wt.drew H4.out.1.lt _ _ _ _).2
end Go.Proofs.YtkelmhpoplbacaaGreatDoor.Cd
namespace Go.Proofs.YtkelmhpoplbacaaGreatDoor.Cd
open Go.RowKit Go.Shelf Ex

/-- The two tables of the package lie as they were laid. -/
structure Tb (w : World) : Prop where
  words : ∀ i (h : i < 6), w.cell? ⟨2, i, none⟩ = some (.string (wordL[i]'h))
  signs : ∀ i (h : i < 6), w.cell? ⟨1, i, none⟩ = some (.string (signL[i]'h))
  low : 2 < w.heap.size ∧ 1 < w.heap.size
theorem Tb.wt {b : Nat} {w w' : World} (h : Tb w) (k : Wt b w w') (hb : 2 < b ∧ 1 < b) : Tb w' := by
  have e1 := k.block 2 h.low.1 (by omega)
  have e2 := k.block 1 h.low.2 (by omega)
  refine ⟨fun i hi => ?_, fun i hi => ?_, by have := h.low; have := k.size; omega⟩
  · rw [← h.words i hi]; simp only [World.cell?, e1]
  · rw [← h.signs i hi]; simp only [World.cell?, e2]
theorem Tb.below {B : Nat} {w w' : World} (h : Tb w) (k : Below B w w') (hb : 2 < B ∧ 1 < B) : Tb w' := by
  have e1 := k.block 2 hb.1
  have e2 := k.block 1 hb.2
  refine ⟨fun i hi => ?_, fun i hi => ?_, by have := h.low; have := k.size; omega⟩
  · rw [← h.words i hi]; simp only [World.cell?, e1]
  · rw [← h.signs i hi]; simp only [World.cell?, e2]
abbrev wordsV : Value := .agg #[.string wDefined, .string wEmpty, .string wMake, .string wTarget, .string wCommands, .string wExists]
abbrev signsV : Value := .agg #[.string gEq, .string gNe, .string gLe, .string gGe, .string gLt, .string gGt]
theorem words_at (i : Nat) (h : i < 6) (W : World) : (Instr.index 218 wordsV (.int .i64 (i : Int))).run Tryz.prog W = .ok (.string (wordL[i]'h)) W := by
  match i, h with
  | 0, _ => simp [Instr.index, run_underlying Tryz.underlying218, Result.andThen, go_sem]; rfl
  | 1, _ => simp [Instr.index, run_underlying Tryz.underlying218, Result.andThen, go_sem]; rfl
  | 2, _ => simp [Instr.index, run_underlying Tryz.underlying218, Result.andThen, go_sem]; rfl
  | 3, _ => simp [Instr.index, run_underlying Tryz.underlying218, Result.andThen, go_sem]; rfl
  | 4, _ => simp [Instr.index, run_underlying Tryz.underlying218, Result.andThen, go_sem]; rfl
  | 5, _ => simp [Instr.index, run_underlying Tryz.underlying218, Result.andThen, go_sem]; rfl
theorem signs_at (i : Nat) (h : i < 6) (W : World) : (Instr.index 218 signsV (.int .i64 (i : Int))).run Tryz.prog W = .ok (.string (signL[i]'h)) W := by
  match i, h with
  | 0, _ => simp [Instr.index, run_underlying Tryz.underlying218, Result.andThen, go_sem]; rfl
  | 1, _ => simp [Instr.index, run_underlying Tryz.underlying218, Result.andThen, go_sem]; rfl
  | 2, _ => simp [Instr.index, run_underlying Tryz.underlying218, Result.andThen, go_sem]; rfl
  | 3, _ => simp [Instr.index, run_underlying Tryz.underlying218, Result.andThen, go_sem]; rfl
  | 4, _ => simp [Instr.index, run_underlying Tryz.underlying218, Result.andThen, go_sem]; rfl
  | 5, _ => simp [Instr.index, run_underlying Tryz.underlying218, Result.andThen, go_sem]; rfl
theorem cutx {s x : ByteArray} {a : Nat} (h : Lib.hasPrefix (bl (s.extract a s.size)) (bl x) = true) : a + x.size ≤ s.size ∨ x.size = 0 := by
  unfold Lib.hasPrefix at h
  rw [List.isPrefixOf_iff_prefix] at h
  have := h.length_le
  rw [bl_length, bl_length, ext_sz] at this
  omega
theorem cuty {s x : ByteArray} {a : Nat} (h : Lib.hasPrefix (bl (s.extract a s.size)) (bl x) = true) : (⟨(Lib.trimPrefix (bl (s.extract a s.size)) (bl x)).toArray⟩ : ByteArray) = s.extract (a + x.size) s.size := by
  apply bl_inj
  have e : bl (⟨(Lib.trimPrefix (bl (s.extract a s.size)) (bl x)).toArray⟩ : ByteArray) = Lib.trimPrefix (bl (s.extract a s.size)) (bl x) := bl_ba _
  rw [e]
  unfold Lib.trimPrefix
  rw [if_pos h, bl_extract, bl_extract, List.take_of_length_le (by rw [bl_length]; exact Nat.le_refl _), List.drop_drop, bl_length]
theorem wordAt_no1 {s x : ByteArray} {a : Nat} (h : Lib.hasPrefix (bl (s.extract a s.size)) (bl x) = false) : wordAt (bl s) a x = none := by
  rw [pre_next] at h
  unfold wordAt
  rw [if_neg (by rw [h]; simp)]
theorem wordAt_no2 {s x : ByteArray} {a : Nat} (h : ¬ (bl s)[skipP (bl s) (a + x.size)]? = some 40) : wordAt (bl s) a x = none := by
  unfold wordAt
  rw [if_neg (fun e => h e.2)]
theorem wordAt_yes {s x : ByteArray} {a : Nat} (h1 : Lib.hasPrefix (bl (s.extract a s.size)) (bl x) = true) (h : (bl s)[skipP (bl s) (a + x.size)]? = some 40) : wordAt (bl s) a x = some (skipP (bl s) (a + x.size)) := by
  rw [pre_next] at h1
  unfold wordAt
  rw [if_pos ⟨h1, h⟩]
theorem words_sz : ∀ x ∈ wordL, 0 < x.size ∧ x.size ≤ 100 := by decide
def WoPost (b : Nat) (s : ByteArray) (a d : Nat) (r : Option (ByteArray × Nat)) (w : World) (e : Ending) (w' : World) : Prop :=
  Wt b w w' ∧ match r with
  | some (x, k) => e = .returned (.string x) ∧ Cr b s k d w'
  | none => e = .returned (.string E0) ∧ Cr b s a d w'
theorem wordR_drop (T : List UInt8) (a i : Nat) (h : i < 6) : wordR T a (wordL.drop i) = (match wordAt T a (wordL[i]'h) with | some k => some (wordL[i]'h, k) | none => wordR T a (wordL.drop (i + 1))) := by
  rw [List.drop_eq_getElem_cons (show i < wordL.length from h)]; rfl
set_option maxRecDepth 20000 in
set_option maxHeartbeats 2000000 in
theorem word_any (b : Nat) (s : ByteArray) (hs : s.size ≤ 1000000) (a d : Nat) (ha : a ≤ s.size) (w : World) (h : Cr b s a d w) (ht : Tb w) :
    Calls Tryz.prog 132 #[.pointer (some ⟨b, 0, none⟩)] w (WoPost b s a d (wordR (bl s) a wordL) w) := by
  have t0 : w.cell? ⟨2, 0, none⟩ = some (.string wDefined) := ht.words 0 (by omega)
  have t1 : w.cell? ⟨2, 1, none⟩ = some (.string wEmpty) := ht.words 1 (by omega)
  have t2 : w.cell? ⟨2, 2, none⟩ = some (.string wMake) := ht.words 2 (by omega)
  have t3 : w.cell? ⟨2, 3, none⟩ = some (.string wTarget) := ht.words 3 (by omega)
  have t4 : w.cell? ⟨2, 4, none⟩ = some (.string wCommands) := ht.words 4 (by omega)
  have t5 : w.cell? ⟨2, 5, none⟩ = some (.string wExists) := ht.words 5 (by omega)
  have H0 : Hid (Cr b s a d w) := h
  obtain ⟨z, hz⟩ : ∃ z, z = wordR (bl s) a wordL := ⟨_, rfl⟩
  rw [← hz]
  have HZ : Hid (wordR (bl s) a (wordL.drop 0) = z) := hz.symm
  clear h hz ht
  go_enter Tryz.func132, Tryz.ntmps132
  go_wp2_with fail
  clear t0 t1 t2 t3 t4 t5
  go_loopw [8] (fun vi wr => ∃ i : Nat, vi = .int .i64 (i : Int) ∧ i ≤ 6 ∧ Hid (Cr b s a d wr ∧ Wt b w wr ∧ wordR (bl s) a (wordL.drop i) = z)) (fun vi _ => 6 - (intOf vi).toNat)
  case atStart => exact ⟨0, rfl, by omega, H0.out, Wt.refl _ _, HZ.out⟩
  case round =>
    obtain ⟨i, rfl, hi, HF⟩ := hrel
    clear H0 HZ
    have c0 := HF.out.1.c0
    have c1 := HF.out.1.c1
    by_cases hlt : i < 6
    · have hli : (i : Int) < 6 := by omega
      have hix := words_at i hlt
      have hwd := wordR_drop (bl s) a i hlt
      obtain ⟨x, hx⟩ : ∃ x, x = wordL[i]'hlt := ⟨_, rfl⟩
      rw [← hx] at hix hwd
      have hxz : 0 < x.size ∧ x.size ≤ 100 := words_sz x (by rw [hx]; exact List.getElem_mem _)
      have hsl := slf s a ha
      obtain ⟨v, hv⟩ : ∃ v, v = s.extract a s.size := ⟨_, rfl⟩
      have HC0 : ∀ W, Calls Tryz.prog 118 #[.string v, .string x] W fun e w' => e = .returned (.tuple #[.string ⟨(Lib.trimPrefix (bl v) (bl x)).toArray⟩, .bool (Lib.hasPrefix (bl v) (bl x))]) ∧ W = w' := fun W => (Tryz.strings_CutPrefix v x W).mono fun e w' h => ⟨h.1, h.2.symm⟩
      rw [← hv] at hsl
      clear hx
      cases hp : Lib.hasPrefix (bl v) (bl x)
      · rw [hp] at HC0
        have HN : Hid (wordR (bl s) a (wordL.drop (i + 1)) = z) := by
          unfold Hid
          rw [← HF.out.2.2, hwd, wordAt_no1 (by rw [← hv]; exact hp)]
        obtain ⟨u, hu⟩ : ∃ u, u = (⟨(Lib.trimPrefix (bl v) (bl x)).toArray⟩ : ByteArray) := ⟨_, rfl⟩
        rw [← hu] at HC0
        have HC : Hid (∀ W, Calls Tryz.prog 118 #[.string v, .string x] W fun e w' => e = .returned (.tuple #[.string u, .bool false]) ∧ W = w') := HC0
        have HT : Hid (∀ W, Calls Tryz.prog 55 #[.string u, .string ⟨#[32, 9]⟩] W fun e w' => (∃ u2, e = .returned (.string u2)) ∧ Below W.heap.size W w') := fun W => (trimLeft_any u W).mono fun e w' h => ⟨⟨_, h.1⟩, h.2⟩
        clear hwd hp hu hv HC0
        go_wp2_with fail
        go_region_held3 (fun W => W.cell? ⟨b, 0, none⟩ = some (.string s) ∧ W.cell? ⟨b, 1, none⟩ = some (.int .i64 (a : Int))) (first | exact ⟨HF.out.1.c0, HF.out.1.c1⟩ | exact ⟨HF.out.1.drew.c0, HF.out.1.drew.c1⟩) (first | (go_at_call 118; refine (HC.out _).mono ?_; rintro e w' ⟨rfl, rfl⟩))
        go_wp2_with fail
        refine (HT.out _).mono ?_
        rintro e w2 ⟨⟨u2, rfl⟩, hb2⟩
        have H2 : Hid (Cr b s a d w2 ∧ Wt b w w2) := ⟨Cr.on hb2 HF.out.1, HF.out.2.1.drew.then hb2⟩
        clear hb2
        go_wp2_with fail
        go_roundw
        case rel => exact ⟨i + 1, by go_num, by omega, H2.out.1, H2.out.2, HN.out⟩
        case measure => simp [intOf]; omega
      · rw [hp] at HC0
        have hcx := cutx (s := s) (x := x) (a := a) (by rw [← hv]; exact hp)
        have hcy := cuty (s := s) (x := x) (a := a) (by rw [← hv]; exact hp)
        have hal : a + x.size ≤ s.size := by omega
        have hkl := skip_le hal
        rw [← hv] at hcy
        rw [hcy] at HC0
        have hte := trim_ext s (a + x.size)
        obtain ⟨k, hk⟩ : ∃ k, k = skipP (bl s) (a + x.size) := ⟨_, rfl⟩
        have hpa := pre_at (s := s) (q := k) 40
        rw [← hk] at hte hkl
        have HT0 : ∀ W, Calls Tryz.prog 55 #[.string (s.extract (a + x.size) s.size), .string ⟨#[32, 9]⟩] W fun e w' => e = .returned (.string (s.extract k s.size)) ∧ Below W.heap.size W w' := fun W => by
          have := trimLeft_any (s.extract (a + x.size) s.size) W
          rw [hte] at this; exact this
        have HP0 : ∀ W, Calls Tryz.prog 103 #[.string (s.extract k s.size), .string ⟨#[40]⟩] W fun e w' => e = .returned (.bool (decide ((bl s)[k]? = some 40))) ∧ W = w' := fun W => by
          rw [← hpa]
          exact (Tryz.strings_HasPrefix _ ⟨#[40]⟩ W).mono fun e w' h => ⟨h.1, h.2.symm⟩
        have hez := ext_sz s k
        obtain ⟨u, hu⟩ : ∃ u, u = s.extract (a + x.size) s.size := ⟨_, rfl⟩
        obtain ⟨u2, hu2⟩ : ∃ u2, u2 = s.extract k s.size := ⟨_, rfl⟩
        rw [← hu] at HC0 HT0
        rw [← hu2] at HT0 HP0 hez
        have HC : Hid (∀ W, Calls Tryz.prog 118 #[.string v, .string x] W fun e w' => e = .returned (.tuple #[.string u, .bool true]) ∧ W = w') := HC0
        have HT : Hid (∀ W, Calls Tryz.prog 55 #[.string u, .string ⟨#[32, 9]⟩] W fun e w' => e = .returned (.string u2) ∧ Below W.heap.size W w') := HT0
        by_cases h40 : (bl s)[k]? = some 40
        · rw [decide_eq_true h40] at HP0
          have HP : Hid (∀ W, Calls Tryz.prog 103 #[.string u2, .string ⟨#[40]⟩] W fun e w' => e = .returned (.bool true) ∧ W = w') := HP0
          have HE : Hid (z = some (x, k)) := by
            unfold Hid
            rw [← HF.out.2.2, hwd, wordAt_yes (by rw [← hv]; exact hp) (by rw [← hk]; exact h40), ← hk]
          have hki : (s.size : Int) - (u2.size : Int) = (k : Int) := by omega
          have hub : u2.size ≤ 1000000 := by omega
          clear hwd hp hu hu2 hv HC0 HT0 HP0 hcy hcx hk hpa hte hez h40
          go_wp2_with fail
          go_region_held3 (fun W => W.cell? ⟨b, 0, none⟩ = some (.string s) ∧ W.cell? ⟨b, 1, none⟩ = some (.int .i64 (a : Int))) (first | exact ⟨HF.out.1.c0, HF.out.1.c1⟩ | exact ⟨HF.out.1.drew.c0, HF.out.1.drew.c1⟩) (first | (go_at_call 118; refine (HC.out _).mono ?_; rintro e w' ⟨rfl, rfl⟩))
          go_wp2_with fail
          refine (HT.out _).mono ?_
          rintro e w2 ⟨rfl, hb2⟩
          have H2 : Hid (Cr b s a d w2 ∧ Wt b w w2) := ⟨Cr.on hb2 HF.out.1, HF.out.2.1.drew.then hb2⟩
          clear hb2 c0 c1
          have d0 := H2.out.1.c0
          have d1 := H2.out.1.c1
          have df := H2.out.1.fr 1
          go_wp2_with fail
          refine (HP.out _).mono ?_
          rintro e w3 ⟨rfl, rfl⟩
          go_wp2
          go_ret
          unfold WoPost
          rw [HE.out]
          exact ⟨H2.out.2.set _, rfl, H2.out.1.at_ k _ rfl⟩
        · rw [decide_eq_false h40] at HP0
          have HP : Hid (∀ W, Calls Tryz.prog 103 #[.string u2, .string ⟨#[40]⟩] W fun e w' => e = .returned (.bool false) ∧ W = w') := HP0
          have HN : Hid (wordR (bl s) a (wordL.drop (i + 1)) = z) := by
            unfold Hid
            rw [← HF.out.2.2, hwd, wordAt_no2 (by rw [← hk]; exact h40)]
          clear hwd hp hu hu2 hv HC0 HT0 HP0 hcy hcx hk hpa hte hez h40
          go_wp2_with fail
          go_region_held3 (fun W => W.cell? ⟨b, 0, none⟩ = some (.string s) ∧ W.cell? ⟨b, 1, none⟩ = some (.int .i64 (a : Int))) (first | exact ⟨HF.out.1.c0, HF.out.1.c1⟩ | exact ⟨HF.out.1.drew.c0, HF.out.1.drew.c1⟩) (first | (go_at_call 118; refine (HC.out _).mono ?_; rintro e w' ⟨rfl, rfl⟩))
          go_wp2_with fail
          refine (HT.out _).mono ?_
          rintro e w2 ⟨rfl, hb2⟩
          have H2 : Hid (Cr b s a d w2 ∧ Wt b w w2) := ⟨Cr.on hb2 HF.out.1, HF.out.2.1.drew.then hb2⟩
          clear hb2 c0 c1
          go_wp2_with fail
          refine (HP.out _).mono ?_
          rintro e w3 ⟨rfl, rfl⟩
          go_wp2_with fail
          go_roundw
          case rel => exact ⟨i + 1, by go_num, by omega, H2.out.1, H2.out.2, HN.out⟩
          case measure => simp [intOf]; omega
    · have hli : ¬ (i : Int) < 6 := by omega
      have HE : Hid (z = none) := by
        unfold Hid
        rw [← HF.out.2.2, List.drop_of_length_le (by show 6 ≤ i; omega)]; rfl
      go_wp2
      go_ret
      unfold WoPost
      rw [HE.out]
      exact ⟨HF.out.2.1, rfl, HF.out.1⟩
end Go.Proofs.YtkelmhpoplbacaaGreatDoor.Cd
