/-
  A condition's parts in memory; what test does.
-/
import Derived.Test.YtkelmhpoplbacaaGreatDoorGA
namespace Go.Proofs.YtkelmhpoplbacaaGreatDoor.Cd
open Go.RowKit Go.Shelf Ex

/-- A slice that reads as a list of parts, its row in a block of P. -/
def PRow (w : World) (P : Nat → Prop) (v : Value) (vs : List Value) : Prop :=
  ∃ a c, v = .slice a vs.length c ∧ ∀ (i : Nat) (x : Value), vs[i]? = some x → ∃ g o cs, a = some ⟨g, o, none⟩ ∧ P g ∧ w.heap[g]? = some (.cells cs 66 (0, 0)) ∧ cs[o + i]? = some x
/-- A part, as it lies in memory; its rows lie in blocks of P. -/
inductive TV (w : World) (P : Nat → Prop) : Value → Tr → Prop
  | some_ {n : Nat} {ps : List Tr} {v : Value} {vs : List Value} : PRow w P v vs → vs.length = ps.length → (∀ (i : Nat) (x : Value) (t : Tr), vs[i]? = some x → ps[i]? = some t → TV w P x t) → TV w P (.iface 112 (.agg #[.int .i64 (n : Int), v])) (.some_ n ps)
  | all_ {n : Nat} {ps : List Tr} {v : Value} {vs : List Value} : PRow w P v vs → vs.length = ps.length → (∀ (i : Nat) (x : Value) (t : Tr), vs[i]? = some x → ps[i]? = some t → TV w P x t) → TV w P (.iface 114 (.agg #[.int .i64 (n : Int), v])) (.all_ n ps)
  | not_ {n : Nat} {p : Tr} {v : Value} : TV w P v p → TV w P (.iface 116 (.agg #[.int .i64 (n : Int), v])) (.not_ n p)
  | look {n : Nat} {x t : ByteArray} : TV w P (.iface 118 (.agg #[.int .i64 (n : Int), .string x, .string t])) (.look n x t)
  | truth {n : Nat} {l : Sd} : TV w P (.iface 124 (.agg #[.int .i64 (n : Int), .string l.t, .bool l.q])) (.truth n l)
  | cmp {n : Nat} {g : ByteArray} {l r : Sd} : TV w P (.iface 127 (.agg #[.int .i64 (n : Int), .string g, .string l.t, .bool l.q, .string r.t, .bool r.q])) (.cmp n g l r)
def TVs (w : World) (P : Nat → Prop) (vs : List Value) (ps : List Tr) : Prop := vs.length = ps.length ∧ ∀ (i : Nat) (x : Value) (t : Tr), vs[i]? = some x → ps[i]? = some t → TV w P x t
/-- What a call has made. -/
def New (w w' : World) (g : Nat) : Prop := w.heap.size ≤ g ∧ g < w'.heap.size
section
variable {b : Nat} {s : ByteArray} {a d : Nat} {w w' w1 : World} {P Q : Nat → Prop}
theorem PRow.kept {v : Value} {vs : List Value} (h : PRow w P v vs) (k : ∀ g, P g → Q g ∧ w'.heap[g]? = w.heap[g]?) : PRow w' Q v vs := by
  obtain ⟨a, c, h1, h2⟩ := h
  refine ⟨a, c, h1, fun i x hx => ?_⟩
  obtain ⟨g, o, cs, e1, e0, e2, e3⟩ := h2 i x hx
  exact ⟨g, o, cs, e1, (k g e0).1, (k g e0).2.trans e2, e3⟩
theorem TV.kept {v : Value} {t : Tr} (h : TV w P v t) (k : ∀ g, P g → Q g ∧ w'.heap[g]? = w.heap[g]?) : TV w' Q v t := by
  induction h with
  | some_ h1 h2 _ ih => exact .some_ (h1.kept k) h2 ih
  | all_ h1 h2 _ ih => exact .all_ (h1.kept k) h2 ih
  | not_ _ ih => exact .not_ ih
  | look => exact .look
  | truth => exact .truth
  | cmp => exact .cmp
theorem TVs.kept {vs : List Value} {ps : List Tr} (h : TVs w P vs ps) (k : ∀ g, P g → Q g ∧ w'.heap[g]? = w.heap[g]?) : TVs w' Q vs ps := ⟨h.1, fun i x t h1 h2 => (h.2 i x t h1 h2).kept k⟩
theorem TVs.snoc {vs : List Value} {ps : List Tr} {v : Value} {t : Tr} (h : TVs w P vs ps) (ht : TV w P v t) : TVs w P (vs ++ [v]) (ps ++ [t]) := by
  refine ⟨by rw [List.length_append, List.length_append, h.1]; rfl, fun i x y h1 h2 => ?_⟩
  by_cases hi : i < vs.length
  · rw [List.getElem?_append_left hi] at h1
    rw [List.getElem?_append_left (by rw [← h.1]; exact hi)] at h2
    exact h.2 i x y h1 h2
  · rw [List.getElem?_append_right (by omega)] at h1
    rw [List.getElem?_append_right (by rw [← h.1]; omega), ← h.1] at h2
    cases hj : i - vs.length with
    | zero => rw [hj] at h1 h2; cases h1; cases h2; exact ht
    | succ j => rw [hj] at h1; cases h1
theorem TV.iface {v : Value} {t : Tr} (h : TV w P v t) : ∃ T x, v = .iface T x := by
  cases h <;> exact ⟨_, _, rfl⟩
theorem prow_of {B : Nat} {v : Value} {vs : List Value} (h : w.ownsRow B 66 1 v vs.length vs) (hP : ∀ g, v.ownBlock = some g → P g) : PRow w P v vs := by
  obtain ⟨hxl, ⟨hv, hn⟩ | ⟨g, cap, cur, hv, hg, hcur, hcap, hcm, hcs, hct⟩⟩ := h
  · exact ⟨none, 0, by rw [hv, hn], fun i x hx => by rw [List.length_eq_zero_iff.1 hn] at hx; cases hx⟩
  · refine ⟨some ⟨g, 0, none⟩, cap, hv, fun i x hx => ⟨g, 0, cur, rfl, hP g (by rw [hv]; rfl), hcur, ?_⟩⟩
    have hi := (List.getElem?_eq_some_iff.1 hx).1
    have h2 : (cur.toList.take (vs.length * 1))[i]? = vs[i]? := by rw [hct]
    rw [List.getElem?_take_of_lt (by omega), hx] at h2
    rw [Nat.zero_add]
    simpa using h2
end
/-- A part, or none. -/
def IfV (v : Value) : Prop := (∃ T x, v = .iface T x) ∨ v = .nilIface
def PartPost (b : Nat) (s : ByteArray) (d : Nat) (r : RR Tr) (W : World) (e : Ending) (w' : World) : Prop :=
  Wt b W w' ∧ match r with
  | .ok p t => ∃ v, e = .returned (.tuple #[v, fV 0 0]) ∧ Cr b s p d w' ∧ TV w' (New W w') v t
  | .bad y n => ∃ v, e = .returned (.tuple #[v, fV y (n : Int)]) ∧ ∃ a', Cr b s a' d w' ∧ IfV v
def SevPost (b : Nat) (s : ByteArray) (d : Nat) (r : RR (List Tr)) (W : World) (e : Ending) (w' : World) : Prop :=
  Wt b W w' ∧ match r with
  | .ok p ts => ∃ v vs, e = .returned (.tuple #[v, fV 0 0]) ∧ Cr b s p d w' ∧ PRow w' (New W w') v vs ∧ TVs w' (New W w') vs ts
  | .bad y n => e = .returned (.tuple #[.slice none 0 0, fV y (n : Int)]) ∧ ∃ a', Cr b s a' d w'
theorem skip_at {s : ByteArray} : ∀ (n a : Nat), s.size - a ≤ n → a ≤ s.size → ∀ (h : skipP (bl s) a < s.size), isBl s[skipP (bl s) a] = false := by
  intro n
  induction n with
  | zero => intro a h1 h2 h; have := (skip_le h2).1; omega
  | succ n ih =>
    intro a h1 h2 h
    by_cases hlt : a < s.size
    · cases hb : isBl s[a]
      · have e := skip_stop hlt hb
        simp only [e]; exact hb
      · have e := skip_go hlt hb
        have h3 : skipP (bl s) (a + 1) < s.size := by rw [← e]; exact h
        have := ih (a + 1) (by omega) (by omega) h3
        simp only [e]; exact this
    · have := (skip_le h2).1; omega
theorem skip_idem {s : ByteArray} {a : Nat} (h : a ≤ s.size) : skipP (bl s) (skipP (bl s) a) = skipP (bl s) a := by
  have hk := skip_le h
  by_cases hlt : skipP (bl s) a < s.size
  · exact skip_stop hlt (skip_at _ a (Nat.le_refl _) h hlt)
  · exact skip_end hlt
theorem next_skip {T : List UInt8} {p p' : Nat} {g : List UInt8} (h : skipP T p' = skipP T p) : nextP T p' g = nextP T p g := by
  unfold nextP; rw [h]
theorem infoP : (Tryz.prog.info? 66).map (fun i => (i.zero, i.size, i.bytes)) = some (some .nilIface, 1, 16) := by kernel_rfl
end Go.Proofs.YtkelmhpoplbacaaGreatDoor.Cd
namespace Go.Proofs.YtkelmhpoplbacaaGreatDoor.Cd
open Go.RowKit Go.Shelf Ex

theorem signR_drop (T : List UInt8) (p i : Nat) (h : i < 6) : signR T p (signL.drop i) = if (nextP T p (bl (signL[i]'h))).1 then some (signL[i]'h, (nextP T p (bl (signL[i]'h))).2) else signR T p (signL.drop (i + 1)) := by
  rw [List.drop_eq_getElem_cons (show i < signL.length from h)]; rfl
theorem ext_le2 (s : ByteArray) (a b : Nat) : (s.extract a b).size ≤ s.size := by rw [← bl_length, ← bl_length, bl_extract, List.length_drop, List.length_take]; omega
theorem signs_sz : ∀ x ∈ signL, 0 < x.size ∧ x.size ≤ 100 := by decide
theorem next_no {T : List UInt8} {p : Nat} {g : List UInt8} (h : (nextP T p g).1 = false) : (nextP T p g).2 = skipP T p := by
  unfold nextP at h ⊢
  split at h
  · cases h
  · rename_i hc; rw [if_neg hc]
theorem some_ne {x : ByteArray} (h : 0 < x.size) : ¬ x.toList = [] ∧ x.toList.isEmpty = false ∧ (x.toList == []) = false := by
  have h1 : ¬ x.toList = [] := by
    rw [Lib.toList_data]
    intro e
    have : (bl x).length = 0 := by unfold bl; rw [e]; rfl
    rw [bl_length] at this; omega
  exact ⟨h1, by simpa using h1, by simpa using h1⟩
/-- The box of a side, among others. -/
theorem Fx.sbox {b : Nat} {s : ByteArray} {a d : Nat} {w W : World} (h : Fx b s a d w W) (t x y n : Value) : ∃ W' g, W' = (W.alloc (.cells #[t, x] 122)).alloc (.cells #[y, n] 43) ∧ g = W.heap.size ∧ Fx b s a d w W' ∧ W'.heap[g]? = some (.cells #[t, x] 122 (0, 0)) ∧ W'.heap[g + 1]? = some (.cells #[y, n] 43 (0, 0)) ∧ w.heap.size < g :=
  ⟨_, _, rfl, rfl, (h.alloc _).alloc _, (Below.heap_alloc _ _ _ (by simp)).trans (heap_alloc_new _ _), heap_alloc_new', h.bl⟩

set_option maxRecDepth 20000 in
set_option maxHeartbeats 2000000 in
theorem test_word (b : Nat) (s : ByteArray) (hs : s.size ≤ 1000000) (a d : Nat) (ha : a ≤ s.size) (w : World) (h : Cr b s a d w) (ht : Tb w) (hb : 2 < b ∧ 1 < b) (x : ByteArray) (k : Nat) (hw : wordR (bl s) (skipP (bl s) a) wordL = some (x, k)) (hx : 0 < x.size) :
    Calls Tryz.prog 109 #[.pointer (some ⟨b, 0, none⟩)] w (PartPost b s d (testR s (skipP (bl s) a)) w) := by
  have hq := skip_le ha
  have hkl := wordR_le hq.2 wordL hw
  have H0 : Hid (Fx b s a d w (w.alloc (.cells #[.int .i64 0, .int .i64 0] 43))) := Fx.start h
  obtain ⟨W1, hW1⟩ : ∃ W1, W1 = w.alloc (.cells #[.int .i64 0, .int .i64 0] 43) := ⟨_, rfl⟩
  have hT1 : Tb W1 := by rw [hW1]; exact ht.wt (Fx.start h).wt hb
  rw [← hW1] at H0
  have HB : Hid (Calls Tryz.prog 52 #[.pointer (some ⟨b, 0, none⟩)] W1 fun e w' => e = .returned (.int .i64 (skipP (bl s) a : Nat)) ∧ Cr b s (skipP (bl s) a) d w' ∧ Wt b W1 w') := begin_any b s hs a d ha W1 H0.out.cr
  unfold testR
  rw [hw]
  generalize skipP (bl s) a = q at HB hq hw hkl ⊢
  have HW : Hid (∀ W, Cr b s q d W → Wt b W1 W → Calls Tryz.prog 132 #[.pointer (some ⟨b, 0, none⟩)] W fun e w' => Wt b W w' ∧ e = .returned (.string x) ∧ Cr b s k d w') := fun W h1 h2 => by
    have := word_any b s hs q d hq.2 W h1 (hT1.wt h2 hb)
    unfold WoPost at this
    rw [hw] at this
    exact this
  have HE : Hid (∀ W, Cr b s k d W → Calls Tryz.prog 133 #[.pointer (some ⟨b, 0, none⟩), .string ⟨#[41]⟩] W fun e w' => ∃ (t : ByteArray) (y n : Int) (a' : Nat), e = .returned (.tuple #[.string t, fV y n]) ∧ t.size ≤ 1000000 ∧ Wt b W w' ∧ Cr b s a' d w' ∧ ∀ w2, Cr b s a' d w2 → Wt b w w2 → PartPost b s d ((enclR s k 41).map (fun t => .look q x (trimB t))) w (.returned (.tuple #[.iface 118 (.agg #[.int .i64 (q : Int), .string x, .string (trimB t)]), fV y n])) w2) := fun W hc => (enclosed_any b s 41 hs k d hkl.2 W hc).mono fun e w' hx => by
    cases hr : enclR s k 41 with
    | ok p t =>
      have ht : t.size ≤ 1000000 := by
        unfold enclR at hr
        split at hr
        · split at hr
          · cases hr
          · cases hr
            exact Nat.le_trans (ext_le2 _ _ _) hs
        · cases hr
      rw [hr] at hx; exact ⟨t, 0, 0, p, hx.2.1, ht, hx.1, hx.2.2, fun w2 h1 h2 => ⟨h2, _, rfl, h1, .look⟩⟩
    | bad y n => rw [hr] at hx; obtain ⟨h1, h2, a', h3⟩ := hx; exact ⟨E0, y, n, a', h2, by decide, h1, h3, fun w2 h1 h2 => ⟨h2, _, rfl, a', h1, .inl ⟨_, _, rfl⟩⟩⟩
  have HTr : Hid (∀ (t : ByteArray) W, t.size ≤ 1000000 → Calls Tryz.prog 58 #[.string t, .string ⟨#[32, 9]⟩] W fun e w' => e = .returned (.string (trimB t)) ∧ Below W.heap.size W w') := fun t W h => trim_any t h W
  obtain ⟨n1, n2, n3⟩ := some_ne hx
  clear h ht hT1 hw
  go_enter Tryz.func109, Tryz.ntmps109
  go_wp2_with fail
  rw [← hW1]
  clear hW1
  refine HB.out.mono ?_
  rintro e w2 ⟨rfl, hc2, hw2⟩
  go_wp2_with fail
  refine (HW.out _ hc2 hw2).mono ?_
  rintro e w3 ⟨hw3, rfl, hc3⟩
  go_wp2_with fail
  refine (HE.out _ hc3).mono ?_
  rintro e w4 ⟨t, y, n, a', rfl, htz, hw4, hc4, hdone⟩
  have HD : Hid (∀ w2, Cr b s a' d w2 → Wt b w w2 → PartPost b s d ((enclR s k 41).map (fun t => .look q x (trimB t))) w (.returned (.tuple #[.iface 118 (.agg #[.int .i64 (q : Int), .string x, .string (trimB t)]), fV y n])) w2) := hdone
  obtain ⟨W5, g, hW5, hg, hF5, hbx, hgl⟩ := (((H0.out.next hc2 hw2).next hc3 hw3).next hc4 hw4).box (.int .i64 y) (.int .i64 n)
  have H5 : Hid (Fx b s a' d w W5 ∧ W5.heap[g]? = some (.cells #[.int .i64 y, .int .i64 n] 43 (0, 0))) := ⟨hF5, hbx⟩
  go_upto_region 5 with fail
  rw [← hW5, ← hg]
  clear hW5 hg hF5 hw2 hw3 hw4 hc2 hc3 hc4 hdone hbx
  have x0 := cellb H5.out.2 0 rfl
  have x1 := cellb H5.out.2 1 rfl
  have g0 := H5.out.1.b0
  have g1 := H5.out.1.b1
  have gf0 := H5.out.1.bf 0
  have gf1 := H5.out.1.bf 1
  have HQ : Hid (∀ W w6 : World, Below W.heap.size W w6 → W.heap = W5.heap → Wt b W5 W → w6.cell? ⟨g, 0, none⟩ = some (.int .i64 y) ∧ w6.cell? ⟨g, 1, none⟩ = some (.int .i64 n) ∧ w6.cell? ⟨w.heap.size, 0, none⟩ = some (.int .i64 0) ∧ w6.cell? ⟨w.heap.size, 1, none⟩ = some (.int .i64 0) ∧ w6.frozen? ⟨w.heap.size, 0, none⟩ = false ∧ w6.frozen? ⟨w.heap.size, 1, none⟩ = false ∧ Hid (Fx b s a' d w w6)) := fun W w6 hb6 hh hwt => by
    have hF : Fx b s a' d w w6 := (H5.out.1.next (a' := a') (d' := d) (W' := W) (by unfold Cr; rw [hh]; exact H5.out.1.cr) hwt).below hb6
    have hg6 : w6.heap[g]? = some (.cells #[.int .i64 y, .int .i64 n] 43 (0, 0)) := (hb6.block g (by rw [hh]; exact (Array.getElem?_eq_some_iff.1 H5.out.2).1)).trans (by rw [hh]; exact H5.out.2)
    exact ⟨cellb hg6 0 rfl, cellb hg6 1 rfl, hF.b0, hF.b1, hF.bf 0, hF.bf 1, hF⟩
  go_region_with (first | (go_at_call 58; refine (HTr.out t _ htz).mono ?_; rintro e w6 ⟨rfl, hb6⟩; obtain ⟨q0, q1, q2, q3, q4, q5, H6⟩ := HQ.out _ w6 hb6 rfl (by first | exact Wt.refl _ _ | exact (Wt.refl _ _).drew); clear hb6))
  all_goals
    go_wp2
    refine bodyPost_ret (v := .tuple #[.iface 118 (.agg #[.int .i64 (q : Int), .string x, .string (trimB t)]), fV y n]) (by simp [results, Tryz.results109, go_sem, q2, q3]; try rfl) rfl ?_
    first | exact HD.out _ (H6.out.fin _ _).1 (H6.out.fin _ _).2 | exact HD.out _ (H6.out.fin _ _).1.drew (H6.out.fin _ _).2.drew | exact HD.out _ (H6.out.drew.fin _ _).1 (H6.out.drew.fin _ _).2
end Go.Proofs.YtkelmhpoplbacaaGreatDoor.Cd
namespace Go.Proofs.YtkelmhpoplbacaaGreatDoor.Cd
open Go.RowKit Go.Shelf Ex

set_option maxRecDepth 20000 in
set_option maxHeartbeats 4000000 in
theorem test_none (b : Nat) (s : ByteArray) (hs : s.size ≤ 1000000) (a d : Nat) (ha : a ≤ s.size) (w : World) (h : Cr b s a d w) (ht : Tb w) (hb : 2 < b ∧ 1 < b) (hw : wordR (bl s) (skipP (bl s) a) wordL = none) :
    Calls Tryz.prog 109 #[.pointer (some ⟨b, 0, none⟩)] w (PartPost b s d (testR s (skipP (bl s) a)) w) := by
  have hq := skip_le ha
  have H0 : Hid (Fx b s a d w (w.alloc (.cells #[.int .i64 0, .int .i64 0] 43))) := Fx.start h
  obtain ⟨W1, hW1⟩ : ∃ W1, W1 = w.alloc (.cells #[.int .i64 0, .int .i64 0] 43) := ⟨_, rfl⟩
  have hT1 : Tb W1 := by rw [hW1]; exact ht.wt (Fx.start h).wt hb
  have HTb : Hid (∀ W, Wt b W1 W → Tb W) := fun W h2 => hT1.wt h2 hb
  rw [← hW1] at H0
  have HB : Hid (Calls Tryz.prog 52 #[.pointer (some ⟨b, 0, none⟩)] W1 fun e w' => e = .returned (.int .i64 (skipP (bl s) a : Nat)) ∧ Cr b s (skipP (bl s) a) d w' ∧ Wt b W1 w') := begin_any b s hs a d ha W1 H0.out.cr
  unfold testR
  rw [hw]
  generalize skipP (bl s) a = q at HB hq hw ⊢
  have HW : Hid (∀ W, Cr b s q d W → Wt b W1 W → Calls Tryz.prog 132 #[.pointer (some ⟨b, 0, none⟩)] W fun e w' => Wt b W w' ∧ e = .returned (.string ⟨#[]⟩) ∧ Cr b s q d w') := fun W h1 h2 => by
    have := word_any b s hs q d hq.2 W h1 (hT1.wt h2 hb)
    unfold WoPost at this
    rw [hw] at this
    exact this
  have HS : Hid (∀ p W, p ≤ s.size → Cr b s p d W → Calls Tryz.prog 134 #[.pointer (some ⟨b, 0, none⟩)] W (SdPost b s d (sideR s p) W)) := fun p W h1 h2 => side_any b s hs p d h1 W h2
  have hin := side_in hq.2
  dsimp only
  obtain ⟨r1, hr1⟩ : ∃ r1, r1 = sideR s q := ⟨_, rfl⟩
  have HS1 : Hid (∀ W, Cr b s q d W → Calls Tryz.prog 134 #[.pointer (some ⟨b, 0, none⟩)] W (SdPost b s d r1 W)) := fun W h2 => by rw [hr1]; exact HS.out q W hq.2 h2
  rw [← hr1] at hin ⊢
  clear h ht hT1 hw hr1
  go_enter Tryz.func109, Tryz.ntmps109
  go_wp2_with fail
  rw [← hW1]
  clear hW1
  refine HB.out.mono ?_
  rintro e w2 ⟨rfl, hc2, hw2⟩
  go_wp2_with fail
  refine (HW.out _ hc2 hw2).mono ?_
  rintro e w3 ⟨hw3, rfl, hc3⟩
  go_wp2_with fail
  refine (HS1.out _ hc3).mono ?_
  cases r1 with
  | bad y n =>
    rintro e w4 ⟨hw4, ⟨l, rfl⟩, a', hc4⟩
    obtain ⟨W5, g, hW5, hg, hF5, hbl, hbx, hgl⟩ := (((H0.out.next hc2 hw2).next hc3 hw3).next hc4 hw4).sbox (.string l.t) (.bool l.q) (.int .i64 y) (.int .i64 (n : Int))
    have H5 : Hid (Fx b s a' d w W5) := hF5
    have hy0 : ¬ y = 0 := by rcases hin with rfl | rfl <;> decide
    have hyb : (y == 0) = false := by simpa using hy0
    have HD : Hid (∀ w2, Cr b s a' d w2 → Wt b w w2 → PartPost b s d (.bad y n) w (.returned (.tuple #[.nilIface, fV y (n : Int)])) w2) := fun w2 h1 h2 => ⟨h2, _, rfl, a', h1, .inr rfl⟩
    go_upto_region 7 with fail
    rw [← hW5, ← hg]
    clear hW5 hg hF5 hw2 hw3 hw4 hc2 hc3 hc4
    have x0 := cellb hbx 0 rfl
    have x1 := cellb hbx 1 rfl
    have g0 := H5.out.b0
    have g1 := H5.out.b1
    have gf0 := H5.out.bf 0
    have gf1 := H5.out.bf 1
    clear hbx hbl
    go_wp2_with fail
    go_region_with (fail)
    all_goals
      go_wp2
      refine bodyPost_ret (v := .tuple #[.nilIface, fV y (n : Int)]) (by simp [results, Tryz.results109, go_sem, g0, g1]; try rfl) rfl ?_
      first | exact HD.out _ (H5.out.fin _ _).1.drew (H5.out.fin _ _).2.drew | exact HD.out _ (H5.out.drew.fin _ _).1 (H5.out.drew.fin _ _).2 | exact HD.out _ (H5.out.fin _ _).1 (H5.out.fin _ _).2
  | ok p l =>
    rintro e w4 ⟨hw4, rfl, hc4⟩
    obtain ⟨W5, g, hW5, hg, hF5, hbl, hbx, hgl⟩ := (((H0.out.next hc2 hw2).next hc3 hw3).next hc4 hw4).sbox (.string l.t) (.bool l.q) (.int .i64 0) (.int .i64 0)
    have H5 : Hid (Fx b s p d w W5 ∧ W5.heap[g]? = some (.cells #[.string l.t, .bool l.q] 122 (0, 0))) := ⟨hF5, hbl⟩
    have hT5 : Tb W5 := HTb.out _ (((hw2.trans hw3).trans hw4).trans (by rw [hW5]; exact Wt.below (((Below.refl _ _).alloc (Nat.le_refl _) _).alloc (by simp) _)))
    go_upto_region 7 with fail
    rw [← hW5, ← hg]
    clear hW5 hg hF5 hw2 hw3 hw4 hc2 hc3 hc4
    have x0 := cellb hbx 0 rfl
    have x1 := cellb hbx 1 rfl
    clear hbx hbl
    have t0 : W5.cell? ⟨1, 0, none⟩ = some (.string gEq) := hT5.signs 0 (by omega)
    have t1 : W5.cell? ⟨1, 1, none⟩ = some (.string gNe) := hT5.signs 1 (by omega)
    have t2 : W5.cell? ⟨1, 2, none⟩ = some (.string gLe) := hT5.signs 2 (by omega)
    have t3 : W5.cell? ⟨1, 3, none⟩ = some (.string gGe) := hT5.signs 3 (by omega)
    have t4 : W5.cell? ⟨1, 4, none⟩ = some (.string gLt) := hT5.signs 4 (by omega)
    have t5 : W5.cell? ⟨1, 5, none⟩ = some (.string gGt) := hT5.signs 5 (by omega)
    clear hT5
    go_wp2_with fail
    clear t0 t1 t2 t3 t4 t5 x0 x1
    have hp : p ≤ s.size := hin.2
    obtain ⟨z, hz⟩ : ∃ z, z = signR (bl s) p signL := ⟨_, rfl⟩
    have HZ : Hid (signR (bl s) p (signL.drop 0) = z) := hz.symm
    have HZ0 : Hid (signR (bl s) p signL = z) := hz.symm
    have HTk : Hid (∀ (x : ByteArray) (p' : Nat) W, x.size ≤ 100 → p' ≤ s.size → Cr b s p' d W → Calls Tryz.prog 77 #[.pointer (some ⟨b, 0, none⟩), .string x] W fun e w' => e = .returned (.bool (nextP (bl s) p' (bl x)).1) ∧ Cr b s (nextP (bl s) p' (bl x)).2 d w' ∧ Wt b W w') := fun x p' W h1 h2 h3 => take_any b s x hs h1 p' d h2 W h3
    clear hz hin
    go_loopw [42] (fun vi wr => ∃ (i p' : Nat), vi = .int .i64 (i : Int) ∧ i ≤ 6 ∧ p' ≤ s.size ∧ Hid (Fx b s p' d w wr ∧ wr.heap[g]? = some (.cells #[.string l.t, .bool l.q] 122 (0, 0)) ∧ skipP (bl s) p' = skipP (bl s) p ∧ (i = 0 ∨ p' = skipP (bl s) p) ∧ signR (bl s) p (signL.drop i) = z)) (fun vi _ => 6 - (intOf vi).toNat)
    case atStart => exact ⟨0, p, rfl, by omega, hp, H5.out.1, H5.out.2, rfl, .inl rfl, HZ.out⟩
    case round =>
      obtain ⟨i, p', rfl, hi, hp', HF⟩ := hrel
      clear H5 HZ
      have l0 := cellb HF.out.2.1 0 rfl
      have l1 := cellb HF.out.2.1 1 rfl
      by_cases hlt : i < 6
      · have hli : (i : Int) < 6 := by omega
        have hix := signs_at i hlt
        have hwd := signR_drop (bl s) p i hlt
        obtain ⟨x, hx⟩ : ∃ x, x = signL[i]'hlt := ⟨_, rfl⟩
        rw [← hx] at hix hwd
        have hxz : 0 < x.size ∧ x.size ≤ 100 := signs_sz x (by rw [hx]; exact List.getElem_mem _)
        have hnx := next_le (p := bl x) hp'
        have HK := HTk.out x p' wr hxz.2 hp' HF.out.1.cr
        rw [next_skip HF.out.2.2.1] at HK hnx
        clear hx
        cases hn : (nextP (bl s) p (bl x)).1
        · have hno := next_no hn
          rw [hn] at HK hwd
          rw [hno] at HK
          simp only [Bool.false_eq_true, if_false] at hwd
          have HN : Hid (signR (bl s) p (signL.drop (i + 1)) = z) := by
            unfold Hid
            rw [← HF.out.2.2.2.2, hwd]
          have HK2 : Hid (Calls Tryz.prog 77 #[.pointer (some ⟨b, 0, none⟩), .string x] wr fun e w' => e = .returned (.bool false) ∧ Cr b s (skipP (bl s) p) d w' ∧ Wt b wr w') := HK
          have hsk := skip_le hp
          have HI : Hid (skipP (bl s) (skipP (bl s) p) = skipP (bl s) p) := skip_idem hp
          clear hwd hn hno HK hnx
          go_wp2_with fail
          refine HK2.out.mono ?_
          rintro e w6 ⟨rfl, hc6, hw6⟩
          have H6 : Hid (Fx b s (skipP (bl s) p) d w w6 ∧ w6.heap[g]? = some (.cells #[.string l.t, .bool l.q] 122 (0, 0))) := by
            have hbg : g ≠ b := by have := HF.out.1.hb; omega
            exact ⟨HF.out.1.next hc6 hw6, (hw6.block g (Array.getElem?_eq_some_iff.1 HF.out.2.1).1 hbg).trans HF.out.2.1⟩
          clear hc6 hw6 l0 l1
          go_wp2_with fail
          go_roundw
          case rel => exact ⟨i + 1, skipP (bl s) p, by go_num, by omega, hsk.2, H6.out.1, H6.out.2, HI.out, .inr rfl, HN.out⟩
          case measure => simp [intOf]; omega
        · rw [hn] at HK hwd
          simp only [if_true] at hwd
          obtain ⟨p2, hp2⟩ : ∃ p2, p2 = (nextP (bl s) p (bl x)).2 := ⟨_, rfl⟩
          rw [← hp2] at HK hwd hnx
          have HZ2 : Hid (signR (bl s) p signL = some (x, p2)) := by
            unfold Hid
            rw [HZ0.out, ← HF.out.2.2.2.2, hwd]
          have HK2 : Hid (Calls Tryz.prog 77 #[.pointer (some ⟨b, 0, none⟩), .string x] wr fun e w' => e = .returned (.bool true) ∧ Cr b s p2 d w' ∧ Wt b wr w') := HK
          have HS2 : Hid (∀ W, Cr b s p2 d W → Calls Tryz.prog 134 #[.pointer (some ⟨b, 0, none⟩)] W fun e w' => ∃ (r : Sd) (y n : Int) (a' : Nat), e = .returned (.tuple #[.agg #[.string r.t, .bool r.q], fV y n]) ∧ Wt b W w' ∧ Cr b s a' d w' ∧ ∀ w2, Cr b s a' d w2 → Wt b w w2 → PartPost b s d (cmpR s q p l) w (.returned (.tuple #[.iface 127 (.agg #[.int .i64 (q : Int), .string x, .string l.t, .bool l.q, .string r.t, .bool r.q]), fV y n])) w2) := fun W hc => (HS.out p2 W hnx.2.1 hc).mono fun e w' hpost => by
            unfold cmpR
            rw [HZ2.out]
            dsimp only
            cases hr : sideR s p2 with
            | ok p3 r => rw [hr] at hpost; exact ⟨r, 0, 0, p3, hpost.2.1, hpost.1, hpost.2.2, fun w2 h1 h2 => ⟨h2, _, rfl, h1, .cmp⟩⟩
            | bad y n => rw [hr] at hpost; obtain ⟨h1, ⟨r, h2⟩, a', h3⟩ := hpost; exact ⟨r, y, n, a', h2, h1, h3, fun w2 h1 h2 => ⟨h2, _, rfl, a', h1, .inl ⟨_, _, rfl⟩⟩⟩
          clear hwd hn hp2 HK hnx
          go_wp2_with fail
          refine HK2.out.mono ?_
          rintro e w6 ⟨rfl, hc6, hw6⟩
          go_wp2_with fail
          refine (HS2.out _ hc6).mono ?_
          rintro e w7 ⟨r, y, n, a', rfl, hw7, hc7, hdone⟩
          have HD : Hid (∀ w2, Cr b s a' d w2 → Wt b w w2 → PartPost b s d (cmpR s q p l) w (.returned (.tuple #[.iface 127 (.agg #[.int .i64 (q : Int), .string x, .string l.t, .bool l.q, .string r.t, .bool r.q]), fV y n])) w2) := hdone
          have hbg : g ≠ b := by have := HF.out.1.hb; omega
          have hg6 := (hw6.block g (Array.getElem?_eq_some_iff.1 HF.out.2.1).1 hbg).trans HF.out.2.1
          have hg7 := (hw7.block g (Array.getElem?_eq_some_iff.1 hg6).1 hbg).trans hg6
          obtain ⟨W8, g2, hW8, hgg, hF8, hbl, hbx, hgl2⟩ := ((HF.out.1.next hc6 hw6).next hc7 hw7).sbox (.string r.t) (.bool r.q) (.int .i64 y) (.int .i64 n)
          have hg8 : W8.heap[g]? = some (.cells #[.string l.t, .bool l.q] 122 (0, 0)) := by
            rw [hW8]
            have h1 := (Array.getElem?_eq_some_iff.1 hg7).1
            exact (Below.heap_alloc _ _ _ (by simp; omega)).trans ((Below.heap_alloc _ _ _ h1).trans hg7)
          have H8 : Hid (Fx b s a' d w W8) := hF8
          go_upto_region 14 with fail
          rw [← hW8, ← hgg]
          clear hW8 hgg hF8 hw6 hw7 hc6 hc7 hdone hg6 hg7 l0 l1
          have l0 := cellb hg8 0 rfl
          have l1 := cellb hg8 1 rfl
          have r0 := cellb hbl 0 rfl
          have r1 := cellb hbl 1 rfl
          have x0 := cellb hbx 0 rfl
          have x1 := cellb hbx 1 rfl
          have g0 := H8.out.b0
          have g1 := H8.out.b1
          have gf0 := H8.out.bf 0
          have gf1 := H8.out.bf 1
          clear hg8 hbl hbx
          go_wp2_with fail
          go_region_with (fail)
          all_goals
            go_wp2
            refine bodyPost_ret (v := .tuple #[.iface 127 (.agg #[.int .i64 (q : Int), .string x, .string l.t, .bool l.q, .string r.t, .bool r.q]), fV y n]) (by simp [results, Tryz.results109, go_sem, g0, g1]; try rfl) rfl ?_
            first | exact HD.out _ (H8.out.fin _ _).1.drew (H8.out.fin _ _).2.drew | exact HD.out _ (H8.out.drew.fin _ _).1 (H8.out.drew.fin _ _).2 | exact HD.out _ (H8.out.fin _ _).1 (H8.out.fin _ _).2
      · have hli : ¬ (i : Int) < 6 := by omega
        have hpe : p' = skipP (bl s) p := by
          rcases HF.out.2.2.2.1 with e | e
          · omega
          · exact e
        have HD : Hid (∀ w2, Cr b s p' d w2 → Wt b w w2 → PartPost b s d (cmpR s q p l) w (.returned (.tuple #[.iface 124 (.agg #[.int .i64 (q : Int), .string l.t, .bool l.q]), fV 0 0])) w2) := fun w2 h1 h2 => by
          have hzn : signR (bl s) p signL = none := by
            rw [HZ0.out, ← HF.out.2.2.2.2, List.drop_of_length_le (by show 6 ≤ i; omega)]; rfl
          unfold cmpR
          rw [hzn]
          rw [hpe] at h1
          exact ⟨h2, _, rfl, h1, .truth⟩
        have g0 := HF.out.1.b0
        have g1 := HF.out.1.b1
        have gf0 := HF.out.1.bf 0
        have gf1 := HF.out.1.bf 1
        clear hpe
        go_wp2
        refine bodyPost_ret (v := .tuple #[.iface 124 (.agg #[.int .i64 (q : Int), .string l.t, .bool l.q]), fV 0 0]) (by simp [results, Tryz.results109, go_sem, g0, g1]; try rfl) rfl ?_
        exact HD.out _ (HF.out.1.fin _ _).1 (HF.out.1.fin _ _).2
theorem test_any (b : Nat) (s : ByteArray) (hs : s.size ≤ 1000000) (a d : Nat) (ha : a ≤ s.size) (w : World) (h : Cr b s a d w) (ht : Tb w) (hb : 2 < b ∧ 1 < b) :
    Calls Tryz.prog 109 #[.pointer (some ⟨b, 0, none⟩)] w (PartPost b s d (testR s (skipP (bl s) a)) w) := by
  cases hw : wordR (bl s) (skipP (bl s) a) wordL with
  | none => exact test_none b s hs a d ha w h ht hb hw
  | some r =>
    obtain ⟨x, k⟩ := r
    refine test_word b s hs a d ha w h ht hb x k hw ?_
    have : ∀ (l : List ByteArray), (∀ y ∈ l, 0 < y.size) → wordR (bl s) (skipP (bl s) a) l = some (x, k) → 0 < x.size := by
      intro l
      induction l with
      | nil => intro _ h; cases h
      | cons y r ih =>
        intro h1 h2
        unfold wordR at h2
        cases hy : wordAt (bl s) (skipP (bl s) a) y with
        | none => rw [hy] at h2; exact ih (fun z hz => h1 z (List.mem_cons_of_mem _ hz)) h2
        | some j => rw [hy] at h2; cases h2; exact h1 _ List.mem_cons_self
    exact this wordL (fun y hy => (words_sz y hy).1) hw
end Go.Proofs.YtkelmhpoplbacaaGreatDoor.Cd
