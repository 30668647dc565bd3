/-
  PReplaced PFill PPut
-/
import Derived.Test.YtedepknbaakkhabGreatDoorK28
import Derived.Test.YtedepknbaakkhabGreatDoorK04
import Derived.Test.YtedepknbaakkhabGreatDoorK01
set_option maxRecDepth 20000
namespace Go.Proofs.YtedepknbaakkhabGreatDoor.X
open Go.RowKit Go.Shelf RxSem
attribute [local go_sem] Oper.semAt_some
def chs (ms : List (Nat × Nat)) : List (Nat × Nat) × Nat := ms.foldl (fun x m => if m.1 < x.2 then x else (x.1 ++ [m], m.2)) ([], 0)
def chosenOf (al : Bool) (ms : List (Nat × Nat)) : List (Nat × Nat) := if al then (chs ms).1 else ms.take 1
theorem chs_snoc (ms : List (Nat × Nat)) (m : Nat × Nat) : chs (ms ++ [m]) = if m.1 < (chs ms).2 then chs ms else ((chs ms).1 ++ [m], m.2) := by
  unfold chs
  rw [List.foldl_append]
  rfl
theorem chs_len (ms : List (Nat × Nat)) : (chs ms).1.length ≤ ms.length := by
  suffices h : ∀ (l : List (Nat × Nat)) (x : List (Nat × Nat) × Nat), (l.foldl (fun x m => if m.1 < x.2 then x else (x.1 ++ [m], m.2)) x).1.length ≤ x.1.length + l.length by
    have := h ms ([], 0); simpa [chs] using this
  intro l
  induction l with
  | nil => intro x; simp
  | cons m l ih =>
    intro x
    simp only [List.foldl_cons]
    refine Nat.le_trans (ih _) ?_
    split <;> simp <;> omega
def prs (pre : List (Nat × (Nat × Nat))) : List (Nat × Nat) := pre.map (·.2)
structure RI (bc bf ba nb : Nat) (al : Bool) (w0 : World) (c : List (Nat × Nat)) (f : Nat) (W : World) : Prop where
  ch : Fall nb bc c W
  fr : W.heap[bf]? = some (.cells #[.int .i64 (f : Int)] 3 (0, 0))
  all : W.heap[ba]? = some (.cells #[.bool al] 4 (0, 0))
  kp : Fr (fun j => j = bc ∨ j = bf) w0 W
theorem RI.own {bc bf ba nb : Nat} {al : Bool} {w0 : World} {c : List (Nat × Nat)} {f : Nat} {W W' : World} {row : Option Nat} (h : RI bc bf ba nb al w0 c f W) (hnb : w0.heap.size ≤ nb) (hg : W.grownBy W' row) (hr : ∀ r, row = some r → nb ≤ r ∧ ∃ o : Obj, W.heap[r]? = some o ∧ o.isCells = false) : RI bc bf ba nb al w0 c f W' := by
  have hk : ∀ (k : Nat) (cs : Array Value) (T : TypeId), W.heap[k]? = some (.cells cs T (0, 0)) → W'.heap[k]? = W.heap[k]? := fun k cs T hc =>
    hg.block k (Array.getElem?_eq_some_iff.1 hc).1 (fun e => by
      obtain ⟨_, o, h1, h2⟩ := hr k (by first | exact e | exact e.symm)
      rw [hc] at h1; cases h1; simp [Obj.isCells] at h2)
  refine ⟨h.ch.keep fun j cs T hc _ => hk j cs T hc, (hk _ _ _ h.fr).trans h.fr, (hk _ _ _ h.all).trans h.all, hg.os.trans h.kp.os, hg.tape.trans h.kp.tape, hg.output.trans h.kp.output, Nat.le_trans h.kp.size hg.size, fun j hj hd => ?_⟩
  rw [hg.block j (Nat.lt_of_lt_of_le hj h.kp.size) (fun e => by have := (hr j (by first | exact e | exact e.symm)).1; omega)]
  exact h.kp.block j hj hd
structure Moves (bc bf : Nat) (v : Value) (W W' : World) : Prop where
  os : W'.os = W.os
  tape : W'.tape = W.tape
  output : W'.output = W.output
  size : W.heap.size ≤ W'.heap.size
  block : ∀ j, j < W.heap.size → j ≠ bc → j ≠ bf → v.ownBlock ≠ some j → W'.heap[j]? = W.heap[j]?
theorem Moves.post {bc bf ba nb Bn : Nat} {al : Bool} {w0 W W' : World} {v u : Value} {c c' : List (Nat × Nat)} {f f' : Nat} (h : Moves bc bf v W W') (hR : RI bc bf ba nb al w0 c f W) (hv : W.heap[bc]? = some (.cells #[v] 124 (0, 0))) (hnb : w0.heap.size = nb) (hbc : bc < nb) (hbf : bf < nb) (hBn : Bn < nb) (h1 : Bn ≠ bc) (h2 : Bn ≠ bf) (hu : ∀ g, u.ownBlock = some g → g < nb ∧ g ≠ bc ∧ g ≠ bf) (hab : ba ≠ bc ∧ ba ≠ bf) (hab2 : ba < nb) (hch : Fall nb bc c' W') (hfr : W'.heap[bf]? = some (.cells #[.int .i64 (f' : Int)] 3 (0, 0))) : KeepsFrom nb W W' ∧ KpB Bn u W W' ∧ RI bc bf ba nb al w0 c' f' W' := by
  obtain ⟨v', hv', hrow⟩ := hR.ch
  have e : v' = v := by rw [hv] at hv'; simp at hv'; exact hv'.symm
  subst e
  have hsz := hR.kp.size
  have hlow : ∀ g, v'.ownBlock = some g → nb ≤ g := fun g hg => (hrow.lt g hg).1
  refine ⟨⟨h.size, fun k o hk hko ho => ?_⟩, fun k hk => ?_, hch, hfr, ?_, h.os.trans hR.kp.os, h.tape.trans hR.kp.tape, h.output.trans hR.kp.output, Nat.le_trans hsz h.size, fun j hj hd => ?_⟩
  · rw [h.block k (Array.getElem?_eq_some_iff.1 hko).1 (by omega) (by omega) (fun hg => by
      obtain ⟨cur, hc⟩ := row_type hrow hg
      rw [hc] at hko; cases hko; simp [Obj.isCells] at ho)]
    exact hko
  · rcases hk with rfl | hk
    · exact h.block k (by omega) h1 h2 (fun hg => by have := hlow k hg; omega)
    · obtain ⟨g1, g2, g3⟩ := hu k hk
      exact h.block k (by omega) g2 g3 (fun hg => by have := hlow k hg; omega)
  · rw [h.block ba (by omega) hab.1 hab.2 (fun hg => by have := hlow ba hg; omega)]
    exact hR.all
  · rw [h.block j (by omega) (fun e => hd (.inl e)) (fun e => hd (.inr e)) (fun hg => by have := hlow j hg; omega)]
    exact hR.kp.block j hj hd
theorem chosen_done {al : Bool} {K : List (Nat × Nat)} (h : al = false → seqOf K.reverse = []) : (chs (prs (seqOf K.reverse))).1 = chosenOf al K := by
  have e : prs (seqOf K.reverse) = K := by unfold prs; rw [seqOf_map, List.reverse_reverse]
  rw [e]
  cases al with
  | true => rfl
  | false =>
    have h1 := h rfl
    rw [h1] at e
    rw [← e]; rfl
theorem chosen_stop {K : List (Nat × Nat)} {x : Nat × (Nat × Nat)} (h : [x] <+: seqOf K.reverse) : [x.2] = chosenOf false K := by
  have e : prs (seqOf K.reverse) = K := by unfold prs; rw [seqOf_map, List.reverse_reverse]
  obtain ⟨r, hr⟩ := h
  rw [← hr] at e
  rw [← e]; rfl
theorem push_keep {W w9 : World} {o : Obj} {v : Value} (hg : (W.alloc o).grownBy w9 v.ownBlock) : W.heap.size ≤ w9.heap.size ∧ ∀ q, q < W.heap.size → v.ownBlock ≠ some q → w9.heap[q]? = W.heap[q]? := by
  have hs := hg.size
  refine ⟨by simp at hs; omega, fun q hq hne => ?_⟩
  rw [hg.block q (by simp; omega) (fun e => hne (by first | exact e | exact e.symm))]
  exact Below.heap_alloc _ _ _ hq
def RepPost (b : Nat) (t s : ByteArray) (k : List Nd) (al : Bool) (w : World) (e : Ending) (w' : World) : Prop := ∃ K v, e = .returned v ∧ LM (bl s) (.alt k) 0 K ∧ w'.ownsRow w.heap.size 127 2 v (chosenOf al K).length ((chosenOf al K).flatMap spanC) ∧ Made b t k w' ∧ Wrote b w w'
set_option maxRecDepth 100000 in
set_option maxHeartbeats 1000000 in
theorem replaced_any (hst : StepsC) (b : Nat) (t s : ByteArray) (k : List Nd) (al : Bool) (w : World) (h : Made b t k w) (hs : s.size ≤ 90000) : Calls Tryz.prog 96 #[.pointer (some ⟨b, 0, none⟩), .string s, .bool al] w (RepPost b t s k al w) := by
  refine (callsIn_wide (n := 6)).1 ?_
  obtain ⟨wA, hwA, hSA, hBA, hA0, hA1, hA2⟩ : ∃ wA, wA = ((w.alloc (.cells #[.bool al] 4)).alloc (.cells #[.slice none 0 0] 124)).alloc (.cells #[.slice none 0 0] 124) ∧ wA.heap.size = w.heap.size + 3 ∧ Below w.heap.size w wA ∧ wA.heap[w.heap.size]? = some (.cells #[.bool al] 4 (0, 0)) ∧ wA.heap[w.heap.size + 1]? = some (.cells #[.slice none 0 0] 124 (0, 0)) ∧ wA.heap[w.heap.size + 1 + 1]? = some (.cells #[.slice none 0 0] 124 (0, 0)) := by
    refine ⟨_, rfl, by simp, (((Below.refl _ _).alloc (Nat.le_refl _) _).alloc (by simp) _).alloc (by simp; omega) _, ?_, ?_, ?_⟩
    · rw [Below.heap_alloc _ _ _ (by simp; omega), Below.heap_alloc _ _ _ (by simp)]; exact heap_alloc_new _ _
    · rw [Below.heap_alloc _ _ _ (by simp)]
      have := heap_alloc_new (w.alloc (.cells #[.bool al] 4)) (.cells #[.slice none 0 0] 124)
      simpa using this
    · have := heap_alloc_new ((w.alloc (.cells #[.bool al] 4)).alloc (.cells #[.slice none 0 0] 124)) (.cells #[.slice none 0 0] 124)
      simpa using this
  have HE : Hid (Calls Tryz.prog 132 #[.pointer (some ⟨b, 0, none⟩), .string s, .int .i64 0, .func (.func 133) #[] #[.pointer (some ⟨w.heap.size + 1, 0, none⟩)]] wA (EachFall b (w.heap.size + 1) t s k wA)) := each_fall hst b (w.heap.size + 1) t s k wA (h.below hBA) hs hA1
  have HA : Hid (wA.heap.size = w.heap.size + 3 ∧ Below w.heap.size w wA ∧ wA.heap[w.heap.size]? = some (.cells #[.bool al] 4 (0, 0)) ∧ wA.heap[w.heap.size + 1 + 1]? = some (.cells #[.slice none 0 0] 124 (0, 0)) ∧ b < w.heap.size ∧ s.size ≤ 90000) := ⟨hSA, hBA, hA0, hA2, h.lt, hs⟩
  clear h hs hSA hBA hA0 hA1 hA2 hst
  refine callsIn_of_wp_marks Tryz.func96 rfl trivial ?_ rfl
  simp only [Tryz.ntmps96, List.size_toArray, List.length_cons, List.length_nil, Nat.reduceAdd, Nat.reduceSub, Array.replicate_succ, Array.replicate_zero, List.push_toArray, List.append_toArray, List.nil_append, List.cons_append]
  gi_wp2_with fail
  refine ⟨trivial, ?_⟩
  rw [← hwA]
  clear hwA
  refine (callsIn_wide.2 HE.out).mono ?_
  rintro e w1 ⟨rfl, K, hLM, ⟨v, hf1, hf2⟩, ⟨gs, cap, SL, hSt⟩, hFr⟩
  obtain ⟨a, c, hv⟩ := row_slice hf2
  obtain ⟨m, hm⟩ : ∃ m, m = K.reverse.length := ⟨_, rfl⟩
  rw [← hm] at hv
  subst hv
  have c0 : w1.cell? ⟨w.heap.size + 1, 0, none⟩ = some (.slice a m c) := by simp only [World.cell?, hf1]; rfl
  have H1 : Hid (LM (bl s) (.alt k) 0 K ∧ w1.heap[w.heap.size + 1]? = some (.cells #[.slice a m c] 124 (0, 0)) ∧ w1.ownsRow wA.heap.size 127 2 (.slice a m c) K.reverse.length (K.reverse.flatMap spanC) ∧ Steps b gs cap SL t k w1 ∧ Fr (fun j => j = b ∨ j = w.heap.size + 1) wA w1) := ⟨hLM, hf1, hf2, hSt, hFr⟩
  have hlt1 : w.heap.size + 1 < w1.heap.size := (Array.getElem?_eq_some_iff.1 hf1).1
  clear hLM hf1 hf2 hSt hFr HE hm
  gi_wp2_with fail
  refine ⟨trivial, ?_⟩
  obtain ⟨w2, hw2, hB2, hS2, h20, h21⟩ : ∃ w2, w2 = (w1.alloc (.cells #[.int .i64 0] 3)).alloc (.cells #[.slice a m c] 124) ∧ Below w1.heap.size w1 w2 ∧ w2.heap.size = w1.heap.size + 2 ∧ w2.heap[w1.heap.size]? = some (.cells #[.int .i64 0] 3 (0, 0)) ∧ w2.heap[w1.heap.size + 1]? = some (.cells #[.slice a m c] 124 (0, 0)) := by
    refine ⟨_, rfl, ((Below.refl _ _).alloc (Nat.le_refl _) _).alloc (by simp) _, by simp, ?_, ?_⟩
    · rw [Below.heap_alloc _ _ _ (by simp)]; exact heap_alloc_new _ _
    · have := heap_alloc_new (w1.alloc (.cells #[.int .i64 0] 3)) (.cells #[.slice a m c] 124)
      simpa using this
  refine (backward_in _ a m c _).mono ?_
  rintro e w3 ⟨rfl, hw3⟩
  rw [← hw2] at hw3
  subst hw3
  have hKl : K.reverse.length ≤ 100000 := by
    have h1 := lm_len H1.out.1
    have h2 := HA.out.2.2.2.2.2
    rw [bl_length] at h1
    simp; omega
  have hHeld : Held (w1.heap.size + 1) (.slice a m c) K.reverse w3 := by
    refine ⟨by simp only [World.cell?, h21]; rfl, ?_⟩
    have hr := owns_below H1.out.2.2.1 hB2
    rcases hr.2 with ⟨h1, h2⟩ | ⟨g, cap', cur, h1, h2⟩
    · exact .inl ⟨h1, List.length_eq_zero_iff.1 h2⟩
    · refine .inr ⟨g, cap', h1, fun j hj => ?_⟩
      have hr' := hr
      rw [h1] at hr'
      have e0 := flat_get spanC 2 (fun _ => rfl) K.reverse j 0 hj (by omega)
      have e1 := flat_get spanC 2 (fun _ => rfl) K.reverse j 1 hj (by omega)
      have g0 := row_cell hr' _ _ (e0.trans rfl)
      have g1 := row_cell hr' _ _ (e1.trans rfl)
      rw [Nat.mul_comm] at g0 g1
      exact ⟨g0, g1⟩
  have hlt2 : ∀ g, (Value.slice a m c).ownBlock = some g → wA.heap.size ≤ g ∧ g < w1.heap.size := fun g hg => H1.out.2.2.1.lt g hg
  have hsA := HA.out.1
  have hFs := H1.out.2.2.2.2.size
  have hI0 : RI (w.heap.size + 1 + 1) w1.heap.size w.heap.size w3.heap.size al w3 [] 0 w3 := by
    obtain ⟨x1, x2, x3, x4, x5, x6⟩ := HA.out
    have hfr := H1.out.2.2.2.2
    refine ⟨⟨_, (hB2.block _ (by omega)).trans ((hfr.block (w.heap.size + 1 + 1) (by omega) (by rintro (h | h) <;> omega)).trans x4), rfl, .inl ⟨rfl, rfl⟩⟩, h20, (hB2.block _ (by omega)).trans ((hfr.block w.heap.size (by omega) (by rintro (h | h) <;> omega)).trans x3), Fr.refl _ _⟩
  have H2 : Hid (Below w1.heap.size w1 w3 ∧ Held (w1.heap.size + 1) (.slice a m c) K.reverse w3 ∧ RI (w.heap.size + 1 + 1) w1.heap.size w.heap.size w3.heap.size al w3 [] 0 w3) := ⟨hB2, hHeld, hI0⟩
  have hBs : (w1.alloc (.cells #[.int .i64 0] 3)).heap.size = w1.heap.size + 1 := by simp
  rw [hBs]
  clear hB2 hHeld hI0 h20 h21 c0 hw2 hBs
  obtain ⟨i0, hif, hz0, hz1, hz2⟩ := info_parts infoSpan
  gi_wp2_with fail
  obtain ⟨bc, hbc⟩ : ∃ bc, bc = w.heap.size + 1 + 1 := ⟨_, rfl⟩
  obtain ⟨Bn, hBn⟩ : ∃ Bn, Bn = w1.heap.size + 1 := ⟨_, rfl⟩
  obtain ⟨bf, hbf⟩ : ∃ bf, bf = w1.heap.size := ⟨_, rfl⟩
  obtain ⟨nb, hnb⟩ : ∃ nb, nb = w3.heap.size := ⟨_, rfl⟩
  obtain ⟨ba, hba⟩ : ∃ ba, ba = w.heap.size := ⟨_, rfl⟩
  rw [← hbc, ← hBn, ← hbf, ← hba] at H2
  rw [← hbc, ← hBn, ← hbf, ← hba]
  have HL : Hid (bc = w.heap.size + 1 + 1 ∧ Bn = w1.heap.size + 1 ∧ bf = w1.heap.size ∧ ba = w.heap.size ∧ w3.heap.size = w1.heap.size + 2 ∧ wA.heap.size = w.heap.size + 3 ∧ wA.heap.size ≤ w1.heap.size ∧ ∀ g, (Value.slice a m c).ownBlock = some g → wA.heap.size ≤ g ∧ g < w1.heap.size) := ⟨hbc, hBn, hbf, hba, hS2, hsA, hFs, hlt2⟩
  have HEnd : Hid (∀ (W : World) (D : Nat) (cl : List (Nat × Nat)) (f : Nat) (v : Value), RI bc bf ba w3.heap.size al w3 cl f W → w3.heap.size ≤ D → W.heap[D]? = some (.deferred (some [])) → cl = chosenOf al K → W.heap[bc]? = some (.cells #[v] 124 (0, 0)) → RepPost b t s k al w (.returned v) (W.putObj D (.deferred none))) := by
    intro W D cl f v hR hD hK hcl hv
    have hg := grownBy_putObj' W D (.deferred none)
    have hsz := hR.kp.size
    have hR' := hR.own (Nat.le_refl _) hg (fun r e => by cases e; exact ⟨hD, _, hK, rfl⟩)
    obtain ⟨v', h1, h2⟩ := hR'.ch
    have hbk : (W.putObj D (.deferred none)).heap[bc]? = W.heap[bc]? := hg.block bc (by omega) (fun e => by have := Option.some.inj e; omega)
    have e : v' = v := by rw [hbk, hv] at h1; simp at h1; exact h1.symm
    subst e
    obtain ⟨x1, x2, x3, x4, x5, x6⟩ := HA.out
    obtain ⟨y1, y2, y3, y4, y5⟩ := H1.out
    obtain ⟨cur, s1, s2⟩ := y4.stp
    have hgl := (Array.getElem?_eq_some_iff.1 s1).1
    have hcw : w1.heap[bc]? = some (.cells #[.slice none 0 0] 124 (0, 0)) := by
      rw [y5.block bc (by omega) (by rintro (h | h) <;> omega), hbc]; exact x4
    have hgc : gs ≠ bc := fun e => by rw [e, hcw] at s1; simp at s1
    have hB2 := H2.out.1
    refine ⟨K, v', rfl, y1, by rw [← hcl]; exact row_base h2 (by omega), .found gs cap SL ⟨?_, ⟨cur, ?_, s2⟩, y4.abs, y4.oks, y4.few⟩, ?_⟩
    · rw [hR'.kp.block b (by omega) (by rintro (h | h) <;> omega), hB2.block b (by omega)]; exact y4.blk
    · rw [hR'.kp.block gs (by omega) (by rintro (h | h); exact hgc h; omega), hB2.block gs (by omega)]; exact s1
    · refine ⟨((hR'.kp.os.trans hB2.os).trans y5.os).trans x2.os, ((hR'.kp.tape.trans hB2.tape).trans y5.tape).trans x2.tape, ((hR'.kp.output.trans hB2.output).trans y5.output).trans x2.output, by have := hR'.kp.size; omega, fun j hj hne => ?_⟩
      rw [hR'.kp.block j (by omega) (by rintro (h | h) <;> omega), hB2.block j (by omega), y5.block j (by omega) (by rintro (h | h); exact hne h; omega)]
      exact x2.block j hj
  refine wpIn_rangeFunc_ownH rfl (by omega) (gf := 163) (lb := #[.pointer (some ⟨Bn, 0, none⟩)]) rfl trivial (enters_of Tryz.func163 (by kernel_rfl) rfl)
    (backward_stops _ (by omega) Bn (.slice a m c) K.reverse hKl w3 H2.out.2.1 (by omega) (fun g hg => by have := (hlt2 g hg).2; omega)) (fun h1 h2 => h1.trans h2) (fun W l o o' hl h1 h2 h3 k hk => ?kb) (Below.refl _ _) (fun _ => rfl)
    (fun pre W => (al = false → pre = []) ∧ RI bc bf ba w3.heap.size al w3 (chs (prs pre)).1 (chs (prs pre)).2 W)
    (fun cd pre W => cd = .exit 0 ∧ al = false ∧ ∃ x, pre = [x] ∧ RI bc bf ba w3.heap.size al w3 [x.2] 0 W)
    (fun s W W' row hs hg hr => ⟨hs.1, hs.2.own (Nat.le_refl _) hg hr⟩)
    (fun cd s W W' row hs hg hr => ⟨hs.1, hs.2.1, hs.2.2.choose, hs.2.2.choose_spec.1, hs.2.2.choose_spec.2.own (Nat.le_refl _) hg hr⟩)
    ⟨fun _ => rfl, H2.out.2.2⟩
    (fun x a' W => ∃ mb, a' = { tmps := #[.pointer (some ⟨b, 0, none⟩), .string s, .bool al, undef, undef, .pointer (some ⟨ba, 0, none⟩), .slice none 0 0, .pointer (some ⟨ba + 1, 0, none⟩), .pointer (some ⟨bc, 0, none⟩), .pointer (some ⟨bf, 0, none⟩), undef, .pointer (some ⟨mb, 0, none⟩), .pointer (some ⟨b, 0, none⟩), .string s, .func (.func 133) #[] #[.pointer (some ⟨ba + 1, 0, none⟩)], .tuple #[], .slice a m c, .func (.func 163) #[] #[.pointer (some ⟨Bn, 0, none⟩)], .int .i64 (x.1 : Int), .agg #[.int .i64 (x.2.1 : Int), .int .i64 (x.2.2 : Int)], undef, undef, undef, undef, undef, undef, undef, undef, undef, undef, undef, undef, undef], defers := [] } ∧ W.heap[mb]? = some (.cells #[.int .i64 (x.2.1 : Int), .int .i64 (x.2.2 : Int)] 127 (0, 0)) ∧ w3.heap.size ≤ mb ∧ ∀ v, W.heap[bc]? = some (.cells #[v] 124 (0, 0)) → v.ownBlock ≠ some mb)
    ?hax ?assign ?body ?done ?stop
  case kb =>
    have hl1 := (Array.getElem?_eq_some_iff.1 h1).1
    have hk3 : k < w3.heap.size := by
      rcases hk with rfl | hk
      · omega
      · have := (hlt2 k hk).2; omega
    exact (grownBy_putObj' W l o').block k (by omega) (fun e => by have := Option.some.inj e; omega)
  case hax =>
    rintro x a' s W W' row ⟨mb, e1, e2, e3, e4⟩ hg hr
    have hml := (Array.getElem?_eq_some_iff.1 e2).1
    refine ⟨mb, e1, ?_, e3, fun v hv => e4 v ?_⟩
    · rw [hg.block mb hml (fun e => by
        obtain ⟨_, o, h1, h2⟩ := hr mb (by first | exact e | exact e.symm)
        rw [e2] at h1; cases h1; simp [Obj.isCells] at h2)]
      exact e2
    · rw [← hg.block bc (by omega) (fun e => by have := (hr bc (by first | exact e | exact e.symm)).1; omega)]
      exact hv
  case assign =>
    rintro l pre x W Kk ⟨hal, hR⟩ hK
    have hsz := hR.kp.size
    have HK : Hid (_ ∧ _) := ⟨hK, hR⟩
    clear hbc hBn hbf hba hnb hS2 hsA hFs hlt2 hlt1
    clear hK hR
    simp only [encS]
    gi_wp2
    obtain ⟨hK, hR⟩ := HK.out
    obtain ⟨l1, l2, l3, l4, l5, l6, l7, l8⟩ := HL.out
    refine hK _ _ ⟨by simp, fun k o _ hk _ => (Below.heap_alloc _ _ _ (Array.getElem?_eq_some_iff.1 hk).1).trans hk⟩ (fun k hk => Below.heap_alloc _ _ _ (by
      rcases hk with rfl | hk
      · omega
      · have := (l8 k hk).2; omega)) ⟨hal, hR.own (row := none) (Nat.le_refl _) ⟨rfl, rfl, rfl, by simp, fun k hk _ => Below.heap_alloc _ _ _ hk⟩ (fun r e => by cases e)⟩ ⟨W.heap.size, rfl, heap_alloc_new _ _, hsz, fun v hv => ?_⟩
    rw [Below.heap_alloc _ _ _ (by omega)] at hv
    obtain ⟨v', h1, h2⟩ := hR.ch
    rw [hv] at h1
    have e : v = v' := by simpa using h1
    subst e
    exact fun hg => by have := (h2.lt _ hg).2; omega
  case body =>
    rintro l pre x a' W hl hlr ⟨hal, hR⟩ ⟨mb, rfl, hmb, hmnb, hmne⟩ hN
    obtain ⟨v3, h1, h2⟩ := hR.ch
    obtain ⟨a3, c3, hv3⟩ := row_slice h2
    subst hv3
    have hn3 : (chs (prs pre)).1.length ≤ 100000 := by
      have := chs_len (prs pre)
      rw [seqOf_len] at hN
      have h5 : K.length ≤ 100000 := by simpa using hKl
      have h6 : (prs pre).length = pre.length := by simp [prs]
      simp at hN
      omega
    obtain ⟨f, hf⟩ : ∃ f, f = (chs (prs pre)).2 := ⟨_, rfl⟩
    obtain ⟨C, hC⟩ : ∃ C, C = (chs (prs pre)).1 := ⟨_, rfl⟩
    rw [← hC] at hn3 h1 h2
    have HC : Hid (f = (chs (prs pre)).2 ∧ C = (chs (prs pre)).1 ∧ RI bc bf ba w3.heap.size al w3 C f W ∧ (al = false → pre = [])) := ⟨hf, hC, by rw [hf, hC]; exact hR, hal⟩
    obtain ⟨n3, hn3'⟩ : ∃ n3, n3 = C.length := ⟨_, rfl⟩
    rw [← hn3'] at hn3 h1 h2
    have HN3 : Hid (n3 = C.length ∧ W.heap[bc]? = some (.cells #[.slice a3 n3 c3] 124 (0, 0)) ∧ W.ownsRow w3.heap.size 127 2 (.slice a3 n3 c3) n3 (C.flatMap spanC)) := ⟨hn3', h1, h2⟩
    have hfr := HC.out.2.2.1.fr
    have hall := HC.out.2.2.1.all
    have cc : W.cell? ⟨bc, 0, none⟩ = some (.slice a3 n3 c3) := by simp only [World.cell?, h1]; rfl
    have cf : W.cell? ⟨bf, 0, none⟩ = some (.int .i64 (f : Int)) := by simp only [World.cell?, hfr]; rfl
    have ca : W.cell? ⟨ba, 0, none⟩ = some (.bool al) := by simp only [World.cell?, hall]; rfl
    have m0 : W.cell? ⟨mb, 0, none⟩ = some (.int .i64 (x.2.1 : Int)) := by simp only [World.cell?, hmb]; rfl
    have m1 : W.cell? ⟨mb, 1, none⟩ = some (.int .i64 (x.2.2 : Int)) := by simp only [World.cell?, hmb]; rfl
    have hcf : ¬ bc = bf := by omega
    have hca : ¬ bc = ba := by omega
    have hcm : ¬ bc = mb := by omega
    have hfm : ¬ bf = mb := by omega
    have hfa : ¬ bf = ba := by omega
    have hwl : w3.heap.size ≤ W.heap.size := hR.kp.size
    have hbcl : bc < w3.heap.size := by omega
    have hbfl : bf < w3.heap.size := by omega
    have hbal : ba < w3.heap.size := by omega
    have hml := (Array.getElem?_eq_some_iff.1 hmb).1
    have HM : Hid (W.heap[mb]? = some (.cells #[.int .i64 (x.2.1 : Int), .int .i64 (x.2.2 : Int)] 127 (0, 0)) ∧ w3.heap.size ≤ mb ∧ (Value.slice a3 n3 c3).ownBlock ≠ some mb) := ⟨hmb, hmnb, hmne _ h1⟩
    clear hmb hmnb hmne h1 hfr hall hf hC hn3' hR hal hN hl hlr
    clear hbc hBn hbf hba hnb hS2 hsA hFs hlt2 hlt1
    by_cases hlt : x.2.1 < f
    · have hlt' : (x.2.1 : Int) < (f : Int) := by omega
      gi_wp2
      refine ⟨KeepsFrom.refl _ _, fun _ _ => rfl, fun h => ?_, ?_⟩
      · have h1 := HC.out.2.2.2 h
        have h2 := HC.out.1
        rw [h1] at h2
        simp [prs, chs] at h2
        omega
      · have e : chs (prs (pre ++ [x])) = chs (prs pre) := by
          have : prs (pre ++ [x]) = prs pre ++ [x.2] := by simp [prs]
          rw [this, chs_snoc, if_pos (by rw [← HC.out.1]; exact hlt)]
        show RI bc bf ba w3.heap.size al w3 (chs (prs (pre ++ [x]))).1 (chs (prs (pre ++ [x]))).2 W
        rw [e, ← HC.out.1, ← HC.out.2.1]
        exact HC.out.2.2.1
    · have hlt' : ¬ (x.2.1 : Int) < (f : Int) := by omega
      gi_wp2_with (gi_at_builtin; refine wpListIn_append_own _ rfl _ _ 124 rfl w3.heap.size 127 i0 (.agg #[.int .i64 0, .int .i64 0]) 2 16 Tryz.underlying124 hif hz0 hz1 hz2 rfl (by decide) _ _ _ rfl (h2.alloc _) ⟨W.heap.size, 0, none⟩ 1 1 (spanC x.2) rfl rfl ?c1 ?c2 ?c3 ?c4 ?c5 ?_)
      case c1 => intro j u hj; exact hj
      case c2 => intro u hu; exact spanC_one [x.2] u (by simpa using hu)
      case c3 => unfold maxLen; omega
      case c4 => omega
      case c5 => omega
      intro v9 w9 hown' hgrow _
      obtain ⟨hs9, hk9⟩ := push_keep hgrow
      have hnr : ∀ q, q < w3.heap.size → (Value.slice a3 n3 c3).ownBlock ≠ some q := fun q hq e => by have := (h2.lt q e).1; omega
      have b9 : w9.heap[bc]? = some (.cells #[.slice a3 n3 c3] 124 (0, 0)) := (hk9 bc (by omega) (hnr bc hbcl)).trans HN3.out.2.1
      have f9 : w9.heap[bf]? = some (.cells #[.int .i64 (f : Int)] 3 (0, 0)) := (hk9 bf (by omega) (hnr bf hbfl)).trans HC.out.2.2.1.fr
      have l9 : w9.heap[ba]? = some (.cells #[.bool al] 4 (0, 0)) := (hk9 ba (by omega) (hnr ba hbal)).trans HC.out.2.2.1.all
      have m9 : w9.heap[mb]? = some (.cells #[.int .i64 (x.2.1 : Int), .int .i64 (x.2.2 : Int)] 127 (0, 0)) := (hk9 mb hml HM.out.2.2).trans HM.out.1
      have d1 : w9.cell? ⟨mb, 1, none⟩ = some (.int .i64 (x.2.2 : Int)) := by simp only [World.cell?, m9]; rfl
      have da : w9.cell? ⟨ba, 0, none⟩ = some (.bool al) := by simp only [World.cell?, l9]; rfl
      have dc : w9.cell? ⟨bc, 0, none⟩ = some (.slice a3 n3 c3) := by simp only [World.cell?, b9]; rfl
      have df : w9.cell? ⟨bf, 0, none⟩ = some (.int .i64 (f : Int)) := by simp only [World.cell?, f9]; rfl
      have zc : ∀ j, w9.frozen? ⟨bc, j, none⟩ = false := fun j => by simp [World.frozen?, b9]
      have zf : ∀ j, w9.frozen? ⟨bf, j, none⟩ = false := fun j => by simp [World.frozen?, f9]
      have H9 : Hid (w9.ownsRow w3.heap.size 127 2 v9 (n3 + 1) (C.flatMap spanC ++ spanC x.2) ∧ w9.heap[bc]? = some (.cells #[.slice a3 n3 c3] 124 (0, 0)) ∧ w9.heap[bf]? = some (.cells #[.int .i64 (f : Int)] 3 (0, 0)) ∧ w9.os = W.os ∧ w9.tape = W.tape ∧ w9.output = W.output ∧ W.heap.size ≤ w9.heap.size ∧ ∀ q, q < W.heap.size → (Value.slice a3 n3 c3).ownBlock ≠ some q → w9.heap[q]? = W.heap[q]?) := ⟨hown', b9, f9, hgrow.os, hgrow.tape, hgrow.output, hs9, hk9⟩
      obtain ⟨a9, c9, hv9⟩ := row_slice hown'
      subst hv9
      clear hown' hgrow hs9 hk9 hnr b9 f9 l9 m9 cc cf ca m0 m1 h2
      have HU : Hid (∀ (W' : World) (c' : List (Nat × Nat)) (f' : Nat), Moves bc bf (.slice a3 n3 c3) W W' → Fall w3.heap.size bc c' W' → W'.heap[bf]? = some (.cells #[.int .i64 (f' : Int)] 3 (0, 0)) → KeepsFrom w3.heap.size W W' ∧ KpB Bn (.slice a m c) W W' ∧ RI bc bf ba w3.heap.size al w3 c' f' W') := fun W' c' f' hm hch hf' => by
        obtain ⟨l1, l2, l3, l4, l5, l6, l7, l8⟩ := HL.out
        exact hm.post HC.out.2.2.1 HN3.out.2.1 rfl hbcl hbfl (by omega) (by omega) (by omega) (fun g hg => by have := l8 g hg; omega) ⟨by omega, by omega⟩ hbal hch hf'
      have hfl : [x.2].flatMap spanC = spanC x.2 := by simp
      cases al with
      | false =>
        gi_wp2
        obtain ⟨r1, r2, r3, r4, r5, r6, r7, r8⟩ := H9.out
        have o : Only bc w9 (w9.setCell ⟨bc, 0, none⟩ (.slice a9 (n3 + 1) c9)) := Only.set _ _ _ _
        have hmv : Moves bc bf (.slice a3 n3 c3) W (w9.setCell ⟨bc, 0, none⟩ (.slice a9 (n3 + 1) c9)) := ⟨o.os.trans r4, o.tape.trans r5, o.output.trans r6, by rw [o.size]; exact r7, fun j hj h1 h2 h3 => (o.block j h1).trans (r8 j hj h3)⟩
        have hp : pre = [] := HC.out.2.2.2 (by first | rfl | trivial)
        have hC0 : C = [] := by rw [HC.out.2.1, hp]; rfl
        have hf0 : f = 0 := by rw [HC.out.1, hp]; rfl
        have hn0 : n3 = 0 := by rw [HN3.out.1, hC0]; rfl
        have hFa : Fall w3.heap.size bc [x.2] (w9.setCell ⟨bc, 0, none⟩ (.slice a9 (n3 + 1) c9)) := ⟨_, heap_set r2 _, by
          have hr := row_set r1 (row_ne r1 r2 (by decide)) (.slice a9 (n3 + 1) c9) (i := 0)
          rw [hC0, hn0] at hr
          simpa [hn0] using hr⟩
        obtain ⟨u1, u2, u3⟩ := HU.out _ [x.2] 0 hmv hFa (by rw [o.block bf (fun e => hcf e.symm), r3, hf0])
        exact ⟨u1, rfl, x.1, x.2.1, x.2.2, by rw [hp]; rfl, u3⟩
      | true =>
        gi_wp2
        obtain ⟨r1, r2, r3, r4, r5, r6, r7, r8⟩ := H9.out
        have o : Only bc w9 (w9.setCell ⟨bc, 0, none⟩ (.slice a9 (n3 + 1) c9)) := Only.set _ _ _ _
        have hr := row_set r1 (row_ne r1 r2 (by decide)) (.slice a9 (n3 + 1) c9) (i := 0)
        have hb := heap_set (i := 0) r2 (.slice a9 (n3 + 1) c9)
        have hf2 := (o.block bf (fun e => hcf e.symm)).trans r3
        generalize (w9.setCell ⟨bc, 0, none⟩ (.slice a9 (n3 + 1) c9)) = X at o hr hb hf2 ⊢
        have o2 : Only bf X (X.setCell ⟨bf, 0, none⟩ (.int .i64 (x.2.2 : Int))) := Only.set _ _ _ _
        have hmv : Moves bc bf (.slice a3 n3 c3) W (X.setCell ⟨bf, 0, none⟩ (.int .i64 (x.2.2 : Int))) := ⟨(o2.os.trans o.os).trans r4, (o2.tape.trans o.tape).trans r5, (o2.output.trans o.output).trans r6, by rw [o2.size, o.size]; exact r7, fun j hj h1 h2 h3 => ((o2.block j h2).trans (o.block j h1)).trans (r8 j hj h3)⟩
        have hL : (C ++ [x.2]).length = n3 + 1 := by rw [HN3.out.1]; simp
        have hFa : Fall w3.heap.size bc (C ++ [x.2]) (X.setCell ⟨bf, 0, none⟩ (.int .i64 (x.2.2 : Int))) := ⟨_, (o2.block bc hcf).trans hb, by
          rw [hL, List.flatMap_append, hfl]
          exact row_set hr (row_ne hr hf2 (by decide)) _⟩
        obtain ⟨u1, u2, u3⟩ := HU.out _ (C ++ [x.2]) x.2.2 hmv hFa (heap_set hf2 _)
        refine ⟨u1, u2, (fun h => by cases h), ?_⟩
        have e : chs (prs (pre ++ [x])) = (C ++ [x.2], x.2.2) := by
          have : prs (pre ++ [x]) = prs pre ++ [x.2] := by simp [prs]
          rw [this, chs_snoc, if_neg (by rw [← HC.out.1]; exact hlt), ← HC.out.2.1]
        show RI bc bf ba w3.heap.size true w3 (chs (prs (pre ++ [x]))).1 (chs (prs (pre ++ [x]))).2 _
        rw [e]
        exact u3
  case done =>
    rintro D ys W hD rfl ⟨hal, hR⟩ hK
    obtain ⟨v, h1, h2⟩ := hR.ch
    have hc : W.cell? ⟨bc, 0, none⟩ = some v := by simp only [World.cell?, h1]; rfl
    have HR : Hid (RI bc bf ba w3.heap.size al w3 (chs (prs (seqOf K.reverse))).1 (chs (prs (seqOf K.reverse))).2 W ∧ W.heap[bc]? = some (.cells #[v] 124 (0, 0)) ∧ (al = false → seqOf K.reverse = [])) := ⟨hR, h1, hal⟩
    obtain ⟨a9, c9, hv9⟩ := row_slice h2
    subst hv9
    clear h1 h2 hR
    clear hbc hBn hbf hba hnb hS2 hsA hFs hlt2 hlt1
    gi_wp2
    refine ⟨by simp, .inl ⟨_, _, rfl, run_takeDeferred hK, ?_⟩⟩
    refine ⟨_, results_tmp rfl _ _ _, ?_⟩
    exact HEnd.out W D _ _ (.slice a9 _ c9) HR.out.1 hD hK (chosen_done HR.out.2.2) HR.out.2.1
  case stop =>
    rintro D cd pre W hD hSp ⟨rfl, hal, x, rfl, hR⟩ hK
    obtain ⟨v, h1, h2⟩ := hR.ch
    have hc : W.cell? ⟨bc, 0, none⟩ = some v := by simp only [World.cell?, h1]; rfl
    have HR : Hid (RI bc bf ba w3.heap.size al w3 [x.2] 0 W ∧ W.heap[bc]? = some (.cells #[v] 124 (0, 0)) ∧ [x] <+: seqOf K.reverse) := ⟨hR, h1, hSp⟩
    obtain ⟨a9, c9, hv9⟩ := row_slice h2
    subst hv9
    clear h1 h2 hR hSp
    clear hbc hBn hbf hba hnb hS2 hsA hFs hlt2 hlt1
    gi_wp2
    refine ⟨by simp, .inl ⟨_, _, rfl, run_takeDeferred hK, ?_⟩⟩
    refine ⟨_, results_tmp rfl _ _ _, ?_⟩
    exact HEnd.out W D _ _ (.slice a9 _ c9) HR.out.1 hD hK (by rw [hal]; exact chosen_stop HR.out.2.2) HR.out.2.1
end Go.Proofs.YtedepknbaakkhabGreatDoor.X
namespace Go.Proofs.YtedepknbaakkhabGreatDoor.X
open Go.RowKit Go.Shelf RxSem
def fillL (m : List UInt8) : List UInt8 → List UInt8
  | [] => []
  | [c] => if c = 38 then m else [c]
  | c :: d :: t => if c = 38 then m ++ fillL m (d :: t) else if c = 92 then d :: fillL m t else c :: fillL m (d :: t)
theorem fillL_amp (m t : List UInt8) : fillL m (38 :: t) = m ++ fillL m t := by
  cases t with
  | nil => simp [fillL]
  | cons d t => rw [fillL]; simp
theorem fillL_esc (m t : List UInt8) (d : UInt8) : fillL m (92 :: d :: t) = d :: fillL m t := by
  rw [fillL]; simp
theorem fillL_plain (m t : List UInt8) (c : UInt8) (h : c ≠ 38) (h2 : c ≠ 92 ∨ t = []) : fillL m (c :: t) = c :: fillL m t := by
  cases t with
  | nil => simp [fillL, h]
  | cons d t =>
    have h3 : c ≠ 92 := by rcases h2 with h2 | h2; exact h2; cases h2
    rw [fillL]; simp [h, h3]
theorem fillL_len (m : List UInt8) : ∀ (l : List UInt8), (fillL m l).length ≤ l.length * (m.length + 1)
  | [] => by simp [fillL]
  | [c] => by simp only [fillL]; split <;> simp
  | c :: d :: t => by
    have h1 := fillL_len m (d :: t)
    have h2 := fillL_len m t
    rw [fillL]
    split
    · simp only [List.length_append, List.length_cons, Nat.add_mul] at h1 ⊢; omega
    · split
      · simp only [List.length_cons, Nat.add_mul] at h1 h2 ⊢; omega
      · simp only [List.length_cons, Nat.add_mul] at h1 ⊢; omega
structure FI (B b : Nat) (out : List UInt8) (y m : ByteArray) (w : World) (i : Nat) (o : List UInt8) (wr : World) : Prop where
  ib : Lib.IsBuilderF 57 5 B b (Lib.byteCells o) wr
  bel : Below B w wr
  oth : Lib.OthersKept 5 (some b) w wr
  eq : out ++ fillL (bl m) (bl y) = o ++ fillL (bl m) ((bl y).drop i)
theorem FI.len {B b : Nat} {out : List UInt8} {y m : ByteArray} {w : World} {i : Nat} {o : List UInt8} {wr : World} (h : FI B b out y m w i o wr) (ho : out.length ≤ 400000000) (hy : y.size ≤ 1000) (hm : m.size ≤ 100000) : o.length ≤ 600000000 := by
  have h1 := congrArg List.length h.eq
  have h2 := fillL_len (bl m) (bl y)
  rw [bl_length, bl_length] at h2
  have h3 : y.size * (m.size + 1) ≤ 1000 * 100001 := Nat.mul_le_mul hy (by omega)
  simp only [List.length_append] at h1
  omega
theorem fi_drop {y : ByteArray} {i : Nat} (hi : i < y.size) : (bl y).drop i = y[i] :: (bl y).drop (i + 1) := by
  have hl : i < (bl y).length := by rw [bl_length]; exact hi
  rw [List.drop_eq_getElem_cons hl]; rfl
theorem byteCells_snoc' (o : List UInt8) (c : UInt8) : Lib.byteCells (o ++ [c]) = Lib.byteCells o ++ [.int .u8 (c.toNat : Int)] := by simp [Lib.byteCells]
set_option maxHeartbeats 600000 in
theorem fill_any (B b : Nat) (out : List UInt8) (y m : ByteArray) (w : World) (h : Lib.IsBuilderF 57 5 B b (Lib.byteCells out) w) (ho : out.length ≤ 400000000) (hy : y.size ≤ 1000) (hm : m.size ≤ 100000) (hB : B ≤ w.heap.size) : Calls Tryz.prog 97 #[.pointer (some ⟨b, 0, none⟩), .string y, .string m] w fun e w' => e = .returned (.tuple #[]) ∧ Lib.IsBuilderF 57 5 B b (Lib.byteCells (out ++ fillL (bl m) (bl y))) w' ∧ Below B w w' ∧ Lib.OthersKept 5 (some b) w w' := by
  have HS : Hid (∀ o wr, FI B b out y m w 0 o wr → True) := fun _ _ _ => trivial
  have HI0 : Hid (FI B b out y m w 0 out w) := ⟨h, Below.refl _ _, Lib.OthersKept.refl _ _ _, by simp⟩
  have HWS : Hid (∀ (o : List UInt8) (W : World), Lib.IsBuilderF 57 5 B b (Lib.byteCells o) W → o.length ≤ 600000000 → B ≤ W.heap.size → Calls Tryz.prog 94 #[.pointer (some ⟨b, 0, none⟩), .string m] W fun e w' => e = .returned (.tuple #[.int .i64 m.size, .nilIface]) ∧ Lib.IsBuilderF 57 5 B b (Lib.byteCells (o ++ bl m)) w' ∧ Below B W w' ∧ Lib.OthersKept 5 (some b) W w') := fun o W h1 h2 h3 =>
    (Tryz.Builder_WriteString_k B b (Lib.byteCells o) m W h1 (by rw [Lib.byteCells_length]; omega) h3).mono fun e w' h => ⟨h.1, .inr (by rw [Lib.byteCells_append, ← show Lib.strCells m = Lib.byteCells (bl m) from rfl]; exact h.2.1), h.2.2⟩
  have HWB : Hid (∀ (o : List UInt8) (c : UInt8) (W : World), Lib.IsBuilderF 57 5 B b (Lib.byteCells o) W → o.length ≤ 600000000 → B ≤ W.heap.size → Calls Tryz.prog 24 #[.pointer (some ⟨b, 0, none⟩), .int .u8 (c.toNat : Int)] W fun e w' => e = .returned .nilIface ∧ Lib.IsBuilderF 57 5 B b (Lib.byteCells (o ++ [c])) w' ∧ Below B W w' ∧ Lib.OthersKept 5 (some b) W w') := fun o c W h1 h2 h3 =>
    (Tryz.Builder_WriteByte_k B b (Lib.byteCells o) (c.toNat : Int) W h1 (by rw [Lib.byteCells_length]; omega) h3).mono fun e w' h => ⟨h.1, .inr (by rw [byteCells_snoc']; exact h.2.1), h.2.2⟩
  clear h HS
  go_enter Tryz.func97, Tryz.ntmps97
  go_wp2_with fail
  go_loopw [6] (fun vi wr => ∃ (i : Nat) (o : List UInt8), i ≤ y.size ∧ vi = .int .i64 (i : Int) ∧ Hid (FI B b out y m w i o wr)) (fun vi _ => y.size - (intOf vi).toNat)
  case atStart => exact ⟨0, out, Nat.zero_le _, rfl, HI0.out⟩
  case round =>
    clear HI0
    obtain ⟨i, o, hi, rfl, HI⟩ := hrel
    have hol := HI.out.len ho hy hm
    have hsz : B ≤ wr.heap.size := Nat.le_trans hB HI.out.bel.size
    by_cases hlt : i < y.size
    · have hl2 : (i : Int) < (y.size : Int) := by omega
      have hi0 : (0 : Int) ≤ (i : Int) := by omega
      obtain ⟨c, hc⟩ : ∃ c, c = y[i] := ⟨_, rfl⟩
      have HD : Hid ((bl y).drop i = c :: (bl y).drop (i + 1)) := by rw [hc]; exact fi_drop hlt
      by_cases h38 : c = 38
      · have hcn : y[i].toNat = 38 := by rw [← hc, h38]; rfl
        have HC : Hid (c = 38) := h38
        clear h38 hc
        go_wp2_with fail
        refine (HWS.out o wr HI.out.ib hol hsz).mono ?_
        rintro e w1 ⟨rfl, h1, h2, h3⟩
        have H1 : Hid (FI B b out y m w (i + 1) (o ++ bl m) w1) := ⟨h1, HI.out.bel.trans h2, HI.out.oth.trans h3, by rw [HI.out.eq, HD.out, HC.out, fillL_amp]; simp⟩
        clear h1 h2 h3
        go_wp2_with fail
        go_roundw
        case rel => exact ⟨i + 1, _, by omega, by go_num, H1⟩
        case measure => simp [intOf]; omega
      · have hcn : ¬ y[i].toNat = 38 := by rw [← hc]; intro e; exact h38 (by rw [u8_eq_iff]; exact e)
        have hcn' : ¬ (y[i].toNat : Int) = 38 := by omega
        have hcn2 : ((y[i].toNat : Int) == 38) = false := by simp [hcn']
        have HC38 : Hid (c ≠ 38) := h38
        by_cases h92 : c = 92 ∧ i + 1 < y.size
        · have hcm : y[i].toNat = 92 := by rw [← hc, h92.1]; rfl
          have hi1 := h92.2
          have hl3 : (i : Int) + 1 < (y.size : Int) := by omega
          have HC : Hid (c = 92 ∧ (bl y).drop (i + 1) = y[i + 1] :: (bl y).drop (i + 2)) := ⟨h92.1, fi_drop hi1⟩
          clear h38 hc h92
          go_wp2_with fail
          refine (HWB.out o y[i + 1] wr HI.out.ib hol hsz).mono ?_
          rintro e w1 ⟨rfl, h1, h2, h3⟩
          have H1 : Hid (FI B b out y m w (i + 2) (o ++ [y[i + 1]]) w1) := ⟨h1, HI.out.bel.trans h2, HI.out.oth.trans h3, by rw [HI.out.eq, HD.out, HC.out.2, HC.out.1, fillL_esc]; simp⟩
          clear h1 h2 h3
          go_wp2_with fail
          go_roundw
          case rel => exact ⟨i + 2, _, by omega, by go_num, H1⟩
          case measure => simp [intOf]; omega
        · have HN : Hid (c ≠ 92 ∨ (bl y).drop (i + 1) = []) := by
            by_cases h : c = 92
            · exact .inr (List.drop_of_length_le (by rw [bl_length]; rcases Nat.lt_or_ge (i + 1) y.size with hh | hh; exact absurd ⟨h, hh⟩ h92; exact hh))
            · exact .inl h
          have HCy : Hid (c = y[i]) := hc
          by_cases h9 : c = 92
          · have hcm : y[i].toNat = 92 := by rw [← hc, h9]; rfl
            have hx : ¬ (i : Int) + 1 < (y.size : Int) := fun hh => h92 ⟨h9, by omega⟩
            have H92 : Hid (c = 92) := h9
            clear h38 hc h92 h9
            go_wp2_with fail
            refine (HWB.out o 92 wr HI.out.ib hol hsz).mono ?_
            rintro e w1 ⟨rfl, h1, h2, h3⟩
            have H1 : Hid (FI B b out y m w (i + 1) (o ++ [92]) w1) := ⟨h1, HI.out.bel.trans h2, HI.out.oth.trans h3, by rw [HI.out.eq, HD.out, fillL_plain _ _ _ HC38.out HN.out, H92.out]; simp⟩
            clear h1 h2 h3
            go_wp2_with fail
            go_roundw
            case rel => exact ⟨i + 1, _, by omega, by go_num, H1⟩
            case measure => simp [intOf]; omega
          · have hx : ¬ y[i].toNat = 92 := fun e => h9 (by rw [hc, u8_eq_iff]; exact e)
            have hx2 : ¬ (y[i].toNat : Int) = 92 := by omega
            have hx3 : ((y[i].toNat : Int) == 92) = false := by simp [hx2]
            clear h38 hc h92 h9
            go_wp2_with fail
            refine (HWB.out o y[i] wr HI.out.ib hol hsz).mono ?_
            rintro e w1 ⟨rfl, h1, h2, h3⟩
            have H1 : Hid (FI B b out y m w (i + 1) (o ++ [y[i]]) w1) := ⟨h1, HI.out.bel.trans h2, HI.out.oth.trans h3, by rw [HI.out.eq, HD.out, fillL_plain _ _ _ HC38.out HN.out, HCy.out]; simp⟩
            clear h1 h2 h3
            go_wp2_with fail
            go_roundw
            case rel => exact ⟨i + 1, _, by omega, by go_num, H1⟩
            case measure => simp [intOf]; omega
    · have hl2 : ¬ (i : Int) < (y.size : Int) := by omega
      go_wp2_with fail
      go_end0
      have e : (bl y).drop i = [] := List.drop_of_length_le (by rw [bl_length]; omega)
      refine ⟨rfl, ?_, HI.out.bel, HI.out.oth⟩
      have := HI.out.eq
      rw [e] at this
      rw [this]
      simpa [fillL] using HI.out.ib
end Go.Proofs.YtedepknbaakkhabGreatDoor.X
namespace Go.Proofs.YtedepknbaakkhabGreatDoor.X
open Go.RowKit Go.Shelf RxSem
def putL (s y : List UInt8) : Nat → List (Nat × Nat) → List UInt8
  | told, [] => s.drop told
  | told, m :: r => (s.drop told).take (m.1 - told) ++ fillL ((s.drop m.1).take (m.2 - m.1)) y ++ putL s y m.2 r
def Chain (n : Nat) : Nat → List (Nat × Nat) → Prop
  | f, [] => f ≤ n
  | f, m :: r => f ≤ m.1 ∧ m.1 ≤ m.2 ∧ Chain n m.2 r
theorem Chain.le {n : Nat} : ∀ {l : List (Nat × Nat)} {f : Nat}, Chain n f l → f ≤ n
  | [], _, h => h
  | m :: _, _, h => by have := Chain.le h.2.2; have := h.1; have := h.2.1; omega
theorem Chain.snoc {n : Nat} : ∀ {l : List (Nat × Nat)} {f g : Nat} {m : Nat × Nat}, Chain n f l → (∀ x, l.getLast? = some x → x.2 = g) → (l = [] → f = g) → g ≤ m.1 → m.1 ≤ m.2 → m.2 ≤ n → Chain n f (l ++ [m])
  | [], f, g, m, h, _, h2, h3, h4, h5 => ⟨by rw [h2 rfl]; exact h3, h4, h5⟩
  | [a], f, g, m, h, h1, _, h3, h4, h5 => ⟨h.1, h.2.1, by rw [h1 a rfl]; exact h3, h4, h5⟩
  | a :: b :: l, f, g, m, h, h1, _, h3, h4, h5 => ⟨h.1, h.2.1, Chain.snoc (l := b :: l) (g := g) h.2.2 (fun x hx => h1 x (by rw [← hx]; rfl)) (fun e => by cases e) h3 h4 h5⟩
theorem chs_chain {n : Nat} (ms : List (Nat × Nat)) (h : ∀ m ∈ ms, m.1 ≤ m.2 ∧ m.2 ≤ n) : Chain n 0 (chs ms).1 ∧ (∀ x, (chs ms).1.getLast? = some x → x.2 = (chs ms).2) ∧ ((chs ms).1 = [] → 0 = (chs ms).2) := by
  suffices hs : ∀ (l : List (Nat × Nat)) (x : List (Nat × Nat) × Nat), (∀ m ∈ l, m.1 ≤ m.2 ∧ m.2 ≤ n) → (Chain n 0 x.1 ∧ (∀ y, x.1.getLast? = some y → y.2 = x.2) ∧ (x.1 = [] → 0 = x.2)) → (Chain n 0 (l.foldl (fun x m => if m.1 < x.2 then x else (x.1 ++ [m], m.2)) x).1 ∧ (∀ y, (l.foldl (fun x m => if m.1 < x.2 then x else (x.1 ++ [m], m.2)) x).1.getLast? = some y → y.2 = (l.foldl (fun x m => if m.1 < x.2 then x else (x.1 ++ [m], m.2)) x).2) ∧ ((l.foldl (fun x m => if m.1 < x.2 then x else (x.1 ++ [m], m.2)) x).1 = [] → 0 = (l.foldl (fun x m => if m.1 < x.2 then x else (x.1 ++ [m], m.2)) x).2)) by
    exact hs ms ([], 0) h ⟨Nat.zero_le _, fun y hy => by simp at hy, fun _ => rfl⟩
  intro l
  induction l with
  | nil => intro x _ hx; exact hx
  | cons m l ih =>
    intro x hm hx
    simp only [List.foldl_cons]
    refine ih _ (fun m' h' => hm m' (List.mem_cons_of_mem _ h')) ?_
    have h1 := hm m List.mem_cons_self
    split
    · exact hx
    · exact ⟨hx.1.snoc (g := x.2) hx.2.1 hx.2.2 (by omega) h1.1 h1.2, fun y hy => by simp at hy; rw [← hy], fun e => by simp at e⟩
theorem lm_mem {s : List UInt8} {n : Nd} {i : Nat} {K : List (Nat × Nat)} (h : LM s n i K) : ∀ m ∈ K, m.1 ≤ m.2 ∧ m.2 ≤ s.length := by
  induction h with
  | top => intro m hm; cases hm
  | no h hp hn ih => exact ih
  | yes h hp he hm ih =>
    intro m hmm
    rcases List.mem_cons.1 hmm with rfl | hmm
    · exact ⟨M_le _ _ _ _ he, M_top _ _ _ _ he hp⟩
    · exact ih m hmm
theorem chosen_chain {al : Bool} {s : List UInt8} {n : Nd} {K : List (Nat × Nat)} (h : LM s n 0 K) : Chain s.length 0 (chosenOf al K) := by
  cases al with
  | true => exact (chs_chain K (lm_mem h)).1
  | false =>
    cases K with
    | nil => exact Nat.zero_le _
    | cons m K => have := lm_mem h m List.mem_cons_self; exact ⟨Nat.zero_le _, this⟩
end Go.Proofs.YtedepknbaakkhabGreatDoor.X
