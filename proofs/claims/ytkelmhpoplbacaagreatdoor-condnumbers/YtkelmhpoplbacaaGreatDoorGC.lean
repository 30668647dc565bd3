/-
  What several, way, condition and within do, given what a part is.
-/
import Derived.Test.YtkelmhpoplbacaaGreatDoorGB
import Derived.Laws.AppendOwnNone
namespace Go.Proofs.YtkelmhpoplbacaaGreatDoor.Cd
open Go.RowKit Go.Shelf Ex

/-- What a reader of one thing does. -/
def OneC (b : Nat) (s : ByteArray) (d k : Nat) (R : Nat → RR Tr → Prop) (w : World) : Prop :=
  ∀ a W, a ≤ s.size → Cr b s a d W → Wt b w W → Calls Tryz.prog k #[.pointer (some ⟨b, 0, none⟩)] W fun e w' => ∃ r, R a r ∧ PartPost b s d r W e w'
/-- Blocks that are new, and not the row's own one. -/
def Apart (w W : World) (v : Value) (g : Nat) : Prop := w.heap.size < g ∧ g < W.heap.size ∧ v.ownBlock ≠ some g
/-- Blocks that are new, and not the box of the fault. -/
def Inn (w W : World) (g : Nat) : Prop := w.heap.size < g ∧ g < W.heap.size
theorem inn_fin {w W : World} (x y : Value) : ∀ g, Inn w W g → New w ((W.setCell ⟨w.heap.size, 0, none⟩ x).setCell ⟨w.heap.size, 1, none⟩ y) g ∧ ((W.setCell ⟨w.heap.size, 0, none⟩ x).setCell ⟨w.heap.size, 1, none⟩ y).heap[g]? = W.heap[g]? := fun g hg => by
  have h1 : g ≠ w.heap.size := by have := hg.1; omega
  exact ⟨⟨Nat.le_of_lt hg.1, by rw [size_set, size_set]; exact hg.2⟩, (Below.heap_setCell _ _ _ _ h1).trans (Below.heap_setCell _ _ _ _ h1)⟩
theorem cell_onev (w : World) (T : TypeId) (x : Value) : ∀ j u, ([x] : List Value)[j]? = some u → (w.alloc (.cells #[x] T)).cell? ((⟨w.heap.size, 0, none⟩ : Addr).add j) = some u := by
  intro j u hj
  match j, hj with
  | 0, hj => simp at hj; subst hj; simp [Addr.add]
theorem sev_keep {b : Nat} {s : ByteArray} {k d : Nat} {w wr w1 W2 : World} {v8 v : Value} {vs : List Value} {acc : List Tr} {t : Tr} (hF : Fx b s k d w wr) (hrow : wr.ownsRow (w.heap.size + 1) 66 1 v8 vs.length vs) (htv : TVs wr (Apart w wr v8) vs acc) (hw1 : Wt b wr w1) (ht : TV w1 (New wr w1) v t) (hb : Below w1.heap.size w1 W2) :
    W2.ownsRow (w.heap.size + 1) 66 1 v8 vs.length vs ∧ TVs W2 (Apart w W2 v8) (vs ++ [v]) (acc ++ [t]) := by
  have hw2 : Wt b wr W2 := hw1.then hb
  have hlt : ∀ g, v8.ownBlock = some g → g < wr.heap.size ∧ g ≠ b := fun g hg => by
    have h1 := (hrow.lt g hg)
    have := hF.hb
    exact ⟨h1.2, by omega⟩
  refine ⟨hrow.kept (row := some b) ⟨hw2.os, hw2.tape, hw2.output, hw2.size, fun j hj hn => hw2.block j hj (fun e => hn (by rw [e]))⟩ (.inr (fun e => (hlt b e).2 rfl)), TVs.snoc (htv.kept fun g hg => ⟨⟨hg.1, Nat.lt_of_lt_of_le hg.2.1 hw2.size, hg.2.2⟩, hw2.block g hg.2.1 (by have := hF.hb; have := hg.1; omega)⟩) (ht.kept fun g hg => ⟨⟨Nat.lt_of_lt_of_le hF.bl hg.1, Nat.lt_of_lt_of_le hg.2 hb.size, fun e => by have := (hlt g e).1; have := hg.1; omega⟩, hb.block g hg.2⟩)⟩
theorem sev_grow {b : Nat} {s : ByteArray} {p d n : Nat} {w W2 w3 : World} {v8 v3 : Value} {o : Obj} {vs ws : List Value} {ps : List Tr} (hF : Fx b s p d w W2) (hrow : W2.ownsRow (w.heap.size + 1) 66 1 v8 n vs) (htv : TVs W2 (Apart w W2 v8) ws ps) (hg : (W2.alloc o).grownBy w3 v8.ownBlock) (hown : w3.ownsRow (w.heap.size + 1) 66 1 v3 (n + 1) ws) (hloc : v3.ownBlock = v8.ownBlock ∨ v3.ownBlock = some (W2.heap.size + 1)) :
    Fx b s p d w w3 ∧ w3.ownsRow (w.heap.size + 1) 66 1 v3 (n + 1) ws ∧ TVs w3 (Apart w w3 v3) ws ps := by
  have hz : W2.heap.size + 1 ≤ w3.heap.size := by have := hg.size; simpa using this
  have hlt : ∀ g, v8.ownBlock = some g → w.heap.size + 1 ≤ g := fun g h => (hrow.lt g h).1
  have hbk : ∀ j, j < W2.heap.size → v8.ownBlock ≠ some j → w3.heap[j]? = W2.heap[j]? := fun j hj hn => (hg.block j (by simp; omega) (fun e => hn e.symm)).trans (Below.heap_alloc _ _ _ hj)
  have hbl := hF.bl
  have hcl := hF.cr.lt
  refine ⟨⟨(hbk b hcl (fun e => by have := hlt b e; have := hF.hb; omega)).trans hF.cr, ⟨hg.os.trans hF.wt.os, hg.tape.trans hF.wt.tape, hg.output.trans hF.wt.output, by have := hF.wt.size; omega, fun j hj hn => (hbk j (by omega) (fun e => by have := hlt j e; omega)).trans (hF.wt.block j hj hn)⟩, hF.hb, (hbk _ hbl (fun e => by have := hlt _ e; omega)).trans hF.bx⟩, hown, htv.kept fun g hgp => ⟨⟨hgp.1, by have := hgp.2.1; omega, fun e => ?_⟩, hbk g hgp.2.1 hgp.2.2⟩⟩
  rcases hloc with h | h
  · exact hgp.2.2 (by rw [← h]; exact e)
  · rw [h] at e; have := Option.some.inj e; have := hgp.2.1; omega
set_option maxRecDepth 20000 in
set_option maxHeartbeats 4000000 in
theorem several_part (b : Nat) (s sep : ByteArray) (hs : s.size ≤ 1000000) (hp : sep.size ≤ 100) (hp0 : 0 < sep.size) (R : Nat → RR Tr → Prop) (hR : ∀ a r, a ≤ s.size → R a r → r.In a s.size) (a d : Nat) (ha : a ≤ s.size) (w : World) (h : Cr b s a d w) (h1 : OneC b s d 78 R w) :
    Calls Tryz.prog 53 #[.pointer (some ⟨b, 0, none⟩), .string sep, .func (Fn.func 78) #[.pointer (some ⟨b, 0, none⟩)] #[]] w fun e w' => ∃ r, Sev (bl s) (bl sep) R a r ∧ SevPost b s d r w e w' := by
  obtain ⟨i0, hi0, hz0, hz1, hz2⟩ := info_of infoP
  have HO : Hid (∀ a W, a ≤ s.size → Cr b s a d W → Wt b w W → Calls Tryz.prog 78 #[.pointer (some ⟨b, 0, none⟩)] W fun e w' => ∃ r, R a r ∧ PartPost b s d r W e w') := h1
  have HT : Hid (∀ a W, a ≤ s.size → Cr b s a d W → Calls Tryz.prog 77 #[.pointer (some ⟨b, 0, none⟩), .string sep] W fun e w' => e = .returned (.bool (nextP (bl s) a (bl sep)).1) ∧ Cr b s (nextP (bl s) a (bl sep)).2 d w' ∧ Wt b W w') := fun a W h2 h3 => take_any b s sep hs hp a d h2 W h3
  have HR : Hid (∀ a r, a ≤ s.size → R a r → r.In a s.size) := hR
  have H0 : Hid (Fx b s a d w (w.alloc (.cells #[.int .i64 0, .int .i64 0] 43))) := Fx.start h
  have HL : Hid (0 < (bl sep).length) := by unfold Hid; rw [bl_length]; exact hp0
  clear h h1 hR hp0
  go_enter Tryz.func53, Tryz.ntmps53
  go_wp2_with fail
  go_loopw [8] (fun v8 wr => ∃ (k n : Nat) (sa : Option Addr) (sc : Nat) (vs : List Value) (acc : List Tr), v8 = .slice sa n sc ∧ k ≤ s.size ∧ n ≤ k ∧ Hid (n = vs.length ∧ Fx b s k d w wr ∧ wr.ownsRow (w.heap.size + 1) 66 1 (.slice sa n sc) n vs ∧ TVs wr (Apart w wr (.slice sa n sc)) vs acc ∧ ∀ r, Sev (bl s) (bl sep) R k r → Sev (bl s) (bl sep) R a (r.map (fun l => acc ++ l)))) (fun _ wr => s.size - posOf b wr)
  case atStart => exact ⟨a, 0, none, 0, [], [], rfl, ha, Nat.zero_le _, rfl, H0.out, World.ownsRow_nil _ _ _ _, ⟨rfl, fun i x t h1 => by cases h1⟩, fun r hr => by cases r <;> exact hr⟩
  case round =>
    obtain ⟨k, n, sa, sc, vs, acc, rfl, hk, hvk, HF⟩ := hrel
    clear H0
    go_wp2_with fail
    refine (HO.out k _ hk HF.out.2.1.cr HF.out.2.1.wt).mono ?_
    rintro e w1 ⟨r, hr, hpost⟩
    cases r with
    | bad y nn =>
      obtain ⟨hw1, v, rfl, a', hc1, _⟩ := hpost
      have hy := HR.out _ _ hk hr
      have hy0 : ¬ y = 0 := by rcases hy with rfl | rfl <;> decide
      have hyb : (y == 0) = false := by simpa using hy0
      have HD : Hid (∀ w2, Cr b s a' d w2 → Wt b w w2 → ∃ r, Sev (bl s) (bl sep) R a r ∧ SevPost b s d r w (.returned (.tuple #[.slice none 0 0, fV y (nn : Int)])) w2) := fun w2 h1 h2 => ⟨_, HF.out.2.2.2.2 _ (.bad hr), h2, rfl, a', h1⟩
      obtain ⟨W2, g, hW2, hg, hF2, hbx, hgl⟩ := (HF.out.2.1.next hc1 hw1).box (.int .i64 y) (.int .i64 (nn : Int))
      have H2 : Hid (Fx b s a' d w W2) := hF2
      go_upto_region 3 with fail
      rw [← hW2, ← hg]
      clear hr hw1 hc1 hy hW2 hg hF2
      have x0 := cellb hbx 0 rfl
      have x1 := cellb hbx 1 rfl
      have g0 := H2.out.b0
      have g1 := H2.out.b1
      have gf0 := H2.out.bf 0
      have gf1 := H2.out.bf 1
      clear hbx
      go_wp2_with fail
      go_region_with (fail)
      all_goals
        go_wp2
        refine bodyPost_ret (v := .tuple #[.slice none 0 0, fV y (nn : Int)]) (by simp [results, Tryz.results53, go_sem, g0, g1]; try rfl) rfl ?_
        first | exact HD.out _ (H2.out.fin _ _).1.drew (H2.out.fin _ _).2.drew | exact HD.out _ (H2.out.drew.fin _ _).1 (H2.out.drew.fin _ _).2 | exact HD.out _ (H2.out.fin _ _).1 (H2.out.fin _ _).2
    | ok p t =>
      obtain ⟨hw1, v, rfl, hc1, htv⟩ := hpost
      have hin := HR.out _ _ hk hr
      obtain ⟨T, xx, rfl⟩ := htv.iface
      obtain ⟨W2, g, hW2, hg, hF2, hbx, hgl⟩ := (HF.out.2.1.next hc1 hw1).box (.int .i64 0) (.int .i64 0)
      have hstep := sev_keep (W2 := W2) HF.out.2.1 (by rw [← HF.out.1]; exact HF.out.2.2.1) HF.out.2.2.2.1 hw1 htv (by rw [hW2]; exact (Below.refl _ _).alloc (Nat.le_refl _) _)
      rw [← HF.out.1] at hstep
      have H2 : Hid (Fx b s p d w W2 ∧ W2.ownsRow (w.heap.size + 1) 66 1 (.slice sa n sc) n vs ∧ TVs W2 (Apart w W2 (.slice sa n sc)) (vs ++ [.iface T xx]) (acc ++ [t])) := ⟨hF2, hstep.1, hstep.2⟩
      have HS : Hid (R k (.ok p t)) := hr
      go_upto_region 3 with fail
      rw [← hW2, ← hg]
      clear hr hw1 hc1 hW2 hg hF2 htv hstep
      have x0 := cellb hbx 0 rfl
      have x1 := cellb hbx 1 rfl
      clear hbx
      have hrow := H2.out.2.1
      have hkm : k ≤ 1000000 := by omega
      have hbw := H2.out.1.bl
      have hnx := next_le (p := bl sep) hin.2
      go_wp2_with (at_builtin; refine wpList_append_own_at _ rfl _ _ 110 rfl (w.heap.size + 1) 66 i0 .nilIface 1 16 Tryz.underlying110 hi0 hz0 hz1 hz2 rfl (by decide) _ _ _ rfl (hrow.alloc _) ⟨W2.heap.size, 0, none⟩ 1 1 [.iface T xx] rfl rfl (cell_onev _ _ _) (by intro u hu; simp at hu; subst hu; rfl) (by unfold maxLen; omega) (by omega) (by simp; omega) ?_)
      intro v3 w3 hown hgrow _ hloc
      obtain ⟨sa3, sc3, hv3⟩ := V.owns_slice hown
      subst hv3
      have H3 : Hid (Fx b s p d w w3 ∧ w3.ownsRow (w.heap.size + 1) 66 1 (.slice sa3 (n + 1) sc3) (n + 1) (vs ++ [.iface T xx]) ∧ TVs w3 (Apart w w3 (.slice sa3 (n + 1) sc3)) (vs ++ [.iface T xx]) (acc ++ [t])) := sev_grow H2.out.1 H2.out.2.1 H2.out.2.2 hgrow hown hloc
      clear hown hgrow hloc hrow x0 x1
      have HK := HT.out p w3 hin.2 H3.out.1.cr
      cases hnt : (nextP (bl s) p (bl sep)).1
      · rw [hnt] at HK
        have HK2 : Hid (Calls Tryz.prog 77 #[.pointer (some ⟨b, 0, none⟩), .string sep] w3 fun e w' => e = .returned (.bool false) ∧ Cr b s (nextP (bl s) p (bl sep)).2 d w' ∧ Wt b w3 w') := HK
        have HV : Hid (Sev (bl s) (bl sep) R a (.ok (nextP (bl s) p (bl sep)).2 (acc ++ [t]))) := HF.out.2.2.2.2 _ (.last HS.out hnt)
        clear HK hnt
        go_wp2_with fail
        refine HK2.out.mono ?_
        rintro e w4 ⟨rfl, hc4, hw4⟩
        have H4 : Hid (Fx b s (nextP (bl s) p (bl sep)).2 d w w4 ∧ PRow w4 (Inn w w4) (.slice sa3 (n + 1) sc3) (vs ++ [.iface T xx]) ∧ TVs w4 (Inn w w4) (vs ++ [.iface T xx]) (acc ++ [t])) := by
          have h1 := H3.out.1.next hc4 hw4
          refine ⟨h1, ?_, H3.out.2.2.kept fun g hg => ⟨⟨hg.1, Nat.lt_of_lt_of_le hg.2.1 hw4.size⟩, hw4.block g hg.2.1 (by have := h1.hb; have := hg.1; omega)⟩⟩
          have hp3 : PRow w3 (Inn w w3) (.slice sa3 (n + 1) sc3) (vs ++ [.iface T xx]) := prow_of (B := w.heap.size + 1) (by rw [List.length_append, List.length_singleton, ← HF.out.1]; exact H3.out.2.1) (fun g hg => by have := H3.out.2.1.lt g hg; exact ⟨by omega, this.2⟩)
          exact hp3.kept fun g hg => ⟨⟨hg.1, Nat.lt_of_lt_of_le hg.2 hw4.size⟩, hw4.block g hg.2 (by have := h1.hb; have := hg.1; omega)⟩
        clear hc4 hw4
        have g0 := H4.out.1.b0
        have g1 := H4.out.1.b1
        have gf0 := H4.out.1.bf 0
        have gf1 := H4.out.1.bf 1
        go_wp2
        refine bodyPost_ret (v := .tuple #[.slice sa3 (n + 1) sc3, fV 0 0]) (by simp [results, Tryz.results53, go_sem, g0, g1]; try rfl) rfl ?_
        exact ⟨_, HV.out, (H4.out.1.fin _ _).2, _, _, rfl, (H4.out.1.fin _ _).1, H4.out.2.1.kept (inn_fin _ _), H4.out.2.2.kept (inn_fin _ _)⟩
      · rw [hnt] at HK
        have HK2 : Hid (Calls Tryz.prog 77 #[.pointer (some ⟨b, 0, none⟩), .string sep] w3 fun e w' => e = .returned (.bool true) ∧ Cr b s (nextP (bl s) p (bl sep)).2 d w' ∧ Wt b w3 w') := HK
        have HV : Hid (∀ r, Sev (bl s) (bl sep) R (nextP (bl s) p (bl sep)).2 r → Sev (bl s) (bl sep) R a (r.map (fun l => (acc ++ [t]) ++ l))) := fun r hr => by
          have h1 := HF.out.2.2.2.2 _ (.more HS.out hnt hr)
          cases r with
          | ok x y => simpa [RR.map] using h1
          | bad x y => exact h1
        have hmr : p + (bl sep).length ≤ (nextP (bl s) p (bl sep)).2 := hnx.2.2 hnt
        obtain ⟨p4, hp4⟩ : ∃ p4, p4 = (nextP (bl s) p (bl sep)).2 := ⟨_, rfl⟩
        rw [← hp4] at HK2 HV hmr hnx
        have hl0 := HL.out
        have hp5 : k < p4 := by have := hin.1; omega
        have hp6 : p4 ≤ s.size := hnx.2.1
        clear HK hnt hmr hnx hp4 hl0
        go_wp2_with fail
        refine HK2.out.mono ?_
        rintro e w4 ⟨rfl, hc4, hw4⟩
        have H4 : Hid (Fx b s p4 d w w4 ∧ w4.ownsRow (w.heap.size + 1) 66 1 (.slice sa3 (n + 1) sc3) (n + 1) (vs ++ [.iface T xx]) ∧ TVs w4 (Apart w w4 (.slice sa3 (n + 1) sc3)) (vs ++ [.iface T xx]) (acc ++ [t])) := by
          have h1 := H3.out.1.next hc4 hw4
          have hb' := h1.hb
          exact ⟨h1, H3.out.2.1.kept (row := some b) ⟨hw4.os, hw4.tape, hw4.output, hw4.size, fun j hj hn => hw4.block j hj (fun e => hn (by rw [e]))⟩ (.inr (fun e => by have := (H3.out.2.1.lt b e).1; omega)), H3.out.2.2.kept fun g hg => ⟨⟨hg.1, Nat.lt_of_lt_of_le hg.2.1 hw4.size, hg.2.2⟩, hw4.block g hg.2.1 (by have := hg.1; omega)⟩⟩
        clear hc4 hw4
        go_wp2_with fail
        go_roundw
        case rel => exact ⟨p4, n + 1, sa3, sc3, vs ++ [.iface T xx], acc ++ [t], rfl, hp6, by omega, by rw [List.length_append, List.length_singleton, ← HF.out.1], H4.out.1, H4.out.2.1, H4.out.2.2, HV.out⟩
        case measure =>
          refine Nat.lt_of_le_of_lt (Nat.le_of_eq (congrArg (fun q => s.size - q) H4.out.1.cr.pos)) ?_
          rw [HF.out.2.1.cr.pos]
          omega
set_option maxRecDepth 20000 in
set_option maxHeartbeats 4000000 in
theorem several_way (b : Nat) (s sep : ByteArray) (hs : s.size ≤ 1000000) (hp : sep.size ≤ 100) (hp0 : 0 < sep.size) (R : Nat → RR Tr → Prop) (hR : ∀ a r, a ≤ s.size → R a r → r.In a s.size) (a d : Nat) (ha : a ≤ s.size) (w : World) (h : Cr b s a d w) (h1 : OneC b s d 54 R w) :
    Calls Tryz.prog 53 #[.pointer (some ⟨b, 0, none⟩), .string sep, .func (Fn.func 54) #[.pointer (some ⟨b, 0, none⟩)] #[]] w fun e w' => ∃ r, Sev (bl s) (bl sep) R a r ∧ SevPost b s d r w e w' := by
  obtain ⟨i0, hi0, hz0, hz1, hz2⟩ := info_of infoP
  have HO : Hid (∀ a W, a ≤ s.size → Cr b s a d W → Wt b w W → Calls Tryz.prog 54 #[.pointer (some ⟨b, 0, none⟩)] W fun e w' => ∃ r, R a r ∧ PartPost b s d r W e w') := h1
  have HT : Hid (∀ a W, a ≤ s.size → Cr b s a d W → Calls Tryz.prog 77 #[.pointer (some ⟨b, 0, none⟩), .string sep] W fun e w' => e = .returned (.bool (nextP (bl s) a (bl sep)).1) ∧ Cr b s (nextP (bl s) a (bl sep)).2 d w' ∧ Wt b W w') := fun a W h2 h3 => take_any b s sep hs hp a d h2 W h3
  have HR : Hid (∀ a r, a ≤ s.size → R a r → r.In a s.size) := hR
  have H0 : Hid (Fx b s a d w (w.alloc (.cells #[.int .i64 0, .int .i64 0] 43))) := Fx.start h
  have HL : Hid (0 < (bl sep).length) := by unfold Hid; rw [bl_length]; exact hp0
  clear h h1 hR hp0
  go_enter Tryz.func53, Tryz.ntmps53
  go_wp2_with fail
  go_loopw [8] (fun v8 wr => ∃ (k n : Nat) (sa : Option Addr) (sc : Nat) (vs : List Value) (acc : List Tr), v8 = .slice sa n sc ∧ k ≤ s.size ∧ n ≤ k ∧ Hid (n = vs.length ∧ Fx b s k d w wr ∧ wr.ownsRow (w.heap.size + 1) 66 1 (.slice sa n sc) n vs ∧ TVs wr (Apart w wr (.slice sa n sc)) vs acc ∧ ∀ r, Sev (bl s) (bl sep) R k r → Sev (bl s) (bl sep) R a (r.map (fun l => acc ++ l)))) (fun _ wr => s.size - posOf b wr)
  case atStart => exact ⟨a, 0, none, 0, [], [], rfl, ha, Nat.zero_le _, rfl, H0.out, World.ownsRow_nil _ _ _ _, ⟨rfl, fun i x t h1 => by cases h1⟩, fun r hr => by cases r <;> exact hr⟩
  case round =>
    obtain ⟨k, n, sa, sc, vs, acc, rfl, hk, hvk, HF⟩ := hrel
    clear H0
    go_wp2_with fail
    refine (HO.out k _ hk HF.out.2.1.cr HF.out.2.1.wt).mono ?_
    rintro e w1 ⟨r, hr, hpost⟩
    cases r with
    | bad y nn =>
      obtain ⟨hw1, v, rfl, a', hc1, _⟩ := hpost
      have hy := HR.out _ _ hk hr
      have hy0 : ¬ y = 0 := by rcases hy with rfl | rfl <;> decide
      have hyb : (y == 0) = false := by simpa using hy0
      have HD : Hid (∀ w2, Cr b s a' d w2 → Wt b w w2 → ∃ r, Sev (bl s) (bl sep) R a r ∧ SevPost b s d r w (.returned (.tuple #[.slice none 0 0, fV y (nn : Int)])) w2) := fun w2 h1 h2 => ⟨_, HF.out.2.2.2.2 _ (.bad hr), h2, rfl, a', h1⟩
      obtain ⟨W2, g, hW2, hg, hF2, hbx, hgl⟩ := (HF.out.2.1.next hc1 hw1).box (.int .i64 y) (.int .i64 (nn : Int))
      have H2 : Hid (Fx b s a' d w W2) := hF2
      go_upto_region 3 with fail
      rw [← hW2, ← hg]
      clear hr hw1 hc1 hy hW2 hg hF2
      have x0 := cellb hbx 0 rfl
      have x1 := cellb hbx 1 rfl
      have g0 := H2.out.b0
      have g1 := H2.out.b1
      have gf0 := H2.out.bf 0
      have gf1 := H2.out.bf 1
      clear hbx
      go_wp2_with fail
      go_region_with (fail)
      all_goals
        go_wp2
        refine bodyPost_ret (v := .tuple #[.slice none 0 0, fV y (nn : Int)]) (by simp [results, Tryz.results53, go_sem, g0, g1]; try rfl) rfl ?_
        first | exact HD.out _ (H2.out.fin _ _).1.drew (H2.out.fin _ _).2.drew | exact HD.out _ (H2.out.drew.fin _ _).1 (H2.out.drew.fin _ _).2 | exact HD.out _ (H2.out.fin _ _).1 (H2.out.fin _ _).2
    | ok p t =>
      obtain ⟨hw1, v, rfl, hc1, htv⟩ := hpost
      have hin := HR.out _ _ hk hr
      obtain ⟨T, xx, rfl⟩ := htv.iface
      obtain ⟨W2, g, hW2, hg, hF2, hbx, hgl⟩ := (HF.out.2.1.next hc1 hw1).box (.int .i64 0) (.int .i64 0)
      have hstep := sev_keep (W2 := W2) HF.out.2.1 (by rw [← HF.out.1]; exact HF.out.2.2.1) HF.out.2.2.2.1 hw1 htv (by rw [hW2]; exact (Below.refl _ _).alloc (Nat.le_refl _) _)
      rw [← HF.out.1] at hstep
      have H2 : Hid (Fx b s p d w W2 ∧ W2.ownsRow (w.heap.size + 1) 66 1 (.slice sa n sc) n vs ∧ TVs W2 (Apart w W2 (.slice sa n sc)) (vs ++ [.iface T xx]) (acc ++ [t])) := ⟨hF2, hstep.1, hstep.2⟩
      have HS : Hid (R k (.ok p t)) := hr
      go_upto_region 3 with fail
      rw [← hW2, ← hg]
      clear hr hw1 hc1 hW2 hg hF2 htv hstep
      have x0 := cellb hbx 0 rfl
      have x1 := cellb hbx 1 rfl
      clear hbx
      have hrow := H2.out.2.1
      have hkm : k ≤ 1000000 := by omega
      have hbw := H2.out.1.bl
      have hnx := next_le (p := bl sep) hin.2
      go_wp2_with (at_builtin; refine wpList_append_own_at _ rfl _ _ 110 rfl (w.heap.size + 1) 66 i0 .nilIface 1 16 Tryz.underlying110 hi0 hz0 hz1 hz2 rfl (by decide) _ _ _ rfl (hrow.alloc _) ⟨W2.heap.size, 0, none⟩ 1 1 [.iface T xx] rfl rfl (cell_onev _ _ _) (by intro u hu; simp at hu; subst hu; rfl) (by unfold maxLen; omega) (by omega) (by simp; omega) ?_)
      intro v3 w3 hown hgrow _ hloc
      obtain ⟨sa3, sc3, hv3⟩ := V.owns_slice hown
      subst hv3
      have H3 : Hid (Fx b s p d w w3 ∧ w3.ownsRow (w.heap.size + 1) 66 1 (.slice sa3 (n + 1) sc3) (n + 1) (vs ++ [.iface T xx]) ∧ TVs w3 (Apart w w3 (.slice sa3 (n + 1) sc3)) (vs ++ [.iface T xx]) (acc ++ [t])) := sev_grow H2.out.1 H2.out.2.1 H2.out.2.2 hgrow hown hloc
      clear hown hgrow hloc hrow x0 x1
      have HK := HT.out p w3 hin.2 H3.out.1.cr
      cases hnt : (nextP (bl s) p (bl sep)).1
      · rw [hnt] at HK
        have HK2 : Hid (Calls Tryz.prog 77 #[.pointer (some ⟨b, 0, none⟩), .string sep] w3 fun e w' => e = .returned (.bool false) ∧ Cr b s (nextP (bl s) p (bl sep)).2 d w' ∧ Wt b w3 w') := HK
        have HV : Hid (Sev (bl s) (bl sep) R a (.ok (nextP (bl s) p (bl sep)).2 (acc ++ [t]))) := HF.out.2.2.2.2 _ (.last HS.out hnt)
        clear HK hnt
        go_wp2_with fail
        refine HK2.out.mono ?_
        rintro e w4 ⟨rfl, hc4, hw4⟩
        have H4 : Hid (Fx b s (nextP (bl s) p (bl sep)).2 d w w4 ∧ PRow w4 (Inn w w4) (.slice sa3 (n + 1) sc3) (vs ++ [.iface T xx]) ∧ TVs w4 (Inn w w4) (vs ++ [.iface T xx]) (acc ++ [t])) := by
          have h1 := H3.out.1.next hc4 hw4
          refine ⟨h1, ?_, H3.out.2.2.kept fun g hg => ⟨⟨hg.1, Nat.lt_of_lt_of_le hg.2.1 hw4.size⟩, hw4.block g hg.2.1 (by have := h1.hb; have := hg.1; omega)⟩⟩
          have hp3 : PRow w3 (Inn w w3) (.slice sa3 (n + 1) sc3) (vs ++ [.iface T xx]) := prow_of (B := w.heap.size + 1) (by rw [List.length_append, List.length_singleton, ← HF.out.1]; exact H3.out.2.1) (fun g hg => by have := H3.out.2.1.lt g hg; exact ⟨by omega, this.2⟩)
          exact hp3.kept fun g hg => ⟨⟨hg.1, Nat.lt_of_lt_of_le hg.2 hw4.size⟩, hw4.block g hg.2 (by have := h1.hb; have := hg.1; omega)⟩
        clear hc4 hw4
        have g0 := H4.out.1.b0
        have g1 := H4.out.1.b1
        have gf0 := H4.out.1.bf 0
        have gf1 := H4.out.1.bf 1
        go_wp2
        refine bodyPost_ret (v := .tuple #[.slice sa3 (n + 1) sc3, fV 0 0]) (by simp [results, Tryz.results53, go_sem, g0, g1]; try rfl) rfl ?_
        exact ⟨_, HV.out, (H4.out.1.fin _ _).2, _, _, rfl, (H4.out.1.fin _ _).1, H4.out.2.1.kept (inn_fin _ _), H4.out.2.2.kept (inn_fin _ _)⟩
      · rw [hnt] at HK
        have HK2 : Hid (Calls Tryz.prog 77 #[.pointer (some ⟨b, 0, none⟩), .string sep] w3 fun e w' => e = .returned (.bool true) ∧ Cr b s (nextP (bl s) p (bl sep)).2 d w' ∧ Wt b w3 w') := HK
        have HV : Hid (∀ r, Sev (bl s) (bl sep) R (nextP (bl s) p (bl sep)).2 r → Sev (bl s) (bl sep) R a (r.map (fun l => (acc ++ [t]) ++ l))) := fun r hr => by
          have h1 := HF.out.2.2.2.2 _ (.more HS.out hnt hr)
          cases r with
          | ok x y => simpa [RR.map] using h1
          | bad x y => exact h1
        have hmr : p + (bl sep).length ≤ (nextP (bl s) p (bl sep)).2 := hnx.2.2 hnt
        obtain ⟨p4, hp4⟩ : ∃ p4, p4 = (nextP (bl s) p (bl sep)).2 := ⟨_, rfl⟩
        rw [← hp4] at HK2 HV hmr hnx
        have hl0 := HL.out
        have hp5 : k < p4 := by have := hin.1; omega
        have hp6 : p4 ≤ s.size := hnx.2.1
        clear HK hnt hmr hnx hp4 hl0
        go_wp2_with fail
        refine HK2.out.mono ?_
        rintro e w4 ⟨rfl, hc4, hw4⟩
        have H4 : Hid (Fx b s p4 d w w4 ∧ w4.ownsRow (w.heap.size + 1) 66 1 (.slice sa3 (n + 1) sc3) (n + 1) (vs ++ [.iface T xx]) ∧ TVs w4 (Apart w w4 (.slice sa3 (n + 1) sc3)) (vs ++ [.iface T xx]) (acc ++ [t])) := by
          have h1 := H3.out.1.next hc4 hw4
          have hb' := h1.hb
          exact ⟨h1, H3.out.2.1.kept (row := some b) ⟨hw4.os, hw4.tape, hw4.output, hw4.size, fun j hj hn => hw4.block j hj (fun e => hn (by rw [e]))⟩ (.inr (fun e => by have := (H3.out.2.1.lt b e).1; omega)), H3.out.2.2.kept fun g hg => ⟨⟨hg.1, Nat.lt_of_lt_of_le hg.2.1 hw4.size, hg.2.2⟩, hw4.block g hg.2.1 (by have := hg.1; omega)⟩⟩
        clear hc4 hw4
        go_wp2_with fail
        go_roundw
        case rel => exact ⟨p4, n + 1, sa3, sc3, vs ++ [.iface T xx], acc ++ [t], rfl, hp6, by omega, by rw [List.length_append, List.length_singleton, ← HF.out.1], H4.out.1, H4.out.2.1, H4.out.2.2, HV.out⟩
        case measure =>
          refine Nat.lt_of_le_of_lt (Nat.le_of_eq (congrArg (fun q => s.size - q) H4.out.1.cr.pos)) ?_
          rw [HF.out.2.1.cr.pos]
          omega
end Go.Proofs.YtkelmhpoplbacaaGreatDoor.Cd
namespace Go.Proofs.YtkelmhpoplbacaaGreatDoor.Cd
open Go.RowKit Go.Shelf Ex

theorem part_skip {s : ByteArray} {k a : Nat} {r : RR Tr} (ha : a ≤ s.size) (h : PartR s k (skipP (bl s) a) r) : PartR s k a r := by
  cases k <;> (unfold PartR at h ⊢; rw [skip_idem ha] at h; exact h)
theorem sev_skip {s : ByteArray} {sep : List UInt8} {one : Nat → RR Tr → Prop} {a : Nat} {r : RR (List Tr)} (h1 : ∀ r, one (skipP (bl s) a) r → one a r) (h : Sev (bl s) sep one (skipP (bl s) a) r) : Sev (bl s) sep one a r := by
  cases h with
  | bad h => exact .bad (h1 _ h)
  | last h hn => exact .last (h1 _ h) hn
  | more h hn h2 => exact .more (h1 _ h) hn h2
/-- Blanks ahead turn nothing. -/
def Skips (s : ByteArray) (R : Nat → RR Tr → Prop) : Prop := ∀ a r, a ≤ s.size → R (skipP (bl s) a) r → R a r
theorem way_skip {s : ByteArray} {R : Nat → RR Tr → Prop} (h : Skips s R) : Skips s (WayR (bl s) R) := fun a r ha hr => by
  obtain ⟨x, hx, rfl⟩ := hr
  rw [skip_idem ha]
  exact ⟨x, sev_skip (fun r hr => h a r ha hr) hx, rfl⟩
/-- The answer of a list of parts, made to one. -/
theorem TVs.row {w : World} {P : Nat → Prop} {vs : List Value} {ts : List Tr} (h : TVs w P vs ts) : vs.length = ts.length ∧ ∀ (i : Nat) (x : Value) (t : Tr), vs[i]? = some x → ts[i]? = some t → TV w P x t := h
theorem new_next {b : Nat} {s : ByteArray} {a d : Nat} {w W w1 W2 : World} (hF : Fx b s a d w W) (hb : Below w1.heap.size w1 W2) (x y : Value) : ∀ g, New W w1 g → New w ((W2.setCell ⟨w.heap.size, 0, none⟩ x).setCell ⟨w.heap.size, 1, none⟩ y) g ∧ ((W2.setCell ⟨w.heap.size, 0, none⟩ x).setCell ⟨w.heap.size, 1, none⟩ y).heap[g]? = w1.heap[g]? := fun g hg => by
  have h0 := hF.bl
  have h1 : g ≠ w.heap.size := by have := hg.1; omega
  exact ⟨⟨by have := hg.1; omega, by rw [size_set, size_set]; exact Nat.lt_of_lt_of_le hg.2 hb.size⟩, ((Below.heap_setCell _ _ _ _ h1).trans (Below.heap_setCell _ _ _ _ h1)).trans (hb.block g hg.2)⟩
set_option maxRecDepth 20000 in
set_option maxHeartbeats 2000000 in
theorem way_any (b : Nat) (s : ByteArray) (hs : s.size ≤ 1000000) (R : Nat → RR Tr → Prop) (hR : ∀ a r, a ≤ s.size → R a r → r.In a s.size) (hsk : Skips s R) (d : Nat) (w0 : World) (h1 : OneC b s d 78 R w0) : OneC b s d 54 (WayR (bl s) R) w0 := by
  intro a w ha h hw0
  have hq := skip_le ha
  have H0 : Hid (Fx b s a d w (w.alloc (.cells #[.int .i64 0, .int .i64 0] 43))) := Fx.start h
  obtain ⟨W1, hW1⟩ : ∃ W1, W1 = w.alloc (.cells #[.int .i64 0, .int .i64 0] 43) := ⟨_, rfl⟩
  rw [← hW1] at H0
  have HB : Hid (Calls Tryz.prog 52 #[.pointer (some ⟨b, 0, none⟩)] W1 fun e w' => e = .returned (.int .i64 (skipP (bl s) a : Nat)) ∧ Cr b s (skipP (bl s) a) d w' ∧ Wt b W1 w') := begin_any b s hs a d ha W1 H0.out.cr
  have HS : Hid (∀ W, Cr b s (skipP (bl s) a) d W → Wt b w W → Calls Tryz.prog 53 #[.pointer (some ⟨b, 0, none⟩), .string ⟨#[38, 38]⟩, .func (Fn.func 78) #[.pointer (some ⟨b, 0, none⟩)] #[]] W fun e w' => ∃ r, Sev (bl s) [38, 38] R (skipP (bl s) a) r ∧ SevPost b s d r W e w') := fun W hc hw => several_part b s ⟨#[38, 38]⟩ hs (by decide) (by decide) R hR (skipP (bl s) a) d hq.2 W hc (fun a' W' ha' hc' hw' => h1 a' W' ha' hc' ((hw0.trans hw).trans hw'))
  have HX : Hid (∀ r, Sev (bl s) [38, 38] R (skipP (bl s) a) r → WayR (bl s) R a (r.map (Tr.all_ (skipP (bl s) a)))) := fun r hr => ⟨r, sev_skip (fun r hr => hsk a r ha hr) hr, rfl⟩
  generalize skipP (bl s) a = q at HB HS hq HX
  clear h h1 hR hsk hw0
  go_enter Tryz.func54, Tryz.ntmps54
  go_wp2_with fail
  rw [← hW1]
  clear hW1
  refine HB.out.mono ?_
  rintro e w2 ⟨rfl, hc2, hw2⟩
  have hF2 := H0.out.next hc2 hw2
  go_wp2_with fail
  refine (HS.out _ hc2 hF2.wt).mono ?_
  rintro e w3 ⟨r, hr, hpost⟩
  cases r with
  | bad y n =>
    obtain ⟨hw3, rfl, a', hc3⟩ := hpost
    have HD : Hid (∀ w2 v, Cr b s a' d w2 → Wt b w w2 → ∃ r, WayR (bl s) R a r ∧ PartPost b s d r w (.returned (.tuple #[.iface 114 (.agg #[.int .i64 (q : Int), v]), fV y (n : Int)])) w2) := fun w2 v h1 h2 => ⟨_, HX.out _ hr, h2, _, rfl, a', h1, .inl ⟨_, _, rfl⟩⟩
    obtain ⟨W4, g, hW4, hg, hF4, hbx, hgl⟩ := (hF2.next hc3 hw3).box (.int .i64 y) (.int .i64 (n : Int))
    have H4 : Hid (Fx b s a' d w W4) := hF4
    go_upto_region 3 with fail
    rw [← hW4, ← hg]
    clear hr hw2 hc2 hF2 hw3 hc3 hW4 hg hF4
    have x0 := cellb hbx 0 rfl
    have x1 := cellb hbx 1 rfl
    have g0 := H4.out.b0
    have g1 := H4.out.b1
    have gf0 := H4.out.bf 0
    have gf1 := H4.out.bf 1
    clear hbx
    go_wp2_with fail
    go_region_with (fail)
    all_goals
      go_wp2
      refine bodyPost_ret (v := .tuple #[.iface 114 (.agg #[.int .i64 (q : Int), .slice none 0 0]), fV y (n : Int)]) (by simp [results, Tryz.results54, go_sem, g0, g1]; try rfl) rfl ?_
      first | exact HD.out _ _ (H4.out.fin _ _).1.drew (H4.out.fin _ _).2.drew | exact HD.out _ _ (H4.out.drew.fin _ _).1 (H4.out.drew.fin _ _).2 | exact HD.out _ _ (H4.out.fin _ _).1 (H4.out.fin _ _).2
  | ok p ts =>
    obtain ⟨hw3, v, vs, rfl, hc3, hpr, htv⟩ := hpost
    obtain ⟨sa, sc, hsv⟩ : ∃ sa sc, v = .slice sa vs.length sc := ⟨hpr.choose, hpr.choose_spec.choose, hpr.choose_spec.choose_spec.1⟩
    subst hsv
    obtain ⟨W4, g, hW4, hg, hF4, hbx, hgl⟩ := (hF2.next hc3 hw3).box (.int .i64 0) (.int .i64 0)
    have hb4 : Below w3.heap.size w3 W4 := by rw [hW4]; exact (Below.refl _ _).alloc (Nat.le_refl _) _
    have HD : Hid (∀ (x y : Value) (W5 : World), Below W4.heap.size W4 W5 → Fx b s p d w W5 → ∀ w6, w6.heap = ((W5.setCell ⟨w.heap.size, 0, none⟩ x).setCell ⟨w.heap.size, 1, none⟩ y).heap → Wt b w w6 → ∃ r, WayR (bl s) R a r ∧ PartPost b s d r w (.returned (.tuple #[.iface 114 (.agg #[.int .i64 (q : Int), .slice sa vs.length sc]), fV 0 0])) w6) := fun x y W5 hb5 hF5 w6 hh hw6 => by
      have hk := new_next hF2 (hb4.trans (hb5.mono hb4.size)) x y
      have hk6 : ∀ g, New w2 w3 g → New w w6 g ∧ w6.heap[g]? = w3.heap[g]? := fun g hg => by
        have := hk g hg
        unfold New at this ⊢
        rw [hh]; exact this
      refine ⟨_, HX.out _ hr, hw6, _, rfl, ?_, .all_ (hpr.kept hk6) (htv.kept hk6).1 (htv.kept hk6).2⟩
      have := (hF5.fin x y).1
      unfold Cr at this ⊢
      rw [hh]; exact this
    have H4 : Hid (Fx b s p d w W4) := hF4
    go_upto_region 3 with fail
    rw [← hW4, ← hg]
    clear hr hw2 hc2 hF2 hw3 hc3 hW4 hg hF4 hpr htv
    have x0 := cellb hbx 0 rfl
    have x1 := cellb hbx 1 rfl
    have g0 := H4.out.b0
    have g1 := H4.out.b1
    have gf0 := H4.out.bf 0
    have gf1 := H4.out.bf 1
    clear hbx
    go_wp2_with fail
    go_region_with (fail)
    all_goals
      go_wp2
      refine bodyPost_ret (v := .tuple #[.iface 114 (.agg #[.int .i64 (q : Int), .slice sa vs.length sc]), fV 0 0]) (by simp [results, Tryz.results54, go_sem, g0, g1]; try rfl) rfl ?_
      first | exact HD.out _ _ W4 (Below.refl _ _) H4.out _ rfl (H4.out.fin _ _).2.drew | exact HD.out _ _ W4.drew (Below.refl _ _).drew H4.out.drew _ rfl (H4.out.drew.fin _ _).2 | exact HD.out _ _ W4 (Below.refl _ _) H4.out _ rfl (H4.out.fin _ _).2
set_option maxRecDepth 20000 in
set_option maxHeartbeats 2000000 in
theorem condition_any (b : Nat) (s : ByteArray) (hs : s.size ≤ 1000000) (R : Nat → RR Tr → Prop) (hR : ∀ a r, a ≤ s.size → (WayR (bl s) R) a r → r.In a s.size) (hsk : Skips s (WayR (bl s) R)) (d : Nat) (w0 : World) (h1 : OneC b s d 54 (WayR (bl s) R) w0) : OneC b s d 32 (CondR (bl s) R) w0 := by
  intro a w ha h hw0
  have hq := skip_le ha
  have H0 : Hid (Fx b s a d w (w.alloc (.cells #[.int .i64 0, .int .i64 0] 43))) := Fx.start h
  obtain ⟨W1, hW1⟩ : ∃ W1, W1 = w.alloc (.cells #[.int .i64 0, .int .i64 0] 43) := ⟨_, rfl⟩
  rw [← hW1] at H0
  have HB : Hid (Calls Tryz.prog 52 #[.pointer (some ⟨b, 0, none⟩)] W1 fun e w' => e = .returned (.int .i64 (skipP (bl s) a : Nat)) ∧ Cr b s (skipP (bl s) a) d w' ∧ Wt b W1 w') := begin_any b s hs a d ha W1 H0.out.cr
  have HS : Hid (∀ W, Cr b s (skipP (bl s) a) d W → Wt b w W → Calls Tryz.prog 53 #[.pointer (some ⟨b, 0, none⟩), .string ⟨#[124, 124]⟩, .func (Fn.func 54) #[.pointer (some ⟨b, 0, none⟩)] #[]] W fun e w' => ∃ r, Sev (bl s) [124, 124] (WayR (bl s) R) (skipP (bl s) a) r ∧ SevPost b s d r W e w') := fun W hc hw => several_way b s ⟨#[124, 124]⟩ hs (by decide) (by decide) (WayR (bl s) R) hR (skipP (bl s) a) d hq.2 W hc (fun a' W' ha' hc' hw' => h1 a' W' ha' hc' ((hw0.trans hw).trans hw'))
  have HX : Hid (∀ r, Sev (bl s) [124, 124] (WayR (bl s) R) (skipP (bl s) a) r → CondR (bl s) R a (r.map (Tr.some_ (skipP (bl s) a)))) := fun r hr => ⟨r, sev_skip (fun r hr => hsk a r ha hr) hr, rfl⟩
  generalize skipP (bl s) a = q at HB HS hq HX
  clear h h1 hR hsk hw0
  go_enter Tryz.func32, Tryz.ntmps32
  go_wp2_with fail
  rw [← hW1]
  clear hW1
  refine HB.out.mono ?_
  rintro e w2 ⟨rfl, hc2, hw2⟩
  have hF2 := H0.out.next hc2 hw2
  go_wp2_with fail
  refine (HS.out _ hc2 hF2.wt).mono ?_
  rintro e w3 ⟨r, hr, hpost⟩
  cases r with
  | bad y n =>
    obtain ⟨hw3, rfl, a', hc3⟩ := hpost
    have HD : Hid (∀ w2 v, Cr b s a' d w2 → Wt b w w2 → ∃ r, CondR (bl s) R a r ∧ PartPost b s d r w (.returned (.tuple #[.iface 112 (.agg #[.int .i64 (q : Int), v]), fV y (n : Int)])) w2) := fun w2 v h1 h2 => ⟨_, HX.out _ hr, h2, _, rfl, a', h1, .inl ⟨_, _, rfl⟩⟩
    obtain ⟨W4, g, hW4, hg, hF4, hbx, hgl⟩ := (hF2.next hc3 hw3).box (.int .i64 y) (.int .i64 (n : Int))
    have H4 : Hid (Fx b s a' d w W4) := hF4
    go_upto_region 3 with fail
    rw [← hW4, ← hg]
    clear hr hw2 hc2 hF2 hw3 hc3 hW4 hg hF4
    have x0 := cellb hbx 0 rfl
    have x1 := cellb hbx 1 rfl
    have g0 := H4.out.b0
    have g1 := H4.out.b1
    have gf0 := H4.out.bf 0
    have gf1 := H4.out.bf 1
    clear hbx
    go_wp2_with fail
    go_region_with (fail)
    all_goals
      go_wp2
      refine bodyPost_ret (v := .tuple #[.iface 112 (.agg #[.int .i64 (q : Int), .slice none 0 0]), fV y (n : Int)]) (by simp [results, Tryz.results32, go_sem, g0, g1]; try rfl) rfl ?_
      first | exact HD.out _ _ (H4.out.fin _ _).1.drew (H4.out.fin _ _).2.drew | exact HD.out _ _ (H4.out.drew.fin _ _).1 (H4.out.drew.fin _ _).2 | exact HD.out _ _ (H4.out.fin _ _).1 (H4.out.fin _ _).2
  | ok p ts =>
    obtain ⟨hw3, v, vs, rfl, hc3, hpr, htv⟩ := hpost
    obtain ⟨sa, sc, hsv⟩ : ∃ sa sc, v = .slice sa vs.length sc := ⟨hpr.choose, hpr.choose_spec.choose, hpr.choose_spec.choose_spec.1⟩
    subst hsv
    obtain ⟨W4, g, hW4, hg, hF4, hbx, hgl⟩ := (hF2.next hc3 hw3).box (.int .i64 0) (.int .i64 0)
    have hb4 : Below w3.heap.size w3 W4 := by rw [hW4]; exact (Below.refl _ _).alloc (Nat.le_refl _) _
    have HD : Hid (∀ (x y : Value) (W5 : World), Below W4.heap.size W4 W5 → Fx b s p d w W5 → ∀ w6, w6.heap = ((W5.setCell ⟨w.heap.size, 0, none⟩ x).setCell ⟨w.heap.size, 1, none⟩ y).heap → Wt b w w6 → ∃ r, CondR (bl s) R a r ∧ PartPost b s d r w (.returned (.tuple #[.iface 112 (.agg #[.int .i64 (q : Int), .slice sa vs.length sc]), fV 0 0])) w6) := fun x y W5 hb5 hF5 w6 hh hw6 => by
      have hk := new_next hF2 (hb4.trans (hb5.mono hb4.size)) x y
      have hk6 : ∀ g, New w2 w3 g → New w w6 g ∧ w6.heap[g]? = w3.heap[g]? := fun g hg => by
        have := hk g hg
        unfold New at this ⊢
        rw [hh]; exact this
      refine ⟨_, HX.out _ hr, hw6, _, rfl, ?_, .some_ (hpr.kept hk6) (htv.kept hk6).1 (htv.kept hk6).2⟩
      have := (hF5.fin x y).1
      unfold Cr at this ⊢
      rw [hh]; exact this
    have H4 : Hid (Fx b s p d w W4) := hF4
    go_upto_region 3 with fail
    rw [← hW4, ← hg]
    clear hr hw2 hc2 hF2 hw3 hc3 hW4 hg hF4 hpr htv
    have x0 := cellb hbx 0 rfl
    have x1 := cellb hbx 1 rfl
    have g0 := H4.out.b0
    have g1 := H4.out.b1
    have gf0 := H4.out.bf 0
    have gf1 := H4.out.bf 1
    clear hbx
    go_wp2_with fail
    go_region_with (fail)
    all_goals
      go_wp2
      refine bodyPost_ret (v := .tuple #[.iface 112 (.agg #[.int .i64 (q : Int), .slice sa vs.length sc]), fV 0 0]) (by simp [results, Tryz.results32, go_sem, g0, g1]; try rfl) rfl ?_
      first | exact HD.out _ _ W4 (Below.refl _ _) H4.out _ rfl (H4.out.fin _ _).2.drew | exact HD.out _ _ W4.drew (Below.refl _ _).drew H4.out.drew _ rfl (H4.out.drew.fin _ _).2 | exact HD.out _ _ W4 (Below.refl _ _) H4.out _ rfl (H4.out.fin _ _).2
end Go.Proofs.YtkelmhpoplbacaaGreatDoor.Cd
namespace Go.Proofs.YtkelmhpoplbacaaGreatDoor.Cd
open Go.RowKit Go.Shelf Ex

theorem next_one {s : ByteArray} {q : Nat} (c : UInt8) (h : skipP (bl s) q = q) : nextP (bl s) q [c] = if (bl s)[q]? = some c then (true, q + 1) else (false, q) := by
  unfold nextP
  rw [h]
  have h2 := pre_at (s := s) (q := q) c
  have h3 := pre_next s ⟨#[c]⟩ q
  have e : bl (⟨#[c]⟩ : ByteArray) = [c] := rfl
  rw [e] at h3
  rw [h3] at h2
  rw [h2]
  by_cases hc : (bl s)[q]? = some c
  · rw [decide_eq_true hc, if_pos rfl, if_pos hc]; rfl
  · rw [decide_eq_false hc, if_neg (by decide), if_neg hc]
/-- What is read within a bracket or behind a negation. -/
def InnC (b : Nat) (s : ByteArray) (a d k : Nat) (q : Nat) (R : RR Tr → Prop) (w : World) : Prop :=
  ∀ W, Cr b s a (d + 1) W → Wt b w W → Calls Tryz.prog k #[.pointer (some ⟨b, 0, none⟩), .int .i64 (q : Int)] W fun e w' => ∃ r, R r ∧ PartPost b s (d + 1) r W e w'
theorem IfV.cells {v : Value} (h : IfV v) : (∃ T x, v = .iface T x) ∨ v = .nilIface := h
/-- A part that an inner call has made, as the outer call hands it on. -/
theorem PartPost.up {b : Nat} {s : ByteArray} {a d : Nat} {w W w1 W5 w6 : World} {v : Value} {t : Tr} (hF : Fx b s a d w W) (ht : TV w1 (New W w1) v t) (hb : Below w1.heap.size w1 W5 ∨ Wt b w1 W5) (x y : Value) (hh : w6.heap = ((W5.setCell ⟨w.heap.size, 0, none⟩ x).setCell ⟨w.heap.size, 1, none⟩ y).heap) : TV w6 (New w w6) v t := by
  have h0 := hF.bl
  have h2 := hF.hb
  refine ht.kept fun g hg => ?_
  have h1 : g ≠ w.heap.size := by have := hg.1; omega
  have h3 : g ≠ b := by have := hg.1; omega
  have hz : w1.heap.size ≤ W5.heap.size := by rcases hb with h | h <;> exact h.size
  have hk : W5.heap[g]? = w1.heap[g]? := by
    rcases hb with h | h
    · exact h.block g hg.2
    · exact h.block g hg.2 h3
  unfold New
  rw [hh]
  exact ⟨⟨by have := hg.1; omega, by rw [size_set, size_set]; exact Nat.lt_of_lt_of_le hg.2 hz⟩, ((Below.heap_setCell _ _ _ _ h1).trans (Below.heap_setCell _ _ _ _ h1)).trans hk⟩
theorem cr_heap {b : Nat} {s : ByteArray} {a d : Nat} {w w' : World} (h : Cr b s a d w) (e : w'.heap = w.heap) : Cr b s a d w' := by
  unfold Cr at h ⊢; rw [e]; exact h
set_option maxHeartbeats 1000000 in
theorem within_many (k : Nat) (b : Nat) (s : ByteArray) (a : Nat) (q : Nat) (w : World) (h : Cr b s a 32 w) :
    Calls Tryz.prog 106 #[.pointer (some ⟨b, 0, none⟩), .int .i64 (q : Int), .func (Fn.func k) #[.pointer (some ⟨b, 0, none⟩)] #[]] w (PartPost b s 32 (.bad 5 q) w) := by
  have HB : Hid (∀ W, Calls Tryz.prog 131 #[.int .i64 (q : Int)] W fun e w' => e = .returned (.int .i64 (q : Int)) ∧ W = w') := fun W => begins_any _ W
  have H0 : Hid (Fx b s a 32 w (w.alloc (.cells #[.int .i64 0, .int .i64 0] 43))) := Fx.start h
  obtain ⟨W1, hW1⟩ : ∃ W1, W1 = w.alloc (.cells #[.int .i64 0, .int .i64 0] 43) := ⟨_, rfl⟩
  rw [← hW1] at H0
  have c2 := H0.out.cr.c2
  have g0 := H0.out.b0
  have g1 := H0.out.b1
  have gf0 := H0.out.bf 0
  have gf1 := H0.out.bf 1
  clear h
  go_enter Tryz.func106, Tryz.ntmps106
  go_upto_region 1 with fail
  rw [← hW1]
  clear hW1
  go_wp2_with fail
  refine (HB.out _).mono ?_
  rintro e w2 ⟨rfl, rfl⟩
  go_wp2
  refine bodyPost_ret (v := .tuple #[.nilIface, fV 5 (q : Int)]) (by simp [results, Tryz.results106, go_sem, g0, g1]; try rfl) rfl ?_
  exact ⟨(H0.out.fin _ _).2, _, rfl, a, (H0.out.fin _ _).1, .inr rfl⟩
set_option maxRecDepth 20000 in
set_option maxHeartbeats 2000000 in
theorem within_negated (b : Nat) (s : ByteArray) (a d : Nat) (hd : d < 32) (q : Nat) (R : RR Tr → Prop) (w : World) (h : Cr b s a d w) (hI : InnC b s a d 107 q R w) :
    Calls Tryz.prog 106 #[.pointer (some ⟨b, 0, none⟩), .int .i64 (q : Int), .func (Fn.func 107) #[.pointer (some ⟨b, 0, none⟩)] #[]] w fun e w' => ∃ r, R r ∧ PartPost b s d r w e w' := by
  have H0 : Hid (Fx b s a d w (w.alloc (.cells #[.int .i64 0, .int .i64 0] 43))) := Fx.start h
  obtain ⟨W1, hW1⟩ : ∃ W1, W1 = w.alloc (.cells #[.int .i64 0, .int .i64 0] 43) := ⟨_, rfl⟩
  rw [← hW1] at H0
  have c2 := H0.out.cr.c2
  have f2 := H0.out.cr.fr 2
  have HI : Hid (∀ W, Cr b s a (d + 1) W → Wt b w W → Calls Tryz.prog 107 #[.pointer (some ⟨b, 0, none⟩), .int .i64 (q : Int)] W fun e w' => ∃ r, R r ∧ PartPost b s (d + 1) r W e w') := hI
  have hd1 : ¬ (d : Int) = 32 := by omega
  have hd2 : ((d : Int) == 32) = false := by simpa using hd1
  have H2 : Hid (Fx b s a (d + 1) w (W1.setCell ⟨b, 2, none⟩ (.int .i64 ((d : Int) + 1)))) := H0.out.deep_ (d + 1) _ (by omega)
  obtain ⟨W2, hW2⟩ : ∃ W2, W2 = W1.setCell ⟨b, 2, none⟩ (.int .i64 ((d : Int) + 1)) := ⟨_, rfl⟩
  rw [← hW2] at H2
  clear h hI
  go_enter Tryz.func106, Tryz.ntmps106
  go_upto_region 1 with fail
  rw [← hW1]
  clear hW1
  go_wp2_with fail
  rw [← hW2]
  clear hW2 c2 f2
  refine (HI.out _ H2.out.cr H2.out.wt).mono ?_
  rintro e w3 ⟨r, hr, hpost⟩
  have hpost2 : ∃ v y n a3, e = .returned (.tuple #[v, fV y n]) ∧ Wt b W2 w3 ∧ Cr b s a3 (d + 1) w3 ∧ IfV v ∧ ∀ (x1 y1 : Value) (W5 w6 : World), Wt b w3 W5 → w6.heap = ((W5.setCell ⟨w.heap.size, 0, none⟩ x1).setCell ⟨w.heap.size, 1, none⟩ y1).heap → Wt b w w6 → Cr b s a3 d w6 → PartPost b s d r w (.returned (.tuple #[v, fV y n])) w6 := by
    cases r with
    | bad y n => obtain ⟨h1, v, h2, a', h3, h4⟩ := hpost; exact ⟨v, y, n, a', h2, h1, h3, h4, fun _ _ _ w6 _ _ h5 h6 => ⟨h5, _, rfl, a', h6, h4⟩⟩
    | ok p t => obtain ⟨h1, v, h2, h3, h4⟩ := hpost; exact ⟨v, 0, 0, p, h2, h1, h3, .inl h4.iface, fun x1 y1 W5 w6 h5 hh h6 h7 => ⟨h6, _, rfl, h7, PartPost.up H2.out h4 (.inr h5) x1 y1 hh⟩⟩
  clear hpost
  obtain ⟨v, y, n, a3, rfl, hw3, hc3, hif, hdone⟩ := hpost2
  obtain ⟨W4, g, hW4, hg, hF4, hbx, hgl⟩ := (H2.out.next hc3 hw3).box (.int .i64 y) (.int .i64 n)
  have hW34 : Wt b w3 W4 := by rw [hW4]; exact Wt.below ((Below.refl _ _).alloc (Nat.le_refl _) _)
  have H5 : Fx b s a3 d w (W4.setCell ⟨b, 2, none⟩ (.int .i64 (d : Int))) := hF4.deep_ d _ rfl
  have hg5 : (W4.setCell ⟨b, 2, none⟩ (.int .i64 (d : Int))).heap[g]? = some (.cells #[.int .i64 y, .int .i64 n] 43 (0, 0)) := by
    have hne : g ≠ b := by have := hF4.hb; omega
    exact (Below.heap_setCell _ _ _ _ hne).trans hbx
  have c4 := hF4.cr.c2
  have f4 := hF4.cr.fr 2
  obtain ⟨W5, hW5⟩ : ∃ W5, W5 = W4.setCell ⟨b, 2, none⟩ (.int .i64 (d : Int)) := ⟨_, rfl⟩
  rw [← hW5] at H5 hg5
  have H5' : Hid (Fx b s a3 d w W5 ∧ Wt b w3 W5) := ⟨H5, hW34.trans (by rw [hW5]; exact (Wt.refl _ _).set _)⟩
  have HD : Hid (∀ (x1 y1 : Value) (W5 w6 : World), Wt b w3 W5 → w6.heap = ((W5.setCell ⟨w.heap.size, 0, none⟩ x1).setCell ⟨w.heap.size, 1, none⟩ y1).heap → Wt b w w6 → Cr b s a3 d w6 → PartPost b s d r w (.returned (.tuple #[v, fV y n])) w6) := hdone
  have HR : Hid (R r) := hr
  have hdb : d ≤ 100 := by omega
  rw [show ((d + 1 : Nat) : Int) = (d : Int) + 1 by omega] at c4
  clear hw3 hc3 hdone hF4 hbx H5 hW34 hr
  rcases hif with ⟨T, xx, rfl⟩ | rfl
  all_goals
    go_upto_region 5 with fail
    rw [← hW4, ← hg]
    clear hW4 hg
    go_upto_region 6 with fail
    rw [← hW5]
    clear hW5 c4 f4
    have x0 := cellb hg5 0 rfl
    have x1 := cellb hg5 1 rfl
    have g0 := H5'.out.1.b0
    have g1 := H5'.out.1.b1
    have gf0 := H5'.out.1.bf 0
    have gf1 := H5'.out.1.bf 1
    clear hg5
    go_wp2_with fail
    go_region_with (fail)
    all_goals
      go_wp2
      first
        | refine bodyPost_ret (v := .tuple #[.iface T xx, fV y n]) (by simp [results, Tryz.results106, go_sem, g0, g1]; try rfl) rfl ?_
        | refine bodyPost_ret (v := .tuple #[.nilIface, fV y n]) (by simp [results, Tryz.results106, go_sem, g0, g1]; try rfl) rfl ?_
      first | exact ⟨r, HR.out, HD.out _ _ W5 _ H5'.out.2 rfl (H5'.out.1.fin _ _).2.drew (H5'.out.1.fin _ _).1.drew⟩ | exact ⟨r, HR.out, HD.out _ _ W5.drew _ H5'.out.2.drew rfl (H5'.out.1.drew.fin _ _).2 (H5'.out.1.drew.fin _ _).1⟩
set_option maxRecDepth 20000 in
set_option maxHeartbeats 2000000 in
theorem within_bracketed (b : Nat) (s : ByteArray) (a d : Nat) (hd : d < 32) (q : Nat) (R : RR Tr → Prop) (w : World) (h : Cr b s a d w) (hI : InnC b s a d 108 q R w) :
    Calls Tryz.prog 106 #[.pointer (some ⟨b, 0, none⟩), .int .i64 (q : Int), .func (Fn.func 108) #[.pointer (some ⟨b, 0, none⟩)] #[]] w fun e w' => ∃ r, R r ∧ PartPost b s d r w e w' := by
  have H0 : Hid (Fx b s a d w (w.alloc (.cells #[.int .i64 0, .int .i64 0] 43))) := Fx.start h
  obtain ⟨W1, hW1⟩ : ∃ W1, W1 = w.alloc (.cells #[.int .i64 0, .int .i64 0] 43) := ⟨_, rfl⟩
  rw [← hW1] at H0
  have c2 := H0.out.cr.c2
  have f2 := H0.out.cr.fr 2
  have HI : Hid (∀ W, Cr b s a (d + 1) W → Wt b w W → Calls Tryz.prog 108 #[.pointer (some ⟨b, 0, none⟩), .int .i64 (q : Int)] W fun e w' => ∃ r, R r ∧ PartPost b s (d + 1) r W e w') := hI
  have hd1 : ¬ (d : Int) = 32 := by omega
  have hd2 : ((d : Int) == 32) = false := by simpa using hd1
  have H2 : Hid (Fx b s a (d + 1) w (W1.setCell ⟨b, 2, none⟩ (.int .i64 ((d : Int) + 1)))) := H0.out.deep_ (d + 1) _ (by omega)
  obtain ⟨W2, hW2⟩ : ∃ W2, W2 = W1.setCell ⟨b, 2, none⟩ (.int .i64 ((d : Int) + 1)) := ⟨_, rfl⟩
  rw [← hW2] at H2
  clear h hI
  go_enter Tryz.func106, Tryz.ntmps106
  go_upto_region 1 with fail
  rw [← hW1]
  clear hW1
  go_wp2_with fail
  rw [← hW2]
  clear hW2 c2 f2
  refine (HI.out _ H2.out.cr H2.out.wt).mono ?_
  rintro e w3 ⟨r, hr, hpost⟩
  have hpost2 : ∃ v y n a3, e = .returned (.tuple #[v, fV y n]) ∧ Wt b W2 w3 ∧ Cr b s a3 (d + 1) w3 ∧ IfV v ∧ ∀ (x1 y1 : Value) (W5 w6 : World), Wt b w3 W5 → w6.heap = ((W5.setCell ⟨w.heap.size, 0, none⟩ x1).setCell ⟨w.heap.size, 1, none⟩ y1).heap → Wt b w w6 → Cr b s a3 d w6 → PartPost b s d r w (.returned (.tuple #[v, fV y n])) w6 := by
    cases r with
    | bad y n => obtain ⟨h1, v, h2, a', h3, h4⟩ := hpost; exact ⟨v, y, n, a', h2, h1, h3, h4, fun _ _ _ w6 _ _ h5 h6 => ⟨h5, _, rfl, a', h6, h4⟩⟩
    | ok p t => obtain ⟨h1, v, h2, h3, h4⟩ := hpost; exact ⟨v, 0, 0, p, h2, h1, h3, .inl h4.iface, fun x1 y1 W5 w6 h5 hh h6 h7 => ⟨h6, _, rfl, h7, PartPost.up H2.out h4 (.inr h5) x1 y1 hh⟩⟩
  clear hpost
  obtain ⟨v, y, n, a3, rfl, hw3, hc3, hif, hdone⟩ := hpost2
  obtain ⟨W4, g, hW4, hg, hF4, hbx, hgl⟩ := (H2.out.next hc3 hw3).box (.int .i64 y) (.int .i64 n)
  have hW34 : Wt b w3 W4 := by rw [hW4]; exact Wt.below ((Below.refl _ _).alloc (Nat.le_refl _) _)
  have H5 : Fx b s a3 d w (W4.setCell ⟨b, 2, none⟩ (.int .i64 (d : Int))) := hF4.deep_ d _ rfl
  have hg5 : (W4.setCell ⟨b, 2, none⟩ (.int .i64 (d : Int))).heap[g]? = some (.cells #[.int .i64 y, .int .i64 n] 43 (0, 0)) := by
    have hne : g ≠ b := by have := hF4.hb; omega
    exact (Below.heap_setCell _ _ _ _ hne).trans hbx
  have c4 := hF4.cr.c2
  have f4 := hF4.cr.fr 2
  obtain ⟨W5, hW5⟩ : ∃ W5, W5 = W4.setCell ⟨b, 2, none⟩ (.int .i64 (d : Int)) := ⟨_, rfl⟩
  rw [← hW5] at H5 hg5
  have H5' : Hid (Fx b s a3 d w W5 ∧ Wt b w3 W5) := ⟨H5, hW34.trans (by rw [hW5]; exact (Wt.refl _ _).set _)⟩
  have HD : Hid (∀ (x1 y1 : Value) (W5 w6 : World), Wt b w3 W5 → w6.heap = ((W5.setCell ⟨w.heap.size, 0, none⟩ x1).setCell ⟨w.heap.size, 1, none⟩ y1).heap → Wt b w w6 → Cr b s a3 d w6 → PartPost b s d r w (.returned (.tuple #[v, fV y n])) w6) := hdone
  have HR : Hid (R r) := hr
  have hdb : d ≤ 100 := by omega
  rw [show ((d + 1 : Nat) : Int) = (d : Int) + 1 by omega] at c4
  clear hw3 hc3 hdone hF4 hbx H5 hW34 hr
  rcases hif with ⟨T, xx, rfl⟩ | rfl
  all_goals
    go_upto_region 5 with fail
    rw [← hW4, ← hg]
    clear hW4 hg
    go_upto_region 6 with fail
    rw [← hW5]
    clear hW5 c4 f4
    have x0 := cellb hg5 0 rfl
    have x1 := cellb hg5 1 rfl
    have g0 := H5'.out.1.b0
    have g1 := H5'.out.1.b1
    have gf0 := H5'.out.1.bf 0
    have gf1 := H5'.out.1.bf 1
    clear hg5
    go_wp2_with fail
    go_region_with (fail)
    all_goals
      go_wp2
      first
        | refine bodyPost_ret (v := .tuple #[.iface T xx, fV y n]) (by simp [results, Tryz.results106, go_sem, g0, g1]; try rfl) rfl ?_
        | refine bodyPost_ret (v := .tuple #[.nilIface, fV y n]) (by simp [results, Tryz.results106, go_sem, g0, g1]; try rfl) rfl ?_
      first | exact ⟨r, HR.out, HD.out _ _ W5 _ H5'.out.2 rfl (H5'.out.1.fin _ _).2.drew (H5'.out.1.fin _ _).1.drew⟩ | exact ⟨r, HR.out, HD.out _ _ W5.drew _ H5'.out.2.drew rfl (H5'.out.1.drew.fin _ _).2 (H5'.out.1.drew.fin _ _).1⟩
end Go.Proofs.YtkelmhpoplbacaaGreatDoor.Cd
