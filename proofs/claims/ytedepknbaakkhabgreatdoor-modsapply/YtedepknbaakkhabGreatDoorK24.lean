/-
  PBack PRep
-/
import Derived.Test.YtedepknbaakkhabGreatDoorK23
import Derived.Laws.CopyOwn
import Derived.Laws.MakeOwn
set_option maxRecDepth 20000
namespace Go.Proofs.YtedepknbaakkhabGreatDoor.X
open Go.RowKit Go.Shelf RxSem
theorem row_zero {w : World} {base n k cap : Nat} {a : Option Addr} {e : TypeId} {xs : List Value} (h : w.ownsRow base e k (.slice a n cap) n xs) : w.ownsRow base e k (.slice a 0 cap) 0 [] := by
  refine ⟨by simp, ?_⟩
  rcases h.2 with ⟨h1, h2⟩ | ⟨g, cap', cur, h1, h2, h3, h4, h5, h6, h7⟩
  · left; simp at h1 ⊢; exact ⟨h1.1, h1.2.2⟩
  · right
    simp at h1
    obtain ⟨rfl, rfl⟩ := h1
    exact ⟨g, cap, cur, rfl, h2, h3, Nat.zero_le _, h5, h6, by simp⟩
structure Idle (base b gs gn capS capN : Nat) (L : List SV) (t : ByteArray) (q : Int) (bv sv : Value) (B : List (Nat × Nat)) (sn : List Int) (lo : Int) (w : World) : Prop where
  blk : w.heap[b]? = some (.cells (walkC gs L.length capS t q gn capN bv sv lo) 219 (0, 0))
  stp : ∃ cur, w.heap[gs]? = some (.cells cur 146 (0, 0)) ∧ cur.toList.take (7 * L.length) = L.flatMap stepC
  seen : w.heap[gn]? = some (.cells (snC sn) 3 (0, 0))
  len : sn.length = L.length
  row : w.ownsRow base 223 2 bv B.length (thrC B)
  spare : ∃ n X, w.ownsRow base 223 2 sv n X
  apart : ∀ g, bv.ownBlock = some g → sv.ownBlock ≠ some g
  oks : ∀ x ∈ L, x.Ok
  few : L.length ≤ 100000
  many : B.length ≤ 100000
  baseb : base ≤ b
  basen : base ≤ gn
def loOf (cs : List Stp) (s : List UInt8) (p N : Nat) (lo : Int) : Prop := (lo = -1 ∧ ∀ e, e ≤ s.length → ¬ Rch cs s e N p) ∨ ∃ k : Nat, lo = k ∧ k ≤ s.length ∧ Rch cs s k N p ∧ ∀ e, e ≤ s.length → Rch cs s e N p → e ≤ k
theorem own_len (a : Option Addr) (n n' c c' : Nat) : (Value.slice a n c).ownBlock = (Value.slice a n' c').ownBlock := by cases a <;> rfl
theorem Wk.below {base b gs gn capS capN : Nat} {L : List SV} {t : ByteArray} {p : Nat} {tv sp : Value} {st : St} {w w' : World} (h : Wk base b gs gn capS capN L t p tv sp st w) (hb : Below w.heap.size w w') : Wk base b gs gn capS capN L t p tv sp st w' := by
  obtain ⟨cur, h2, h3⟩ := h.stp
  exact ⟨(hb.block b h.lt).trans h.blk, ⟨cur, (hb.block gs (Array.getElem?_eq_some_iff.1 h2).1).trans h2, h3⟩, (hb.block gn h.ltn).trans h.sn, h.len, owns_below h.row hb, h.oks, h.few, h.base, h.small⟩
structure Sp (w w' : World) : Prop where
  size : w.heap.size ≤ w'.heap.size
  keep : ∀ (j : Nat) (cs : Array Value) (T : TypeId), w.heap[j]? = some (.cells cs T (0, 0)) → T ≠ 219 → T ≠ 3 → T ≠ 223 → w'.heap[j]? = w.heap[j]?
theorem Sp.trans {w w1 w2 : World} (h : Sp w w1) (h2 : Sp w1 w2) : Sp w w2 :=
  ⟨Nat.le_trans h.size h2.size, fun j cs T hc a c d => (h2.keep j cs T ((h.keep j cs T hc a c d).trans hc) a c d).trans (h.keep j cs T hc a c d)⟩
theorem Sp.of_below {w w' : World} (h : Below w.heap.size w w') : Sp w w' := ⟨h.size, fun j _ _ hc _ _ _ => h.block j (Array.getElem?_eq_some_iff.1 hc).1⟩
theorem Sp.of_only {w w' : World} {b : Nat} {xs : Array Value} (h : Only b w w') (hb : w.heap[b]? = some (.cells xs 219 (0, 0))) : Sp w w' := ⟨by rw [h.size]; exact Nat.le_refl _, fun j cs T hc a _ _ => h.block j (fun e => by
  rw [e, hb] at hc; simp at hc; exact a hc.2.symm)⟩
theorem Sp.of_turn {base b gs gn capS capN : Nat} {L : List SV} {t : ByteArray} {p : Nat} {tv tv' sp : Value} {st : St} {w w' : World} (h : Turn b gn tv tv' w w') (hW : Wk base b gs gn capS capN L t p tv sp st w) : Sp w w' := ⟨h.size, fun j cs T hc a c d => h.block j (Array.getElem?_eq_some_iff.1 hc).1 (fun e => by
  have h1 := hW.blk; rw [← e, hc] at h1; simp at h1; exact a h1.2) (fun e => by
  have h1 := hW.sn; rw [← e, hc] at h1; simp at h1; exact c h1.2) (row_ne hW.row hc (fun e => d e.symm))⟩
theorem roots_take (cs : List Stp) (c : Option UInt8) (B : List (Nat × Nat)) (k : Nat) (hk : k < B.length) : roots cs c (B.take (k + 1)) = roots cs c (B.take k) ++ (if goes cs c B[k] then [(B[k].1 + 1, B[k].2)] else []) := by
  unfold roots
  rw [List.take_succ_eq_append_getElem hk, List.filter_append, List.map_append]
  congr 1
  cases h : goes cs c B[k] <;> simp [h]
theorem thr_get (B : List (Nat × Nat)) (k : Nat) (hk : k < B.length) : (thrC B)[2 * k]? = some (.int .i64 (B[k].1 : Int)) ∧ (thrC B)[2 * k + 1]? = some (.int .i64 (B[k].2 : Int)) := by
  have h0 := flat_get (fun x : Nat × Nat => [Value.int .i64 (x.1 : Int), .int .i64 (x.2 : Int)]) 2 (fun _ => rfl) B k 0 hk (by omega)
  have h1 := flat_get (fun x : Nat × Nat => [Value.int .i64 (x.1 : Int), .int .i64 (x.2 : Int)]) 2 (fun _ => rfl) B k 1 hk (by omega)
  exact ⟨h0, h1⟩
theorem row_cell {w : World} {base n k : Nat} {g cap : Nat} {e : TypeId} {xs : List Value} (h : w.ownsRow base e k (.slice (some ⟨g, 0, none⟩) n cap) n xs) (j : Nat) (u : Value) (hu : xs[j]? = some u) : w.cell? ⟨g, j, none⟩ = some u := by
  have hadd : (⟨g, 0, none⟩ : Addr).add j = ⟨g, j, none⟩ := by unfold Addr.add; split <;> simp_all
  rw [← hadd]; exact h.cells (g := g) rfl j u hu
theorem Turn.low {base b m : Nat} {v v' : Value} {w w' : World} (h : Turn b m v v' w w') (hb : base ≤ b) (hm : base ≤ m) (hv : ∀ g, v.ownBlock = some g → base ≤ g) (hs : base ≤ w.heap.size) : Below base w w' :=
  ⟨h.os, h.tape, h.output, h.size, fun j hj => h.block j (by omega) (by omega) (by omega) (fun e => by have := hv j e; omega)⟩
theorem Turn.row {b m : Nat} {v v' : Value} {w w' : World} {base n k : Nat} {x : Value} {e : TypeId} {xs : List Value} (h : Turn b m v v' w w') (hr : w.ownsRow base e k x n xs) (hb : x.ownBlock ≠ some b) (hm : x.ownBlock ≠ some m) (hv : ∀ g, x.ownBlock = some g → v.ownBlock ≠ some g) : w'.ownsRow base e k x n xs := by
  refine ⟨hr.1, ?_⟩
  rcases hr.2 with h0 | ⟨g, cap, cur, hx, hg, hgg, rest⟩
  · exact .inl h0
  · refine .inr ⟨g, cap, cur, hx, hg, ?_, rest⟩
    rw [h.block g (Array.getElem?_eq_some_iff.1 hgg).1 (fun e => hb (by rw [hx, e]; rfl)) (fun e => hm (by rw [hx, e]; rfl)) (hv g (by rw [hx]; rfl))]
    exact hgg
set_option maxHeartbeats 400000 in
theorem back_any {base b gs gn capS capN : Nat} {L : List SV} {t : ByteArray} {q : Int} {bv sv : Value} {B : List (Nat × Nat)} {sn : List Int} {lo : Int} {N : Nat} (hF : Fit (L.map SV.abs) N) (w : World) (h : Idle base b gs gn capS capN L t q bv sv B sn lo w) (p : Nat) (hp : p ≤ t.size) (hI : Inv (L.map SV.abs) (bl t) (p + 1) B) (hsn : ∀ (u : Nat) (x : Int), sn[u]? = some x → (p : Int) < x ∨ x = -1) : Calls Tryz.prog 162 #[.pointer (some ⟨b, 0, none⟩), .int .i64 (p : Int)] w fun e w' =>
    ∃ (bv' : Value) (B' : List (Nat × Nat)) (sn' : List Int) (lo' : Int), e = .returned (.int .i64 lo') ∧ Idle base b gs gn capS capN L t (p : Int) bv' bv B' sn' lo' w' ∧ Inv (L.map SV.abs) (bl t) p B' ∧ (∀ (u : Nat) (x : Int), sn'[u]? = some x → (p : Int) ≤ x ∨ x = -1) ∧ loOf (L.map SV.abs) (bl t) p N lo' ∧ Below base w w' ∧ Sp w w' := by
  have hcb : ∀ j, w.cell? ⟨b, j, none⟩ = (walkC gs L.length capS t q gn capN bv sv lo)[j]? := fun j => by simp only [World.cell?, h.blk]; rfl
  have c0 : w.cell? ⟨b, 0, none⟩ = some (.slice (some ⟨gs, 0, none⟩) L.length capS) := hcb 0
  have c2 : w.cell? ⟨b, 2, none⟩ = some (.int .i64 q) := hcb 2
  have c4 : w.cell? ⟨b, 4, none⟩ = some bv := hcb 4
  have c5 : w.cell? ⟨b, 5, none⟩ = some sv := hcb 5
  have c6 : w.cell? ⟨b, 6, none⟩ = some (.int .i64 lo) := hcb 6
  have fb : ∀ j, w.frozen? ⟨b, j, none⟩ = false := fun j => by simp [World.frozen?, h.blk]
  have hb : b < w.heap.size := (Array.getElem?_eq_some_iff.1 h.blk).1
  obtain ⟨ns, X, hsp⟩ := h.spare
  obtain ⟨sa, sc, hsv⟩ := row_slice hsp
  obtain ⟨ba', bc, hbv⟩ := row_slice h.row
  obtain ⟨nb, hnb⟩ : ∃ nb, nb = B.length := ⟨_, rfl⟩
  rw [← hnb] at hbv
  subst hsv hbv
  have hrow0 := h.row
  rw [← hnb] at hrow0
  have hmany : nb ≤ 100000 := by rw [hnb]; exact h.many
  -- the walk as it stands at the loop
  have hne : (Value.slice sa ns sc).ownBlock ≠ some b := row_ne hsp h.blk (by decide)
  have hneB : (Value.slice ba' nb bc).ownBlock ≠ some b := row_ne h.row h.blk (by decide)
  have hneN : (Value.slice ba' nb bc).ownBlock ≠ some gn := row_ne h.row h.seen (by decide)
  have hbn : b ≠ gn := fun e => by
    have h1 := h.blk; rw [e, h.seen] at h1; simp at h1
  have hbs : b ≠ gs := fun e => by
    obtain ⟨cur, h2, _⟩ := h.stp
    have h1 := h.blk; rw [e, h2] at h1; simp at h1
  have hW0 : ∀ w0, w0 = ((w.setCell ⟨b, 2, none⟩ (.int .i64 (p : Int))).setCell ⟨b, 6, none⟩ (.int .i64 (-1))).setCell ⟨b, 4, none⟩ (.slice sa 0 sc) → Wk base b gs gn capS capN L t p (.slice sa 0 sc) (.slice sa ns sc) ⟨sn, [], -1⟩ w0 ∧ w0.ownsRow base 223 2 (.slice ba' nb bc) nb (thrC B) ∧ (Below base w w0 ∧ Sp w w0) := fun w0 e => by
    have o : Only b w w0 := by rw [e]; exact ((Only.set _ _ _ _).trans (Only.set _ _ _ _)).trans (Only.set _ _ _ _)
    obtain ⟨cur, h2, h3⟩ := h.stp
    refine ⟨⟨?_, ⟨cur, (o.block gs (Ne.symm hbs)).trans h2, h3⟩, (o.block gn (Ne.symm hbn)).trans h.seen, h.len, o.row (row_zero hsp) (by rw [own_len sa 0 ns sc sc]; exact hne), h.oks, h.few, h.baseb, ?_⟩, o.row hrow0 hneB, o.below h.baseb (Below.refl _ _), Sp.of_only o h.blk⟩
    · rw [e]; exact heap_set (heap_set (heap_set h.blk _) _) _
    · have : unseen p sn ≤ sn.length := List.countP_le_length
      have h4 := h.len; have h5 := h.few
      simp only [List.length_nil]; omega
  have HW : Hid (_) := hW0
  have HX : Hid (nb = B.length ∧ base ≤ b ∧ base ≤ gn ∧ (Value.slice ba' nb bc).ownBlock ≠ some b ∧ (Value.slice ba' nb bc).ownBlock ≠ some gn ∧ (∀ g, (Value.slice ba' nb bc).ownBlock = some g → (Value.slice sa ns sc).ownBlock ≠ some g) ∧ Inv (L.map SV.abs) (bl t) (p + 1) B ∧ Done (L.map SV.abs) (bl t) p N [] ⟨sn, [], -1⟩ ∧ (∀ x ∈ L, x.Ok)) := ⟨hnb, h.baseb, h.basen, hneB, hneN, h.apart, hI, done_nil (by rw [h.len]; have := hF.1; simpa using this) hsn, h.oks⟩
  have HF : Hid (Fit (L.map SV.abs) N ∧ L.length = N + 1) := ⟨hF, by have := hF.1; simpa using this⟩
  clear hcb hsp hrow0 h hne hneB hneN hbn hbs hW0 hI hsn hnb hF
  go_enter Tryz.func162, Tryz.ntmps162
  go_wp2_with fail
  obtain ⟨w0, hw0⟩ : ∃ w0, w0 = ((w.setCell ⟨b, 2, none⟩ (.int .i64 (p : Int))).setCell ⟨b, 6, none⟩ (.int .i64 (-1))).setCell ⟨b, 4, none⟩ (.slice sa 0 sc) := ⟨_, rfl⟩
  have HW0 : Hid (Wk base b gs gn capS capN L t p (.slice sa 0 sc) (.slice sa ns sc) ⟨sn, [], -1⟩ w0 ∧ w0.ownsRow base 223 2 (.slice ba' nb bc) nb (thrC B) ∧ (Below base w w0 ∧ Sp w w0)) := HW.out w0 hw0
  rw [← hw0]
  clear hw0 HW c0 c2 c4 c5 c6 fb hb
  go_loopw [29] (fun vi wr => ∃ (k : Nat) (st : St) (tv : Value), k ≤ nb ∧ vi = .int .i64 (k : Int) ∧ Wk base b gs gn capS capN L t p tv (.slice sa ns sc) st wr ∧ wr.ownsRow base 223 2 (.slice ba' nb bc) nb (thrC B) ∧ (∀ g, (Value.slice ba' nb bc).ownBlock = some g → tv.ownBlock ≠ some g) ∧ Done (L.map SV.abs) (bl t) p N (roots (L.map SV.abs) (bl t)[p]? (B.take k)) st ∧ (Below base w wr ∧ Sp w wr)) (fun vi _ => nb - (intOf vi).toNat)
  case atStart =>
    exact ⟨0, _, _, Nat.zero_le _, rfl, HW0.out.1, HW0.out.2.1, fun g hg => by rw [own_len sa 0 ns sc sc]; exact HX.out.2.2.2.2.2.1 g hg, by simpa [roots] using HX.out.2.2.2.2.2.2.2.1, HW0.out.2.2⟩
  case round =>
    obtain ⟨k, st, tv, hk, rfl, hWk, hrowB, hap, hDone, hBel⟩ := hrel
    have d0 : wr.cell? ⟨b, 0, none⟩ = some (.slice (some ⟨gs, 0, none⟩) L.length capS) := hWk.cb 0
    have d1 : wr.cell? ⟨b, 1, none⟩ = some (.string t) := hWk.cb 1
    have d5 : wr.cell? ⟨b, 5, none⟩ = some (.slice sa ns sc) := hWk.cb 5
    have d6 : wr.cell? ⟨b, 6, none⟩ = some (.int .i64 st.lo) := hWk.cb 6
    have fb := hWk.fb
    have hbl := hWk.lt
    have hN := HF.out.2
    by_cases hlt : k < nb
    · have hl2 : (k : Int) < (nb : Int) := by omega
      have hkB : k < B.length := by rw [← HX.out.1]; exact hlt
      obtain ⟨g, hg⟩ : ∃ g, ba' = some ⟨g, 0, none⟩ := by
        rcases hrowB.2 with ⟨h1, h2⟩ | ⟨g, cap', cur, h1, _⟩
        · omega
        · simp at h1; exact ⟨g, h1.1⟩
      subst hg
      obtain ⟨ts, te, hB⟩ : ∃ ts te, B[k] = (ts, te) := ⟨_, _, rfl⟩
      have hg1 := thr_get B k hkB
      rw [hB] at hg1
      have e0 : wr.cell? ⟨g, k * 2, none⟩ = some (.int .i64 (ts : Int)) := by rw [Nat.mul_comm]; exact row_cell hrowB _ _ hg1.1
      have e1 : wr.cell? ⟨g, k * 2 + 1, none⟩ = some (.int .i64 (te : Int)) := by rw [Nat.mul_comm]; exact row_cell hrowB _ _ hg1.2
      have hsd := HX.out.2.2.2.2.2.2.1.sound B[k] (List.getElem_mem hkB)
      rw [hB] at hsd
      obtain ⟨hte, hrch, f, hcs⟩ := hsd
      have hp2 := rch_le hrch
      rw [bl_length] at hte
      dsimp only at hp2 hte hcs
      have htsL : ts < L.length := by
        have := (List.getElem?_eq_some_iff.1 hcs).1
        simpa using this
      obtain ⟨n, hn⟩ : ∃ n, n = L.length := ⟨_, rfl⟩
      rw [← hn] at d0
      have hts2 : (ts : Int) < (n : Int) := by omega
      have hfew : n ≤ 100000 := by rw [hn]; exact hWk.few
      have hpt : (p : Int) < (t.size : Int) := by omega
      obtain ⟨x, hx⟩ : ∃ x, x = L[ts] := ⟨_, rfl⟩
      have hxcs := hWk.cs ts htsL
      rw [← hx] at hxcs
      obtain ⟨wa, hwa, hBa, hSa, hka⟩ := one_box wr (.cells #[.int .i64 (ts : Int), .int .i64 (te : Int)] 223)
      have hWa := hWk.below hBa
      have v0 : wa.cell? ⟨wr.heap.size, 0, none⟩ = some (.int .i64 (ts : Int)) := by simp only [World.cell?, hka]; rfl
      have v1 : wa.cell? ⟨wr.heap.size, 1, none⟩ = some (.int .i64 (te : Int)) := by simp only [World.cell?, hka]; rfl
      have g0 : wa.cell? ⟨b, 0, none⟩ = some (.slice (some ⟨gs, 0, none⟩) n capS) := by rw [hn]; exact hWa.cb 0
      have g1 : wa.cell? ⟨b, 1, none⟩ = some (.string t) := hWa.cb 1
      have hxcs := hWa.cs ts htsL
      rw [← hx] at hxcs
      have s1 : wa.cell? ⟨gs, ts * 7 + 1, none⟩ = some (.int .u64 (x.s.a : Int)) := by rw [Nat.mul_comm]; exact hxcs 1 (by omega)
      have s2 : wa.cell? ⟨gs, ts * 7 + 1 + 1, none⟩ = some (.int .u64 (x.s.b : Int)) := by rw [Nat.mul_comm]; exact hxcs 2 (by omega)
      have s3 : wa.cell? ⟨gs, ts * 7 + 1 + 2, none⟩ = some (.int .u64 (x.s.c : Int)) := by rw [Nat.mul_comm]; exact hxcs 3 (by omega)
      have s4 : wa.cell? ⟨gs, ts * 7 + 1 + 3, none⟩ = some (.int .u64 (x.s.d : Int)) := by rw [Nat.mul_comm]; exact hxcs 4 (by omega)
      have hap2 : hWk.row.1 = hWk.row.1 := rfl
      have HR : Hid (Wk base b gs gn capS capN L t p tv (.slice sa ns sc) st wa ∧ wa.ownsRow base 223 2 (.slice (some ⟨g, 0, none⟩) nb bc) nb (thrC B) ∧ (∀ g', (Value.slice (some ⟨g, 0, none⟩) nb bc).ownBlock = some g' → tv.ownBlock ≠ some g') ∧ Done (L.map SV.abs) (bl t) p N (roots (L.map SV.abs) (bl t)[p]? (B.take k)) st ∧ (Below base w wa ∧ Sp w wa) ∧ x.s.Ok ∧ (L.map SV.abs)[ts]? = some (.take x.s.has) ∧ te ≤ t.size ∧ p < te ∧ B[k] = (ts, te) ∧ wa.heap[wr.heap.size]? = some (.cells #[.int .i64 (ts : Int), .int .i64 (te : Int)] 223 (0, 0)) ∧ ts < L.length) := by
        have hxo := HX.out.2.2.2.2.2.2.2.2 x (by rw [hx]; exact List.getElem_mem _)
        have hxa : x.abs = .take f := by
          rw [abs_at htsL] at hcs
          rw [hx]; exact Option.some.inj hcs
        have hxk : x.k = 0 := by
          unfold SV.abs at hxa
          split at hxa
          · rename_i h; exact h
          all_goals cases hxa
        refine ⟨hWa, owns_below hrowB hBa, hap, hDone, ⟨hBel.1.trans (hBa.mono (by have := hWk.base; omega)), hBel.2.trans (Sp.of_below hBa)⟩, hxo.1, ?_, hte, by omega, hB, hka, htsL⟩
        rw [abs_at htsL, ← hx]
        simp [SV.abs, hxk]
      have HKeep : Hid (∀ W, Below wa.heap.size wa W → (Below wa.heap.size wa W ∧ W.cell? ⟨wr.heap.size, 0, none⟩ = some (.int .i64 (ts : Int)) ∧ W.cell? ⟨b, 0, none⟩ = some (.slice (some ⟨gs, 0, none⟩) n capS) ∧ W.cell? ⟨b, 1, none⟩ = some (.string t) ∧ W.cell? ⟨gs, ts * 7 + 1, none⟩ = some (.int .u64 (x.s.a : Int)) ∧ W.cell? ⟨gs, ts * 7 + 1 + 1, none⟩ = some (.int .u64 (x.s.b : Int)) ∧ W.cell? ⟨gs, ts * 7 + 1 + 2, none⟩ = some (.int .u64 (x.s.c : Int)) ∧ W.cell? ⟨gs, ts * 7 + 1 + 3, none⟩ = some (.int .u64 (x.s.d : Int)))) := fun W hW => by
        have u : ∀ {a : Addr} {v : Value}, wa.cell? a = some v → W.cell? a = some v := fun {a v} ha => (World.cell?_of_block (hW.block a.block (World.block_lt_of_cell? wa a ha))).trans ha
        exact ⟨hW, u v0, u g0, u g1, u s1, u s2, u s3, u s4⟩
      have hltp : p < t.size := by omega
      cases hgo : x.s.has t[p] with
      | true =>
        have HH : Hid (∀ W, Calls Tryz.prog 181 #[.agg #[.int .u64 (x.s.a : Int), .int .u64 (x.s.b : Int), .int .u64 (x.s.c : Int), .int .u64 (x.s.d : Int)], .int .u8 (t[p].toNat : Int)] W fun e w' => e = .returned (.bool true) ∧ Below W.heap.size W w') := fun W => by rw [← hgo]; exact has_any x.s HR.out.2.2.2.2.2.1 t[p] W
        have HG : Hid (x.s.has t[p] = true) := hgo
        clear hgo hap2 hxcs hWa hBa hSa hka hWk hrowB hap hDone hBel hg1 hrch hcs hx hp2 hte d0 d1 d5 d6 fb hB hn hN
        go_wp2_with fail
        rw [← hwa]
        clear hwa e0 e1
        go_region_held3 (fun W => Below wa.heap.size wa W ∧ W.cell? ⟨wr.heap.size, 0, none⟩ = some (.int .i64 (ts : Int)) ∧ W.cell? ⟨b, 0, none⟩ = some (.slice (some ⟨gs, 0, none⟩) n capS) ∧ W.cell? ⟨b, 1, none⟩ = some (.string t) ∧ W.cell? ⟨gs, ts * 7 + 1, none⟩ = some (.int .u64 (x.s.a : Int)) ∧ W.cell? ⟨gs, ts * 7 + 1 + 1, none⟩ = some (.int .u64 (x.s.b : Int)) ∧ W.cell? ⟨gs, ts * 7 + 1 + 2, none⟩ = some (.int .u64 (x.s.c : Int)) ∧ W.cell? ⟨gs, ts * 7 + 1 + 3, none⟩ = some (.int .u64 (x.s.d : Int)))
          (first | exact HKeep.out _ (Below.refl _ _).drew | exact HKeep.out _ (Below.refl _ _) | exact HKeep.out _ hbq)
          (first | (go_at_call 181; refine (HH.out _).mono ?_; rintro e w1 ⟨rfl, hb1⟩; have hbq : Below wa.heap.size wa w1 := (Below.refl _ wa).drew.trans hb1))
        all_goals
          have y0 : w1.cell? ⟨wr.heap.size, 0, none⟩ = some (.int .i64 (ts : Int)) := (HKeep.out _ hbq).2.1
          have y1 : w1.cell? ⟨wr.heap.size, 1, none⟩ = some (.int .i64 (te : Int)) := (World.cell?_of_block (hbq.block _ (World.block_lt_of_cell? wa _ v1))).trans v1
          have HB1 : Hid (Wk base b gs gn capS capN L t p tv (.slice sa ns sc) st w1 ∧ Below wa.heap.size wa w1) := ⟨HR.out.1.below hbq, hbq⟩
          have htsN : ts + 1 < L.length := by
            have hx' := HF.out.1.2.2 ts _ HR.out.2.2.2.2.2.2.1
            have := HF.out.2
            simp only at hx'; omega
          have HE : Hid (∀ W, Wk base b gs gn capS capN L t p tv (.slice sa ns sc) st W → Calls Tryz.prog 182 #[.pointer (some ⟨b, 0, none⟩), .int .i64 ((ts : Int) + 1), .int .i64 (te : Int)] W (EnterPost base b gs gn capS capN L t p te (.slice sa ns sc) (ts + 1) tv st W)) := fun W hW => enter_any HF.out.1 _ (ts + 1) st tv W (Nat.le_refl _) htsN hW (by have := hW.base; have := hW.lt; omega)
          clear hb1 hbq v0 v1 g0 g1 s1 s2 s3 s4 htsN HH
          go_wp2_with fail
          refine (HE.out w1 HB1.out.1).mono ?_
          rintro z w2 ⟨rfl, st2, tv2, hEn, hW2, hT2⟩
          have HZ : Hid (Ent (L.map SV.abs) (bl t) p te (ts + 1) st st2 ∧ Wk base b gs gn capS capN L t p tv2 (.slice sa ns sc) st2 w2 ∧ Turn b gn tv tv2 w1 w2) := ⟨hEn, hW2, hT2⟩
          clear hEn hW2 hT2 HE
          go_wp2_with fail
          go_roundw
          case rel =>
            obtain ⟨r1, r2, r3, r4, r5, r6, r7, r8, r9, r10, r11, r12⟩ := HR.out
            obtain ⟨e1, e2, e3⟩ := HZ.out
            have rb : w1.ownsRow base 223 2 (.slice (some ⟨g, 0, none⟩) nb bc) nb (thrC B) := owns_below r2 HB1.out.2
            have hgoes : goes (L.map SV.abs) (bl t)[p]? B[k] = true := goes_iff.2 ⟨x.s.has, t[p], by rw [r10]; exact r7, bl_get t p hltp, HG.out⟩
            have hlow := e3.low HX.out.2.1 HX.out.2.2.1 (fun g' hg' => (HB1.out.1.row.lt g' hg').1) (by have := HB1.out.1.base; have := HB1.out.1.lt; omega)
            refine ⟨k + 1, st2, tv2, by omega, by go_num, e2, e3.row rb HX.out.2.2.2.1 HX.out.2.2.2.2.1 r3, fun g' hg' hh => ?_, ?_, (r5.1.trans (HB1.out.2.mono (by have := r1.base; have := r1.lt; omega))).trans hlow, (r5.2.trans (Sp.of_below HB1.out.2)).trans (Sp.of_turn e3 HB1.out.1)⟩
            · rcases e3.own g' hh with h6 | h6
              · exact r3 g' hg' h6
              · have := (rb.lt g' hg').2; omega
            · rw [roots_take _ _ _ _ hkB, if_pos hgoes, r10]
              have hx' := HF.out.1.2.2 ts _ r7
              refine done_snoc HF.out.1 r4 (by simp only at hx' ⊢; omega) (fun y hy => ?_) e1
              have hfall := (HX.out.2.2.2.2.2.2.1).falls
              obtain ⟨y', hy', rfl⟩ := List.mem_map.1 hy
              have hy2 := (List.mem_filter.1 hy').1
              have hsplit : B = B.take k ++ B[k] :: B.drop (k + 1) := by
                rw [← List.drop_eq_getElem_cons hkB, List.take_append_drop]
              rw [hsplit] at hfall
              have := (List.pairwise_append.1 hfall).2.2 y' hy2 B[k] List.mem_cons_self
              rw [r10] at this; exact this
          case measure => simp [intOf]; omega
      | false =>
        have HH : Hid (∀ W, Calls Tryz.prog 181 #[.agg #[.int .u64 (x.s.a : Int), .int .u64 (x.s.b : Int), .int .u64 (x.s.c : Int), .int .u64 (x.s.d : Int)], .int .u8 (t[p].toNat : Int)] W fun e w' => e = .returned (.bool false) ∧ Below W.heap.size W w') := fun W => by rw [← hgo]; exact has_any x.s HR.out.2.2.2.2.2.1 t[p] W
        have HG : Hid (x.s.has t[p] = false) := hgo
        clear hgo hap2 hxcs hWa hBa hSa hka hWk hrowB hap hDone hBel hg1 hrch hcs hx hp2 hte d0 d1 d5 d6 fb hB hn hN
        go_wp2_with fail
        rw [← hwa]
        clear hwa e0 e1
        go_region_held3 (fun W => Below wa.heap.size wa W ∧ W.cell? ⟨wr.heap.size, 0, none⟩ = some (.int .i64 (ts : Int)) ∧ W.cell? ⟨b, 0, none⟩ = some (.slice (some ⟨gs, 0, none⟩) n capS) ∧ W.cell? ⟨b, 1, none⟩ = some (.string t) ∧ W.cell? ⟨gs, ts * 7 + 1, none⟩ = some (.int .u64 (x.s.a : Int)) ∧ W.cell? ⟨gs, ts * 7 + 1 + 1, none⟩ = some (.int .u64 (x.s.b : Int)) ∧ W.cell? ⟨gs, ts * 7 + 1 + 2, none⟩ = some (.int .u64 (x.s.c : Int)) ∧ W.cell? ⟨gs, ts * 7 + 1 + 3, none⟩ = some (.int .u64 (x.s.d : Int)))
          (first | exact HKeep.out _ (Below.refl _ _).drew | exact HKeep.out _ (Below.refl _ _) | exact HKeep.out _ hbq)
          (first | (go_at_call 181; refine (HH.out _).mono ?_; rintro e w1 ⟨rfl, hb1⟩; have hbq : Below wa.heap.size wa w1 := (Below.refl _ wa).drew.trans hb1))
        all_goals
          have HB1 : Hid (Below wa.heap.size wa w1) := hbq
          clear hb1 hbq v0 v1 g0 g1 s1 s2 s3 s4 HH
          go_wp2_with fail
          go_roundw
          case rel =>
            obtain ⟨r1, r2, r3, r4, r5, r6, r7, r8, r9, r10, r11, r12⟩ := HR.out
            have hgoes : goes (L.map SV.abs) (bl t)[p]? B[k] = false := by
              cases hh : goes (L.map SV.abs) (bl t)[p]? B[k] with
              | false => rfl
              | true =>
                obtain ⟨f', a', h1, h2, h3⟩ := goes_iff.1 hh
                rw [r10] at h1
                rw [r7] at h1
                rw [bl_get t p hltp] at h2
                cases h1; cases h2
                rw [HG.out] at h3; cases h3
            refine ⟨k + 1, st, tv, by omega, by go_num, r1.below HB1.out, owns_below r2 HB1.out, r3, ?_, r5.1.trans (HB1.out.mono (by have := r1.base; have := r1.lt; omega)), r5.2.trans (Sp.of_below HB1.out)⟩
            rw [roots_take _ _ _ _ hkB, hgoes]
            simpa using r4
          case measure => simp [intOf]; omega
    · have hl2 : ¬ (k : Int) < (nb : Int) := by omega
      have HE : Hid (∀ W, Wk base b gs gn capS capN L t p tv (.slice sa ns sc) st W → Calls Tryz.prog 182 #[.pointer (some ⟨b, 0, none⟩), .int .i64 0, .int .i64 (p : Int)] W (EnterPost base b gs gn capS capN L t p p (.slice sa ns sc) 0 tv st W)) := fun W hW => enter_any HF.out.1 _ 0 st tv W (Nat.le_refl _) (by omega) hW (by have := hW.base; have := hW.lt; omega)
      have hkn : k = nb := by omega
      have HR : Hid (Wk base b gs gn capS capN L t p tv (.slice sa ns sc) st wr ∧ wr.ownsRow base 223 2 (.slice ba' nb bc) nb (thrC B) ∧ (∀ g', (Value.slice ba' nb bc).ownBlock = some g' → tv.ownBlock ≠ some g') ∧ Done (L.map SV.abs) (bl t) p N (roots (L.map SV.abs) (bl t)[p]? B) st ∧ (Below base w wr ∧ Sp w wr)) := by
        refine ⟨hWk, hrowB, hap, ?_, hBel⟩
        rw [hkn, HX.out.1, List.take_length] at hDone
        exact hDone
      clear hWk hrowB hap hDone hBel d0 d1 d5 d6 fb hkn hN
      go_wp2_with fail
      refine (HE.out wr HR.out.1).mono ?_
      rintro z w2 ⟨rfl, st2, tv2, hEn, hW2, hT2⟩
      have y5 : w2.cell? ⟨b, 5, none⟩ = some (.slice sa ns sc) := hW2.cb 5
      have y6 : w2.cell? ⟨b, 6, none⟩ = some (.int .i64 st2.lo) := hW2.cb 6
      have fb := hW2.fb
      have hbl2 := hW2.lt
      have HZ : Hid (Ent (L.map SV.abs) (bl t) p p 0 st st2 ∧ Wk base b gs gn capS capN L t p tv2 (.slice sa ns sc) st2 w2 ∧ Turn b gn tv tv2 wr w2) := ⟨hEn, hW2, hT2⟩
      clear hEn hW2 hT2 HE
      go_wp2_with fail
      go_ret
      obtain ⟨r1, r2, r3, r4, r5⟩ := HR.out
      obtain ⟨e1, e2, e3⟩ := HZ.out
      obtain ⟨x1, x2, x3, x4, x5, x6, x7, x8, x9⟩ := HX.out
      have hD : Done (L.map SV.abs) (bl t) p N (roots (L.map SV.abs) (bl t)[p]? B ++ [(0, p)]) st2 := by
        refine done_snoc (x := (0, p)) HF.out.1 r4 (Nat.zero_le _) (fun y hy => ?_) e1
        obtain ⟨y', hy', rfl⟩ := List.mem_map.1 hy
        have := rch_le (x7.sound y' (List.mem_filter.1 hy').1).2.1
        simp only; omega
      obtain ⟨k1, k2⟩ := back_ok (by rw [bl_length]; exact hp) x7 HF.out.1 hD
      have rb : w2.ownsRow base 223 2 (.slice ba' nb bc) nb (thrC B) := e3.row r2 x4 x5 r3
      have hlow := e3.low x2 x3 (fun g' hg' => (r1.row.lt g' hg').1) (by have := r1.base; have := r1.lt; omega)
      have o : Only b w2 (w2.setCell ⟨b, 5, none⟩ (.slice ba' nb bc)) := Only.set _ _ _ _
      obtain ⟨cur, c1, c2⟩ := e2.stp
      refine ⟨tv2, st2.T, st2.sn, st2.lo, rfl, ⟨heap_set e2.blk _, ⟨cur, (o.block gs (Ne.symm e2.bs)).trans c1, c2⟩, (o.block gn (Ne.symm e2.bn)).trans e2.sn, e2.len, o.row e2.row e2.vb, ⟨nb, _, o.row rb x4⟩, fun g' hg' hh => ?_, e2.oks, e2.few, ?_, x2, x3⟩, k1, hD.other, k2, o.below x2 (r5.1.trans hlow), (r5.2.trans (Sp.of_turn e3 r1)).trans (Sp.of_only o e2.blk)⟩
      · rcases e3.own g' hg' with h6 | h6
        · exact r3 g' hh h6
        · have := (r2.lt g' hh).2; omega
      · have := hD.small; have := HF.out.2; have := e2.few; omega
end Go.Proofs.YtedepknbaakkhabGreatDoor.X
namespace Go.Proofs.YtedepknbaakkhabGreatDoor.X
open Go.RowKit Go.Shelf RxSem
theorem infoI : (Tryz.prog.info? 3).map (fun i => (i.zero, i.size, i.bytes)) = some (some (.int .i64 0), 1, 8) := by kernel_rfl
theorem sizeI : (Tryz.prog.info? 3).map (·.size) = some 1 := by kernel_rfl
theorem splice_rep (n k m : Nat) (x z : Value) : splice (List.replicate k x ++ List.replicate (n - k) z) k (List.replicate m x) = List.replicate (k + m) x ++ List.replicate (n - (k + m)) z := by
  unfold splice
  rw [List.take_append_of_le_length (by simp), List.take_of_length_le (by simp), ← List.append_assoc, List.replicate_append_replicate]
  congr 1
  rw [List.drop_append]
  simp
  omega
def repC (n k : Nat) : List Value := List.replicate k (Value.int .i64 (-1)) ++ List.replicate (n - k) (Value.int .i64 0)
theorem copy_rep (W : World) (G g1 k m sLen sCap dLen dCap n : Nat) (hk : k + m ≤ n) (hW : W.heap[G]? = some (.cells (repC n k).toArray 3 (0, 0))) (hsrc : ∀ j, j < m → W.cell? ⟨g1, j, none⟩ = some (.int .i64 (-1))) (hm : m = Nat.min sLen dLen) :
    ∃ W', (Builtin.copy_ #[215, 215] 3 #[.slice (some ⟨G, k, none⟩) dLen dCap, .slice (some ⟨g1, 0, none⟩) sLen sCap]).run Tryz.prog W = .ok (.int .i64 (m : Int)) W' ∧ W'.heap[G]? = some (.cells (repC n (k + m)).toArray 3 (0, 0)) ∧ ∀ B w0, Below B w0 W → B ≤ G → Below B w0 W' := by
  have hadd : ∀ j, (⟨g1, 0, none⟩ : Addr).add j = ⟨g1, j, none⟩ := fun j => by unfold Addr.add; split <;> simp_all
  have hcp := run_copy_row (P := Tryz.prog) W 215 215 3 3 G k dLen dCap ⟨g1, 0, none⟩ sLen sCap _ 3 (List.replicate m (.int .i64 (-1))) Tryz.underlying215 sizeI hW (by simpa using hm) (by
    intro j v hj
    rw [hadd]
    rw [List.getElem?_replicate] at hj
    split at hj
    · rename_i h; cases hj; exact hsrc j h
    · cases hj) (by simp [repC]; omega) (by
    intro v hv
    rw [List.eq_of_mem_replicate hv]; rfl)
  have hgi : goInt (List.replicate m (Value.int .i64 (-1))).length = .int .i64 (m : Int) := by simp [goInt]
  rw [hgi] at hcp
  refine ⟨_, hcp, ?_, fun B w0 hB hG => below_setRow hB hG _⟩
  have := splice_rep n k m (.int .i64 (-1)) (.int .i64 0)
  unfold splice at this
  refine (setRow_heap W G _ _ 3 _ hW).trans ?_
  have e : repC n (k + m) = _ := this.symm
  rw [e]
  simp [repC]
  rw [← List.append_assoc, List.replicate_append_replicate]
set_option maxHeartbeats 400000 in
theorem repeat_any (g0 n : Nat) (hn : 1 ≤ n) (hn2 : n ≤ 100000) (w : World) (hg : w.heap[g0]? = some (.cells #[.int .i64 (-1)] 3 (0, 0))) : Calls Tryz.prog 177 #[.slice (some ⟨g0, 0, none⟩) 1 1, .int .i64 (n : Int)] w fun e w' => ∃ g, e = .returned (.slice (some ⟨g, 0, none⟩) n n) ∧ w.heap.size ≤ g ∧ w'.heap[g]? = some (.cells (snC (List.replicate n (-1))) 3 (0, 0)) ∧ Below w.heap.size w w' := by
  obtain ⟨i0, hif, hz0, hz1, hz2⟩ := info_parts infoI
  have c0 : w.cell? ⟨g0, 0, none⟩ = some (.int .i64 (-1)) := by simp only [World.cell?, hg]; rfl
  have HM : Hid (∀ W, Calls Tryz.prog 189 #[.int .u64 1, .int .u64 (n : Int)] W fun e w' => e = .returned (.tuple #[.int .u64 0, .int .u64 (n : Int)]) ∧ w' = W) := fun W => by
    have := Tryz.bits_Mul 1 n (by omega) (by omega) W
    simp only [Nat.one_mul] at this
    rw [Nat.div_eq_of_lt (by omega), Nat.mod_eq_of_lt (by omega)] at this
    exact this
  have hgl : g0 < w.heap.size := (Array.getElem?_eq_some_iff.1 hg).1
  have hmk := run_makeSlice (P := Tryz.prog) w 215 3 i0 (.int .i64 0) Tryz.underlying215 hif hz0 .i64 .i64 (n : Int) (n : Int) (by omega) (by omega) (by rw [hz1]; simp; omega) (by rw [hz2]; omega) (by omega)
  obtain ⟨wm, hwm, hBm, hSm, hkm⟩ := one_box w (.cells (madeCells (Value.int .i64 0).cells ((n : Int).toNat * i0.size)) 3)
  rw [← hwm] at hmk
  simp only [Int.toNat_natCast] at hmk
  have hkm2 : wm.heap[w.heap.size]? = some (.cells (repC n 0).toArray 3 (0, 0)) := by
    rw [hkm, hz1]
    simp [madeCells, Value.cells, repC]
    apply Array.ext
    · simp
    · intro i h1 h2
      simp [Nat.mod_one]
  have c0m : wm.cell? ⟨g0, 0, none⟩ = some (.int .i64 (-1)) := (World.cell?_of_block (hBm.block g0 hgl)).trans c0
  have hs0 : ∀ j, j < 1 → wm.cell? ⟨g0, j, none⟩ = some (.int .i64 (-1)) := fun j hj => by
    obtain rfl : j = 0 := by omega
    exact c0m
  obtain ⟨wc, hcp, hc1, hc2⟩ := copy_rep wm w.heap.size g0 0 1 1 1 n n n (by omega) hkm2 hs0 (by simp [Nat.min_def]; omega)
  have HC : Hid (wc.heap[w.heap.size]? = some (.cells (repC n (0 + 1)).toArray 3 (0, 0)) ∧ Below w.heap.size w wc) := ⟨hc1, hc2 _ _ hBm (Nat.le_refl _)⟩
  clear hwm hkm hif hz0 hz1 hz2 hkm2 hc1 hc2 hs0
  go_enter Tryz.func177, Tryz.ntmps177
  go_wp2_with fail
  refine (HM.out _).mono ?_
  rintro e w1 ⟨rfl, rfl⟩
  go_wp2_with fail
  go_loopw [8] (fun vi wr => ∃ k : Nat, 1 ≤ k ∧ k ≤ n ∧ vi = .int .i64 (k : Int) ∧ wr.heap[w1.heap.size]? = some (.cells (repC n k).toArray 3 (0, 0)) ∧ Below w1.heap.size w1 wr) (fun vi _ => n - (intOf vi).toNat)
  case atStart => exact ⟨1, Nat.le_refl _, hn, rfl, HC.out.1, HC.out.2⟩
  case round =>
    obtain ⟨k, hk1, hk2, rfl, hk3, hk4⟩ := hrel
    by_cases hlt : k < n
    · have hl2 : (k : Int) < (n : Int) := by omega
      have hl3 : (k : Int) ≤ (n : Int) := by omega
      have hsr : ∀ (m : Nat), m ≤ k → ∀ j, j < m → wr.drew.cell? ⟨w1.heap.size, j, none⟩ = some (.int .i64 (-1)) := fun m hm j hj => by
        show wr.cell? _ = _
        simp only [World.cell?, hk3]
        have hjk : j < k := by omega
        show (repC n k).toArray[j]? = _
        rw [List.getElem?_toArray]
        unfold repC
        rw [List.getElem?_append_left (by simpa using hjk), List.getElem?_replicate, if_pos hjk]
      obtain ⟨m, hm⟩ : ∃ m, m = Nat.min k (n - k) := ⟨_, rfl⟩
      have hm1 : m ≤ k ∧ m ≤ n - k ∧ 1 ≤ m := by rw [hm]; simp [Nat.min_def]; split <;> omega
      obtain ⟨wc2, hcp2, hc1, hc2⟩ := copy_rep wr.drew w1.heap.size w1.heap.size k m k n (n - k) (n - k) n (by omega) hk3 (hsr m hm1.1) hm
      have HC2 : Hid (wc2.heap[w1.heap.size]? = some (.cells (repC n (k + m)).toArray 3 (0, 0)) ∧ Below w1.heap.size w1 wc2) := ⟨hc1, hc2 _ _ hk4.drew (Nat.le_refl _)⟩
      have HMM : Hid (m = Nat.min k (n - k)) := hm
      clear hc1 hc2 hsr hk3 hk4 hm hcp hmk HC
      go_wp2_with fail
      go_region_with (fail)
      all_goals
        go_wp2_with fail
        go_simp
        have hwp : IntKind.i64.wrap ((k : Int) + (m : Int)) = ((k + m : Nat) : Int) := by (simp [IntKind.wrap, IntKind.bits, IntKind.signed]; omega)
        go_roundw
        case rel => exact ⟨k + m, by omega, by omega, by rw [hwp], HC2.out.1, HC2.out.2⟩
        case measure => rw [hwp]; simp only [intOf, Int.toNat_natCast]; omega
    · have hl2 : ¬ (k : Int) < (n : Int) := by omega
      have HK : Hid (k = n ∧ wr.heap[w1.heap.size]? = some (.cells (repC n k).toArray 3 (0, 0)) ∧ Below w1.heap.size w1 wr) := ⟨by omega, hk3, hk4⟩
      clear hk3 hk4
      go_wp2_with fail
      go_ret
      refine ⟨w1.heap.size, rfl, Nat.le_refl _, ?_, HK.out.2.2⟩
      rw [HK.out.2.1, HK.out.1]
      simp [repC, snC]
theorem newWalk_any {L : List SV} {gs capS : Nat} (t : ByteArray) (hL : 1 ≤ L.length) (hfew : L.length ≤ 100000) (hok : ∀ x ∈ L, x.Ok) (w : World) (hs : ∃ cur, w.heap[gs]? = some (.cells cur 146 (0, 0)) ∧ cur.toList.take (7 * L.length) = L.flatMap stepC) : Calls Tryz.prog 160 #[.slice (some ⟨gs, 0, none⟩) L.length capS, .string t] w fun e w' => ∃ b gn capN, e = .returned (.pointer (some ⟨b, 0, none⟩)) ∧ Idle w.heap.size b gs gn capS capN L t 0 (.slice none 0 0) (.slice none 0 0) [] (List.replicate L.length (-1)) 0 w' ∧ Below w.heap.size w w' := by
  obtain ⟨n, hn⟩ : ∃ n, n = L.length := ⟨_, rfl⟩
  have hn1 : 1 ≤ n := by omega
  have hn2 : n ≤ 100000 := by omega
  obtain ⟨wa, hwa, hBa, hSa, hka⟩ := one_box w (.cells #[.int .i64 (-1)] 3)
  have HR : Hid (∀ W, W.heap[w.heap.size]? = some (.cells #[.int .i64 (-1)] 3 (0, 0)) → Calls Tryz.prog 177 #[.slice (some ⟨w.heap.size, 0, none⟩) 1 1, .int .i64 (n : Int)] W fun e w' => ∃ g, e = .returned (.slice (some ⟨g, 0, none⟩) n n) ∧ W.heap.size ≤ g ∧ w'.heap[g]? = some (.cells (snC (List.replicate n (-1))) 3 (0, 0)) ∧ Below W.heap.size W w') := fun W hW => repeat_any _ n hn1 hn2 W hW
  have HX : Hid (n = L.length ∧ (∃ cur, w.heap[gs]? = some (.cells cur 146 (0, 0)) ∧ cur.toList.take (7 * L.length) = L.flatMap stepC) ∧ (∀ x ∈ L, x.Ok) ∧ Below w.heap.size w wa ∧ wa.heap.size = w.heap.size + 1 ∧ wa.heap[w.heap.size]? = _) := ⟨hn, hs, hok, hBa, hSa, hka⟩
  rw [← hn]
  clear hn hs hok hBa hSa hka hL hfew
  go_enter Tryz.func160, Tryz.ntmps160
  go_wp2_with fail
  rw [← hwa]
  refine (HR.out wa HX.out.2.2.2.2.2).mono ?_
  rintro e w1 ⟨g, rfl, hg1, hg2, hb1⟩
  have HG : Hid (wa.heap.size ≤ g ∧ w1.heap[g]? = some (.cells (snC (List.replicate n (-1))) 3 (0, 0)) ∧ Below wa.heap.size wa w1) := ⟨hg1, hg2, hb1⟩
  clear hg1 hg2 hb1 hwa HR
  go_wp2_with fail
  go_ret
  obtain ⟨x1, ⟨cur, x2, x3⟩, x4, x5, x6, x7⟩ := HX.out
  obtain ⟨g1, g2, g3⟩ := HG.out
  have hs1 := g3.size
  have hgl := (Array.getElem?_eq_some_iff.1 g2).1
  have hBw : Below w.heap.size w w1 := x5.trans (g3.mono (by omega))
  refine ⟨w1.heap.size, g, n, rfl, ⟨?_, ⟨cur, ?_, x3⟩, (Below.heap_alloc _ _ _ hgl).trans g2, by simpa using x1, World.ownsRow_nil _ _ _ _, ⟨0, [], World.ownsRow_nil _ _ _ _⟩, fun g' hg' => by simp [Value.ownBlock] at hg', x4, by omega, by simp, by omega, by omega⟩, hBw.alloc (by omega) _⟩
  · have := heap_alloc_new w1 (.cells #[.slice (some ⟨gs, 0, none⟩) n capS, .string t, .int .i64 0, .slice (some ⟨g, 0, none⟩) n n, .slice none 0 0, .slice none 0 0, .int .i64 0] 219)
    rw [← x1]
    exact this
  · have hl := (Array.getElem?_eq_some_iff.1 x2).1
    rw [Below.heap_alloc _ _ _ (by omega), hBw.block gs hl]; exact x2
end Go.Proofs.YtedepknbaakkhabGreatDoor.X
