/-
  What Find hands on.
-/
import Derived.Test.YtmmhajlfbjjocaaGreatPEach
namespace Go.Proofs.YtmmhajlfbjjocaaGreat
open Go.RowKit Go.Shelf RxSem

def EachPost (b bm bo : Nat) (t s : ByteArray) (k : List Nd) (f : Nat) (w : World) (e : Ending) (w' : World) : Prop := e = .returned (.tuple #[]) ∧ ∃ K, (f ≤ s.size → LM (bl s) (.alt k) f K) ∧ (s.size < f → K = []) ∧ Boxes bm bo (headOf K) w' ∧ (∃ gs cap SL, Steps b gs cap SL t k w') ∧ Fr (fun j => j = b ∨ j = bm ∨ j = bo) w w'
set_option maxRecDepth 20000 in
set_option maxHeartbeats 800000 in
theorem each_find (hst : StepsC) (b bm bo : Nat) (t s : ByteArray) (k : List Nd) (f : Nat) (w : World) (h : Made b t k w) (hs : s.size ≤ 90000) (hf : f ≤ 9223372036854775807) (hbx : Boxes bm bo (0, 0, false) w) : Calls Tryz.prog 27 #[.pointer (some ⟨b, 0, none⟩), .string s, .int .i64 (f : Int), .func (.func 28) #[] #[.pointer (some ⟨bm, 0, none⟩), .pointer (some ⟨bo, 0, none⟩)]] w (EachPost b bm bo t s k f w) := by
  have c0 : w.cell? ⟨b, 0, none⟩ = some (.bool true) := by
    cases h with
    | fresh v base L hb => simp only [World.cell?, hb]; rfl
    | found gs cap SL h => simp only [World.cell?, h.blk]; rfl
  have HF : Hid (Calls Tryz.prog 39 #[.pointer (some ⟨b, 0, none⟩)] w fun e w' => ∃ (gs cap : Nat) (SL : List SV), e = .returned (.slice (some ⟨gs, 0, none⟩) SL.length cap) ∧ Steps b gs cap SL t k w' ∧ Wrote b w w') := found_any hst b t k w h
  have hnot : ∀ (x : Bool) (w : World), (Op.unary .not (.bool x)).run Tryz.prog w = .ok (.bool (!x)) w := fun _ _ => rfl
  have hf0 : ¬ (f : Int) < 0 := by omega
  have hbm : bm < w.heap.size := (Array.getElem?_eq_some_iff.1 hbx.m).1
  have hbo : bo < w.heap.size := (Array.getElem?_eq_some_iff.1 hbx.o).1
  have hbl := h.lt
  have hbmb : bm ≠ b := fun e => by
    have h1 := hbx.m
    cases h with
    | fresh v base L hb => rw [e, hb] at h1; simp at h1
    | found gs cap SL h => rw [e, h.blk] at h1; simp at h1
  have hbob : bo ≠ b := fun e => by
    have h1 := hbx.o
    cases h with
    | fresh v base L hb => rw [e, hb] at h1; simp at h1
    | found gs cap SL h => rw [e, h.blk] at h1; simp at h1
  have HX : Hid (Boxes bm bo (0, 0, false) w ∧ bm ≠ b ∧ bo ≠ b ∧ bm < w.heap.size ∧ bo < w.heap.size ∧ b < w.heap.size) := ⟨hbx, hbmb, hbob, hbm, hbo, hbl⟩
  clear h hbx hbm hbo hbl hbmb hbob hst
  go_enter Tryz.func27, Tryz.ntmps27
  go_wp2_with fail
  refine HF.out.mono ?_
  rintro e w1 ⟨gs, cap, SL, rfl, hS1, hw1⟩
  have hne : 1 ≤ SL.length := by
    have := congrArg List.length hS1.abs
    simp at this; omega
  have HN : Hid (Calls Tryz.prog 38 #[.slice (some ⟨gs, 0, none⟩) SL.length cap, .string s] w1 fun e w' => ∃ b gn capN, e = .returned (.pointer (some ⟨b, 0, none⟩)) ∧ Idle w1.heap.size b gs gn cap capN SL s 0 (.slice none 0 0) (.slice none 0 0) [] (List.replicate SL.length (-1)) 0 w' ∧ Below w1.heap.size w1 w') := newWalk_any s hne (by have := hS1.few; omega) hS1.oks w1 hS1.stp
  have HS1 : Hid (Steps b gs cap SL t k w1 ∧ Wrote b w w1) := ⟨hS1, hw1⟩
  obtain ⟨n, hn⟩ : ∃ n, n = SL.length := ⟨_, rfl⟩
  have HNn : Hid (n = SL.length) := hn
  rw [← hn]
  rw [← hn] at HN
  clear hS1 hw1 hne HF hn
  go_wp2_with fail
  refine HN.out.mono ?_
  rintro e w2 ⟨bw, gn, capN, rfl, hI2, hB2⟩
  have HI2 : Hid (Idle w1.heap.size bw gs gn cap capN SL s 0 (.slice none 0 0) (.slice none 0 0) [] (List.replicate n (-1)) 0 w2 ∧ Below w1.heap.size w1 w2) := ⟨hI2, hB2⟩
  clear hI2 hB2 HN
  go_wp2_with fail
  go_loopw [9] (fun vi wr => ∃ (j : Nat) (K : List (Nat × Nat)) (q : Int) (bv sv : Value) (B : List (Nat × Nat)) (sn : List Int) (lo : Int), j ≤ s.size + 1 ∧ (f ≤ j ∨ j = s.size + 1) ∧ vi = .int .i64 ((j : Int) - 1) ∧ LM (bl s) (.alt k) j K ∧ Idle w1.heap.size bw gs gn cap capN SL s q bv sv B sn lo wr ∧ Inv (SL.map SV.abs) (bl s) j B ∧ (∀ (u : Nat) (x : Int), sn[u]? = some x → (j : Int) ≤ x ∨ x = -1) ∧ Boxes bm bo (headOf K) wr ∧ Fr (fun i => i = bm ∨ i = bo ∨ w1.heap.size ≤ i) w1 wr) (fun vi _ => ((intOf vi) + 1).toNat)
  case atStart =>
    obtain ⟨x1, x2, x3, x4, x5, x6⟩ := HX.out
    obtain ⟨i1, i2⟩ := HI2.out
    obtain ⟨s1, s2⟩ := HS1.out
    have hsz := s2.size
    refine ⟨s.size + 1, [], 0, _, _, [], _, 0, Nat.le_refl _, .inr rfl, by go_num, ?_, i1, ?_, fun u x hx => ?_, ?_, Fr.of_below i2⟩
    · have := LM.top (s := bl s) (n := .alt k); rw [bl_length] at this; exact this
    · have := inv_top (SL.map SV.abs) (bl s); rw [bl_length] at this; exact this
    · right
      rw [List.getElem?_replicate] at hx
      split at hx
      · exact (Option.some.inj hx).symm
      · cases hx
    · exact ⟨((i2.block bm (by omega)).trans (s2.block bm x4 x2)).trans x1.m, ((i2.block bo (by omega)).trans (s2.block bo x5 x3)).trans x1.o⟩
  case round =>
    obtain ⟨j, K, q, bv, sv, B, sn, lo, hj1, hj2, rfl, hLM, hId, hInv, hsn, hBx, hFr⟩ := hrel
    have hfit : Fit (SL.map SV.abs) (code (.alt k)).length := by rw [HS1.out.1.abs]; exact fit (.alt k)
    by_cases hlt : f < j
    · obtain ⟨p, rfl⟩ : ∃ p, j = p + 1 := ⟨j - 1, by omega⟩
      have hps : p ≤ s.size := by omega
      have HBk : Hid (Calls Tryz.prog 40 #[.pointer (some ⟨bw, 0, none⟩), .int .i64 (p : Int)] wr fun e w' => ∃ (bv' : Value) (B' : List (Nat × Nat)) (sn' : List Int) (lo' : Int), e = .returned (.int .i64 lo') ∧ Idle w1.heap.size bw gs gn cap capN SL s (p : Int) bv' bv B' sn' lo' w' ∧ Inv (SL.map SV.abs) (bl s) p B' ∧ (∀ (u : Nat) (x : Int), sn'[u]? = some x → (p : Int) ≤ x ∨ x = -1) ∧ loOf (SL.map SV.abs) (bl s) p (code (.alt k)).length lo' ∧ Below w1.heap.size wr w' ∧ Sp wr w') := back_any hfit wr hId p hps hInv (fun u x hx => by rcases hsn u x hx with h | h; exact .inl (by omega); exact .inr h)
      have e1 : (((p + 1 : Nat) : Int) - 1) = (p : Int) := by omega
      have hfp : ¬ (p : Int) < (f : Int) := by omega
      have hfp2 : (f : Int) ≤ (p : Int) := by omega
      rw [e1]
      have HR : Hid (LM (bl s) (.alt k) (p + 1) K ∧ Boxes bm bo (headOf K) wr ∧ Fr (fun i => i = bm ∨ i = bo ∨ w1.heap.size ≤ i) w1 wr ∧ p ≤ s.size ∧ w1.heap.size ≤ wr.heap.size) := ⟨hLM, hBx, hFr, hps, hFr.size⟩
      clear hLM hId hInv hsn hBx hFr hfit e1
      go_wp2_with fail
      refine HBk.out.mono ?_
      rintro e w3 ⟨bv2, B2, sn2, lo2, rfl, a1, a2, a3, a4, a5, a6⟩
      have hcase : (lo2 = -1 ∧ ∀ e, ¬ M (bl s) (.alt k) p e) ∨ ∃ e : Nat, lo2 = (e : Int) ∧ e ≤ s.size ∧ M (bl s) (.alt k) p e ∧ ∀ e', M (bl s) (.alt k) p e' → e' ≤ e := by
        have htop : ∀ e, M (bl s) (.alt k) p e → e ≤ (bl s).length := fun e he => M_top _ _ p e he (by rw [bl_length]; exact hps)
        have hrm : ∀ e, Rch (SL.map SV.abs) (bl s) e (code (.alt k)).length p ↔ M (bl s) (.alt k) p e := fun e => by rw [HS1.out.1.abs]; exact rch_match (bl s) (.alt k) p e
        rcases a4 with ⟨l1, l2⟩ | ⟨e, l1, l2, l3, l4⟩
        · exact .inl ⟨l1, fun e he => l2 e (htop e he) ((hrm e).2 he)⟩
        · exact .inr ⟨e, l1, by rw [bl_length] at l2; exact l2, (hrm e).1 l3, fun e' he' => l4 e' (htop e' he') ((hrm e').2 he')⟩
      have HA : Hid (Idle w1.heap.size bw gs gn cap capN SL s (p : Int) bv2 bv B2 sn2 lo2 w3 ∧ Inv (SL.map SV.abs) (bl s) p B2 ∧ (∀ (u : Nat) (x : Int), sn2[u]? = some x → (p : Int) ≤ x ∨ x = -1) ∧ Below w1.heap.size wr w3) := ⟨a1, a2, a3, a5⟩
      clear a1 a2 a3 a4 a5 a6 HBk
      rcases hcase with ⟨rfl, hno⟩ | ⟨e, rfl, hes, hM, hmx⟩
      · have HM : Hid (∀ e, ¬ M (bl s) (.alt k) p e) := hno
        clear hno
        go_wp2_with fail
        go_roundw
        case rel =>
          obtain ⟨r1, r2, r3, r4, r5⟩ := HR.out
          obtain ⟨a1, a2, a3, a5⟩ := HA.out
          obtain ⟨x1, x2, x3, x4, x5, x6⟩ := HX.out
          have hsz := HS1.out.2.size
          refine ⟨p, K, _, _, _, B2, sn2, _, by omega, .inl (by omega), by go_num, .no r1 (by rw [bl_length]; exact r4) HM.out, a1, a2, a3, r2.below a5 (by omega) (by omega), r3.trans (Fr.low a5 (fun i hi _ => .inr (.inr hi)))⟩
        case measure => simp [intOf]
      · have HM : Hid (M (bl s) (.alt k) p e ∧ ∀ e', M (bl s) (.alt k) p e' → e' ≤ e) := ⟨hM, hmx⟩
        have hbx3 : Boxes bm bo (headOf K) w3 := by
          have hsz := HS1.out.2.size
          have hx := HX.out
          exact HR.out.2.1.below HA.out.2.2.2 (by omega) (by omega)
        have HC : Hid (∀ W, Boxes bm bo (headOf K) W → Calls Tryz.prog 28 #[.agg #[.int .i64 (p : Int), .int .i64 (e : Int)], .pointer (some ⟨bm, 0, none⟩), .pointer (some ⟨bo, 0, none⟩)] W fun z w' => z = .returned (.tuple #[]) ∧ Boxes bm bo (p, e, true) w' ∧ Fr (fun j => j = bm ∨ j = bo) W w') := fun W hW => find1_any bm bo p e _ W hW
        have HB3 : Hid (Boxes bm bo (headOf K) w3) := hbx3
        clear hM hmx hbx3
        go_wp2_with fail
        refine (HC.out _ HB3.out).mono ?_
        rintro z w4 ⟨rfl, b4, f4⟩
        have H4 : Hid (Boxes bm bo (p, e, true) w4 ∧ Fr (fun j => j = bm ∨ j = bo) w3 w4) := ⟨b4, f4⟩
        clear b4 f4 HC
        go_wp2_with fail
        go_roundw
        case rel =>
          obtain ⟨r1, r2, r3, r4, r5⟩ := HR.out
          obtain ⟨a1, a2, a3, a5⟩ := HA.out
          obtain ⟨x1, x2, x3, x4, x5, x6⟩ := HX.out
          obtain ⟨b4, f4⟩ := H4.out
          have hsz := HS1.out.2.size
          have hI4 := a1.keep (w' := w4) (fun i cs T hc hT => f4.block i (Array.getElem?_eq_some_iff.1 hc).1 (by
            rintro (rfl | rfl)
            · have h1 := HB3.out.m; rw [hc] at h1; simp at h1
              rcases hT with h | h | h | h <;> (rw [h] at h1; simp at h1)
            · have h1 := HB3.out.o; rw [hc] at h1; simp at h1
              rcases hT with h | h | h | h <;> (rw [h] at h1; simp at h1)))
          refine ⟨p, (p, e) :: K, _, _, _, B2, sn2, _, by omega, .inl (by omega), by go_num, .yes r1 (by rw [bl_length]; exact r4) HM.out.1 HM.out.2, hI4, a2, a3, b4, (r3.trans (Fr.low a5 (fun i hi _ => .inr (.inr hi)))).trans ⟨f4.os, f4.tape, f4.output, f4.size, fun i hi hd => f4.block i hi (fun h => hd (by rcases h with h | h; exact .inl h; exact .inr (.inl h)))⟩⟩
        case measure => simp [intOf]
    · have hjf : ¬ (f : Int) ≤ (j : Int) - 1 := by omega
      have HR : Hid (LM (bl s) (.alt k) j K ∧ Boxes bm bo (headOf K) wr ∧ Fr (fun i => i = bm ∨ i = bo ∨ w1.heap.size ≤ i) w1 wr ∧ j ≤ s.size + 1 ∧ (f ≤ j ∨ j = s.size + 1) ∧ ¬ f < j) := ⟨hLM, hBx, hFr, hj1, hj2, hlt⟩
      clear hLM hId hInv hsn hBx hFr hfit
      go_wp2_with fail
      go_end0
      obtain ⟨r1, r2, r3, r4, r5, r6⟩ := HR.out
      obtain ⟨s1, s2⟩ := HS1.out
      obtain ⟨x1, x2, x3, x4, x5, x6⟩ := HX.out
      obtain ⟨cur, h2, h3⟩ := s1.stp
      have hgl := (Array.getElem?_eq_some_iff.1 h2).1
      have hsz := s2.size
      have hkb : wr.heap[b]? = w1.heap[b]? := r3.block b (by omega) (by rintro (h | h | h); exact x2 h.symm; exact x3 h.symm; omega)
      have hgm : ∀ c, c = bm ∨ c = bo → gs ≠ c := fun c hc e => by
        have y1 := (s2.block bm x4 x2).trans x1.m
        have y2 := (s2.block bo x5 x3).trans x1.o
        rcases hc with rfl | rfl
        · rw [e, y1] at h2; simp at h2
        · rw [e, y2] at h2; simp at h2
      have hkg : wr.heap[gs]? = w1.heap[gs]? := r3.block gs hgl (by rintro (h | h | h); exact hgm bm (.inl rfl) h; exact hgm bo (.inr rfl) h; omega)
      refine ⟨rfl, K, fun hle => ?_, fun hgt => ?_, r2, ⟨gs, cap, SL, hkb.trans s1.blk, ⟨cur, hkg.trans h2, h3⟩, s1.abs, s1.oks, s1.few⟩, ?_⟩
      · have : j = f := by omega
        rw [← this]; exact r1
      · have hjs : j = s.size + 1 := by omega
        rw [hjs] at r1
        have htop := LM.top (s := bl s) (n := .alt k)
        rw [bl_length] at htop
        exact r1.same htop
      · refine (Fr.of_wrote s2 (.inl rfl)).trans ⟨r3.os, r3.tape, r3.output, r3.size, fun i hi hd => ?_⟩
        exact r3.block i hi (by rintro (h | h | h); exact hd (.inr (.inl h)); exact hd (.inr (.inr h)); omega)
end Go.Proofs.YtmmhajlfbjjocaaGreat
