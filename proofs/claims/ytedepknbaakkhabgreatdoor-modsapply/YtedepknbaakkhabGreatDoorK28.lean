/-
  PEachA PIter
-/
import Derived.Test.YtedepknbaakkhabGreatDoorK27
import Derived.RangeFuncNested
import Derived.RangeFuncBound
import Derived.RangeFuncCalls
import Derived.RangeFuncLeaves
import Derived.RangeFuncBox
import Derived.Shelf.RegionOpen
import Derived.WalkKit
import Derived.OwnWalkIn
import Derived.TacticsInMore
import Derived.LoopNIn
import Derived.LoopIn
set_option maxRecDepth 20000
namespace Go.Proofs.YtedepknbaakkhabGreatDoor.X
open Go.RowKit Go.Shelf RxSem
theorem lm_len {s : List UInt8} {n : Nd} {i : Nat} {K : List (Nat × Nat)} (h : LM s n i K) : K.length + i ≤ s.length + 1 := by
  induction h with
  | top => simp
  | no h1 h2 h3 ih => omega
  | yes h1 h2 h3 h4 ih => simp; omega
theorem Fall.keep {base bs : Nat} {L : List (Nat × Nat)} {w w' : World} (h : Fall base bs L w) (hk : ∀ (j : Nat) (cs : Array Value) (T : TypeId), w.heap[j]? = some (.cells cs T (0, 0)) → (T = 124 ∨ T = 127) → w'.heap[j]? = w.heap[j]?) : Fall base bs L w' := by
  obtain ⟨v, h1, hr⟩ := h
  refine ⟨v, (hk bs _ _ h1 (.inl rfl)).trans h1, hr.1, ?_⟩
  rcases hr.2 with h0 | ⟨g, cap, cur, hv, hg, hgg, rest⟩
  · exact .inl h0
  · exact .inr ⟨g, cap, cur, hv, hg, (hk g _ _ hgg (.inr rfl)).trans hgg, rest⟩
theorem Fall.sp {base bs : Nat} {L : List (Nat × Nat)} {w w' : World} (h : Fall base bs L w) (hs : Sp w w') : Fall base bs L w' :=
  h.keep fun j cs T hc hT => hs.keep j cs T hc (by rcases hT with rfl | rfl <;> decide) (by rcases hT with rfl | rfl <;> decide) (by rcases hT with rfl | rfl <;> decide)
def EachFall (b bs : Nat) (t s : ByteArray) (k : List Nd) (w : World) (e : Ending) (w' : World) : Prop := e = .returned (.tuple #[]) ∧ ∃ K, LM (bl s) (.alt k) 0 K ∧ Fall w.heap.size bs K.reverse w' ∧ (∃ gs cap SL, Steps b gs cap SL t k w') ∧ Fr (fun j => j = b ∨ j = bs) w w'
set_option maxHeartbeats 800000 in
theorem each_fall (hst : StepsC) (b bs : Nat) (t s : ByteArray) (k : List Nd) (w : World) (h : Made b t k w) (hs : s.size ≤ 90000) (hbx : w.heap[bs]? = some (.cells #[.slice none 0 0] 124 (0, 0))) : Calls Tryz.prog 132 #[.pointer (some ⟨b, 0, none⟩), .string s, .int .i64 0, .func (.func 133) #[] #[.pointer (some ⟨bs, 0, none⟩)]] w (EachFall b bs t s k w) := by
  have c0 : w.cell? ⟨b, 0, none⟩ = some (.bool true) := by
    cases h with
    | fresh v base L hb => simp only [World.cell?, hb]; rfl
    | found gs cap SL h => simp only [World.cell?, h.blk]; rfl
  have HF : Hid (Calls Tryz.prog 161 #[.pointer (some ⟨b, 0, none⟩)] w fun e w' => ∃ (gs cap : Nat) (SL : List SV), e = .returned (.slice (some ⟨gs, 0, none⟩) SL.length cap) ∧ Steps b gs cap SL t k w' ∧ Wrote b w w') := found_any hst b t k w h
  have hnot : ∀ (x : Bool) (w : World), (Op.unary .not (.bool x)).run Tryz.prog w = .ok (.bool (!x)) w := fun _ _ => rfl
  have hbm : bs < w.heap.size := (Array.getElem?_eq_some_iff.1 hbx).1
  have hbl := h.lt
  have hbmb : bs ≠ b := fun e => by
    have h1 := hbx
    cases h with
    | fresh v base L hb => rw [e, hb] at h1; simp at h1
    | found gs cap SL h => rw [e, h.blk] at h1; simp at h1
  have HX : Hid (w.heap[bs]? = some (.cells #[.slice none 0 0] 124 (0, 0)) ∧ bs ≠ b ∧ bs < w.heap.size ∧ b < w.heap.size) := ⟨hbx, hbmb, hbm, hbl⟩
  clear h hbx hbm hbl hbmb hst
  go_enter Tryz.func132, Tryz.ntmps132
  go_wp2_with fail
  refine HF.out.mono ?_
  rintro e w1 ⟨gs, cap, SL, rfl, hS1, hw1⟩
  have hne : 1 ≤ SL.length := by
    have := congrArg List.length hS1.abs
    simp at this; omega
  have HN : Hid (Calls Tryz.prog 160 #[.slice (some ⟨gs, 0, none⟩) SL.length cap, .string s] w1 fun e w' => ∃ b gn capN, e = .returned (.pointer (some ⟨b, 0, none⟩)) ∧ Idle w1.heap.size b gs gn cap capN SL s 0 (.slice none 0 0) (.slice none 0 0) [] (List.replicate SL.length (-1)) 0 w' ∧ Below w1.heap.size w1 w') := newWalk_any s hne (by have := hS1.few; omega) hS1.oks w1 hS1.stp
  have HS1 : Hid (Steps b gs cap SL t k w1 ∧ Wrote b w w1) := ⟨hS1, hw1⟩
  obtain ⟨n, hn⟩ : ∃ n, n = SL.length := ⟨_, rfl⟩
  have HNn : Hid (n = SL.length) := hn
  rw [← hn]
  rw [← hn] at HN
  clear hS1 hw1 hne HF hn
  go_wp2_with fail
  refine HN.out.mono ?_
  rintro e w2 ⟨bw, gn, capN, rfl, hI2, hB2⟩
  have HI2 : Hid (Idle w1.heap.size bw gs gn cap capN SL s 0 (.slice none 0 0) (.slice none 0 0) [] (List.replicate n (-1)) 0 w2 ∧ Below w1.heap.size w1 w2) := ⟨hI2, hB2⟩
  clear hI2 hB2 HN
  go_wp2_with fail
  go_loopw [9] (fun vi wr => ∃ (j : Nat) (K : List (Nat × Nat)) (q : Int) (bv sv : Value) (B : List (Nat × Nat)) (sn : List Int) (lo : Int), j ≤ s.size + 1 ∧ vi = .int .i64 ((j : Int) - 1) ∧ LM (bl s) (.alt k) j K ∧ Idle w1.heap.size bw gs gn cap capN SL s q bv sv B sn lo wr ∧ Inv (SL.map SV.abs) (bl s) j B ∧ (∀ (u : Nat) (x : Int), sn[u]? = some x → (j : Int) ≤ x ∨ x = -1) ∧ Fall w1.heap.size bs K.reverse wr ∧ Fr (fun i => i = bs ∨ w1.heap.size ≤ i) w1 wr) (fun vi _ => ((intOf vi) + 1).toNat)
  case atStart =>
    obtain ⟨x1, x2, x4, x6⟩ := HX.out
    obtain ⟨i1, i2⟩ := HI2.out
    obtain ⟨s1, s2⟩ := HS1.out
    have hsz := s2.size
    refine ⟨s.size + 1, [], 0, _, _, [], _, 0, Nat.le_refl _, by go_num, ?_, i1, ?_, fun u x hx => ?_, ?_, Fr.of_below i2⟩
    · have := LM.top (s := bl s) (n := .alt k); rw [bl_length] at this; exact this
    · have := inv_top (SL.map SV.abs) (bl s); rw [bl_length] at this; exact this
    · right
      rw [List.getElem?_replicate] at hx
      split at hx
      · exact (Option.some.inj hx).symm
      · cases hx
    · exact ⟨_, ((i2.block bs (by omega)).trans (s2.block bs x4 x2)).trans x1, rfl, .inl ⟨rfl, rfl⟩⟩
  case round =>
    obtain ⟨j, K, q, bv, sv, B, sn, lo, hj1, rfl, hLM, hId, hInv, hsn, hBx, hFr⟩ := hrel
    have hfit : Fit (SL.map SV.abs) (code (.alt k)).length := by rw [HS1.out.1.abs]; exact fit (.alt k)
    by_cases hlt : 0 < j
    · obtain ⟨p, rfl⟩ : ∃ p, j = p + 1 := ⟨j - 1, by omega⟩
      have hps : p ≤ s.size := by omega
      have HBk : Hid (Calls Tryz.prog 162 #[.pointer (some ⟨bw, 0, none⟩), .int .i64 (p : Int)] wr fun e w' => ∃ (bv' : Value) (B' : List (Nat × Nat)) (sn' : List Int) (lo' : Int), e = .returned (.int .i64 lo') ∧ Idle w1.heap.size bw gs gn cap capN SL s (p : Int) bv' bv B' sn' lo' w' ∧ Inv (SL.map SV.abs) (bl s) p B' ∧ (∀ (u : Nat) (x : Int), sn'[u]? = some x → (p : Int) ≤ x ∨ x = -1) ∧ loOf (SL.map SV.abs) (bl s) p (code (.alt k)).length lo' ∧ Below w1.heap.size wr w' ∧ Sp wr w') := back_any hfit wr hId p hps hInv (fun u x hx => by rcases hsn u x hx with h | h; exact .inl (by omega); exact .inr h)
      have e1 : (((p + 1 : Nat) : Int) - 1) = (p : Int) := by omega
      have hfp : ¬ (p : Int) < 0 := by omega
      have hfp2 : (0 : Int) ≤ (p : Int) := by omega
      rw [e1]
      have HR : Hid (LM (bl s) (.alt k) (p + 1) K ∧ Fall w1.heap.size bs K.reverse wr ∧ Fr (fun i => i = bs ∨ w1.heap.size ≤ i) w1 wr ∧ p ≤ s.size ∧ w1.heap.size ≤ wr.heap.size) := ⟨hLM, hBx, hFr, hps, hFr.size⟩
      clear hLM hId hInv hsn hBx hFr hfit e1
      go_wp2_with fail
      refine HBk.out.mono ?_
      rintro e w3 ⟨bv2, B2, sn2, lo2, rfl, a1, a2, a3, a4, a5, a6⟩
      have hcase : (lo2 = -1 ∧ ∀ e, ¬ M (bl s) (.alt k) p e) ∨ ∃ e : Nat, lo2 = (e : Int) ∧ e ≤ s.size ∧ M (bl s) (.alt k) p e ∧ ∀ e', M (bl s) (.alt k) p e' → e' ≤ e := by
        have htop : ∀ e, M (bl s) (.alt k) p e → e ≤ (bl s).length := fun e he => M_top _ _ p e he (by rw [bl_length]; exact hps)
        have hrm : ∀ e, Rch (SL.map SV.abs) (bl s) e (code (.alt k)).length p ↔ M (bl s) (.alt k) p e := fun e => by rw [HS1.out.1.abs]; exact rch_match (bl s) (.alt k) p e
        rcases a4 with ⟨l1, l2⟩ | ⟨e, l1, l2, l3, l4⟩
        · exact .inl ⟨l1, fun e he => l2 e (htop e he) ((hrm e).2 he)⟩
        · exact .inr ⟨e, l1, by rw [bl_length] at l2; exact l2, (hrm e).1 l3, fun e' he' => l4 e' (htop e' he') ((hrm e').2 he')⟩
      have HA : Hid (Idle w1.heap.size bw gs gn cap capN SL s (p : Int) bv2 bv B2 sn2 lo2 w3 ∧ Inv (SL.map SV.abs) (bl s) p B2 ∧ (∀ (u : Nat) (x : Int), sn2[u]? = some x → (p : Int) ≤ x ∨ x = -1) ∧ Below w1.heap.size wr w3 ∧ Sp wr w3) := ⟨a1, a2, a3, a5, a6⟩
      clear a1 a2 a3 a4 a5 a6 HBk
      rcases hcase with ⟨rfl, hno⟩ | ⟨e, rfl, hes, hM, hmx⟩
      · have HM : Hid (∀ e, ¬ M (bl s) (.alt k) p e) := hno
        clear hno
        go_wp2_with fail
        go_roundw
        case rel =>
          obtain ⟨r1, r2, r3, r4, r5⟩ := HR.out
          obtain ⟨a1, a2, a3, a5, a6⟩ := HA.out
          obtain ⟨x1, x2, x4, x6⟩ := HX.out
          have hsz := HS1.out.2.size
          refine ⟨p, K, _, _, _, B2, sn2, _, by omega, by go_num, .no r1 (by rw [bl_length]; exact r4) HM.out, a1, a2, a3, r2.sp a6, r3.trans (Fr.low a5 (fun i hi _ => .inr hi))⟩
        case measure => simp [intOf]
      · have HM : Hid (M (bl s) (.alt k) p e ∧ ∀ e', M (bl s) (.alt k) p e' → e' ≤ e) := ⟨hM, hmx⟩
        have hbx3 : Fall w1.heap.size bs K.reverse w3 := HR.out.2.1.sp HA.out.2.2.2.2
        have hKl : K.reverse.length ≤ 100000 := by
          have h1 := lm_len HR.out.1
          rw [bl_length] at h1
          simp; omega
        have HC : Hid (Calls Tryz.prog 133 #[.agg #[.int .i64 (p : Int), .int .i64 (e : Int)], .pointer (some ⟨bs, 0, none⟩)] w3 fun z w' => z = .returned (.tuple #[]) ∧ Fall w1.heap.size bs (K.reverse ++ [(p, e)]) w' ∧ (∀ (j : Nat) (cs : Array Value) (T : TypeId), w3.heap[j]? = some (.cells cs T (0, 0)) → T ≠ 124 → T ≠ 127 → w'.heap[j]? = w3.heap[j]?) ∧ Fr (fun j => j = bs ∨ w1.heap.size ≤ j) w3 w') := replaced1_any _ bs p e _ w3 hbx3 hKl (Nat.le_trans HR.out.2.2.2.2 HA.out.2.2.2.1.size)
        clear hM hmx hbx3 hKl
        go_wp2_with fail
        refine HC.out.mono ?_
        rintro z w4 ⟨rfl, b4, k4, f4⟩
        have H4 : Hid (Fall w1.heap.size bs (K.reverse ++ [(p, e)]) w4 ∧ (∀ (j : Nat) (cs : Array Value) (T : TypeId), w3.heap[j]? = some (.cells cs T (0, 0)) → T ≠ 124 → T ≠ 127 → w4.heap[j]? = w3.heap[j]?) ∧ Fr (fun j => j = bs ∨ w1.heap.size ≤ j) w3 w4) := ⟨b4, k4, f4⟩
        clear b4 k4 f4 HC
        go_wp2_with fail
        go_roundw
        case rel =>
          obtain ⟨r1, r2, r3, r4, r5⟩ := HR.out
          obtain ⟨a1, a2, a3, a5, a6⟩ := HA.out
          obtain ⟨x1, x2, x4, x6⟩ := HX.out
          obtain ⟨b4, k4, f4⟩ := H4.out
          have hsz := HS1.out.2.size
          have hI4 := a1.keep (w' := w4) (fun i cs T hc hT => k4 i cs T hc (by rcases hT with rfl | rfl | rfl | rfl <;> decide) (by rcases hT with rfl | rfl | rfl | rfl <;> decide))
          refine ⟨p, (p, e) :: K, _, _, _, B2, sn2, _, by omega, by go_num, .yes r1 (by rw [bl_length]; exact r4) HM.out.1 HM.out.2, hI4, a2, a3, by rw [List.reverse_cons]; exact b4, (r3.trans (Fr.low a5 (fun i hi _ => .inr hi))).trans f4⟩
        case measure => simp [intOf]
    · have hjf : ¬ (0 : Int) ≤ (j : Int) - 1 := by omega
      have HR : Hid (LM (bl s) (.alt k) j K ∧ Fall w1.heap.size bs K.reverse wr ∧ Fr (fun i => i = bs ∨ w1.heap.size ≤ i) w1 wr ∧ j = 0) := ⟨hLM, hBx, hFr, by omega⟩
      clear hLM hId hInv hsn hBx hFr hfit
      go_wp2_with fail
      go_end0
      obtain ⟨r1, r2, r3, r4⟩ := HR.out
      obtain ⟨s1, s2⟩ := HS1.out
      obtain ⟨x1, x2, x4, x6⟩ := HX.out
      obtain ⟨cur, h2, h3⟩ := s1.stp
      have hgl := (Array.getElem?_eq_some_iff.1 h2).1
      have hsz := s2.size
      have hkb : wr.heap[b]? = w1.heap[b]? := r3.block b (by omega) (by rintro (h | h); exact x2 h.symm; omega)
      have hgm : gs ≠ bs := fun e => by
        have y1 := (s2.block bs x4 x2).trans x1
        rw [e, y1] at h2; simp at h2
      have hkg : wr.heap[gs]? = w1.heap[gs]? := r3.block gs hgl (by rintro (h | h); exact hgm h; omega)
      obtain ⟨v9, y1, y2⟩ := r2
      refine ⟨rfl, K, by rw [← r4]; exact r1, ⟨v9, y1, row_base y2 hsz⟩, ⟨gs, cap, SL, hkb.trans s1.blk, ⟨cur, hkg.trans h2, h3⟩, s1.abs, s1.oks, s1.few⟩, ?_⟩
      refine (Fr.of_wrote s2 (.inl rfl)).trans ⟨r3.os, r3.tape, r3.output, r3.size, fun i hi hd => ?_⟩
      exact r3.block i hi (by rintro (h | h); exact hd (.inr h); omega)
end Go.Proofs.YtedepknbaakkhabGreatDoor.X
namespace Go.Proofs.YtedepknbaakkhabGreatDoor.X
open Go.RowKit Go.Shelf RxSem
attribute [local go_sem] Oper.semAt_some
def seqOf (L : List (Nat × Nat)) : List (Nat × (Nat × Nat)) := (L.zipIdx.map (fun x => (x.2, x.1))).reverse
theorem seqOf_snoc (A : List (Nat × Nat)) (x : Nat × Nat) : seqOf (A ++ [x]) = (A.length, x) :: seqOf A := by
  simp [seqOf, List.zipIdx_append]
theorem seqOf_take (L : List (Nat × Nat)) (j : Nat) (hj : j < L.length) : seqOf (L.take (j + 1)) = (j, L[j]) :: seqOf (L.take j) := by
  rw [List.take_succ_eq_append_getElem hj, seqOf_snoc]
  simp [Nat.min_eq_left (Nat.le_of_lt hj)]
theorem seqOf_len (L : List (Nat × Nat)) : (seqOf L).length = L.length := by simp [seqOf]
theorem seqOf_map (L : List (Nat × Nat)) : (seqOf L).map (·.2) = L.reverse := by
  simp [seqOf, Function.comp_def]
def encS (x : Nat × (Nat × Nat)) : Array Value := #[.int .i64 (x.1 : Int), .agg #[.int .i64 (x.2.1 : Int), .int .i64 (x.2.2 : Int)]]
def KpB (Bn : Nat) (v : Value) (W W' : World) : Prop := ∀ k, k = Bn ∨ v.ownBlock = some k → W'.heap[k]? = W.heap[k]?
theorem KpB.trans {Bn : Nat} {v : Value} {A B C : World} (h : KpB Bn v A B) (h2 : KpB Bn v B C) : KpB Bn v A C := fun k hk => (h2 k hk).trans (h k hk)
structure Held (Bn : Nat) (v : Value) (L : List (Nat × Nat)) (w : World) : Prop where
  box : w.cell? ⟨Bn, 0, none⟩ = some v
  row : (v = .slice none 0 0 ∧ L = []) ∨ ∃ g cap, v = .slice (some ⟨g, 0, none⟩) L.length cap ∧ ∀ j (hj : j < L.length), w.cell? ⟨g, j * 2, none⟩ = some (.int .i64 (L[j].1 : Int)) ∧ w.cell? ⟨g, j * 2 + 1, none⟩ = some (.int .i64 (L[j].2 : Int))
theorem cell_heap {w w' : World} {k j : Nat} {x : Value} (h : w'.heap[k]? = w.heap[k]?) (hc : w.cell? ⟨k, j, none⟩ = some x) : w'.cell? ⟨k, j, none⟩ = some x := by
  simp only [World.cell?] at hc ⊢
  rw [h]; exact hc
theorem Held.keep {Bn : Nat} {v : Value} {L : List (Nat × Nat)} {w w' : World} (h : Held Bn v L w) (hb : KpB Bn v w w') : Held Bn v L w' := by
  refine ⟨cell_heap (hb Bn (.inl rfl)) h.box, ?_⟩
  rcases h.row with h0 | ⟨g, cap, h1, h3⟩
  · exact .inl h0
  · have hg := hb g (.inr (by rw [h1]; rfl))
    exact .inr ⟨g, cap, h1, fun j hj => ⟨cell_heap hg (h3 j hj).1, cell_heap hg (h3 j hj).2⟩⟩
set_option maxRecDepth 100000 in
set_option maxHeartbeats 1000000 in
theorem backward1_in (n : Nat) (hn : 1 ≤ n) (l Bn : Nat) (v : Value) (L : List (Nat × Nat)) (hL : L.length ≤ 100000) (J Jx : List (Nat × (Nat × Nat)) → World → Prop)
    (hY : ∀ pre x W, J pre W → pre.length < (seqOf L).length → YieldAt Fence.wide (n - 1) Tryz.prog l (encS x) W fun e W' =>
      (e = .returned (.bool true) ∧ J (pre ++ [x]) W' ∧ KpB Bn v W W') ∨ (e = .returned (.bool false) ∧ Jx (pre ++ [x]) W'))
    (W : World) (hH : Held Bn v L W) (h0 : J [] W) :
    CallsIn Fence.wide n Tryz.prog 163 #[.func (.yield l) #[] #[], .pointer (some ⟨Bn, 0, none⟩)] W fun e W' => (∃ v, e = .returned v) ∧
      ((∃ ys, ys = seqOf L ∧ J ys W') ∨ (∃ pre, pre <+: seqOf L ∧ Jx pre W')) := by
  obtain ⟨m, hm⟩ : ∃ m, m = L.length := ⟨_, rfl⟩
  have hv : ∃ a c, v = .slice a m c := by
    rcases hH.row with ⟨h1, h2⟩ | ⟨g, cap, h1, _⟩
    · rw [h2] at hm; exact ⟨none, 0, by rw [h1, hm]; rfl⟩
    · exact ⟨_, _, by rw [hm]; exact h1⟩
  obtain ⟨a, c, hv⟩ := hv
  have HH : Hid (Held Bn v L W ∧ m = L.length) := ⟨hH, hm⟩
  have hc := hH.box
  rw [← hm] at hL
  subst hv
  clear hm hH
  refine callsIn_of_wp Tryz.func163 rfl trivial ?_ rfl
  simp only [Tryz.ntmps163, List.size_toArray, List.length_cons, List.length_nil, Nat.reduceAdd, Nat.reduceSub, Array.replicate_succ, Array.replicate_zero, List.push_toArray, List.append_toArray, List.nil_append, List.cons_append]
  gi_wp2
  gi_loopw [3] (fun vi wr => ∃ (i : Nat) (pre : List (Nat × (Nat × Nat))), i ≤ m ∧ vi = .int .i64 ((i : Int) - 1) ∧ Hid (seqOf L = pre ++ seqOf (L.take i)) ∧ J pre wr ∧ Hid (Held Bn (.slice a m c) L wr)) (fun vi _ => ((intOf vi) + 1).toNat)
  case atStart => exact ⟨m, [], Nat.le_refl _, by go_num, by rw [HH.out.2, List.take_length]; simp [Hid], h0, HH.out.1⟩
  case round =>
    clear h0 hc
    obtain ⟨i, pre, him, rfl, HP, hJ, HD⟩ := hrel
    by_cases hi : i = 0
    · subst hi
      gi_wp2
      go_end0
      exact ⟨⟨_, rfl⟩, .inl ⟨pre, by have := HP.out; simp [seqOf] at this; rw [← this]; rfl, hJ⟩⟩
    · obtain ⟨j, rfl⟩ : ∃ j, i = j + 1 := ⟨i - 1, by omega⟩
      have hjL : j < L.length := by rw [← HH.out.2]; omega
      have e1 : (((j + 1 : Nat) : Int) - 1) = (j : Int) := by omega
      have hjm : (j : Int) < (m : Int) := by omega
      have hj0 : (0 : Int) ≤ (j : Int) := by omega
      rcases HD.out.row with ⟨h1, h2⟩ | ⟨g, cap, h1, h3⟩
      · rw [h2] at hjL; simp at hjL
      · simp only [Value.slice.injEq] at h1
        obtain ⟨rfl, h1m, rfl⟩ := h1
        obtain ⟨k0, k1⟩ := h3 j hjL
        have hc := HD.out.box
        have HT : Hid (seqOf L = (pre ++ [(j, L[j])]) ++ seqOf (L.take j)) := by rw [Hid, HP.out, seqOf_take L j hjL]; simp
        obtain ⟨x, hx⟩ : ∃ x, x = L[j] := ⟨_, rfl⟩
        rw [← hx] at HT k0 k1
        have hlen : pre.length < (seqOf L).length := by rw [HT.out]; simp
        obtain ⟨fn, tmps, assign, body, hy, hR⟩ := hY pre (j, x) wr hJ hlen
        simp only [encS] at hy
        rw [e1]
        clear h1m h3 hx HP hlen hJ e1 hjL
        gi_wp2
        refine hR.mono ?_
        rintro e W3 (⟨rfl, hJ3, hk3⟩ | ⟨rfl, hJx3⟩)
        · gi_wp2
          go_roundw
          case rel => exact ⟨j, pre ++ [(j, x)], by omega, by go_num, HT, hJ3, HD.out.keep hk3⟩
          case measure => simp [intOf]
        · gi_wp2
          refine bodyPost_ret (results_none rfl _ _ _) rfl ?_
          exact ⟨⟨_, rfl⟩, .inr ⟨pre ++ [(j, x)], ⟨_, HT.out.symm⟩, hJx3⟩⟩
theorem backward_stops (n : Nat) (hn : 1 ≤ n) (Bn : Nat) (v : Value) (L : List (Nat × Nat)) (hL : L.length ≤ 100000) (w : World) (hH : Held Bn v L w) (hB : Bn < w.heap.size) (hg : ∀ g, v.ownBlock = some g → g < w.heap.size) :
    SeqStopsK Fence.wide n Tryz.prog 163 #[.pointer (some ⟨Bn, 0, none⟩)] encS (KpB Bn v) (fun ys => ys = seqOf L) (fun pre => pre <+: seqOf L) (seqOf L).length w := fun l J Jx W hW _ _ hY h0 =>
  backward1_in n hn l Bn v L hL J Jx hY W (hH.keep fun k hk => hW.block k (by rcases hk with rfl | hk; exact hB; exact hg k hk)) h0
set_option maxHeartbeats 1000000 in
theorem backward_in (n : Nat) (a : Option Addr) (m c : Nat) (w : World) : CallsIn Fence.wide n Tryz.prog 134 #[.slice a m c] w fun e w' => e = .returned (.func (.func 163) #[] #[.pointer (some ⟨w.heap.size, 0, none⟩)]) ∧ w' = w.alloc (.cells #[.slice a m c] 124) := by
  refine callsIn_of_wp Tryz.func134 rfl trivial ?_ rfl
  simp only [Tryz.ntmps134, List.size_toArray, List.length_cons, List.length_nil, Nat.reduceAdd, Nat.reduceSub, Array.replicate_succ, Array.replicate_zero, List.push_toArray, List.append_toArray, List.nil_append, List.cons_append]
  gi_wp2
  go_ret
  exact ⟨rfl, rfl⟩
end Go.Proofs.YtedepknbaakkhabGreatDoor.X
