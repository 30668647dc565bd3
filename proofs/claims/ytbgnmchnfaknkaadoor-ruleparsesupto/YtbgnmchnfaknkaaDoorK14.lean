/-
  What the document's Parse answers.
-/
import Derived.Test.YtbgnmchnfaknkaaDoorK13
import Derived.Deep.Cut
namespace Go.Proofs.YtbgnmchnfaknkaaDoor
open Go.RowKit Go.Shelf

theorem cutOp_parts (acc x : List UInt8) (h : (Q.cutOp acc x).2.1 ≠ 0) : acc ++ x = (Q.cutOp acc x).1 ++ opT (Q.cutOp acc x).2.1 ++ (Q.cutOp acc x).2.2 := by
  induction x generalizing acc with
  | nil => exact absurd rfl h
  | cons c t ih =>
    by_cases h1 : c = 33
    · have e : Q.cutOp acc (c :: t) = (acc, 2, t) := by rw [Q.cutOp, if_pos h1]
      rw [e, h1]; simp [opT]
    · by_cases h2 : c = 58
      · by_cases h3 : t.head? = some 58
        · have e : Q.cutOp acc (c :: t) = (acc, 3, t.tail) := by rw [Q.cutOp, if_neg h1, if_pos h2, if_pos h3]
          rw [e, h2]
          cases t with
          | nil => simp at h3
          | cons d r => simp at h3; rw [h3]; simp [opT]
        · have e : Q.cutOp acc (c :: t) = (acc, 1, t) := by rw [Q.cutOp, if_neg h1, if_pos h2, if_neg h3]
          rw [e, h2]; simp [opT]
      · have e : Q.cutOp acc (c :: t) = Q.cutOp (acc ++ [c]) t := by rw [Q.cutOp, if_neg h1, if_neg h2]
        rw [e] at h ⊢
        rw [← ih _ h]; simp
/-- What the document's own reading cuts off. -/
def rA (l : List UInt8) : List UInt8 := l.take (opAt l)
def rB (l : List UInt8) : List UInt8 := l.drop (opAt l + (opT (Q.cutOp [] l).2.1).length)
theorem rAB (l : List UInt8) (h : Q.kindL l ≠ 0) : rA l = (Q.cutOp [] l).1 ∧ rB l = (Q.cutOp [] l).2.2 := by
  have h0 := cutOp_parts [] l h
  rw [List.nil_append] at h0
  have e : opAt l = (Q.cutOp [] l).1.length := by unfold opAt; rw [if_neg (show ¬ (Q.cutOp [] l).2.1 = 0 from h)]
  unfold rA rB
  rw [e]
  generalize Q.cutOp [] l = p at h0 ⊢
  rw [h0]
  constructor
  · rw [List.append_assoc, List.take_left]
  · rw [← List.length_append, List.drop_left]
theorem op_le (l : List UInt8) : opAt l + (opT (Q.cutOp [] l).2.1).length ≤ l.length ∧ (opT (Q.cutOp [] l).2.1).length ≤ 2 := by
  have h2 : ∀ k, (opT k).length ≤ 2 := fun k => by
    unfold opT; split
    · simp
    · split
      · simp
      · split <;> simp
  refine ⟨?_, h2 _⟩
  by_cases h : (Q.cutOp [] l).2.1 = 0
  · unfold opAt; rw [if_pos h, h]; simp [opT]
  · have h0 := cutOp_parts [] l h
    rw [List.nil_append] at h0
    unfold opAt
    rw [if_neg h]
    have := congrArg List.length h0
    simp at this; omega
def rT (l : List UInt8) : List (List UInt8) := K.fields (rA l)
def rS (l : List UInt8) : List (List UInt8) := K.fields (Q.semi [] (rB l)).1
def rC (l : List UInt8) : List UInt8 := Q.trim (Q.semi [] (rB l)).2
theorem r_same (l : List UInt8) (h : Q.kindL l ≠ 0) : rT l = Q.tgts l ∧ rS l = Q.srcs l ∧ rC l = Q.cmdL l := by
  obtain ⟨h1, h2⟩ := rAB l h
  unfold rT rS rC
  rw [h1, h2]; exact ⟨rfl, rfl, rfl⟩
theorem r_why (l : List UInt8) : Q.whyL (rT l) (rS l) (Q.kindL l) = Q.whyP l := by
  by_cases h : Q.kindL l = 0
  · unfold Q.whyP; rw [why_14 (.inl h), why_14 (.inl h)]
  · obtain ⟨h1, h2, _⟩ := r_same l h
    unfold Q.whyP; rw [h1, h2]
theorem semi_all (s : ByteArray) (h : ∀ c ∈ bl s, c ≠ 59) : ba (Q.semi [] (bl s)).1 = s ∧ (Q.semi [] (bl s)).2 = [] := by
  rw [Q.semi_none [] (bl s) (fun hm => h 59 hm rfl), List.nil_append, ba_bl]; exact ⟨rfl, rfl⟩
theorem semi_at (s : ByteArray) (k : Nat) (hk : k < s.size) (h : ∀ c ∈ (bl s).take k, c ≠ 59) (hc : s[k] = 59) : ba (Q.semi [] (bl s)).1 = s.extract 0 k ∧ (Q.semi [] (bl s)).2 = bl (s.extract (k + 1) s.size) := by
  have e : Q.semi [] (bl s) = ((bl s).take k, (bl s).drop (k + 1)) := by
    conv => lhs; rw [bl_split s k hk]
    rw [Q.semi_skip [] _ _ (fun hm => h 59 hm rfl), hc, Q.semi, if_pos rfl]; simp
  rw [e, ext_drop]
  refine ⟨?_, rfl⟩
  show ba ((bl s).take k) = _
  rw [← ext_take, ba_bl]
theorem take_no (s : ByteArray) (k : Nat) (hk : k < s.size) (h : ∀ c ∈ (bl s).take k, c ≠ 59) (hc : s[k] ≠ 59) : ∀ c ∈ (bl s).take (k + 1), c ≠ 59 := by
  intro c hm
  rw [take_snoc s k hk] at hm
  rcases List.mem_append.1 hm with hm | hm
  · exact h c hm
  · simp at hm; rw [hm]; exact hc
/-- What stands while a line is read by the document: the results' boxes and the rule's. -/
structure PJ (w W : World) (r : Nat) (vt vk vs vc va : Value) : Prop where
  pi : PI w W
  box : W.heap[r]? = some (.cells #[vt, vk, vs, vc, va] 24 (0, 0))
  far : w.heap.size + 2 ≤ r
theorem PJ.below {w W W1 : World} {r : Nat} {vt vk vs vc va : Value} (h : PJ w W r vt vk vs vc va) (hb : Below W.heap.size W W1) : PJ w W1 r vt vk vs vc va :=
  ⟨h.pi.below hb, (hb.block r (Array.getElem?_eq_some_iff.1 h.box).1).trans h.box, h.far⟩
theorem PJ.set0 {w W : World} {r : Nat} {vt vk vs vc va : Value} (h : PJ w W r vt vk vs vc va) (x : Value) : PJ w (W.setCell ⟨r, 0, none⟩ x) r x vk vs vc va := ⟨h.pi.set h.far x, heap_set (i := 0) h.box x, h.far⟩
theorem PJ.set1 {w W : World} {r : Nat} {vt vk vs vc va : Value} (h : PJ w W r vt vk vs vc va) (x : Value) : PJ w (W.setCell ⟨r, 1, none⟩ x) r vt x vs vc va := ⟨h.pi.set h.far x, heap_set (i := 1) h.box x, h.far⟩
theorem PJ.set2 {w W : World} {r : Nat} {vt vk vs vc va : Value} (h : PJ w W r vt vk vs vc va) (x : Value) : PJ w (W.setCell ⟨r, 2, none⟩ x) r vt vk x vc va := ⟨h.pi.set h.far x, heap_set (i := 2) h.box x, h.far⟩
theorem PJ.set3 {w W : World} {r : Nat} {vt vk vs vc va : Value} (h : PJ w W r vt vk vs vc va) (x : Value) : PJ w (W.setCell ⟨r, 3, none⟩ x) r vt vk vs x va := ⟨h.pi.set h.far x, heap_set (i := 3) h.box x, h.far⟩
theorem words_set' {W : World} {v : Value} {l : List ByteArray} (h : Words W.heap.size W v l) {r i : Nat} {cs : Array Value} {T : TypeId} (hr : W.heap[r]? = some (.cells cs T (0, 0))) (hc : cs.toList.any isStr = false) (x : Value) : Words (W.setCell ⟨r, i, none⟩ x).heap.size (W.setCell ⟨r, i, none⟩ x) v l := by
  rw [size_set]; exact words_set h hr hc x

set_option maxRecDepth 20000 in
set_option maxHeartbeats 8000000 in
theorem rparse_any (s : ByteArray) (at_ : Int) (w : World) (hs : s.size ≤ 4000000) (hm : Mx w) :
    Calls Tryd.prog 8 #[.string s, .int .i64 at_] w (ParsePost s at_ w) := by
  have hop := op_le (bl s)
  rw [bl_length] at hop
  have HO : Hid (∀ W, Calls Tryd.prog 21 #[.string s] W fun e w' => e = .returned (.tuple #[.int .i64 (opAt (bl s) : Nat), .string (ba (opT (Q.kindL (bl s))))]) ∧ W = w') := fun W => rop_any s W hs
  obtain ⟨i, hi⟩ : ∃ i, i = opAt (bl s) := ⟨_, rfl⟩
  obtain ⟨op, hop0⟩ : ∃ op, op = ba (opT (Q.kindL (bl s))) := ⟨_, rfl⟩
  obtain ⟨j, hj⟩ : ∃ j, j = op.size := ⟨_, rfl⟩
  have hjl : (opT (Q.cutOp [] (bl s)).2.1).length = j := by rw [hj, hop0, ba_size]; rfl
  rw [hjl, ← hi] at hop
  rw [← hi, ← hop0] at HO
  obtain ⟨xa, hxa⟩ : ∃ x, x = s.extract 0 i := ⟨_, rfl⟩
  obtain ⟨xb, hxb⟩ : ∃ x, x = s.extract (i + j) s.size := ⟨_, rfl⟩
  have hxaS : xa.size ≤ 4000000 := by rw [hxa]; simp; omega
  have hxbS : xb.size ≤ 4000000 := by rw [hxb]; simp; omega
  have hab : bl xa = rA (bl s) := by rw [hxa, ext_take, hi]; rfl
  have hbb : bl xb = rB (bl s) := by rw [hxb, ext_drop, hi, ← hjl]; rfl
  have hs1 : ∀ W, (Instr.slice 9 (.string s) none (some (.int .i64 (i : Int))) none).run Tryd.prog W = .ok (.string xa) W := by
    intro W; rw [hxa]; exact run_slice_string_h (P := Tryd.prog) W 9 s Tryd.underlying9 .i64 i (by omega) (by omega)
  have hs2 : ∀ W, (Instr.slice 9 (.string s) (some (.int .i64 ((i : Int) + (op.size : Int)))) none none).run Tryd.prog W = .ok (.string xb) W := by
    intro W; rw [hxb, ← hj]
    have := run_slice_string_l (P := Tryd.prog) W 9 s Tryd.underlying9 .i64 (i + j : Nat) (by omega) (by omega)
    exact this
  have HF1 : Hid (∀ W, Calls Tryd.prog 22 #[.string xa] W fun e w' => ∃ v, e = .returned v ∧ Words w'.heap.size w' v ((rT (bl s)).map ba) ∧ Below W.heap.size W w') := fun W => by
    have := WD.rfields_any xa W hxaS
    unfold WD.flds at this; rw [hab] at this; exact this
  have HF2 : Hid (∀ x W, x = ba (Q.semi [] (bl xb)).1 → Calls Tryd.prog 22 #[.string x] W fun e w' => ∃ v, e = .returned v ∧ Words w'.heap.size w' v ((rS (bl s)).map ba) ∧ Below W.heap.size W w') := fun x W hx => by
    have hl := (Q.semi_len [] (bl xb)).1
    rw [bl_length, List.length_nil, Nat.zero_add] at hl
    have := WD.rfields_any x W (by rw [hx, ba_size]; omega)
    unfold WD.flds at this; rw [hx, bl_ba, hbb, ← hbb, ← hx] at this
    unfold rS; rw [← hbb]; exact this
  have HTr : Hid (∀ x W, x.size ≤ 4000000 → Calls Tryd.prog 23 #[.string x] W fun e w' => e = .returned (.string (ba (Q.trim (bl x)))) ∧ W = w') := fun x W hx => rtrim_any x W hx
  have hTl : (rT (bl s)).length ≤ 4000000 := by
    have := Q.fields_count (rA (bl s)); rw [← hab, bl_length] at this; unfold rT; rw [← hab]; omega
  have hSl : (rS (bl s)).length ≤ 4000000 := by
    have h1 := Q.fields_count (Q.semi [] (bl xb)).1
    have h2 := (Q.semi_len [] (bl xb)).1
    rw [bl_length, List.length_nil] at h2
    unfold rS; rw [← hbb]; omega
  have HNT : Hid (∀ v W, Words W.heap.size W v ((rT (bl s)).map ba) → Calls Tryd.prog 24 #[v] W fun e w' => e = .returned (.bool (!Q.anyLong (rT (bl s)))) ∧ W = w') := fun v W h => by
    have := names_any _ v W.heap.size W (by rw [List.length_map]; omega) h
    rw [anyB_map] at this; exact this
  have HNS : Hid (∀ v W, Words W.heap.size W v ((rS (bl s)).map ba) → Calls Tryd.prog 24 #[v] W fun e w' => e = .returned (.bool (!Q.anyLong (rS (bl s)))) ∧ W = w') := fun v W h => by
    have := names_any _ v W.heap.size W (by rw [List.length_map]; omega) h
    rw [anyB_map] at this; exact this
  have HM : Hid (Mx w) := hm
  obtain ⟨T, hT⟩ : ∃ T, T = rT (bl s) := ⟨_, rfl⟩
  obtain ⟨S, hS⟩ : ∃ S, S = rS (bl s) := ⟨_, rfl⟩
  obtain ⟨k, hk⟩ : ∃ k, k = Q.kindL (bl s) := ⟨_, rfl⟩
  have hk3 : k ≤ 3 := by rw [hk]; exact (Q.cutOp_len [] (bl s)).2.2
  have hyy := r_why (bl s)
  rw [← hT, ← hS, ← hk] at hyy
  have hsame := r_same (bl s)
  rw [← hT, ← hS, ← hk] at hsame
  rw [← hT] at HF1 HNT hTl
  rw [← hS] at HF2 HNS hSl
  have hopk : op = ba (opT k) := by rw [hop0, hk]
  have HQ : Hid (k = Q.kindL (bl s) ∧ Q.whyL T S k = Q.whyP (bl s) ∧ (k ≠ 0 → T = Q.tgts (bl s) ∧ S = Q.srcs (bl s) ∧ rC (bl s) = Q.cmdL (bl s)) ∧ bl xb = rB (bl s) ∧ op = ba (opT k) ∧ k ≤ 3 ∧ T.length ≤ 4000000 ∧ S.length ≤ 4000000) := ⟨hk, hyy, hsame, hbb, hopk, hk3, hTl, hSl⟩
  have hj2 : op.size ≤ 2 := by rw [← hj]; omega
  have hiS : i ≤ 4000000 := by omega
  clear hi hop0 hxa hxb hab hbb hjl hT hS hk hyy hsame hTl hSl hopk hk3 hop hm hj
  go_enter Tryd.func8, Tryd.ntmps8
  go_wp2_with fail
  refine (HO.out _).mono ?_
  rintro e w' ⟨rfl, rfl⟩
  go_wp2_with fail
  refine (HF1.out _).mono ?_
  rintro e w1 ⟨vt, rfl, hw1, h1⟩
  obtain ⟨ta, tn, tc, rfl⟩ : ∃ a n c, vt = .slice a n c := by obtain ⟨a, n, c, h, _⟩ := hw1; exact ⟨a, n, c, h⟩
  have htn : tn = T.length := by have := hw1.len.1; rwa [List.length_map] at this
  have hbx := box_kept h1
  have hP0 : PI w w1 := ((PI.start HM.out).below (below_alloc1 _ _)).below h1
  obtain ⟨r, hr⟩ : ∃ r, r = w.heap.size + 1 + 1 := ⟨_, rfl⟩
  have hsz2 : ((w.alloc (.cells #[.slice none 0 0, .int .i64 0, .slice none 0 0, .slice none 0 0, .int .i64 0] 24)).alloc (.cells #[.int .i64 0, .int .i64 0] 27)).heap.size = r := by rw [hr]; simp
  rw [hsz2] at hbx
  rw [← hr]
  have J1 : PJ w w1 r (.slice none 0 0) (.int .i64 0) (.slice none 0 0) (.slice none 0 0) (.int .i64 at_) := ⟨hP0, hbx, by omega⟩
  have d0 := cell_in hbx 0 rfl
  have g0 : w1.frozen? ⟨r, 0, none⟩ = false := by simp [World.frozen?, hbx]
  have J2 : Hid (PJ w (w1.setCell ⟨r, 0, none⟩ (.slice ta tn tc)) r (.slice ta tn tc) (.int .i64 0) (.slice none 0 0) (.slice none 0 0) (.int .i64 at_) ∧ Words (w1.setCell ⟨r, 0, none⟩ (.slice ta tn tc)).heap.size (w1.setCell ⟨r, 0, none⟩ (.slice ta tn tc)) (.slice ta tn tc) (T.map ba)) := ⟨J1.set0 _, words_set' hw1 hbx rfl _⟩
  have HTN : Hid (tn = T.length) := htn
  clear hr hsz2 hbx hP0 h1 hw1 J1 htn HF1 HO
  go_wp2_with fail
  clear d0 g0
  generalize w1.setCell ⟨r, 0, none⟩ (.slice ta tn tc) = w2 at J2 ⊢
  go_loopw [9, 10, 11] (fun vr vc vi wr => ∃ q : Nat, q ≤ xb.size ∧ vr = .string xb ∧ vc = .string ⟨#[]⟩ ∧ vi = .int .i64 q ∧ w2 = wr ∧ Hid (∀ c ∈ (bl xb).take q, c ≠ 59)) (fun _ _ vi _ => xb.size - (intOf vi).toNat)
  case atStart => exact ⟨0, Nat.zero_le _, rfl, rfl, rfl, rfl, fun c hc => by simp at hc⟩
  case round =>
    obtain ⟨q, hq, rfl, rfl, rfl, rfl, HA⟩ := hrel
    by_cases hlt : q < xb.size
    · have hil : (q : Int) < (xb.size : Int) := by omega
      have hno := take_no xb q hlt HA.out
      have hat := semi_at xb q hlt HA.out
      obtain ⟨c, hc⟩ : ∃ c, c = xb[q] := ⟨_, rfl⟩
      obtain ⟨cn, hcn⟩ : ∃ cn : Int, cn = (xb[q].toNat : Int) := ⟨_, rfl⟩
      have hgk : (xb[q].toNat : Int) = cn := hcn.symm
      rw [← hc] at hno hat
      have HCC : cn = (c.toNat : Int) := by rw [hcn, hc]
      by_cases h59 : c = 59
      · have t1 : cn = 59 := by rw [HCC, h59]; rfl
        obtain ⟨e1, e2⟩ := hat h59
        obtain ⟨xr, hxr⟩ : ∃ x, x = xb.extract 0 q := ⟨_, rfl⟩
        obtain ⟨xd, hxd⟩ : ∃ x, x = xb.extract (q + 1) xb.size := ⟨_, rfl⟩
        rw [← hxr] at e1
        rw [← hxd] at e2
        have hxds : xd.size ≤ 4000000 := by rw [hxd]; simp; omega
        have hs3 : ∀ W, (Instr.slice 9 (.string xb) none (some (.int .i64 (q : Int))) none).run Tryd.prog W = .ok (.string xr) W := by
          intro W; rw [hxr]; exact run_slice_string_h (P := Tryd.prog) W 9 xb Tryd.underlying9 .i64 q (by omega) (by omega)
        have hs4 : ∀ W, (Instr.slice 9 (.string xb) (some (.int .i64 ((q : Int) + 1))) none none).run Tryd.prog W = .ok (.string xd) W := by
          intro W; rw [hxd]
          have := run_slice_string_l (P := Tryd.prog) W 9 xb Tryd.underlying9 .i64 (q + 1 : Nat) (by omega) (by omega)
          exact this
        obtain ⟨xc, hxc⟩ : ∃ x, x = ba (Q.trim (bl xd)) := ⟨_, rfl⟩
        have HTX : Hid (∀ W, Calls Tryd.prog 23 #[.string xd] W fun e w' => e = .returned (.string xc) ∧ W = w') := fun W => by rw [hxc]; exact HTr.out xd W hxds
        have HX : Hid (xr = ba (Q.semi [] (bl xb)).1 ∧ bl xc = rC (bl s)) := by
          refine ⟨e1.symm, ?_⟩
          unfold rC
          rw [hxc, bl_ba, ← e2, HQ.out.2.2.2.1]
        clear hno hat hc hcn HCC h59 e1 e2 hxr hxd hxds hxc HA HTr
        go_wp2_with fail
        refine (HTX.out _).mono ?_
        rintro e w' ⟨rfl, rfl⟩
        go_wp2_with fail
        clear hs3 hs4 HTX hgk hil hlt hq
        refine (HF2.out _ _ HX.out.1).mono ?_
        rintro e w3 ⟨vs, rfl, hw3, h3⟩
        obtain ⟨sa, sn, sc, rfl⟩ : ∃ a n c, vs = .slice a n c := by obtain ⟨a, n, c, h, _⟩ := hw3; exact ⟨a, n, c, h⟩
        have hsn : sn = S.length := by have := hw3.len.1; rwa [List.length_map] at this
        have HSN : Hid (sn = S.length) := hsn
        have J3 := J2.out.1.below h3
        have d2 := cell_in J3.box 2 rfl
        have g2 : w3.frozen? ⟨r, 2, none⟩ = false := by simp [World.frozen?, J3.box]
        have J4 : Hid (PJ w (w3.setCell ⟨r, 2, none⟩ (.slice sa sn sc)) r (.slice ta tn tc) (.int .i64 0) (.slice sa sn sc) (.slice none 0 0) (.int .i64 at_) ∧ Words (w3.setCell ⟨r, 2, none⟩ (.slice sa sn sc)).heap.size (w3.setCell ⟨r, 2, none⟩ (.slice sa sn sc)) (.slice ta tn tc) (T.map ba) ∧ Words (w3.setCell ⟨r, 2, none⟩ (.slice sa sn sc)).heap.size (w3.setCell ⟨r, 2, none⟩ (.slice sa sn sc)) (.slice sa sn sc) (S.map ba)) :=
          ⟨J3.set2 _, words_set' ((J2.out.2.below h3).mono h3.size) J3.box rfl _, words_set' hw3 J3.box rfl _⟩
        clear J2 J3 h3 hw3 hsn HF2
        go_upto_region 13 with fail
        clear d2 g2
        generalize w3.setCell ⟨r, 2, none⟩ (.slice sa sn sc) = w4 at J4 ⊢
        have d0 := cell_in J4.out.1.box 0 rfl
        have d1 := cell_in J4.out.1.box 1 rfl
        have d2 := cell_in J4.out.1.box 2 rfl
        have d3 := cell_in J4.out.1.box 3 rfl
        have d4 := cell_in J4.out.1.box 4 rfl
        have x1 : w4.frozen? ⟨r, 1, none⟩ = false := by simp [World.frozen?, J4.out.1.box]
        have x3 : w4.frozen? ⟨r, 3, none⟩ = false := by simp [World.frozen?, J4.out.1.box]
        have hrl : r < w4.heap.size := (Array.getElem?_eq_some_iff.1 J4.out.1.box).1
        have htl : tn ≤ 4000000 := by rw [HTN.out]; exact HQ.out.2.2.2.2.2.2.1
        have hsl : sn ≤ 4000000 := by rw [HSN.out]; exact HQ.out.2.2.2.2.2.2.2
        by_cases hk : k = 0
        · have HE : Hid (Q.whyP (bl s) = 14 ∧ Q.ruP (bl s) at_ = Q.Ru.zero ∧ Q.faultAt (bl s) at_ = at_) := by
            have e := HQ.out.2.1.symm
            rw [why_14 (.inl hk)] at e
            exact ⟨e, ru_no s at_ (by rw [e]; decide)⟩
          have hop0 : op = ⟨#[]⟩ := by rw [HQ.out.2.2.2.2.1, hk]; rfl
          rw [hop0]
          clear hk hop0
          have J5 : Hid (PJ w w4 r (.slice ta tn tc) (.int .i64 0) (.slice sa sn sc) (.slice none 0 0) (.int .i64 at_) ∧ True) := ⟨J4.out.1, trivial⟩
          have r0 := cell_in J5.out.1.pi.r 0 rfl
          have r1 := cell_in J5.out.1.pi.r 1 rfl
          have r2 := cell_in J5.out.1.pi.r 2 rfl
          have r3 := cell_in J5.out.1.pi.r 3 rfl
          have r4 := cell_in J5.out.1.pi.r 4 rfl
          have f0 := cell_in J5.out.1.pi.f 0 rfl
          have f1 := cell_in J5.out.1.pi.f 1 rfl
          have z0 : w4.frozen? ⟨w.heap.size, 0, none⟩ = false := by simp [World.frozen?, J5.out.1.pi.r]
          have z1 : w4.frozen? ⟨w.heap.size, 1, none⟩ = false := by simp [World.frozen?, J5.out.1.pi.r]
          have z2 : w4.frozen? ⟨w.heap.size, 2, none⟩ = false := by simp [World.frozen?, J5.out.1.pi.r]
          have z3 : w4.frozen? ⟨w.heap.size, 3, none⟩ = false := by simp [World.frozen?, J5.out.1.pi.r]
          have z4 : w4.frozen? ⟨w.heap.size, 4, none⟩ = false := by simp [World.frozen?, J5.out.1.pi.r]
          have y0 : w4.frozen? ⟨w.heap.size + 1, 0, none⟩ = false := by simp [World.frozen?, J5.out.1.pi.f]
          have y1 : w4.frozen? ⟨w.heap.size + 1, 1, none⟩ = false := by simp [World.frozen?, J5.out.1.pi.f]
          go_wp2_with fail
          change bodyPost Tryd.prog _ _ _ _ (out7 w4 w.heap.size (.slice none 0 0) (.int .i64 0) (.slice none 0 0) (.slice none 0 0) (.int .i64 0) (.int .i64 14) (.int .i64 at_))
          have q7 := out7_heap (.slice none 0 0) (.int .i64 0) (.slice none 0 0) (.slice none 0 0) (.int .i64 0) (.int .i64 14) (.int .i64 at_) J5.out.1.pi.r J5.out.1.pi.f
          have HR : Hid (Below w.heap.size w (out7 w4 w.heap.size (.slice none 0 0) (.int .i64 0) (.slice none 0 0) (.slice none 0 0) (.int .i64 0) (.int .i64 14) (.int .i64 at_))) := out7_below _ _ _ _ _ _ _ J5.out.1.pi
          generalize out7 w4 w.heap.size (.slice none 0 0) (.int .i64 0) (.slice none 0 0) (.slice none 0 0) (.int .i64 0) (.int .i64 14) (.int .i64 at_) = w7 at q7 HR ⊢
          have c0 := cell_in q7.1 0 rfl
          have c1 := cell_in q7.1 1 rfl
          have c2 := cell_in q7.1 2 rfl
          have c3 := cell_in q7.1 3 rfl
          have c4 := cell_in q7.1 4 rfl
          have e0 := cell_in q7.2.1 0 rfl
          have e1 := cell_in q7.2.1 1 rfl
          refine bodyPost_ret (v := .tuple #[.agg #[.slice none 0 0, .int .i64 0, .slice none 0 0, .slice none 0 0, .int .i64 0], .agg #[.int .i64 14, .int .i64 at_]]) (by simp [results, Tryd.results8, go_sem, c0, c1, c2, c3, c4, e0, e1]; try rfl) rfl ?_
          refine ⟨.agg #[.slice none 0 0, .int .i64 0, .slice none 0 0, .slice none 0 0, .int .i64 0], ?_, ?_, HR.out⟩
          · rw [HE.out.2.2, HE.out.1]; rfl
          · rw [HE.out.2.1]; exact RuV.zero _ _
        · have t0 : bl op ≠ [] := by
            rw [HQ.out.2.2.2.2.1, bl_ba]
            have := HQ.out.2.2.2.2.2.1
            have h : k = 1 ∨ k = 2 ∨ k = 3 := by omega
            rcases h with h | h | h <;> rw [h] <;> simp [opT]
          have t1 : ¬ op.toList = [] := by rw [Lib.toList_data]; exact t0
          have t2 : op.toList.isEmpty = false := nonempty t0
          clear t0
          by_cases hT0 : T = []
          · have HE : Hid (Q.whyP (bl s) = 14 ∧ Q.ruP (bl s) at_ = Q.Ru.zero ∧ Q.faultAt (bl s) at_ = at_) := by
              have e := HQ.out.2.1.symm
              rw [why_14 (.inr (.inl hT0))] at e
              exact ⟨e, ru_no s at_ (by rw [e]; decide)⟩
            have htn0 : tn = 0 := by rw [HTN.out, hT0]; rfl
            subst htn0
            clear hk hT0
            have J5 : Hid (PJ w w4 r (.slice ta 0 tc) (.int .i64 0) (.slice sa sn sc) (.slice none 0 0) (.int .i64 at_) ∧ True) := ⟨J4.out.1, trivial⟩
            have r0 := cell_in J5.out.1.pi.r 0 rfl
            have r1 := cell_in J5.out.1.pi.r 1 rfl
            have r2 := cell_in J5.out.1.pi.r 2 rfl
            have r3 := cell_in J5.out.1.pi.r 3 rfl
            have r4 := cell_in J5.out.1.pi.r 4 rfl
            have f0 := cell_in J5.out.1.pi.f 0 rfl
            have f1 := cell_in J5.out.1.pi.f 1 rfl
            have z0 : w4.frozen? ⟨w.heap.size, 0, none⟩ = false := by simp [World.frozen?, J5.out.1.pi.r]
            have z1 : w4.frozen? ⟨w.heap.size, 1, none⟩ = false := by simp [World.frozen?, J5.out.1.pi.r]
            have z2 : w4.frozen? ⟨w.heap.size, 2, none⟩ = false := by simp [World.frozen?, J5.out.1.pi.r]
            have z3 : w4.frozen? ⟨w.heap.size, 3, none⟩ = false := by simp [World.frozen?, J5.out.1.pi.r]
            have z4 : w4.frozen? ⟨w.heap.size, 4, none⟩ = false := by simp [World.frozen?, J5.out.1.pi.r]
            have y0 : w4.frozen? ⟨w.heap.size + 1, 0, none⟩ = false := by simp [World.frozen?, J5.out.1.pi.f]
            have y1 : w4.frozen? ⟨w.heap.size + 1, 1, none⟩ = false := by simp [World.frozen?, J5.out.1.pi.f]
            go_wp2_with fail
            change bodyPost Tryd.prog _ _ _ _ (out7 w4 w.heap.size (.slice none 0 0) (.int .i64 0) (.slice none 0 0) (.slice none 0 0) (.int .i64 0) (.int .i64 14) (.int .i64 at_))
            have q7 := out7_heap (.slice none 0 0) (.int .i64 0) (.slice none 0 0) (.slice none 0 0) (.int .i64 0) (.int .i64 14) (.int .i64 at_) J5.out.1.pi.r J5.out.1.pi.f
            have HR : Hid (Below w.heap.size w (out7 w4 w.heap.size (.slice none 0 0) (.int .i64 0) (.slice none 0 0) (.slice none 0 0) (.int .i64 0) (.int .i64 14) (.int .i64 at_))) := out7_below _ _ _ _ _ _ _ J5.out.1.pi
            generalize out7 w4 w.heap.size (.slice none 0 0) (.int .i64 0) (.slice none 0 0) (.slice none 0 0) (.int .i64 0) (.int .i64 14) (.int .i64 at_) = w7 at q7 HR ⊢
            have c0 := cell_in q7.1 0 rfl
            have c1 := cell_in q7.1 1 rfl
            have c2 := cell_in q7.1 2 rfl
            have c3 := cell_in q7.1 3 rfl
            have c4 := cell_in q7.1 4 rfl
            have e0 := cell_in q7.2.1 0 rfl
            have e1 := cell_in q7.2.1 1 rfl
            refine bodyPost_ret (v := .tuple #[.agg #[.slice none 0 0, .int .i64 0, .slice none 0 0, .slice none 0 0, .int .i64 0], .agg #[.int .i64 14, .int .i64 at_]]) (by simp [results, Tryd.results8, go_sem, c0, c1, c2, c3, c4, e0, e1]; try rfl) rfl ?_
            refine ⟨.agg #[.slice none 0 0, .int .i64 0, .slice none 0 0, .slice none 0 0, .int .i64 0], ?_, ?_, HR.out⟩
            · rw [HE.out.2.2, HE.out.1]; rfl
            · rw [HE.out.2.1]; exact RuV.zero _ _
          · have htn1 : ¬ (tn : Int) = 0 := by
              have h1 := List.length_pos_iff.2 hT0
              have h2 := HTN.out
              omega
            have htn2 : ((tn : Int) == 0) = false := by simpa using htn1
            cases hTa : Q.anyLong T with
            | true =>
              have HE : Hid (Q.whyP (bl s) = 14 ∧ Q.ruP (bl s) at_ = Q.Ru.zero ∧ Q.faultAt (bl s) at_ = at_) := by
                have e := HQ.out.2.1.symm
                rw [why_14 (.inr (.inr (.inl hTa)))] at e
                exact ⟨e, ru_no s at_ (by rw [e]; decide)⟩
              rw [hTa] at HNT
              clear hk hT0 hTa
              have J5 : Hid (PJ w w4 r (.slice ta tn tc) (.int .i64 0) (.slice sa sn sc) (.slice none 0 0) (.int .i64 at_) ∧ True) := ⟨J4.out.1, trivial⟩
              have r0 := cell_in J5.out.1.pi.r 0 rfl
              have r1 := cell_in J5.out.1.pi.r 1 rfl
              have r2 := cell_in J5.out.1.pi.r 2 rfl
              have r3 := cell_in J5.out.1.pi.r 3 rfl
              have r4 := cell_in J5.out.1.pi.r 4 rfl
              have f0 := cell_in J5.out.1.pi.f 0 rfl
              have f1 := cell_in J5.out.1.pi.f 1 rfl
              have z0 : w4.frozen? ⟨w.heap.size, 0, none⟩ = false := by simp [World.frozen?, J5.out.1.pi.r]
              have z1 : w4.frozen? ⟨w.heap.size, 1, none⟩ = false := by simp [World.frozen?, J5.out.1.pi.r]
              have z2 : w4.frozen? ⟨w.heap.size, 2, none⟩ = false := by simp [World.frozen?, J5.out.1.pi.r]
              have z3 : w4.frozen? ⟨w.heap.size, 3, none⟩ = false := by simp [World.frozen?, J5.out.1.pi.r]
              have z4 : w4.frozen? ⟨w.heap.size, 4, none⟩ = false := by simp [World.frozen?, J5.out.1.pi.r]
              have y0 : w4.frozen? ⟨w.heap.size + 1, 0, none⟩ = false := by simp [World.frozen?, J5.out.1.pi.f]
              have y1 : w4.frozen? ⟨w.heap.size + 1, 1, none⟩ = false := by simp [World.frozen?, J5.out.1.pi.f]
              go_wp2_with fail
              refine (HNT.out (.slice ta tn tc) w4 J4.out.2.1).mono ?_
              rintro e w' ⟨rfl, rfl⟩
              go_wp2_with fail
              change bodyPost Tryd.prog _ _ _ _ (out7 w4 w.heap.size (.slice none 0 0) (.int .i64 0) (.slice none 0 0) (.slice none 0 0) (.int .i64 0) (.int .i64 14) (.int .i64 at_))
              have q7 := out7_heap (.slice none 0 0) (.int .i64 0) (.slice none 0 0) (.slice none 0 0) (.int .i64 0) (.int .i64 14) (.int .i64 at_) J5.out.1.pi.r J5.out.1.pi.f
              have HR : Hid (Below w.heap.size w (out7 w4 w.heap.size (.slice none 0 0) (.int .i64 0) (.slice none 0 0) (.slice none 0 0) (.int .i64 0) (.int .i64 14) (.int .i64 at_))) := out7_below _ _ _ _ _ _ _ J5.out.1.pi
              generalize out7 w4 w.heap.size (.slice none 0 0) (.int .i64 0) (.slice none 0 0) (.slice none 0 0) (.int .i64 0) (.int .i64 14) (.int .i64 at_) = w7 at q7 HR ⊢
              have c0 := cell_in q7.1 0 rfl
              have c1 := cell_in q7.1 1 rfl
              have c2 := cell_in q7.1 2 rfl
              have c3 := cell_in q7.1 3 rfl
              have c4 := cell_in q7.1 4 rfl
              have e0 := cell_in q7.2.1 0 rfl
              have e1 := cell_in q7.2.1 1 rfl
              refine bodyPost_ret (v := .tuple #[.agg #[.slice none 0 0, .int .i64 0, .slice none 0 0, .slice none 0 0, .int .i64 0], .agg #[.int .i64 14, .int .i64 at_]]) (by simp [results, Tryd.results8, go_sem, c0, c1, c2, c3, c4, e0, e1]; try rfl) rfl ?_
              refine ⟨.agg #[.slice none 0 0, .int .i64 0, .slice none 0 0, .slice none 0 0, .int .i64 0], ?_, ?_, HR.out⟩
              · rw [HE.out.2.2, HE.out.1]; rfl
              · rw [HE.out.2.1]; exact RuV.zero _ _
            | false =>
              rw [hTa] at HNT
              cases hSa : Q.anyLong S with
              | true =>
                have HE : Hid (Q.whyP (bl s) = 14 ∧ Q.ruP (bl s) at_ = Q.Ru.zero ∧ Q.faultAt (bl s) at_ = at_) := by
                  have e := HQ.out.2.1.symm
                  rw [why_14 (.inr (.inr (.inr hSa)))] at e
                  exact ⟨e, ru_no s at_ (by rw [e]; decide)⟩
                rw [hSa] at HNS
                clear hk hT0 hTa hSa
                have J5 : Hid (PJ w w4 r (.slice ta tn tc) (.int .i64 0) (.slice sa sn sc) (.slice none 0 0) (.int .i64 at_) ∧ True) := ⟨J4.out.1, trivial⟩
                have r0 := cell_in J5.out.1.pi.r 0 rfl
                have r1 := cell_in J5.out.1.pi.r 1 rfl
                have r2 := cell_in J5.out.1.pi.r 2 rfl
                have r3 := cell_in J5.out.1.pi.r 3 rfl
                have r4 := cell_in J5.out.1.pi.r 4 rfl
                have f0 := cell_in J5.out.1.pi.f 0 rfl
                have f1 := cell_in J5.out.1.pi.f 1 rfl
                have z0 : w4.frozen? ⟨w.heap.size, 0, none⟩ = false := by simp [World.frozen?, J5.out.1.pi.r]
                have z1 : w4.frozen? ⟨w.heap.size, 1, none⟩ = false := by simp [World.frozen?, J5.out.1.pi.r]
                have z2 : w4.frozen? ⟨w.heap.size, 2, none⟩ = false := by simp [World.frozen?, J5.out.1.pi.r]
                have z3 : w4.frozen? ⟨w.heap.size, 3, none⟩ = false := by simp [World.frozen?, J5.out.1.pi.r]
                have z4 : w4.frozen? ⟨w.heap.size, 4, none⟩ = false := by simp [World.frozen?, J5.out.1.pi.r]
                have y0 : w4.frozen? ⟨w.heap.size + 1, 0, none⟩ = false := by simp [World.frozen?, J5.out.1.pi.f]
                have y1 : w4.frozen? ⟨w.heap.size + 1, 1, none⟩ = false := by simp [World.frozen?, J5.out.1.pi.f]
                go_wp2_with fail
                refine (HNT.out (.slice ta tn tc) w4 J4.out.2.1).mono ?_
                rintro e w' ⟨rfl, rfl⟩
                go_wp2_with fail
                refine (HNS.out (.slice sa sn sc) w4 J4.out.2.2).mono ?_
                rintro e w' ⟨rfl, rfl⟩
                go_wp2_with fail
                change bodyPost Tryd.prog _ _ _ _ (out7 w4 w.heap.size (.slice none 0 0) (.int .i64 0) (.slice none 0 0) (.slice none 0 0) (.int .i64 0) (.int .i64 14) (.int .i64 at_))
                have q7 := out7_heap (.slice none 0 0) (.int .i64 0) (.slice none 0 0) (.slice none 0 0) (.int .i64 0) (.int .i64 14) (.int .i64 at_) J5.out.1.pi.r J5.out.1.pi.f
                have HR : Hid (Below w.heap.size w (out7 w4 w.heap.size (.slice none 0 0) (.int .i64 0) (.slice none 0 0) (.slice none 0 0) (.int .i64 0) (.int .i64 14) (.int .i64 at_))) := out7_below _ _ _ _ _ _ _ J5.out.1.pi
                generalize out7 w4 w.heap.size (.slice none 0 0) (.int .i64 0) (.slice none 0 0) (.slice none 0 0) (.int .i64 0) (.int .i64 14) (.int .i64 at_) = w7 at q7 HR ⊢
                have c0 := cell_in q7.1 0 rfl
                have c1 := cell_in q7.1 1 rfl
                have c2 := cell_in q7.1 2 rfl
                have c3 := cell_in q7.1 3 rfl
                have c4 := cell_in q7.1 4 rfl
                have e0 := cell_in q7.2.1 0 rfl
                have e1 := cell_in q7.2.1 1 rfl
                refine bodyPost_ret (v := .tuple #[.agg #[.slice none 0 0, .int .i64 0, .slice none 0 0, .slice none 0 0, .int .i64 0], .agg #[.int .i64 14, .int .i64 at_]]) (by simp [results, Tryd.results8, go_sem, c0, c1, c2, c3, c4, e0, e1]; try rfl) rfl ?_
                refine ⟨.agg #[.slice none 0 0, .int .i64 0, .slice none 0 0, .slice none 0 0, .int .i64 0], ?_, ?_, HR.out⟩
                · rw [HE.out.2.2, HE.out.1]; rfl
                · rw [HE.out.2.1]; exact RuV.zero _ _
              | false =>
                rw [hSa] at HNS
                by_cases hlT : 4096 < T.length
                · have HE : Hid (Q.whyP (bl s) = 5 ∧ Q.ruP (bl s) at_ = Q.Ru.zero ∧ Q.faultAt (bl s) at_ = at_) := by
                    have e := HQ.out.2.1.symm
                    rw [why_5 hk hT0 hTa hSa (.inl hlT)] at e
                    exact ⟨e, ru_no s at_ (by rw [e]; decide)⟩
                  have hli : (4096 : Int) < (tn : Int) := by have := HTN.out; omega
                  clear hk hT0 hTa hSa hlT
                  have J5 : Hid (PJ w w4 r (.slice ta tn tc) (.int .i64 0) (.slice sa sn sc) (.slice none 0 0) (.int .i64 at_) ∧ True) := ⟨J4.out.1, trivial⟩
                  have r0 := cell_in J5.out.1.pi.r 0 rfl
                  have r1 := cell_in J5.out.1.pi.r 1 rfl
                  have r2 := cell_in J5.out.1.pi.r 2 rfl
                  have r3 := cell_in J5.out.1.pi.r 3 rfl
                  have r4 := cell_in J5.out.1.pi.r 4 rfl
                  have f0 := cell_in J5.out.1.pi.f 0 rfl
                  have f1 := cell_in J5.out.1.pi.f 1 rfl
                  have z0 : w4.frozen? ⟨w.heap.size, 0, none⟩ = false := by simp [World.frozen?, J5.out.1.pi.r]
                  have z1 : w4.frozen? ⟨w.heap.size, 1, none⟩ = false := by simp [World.frozen?, J5.out.1.pi.r]
                  have z2 : w4.frozen? ⟨w.heap.size, 2, none⟩ = false := by simp [World.frozen?, J5.out.1.pi.r]
                  have z3 : w4.frozen? ⟨w.heap.size, 3, none⟩ = false := by simp [World.frozen?, J5.out.1.pi.r]
                  have z4 : w4.frozen? ⟨w.heap.size, 4, none⟩ = false := by simp [World.frozen?, J5.out.1.pi.r]
                  have y0 : w4.frozen? ⟨w.heap.size + 1, 0, none⟩ = false := by simp [World.frozen?, J5.out.1.pi.f]
                  have y1 : w4.frozen? ⟨w.heap.size + 1, 1, none⟩ = false := by simp [World.frozen?, J5.out.1.pi.f]
                  go_wp2_with fail
                  refine (HNT.out (.slice ta tn tc) w4 J4.out.2.1).mono ?_
                  rintro e w' ⟨rfl, rfl⟩
                  go_wp2_with fail
                  refine (HNS.out (.slice sa sn sc) w4 J4.out.2.2).mono ?_
                  rintro e w' ⟨rfl, rfl⟩
                  go_wp2_with fail
                  change bodyPost Tryd.prog _ _ _ _ (out7 w4 w.heap.size (.slice none 0 0) (.int .i64 0) (.slice none 0 0) (.slice none 0 0) (.int .i64 0) (.int .i64 5) (.int .i64 at_))
                  have q7 := out7_heap (.slice none 0 0) (.int .i64 0) (.slice none 0 0) (.slice none 0 0) (.int .i64 0) (.int .i64 5) (.int .i64 at_) J5.out.1.pi.r J5.out.1.pi.f
                  have HR : Hid (Below w.heap.size w (out7 w4 w.heap.size (.slice none 0 0) (.int .i64 0) (.slice none 0 0) (.slice none 0 0) (.int .i64 0) (.int .i64 5) (.int .i64 at_))) := out7_below _ _ _ _ _ _ _ J5.out.1.pi
                  generalize out7 w4 w.heap.size (.slice none 0 0) (.int .i64 0) (.slice none 0 0) (.slice none 0 0) (.int .i64 0) (.int .i64 5) (.int .i64 at_) = w7 at q7 HR ⊢
                  have c0 := cell_in q7.1 0 rfl
                  have c1 := cell_in q7.1 1 rfl
                  have c2 := cell_in q7.1 2 rfl
                  have c3 := cell_in q7.1 3 rfl
                  have c4 := cell_in q7.1 4 rfl
                  have e0 := cell_in q7.2.1 0 rfl
                  have e1 := cell_in q7.2.1 1 rfl
                  refine bodyPost_ret (v := .tuple #[.agg #[.slice none 0 0, .int .i64 0, .slice none 0 0, .slice none 0 0, .int .i64 0], .agg #[.int .i64 5, .int .i64 at_]]) (by simp [results, Tryd.results8, go_sem, c0, c1, c2, c3, c4, e0, e1]; try rfl) rfl ?_
                  refine ⟨.agg #[.slice none 0 0, .int .i64 0, .slice none 0 0, .slice none 0 0, .int .i64 0], ?_, ?_, HR.out⟩
                  · rw [HE.out.2.2, HE.out.1]; rfl
                  · rw [HE.out.2.1]; exact RuV.zero _ _
                · have hli : ¬ (4096 : Int) < (tn : Int) := by have := HTN.out; omega
                  by_cases hlS : 4096 < S.length
                  · have HE : Hid (Q.whyP (bl s) = 5 ∧ Q.ruP (bl s) at_ = Q.Ru.zero ∧ Q.faultAt (bl s) at_ = at_) := by
                      have e := HQ.out.2.1.symm
                      rw [why_5 hk hT0 hTa hSa (.inr hlS)] at e
                      exact ⟨e, ru_no s at_ (by rw [e]; decide)⟩
                    have hli2 : (4096 : Int) < (sn : Int) := by have := HSN.out; omega
                    clear hk hT0 hTa hSa hlT hlS
                    have J5 : Hid (PJ w w4 r (.slice ta tn tc) (.int .i64 0) (.slice sa sn sc) (.slice none 0 0) (.int .i64 at_) ∧ True) := ⟨J4.out.1, trivial⟩
                    have r0 := cell_in J5.out.1.pi.r 0 rfl
                    have r1 := cell_in J5.out.1.pi.r 1 rfl
                    have r2 := cell_in J5.out.1.pi.r 2 rfl
                    have r3 := cell_in J5.out.1.pi.r 3 rfl
                    have r4 := cell_in J5.out.1.pi.r 4 rfl
                    have f0 := cell_in J5.out.1.pi.f 0 rfl
                    have f1 := cell_in J5.out.1.pi.f 1 rfl
                    have z0 : w4.frozen? ⟨w.heap.size, 0, none⟩ = false := by simp [World.frozen?, J5.out.1.pi.r]
                    have z1 : w4.frozen? ⟨w.heap.size, 1, none⟩ = false := by simp [World.frozen?, J5.out.1.pi.r]
                    have z2 : w4.frozen? ⟨w.heap.size, 2, none⟩ = false := by simp [World.frozen?, J5.out.1.pi.r]
                    have z3 : w4.frozen? ⟨w.heap.size, 3, none⟩ = false := by simp [World.frozen?, J5.out.1.pi.r]
                    have z4 : w4.frozen? ⟨w.heap.size, 4, none⟩ = false := by simp [World.frozen?, J5.out.1.pi.r]
                    have y0 : w4.frozen? ⟨w.heap.size + 1, 0, none⟩ = false := by simp [World.frozen?, J5.out.1.pi.f]
                    have y1 : w4.frozen? ⟨w.heap.size + 1, 1, none⟩ = false := by simp [World.frozen?, J5.out.1.pi.f]
                    go_wp2_with fail
                    refine (HNT.out (.slice ta tn tc) w4 J4.out.2.1).mono ?_
                    rintro e w' ⟨rfl, rfl⟩
                    go_wp2_with fail
                    refine (HNS.out (.slice sa sn sc) w4 J4.out.2.2).mono ?_
                    rintro e w' ⟨rfl, rfl⟩
                    go_wp2_with fail
                    change bodyPost Tryd.prog _ _ _ _ (out7 w4 w.heap.size (.slice none 0 0) (.int .i64 0) (.slice none 0 0) (.slice none 0 0) (.int .i64 0) (.int .i64 5) (.int .i64 at_))
                    have q7 := out7_heap (.slice none 0 0) (.int .i64 0) (.slice none 0 0) (.slice none 0 0) (.int .i64 0) (.int .i64 5) (.int .i64 at_) J5.out.1.pi.r J5.out.1.pi.f
                    have HR : Hid (Below w.heap.size w (out7 w4 w.heap.size (.slice none 0 0) (.int .i64 0) (.slice none 0 0) (.slice none 0 0) (.int .i64 0) (.int .i64 5) (.int .i64 at_))) := out7_below _ _ _ _ _ _ _ J5.out.1.pi
                    generalize out7 w4 w.heap.size (.slice none 0 0) (.int .i64 0) (.slice none 0 0) (.slice none 0 0) (.int .i64 0) (.int .i64 5) (.int .i64 at_) = w7 at q7 HR ⊢
                    have c0 := cell_in q7.1 0 rfl
                    have c1 := cell_in q7.1 1 rfl
                    have c2 := cell_in q7.1 2 rfl
                    have c3 := cell_in q7.1 3 rfl
                    have c4 := cell_in q7.1 4 rfl
                    have e0 := cell_in q7.2.1 0 rfl
                    have e1 := cell_in q7.2.1 1 rfl
                    refine bodyPost_ret (v := .tuple #[.agg #[.slice none 0 0, .int .i64 0, .slice none 0 0, .slice none 0 0, .int .i64 0], .agg #[.int .i64 5, .int .i64 at_]]) (by simp [results, Tryd.results8, go_sem, c0, c1, c2, c3, c4, e0, e1]; try rfl) rfl ?_
                    refine ⟨.agg #[.slice none 0 0, .int .i64 0, .slice none 0 0, .slice none 0 0, .int .i64 0], ?_, ?_, HR.out⟩
                    · rw [HE.out.2.2, HE.out.1]; rfl
                    · rw [HE.out.2.1]; exact RuV.zero _ _
                  · have hli2 : ¬ (4096 : Int) < (sn : Int) := by have := HSN.out; omega
                    by_cases hce : bl xc = []
                    · have hxc0 : xc = ⟨#[]⟩ := bl_inj hce
                      have HCe : Hid (rC (bl s) = []) := by unfold Hid; rw [← HX.out.2]; exact hce
                      rw [hxc0]
                      clear hxc0 hce
                      have h123 : k = 1 ∨ k = 2 ∨ k = 3 := by have := HQ.out.2.2.2.2.2.1; omega
                      rcases h123 with hk1 | hk1 | hk1
                      · have hkk : k = 1 := hk1
                        have hopl : op = ⟨#[58]⟩ := by rw [HQ.out.2.2.2.2.1, hkk]; rfl
                        have HE : Hid (Q.whyP (bl s) = 0 ∧ Q.ruP (bl s) at_ = ⟨T, 1, S, Q.cmdsL (rC (bl s)), at_⟩ ∧ Q.faultAt (bl s) at_ = 0) := by
                          have e := HQ.out.2.1.symm
                          rw [why_0 hk hT0 hTa hSa hlT hlS] at e
                          obtain ⟨h1, h2⟩ := ru_yes s at_ e
                          obtain ⟨g1, g2, g3⟩ := HQ.out.2.2.1 hk
                          refine ⟨e, ?_, h2⟩
                          rw [h1, g1, g2, g3, ← HQ.out.1, hkk]; rfl
                        clear hk1 hk hT0 hTa hSa hlT hlS t1 t2
                        rw [hopl]
                        clear hopl hkk
                        go_wp2_with fail
                        refine (HNT.out (.slice ta tn tc) w4 J4.out.2.1).mono ?_
                        rintro e w' ⟨rfl, rfl⟩
                        go_wp2_with fail
                        refine (HNS.out (.slice sa sn sc) w4 J4.out.2.2).mono ?_
                        rintro e w' ⟨rfl, rfl⟩
                        go_upto_region 25 with fail
                        have J5 : Hid (PJ w (w4.setCell ⟨r, 1, none⟩ (.int .i64 1)) r (.slice ta tn tc) (.int .i64 1) (.slice sa sn sc) (.slice none 0 0) (.int .i64 at_) ∧ RuV (w4.setCell ⟨r, 1, none⟩ (.int .i64 1)).heap.size (w4.setCell ⟨r, 1, none⟩ (.int .i64 1)) (.agg #[.slice ta tn tc, .int .i64 1, .slice sa sn sc, .slice none 0 0, .int .i64 at_]) ⟨T, 1, S, Q.cmdsL (rC (bl s)), at_⟩) :=
                          ⟨J4.out.1.set1 _, _, _, _, rfl, words_set' J4.out.2.1 J4.out.1.box rfl _, words_set' J4.out.2.2 J4.out.1.box rfl _, by rw [show Q.cmdsL (rC (bl s)) = [] from if_pos HCe.out]; exact words_nil _ _⟩
                        generalize w4.setCell ⟨r, 1, none⟩ (.int .i64 1) = w5 at J5 ⊢
                        clear d0 d1 d2 d3 d4 x1 x3 hrl
                        have b0 := cell_in J5.out.1.box 0 rfl
                        have b1 := cell_in J5.out.1.box 1 rfl
                        have b2 := cell_in J5.out.1.box 2 rfl
                        have b3 := cell_in J5.out.1.box 3 rfl
                        have b4 := cell_in J5.out.1.box 4 rfl
                        have r0 := cell_in J5.out.1.pi.r 0 rfl
                        have r1 := cell_in J5.out.1.pi.r 1 rfl
                        have r2 := cell_in J5.out.1.pi.r 2 rfl
                        have r3 := cell_in J5.out.1.pi.r 3 rfl
                        have r4 := cell_in J5.out.1.pi.r 4 rfl
                        have f0 := cell_in J5.out.1.pi.f 0 rfl
                        have f1 := cell_in J5.out.1.pi.f 1 rfl
                        have z0 : w5.frozen? ⟨w.heap.size, 0, none⟩ = false := by simp [World.frozen?, J5.out.1.pi.r]
                        have z1 : w5.frozen? ⟨w.heap.size, 1, none⟩ = false := by simp [World.frozen?, J5.out.1.pi.r]
                        have z2 : w5.frozen? ⟨w.heap.size, 2, none⟩ = false := by simp [World.frozen?, J5.out.1.pi.r]
                        have z3 : w5.frozen? ⟨w.heap.size, 3, none⟩ = false := by simp [World.frozen?, J5.out.1.pi.r]
                        have z4 : w5.frozen? ⟨w.heap.size, 4, none⟩ = false := by simp [World.frozen?, J5.out.1.pi.r]
                        have y0 : w5.frozen? ⟨w.heap.size + 1, 0, none⟩ = false := by simp [World.frozen?, J5.out.1.pi.f]
                        have y1 : w5.frozen? ⟨w.heap.size + 1, 1, none⟩ = false := by simp [World.frozen?, J5.out.1.pi.f]
                        go_wp2_with fail
                        change bodyPost Tryd.prog _ _ _ _ (out7 w5 w.heap.size (.slice ta tn tc) (.int .i64 1) (.slice sa sn sc) (.slice none 0 0) (.int .i64 at_) (.int .i64 0) (.int .i64 0))
                        have q7 := out7_heap (.slice ta tn tc) (.int .i64 1) (.slice sa sn sc) (.slice none 0 0) (.int .i64 at_) (.int .i64 0) (.int .i64 0) J5.out.1.pi.r J5.out.1.pi.f
                        have HR : Hid (Below w.heap.size w (out7 w5 w.heap.size (.slice ta tn tc) (.int .i64 1) (.slice sa sn sc) (.slice none 0 0) (.int .i64 at_) (.int .i64 0) (.int .i64 0)) ∧ RuV (out7 w5 w.heap.size (.slice ta tn tc) (.int .i64 1) (.slice sa sn sc) (.slice none 0 0) (.int .i64 at_) (.int .i64 0) (.int .i64 0)).heap.size (out7 w5 w.heap.size (.slice ta tn tc) (.int .i64 1) (.slice sa sn sc) (.slice none 0 0) (.int .i64 at_) (.int .i64 0) (.int .i64 0)) (.agg #[.slice ta tn tc, .int .i64 1, .slice sa sn sc, .slice none 0 0, .int .i64 at_]) ⟨T, 1, S, Q.cmdsL (rC (bl s)), at_⟩) :=
                          ⟨out7_below _ _ _ _ _ _ _ J5.out.1.pi, RuV.out7 _ _ _ _ _ _ _ J5.out.1.pi J5.out.2 (Nat.le_refl _)⟩
                        generalize out7 w5 w.heap.size (.slice ta tn tc) (.int .i64 1) (.slice sa sn sc) (.slice none 0 0) (.int .i64 at_) (.int .i64 0) (.int .i64 0) = w7 at q7 HR ⊢
                        have c0 := cell_in q7.1 0 rfl
                        have c1 := cell_in q7.1 1 rfl
                        have c2 := cell_in q7.1 2 rfl
                        have c3 := cell_in q7.1 3 rfl
                        have c4 := cell_in q7.1 4 rfl
                        have e0 := cell_in q7.2.1 0 rfl
                        have e1 := cell_in q7.2.1 1 rfl
                        refine bodyPost_ret (v := .tuple #[.agg #[.slice ta tn tc, .int .i64 1, .slice sa sn sc, .slice none 0 0, .int .i64 at_], .agg #[.int .i64 0, .int .i64 0]]) (by simp [results, Tryd.results8, go_sem, c0, c1, c2, c3, c4, e0, e1]; try rfl) rfl ?_
                        refine ⟨.agg #[.slice ta tn tc, .int .i64 1, .slice sa sn sc, .slice none 0 0, .int .i64 at_], ?_, ?_, HR.out.1⟩
                        · rw [HE.out.2.2, HE.out.1]; rfl
                        · rw [HE.out.2.1]; exact HR.out.2
                      · have hkk : k = 2 := hk1
                        have hopl : op = ⟨#[33]⟩ := by rw [HQ.out.2.2.2.2.1, hkk]; rfl
                        have HE : Hid (Q.whyP (bl s) = 0 ∧ Q.ruP (bl s) at_ = ⟨T, 2, S, Q.cmdsL (rC (bl s)), at_⟩ ∧ Q.faultAt (bl s) at_ = 0) := by
                          have e := HQ.out.2.1.symm
                          rw [why_0 hk hT0 hTa hSa hlT hlS] at e
                          obtain ⟨h1, h2⟩ := ru_yes s at_ e
                          obtain ⟨g1, g2, g3⟩ := HQ.out.2.2.1 hk
                          refine ⟨e, ?_, h2⟩
                          rw [h1, g1, g2, g3, ← HQ.out.1, hkk]; rfl
                        clear hk1 hk hT0 hTa hSa hlT hlS t1 t2
                        rw [hopl]
                        clear hopl hkk
                        go_wp2_with fail
                        refine (HNT.out (.slice ta tn tc) w4 J4.out.2.1).mono ?_
                        rintro e w' ⟨rfl, rfl⟩
                        go_wp2_with fail
                        refine (HNS.out (.slice sa sn sc) w4 J4.out.2.2).mono ?_
                        rintro e w' ⟨rfl, rfl⟩
                        go_upto_region 25 with fail
                        have J5 : Hid (PJ w (w4.setCell ⟨r, 1, none⟩ (.int .i64 2)) r (.slice ta tn tc) (.int .i64 2) (.slice sa sn sc) (.slice none 0 0) (.int .i64 at_) ∧ RuV (w4.setCell ⟨r, 1, none⟩ (.int .i64 2)).heap.size (w4.setCell ⟨r, 1, none⟩ (.int .i64 2)) (.agg #[.slice ta tn tc, .int .i64 2, .slice sa sn sc, .slice none 0 0, .int .i64 at_]) ⟨T, 2, S, Q.cmdsL (rC (bl s)), at_⟩) :=
                          ⟨J4.out.1.set1 _, _, _, _, rfl, words_set' J4.out.2.1 J4.out.1.box rfl _, words_set' J4.out.2.2 J4.out.1.box rfl _, by rw [show Q.cmdsL (rC (bl s)) = [] from if_pos HCe.out]; exact words_nil _ _⟩
                        generalize w4.setCell ⟨r, 1, none⟩ (.int .i64 2) = w5 at J5 ⊢
                        clear d0 d1 d2 d3 d4 x1 x3 hrl
                        have b0 := cell_in J5.out.1.box 0 rfl
                        have b1 := cell_in J5.out.1.box 1 rfl
                        have b2 := cell_in J5.out.1.box 2 rfl
                        have b3 := cell_in J5.out.1.box 3 rfl
                        have b4 := cell_in J5.out.1.box 4 rfl
                        have r0 := cell_in J5.out.1.pi.r 0 rfl
                        have r1 := cell_in J5.out.1.pi.r 1 rfl
                        have r2 := cell_in J5.out.1.pi.r 2 rfl
                        have r3 := cell_in J5.out.1.pi.r 3 rfl
                        have r4 := cell_in J5.out.1.pi.r 4 rfl
                        have f0 := cell_in J5.out.1.pi.f 0 rfl
                        have f1 := cell_in J5.out.1.pi.f 1 rfl
                        have z0 : w5.frozen? ⟨w.heap.size, 0, none⟩ = false := by simp [World.frozen?, J5.out.1.pi.r]
                        have z1 : w5.frozen? ⟨w.heap.size, 1, none⟩ = false := by simp [World.frozen?, J5.out.1.pi.r]
                        have z2 : w5.frozen? ⟨w.heap.size, 2, none⟩ = false := by simp [World.frozen?, J5.out.1.pi.r]
                        have z3 : w5.frozen? ⟨w.heap.size, 3, none⟩ = false := by simp [World.frozen?, J5.out.1.pi.r]
                        have z4 : w5.frozen? ⟨w.heap.size, 4, none⟩ = false := by simp [World.frozen?, J5.out.1.pi.r]
                        have y0 : w5.frozen? ⟨w.heap.size + 1, 0, none⟩ = false := by simp [World.frozen?, J5.out.1.pi.f]
                        have y1 : w5.frozen? ⟨w.heap.size + 1, 1, none⟩ = false := by simp [World.frozen?, J5.out.1.pi.f]
                        go_wp2_with fail
                        change bodyPost Tryd.prog _ _ _ _ (out7 w5 w.heap.size (.slice ta tn tc) (.int .i64 2) (.slice sa sn sc) (.slice none 0 0) (.int .i64 at_) (.int .i64 0) (.int .i64 0))
                        have q7 := out7_heap (.slice ta tn tc) (.int .i64 2) (.slice sa sn sc) (.slice none 0 0) (.int .i64 at_) (.int .i64 0) (.int .i64 0) J5.out.1.pi.r J5.out.1.pi.f
                        have HR : Hid (Below w.heap.size w (out7 w5 w.heap.size (.slice ta tn tc) (.int .i64 2) (.slice sa sn sc) (.slice none 0 0) (.int .i64 at_) (.int .i64 0) (.int .i64 0)) ∧ RuV (out7 w5 w.heap.size (.slice ta tn tc) (.int .i64 2) (.slice sa sn sc) (.slice none 0 0) (.int .i64 at_) (.int .i64 0) (.int .i64 0)).heap.size (out7 w5 w.heap.size (.slice ta tn tc) (.int .i64 2) (.slice sa sn sc) (.slice none 0 0) (.int .i64 at_) (.int .i64 0) (.int .i64 0)) (.agg #[.slice ta tn tc, .int .i64 2, .slice sa sn sc, .slice none 0 0, .int .i64 at_]) ⟨T, 2, S, Q.cmdsL (rC (bl s)), at_⟩) :=
                          ⟨out7_below _ _ _ _ _ _ _ J5.out.1.pi, RuV.out7 _ _ _ _ _ _ _ J5.out.1.pi J5.out.2 (Nat.le_refl _)⟩
                        generalize out7 w5 w.heap.size (.slice ta tn tc) (.int .i64 2) (.slice sa sn sc) (.slice none 0 0) (.int .i64 at_) (.int .i64 0) (.int .i64 0) = w7 at q7 HR ⊢
                        have c0 := cell_in q7.1 0 rfl
                        have c1 := cell_in q7.1 1 rfl
                        have c2 := cell_in q7.1 2 rfl
                        have c3 := cell_in q7.1 3 rfl
                        have c4 := cell_in q7.1 4 rfl
                        have e0 := cell_in q7.2.1 0 rfl
                        have e1 := cell_in q7.2.1 1 rfl
                        refine bodyPost_ret (v := .tuple #[.agg #[.slice ta tn tc, .int .i64 2, .slice sa sn sc, .slice none 0 0, .int .i64 at_], .agg #[.int .i64 0, .int .i64 0]]) (by simp [results, Tryd.results8, go_sem, c0, c1, c2, c3, c4, e0, e1]; try rfl) rfl ?_
                        refine ⟨.agg #[.slice ta tn tc, .int .i64 2, .slice sa sn sc, .slice none 0 0, .int .i64 at_], ?_, ?_, HR.out.1⟩
                        · rw [HE.out.2.2, HE.out.1]; rfl
                        · rw [HE.out.2.1]; exact HR.out.2
                      · have hkk : k = 3 := hk1
                        have hopl : op = ⟨#[58, 58]⟩ := by rw [HQ.out.2.2.2.2.1, hkk]; rfl
                        have HE : Hid (Q.whyP (bl s) = 0 ∧ Q.ruP (bl s) at_ = ⟨T, 3, S, Q.cmdsL (rC (bl s)), at_⟩ ∧ Q.faultAt (bl s) at_ = 0) := by
                          have e := HQ.out.2.1.symm
                          rw [why_0 hk hT0 hTa hSa hlT hlS] at e
                          obtain ⟨h1, h2⟩ := ru_yes s at_ e
                          obtain ⟨g1, g2, g3⟩ := HQ.out.2.2.1 hk
                          refine ⟨e, ?_, h2⟩
                          rw [h1, g1, g2, g3, ← HQ.out.1, hkk]; rfl
                        clear hk1 hk hT0 hTa hSa hlT hlS t1 t2
                        rw [hopl]
                        clear hopl hkk
                        go_wp2_with fail
                        refine (HNT.out (.slice ta tn tc) w4 J4.out.2.1).mono ?_
                        rintro e w' ⟨rfl, rfl⟩
                        go_wp2_with fail
                        refine (HNS.out (.slice sa sn sc) w4 J4.out.2.2).mono ?_
                        rintro e w' ⟨rfl, rfl⟩
                        go_upto_region 25 with fail
                        have J5 : Hid (PJ w (w4.setCell ⟨r, 1, none⟩ (.int .i64 3)) r (.slice ta tn tc) (.int .i64 3) (.slice sa sn sc) (.slice none 0 0) (.int .i64 at_) ∧ RuV (w4.setCell ⟨r, 1, none⟩ (.int .i64 3)).heap.size (w4.setCell ⟨r, 1, none⟩ (.int .i64 3)) (.agg #[.slice ta tn tc, .int .i64 3, .slice sa sn sc, .slice none 0 0, .int .i64 at_]) ⟨T, 3, S, Q.cmdsL (rC (bl s)), at_⟩) :=
                          ⟨J4.out.1.set1 _, _, _, _, rfl, words_set' J4.out.2.1 J4.out.1.box rfl _, words_set' J4.out.2.2 J4.out.1.box rfl _, by rw [show Q.cmdsL (rC (bl s)) = [] from if_pos HCe.out]; exact words_nil _ _⟩
                        generalize w4.setCell ⟨r, 1, none⟩ (.int .i64 3) = w5 at J5 ⊢
                        clear d0 d1 d2 d3 d4 x1 x3 hrl
                        have b0 := cell_in J5.out.1.box 0 rfl
                        have b1 := cell_in J5.out.1.box 1 rfl
                        have b2 := cell_in J5.out.1.box 2 rfl
                        have b3 := cell_in J5.out.1.box 3 rfl
                        have b4 := cell_in J5.out.1.box 4 rfl
                        have r0 := cell_in J5.out.1.pi.r 0 rfl
                        have r1 := cell_in J5.out.1.pi.r 1 rfl
                        have r2 := cell_in J5.out.1.pi.r 2 rfl
                        have r3 := cell_in J5.out.1.pi.r 3 rfl
                        have r4 := cell_in J5.out.1.pi.r 4 rfl
                        have f0 := cell_in J5.out.1.pi.f 0 rfl
                        have f1 := cell_in J5.out.1.pi.f 1 rfl
                        have z0 : w5.frozen? ⟨w.heap.size, 0, none⟩ = false := by simp [World.frozen?, J5.out.1.pi.r]
                        have z1 : w5.frozen? ⟨w.heap.size, 1, none⟩ = false := by simp [World.frozen?, J5.out.1.pi.r]
                        have z2 : w5.frozen? ⟨w.heap.size, 2, none⟩ = false := by simp [World.frozen?, J5.out.1.pi.r]
                        have z3 : w5.frozen? ⟨w.heap.size, 3, none⟩ = false := by simp [World.frozen?, J5.out.1.pi.r]
                        have z4 : w5.frozen? ⟨w.heap.size, 4, none⟩ = false := by simp [World.frozen?, J5.out.1.pi.r]
                        have y0 : w5.frozen? ⟨w.heap.size + 1, 0, none⟩ = false := by simp [World.frozen?, J5.out.1.pi.f]
                        have y1 : w5.frozen? ⟨w.heap.size + 1, 1, none⟩ = false := by simp [World.frozen?, J5.out.1.pi.f]
                        go_wp2_with fail
                        change bodyPost Tryd.prog _ _ _ _ (out7 w5 w.heap.size (.slice ta tn tc) (.int .i64 3) (.slice sa sn sc) (.slice none 0 0) (.int .i64 at_) (.int .i64 0) (.int .i64 0))
                        have q7 := out7_heap (.slice ta tn tc) (.int .i64 3) (.slice sa sn sc) (.slice none 0 0) (.int .i64 at_) (.int .i64 0) (.int .i64 0) J5.out.1.pi.r J5.out.1.pi.f
                        have HR : Hid (Below w.heap.size w (out7 w5 w.heap.size (.slice ta tn tc) (.int .i64 3) (.slice sa sn sc) (.slice none 0 0) (.int .i64 at_) (.int .i64 0) (.int .i64 0)) ∧ RuV (out7 w5 w.heap.size (.slice ta tn tc) (.int .i64 3) (.slice sa sn sc) (.slice none 0 0) (.int .i64 at_) (.int .i64 0) (.int .i64 0)).heap.size (out7 w5 w.heap.size (.slice ta tn tc) (.int .i64 3) (.slice sa sn sc) (.slice none 0 0) (.int .i64 at_) (.int .i64 0) (.int .i64 0)) (.agg #[.slice ta tn tc, .int .i64 3, .slice sa sn sc, .slice none 0 0, .int .i64 at_]) ⟨T, 3, S, Q.cmdsL (rC (bl s)), at_⟩) :=
                          ⟨out7_below _ _ _ _ _ _ _ J5.out.1.pi, RuV.out7 _ _ _ _ _ _ _ J5.out.1.pi J5.out.2 (Nat.le_refl _)⟩
                        generalize out7 w5 w.heap.size (.slice ta tn tc) (.int .i64 3) (.slice sa sn sc) (.slice none 0 0) (.int .i64 at_) (.int .i64 0) (.int .i64 0) = w7 at q7 HR ⊢
                        have c0 := cell_in q7.1 0 rfl
                        have c1 := cell_in q7.1 1 rfl
                        have c2 := cell_in q7.1 2 rfl
                        have c3 := cell_in q7.1 3 rfl
                        have c4 := cell_in q7.1 4 rfl
                        have e0 := cell_in q7.2.1 0 rfl
                        have e1 := cell_in q7.2.1 1 rfl
                        refine bodyPost_ret (v := .tuple #[.agg #[.slice ta tn tc, .int .i64 3, .slice sa sn sc, .slice none 0 0, .int .i64 at_], .agg #[.int .i64 0, .int .i64 0]]) (by simp [results, Tryd.results8, go_sem, c0, c1, c2, c3, c4, e0, e1]; try rfl) rfl ?_
                        refine ⟨.agg #[.slice ta tn tc, .int .i64 3, .slice sa sn sc, .slice none 0 0, .int .i64 at_], ?_, ?_, HR.out.1⟩
                        · rw [HE.out.2.2, HE.out.1]; rfl
                        · rw [HE.out.2.1]; exact HR.out.2
                    · have c1' : ¬ xc.toList = [] := by rw [Lib.toList_data]; exact hce
                      have c2' : xc.toList.isEmpty = false := nonempty hce
                      have HCn : Hid (¬ bl xc = []) := hce
                      clear hce
                      have h123 : k = 1 ∨ k = 2 ∨ k = 3 := by have := HQ.out.2.2.2.2.2.1; omega
                      rcases h123 with hk1 | hk1 | hk1
                      · have hkk : k = 1 := hk1
                        have hopl : op = ⟨#[58]⟩ := by rw [HQ.out.2.2.2.2.1, hkk]; rfl
                        have HE : Hid (Q.whyP (bl s) = 0 ∧ Q.ruP (bl s) at_ = ⟨T, 1, S, Q.cmdsL (rC (bl s)), at_⟩ ∧ Q.faultAt (bl s) at_ = 0) := by
                          have e := HQ.out.2.1.symm
                          rw [why_0 hk hT0 hTa hSa hlT hlS] at e
                          obtain ⟨h1, h2⟩ := ru_yes s at_ e
                          obtain ⟨g1, g2, g3⟩ := HQ.out.2.2.1 hk
                          refine ⟨e, ?_, h2⟩
                          rw [h1, g1, g2, g3, ← HQ.out.1, hkk]; rfl
                        clear hk1 hk hT0 hTa hSa hlT hlS t1 t2
                        rw [hopl]
                        clear hopl hkk
                        go_wp2_with fail
                        refine (HNT.out (.slice ta tn tc) w4 J4.out.2.1).mono ?_
                        rintro e w' ⟨rfl, rfl⟩
                        go_wp2_with fail
                        refine (HNS.out (.slice sa sn sc) w4 J4.out.2.2).mono ?_
                        rintro e w' ⟨rfl, rfl⟩
                        go_upto_region 25 with fail
                        have J5 : Hid (PJ w (((w4.setCell ⟨r, 1, none⟩ (.int .i64 1)).setCell ⟨r, 3, none⟩ (.slice (some ⟨w4.heap.size, 0, none⟩) 1 1)).alloc (.cells #[.string xc] 9)) r (.slice ta tn tc) (.int .i64 1) (.slice sa sn sc) (.slice (some ⟨w4.heap.size, 0, none⟩) 1 1) (.int .i64 at_) ∧ RuV (((w4.setCell ⟨r, 1, none⟩ (.int .i64 1)).setCell ⟨r, 3, none⟩ (.slice (some ⟨w4.heap.size, 0, none⟩) 1 1)).alloc (.cells #[.string xc] 9)).heap.size (((w4.setCell ⟨r, 1, none⟩ (.int .i64 1)).setCell ⟨r, 3, none⟩ (.slice (some ⟨w4.heap.size, 0, none⟩) 1 1)).alloc (.cells #[.string xc] 9)) (.agg #[.slice ta tn tc, .int .i64 1, .slice sa sn sc, .slice (some ⟨w4.heap.size, 0, none⟩) 1 1, .int .i64 at_]) ⟨T, 1, S, Q.cmdsL (rC (bl s)), at_⟩) := by
                          have K1 := J4.out.1.set1 (.int .i64 1)
                          have K2 := K1.set3 (.slice (some ⟨w4.heap.size, 0, none⟩) 1 1)
                          have a1 := words_set' J4.out.2.1 J4.out.1.box rfl (i := 1) (.int .i64 1)
                          have a2 := words_set' J4.out.2.2 J4.out.1.box rfl (i := 1) (.int .i64 1)
                          have b1 := words_set' a1 K1.box rfl (i := 3) (.slice (some ⟨w4.heap.size, 0, none⟩) 1 1)
                          have b2 := words_set' a2 K1.box rfl (i := 3) (.slice (some ⟨w4.heap.size, 0, none⟩) 1 1)
                          have hz : ((w4.setCell ⟨r, 1, none⟩ (.int .i64 1)).setCell ⟨r, 3, none⟩ (.slice (some ⟨w4.heap.size, 0, none⟩) 1 1)).heap.size = w4.heap.size := by rw [size_set, size_set]
                          have hb := below_alloc1 ((w4.setCell ⟨r, 1, none⟩ (.int .i64 1)).setCell ⟨r, 3, none⟩ (.slice (some ⟨w4.heap.size, 0, none⟩) 1 1)) (.cells #[.string xc] 9)
                          have hnew : (((w4.setCell ⟨r, 1, none⟩ (.int .i64 1)).setCell ⟨r, 3, none⟩ (.slice (some ⟨w4.heap.size, 0, none⟩) 1 1)).alloc (.cells #[.string xc] 9)).heap[w4.heap.size]? = some (.cells #[.string xc] 9 (0, 0)) := alloc_b hz.symm
                          refine ⟨K2.below hb, _, _, _, rfl, (b1.below hb).mono hb.size, (b2.below hb).mono hb.size, ?_⟩
                          rw [show Q.cmdsL (rC (bl s)) = [bl xc] by unfold Q.cmdsL; rw [← HX.out.2, if_neg HCn.out], List.map_cons, ba_bl]
                          exact words_one xc hnew (Array.getElem?_eq_some_iff.1 hnew).1
                        generalize ((w4.setCell ⟨r, 1, none⟩ (.int .i64 1)).setCell ⟨r, 3, none⟩ (.slice (some ⟨w4.heap.size, 0, none⟩) 1 1)).alloc (.cells #[.string xc] 9) = w5 at J5 ⊢
                        generalize w4.heap.size = q4 at J5 ⊢
                        clear d0 d1 d2 d3 d4 x1 x3 hrl
                        have b0 := cell_in J5.out.1.box 0 rfl
                        have b1 := cell_in J5.out.1.box 1 rfl
                        have b2 := cell_in J5.out.1.box 2 rfl
                        have b3 := cell_in J5.out.1.box 3 rfl
                        have b4 := cell_in J5.out.1.box 4 rfl
                        have r0 := cell_in J5.out.1.pi.r 0 rfl
                        have r1 := cell_in J5.out.1.pi.r 1 rfl
                        have r2 := cell_in J5.out.1.pi.r 2 rfl
                        have r3 := cell_in J5.out.1.pi.r 3 rfl
                        have r4 := cell_in J5.out.1.pi.r 4 rfl
                        have f0 := cell_in J5.out.1.pi.f 0 rfl
                        have f1 := cell_in J5.out.1.pi.f 1 rfl
                        have z0 : w5.frozen? ⟨w.heap.size, 0, none⟩ = false := by simp [World.frozen?, J5.out.1.pi.r]
                        have z1 : w5.frozen? ⟨w.heap.size, 1, none⟩ = false := by simp [World.frozen?, J5.out.1.pi.r]
                        have z2 : w5.frozen? ⟨w.heap.size, 2, none⟩ = false := by simp [World.frozen?, J5.out.1.pi.r]
                        have z3 : w5.frozen? ⟨w.heap.size, 3, none⟩ = false := by simp [World.frozen?, J5.out.1.pi.r]
                        have z4 : w5.frozen? ⟨w.heap.size, 4, none⟩ = false := by simp [World.frozen?, J5.out.1.pi.r]
                        have y0 : w5.frozen? ⟨w.heap.size + 1, 0, none⟩ = false := by simp [World.frozen?, J5.out.1.pi.f]
                        have y1 : w5.frozen? ⟨w.heap.size + 1, 1, none⟩ = false := by simp [World.frozen?, J5.out.1.pi.f]
                        go_wp2_with fail
                        change bodyPost Tryd.prog _ _ _ _ (out7 w5 w.heap.size (.slice ta tn tc) (.int .i64 1) (.slice sa sn sc) (.slice (some ⟨q4, 0, none⟩) 1 1) (.int .i64 at_) (.int .i64 0) (.int .i64 0))
                        have q7 := out7_heap (.slice ta tn tc) (.int .i64 1) (.slice sa sn sc) (.slice (some ⟨q4, 0, none⟩) 1 1) (.int .i64 at_) (.int .i64 0) (.int .i64 0) J5.out.1.pi.r J5.out.1.pi.f
                        have HR : Hid (Below w.heap.size w (out7 w5 w.heap.size (.slice ta tn tc) (.int .i64 1) (.slice sa sn sc) (.slice (some ⟨q4, 0, none⟩) 1 1) (.int .i64 at_) (.int .i64 0) (.int .i64 0)) ∧ RuV (out7 w5 w.heap.size (.slice ta tn tc) (.int .i64 1) (.slice sa sn sc) (.slice (some ⟨q4, 0, none⟩) 1 1) (.int .i64 at_) (.int .i64 0) (.int .i64 0)).heap.size (out7 w5 w.heap.size (.slice ta tn tc) (.int .i64 1) (.slice sa sn sc) (.slice (some ⟨q4, 0, none⟩) 1 1) (.int .i64 at_) (.int .i64 0) (.int .i64 0)) (.agg #[.slice ta tn tc, .int .i64 1, .slice sa sn sc, .slice (some ⟨q4, 0, none⟩) 1 1, .int .i64 at_]) ⟨T, 1, S, Q.cmdsL (rC (bl s)), at_⟩) :=
                          ⟨out7_below _ _ _ _ _ _ _ J5.out.1.pi, RuV.out7 _ _ _ _ _ _ _ J5.out.1.pi J5.out.2 (Nat.le_refl _)⟩
                        generalize out7 w5 w.heap.size (.slice ta tn tc) (.int .i64 1) (.slice sa sn sc) (.slice (some ⟨q4, 0, none⟩) 1 1) (.int .i64 at_) (.int .i64 0) (.int .i64 0) = w7 at q7 HR ⊢
                        have c0 := cell_in q7.1 0 rfl
                        have c1 := cell_in q7.1 1 rfl
                        have c2 := cell_in q7.1 2 rfl
                        have c3 := cell_in q7.1 3 rfl
                        have c4 := cell_in q7.1 4 rfl
                        have e0 := cell_in q7.2.1 0 rfl
                        have e1 := cell_in q7.2.1 1 rfl
                        refine bodyPost_ret (v := .tuple #[.agg #[.slice ta tn tc, .int .i64 1, .slice sa sn sc, .slice (some ⟨q4, 0, none⟩) 1 1, .int .i64 at_], .agg #[.int .i64 0, .int .i64 0]]) (by simp [results, Tryd.results8, go_sem, c0, c1, c2, c3, c4, e0, e1]; try rfl) rfl ?_
                        refine ⟨.agg #[.slice ta tn tc, .int .i64 1, .slice sa sn sc, .slice (some ⟨q4, 0, none⟩) 1 1, .int .i64 at_], ?_, ?_, HR.out.1⟩
                        · rw [HE.out.2.2, HE.out.1]; rfl
                        · rw [HE.out.2.1]; exact HR.out.2
                      · have hkk : k = 2 := hk1
                        have hopl : op = ⟨#[33]⟩ := by rw [HQ.out.2.2.2.2.1, hkk]; rfl
                        have HE : Hid (Q.whyP (bl s) = 0 ∧ Q.ruP (bl s) at_ = ⟨T, 2, S, Q.cmdsL (rC (bl s)), at_⟩ ∧ Q.faultAt (bl s) at_ = 0) := by
                          have e := HQ.out.2.1.symm
                          rw [why_0 hk hT0 hTa hSa hlT hlS] at e
                          obtain ⟨h1, h2⟩ := ru_yes s at_ e
                          obtain ⟨g1, g2, g3⟩ := HQ.out.2.2.1 hk
                          refine ⟨e, ?_, h2⟩
                          rw [h1, g1, g2, g3, ← HQ.out.1, hkk]; rfl
                        clear hk1 hk hT0 hTa hSa hlT hlS t1 t2
                        rw [hopl]
                        clear hopl hkk
                        go_wp2_with fail
                        refine (HNT.out (.slice ta tn tc) w4 J4.out.2.1).mono ?_
                        rintro e w' ⟨rfl, rfl⟩
                        go_wp2_with fail
                        refine (HNS.out (.slice sa sn sc) w4 J4.out.2.2).mono ?_
                        rintro e w' ⟨rfl, rfl⟩
                        go_upto_region 25 with fail
                        have J5 : Hid (PJ w (((w4.setCell ⟨r, 1, none⟩ (.int .i64 2)).setCell ⟨r, 3, none⟩ (.slice (some ⟨w4.heap.size, 0, none⟩) 1 1)).alloc (.cells #[.string xc] 9)) r (.slice ta tn tc) (.int .i64 2) (.slice sa sn sc) (.slice (some ⟨w4.heap.size, 0, none⟩) 1 1) (.int .i64 at_) ∧ RuV (((w4.setCell ⟨r, 1, none⟩ (.int .i64 2)).setCell ⟨r, 3, none⟩ (.slice (some ⟨w4.heap.size, 0, none⟩) 1 1)).alloc (.cells #[.string xc] 9)).heap.size (((w4.setCell ⟨r, 1, none⟩ (.int .i64 2)).setCell ⟨r, 3, none⟩ (.slice (some ⟨w4.heap.size, 0, none⟩) 1 1)).alloc (.cells #[.string xc] 9)) (.agg #[.slice ta tn tc, .int .i64 2, .slice sa sn sc, .slice (some ⟨w4.heap.size, 0, none⟩) 1 1, .int .i64 at_]) ⟨T, 2, S, Q.cmdsL (rC (bl s)), at_⟩) := by
                          have K1 := J4.out.1.set1 (.int .i64 2)
                          have K2 := K1.set3 (.slice (some ⟨w4.heap.size, 0, none⟩) 1 1)
                          have a1 := words_set' J4.out.2.1 J4.out.1.box rfl (i := 1) (.int .i64 2)
                          have a2 := words_set' J4.out.2.2 J4.out.1.box rfl (i := 1) (.int .i64 2)
                          have b1 := words_set' a1 K1.box rfl (i := 3) (.slice (some ⟨w4.heap.size, 0, none⟩) 1 1)
                          have b2 := words_set' a2 K1.box rfl (i := 3) (.slice (some ⟨w4.heap.size, 0, none⟩) 1 1)
                          have hz : ((w4.setCell ⟨r, 1, none⟩ (.int .i64 2)).setCell ⟨r, 3, none⟩ (.slice (some ⟨w4.heap.size, 0, none⟩) 1 1)).heap.size = w4.heap.size := by rw [size_set, size_set]
                          have hb := below_alloc1 ((w4.setCell ⟨r, 1, none⟩ (.int .i64 2)).setCell ⟨r, 3, none⟩ (.slice (some ⟨w4.heap.size, 0, none⟩) 1 1)) (.cells #[.string xc] 9)
                          have hnew : (((w4.setCell ⟨r, 1, none⟩ (.int .i64 2)).setCell ⟨r, 3, none⟩ (.slice (some ⟨w4.heap.size, 0, none⟩) 1 1)).alloc (.cells #[.string xc] 9)).heap[w4.heap.size]? = some (.cells #[.string xc] 9 (0, 0)) := alloc_b hz.symm
                          refine ⟨K2.below hb, _, _, _, rfl, (b1.below hb).mono hb.size, (b2.below hb).mono hb.size, ?_⟩
                          rw [show Q.cmdsL (rC (bl s)) = [bl xc] by unfold Q.cmdsL; rw [← HX.out.2, if_neg HCn.out], List.map_cons, ba_bl]
                          exact words_one xc hnew (Array.getElem?_eq_some_iff.1 hnew).1
                        generalize ((w4.setCell ⟨r, 1, none⟩ (.int .i64 2)).setCell ⟨r, 3, none⟩ (.slice (some ⟨w4.heap.size, 0, none⟩) 1 1)).alloc (.cells #[.string xc] 9) = w5 at J5 ⊢
                        generalize w4.heap.size = q4 at J5 ⊢
                        clear d0 d1 d2 d3 d4 x1 x3 hrl
                        have b0 := cell_in J5.out.1.box 0 rfl
                        have b1 := cell_in J5.out.1.box 1 rfl
                        have b2 := cell_in J5.out.1.box 2 rfl
                        have b3 := cell_in J5.out.1.box 3 rfl
                        have b4 := cell_in J5.out.1.box 4 rfl
                        have r0 := cell_in J5.out.1.pi.r 0 rfl
                        have r1 := cell_in J5.out.1.pi.r 1 rfl
                        have r2 := cell_in J5.out.1.pi.r 2 rfl
                        have r3 := cell_in J5.out.1.pi.r 3 rfl
                        have r4 := cell_in J5.out.1.pi.r 4 rfl
                        have f0 := cell_in J5.out.1.pi.f 0 rfl
                        have f1 := cell_in J5.out.1.pi.f 1 rfl
                        have z0 : w5.frozen? ⟨w.heap.size, 0, none⟩ = false := by simp [World.frozen?, J5.out.1.pi.r]
                        have z1 : w5.frozen? ⟨w.heap.size, 1, none⟩ = false := by simp [World.frozen?, J5.out.1.pi.r]
                        have z2 : w5.frozen? ⟨w.heap.size, 2, none⟩ = false := by simp [World.frozen?, J5.out.1.pi.r]
                        have z3 : w5.frozen? ⟨w.heap.size, 3, none⟩ = false := by simp [World.frozen?, J5.out.1.pi.r]
                        have z4 : w5.frozen? ⟨w.heap.size, 4, none⟩ = false := by simp [World.frozen?, J5.out.1.pi.r]
                        have y0 : w5.frozen? ⟨w.heap.size + 1, 0, none⟩ = false := by simp [World.frozen?, J5.out.1.pi.f]
                        have y1 : w5.frozen? ⟨w.heap.size + 1, 1, none⟩ = false := by simp [World.frozen?, J5.out.1.pi.f]
                        go_wp2_with fail
                        change bodyPost Tryd.prog _ _ _ _ (out7 w5 w.heap.size (.slice ta tn tc) (.int .i64 2) (.slice sa sn sc) (.slice (some ⟨q4, 0, none⟩) 1 1) (.int .i64 at_) (.int .i64 0) (.int .i64 0))
                        have q7 := out7_heap (.slice ta tn tc) (.int .i64 2) (.slice sa sn sc) (.slice (some ⟨q4, 0, none⟩) 1 1) (.int .i64 at_) (.int .i64 0) (.int .i64 0) J5.out.1.pi.r J5.out.1.pi.f
                        have HR : Hid (Below w.heap.size w (out7 w5 w.heap.size (.slice ta tn tc) (.int .i64 2) (.slice sa sn sc) (.slice (some ⟨q4, 0, none⟩) 1 1) (.int .i64 at_) (.int .i64 0) (.int .i64 0)) ∧ RuV (out7 w5 w.heap.size (.slice ta tn tc) (.int .i64 2) (.slice sa sn sc) (.slice (some ⟨q4, 0, none⟩) 1 1) (.int .i64 at_) (.int .i64 0) (.int .i64 0)).heap.size (out7 w5 w.heap.size (.slice ta tn tc) (.int .i64 2) (.slice sa sn sc) (.slice (some ⟨q4, 0, none⟩) 1 1) (.int .i64 at_) (.int .i64 0) (.int .i64 0)) (.agg #[.slice ta tn tc, .int .i64 2, .slice sa sn sc, .slice (some ⟨q4, 0, none⟩) 1 1, .int .i64 at_]) ⟨T, 2, S, Q.cmdsL (rC (bl s)), at_⟩) :=
                          ⟨out7_below _ _ _ _ _ _ _ J5.out.1.pi, RuV.out7 _ _ _ _ _ _ _ J5.out.1.pi J5.out.2 (Nat.le_refl _)⟩
                        generalize out7 w5 w.heap.size (.slice ta tn tc) (.int .i64 2) (.slice sa sn sc) (.slice (some ⟨q4, 0, none⟩) 1 1) (.int .i64 at_) (.int .i64 0) (.int .i64 0) = w7 at q7 HR ⊢
                        have c0 := cell_in q7.1 0 rfl
                        have c1 := cell_in q7.1 1 rfl
                        have c2 := cell_in q7.1 2 rfl
                        have c3 := cell_in q7.1 3 rfl
                        have c4 := cell_in q7.1 4 rfl
                        have e0 := cell_in q7.2.1 0 rfl
                        have e1 := cell_in q7.2.1 1 rfl
                        refine bodyPost_ret (v := .tuple #[.agg #[.slice ta tn tc, .int .i64 2, .slice sa sn sc, .slice (some ⟨q4, 0, none⟩) 1 1, .int .i64 at_], .agg #[.int .i64 0, .int .i64 0]]) (by simp [results, Tryd.results8, go_sem, c0, c1, c2, c3, c4, e0, e1]; try rfl) rfl ?_
                        refine ⟨.agg #[.slice ta tn tc, .int .i64 2, .slice sa sn sc, .slice (some ⟨q4, 0, none⟩) 1 1, .int .i64 at_], ?_, ?_, HR.out.1⟩
                        · rw [HE.out.2.2, HE.out.1]; rfl
                        · rw [HE.out.2.1]; exact HR.out.2
                      · have hkk : k = 3 := hk1
                        have hopl : op = ⟨#[58, 58]⟩ := by rw [HQ.out.2.2.2.2.1, hkk]; rfl
                        have HE : Hid (Q.whyP (bl s) = 0 ∧ Q.ruP (bl s) at_ = ⟨T, 3, S, Q.cmdsL (rC (bl s)), at_⟩ ∧ Q.faultAt (bl s) at_ = 0) := by
                          have e := HQ.out.2.1.symm
                          rw [why_0 hk hT0 hTa hSa hlT hlS] at e
                          obtain ⟨h1, h2⟩ := ru_yes s at_ e
                          obtain ⟨g1, g2, g3⟩ := HQ.out.2.2.1 hk
                          refine ⟨e, ?_, h2⟩
                          rw [h1, g1, g2, g3, ← HQ.out.1, hkk]; rfl
                        clear hk1 hk hT0 hTa hSa hlT hlS t1 t2
                        rw [hopl]
                        clear hopl hkk
                        go_wp2_with fail
                        refine (HNT.out (.slice ta tn tc) w4 J4.out.2.1).mono ?_
                        rintro e w' ⟨rfl, rfl⟩
                        go_wp2_with fail
                        refine (HNS.out (.slice sa sn sc) w4 J4.out.2.2).mono ?_
                        rintro e w' ⟨rfl, rfl⟩
                        go_upto_region 25 with fail
                        have J5 : Hid (PJ w (((w4.setCell ⟨r, 1, none⟩ (.int .i64 3)).setCell ⟨r, 3, none⟩ (.slice (some ⟨w4.heap.size, 0, none⟩) 1 1)).alloc (.cells #[.string xc] 9)) r (.slice ta tn tc) (.int .i64 3) (.slice sa sn sc) (.slice (some ⟨w4.heap.size, 0, none⟩) 1 1) (.int .i64 at_) ∧ RuV (((w4.setCell ⟨r, 1, none⟩ (.int .i64 3)).setCell ⟨r, 3, none⟩ (.slice (some ⟨w4.heap.size, 0, none⟩) 1 1)).alloc (.cells #[.string xc] 9)).heap.size (((w4.setCell ⟨r, 1, none⟩ (.int .i64 3)).setCell ⟨r, 3, none⟩ (.slice (some ⟨w4.heap.size, 0, none⟩) 1 1)).alloc (.cells #[.string xc] 9)) (.agg #[.slice ta tn tc, .int .i64 3, .slice sa sn sc, .slice (some ⟨w4.heap.size, 0, none⟩) 1 1, .int .i64 at_]) ⟨T, 3, S, Q.cmdsL (rC (bl s)), at_⟩) := by
                          have K1 := J4.out.1.set1 (.int .i64 3)
                          have K2 := K1.set3 (.slice (some ⟨w4.heap.size, 0, none⟩) 1 1)
                          have a1 := words_set' J4.out.2.1 J4.out.1.box rfl (i := 1) (.int .i64 3)
                          have a2 := words_set' J4.out.2.2 J4.out.1.box rfl (i := 1) (.int .i64 3)
                          have b1 := words_set' a1 K1.box rfl (i := 3) (.slice (some ⟨w4.heap.size, 0, none⟩) 1 1)
                          have b2 := words_set' a2 K1.box rfl (i := 3) (.slice (some ⟨w4.heap.size, 0, none⟩) 1 1)
                          have hz : ((w4.setCell ⟨r, 1, none⟩ (.int .i64 3)).setCell ⟨r, 3, none⟩ (.slice (some ⟨w4.heap.size, 0, none⟩) 1 1)).heap.size = w4.heap.size := by rw [size_set, size_set]
                          have hb := below_alloc1 ((w4.setCell ⟨r, 1, none⟩ (.int .i64 3)).setCell ⟨r, 3, none⟩ (.slice (some ⟨w4.heap.size, 0, none⟩) 1 1)) (.cells #[.string xc] 9)
                          have hnew : (((w4.setCell ⟨r, 1, none⟩ (.int .i64 3)).setCell ⟨r, 3, none⟩ (.slice (some ⟨w4.heap.size, 0, none⟩) 1 1)).alloc (.cells #[.string xc] 9)).heap[w4.heap.size]? = some (.cells #[.string xc] 9 (0, 0)) := alloc_b hz.symm
                          refine ⟨K2.below hb, _, _, _, rfl, (b1.below hb).mono hb.size, (b2.below hb).mono hb.size, ?_⟩
                          rw [show Q.cmdsL (rC (bl s)) = [bl xc] by unfold Q.cmdsL; rw [← HX.out.2, if_neg HCn.out], List.map_cons, ba_bl]
                          exact words_one xc hnew (Array.getElem?_eq_some_iff.1 hnew).1
                        generalize ((w4.setCell ⟨r, 1, none⟩ (.int .i64 3)).setCell ⟨r, 3, none⟩ (.slice (some ⟨w4.heap.size, 0, none⟩) 1 1)).alloc (.cells #[.string xc] 9) = w5 at J5 ⊢
                        generalize w4.heap.size = q4 at J5 ⊢
                        clear d0 d1 d2 d3 d4 x1 x3 hrl
                        have b0 := cell_in J5.out.1.box 0 rfl
                        have b1 := cell_in J5.out.1.box 1 rfl
                        have b2 := cell_in J5.out.1.box 2 rfl
                        have b3 := cell_in J5.out.1.box 3 rfl
                        have b4 := cell_in J5.out.1.box 4 rfl
                        have r0 := cell_in J5.out.1.pi.r 0 rfl
                        have r1 := cell_in J5.out.1.pi.r 1 rfl
                        have r2 := cell_in J5.out.1.pi.r 2 rfl
                        have r3 := cell_in J5.out.1.pi.r 3 rfl
                        have r4 := cell_in J5.out.1.pi.r 4 rfl
                        have f0 := cell_in J5.out.1.pi.f 0 rfl
                        have f1 := cell_in J5.out.1.pi.f 1 rfl
                        have z0 : w5.frozen? ⟨w.heap.size, 0, none⟩ = false := by simp [World.frozen?, J5.out.1.pi.r]
                        have z1 : w5.frozen? ⟨w.heap.size, 1, none⟩ = false := by simp [World.frozen?, J5.out.1.pi.r]
                        have z2 : w5.frozen? ⟨w.heap.size, 2, none⟩ = false := by simp [World.frozen?, J5.out.1.pi.r]
                        have z3 : w5.frozen? ⟨w.heap.size, 3, none⟩ = false := by simp [World.frozen?, J5.out.1.pi.r]
                        have z4 : w5.frozen? ⟨w.heap.size, 4, none⟩ = false := by simp [World.frozen?, J5.out.1.pi.r]
                        have y0 : w5.frozen? ⟨w.heap.size + 1, 0, none⟩ = false := by simp [World.frozen?, J5.out.1.pi.f]
                        have y1 : w5.frozen? ⟨w.heap.size + 1, 1, none⟩ = false := by simp [World.frozen?, J5.out.1.pi.f]
                        go_wp2_with fail
                        change bodyPost Tryd.prog _ _ _ _ (out7 w5 w.heap.size (.slice ta tn tc) (.int .i64 3) (.slice sa sn sc) (.slice (some ⟨q4, 0, none⟩) 1 1) (.int .i64 at_) (.int .i64 0) (.int .i64 0))
                        have q7 := out7_heap (.slice ta tn tc) (.int .i64 3) (.slice sa sn sc) (.slice (some ⟨q4, 0, none⟩) 1 1) (.int .i64 at_) (.int .i64 0) (.int .i64 0) J5.out.1.pi.r J5.out.1.pi.f
                        have HR : Hid (Below w.heap.size w (out7 w5 w.heap.size (.slice ta tn tc) (.int .i64 3) (.slice sa sn sc) (.slice (some ⟨q4, 0, none⟩) 1 1) (.int .i64 at_) (.int .i64 0) (.int .i64 0)) ∧ RuV (out7 w5 w.heap.size (.slice ta tn tc) (.int .i64 3) (.slice sa sn sc) (.slice (some ⟨q4, 0, none⟩) 1 1) (.int .i64 at_) (.int .i64 0) (.int .i64 0)).heap.size (out7 w5 w.heap.size (.slice ta tn tc) (.int .i64 3) (.slice sa sn sc) (.slice (some ⟨q4, 0, none⟩) 1 1) (.int .i64 at_) (.int .i64 0) (.int .i64 0)) (.agg #[.slice ta tn tc, .int .i64 3, .slice sa sn sc, .slice (some ⟨q4, 0, none⟩) 1 1, .int .i64 at_]) ⟨T, 3, S, Q.cmdsL (rC (bl s)), at_⟩) :=
                          ⟨out7_below _ _ _ _ _ _ _ J5.out.1.pi, RuV.out7 _ _ _ _ _ _ _ J5.out.1.pi J5.out.2 (Nat.le_refl _)⟩
                        generalize out7 w5 w.heap.size (.slice ta tn tc) (.int .i64 3) (.slice sa sn sc) (.slice (some ⟨q4, 0, none⟩) 1 1) (.int .i64 at_) (.int .i64 0) (.int .i64 0) = w7 at q7 HR ⊢
                        have c0 := cell_in q7.1 0 rfl
                        have c1 := cell_in q7.1 1 rfl
                        have c2 := cell_in q7.1 2 rfl
                        have c3 := cell_in q7.1 3 rfl
                        have c4 := cell_in q7.1 4 rfl
                        have e0 := cell_in q7.2.1 0 rfl
                        have e1 := cell_in q7.2.1 1 rfl
                        refine bodyPost_ret (v := .tuple #[.agg #[.slice ta tn tc, .int .i64 3, .slice sa sn sc, .slice (some ⟨q4, 0, none⟩) 1 1, .int .i64 at_], .agg #[.int .i64 0, .int .i64 0]]) (by simp [results, Tryd.results8, go_sem, c0, c1, c2, c3, c4, e0, e1]; try rfl) rfl ?_
                        refine ⟨.agg #[.slice ta tn tc, .int .i64 3, .slice sa sn sc, .slice (some ⟨q4, 0, none⟩) 1 1, .int .i64 at_], ?_, ?_, HR.out.1⟩
                        · rw [HE.out.2.2, HE.out.1]; rfl
                        · rw [HE.out.2.1]; exact HR.out.2
      · have t1 : ¬ cn = 59 := by rw [HCC]; intro h; apply h59; rw [u8_eq_iff]; show c.toNat = 59; omega
        have t2 : (cn == 59) = false := by simpa using t1
        have HA1 : Hid (∀ c ∈ (bl xb).take (q + 1), c ≠ 59) := hno h59
        clear hno hat hc hcn HCC h59
        go_wp2
        go_roundw
        case rel => exact ⟨q + 1, by omega, rfl, rfl, by go_num, trivial, HA1⟩
        case measure => simp [intOf]; omega
    · have hil : ¬ (q : Int) < (xb.size : Int) := by omega
      have hA : ∀ c ∈ bl xb, c ≠ 59 := by
        have := HA.out
        rw [show q = xb.size by omega, take_all] at this; exact this
      obtain ⟨e1, e2⟩ := semi_all xb hA
      have HX : Hid (xb = ba (Q.semi [] (bl xb)).1 ∧ bl (⟨#[]⟩ : ByteArray) = rC (bl s)) := by
        refine ⟨e1.symm, ?_⟩
        unfold rC
        rw [← HQ.out.2.2.2.1, e2]; rfl
      clear hA e1 e2 HA HTr
      go_wp2_with fail
      clear hil hlt hq
      refine (HF2.out _ _ HX.out.1).mono ?_
      rintro e w3 ⟨vs, rfl, hw3, h3⟩
      obtain ⟨sa, sn, sc, rfl⟩ : ∃ a n c, vs = .slice a n c := by obtain ⟨a, n, c, h, _⟩ := hw3; exact ⟨a, n, c, h⟩
      have hsn : sn = S.length := by have := hw3.len.1; rwa [List.length_map] at this
      have HSN : Hid (sn = S.length) := hsn
      have J3 := J2.out.1.below h3
      have d2 := cell_in J3.box 2 rfl
      have g2 : w3.frozen? ⟨r, 2, none⟩ = false := by simp [World.frozen?, J3.box]
      have J4 : Hid (PJ w (w3.setCell ⟨r, 2, none⟩ (.slice sa sn sc)) r (.slice ta tn tc) (.int .i64 0) (.slice sa sn sc) (.slice none 0 0) (.int .i64 at_) ∧ Words (w3.setCell ⟨r, 2, none⟩ (.slice sa sn sc)).heap.size (w3.setCell ⟨r, 2, none⟩ (.slice sa sn sc)) (.slice ta tn tc) (T.map ba) ∧ Words (w3.setCell ⟨r, 2, none⟩ (.slice sa sn sc)).heap.size (w3.setCell ⟨r, 2, none⟩ (.slice sa sn sc)) (.slice sa sn sc) (S.map ba)) :=
        ⟨J3.set2 _, words_set' ((J2.out.2.below h3).mono h3.size) J3.box rfl _, words_set' hw3 J3.box rfl _⟩
      clear J2 J3 h3 hw3 hsn HF2
      go_upto_region 13 with fail
      clear d2 g2
      generalize w3.setCell ⟨r, 2, none⟩ (.slice sa sn sc) = w4 at J4 ⊢
      have d0 := cell_in J4.out.1.box 0 rfl
      have d1 := cell_in J4.out.1.box 1 rfl
      have d2 := cell_in J4.out.1.box 2 rfl
      have d3 := cell_in J4.out.1.box 3 rfl
      have d4 := cell_in J4.out.1.box 4 rfl
      have x1 : w4.frozen? ⟨r, 1, none⟩ = false := by simp [World.frozen?, J4.out.1.box]
      have x3 : w4.frozen? ⟨r, 3, none⟩ = false := by simp [World.frozen?, J4.out.1.box]
      have hrl : r < w4.heap.size := (Array.getElem?_eq_some_iff.1 J4.out.1.box).1
      have htl : tn ≤ 4000000 := by rw [HTN.out]; exact HQ.out.2.2.2.2.2.2.1
      have hsl : sn ≤ 4000000 := by rw [HSN.out]; exact HQ.out.2.2.2.2.2.2.2
      by_cases hk : k = 0
      · have HE : Hid (Q.whyP (bl s) = 14 ∧ Q.ruP (bl s) at_ = Q.Ru.zero ∧ Q.faultAt (bl s) at_ = at_) := by
          have e := HQ.out.2.1.symm
          rw [why_14 (.inl hk)] at e
          exact ⟨e, ru_no s at_ (by rw [e]; decide)⟩
        have hop0 : op = ⟨#[]⟩ := by rw [HQ.out.2.2.2.2.1, hk]; rfl
        rw [hop0]
        clear hk hop0
        have J5 : Hid (PJ w w4 r (.slice ta tn tc) (.int .i64 0) (.slice sa sn sc) (.slice none 0 0) (.int .i64 at_) ∧ True) := ⟨J4.out.1, trivial⟩
        have r0 := cell_in J5.out.1.pi.r 0 rfl
        have r1 := cell_in J5.out.1.pi.r 1 rfl
        have r2 := cell_in J5.out.1.pi.r 2 rfl
        have r3 := cell_in J5.out.1.pi.r 3 rfl
        have r4 := cell_in J5.out.1.pi.r 4 rfl
        have f0 := cell_in J5.out.1.pi.f 0 rfl
        have f1 := cell_in J5.out.1.pi.f 1 rfl
        have z0 : w4.frozen? ⟨w.heap.size, 0, none⟩ = false := by simp [World.frozen?, J5.out.1.pi.r]
        have z1 : w4.frozen? ⟨w.heap.size, 1, none⟩ = false := by simp [World.frozen?, J5.out.1.pi.r]
        have z2 : w4.frozen? ⟨w.heap.size, 2, none⟩ = false := by simp [World.frozen?, J5.out.1.pi.r]
        have z3 : w4.frozen? ⟨w.heap.size, 3, none⟩ = false := by simp [World.frozen?, J5.out.1.pi.r]
        have z4 : w4.frozen? ⟨w.heap.size, 4, none⟩ = false := by simp [World.frozen?, J5.out.1.pi.r]
        have y0 : w4.frozen? ⟨w.heap.size + 1, 0, none⟩ = false := by simp [World.frozen?, J5.out.1.pi.f]
        have y1 : w4.frozen? ⟨w.heap.size + 1, 1, none⟩ = false := by simp [World.frozen?, J5.out.1.pi.f]
        go_wp2_with fail
        change bodyPost Tryd.prog _ _ _ _ (out7 w4 w.heap.size (.slice none 0 0) (.int .i64 0) (.slice none 0 0) (.slice none 0 0) (.int .i64 0) (.int .i64 14) (.int .i64 at_))
        have q7 := out7_heap (.slice none 0 0) (.int .i64 0) (.slice none 0 0) (.slice none 0 0) (.int .i64 0) (.int .i64 14) (.int .i64 at_) J5.out.1.pi.r J5.out.1.pi.f
        have HR : Hid (Below w.heap.size w (out7 w4 w.heap.size (.slice none 0 0) (.int .i64 0) (.slice none 0 0) (.slice none 0 0) (.int .i64 0) (.int .i64 14) (.int .i64 at_))) := out7_below _ _ _ _ _ _ _ J5.out.1.pi
        generalize out7 w4 w.heap.size (.slice none 0 0) (.int .i64 0) (.slice none 0 0) (.slice none 0 0) (.int .i64 0) (.int .i64 14) (.int .i64 at_) = w7 at q7 HR ⊢
        have c0 := cell_in q7.1 0 rfl
        have c1 := cell_in q7.1 1 rfl
        have c2 := cell_in q7.1 2 rfl
        have c3 := cell_in q7.1 3 rfl
        have c4 := cell_in q7.1 4 rfl
        have e0 := cell_in q7.2.1 0 rfl
        have e1 := cell_in q7.2.1 1 rfl
        refine bodyPost_ret (v := .tuple #[.agg #[.slice none 0 0, .int .i64 0, .slice none 0 0, .slice none 0 0, .int .i64 0], .agg #[.int .i64 14, .int .i64 at_]]) (by simp [results, Tryd.results8, go_sem, c0, c1, c2, c3, c4, e0, e1]; try rfl) rfl ?_
        refine ⟨.agg #[.slice none 0 0, .int .i64 0, .slice none 0 0, .slice none 0 0, .int .i64 0], ?_, ?_, HR.out⟩
        · rw [HE.out.2.2, HE.out.1]; rfl
        · rw [HE.out.2.1]; exact RuV.zero _ _
      · have t0 : bl op ≠ [] := by
          rw [HQ.out.2.2.2.2.1, bl_ba]
          have := HQ.out.2.2.2.2.2.1
          have h : k = 1 ∨ k = 2 ∨ k = 3 := by omega
          rcases h with h | h | h <;> rw [h] <;> simp [opT]
        have t1 : ¬ op.toList = [] := by rw [Lib.toList_data]; exact t0
        have t2 : op.toList.isEmpty = false := nonempty t0
        clear t0
        by_cases hT0 : T = []
        · have HE : Hid (Q.whyP (bl s) = 14 ∧ Q.ruP (bl s) at_ = Q.Ru.zero ∧ Q.faultAt (bl s) at_ = at_) := by
            have e := HQ.out.2.1.symm
            rw [why_14 (.inr (.inl hT0))] at e
            exact ⟨e, ru_no s at_ (by rw [e]; decide)⟩
          have htn0 : tn = 0 := by rw [HTN.out, hT0]; rfl
          subst htn0
          clear hk hT0
          have J5 : Hid (PJ w w4 r (.slice ta 0 tc) (.int .i64 0) (.slice sa sn sc) (.slice none 0 0) (.int .i64 at_) ∧ True) := ⟨J4.out.1, trivial⟩
          have r0 := cell_in J5.out.1.pi.r 0 rfl
          have r1 := cell_in J5.out.1.pi.r 1 rfl
          have r2 := cell_in J5.out.1.pi.r 2 rfl
          have r3 := cell_in J5.out.1.pi.r 3 rfl
          have r4 := cell_in J5.out.1.pi.r 4 rfl
          have f0 := cell_in J5.out.1.pi.f 0 rfl
          have f1 := cell_in J5.out.1.pi.f 1 rfl
          have z0 : w4.frozen? ⟨w.heap.size, 0, none⟩ = false := by simp [World.frozen?, J5.out.1.pi.r]
          have z1 : w4.frozen? ⟨w.heap.size, 1, none⟩ = false := by simp [World.frozen?, J5.out.1.pi.r]
          have z2 : w4.frozen? ⟨w.heap.size, 2, none⟩ = false := by simp [World.frozen?, J5.out.1.pi.r]
          have z3 : w4.frozen? ⟨w.heap.size, 3, none⟩ = false := by simp [World.frozen?, J5.out.1.pi.r]
          have z4 : w4.frozen? ⟨w.heap.size, 4, none⟩ = false := by simp [World.frozen?, J5.out.1.pi.r]
          have y0 : w4.frozen? ⟨w.heap.size + 1, 0, none⟩ = false := by simp [World.frozen?, J5.out.1.pi.f]
          have y1 : w4.frozen? ⟨w.heap.size + 1, 1, none⟩ = false := by simp [World.frozen?, J5.out.1.pi.f]
          go_wp2_with fail
          change bodyPost Tryd.prog _ _ _ _ (out7 w4 w.heap.size (.slice none 0 0) (.int .i64 0) (.slice none 0 0) (.slice none 0 0) (.int .i64 0) (.int .i64 14) (.int .i64 at_))
          have q7 := out7_heap (.slice none 0 0) (.int .i64 0) (.slice none 0 0) (.slice none 0 0) (.int .i64 0) (.int .i64 14) (.int .i64 at_) J5.out.1.pi.r J5.out.1.pi.f
          have HR : Hid (Below w.heap.size w (out7 w4 w.heap.size (.slice none 0 0) (.int .i64 0) (.slice none 0 0) (.slice none 0 0) (.int .i64 0) (.int .i64 14) (.int .i64 at_))) := out7_below _ _ _ _ _ _ _ J5.out.1.pi
          generalize out7 w4 w.heap.size (.slice none 0 0) (.int .i64 0) (.slice none 0 0) (.slice none 0 0) (.int .i64 0) (.int .i64 14) (.int .i64 at_) = w7 at q7 HR ⊢
          have c0 := cell_in q7.1 0 rfl
          have c1 := cell_in q7.1 1 rfl
          have c2 := cell_in q7.1 2 rfl
          have c3 := cell_in q7.1 3 rfl
          have c4 := cell_in q7.1 4 rfl
          have e0 := cell_in q7.2.1 0 rfl
          have e1 := cell_in q7.2.1 1 rfl
          refine bodyPost_ret (v := .tuple #[.agg #[.slice none 0 0, .int .i64 0, .slice none 0 0, .slice none 0 0, .int .i64 0], .agg #[.int .i64 14, .int .i64 at_]]) (by simp [results, Tryd.results8, go_sem, c0, c1, c2, c3, c4, e0, e1]; try rfl) rfl ?_
          refine ⟨.agg #[.slice none 0 0, .int .i64 0, .slice none 0 0, .slice none 0 0, .int .i64 0], ?_, ?_, HR.out⟩
          · rw [HE.out.2.2, HE.out.1]; rfl
          · rw [HE.out.2.1]; exact RuV.zero _ _
        · have htn1 : ¬ (tn : Int) = 0 := by
            have h1 := List.length_pos_iff.2 hT0
            have h2 := HTN.out
            omega
          have htn2 : ((tn : Int) == 0) = false := by simpa using htn1
          cases hTa : Q.anyLong T with
          | true =>
            have HE : Hid (Q.whyP (bl s) = 14 ∧ Q.ruP (bl s) at_ = Q.Ru.zero ∧ Q.faultAt (bl s) at_ = at_) := by
              have e := HQ.out.2.1.symm
              rw [why_14 (.inr (.inr (.inl hTa)))] at e
              exact ⟨e, ru_no s at_ (by rw [e]; decide)⟩
            rw [hTa] at HNT
            clear hk hT0 hTa
            have J5 : Hid (PJ w w4 r (.slice ta tn tc) (.int .i64 0) (.slice sa sn sc) (.slice none 0 0) (.int .i64 at_) ∧ True) := ⟨J4.out.1, trivial⟩
            have r0 := cell_in J5.out.1.pi.r 0 rfl
            have r1 := cell_in J5.out.1.pi.r 1 rfl
            have r2 := cell_in J5.out.1.pi.r 2 rfl
            have r3 := cell_in J5.out.1.pi.r 3 rfl
            have r4 := cell_in J5.out.1.pi.r 4 rfl
            have f0 := cell_in J5.out.1.pi.f 0 rfl
            have f1 := cell_in J5.out.1.pi.f 1 rfl
            have z0 : w4.frozen? ⟨w.heap.size, 0, none⟩ = false := by simp [World.frozen?, J5.out.1.pi.r]
            have z1 : w4.frozen? ⟨w.heap.size, 1, none⟩ = false := by simp [World.frozen?, J5.out.1.pi.r]
            have z2 : w4.frozen? ⟨w.heap.size, 2, none⟩ = false := by simp [World.frozen?, J5.out.1.pi.r]
            have z3 : w4.frozen? ⟨w.heap.size, 3, none⟩ = false := by simp [World.frozen?, J5.out.1.pi.r]
            have z4 : w4.frozen? ⟨w.heap.size, 4, none⟩ = false := by simp [World.frozen?, J5.out.1.pi.r]
            have y0 : w4.frozen? ⟨w.heap.size + 1, 0, none⟩ = false := by simp [World.frozen?, J5.out.1.pi.f]
            have y1 : w4.frozen? ⟨w.heap.size + 1, 1, none⟩ = false := by simp [World.frozen?, J5.out.1.pi.f]
            go_wp2_with fail
            refine (HNT.out (.slice ta tn tc) w4 J4.out.2.1).mono ?_
            rintro e w' ⟨rfl, rfl⟩
            go_wp2_with fail
            change bodyPost Tryd.prog _ _ _ _ (out7 w4 w.heap.size (.slice none 0 0) (.int .i64 0) (.slice none 0 0) (.slice none 0 0) (.int .i64 0) (.int .i64 14) (.int .i64 at_))
            have q7 := out7_heap (.slice none 0 0) (.int .i64 0) (.slice none 0 0) (.slice none 0 0) (.int .i64 0) (.int .i64 14) (.int .i64 at_) J5.out.1.pi.r J5.out.1.pi.f
            have HR : Hid (Below w.heap.size w (out7 w4 w.heap.size (.slice none 0 0) (.int .i64 0) (.slice none 0 0) (.slice none 0 0) (.int .i64 0) (.int .i64 14) (.int .i64 at_))) := out7_below _ _ _ _ _ _ _ J5.out.1.pi
            generalize out7 w4 w.heap.size (.slice none 0 0) (.int .i64 0) (.slice none 0 0) (.slice none 0 0) (.int .i64 0) (.int .i64 14) (.int .i64 at_) = w7 at q7 HR ⊢
            have c0 := cell_in q7.1 0 rfl
            have c1 := cell_in q7.1 1 rfl
            have c2 := cell_in q7.1 2 rfl
            have c3 := cell_in q7.1 3 rfl
            have c4 := cell_in q7.1 4 rfl
            have e0 := cell_in q7.2.1 0 rfl
            have e1 := cell_in q7.2.1 1 rfl
            refine bodyPost_ret (v := .tuple #[.agg #[.slice none 0 0, .int .i64 0, .slice none 0 0, .slice none 0 0, .int .i64 0], .agg #[.int .i64 14, .int .i64 at_]]) (by simp [results, Tryd.results8, go_sem, c0, c1, c2, c3, c4, e0, e1]; try rfl) rfl ?_
            refine ⟨.agg #[.slice none 0 0, .int .i64 0, .slice none 0 0, .slice none 0 0, .int .i64 0], ?_, ?_, HR.out⟩
            · rw [HE.out.2.2, HE.out.1]; rfl
            · rw [HE.out.2.1]; exact RuV.zero _ _
          | false =>
            rw [hTa] at HNT
            cases hSa : Q.anyLong S with
            | true =>
              have HE : Hid (Q.whyP (bl s) = 14 ∧ Q.ruP (bl s) at_ = Q.Ru.zero ∧ Q.faultAt (bl s) at_ = at_) := by
                have e := HQ.out.2.1.symm
                rw [why_14 (.inr (.inr (.inr hSa)))] at e
                exact ⟨e, ru_no s at_ (by rw [e]; decide)⟩
              rw [hSa] at HNS
              clear hk hT0 hTa hSa
              have J5 : Hid (PJ w w4 r (.slice ta tn tc) (.int .i64 0) (.slice sa sn sc) (.slice none 0 0) (.int .i64 at_) ∧ True) := ⟨J4.out.1, trivial⟩
              have r0 := cell_in J5.out.1.pi.r 0 rfl
              have r1 := cell_in J5.out.1.pi.r 1 rfl
              have r2 := cell_in J5.out.1.pi.r 2 rfl
              have r3 := cell_in J5.out.1.pi.r 3 rfl
              have r4 := cell_in J5.out.1.pi.r 4 rfl
              have f0 := cell_in J5.out.1.pi.f 0 rfl
              have f1 := cell_in J5.out.1.pi.f 1 rfl
              have z0 : w4.frozen? ⟨w.heap.size, 0, none⟩ = false := by simp [World.frozen?, J5.out.1.pi.r]
              have z1 : w4.frozen? ⟨w.heap.size, 1, none⟩ = false := by simp [World.frozen?, J5.out.1.pi.r]
              have z2 : w4.frozen? ⟨w.heap.size, 2, none⟩ = false := by simp [World.frozen?, J5.out.1.pi.r]
              have z3 : w4.frozen? ⟨w.heap.size, 3, none⟩ = false := by simp [World.frozen?, J5.out.1.pi.r]
              have z4 : w4.frozen? ⟨w.heap.size, 4, none⟩ = false := by simp [World.frozen?, J5.out.1.pi.r]
              have y0 : w4.frozen? ⟨w.heap.size + 1, 0, none⟩ = false := by simp [World.frozen?, J5.out.1.pi.f]
              have y1 : w4.frozen? ⟨w.heap.size + 1, 1, none⟩ = false := by simp [World.frozen?, J5.out.1.pi.f]
              go_wp2_with fail
              refine (HNT.out (.slice ta tn tc) w4 J4.out.2.1).mono ?_
              rintro e w' ⟨rfl, rfl⟩
              go_wp2_with fail
              refine (HNS.out (.slice sa sn sc) w4 J4.out.2.2).mono ?_
              rintro e w' ⟨rfl, rfl⟩
              go_wp2_with fail
              change bodyPost Tryd.prog _ _ _ _ (out7 w4 w.heap.size (.slice none 0 0) (.int .i64 0) (.slice none 0 0) (.slice none 0 0) (.int .i64 0) (.int .i64 14) (.int .i64 at_))
              have q7 := out7_heap (.slice none 0 0) (.int .i64 0) (.slice none 0 0) (.slice none 0 0) (.int .i64 0) (.int .i64 14) (.int .i64 at_) J5.out.1.pi.r J5.out.1.pi.f
              have HR : Hid (Below w.heap.size w (out7 w4 w.heap.size (.slice none 0 0) (.int .i64 0) (.slice none 0 0) (.slice none 0 0) (.int .i64 0) (.int .i64 14) (.int .i64 at_))) := out7_below _ _ _ _ _ _ _ J5.out.1.pi
              generalize out7 w4 w.heap.size (.slice none 0 0) (.int .i64 0) (.slice none 0 0) (.slice none 0 0) (.int .i64 0) (.int .i64 14) (.int .i64 at_) = w7 at q7 HR ⊢
              have c0 := cell_in q7.1 0 rfl
              have c1 := cell_in q7.1 1 rfl
              have c2 := cell_in q7.1 2 rfl
              have c3 := cell_in q7.1 3 rfl
              have c4 := cell_in q7.1 4 rfl
              have e0 := cell_in q7.2.1 0 rfl
              have e1 := cell_in q7.2.1 1 rfl
              refine bodyPost_ret (v := .tuple #[.agg #[.slice none 0 0, .int .i64 0, .slice none 0 0, .slice none 0 0, .int .i64 0], .agg #[.int .i64 14, .int .i64 at_]]) (by simp [results, Tryd.results8, go_sem, c0, c1, c2, c3, c4, e0, e1]; try rfl) rfl ?_
              refine ⟨.agg #[.slice none 0 0, .int .i64 0, .slice none 0 0, .slice none 0 0, .int .i64 0], ?_, ?_, HR.out⟩
              · rw [HE.out.2.2, HE.out.1]; rfl
              · rw [HE.out.2.1]; exact RuV.zero _ _
            | false =>
              rw [hSa] at HNS
              by_cases hlT : 4096 < T.length
              · have HE : Hid (Q.whyP (bl s) = 5 ∧ Q.ruP (bl s) at_ = Q.Ru.zero ∧ Q.faultAt (bl s) at_ = at_) := by
                  have e := HQ.out.2.1.symm
                  rw [why_5 hk hT0 hTa hSa (.inl hlT)] at e
                  exact ⟨e, ru_no s at_ (by rw [e]; decide)⟩
                have hli : (4096 : Int) < (tn : Int) := by have := HTN.out; omega
                clear hk hT0 hTa hSa hlT
                have J5 : Hid (PJ w w4 r (.slice ta tn tc) (.int .i64 0) (.slice sa sn sc) (.slice none 0 0) (.int .i64 at_) ∧ True) := ⟨J4.out.1, trivial⟩
                have r0 := cell_in J5.out.1.pi.r 0 rfl
                have r1 := cell_in J5.out.1.pi.r 1 rfl
                have r2 := cell_in J5.out.1.pi.r 2 rfl
                have r3 := cell_in J5.out.1.pi.r 3 rfl
                have r4 := cell_in J5.out.1.pi.r 4 rfl
                have f0 := cell_in J5.out.1.pi.f 0 rfl
                have f1 := cell_in J5.out.1.pi.f 1 rfl
                have z0 : w4.frozen? ⟨w.heap.size, 0, none⟩ = false := by simp [World.frozen?, J5.out.1.pi.r]
                have z1 : w4.frozen? ⟨w.heap.size, 1, none⟩ = false := by simp [World.frozen?, J5.out.1.pi.r]
                have z2 : w4.frozen? ⟨w.heap.size, 2, none⟩ = false := by simp [World.frozen?, J5.out.1.pi.r]
                have z3 : w4.frozen? ⟨w.heap.size, 3, none⟩ = false := by simp [World.frozen?, J5.out.1.pi.r]
                have z4 : w4.frozen? ⟨w.heap.size, 4, none⟩ = false := by simp [World.frozen?, J5.out.1.pi.r]
                have y0 : w4.frozen? ⟨w.heap.size + 1, 0, none⟩ = false := by simp [World.frozen?, J5.out.1.pi.f]
                have y1 : w4.frozen? ⟨w.heap.size + 1, 1, none⟩ = false := by simp [World.frozen?, J5.out.1.pi.f]
                go_wp2_with fail
                refine (HNT.out (.slice ta tn tc) w4 J4.out.2.1).mono ?_
                rintro e w' ⟨rfl, rfl⟩
                go_wp2_with fail
                refine (HNS.out (.slice sa sn sc) w4 J4.out.2.2).mono ?_
                rintro e w' ⟨rfl, rfl⟩
                go_wp2_with fail
                change bodyPost Tryd.prog _ _ _ _ (out7 w4 w.heap.size (.slice none 0 0) (.int .i64 0) (.slice none 0 0) (.slice none 0 0) (.int .i64 0) (.int .i64 5) (.int .i64 at_))
                have q7 := out7_heap (.slice none 0 0) (.int .i64 0) (.slice none 0 0) (.slice none 0 0) (.int .i64 0) (.int .i64 5) (.int .i64 at_) J5.out.1.pi.r J5.out.1.pi.f
                have HR : Hid (Below w.heap.size w (out7 w4 w.heap.size (.slice none 0 0) (.int .i64 0) (.slice none 0 0) (.slice none 0 0) (.int .i64 0) (.int .i64 5) (.int .i64 at_))) := out7_below _ _ _ _ _ _ _ J5.out.1.pi
                generalize out7 w4 w.heap.size (.slice none 0 0) (.int .i64 0) (.slice none 0 0) (.slice none 0 0) (.int .i64 0) (.int .i64 5) (.int .i64 at_) = w7 at q7 HR ⊢
                have c0 := cell_in q7.1 0 rfl
                have c1 := cell_in q7.1 1 rfl
                have c2 := cell_in q7.1 2 rfl
                have c3 := cell_in q7.1 3 rfl
                have c4 := cell_in q7.1 4 rfl
                have e0 := cell_in q7.2.1 0 rfl
                have e1 := cell_in q7.2.1 1 rfl
                refine bodyPost_ret (v := .tuple #[.agg #[.slice none 0 0, .int .i64 0, .slice none 0 0, .slice none 0 0, .int .i64 0], .agg #[.int .i64 5, .int .i64 at_]]) (by simp [results, Tryd.results8, go_sem, c0, c1, c2, c3, c4, e0, e1]; try rfl) rfl ?_
                refine ⟨.agg #[.slice none 0 0, .int .i64 0, .slice none 0 0, .slice none 0 0, .int .i64 0], ?_, ?_, HR.out⟩
                · rw [HE.out.2.2, HE.out.1]; rfl
                · rw [HE.out.2.1]; exact RuV.zero _ _
              · have hli : ¬ (4096 : Int) < (tn : Int) := by have := HTN.out; omega
                by_cases hlS : 4096 < S.length
                · have HE : Hid (Q.whyP (bl s) = 5 ∧ Q.ruP (bl s) at_ = Q.Ru.zero ∧ Q.faultAt (bl s) at_ = at_) := by
                    have e := HQ.out.2.1.symm
                    rw [why_5 hk hT0 hTa hSa (.inr hlS)] at e
                    exact ⟨e, ru_no s at_ (by rw [e]; decide)⟩
                  have hli2 : (4096 : Int) < (sn : Int) := by have := HSN.out; omega
                  clear hk hT0 hTa hSa hlT hlS
                  have J5 : Hid (PJ w w4 r (.slice ta tn tc) (.int .i64 0) (.slice sa sn sc) (.slice none 0 0) (.int .i64 at_) ∧ True) := ⟨J4.out.1, trivial⟩
                  have r0 := cell_in J5.out.1.pi.r 0 rfl
                  have r1 := cell_in J5.out.1.pi.r 1 rfl
                  have r2 := cell_in J5.out.1.pi.r 2 rfl
                  have r3 := cell_in J5.out.1.pi.r 3 rfl
                  have r4 := cell_in J5.out.1.pi.r 4 rfl
                  have f0 := cell_in J5.out.1.pi.f 0 rfl
                  have f1 := cell_in J5.out.1.pi.f 1 rfl
                  have z0 : w4.frozen? ⟨w.heap.size, 0, none⟩ = false := by simp [World.frozen?, J5.out.1.pi.r]
                  have z1 : w4.frozen? ⟨w.heap.size, 1, none⟩ = false := by simp [World.frozen?, J5.out.1.pi.r]
                  have z2 : w4.frozen? ⟨w.heap.size, 2, none⟩ = false := by simp [World.frozen?, J5.out.1.pi.r]
                  have z3 : w4.frozen? ⟨w.heap.size, 3, none⟩ = false := by simp [World.frozen?, J5.out.1.pi.r]
                  have z4 : w4.frozen? ⟨w.heap.size, 4, none⟩ = false := by simp [World.frozen?, J5.out.1.pi.r]
                  have y0 : w4.frozen? ⟨w.heap.size + 1, 0, none⟩ = false := by simp [World.frozen?, J5.out.1.pi.f]
                  have y1 : w4.frozen? ⟨w.heap.size + 1, 1, none⟩ = false := by simp [World.frozen?, J5.out.1.pi.f]
                  go_wp2_with fail
                  refine (HNT.out (.slice ta tn tc) w4 J4.out.2.1).mono ?_
                  rintro e w' ⟨rfl, rfl⟩
                  go_wp2_with fail
                  refine (HNS.out (.slice sa sn sc) w4 J4.out.2.2).mono ?_
                  rintro e w' ⟨rfl, rfl⟩
                  go_wp2_with fail
                  change bodyPost Tryd.prog _ _ _ _ (out7 w4 w.heap.size (.slice none 0 0) (.int .i64 0) (.slice none 0 0) (.slice none 0 0) (.int .i64 0) (.int .i64 5) (.int .i64 at_))
                  have q7 := out7_heap (.slice none 0 0) (.int .i64 0) (.slice none 0 0) (.slice none 0 0) (.int .i64 0) (.int .i64 5) (.int .i64 at_) J5.out.1.pi.r J5.out.1.pi.f
                  have HR : Hid (Below w.heap.size w (out7 w4 w.heap.size (.slice none 0 0) (.int .i64 0) (.slice none 0 0) (.slice none 0 0) (.int .i64 0) (.int .i64 5) (.int .i64 at_))) := out7_below _ _ _ _ _ _ _ J5.out.1.pi
                  generalize out7 w4 w.heap.size (.slice none 0 0) (.int .i64 0) (.slice none 0 0) (.slice none 0 0) (.int .i64 0) (.int .i64 5) (.int .i64 at_) = w7 at q7 HR ⊢
                  have c0 := cell_in q7.1 0 rfl
                  have c1 := cell_in q7.1 1 rfl
                  have c2 := cell_in q7.1 2 rfl
                  have c3 := cell_in q7.1 3 rfl
                  have c4 := cell_in q7.1 4 rfl
                  have e0 := cell_in q7.2.1 0 rfl
                  have e1 := cell_in q7.2.1 1 rfl
                  refine bodyPost_ret (v := .tuple #[.agg #[.slice none 0 0, .int .i64 0, .slice none 0 0, .slice none 0 0, .int .i64 0], .agg #[.int .i64 5, .int .i64 at_]]) (by simp [results, Tryd.results8, go_sem, c0, c1, c2, c3, c4, e0, e1]; try rfl) rfl ?_
                  refine ⟨.agg #[.slice none 0 0, .int .i64 0, .slice none 0 0, .slice none 0 0, .int .i64 0], ?_, ?_, HR.out⟩
                  · rw [HE.out.2.2, HE.out.1]; rfl
                  · rw [HE.out.2.1]; exact RuV.zero _ _
                · have hli2 : ¬ (4096 : Int) < (sn : Int) := by have := HSN.out; omega
                  have HCe : Hid (rC (bl s) = []) := by unfold Hid; rw [← HX.out.2]; rfl
                  have h123 : k = 1 ∨ k = 2 ∨ k = 3 := by have := HQ.out.2.2.2.2.2.1; omega
                  rcases h123 with hk1 | hk1 | hk1
                  · have hkk : k = 1 := hk1
                    have hopl : op = ⟨#[58]⟩ := by rw [HQ.out.2.2.2.2.1, hkk]; rfl
                    have HE : Hid (Q.whyP (bl s) = 0 ∧ Q.ruP (bl s) at_ = ⟨T, 1, S, Q.cmdsL (rC (bl s)), at_⟩ ∧ Q.faultAt (bl s) at_ = 0) := by
                      have e := HQ.out.2.1.symm
                      rw [why_0 hk hT0 hTa hSa hlT hlS] at e
                      obtain ⟨h1, h2⟩ := ru_yes s at_ e
                      obtain ⟨g1, g2, g3⟩ := HQ.out.2.2.1 hk
                      refine ⟨e, ?_, h2⟩
                      rw [h1, g1, g2, g3, ← HQ.out.1, hkk]; rfl
                    clear hk1 hk hT0 hTa hSa hlT hlS t1 t2
                    rw [hopl]
                    clear hopl hkk
                    go_wp2_with fail
                    refine (HNT.out (.slice ta tn tc) w4 J4.out.2.1).mono ?_
                    rintro e w' ⟨rfl, rfl⟩
                    go_wp2_with fail
                    refine (HNS.out (.slice sa sn sc) w4 J4.out.2.2).mono ?_
                    rintro e w' ⟨rfl, rfl⟩
                    go_upto_region 25 with fail
                    have J5 : Hid (PJ w (w4.setCell ⟨r, 1, none⟩ (.int .i64 1)) r (.slice ta tn tc) (.int .i64 1) (.slice sa sn sc) (.slice none 0 0) (.int .i64 at_) ∧ RuV (w4.setCell ⟨r, 1, none⟩ (.int .i64 1)).heap.size (w4.setCell ⟨r, 1, none⟩ (.int .i64 1)) (.agg #[.slice ta tn tc, .int .i64 1, .slice sa sn sc, .slice none 0 0, .int .i64 at_]) ⟨T, 1, S, Q.cmdsL (rC (bl s)), at_⟩) :=
                      ⟨J4.out.1.set1 _, _, _, _, rfl, words_set' J4.out.2.1 J4.out.1.box rfl _, words_set' J4.out.2.2 J4.out.1.box rfl _, by rw [show Q.cmdsL (rC (bl s)) = [] from if_pos HCe.out]; exact words_nil _ _⟩
                    generalize w4.setCell ⟨r, 1, none⟩ (.int .i64 1) = w5 at J5 ⊢
                    clear d0 d1 d2 d3 d4 x1 x3 hrl
                    have b0 := cell_in J5.out.1.box 0 rfl
                    have b1 := cell_in J5.out.1.box 1 rfl
                    have b2 := cell_in J5.out.1.box 2 rfl
                    have b3 := cell_in J5.out.1.box 3 rfl
                    have b4 := cell_in J5.out.1.box 4 rfl
                    have r0 := cell_in J5.out.1.pi.r 0 rfl
                    have r1 := cell_in J5.out.1.pi.r 1 rfl
                    have r2 := cell_in J5.out.1.pi.r 2 rfl
                    have r3 := cell_in J5.out.1.pi.r 3 rfl
                    have r4 := cell_in J5.out.1.pi.r 4 rfl
                    have f0 := cell_in J5.out.1.pi.f 0 rfl
                    have f1 := cell_in J5.out.1.pi.f 1 rfl
                    have z0 : w5.frozen? ⟨w.heap.size, 0, none⟩ = false := by simp [World.frozen?, J5.out.1.pi.r]
                    have z1 : w5.frozen? ⟨w.heap.size, 1, none⟩ = false := by simp [World.frozen?, J5.out.1.pi.r]
                    have z2 : w5.frozen? ⟨w.heap.size, 2, none⟩ = false := by simp [World.frozen?, J5.out.1.pi.r]
                    have z3 : w5.frozen? ⟨w.heap.size, 3, none⟩ = false := by simp [World.frozen?, J5.out.1.pi.r]
                    have z4 : w5.frozen? ⟨w.heap.size, 4, none⟩ = false := by simp [World.frozen?, J5.out.1.pi.r]
                    have y0 : w5.frozen? ⟨w.heap.size + 1, 0, none⟩ = false := by simp [World.frozen?, J5.out.1.pi.f]
                    have y1 : w5.frozen? ⟨w.heap.size + 1, 1, none⟩ = false := by simp [World.frozen?, J5.out.1.pi.f]
                    go_wp2_with fail
                    change bodyPost Tryd.prog _ _ _ _ (out7 w5 w.heap.size (.slice ta tn tc) (.int .i64 1) (.slice sa sn sc) (.slice none 0 0) (.int .i64 at_) (.int .i64 0) (.int .i64 0))
                    have q7 := out7_heap (.slice ta tn tc) (.int .i64 1) (.slice sa sn sc) (.slice none 0 0) (.int .i64 at_) (.int .i64 0) (.int .i64 0) J5.out.1.pi.r J5.out.1.pi.f
                    have HR : Hid (Below w.heap.size w (out7 w5 w.heap.size (.slice ta tn tc) (.int .i64 1) (.slice sa sn sc) (.slice none 0 0) (.int .i64 at_) (.int .i64 0) (.int .i64 0)) ∧ RuV (out7 w5 w.heap.size (.slice ta tn tc) (.int .i64 1) (.slice sa sn sc) (.slice none 0 0) (.int .i64 at_) (.int .i64 0) (.int .i64 0)).heap.size (out7 w5 w.heap.size (.slice ta tn tc) (.int .i64 1) (.slice sa sn sc) (.slice none 0 0) (.int .i64 at_) (.int .i64 0) (.int .i64 0)) (.agg #[.slice ta tn tc, .int .i64 1, .slice sa sn sc, .slice none 0 0, .int .i64 at_]) ⟨T, 1, S, Q.cmdsL (rC (bl s)), at_⟩) :=
                      ⟨out7_below _ _ _ _ _ _ _ J5.out.1.pi, RuV.out7 _ _ _ _ _ _ _ J5.out.1.pi J5.out.2 (Nat.le_refl _)⟩
                    generalize out7 w5 w.heap.size (.slice ta tn tc) (.int .i64 1) (.slice sa sn sc) (.slice none 0 0) (.int .i64 at_) (.int .i64 0) (.int .i64 0) = w7 at q7 HR ⊢
                    have c0 := cell_in q7.1 0 rfl
                    have c1 := cell_in q7.1 1 rfl
                    have c2 := cell_in q7.1 2 rfl
                    have c3 := cell_in q7.1 3 rfl
                    have c4 := cell_in q7.1 4 rfl
                    have e0 := cell_in q7.2.1 0 rfl
                    have e1 := cell_in q7.2.1 1 rfl
                    refine bodyPost_ret (v := .tuple #[.agg #[.slice ta tn tc, .int .i64 1, .slice sa sn sc, .slice none 0 0, .int .i64 at_], .agg #[.int .i64 0, .int .i64 0]]) (by simp [results, Tryd.results8, go_sem, c0, c1, c2, c3, c4, e0, e1]; try rfl) rfl ?_
                    refine ⟨.agg #[.slice ta tn tc, .int .i64 1, .slice sa sn sc, .slice none 0 0, .int .i64 at_], ?_, ?_, HR.out.1⟩
                    · rw [HE.out.2.2, HE.out.1]; rfl
                    · rw [HE.out.2.1]; exact HR.out.2
                  · have hkk : k = 2 := hk1
                    have hopl : op = ⟨#[33]⟩ := by rw [HQ.out.2.2.2.2.1, hkk]; rfl
                    have HE : Hid (Q.whyP (bl s) = 0 ∧ Q.ruP (bl s) at_ = ⟨T, 2, S, Q.cmdsL (rC (bl s)), at_⟩ ∧ Q.faultAt (bl s) at_ = 0) := by
                      have e := HQ.out.2.1.symm
                      rw [why_0 hk hT0 hTa hSa hlT hlS] at e
                      obtain ⟨h1, h2⟩ := ru_yes s at_ e
                      obtain ⟨g1, g2, g3⟩ := HQ.out.2.2.1 hk
                      refine ⟨e, ?_, h2⟩
                      rw [h1, g1, g2, g3, ← HQ.out.1, hkk]; rfl
                    clear hk1 hk hT0 hTa hSa hlT hlS t1 t2
                    rw [hopl]
                    clear hopl hkk
                    go_wp2_with fail
                    refine (HNT.out (.slice ta tn tc) w4 J4.out.2.1).mono ?_
                    rintro e w' ⟨rfl, rfl⟩
                    go_wp2_with fail
                    refine (HNS.out (.slice sa sn sc) w4 J4.out.2.2).mono ?_
                    rintro e w' ⟨rfl, rfl⟩
                    go_upto_region 25 with fail
                    have J5 : Hid (PJ w (w4.setCell ⟨r, 1, none⟩ (.int .i64 2)) r (.slice ta tn tc) (.int .i64 2) (.slice sa sn sc) (.slice none 0 0) (.int .i64 at_) ∧ RuV (w4.setCell ⟨r, 1, none⟩ (.int .i64 2)).heap.size (w4.setCell ⟨r, 1, none⟩ (.int .i64 2)) (.agg #[.slice ta tn tc, .int .i64 2, .slice sa sn sc, .slice none 0 0, .int .i64 at_]) ⟨T, 2, S, Q.cmdsL (rC (bl s)), at_⟩) :=
                      ⟨J4.out.1.set1 _, _, _, _, rfl, words_set' J4.out.2.1 J4.out.1.box rfl _, words_set' J4.out.2.2 J4.out.1.box rfl _, by rw [show Q.cmdsL (rC (bl s)) = [] from if_pos HCe.out]; exact words_nil _ _⟩
                    generalize w4.setCell ⟨r, 1, none⟩ (.int .i64 2) = w5 at J5 ⊢
                    clear d0 d1 d2 d3 d4 x1 x3 hrl
                    have b0 := cell_in J5.out.1.box 0 rfl
                    have b1 := cell_in J5.out.1.box 1 rfl
                    have b2 := cell_in J5.out.1.box 2 rfl
                    have b3 := cell_in J5.out.1.box 3 rfl
                    have b4 := cell_in J5.out.1.box 4 rfl
                    have r0 := cell_in J5.out.1.pi.r 0 rfl
                    have r1 := cell_in J5.out.1.pi.r 1 rfl
                    have r2 := cell_in J5.out.1.pi.r 2 rfl
                    have r3 := cell_in J5.out.1.pi.r 3 rfl
                    have r4 := cell_in J5.out.1.pi.r 4 rfl
                    have f0 := cell_in J5.out.1.pi.f 0 rfl
                    have f1 := cell_in J5.out.1.pi.f 1 rfl
                    have z0 : w5.frozen? ⟨w.heap.size, 0, none⟩ = false := by simp [World.frozen?, J5.out.1.pi.r]
                    have z1 : w5.frozen? ⟨w.heap.size, 1, none⟩ = false := by simp [World.frozen?, J5.out.1.pi.r]
                    have z2 : w5.frozen? ⟨w.heap.size, 2, none⟩ = false := by simp [World.frozen?, J5.out.1.pi.r]
                    have z3 : w5.frozen? ⟨w.heap.size, 3, none⟩ = false := by simp [World.frozen?, J5.out.1.pi.r]
                    have z4 : w5.frozen? ⟨w.heap.size, 4, none⟩ = false := by simp [World.frozen?, J5.out.1.pi.r]
                    have y0 : w5.frozen? ⟨w.heap.size + 1, 0, none⟩ = false := by simp [World.frozen?, J5.out.1.pi.f]
                    have y1 : w5.frozen? ⟨w.heap.size + 1, 1, none⟩ = false := by simp [World.frozen?, J5.out.1.pi.f]
                    go_wp2_with fail
                    change bodyPost Tryd.prog _ _ _ _ (out7 w5 w.heap.size (.slice ta tn tc) (.int .i64 2) (.slice sa sn sc) (.slice none 0 0) (.int .i64 at_) (.int .i64 0) (.int .i64 0))
                    have q7 := out7_heap (.slice ta tn tc) (.int .i64 2) (.slice sa sn sc) (.slice none 0 0) (.int .i64 at_) (.int .i64 0) (.int .i64 0) J5.out.1.pi.r J5.out.1.pi.f
                    have HR : Hid (Below w.heap.size w (out7 w5 w.heap.size (.slice ta tn tc) (.int .i64 2) (.slice sa sn sc) (.slice none 0 0) (.int .i64 at_) (.int .i64 0) (.int .i64 0)) ∧ RuV (out7 w5 w.heap.size (.slice ta tn tc) (.int .i64 2) (.slice sa sn sc) (.slice none 0 0) (.int .i64 at_) (.int .i64 0) (.int .i64 0)).heap.size (out7 w5 w.heap.size (.slice ta tn tc) (.int .i64 2) (.slice sa sn sc) (.slice none 0 0) (.int .i64 at_) (.int .i64 0) (.int .i64 0)) (.agg #[.slice ta tn tc, .int .i64 2, .slice sa sn sc, .slice none 0 0, .int .i64 at_]) ⟨T, 2, S, Q.cmdsL (rC (bl s)), at_⟩) :=
                      ⟨out7_below _ _ _ _ _ _ _ J5.out.1.pi, RuV.out7 _ _ _ _ _ _ _ J5.out.1.pi J5.out.2 (Nat.le_refl _)⟩
                    generalize out7 w5 w.heap.size (.slice ta tn tc) (.int .i64 2) (.slice sa sn sc) (.slice none 0 0) (.int .i64 at_) (.int .i64 0) (.int .i64 0) = w7 at q7 HR ⊢
                    have c0 := cell_in q7.1 0 rfl
                    have c1 := cell_in q7.1 1 rfl
                    have c2 := cell_in q7.1 2 rfl
                    have c3 := cell_in q7.1 3 rfl
                    have c4 := cell_in q7.1 4 rfl
                    have e0 := cell_in q7.2.1 0 rfl
                    have e1 := cell_in q7.2.1 1 rfl
                    refine bodyPost_ret (v := .tuple #[.agg #[.slice ta tn tc, .int .i64 2, .slice sa sn sc, .slice none 0 0, .int .i64 at_], .agg #[.int .i64 0, .int .i64 0]]) (by simp [results, Tryd.results8, go_sem, c0, c1, c2, c3, c4, e0, e1]; try rfl) rfl ?_
                    refine ⟨.agg #[.slice ta tn tc, .int .i64 2, .slice sa sn sc, .slice none 0 0, .int .i64 at_], ?_, ?_, HR.out.1⟩
                    · rw [HE.out.2.2, HE.out.1]; rfl
                    · rw [HE.out.2.1]; exact HR.out.2
                  · have hkk : k = 3 := hk1
                    have hopl : op = ⟨#[58, 58]⟩ := by rw [HQ.out.2.2.2.2.1, hkk]; rfl
                    have HE : Hid (Q.whyP (bl s) = 0 ∧ Q.ruP (bl s) at_ = ⟨T, 3, S, Q.cmdsL (rC (bl s)), at_⟩ ∧ Q.faultAt (bl s) at_ = 0) := by
                      have e := HQ.out.2.1.symm
                      rw [why_0 hk hT0 hTa hSa hlT hlS] at e
                      obtain ⟨h1, h2⟩ := ru_yes s at_ e
                      obtain ⟨g1, g2, g3⟩ := HQ.out.2.2.1 hk
                      refine ⟨e, ?_, h2⟩
                      rw [h1, g1, g2, g3, ← HQ.out.1, hkk]; rfl
                    clear hk1 hk hT0 hTa hSa hlT hlS t1 t2
                    rw [hopl]
                    clear hopl hkk
                    go_wp2_with fail
                    refine (HNT.out (.slice ta tn tc) w4 J4.out.2.1).mono ?_
                    rintro e w' ⟨rfl, rfl⟩
                    go_wp2_with fail
                    refine (HNS.out (.slice sa sn sc) w4 J4.out.2.2).mono ?_
                    rintro e w' ⟨rfl, rfl⟩
                    go_upto_region 25 with fail
                    have J5 : Hid (PJ w (w4.setCell ⟨r, 1, none⟩ (.int .i64 3)) r (.slice ta tn tc) (.int .i64 3) (.slice sa sn sc) (.slice none 0 0) (.int .i64 at_) ∧ RuV (w4.setCell ⟨r, 1, none⟩ (.int .i64 3)).heap.size (w4.setCell ⟨r, 1, none⟩ (.int .i64 3)) (.agg #[.slice ta tn tc, .int .i64 3, .slice sa sn sc, .slice none 0 0, .int .i64 at_]) ⟨T, 3, S, Q.cmdsL (rC (bl s)), at_⟩) :=
                      ⟨J4.out.1.set1 _, _, _, _, rfl, words_set' J4.out.2.1 J4.out.1.box rfl _, words_set' J4.out.2.2 J4.out.1.box rfl _, by rw [show Q.cmdsL (rC (bl s)) = [] from if_pos HCe.out]; exact words_nil _ _⟩
                    generalize w4.setCell ⟨r, 1, none⟩ (.int .i64 3) = w5 at J5 ⊢
                    clear d0 d1 d2 d3 d4 x1 x3 hrl
                    have b0 := cell_in J5.out.1.box 0 rfl
                    have b1 := cell_in J5.out.1.box 1 rfl
                    have b2 := cell_in J5.out.1.box 2 rfl
                    have b3 := cell_in J5.out.1.box 3 rfl
                    have b4 := cell_in J5.out.1.box 4 rfl
                    have r0 := cell_in J5.out.1.pi.r 0 rfl
                    have r1 := cell_in J5.out.1.pi.r 1 rfl
                    have r2 := cell_in J5.out.1.pi.r 2 rfl
                    have r3 := cell_in J5.out.1.pi.r 3 rfl
                    have r4 := cell_in J5.out.1.pi.r 4 rfl
                    have f0 := cell_in J5.out.1.pi.f 0 rfl
                    have f1 := cell_in J5.out.1.pi.f 1 rfl
                    have z0 : w5.frozen? ⟨w.heap.size, 0, none⟩ = false := by simp [World.frozen?, J5.out.1.pi.r]
                    have z1 : w5.frozen? ⟨w.heap.size, 1, none⟩ = false := by simp [World.frozen?, J5.out.1.pi.r]
                    have z2 : w5.frozen? ⟨w.heap.size, 2, none⟩ = false := by simp [World.frozen?, J5.out.1.pi.r]
                    have z3 : w5.frozen? ⟨w.heap.size, 3, none⟩ = false := by simp [World.frozen?, J5.out.1.pi.r]
                    have z4 : w5.frozen? ⟨w.heap.size, 4, none⟩ = false := by simp [World.frozen?, J5.out.1.pi.r]
                    have y0 : w5.frozen? ⟨w.heap.size + 1, 0, none⟩ = false := by simp [World.frozen?, J5.out.1.pi.f]
                    have y1 : w5.frozen? ⟨w.heap.size + 1, 1, none⟩ = false := by simp [World.frozen?, J5.out.1.pi.f]
                    go_wp2_with fail
                    change bodyPost Tryd.prog _ _ _ _ (out7 w5 w.heap.size (.slice ta tn tc) (.int .i64 3) (.slice sa sn sc) (.slice none 0 0) (.int .i64 at_) (.int .i64 0) (.int .i64 0))
                    have q7 := out7_heap (.slice ta tn tc) (.int .i64 3) (.slice sa sn sc) (.slice none 0 0) (.int .i64 at_) (.int .i64 0) (.int .i64 0) J5.out.1.pi.r J5.out.1.pi.f
                    have HR : Hid (Below w.heap.size w (out7 w5 w.heap.size (.slice ta tn tc) (.int .i64 3) (.slice sa sn sc) (.slice none 0 0) (.int .i64 at_) (.int .i64 0) (.int .i64 0)) ∧ RuV (out7 w5 w.heap.size (.slice ta tn tc) (.int .i64 3) (.slice sa sn sc) (.slice none 0 0) (.int .i64 at_) (.int .i64 0) (.int .i64 0)).heap.size (out7 w5 w.heap.size (.slice ta tn tc) (.int .i64 3) (.slice sa sn sc) (.slice none 0 0) (.int .i64 at_) (.int .i64 0) (.int .i64 0)) (.agg #[.slice ta tn tc, .int .i64 3, .slice sa sn sc, .slice none 0 0, .int .i64 at_]) ⟨T, 3, S, Q.cmdsL (rC (bl s)), at_⟩) :=
                      ⟨out7_below _ _ _ _ _ _ _ J5.out.1.pi, RuV.out7 _ _ _ _ _ _ _ J5.out.1.pi J5.out.2 (Nat.le_refl _)⟩
                    generalize out7 w5 w.heap.size (.slice ta tn tc) (.int .i64 3) (.slice sa sn sc) (.slice none 0 0) (.int .i64 at_) (.int .i64 0) (.int .i64 0) = w7 at q7 HR ⊢
                    have c0 := cell_in q7.1 0 rfl
                    have c1 := cell_in q7.1 1 rfl
                    have c2 := cell_in q7.1 2 rfl
                    have c3 := cell_in q7.1 3 rfl
                    have c4 := cell_in q7.1 4 rfl
                    have e0 := cell_in q7.2.1 0 rfl
                    have e1 := cell_in q7.2.1 1 rfl
                    refine bodyPost_ret (v := .tuple #[.agg #[.slice ta tn tc, .int .i64 3, .slice sa sn sc, .slice none 0 0, .int .i64 at_], .agg #[.int .i64 0, .int .i64 0]]) (by simp [results, Tryd.results8, go_sem, c0, c1, c2, c3, c4, e0, e1]; try rfl) rfl ?_
                    refine ⟨.agg #[.slice ta tn tc, .int .i64 3, .slice sa sn sc, .slice none 0 0, .int .i64 at_], ?_, ?_, HR.out.1⟩
                    · rw [HE.out.2.2, HE.out.1]; rfl
                    · rw [HE.out.2.1]; exact HR.out.2
end Go.Proofs.YtbgnmchnfaknkaaDoor
