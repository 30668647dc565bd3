/-
  A use is found wherever a text begins with it; what the document binds, and whether lines are the same.
-/
import Derived.Test.YtllpbehhbpefjaaDoorBN2
import Derived.Test.YtllpbehhbpefjaaDoorBA
import Derived.Test.YtllpbehhbpefjaaDoorY4
namespace Go.Proofs.YtllpbehhbpefjaaDoor
open Go.RowKit Go.Shelf
open Ex (useN bodyF endN clo)

theorem body_app : ∀ (n : Nat) (o c : UInt8) (d : Nat) (t r : List UInt8) (k m : Nat), bodyF n o c d t = some k → n ≤ m → bodyF m o c d (t ++ r) = some k := by
  intro n
  induction n with
  | zero => intro o c d t r k m h _; simp [bodyF] at h
  | succ n ih =>
    intro o c d t r k m h hm
    obtain ⟨m, rfl⟩ : ∃ m', m = m' + 1 := ⟨m - 1, by omega⟩
    cases t with
    | nil => simp [bodyF] at h
    | cons x t =>
      rw [List.cons_append]
      unfold bodyF at h ⊢
      dsimp only at h ⊢
      by_cases hx : x = 36
      · rw [if_pos hx] at h ⊢
        cases t with
        | nil => simp at h
        | cons y r2 =>
          rw [List.cons_append]
          dsimp only at h ⊢
          by_cases hy : clo y = 0
          · rw [if_pos hy] at h ⊢
            obtain ⟨j, hj, rfl⟩ := Option.map_eq_some_iff.1 h
            rw [ih o c d r2 r j m hj (by omega)]; rfl
          · rw [if_neg hy] at h ⊢
            cases hb : bodyF n y (clo y) 0 r2 with
            | none => rw [hb] at h; simp at h
            | some j =>
              rw [hb] at h
              rw [ih y (clo y) 0 r2 r j m hb (by omega)]
              dsimp only at h ⊢
              have hj := (Ex.body_le n y (clo y) 0 r2 j hb).2
              rw [List.drop_append_of_le_length hj]
              obtain ⟨q, hq, rfl⟩ := Option.map_eq_some_iff.1 h
              rw [ih o c d (r2.drop j) r q m hq (by omega)]; rfl
      · rw [if_neg hx] at h ⊢
        by_cases h1 : x = o
        · simp only [h1, if_true] at h ⊢
          obtain ⟨q, hq, rfl⟩ := Option.map_eq_some_iff.1 h
          rw [ih _ _ _ t r q m hq (by omega)]; rfl
        · simp only [h1, if_false] at h ⊢
          by_cases h2 : x = c
          · simp only [h2, if_true] at h ⊢
            by_cases h3 : d = 0
            · simp only [h3, if_true] at h ⊢; exact h
            · simp only [h3, if_false] at h ⊢
              obtain ⟨q, hq, rfl⟩ := Option.map_eq_some_iff.1 h
              rw [ih _ _ _ t r q m hq (by omega)]; rfl
          · simp only [h2, if_false] at h ⊢
            obtain ⟨q, hq, rfl⟩ := Option.map_eq_some_iff.1 h
            rw [ih _ _ _ t r q m hq (by omega)]; rfl
end Go.Proofs.YtllpbehhbpefjaaDoor
namespace Go.Proofs.YtllpbehhbpefjaaDoor
open Go.RowKit Go.Shelf
open Ex (useN bodyF endN clo)

theorem end_app {t : List UInt8} {k : Nat} (h : endN t = some k) (h2 : 2 ≤ t.length) (r : List UInt8) : endN (t ++ r) = some k := by
  match t, h2 with
  | x :: y :: r0, _ =>
    rw [List.cons_append, List.cons_append]
    unfold endN at h ⊢
    dsimp only at h ⊢
    split
    · rename_i hc; rw [if_pos hc] at h; exact h
    · rename_i hc
      rw [if_neg hc] at h
      obtain ⟨q, hq, rfl⟩ := Option.map_eq_some_iff.1 h
      rw [body_app _ _ _ _ _ r q (r0 ++ r).length hq (by simp)]; rfl
theorem start_mem {s : List UInt8} : ∀ {U : List ByteArray}, startN U s ≠ 0 → ∃ u ∈ U, (bl u).isPrefixOf s = true ∧ u.size = startN U s
  | [], h => absurd rfl h
  | u :: U, h => by
    rw [startN] at h ⊢
    by_cases hp : (bl u).isPrefixOf s = true
    · rw [if_pos hp]; exact ⟨u, by simp, hp, rfl⟩
    · rw [if_neg hp] at h ⊢
      obtain ⟨v, h1, h2, h3⟩ := start_mem h
      exact ⟨v, by simp [h1], h2, h3⟩
theorem start_is {s : List UInt8} {m : Nat} : ∀ {U : List ByteArray}, (∃ u ∈ U, (bl u).isPrefixOf s = true) → (∀ u ∈ U, (bl u).isPrefixOf s = true → u.size = m) → startN U s = m
  | [], h, _ => by obtain ⟨u, h, _⟩ := h; cases h
  | v :: U, h, hm => by
    rw [startN]
    by_cases hp : (bl v).isPrefixOf s = true
    · rw [if_pos hp]; exact hm v (by simp) hp
    · rw [if_neg hp]
      obtain ⟨u, h1, h2⟩ := h
      rcases List.mem_cons.1 h1 with rfl | h1
      · exact absurd h2 hp
      · exact start_is ⟨u, h1, h2⟩ (fun u hu => hm u (by simp [hu]))
/-- The texts that a name's uses may be. -/
def Cand (name c : ByteArray) : Prop := c = useA name ∨ c = useB name ∨ (c = useC name ∧ name.size = 1 ∧ ¬ name = kDol)
theorem mem_takeU {c u : ByteArray} {U : List ByteArray} : u ∈ takeU c U ↔ u ∈ U ∨ (u = c ∧ useN (bl c) = c.size) := by
  unfold takeU
  split
  · rename_i h; simp [h]
  · rename_i h; simp [h]
theorem mem_usesB {name u : ByteArray} : u ∈ usesB name ↔ Cand name u ∧ useN (bl u) = u.size := by
  unfold usesB Cand
  split
  · rename_i h
    rw [mem_takeU, mem_takeU, mem_takeU]
    constructor
    · rintro (((h1 | h1) | h1) | h1)
      · cases h1
      · exact ⟨.inl h1.1, by rw [h1.1]; exact h1.2⟩
      · exact ⟨.inr (.inl h1.1), by rw [h1.1]; exact h1.2⟩
      · exact ⟨.inr (.inr ⟨h1.1, h⟩), by rw [h1.1]; exact h1.2⟩
    · rintro ⟨h1 | h1 | h1, h2⟩
      · exact .inl (.inl (.inr ⟨h1, by rw [← h1]; exact h2⟩))
      · exact .inl (.inr ⟨h1, by rw [← h1]; exact h2⟩)
      · exact .inr ⟨h1.1, by rw [← h1.1]; exact h2⟩
  · rename_i h
    rw [mem_takeU, mem_takeU]
    constructor
    · rintro ((h1 | h1) | h1)
      · cases h1
      · exact ⟨.inl h1.1, by rw [h1.1]; exact h1.2⟩
      · exact ⟨.inr (.inl h1.1), by rw [h1.1]; exact h1.2⟩
    · rintro ⟨h1 | h1 | h1, h2⟩
      · exact .inl (.inr ⟨h1, by rw [← h1]; exact h2⟩)
      · exact .inr ⟨h1, by rw [← h1]; exact h2⟩
      · exact absurd h1.2 h
theorem cand_form {name c : ByteArray} (h : Cand name c) : 2 ≤ c.size ∧ (bl c).head? = some 36 ∧ (bl c)[1]? ≠ some 36 := by
  rcases h with rfl | rfl | ⟨rfl, h1, h2⟩
  · rw [useA_size, bl_useA]; exact ⟨by omega, rfl, by simp⟩
  · refine ⟨by rw [useB_size]; omega, ?_, ?_⟩
    · unfold useB; rw [bl_app, bl_app]; rfl
    · unfold useB; rw [bl_app, bl_app]; simp [bl]
  · refine ⟨by rw [useC_size]; omega, ?_, ?_⟩
    · unfold useC; rw [bl_app]; rfl
    · intro e
      apply h2
      have e1 : bl (useC name) = 36 :: bl name := by unfold useC; rw [bl_app]; rfl
      rw [e1] at e
      have hl := bl_length name
      match hb : bl name, hl with
      | [x], _ =>
        rw [hb] at e
        simp at e
        exact bl_inj (by rw [hb, e]; rfl)
      | [], hl => simp at hl; omega
      | x :: y :: r, hl => simp at hl; omega
theorem use_end {c : ByteArray} (h1 : (bl c).head? = some 36) (h2 : useN (bl c) = c.size) (h3 : 2 ≤ c.size) : endN (bl c) = some c.size := by
  cases hb : bl c with
  | nil => rw [hb] at h1; cases h1
  | cons x r =>
    rw [hb] at h1 h2
    simp at h1
    subst h1
    unfold useN at h2
    dsimp only at h2
    rw [if_pos rfl] at h2
    cases he : endN (36 :: r) with
    | none => rw [he] at h2; simp at h2; omega
    | some k => rw [he] at h2; simp at h2; rw [h2]
theorem end_use {c : ByteArray} (h1 : (bl c).head? = some 36) (h2 : endN (bl c) = some c.size) : useN (bl c) = c.size := by
  cases hb : bl c with
  | nil => rw [hb] at h1; cases h1
  | cons x r =>
    rw [hb] at h1 h2
    simp at h1
    subst h1
    unfold useN
    dsimp only
    rw [if_pos rfl, h2]; rfl
/-- What is a use at the head of a text ends where the text's use ends. -/
theorem pre_end {name u : ByteArray} {s : List UInt8} (h : u ∈ usesB name) (hp : (bl u).isPrefixOf s = true) : endN s = some u.size ∧ s.take u.size = bl u := by
  obtain ⟨h1, h2⟩ := mem_usesB.1 h
  obtain ⟨h3, h4, _⟩ := cand_form h1
  obtain ⟨r, rfl⟩ := List.isPrefixOf_iff_prefix.1 hp
  refine ⟨end_app (use_end h4 h2 h3) (by rw [bl_length]; exact h3) r, ?_⟩
  rw [← bl_length, List.take_left]
theorem start_hit2 {name c : ByteArray} {s : List UInt8} {m : Nat} (hc : Cand name c) (he : endN s = some m) (ht : s.take m = bl c) : startN (usesB name) s = m ∧ m = c.size := by
  obtain ⟨h3, h4, _⟩ := cand_form hc
  have hml := (Ex.end_le he).2
  have hm : m = c.size := by rw [← bl_length, ← ht, List.length_take]; omega
  have hue : useN (bl c) = c.size := end_use h4 (by rw [← ht, ← hm]; exact Ex.end_take he (Nat.le_refl _) (by omega))
  refine ⟨start_is ⟨c, mem_usesB.2 ⟨hc, hue⟩, ?_⟩ (fun u hu hp => ?_), hm⟩
  · rw [← ht]; exact List.isPrefixOf_iff_prefix.2 (List.take_prefix _ _)
  · have := (pre_end hu hp).1
    rw [he] at this
    exact (Option.some.inj this).symm
theorem start_miss2 {name : ByteArray} {s : List UInt8} (h : ∀ c m, Cand name c → endN s = some m → s.take m ≠ bl c) : startN (usesB name) s = 0 := by
  refine Classical.byContradiction fun hne => ?_
  obtain ⟨u, hu, hp, _⟩ := start_mem hne
  obtain ⟨h1, h2⟩ := pre_end hu hp
  exact h u u.size (mem_usesB.1 hu).1 h1 h2
theorem start_dd {name : ByteArray} (r : List UInt8) : startN (usesB name) (36 :: 36 :: r) = 0 := by
  refine Classical.byContradiction fun hne => ?_
  obtain ⟨u, hu, hp, _⟩ := start_mem hne
  obtain ⟨h3, _, h5⟩ := cand_form (mem_usesB.1 hu).1
  obtain ⟨q, hq⟩ := List.isPrefixOf_iff_prefix.1 hp
  apply h5
  have : (bl u ++ q)[1]? = some 36 := by rw [hq]; rfl
  rwa [List.getElem?_append_left (by rw [bl_length]; omega)] at this
/-- One step of the document's way, at a text that begins with a dollar. -/
theorem bind_dd {name : ByteArray} {val : List UInt8} (r : List UInt8) : bindL (usesB name) val (36 :: 36 :: r) = 36 :: 36 :: bindL (usesB name) val r := by
  rw [bindL_miss rfl (by rw [start_dd]; omega)]; rfl
theorem bind_no {name : ByteArray} {val : List UInt8} {r : List UInt8} (h0 : r.head? ≠ some 36) (h : ∀ c m, Cand name c → endN (36 :: r) = some m → (36 :: r).take m ≠ bl c) : bindL (usesB name) val (36 :: r) = 36 :: bindL (usesB name) val r := by
  rw [bindL_miss rfl (by rw [start_miss2 h]; omega)]
  cases r with
  | nil => rfl
  | cons c t =>
    rw [bindL_other t (by simpa using h0)]; rfl
theorem bind_yes {name c : ByteArray} {val s : List UInt8} {m : Nat} (hs : s.head? = some 36) (hc : Cand name c) (he : endN s = some m) (ht : s.take m = bl c) : bindL (usesB name) val s = val ++ bindL (usesB name) val (s.drop m) := by
  obtain ⟨h1, h2⟩ := start_hit2 hc he ht
  have := (cand_form hc).1
  rw [bindL_hit hs (by omega), h1]
end Go.Proofs.YtllpbehhbpefjaaDoor
namespace Go.Proofs.YtllpbehhbpefjaaDoor
open Go.RowKit Go.Shelf

theorem below_dn {B : Nat} {w w1 : World} (h : Below B w w1) : ∀ n, Below B w (w1.drewN n)
  | 0 => h
  | n + 1 => (below_dn h n).drew
def SamePost (l m : List Lz) (w : World) (e : Ending) (w' : World) : Prop := ∃ (b : Bool), e = .returned (.bool b) ∧ (b = true ↔ l = m) ∧ Below w.heap.size w w'

set_option maxRecDepth 20000 in
set_option maxHeartbeats 800000 in
theorem rsame_any (v1 v2 : Value) (l m : List Lz) (B : Nat) (w : World) (hl : l.length ≤ 4000000) (hm : m.length ≤ 4000000) (h1 : LZ B w v1 l) (h2 : LZ B w v2 m) :
    Calls Tryd.prog 17 #[v1, v2] w (SamePost l m w) := by
  obtain ⟨a1, c1, rfl, hc1⟩ := h1.slice
  obtain ⟨a2, c2, rfl, hc2⟩ := h2.slice
  obtain ⟨n, hn⟩ : ∃ n, n = l.length := ⟨_, rfl⟩
  obtain ⟨n2, hn2⟩ : ∃ n, n = m.length := ⟨_, rfl⟩
  rw [← hn] at hl hc1 h1
  rw [← hn2] at hm hc2 h2
  have HW : Hid (n = l.length ∧ n2 = m.length ∧ LZ B w (.slice a1 n c1) l ∧ LZ B w (.slice a2 n2 c2) m) := ⟨hn, hn2, h1, h2⟩
  rw [← hn, ← hn2]
  clear hn hn2 h1 h2
  by_cases hne : n = n2
  · subst hne
    go_enter Tryd.func17, Tryd.ntmps17
    go_wp2
    go_loopw [5] (fun vi wr => ∃ k q : Nat, k ≤ n ∧ vi = .int .i64 (k : Int) ∧ wr = w.drewN q ∧ Hid (l.take k = m.take k)) (fun vi _ => n - (intOf vi).toNat)
    case atStart => exact ⟨0, 0, Nat.zero_le _, rfl, rfl, by simp [Hid]⟩
    case round =>
      obtain ⟨k, q, hk, rfl, rfl, HT⟩ := hrel
      by_cases hlt : k < n
      · have hil : (k : Int) < (n : Int) := by omega
        have hkl : k < l.length := by rw [← HW.out.1]; exact hlt
        have hkm : k < m.length := by rw [← HW.out.2.1]; exact hlt
        obtain ⟨b, o, rfl, hbB, d0, d1, d2⟩ := HW.out.2.2.1.pick (List.getElem?_eq_getElem hkl)
        obtain ⟨b', o', rfl, hbB', d0', d1', d2'⟩ := HW.out.2.2.2.pick (List.getElem?_eq_getElem hkm)
        have hne := neq52 l[k].text m[k].text l[k].at_ m[k].at_ l[k].cmd m[k].cmd
        have HS : Hid (sameZ l[k] m[k] = (l[k].text == m[k].text && (l[k].at_ == m[k].at_ && l[k].cmd == m[k].cmd))) := rfl
        have HTl : Hid (l.take (k + 1) = l.take k ++ [l[k]]) := List.take_succ_eq_append_getElem hkl
        have HTm : Hid (m.take (k + 1) = m.take k ++ [m[k]]) := List.take_succ_eq_append_getElem hkm
        have HL : Hid (l[k]? = some l[k] ∧ m[k]? = some m[k]) := ⟨List.getElem?_eq_getElem hkl, List.getElem?_eq_getElem hkm⟩
        obtain ⟨x, hx⟩ : ∃ x, x = l[k] := ⟨_, rfl⟩
        obtain ⟨y, hy⟩ : ∃ y, y = m[k] := ⟨_, rfl⟩
        rw [← hx] at d0 d1 d2 HTl HL
        rw [← hy] at d0' d1' d2' HTm HL
        rw [← hx, ← hy] at hne HS
        clear hx hy
        obtain ⟨xt, xa, xc⟩ := x
        obtain ⟨yt, ya, yc⟩ := y
        simp only at d0 d1 d2 d0' d1' d2' hne
        cases hs : sameZ ⟨xt, xa, xc⟩ ⟨yt, ya, yc⟩ with
        | true =>
          have HT1 : Hid (l.take (k + 1) = m.take (k + 1)) := by unfold Hid; rw [HTl.out, HTm.out, HT.out, (sameZ_iff _ _).1 hs]
          have hse := HS.out
          rw [hs] at hse
          simp only at hse
          rw [← hse] at hne
          clear hse hs HS HTl HTm HL
          simp only [Bool.not_true] at hne
          go_wp2
          go_quiet (fail)
          go_wp2
          go_roundw
          case rel => exact ⟨k + 1, _, by omega, by go_num, rfl, HT1⟩
          case measure => simp [intOf]; omega
        | false =>
          have HNE : Hid (¬ l = m) := fun e => by
            have h := HL.out
            rw [e] at h
            have := h.1.symm.trans h.2
            have h3 := (sameZ_iff ⟨xt, xa, xc⟩ ⟨yt, ya, yc⟩).2 (Option.some.inj this)
            rw [hs] at h3; cases h3
          have hse := HS.out
          rw [hs] at hse
          simp only at hse
          rw [← hse] at hne
          clear hse hs HS HTl HTm HL
          simp only [Bool.not_false] at hne
          go_wp2
          go_quiet (fail)
          go_wp2
          go_ret
          exact ⟨false, rfl, ⟨fun h => (by cases h), fun h => absurd h HNE.out⟩, below_dn (below_dn (Below.refl _ _) _) _⟩
      · have HE : Hid (l = m) := by
          have h := HT.out
          have h1 := HW.out.1
          have h2 := HW.out.2.1
          rw [List.take_of_length_le (by omega), List.take_of_length_le (by omega)] at h
          exact h
        go_wp2
        go_ret
        exact ⟨true, rfl, ⟨fun _ => HE.out, fun _ => rfl⟩, below_dn (Below.refl _ _) _⟩
  · have hni : ¬ (n : Int) = (n2 : Int) := by omega
    have hnb : ((n : Int) == (n2 : Int)) = false := by simpa using hni
    go_enter Tryd.func17, Tryd.ntmps17
    go_wp2
    go_ret
    refine ⟨false, rfl, ⟨fun h => (by cases h), fun h => ?_⟩, Below.refl _ _⟩
    have h1 := HW.out.1
    have h2 := HW.out.2.1
    rw [h] at h1
    exact absurd (h1.trans h2.symm) hne

end Go.Proofs.YtllpbehhbpefjaaDoor
namespace Go.Proofs.YtllpbehhbpefjaaDoor
open Go.RowKit Go.Shelf
open Ex (useN bodyF endN clo endI)

theorem ne_ba {x y : ByteArray} (h : ¬ x = y) : ¬ x.toList = y.toList ∧ (x.toList == y.toList) = false := by
  have h1 : ¬ x.toList = y.toList := fun e => h (by rw [Lib.toList_data, Lib.toList_data] at e; exact bl_inj e)
  exact ⟨h1, by simpa using h1⟩
theorem quoteY_is (l : List UInt8) : Ex.quoteY l = quoteD l := rfl
theorem ext1 (s : ByteArray) (k : Nat) (hk : k < s.size) : bl (s.extract k (k + 1)) = [s[k]] := by
  rw [bl_extract, take_snoc s k hk, List.drop_append_of_le_length (by rw [List.length_take, bl_length]; omega), List.drop_of_length_le (by rw [List.length_take]; omega)]; rfl

theorem ne_dol {y : ByteArray} (h : ¬ kDol = y) : ¬ ([36] : List UInt8) = y.toList ∧ (([36] : List UInt8) == y.toList) = false ∧ ¬ y.toList = [36] := by
  have h1 : ¬ ([36] : List UInt8) = y.toList := fun e => h (by rw [Lib.toList_data] at e; exact bl_inj e)
  exact ⟨h1, by simpa using h1, fun e => h1 e.symm⟩
set_option maxRecDepth 20000 in
set_option maxHeartbeats 2000000 in
theorem rbind_any (s name value : ByteArray) (w : World) (hs : s.size ≤ 1000000) (hn : name.size ≤ 900000) (hv : value.size ≤ 100000) (hb : (2 * value.size + 1) * s.size ≤ 500000000) :
    Calls Tryd.prog 37 #[.string s, .string name, .string value] w fun e w' => e = .returned (.string (ba (bindL (usesB name) (quoteD (bl value)) (bl s)))) ∧ Below w.heap.size w w' := by
  obtain ⟨q, hq⟩ : ∃ q, q = ba (quoteD (bl value)) := ⟨_, rfl⟩
  have hqb : quoteD (bl value) = bl q := by rw [hq, bl_ba]
  have hqs : q.size ≤ 2 * value.size := by
    have := quoteD_len (bl value)
    rw [bl_length] at this
    rw [hq, ba_size]; exact this
  rw [hqb]
  have HQ : Hid (∀ W, Calls Tryd.prog 60 #[.string value] W fun e w' => e = .returned (.string q) ∧ Below W.heap.size W w') := fun W => by
    have := Ex.rquote8 value W hv
    rw [quoteY_is, hqb, ba_bl] at this
    exact this
  have HE : Hid (∀ (p : Nat) W, p < s.size → Calls Tryd.prog 59 #[.string s, .int .i64 (p : Int)] W fun e w' => e = .returned (.int .i64 (endI p (endN ((bl s).drop p)))) ∧ W = w') := fun p W hp => Ex.rend s hs s.size p hp (by omega) W
  have hlen := bindL_len (U := usesB name) (val := bl q) s.size (bl s) (by rw [bl_length]; exact Nat.le_refl _)
  rw [bl_length, bl_length] at hlen
  have HLT : Hid ((bindL (usesB name) (bl q) (bl s)).length ≤ 500000000) := by
    have h9 : (q.size + 1) * s.size ≤ (2 * value.size + 1) * s.size := Nat.mul_le_mul_right _ (by omega)
    unfold Hid; omega
  obtain ⟨cA, hcA⟩ : ∃ cA, cA = useA name := ⟨_, rfl⟩
  obtain ⟨cB, hcB⟩ : ∃ cB, cB = useB name := ⟨_, rfl⟩
  obtain ⟨cC, hcC⟩ : ∃ cC, cC = useC name := ⟨_, rfl⟩
  have hA : (⟨#[36, 123]⟩ : ByteArray) ++ name ++ ⟨#[125]⟩ = cA := hcA.symm
  have hB : (⟨#[36, 40]⟩ : ByteArray) ++ name ++ ⟨#[41]⟩ = cB := hcB.symm
  have hC : (⟨#[36]⟩ : ByteArray) ++ name = cC := hcC.symm
  have HCA : Hid (cA = useA name ∧ cB = useB name ∧ cC = useC name) := ⟨hcA, hcB, hcC⟩
  have HDA : Hid (¬ kDol = cA ∧ ¬ kDol = cB ∧ (name.size = 1 → ¬ kDol = cC)) := by
    refine ⟨fun e => ?_, fun e => ?_, fun h1 e => ?_⟩
    · have h2 := congrArg ByteArray.size e; rw [hcA, useA_size] at h2; have h3 : kDol.size = 1 := rfl; omega
    · have h2 := congrArg ByteArray.size e; rw [hcB, useB_size] at h2; have h3 : kDol.size = 1 := rfl; omega
    · have h2 := congrArg ByteArray.size e; rw [hcC, useC_size, h1] at h2; have h3 : kDol.size = 1 := rfl; omega
  obtain ⟨U, hU⟩ : ∃ U, U = usesB name := ⟨_, rfl⟩
  have HU : Hid (U = usesB name) := hU
  rw [← hU] at HLT ⊢
  clear hq hqb hlen hcA hcB hcC hU hb
  go_enter Tryd.func37, Tryd.ntmps37
  go_wp2_with fail
  go_loopw [7, 8] (fun vo vi wr => ∃ (i : Nat) (o : ByteArray), i ≤ s.size ∧ vi = .int .i64 (i : Int) ∧ vo = .string o ∧ o.size ≤ 500000000 ∧ Hid (Below w.heap.size w wr ∧ bindL U (bl q) (bl s) = bl o ++ bindL U (bl q) ((bl s).drop i))) (fun _ vi _ => s.size - (intOf vi).toNat)
  case atStart => exact ⟨0, ⟨#[]⟩, Nat.zero_le _, rfl, rfl, by decide, Below.refl _ _, by simp [bl]⟩
  case round =>
    obtain ⟨i, o, hi, rfl, rfl, hos, HI⟩ := hrel
    by_cases hil : i < s.size
    · have hii : (i : Int) < (s.size : Int) := by omega
      have hdr := drop_bl s i hil
      have HSZ : Hid (∀ o' r : List UInt8, bindL U (bl q) (bl s) = o' ++ r → o'.length ≤ 500000000) := fun o' r h => by
        have h1 := congrArg List.length h
        rw [List.length_append] at h1
        have := HLT.out
        omega
      obtain ⟨cn, hcn⟩ : ∃ cn : Int, cn = (s[i].toNat : Int) := ⟨_, rfl⟩
      have hgk : (s[i].toNat : Int) = cn := hcn.symm
      by_cases h36 : cn = 36
      · have hc36 : s[i] = 36 := by rw [u8_eq_iff]; show s[i].toNat = 36; omega
        rw [hc36] at hdr
        have HDR : Hid ((bl s).drop i = 36 :: (bl s).drop (i + 1)) := hdr
        clear hdr hcn hc36
        subst h36
        by_cases hnx : i + 1 < s.size
        · have hni : (i : Int) + 1 < (s.size : Int) := by omega
          have hdr2 := drop_bl s (i + 1) hnx
          obtain ⟨dn, hdn⟩ : ∃ dn : Int, dn = (s[i + 1].toNat : Int) := ⟨_, rfl⟩
          have hgd : (s[i + 1].toNat : Int) = dn := hdn.symm
          by_cases hd36 : dn = 36
          · have hs36 : s[i + 1] = 36 := by rw [u8_eq_iff]; show s[i + 1].toNat = 36; omega
            rw [hs36] at hdr2
            obtain ⟨o2, ho2⟩ : ∃ o2, o2 = o ++ ⟨#[36, 36]⟩ := ⟨_, rfl⟩
            have HZ : Hid (bindL U (bl q) (bl s) = bl o2 ++ bindL U (bl q) ((bl s).drop (i + 2))) := by
              unfold Hid
              rw [HI.out.2, HDR.out, hdr2, HU.out, bind_dd, ho2, bl_app]
              simp [bl]
            have hz2 : o2.size ≤ 500000000 := by rw [← bl_length]; exact HSZ.out _ _ HZ.out
            have hoe : o ++ ⟨#[36, 36]⟩ = o2 := ho2.symm
            clear hdr2 hdn hs36 ho2
            go_wp2
            go_roundw
            case rel => exact ⟨i + 2, o2, by omega, by go_num, rfl, hz2, HI.out.1, HZ.out⟩
            case measure => simp [intOf]; omega
          · have hdb : (dn == 36) = false := by simpa using hd36
            have HHD : Hid (((bl s).drop (i + 1)).head? ≠ some 36) := fun e => by
              rw [hdr2] at e
              simp at e
              exact hd36 (by rw [hdn, e]; rfl)
            clear hdr2 hdn
            have HEi := fun W => HE.out i W hil
            rw [HDR.out] at HEi
            cases hen : endN (36 :: (bl s).drop (i + 1)) with
            | none =>
              rw [hen] at HEi
              have HEi : Hid (∀ W : World, Calls Tryd.prog 59 #[.string s, .int .i64 (i : Int)] W fun e w' => e = .returned (.int .i64 (-1)) ∧ W = w') := HEi
              have NOC : Hid (∀ c m, Cand name c → endN (36 :: (bl s).drop (i + 1)) = some m → (36 :: (bl s).drop (i + 1)).take m ≠ bl c) := fun c m _ h => by rw [hen] at h; cases h
              obtain ⟨x1, x2, x1s⟩ := ne_dol HDA.out.1
              obtain ⟨x3, x4, x3s⟩ := ne_dol HDA.out.2.1
              clear hen
              by_cases hn1 : name.size = 1
              · have hn1i : (name.size : Int) = 1 := by omega
                obtain ⟨x5, x6, x5s⟩ := ne_dol (HDA.out.2.2 hn1)
                clear hn1
                obtain ⟨o2, ho2⟩ : ∃ o2, o2 = o ++ kDol := ⟨_, rfl⟩
                have HZ : Hid (bindL U (bl q) (bl s) = bl o2 ++ bindL U (bl q) ((bl s).drop (i + 1))) := by
                  unfold Hid
                  rw [HI.out.2, HDR.out, HU.out, bind_no HHD.out NOC.out, ho2, bl_app]
                  simp [bl]
                have hz2 : o2.size ≤ 500000000 := by rw [← bl_length]; exact HSZ.out _ _ HZ.out
                have hoe : o ++ (⟨#[36]⟩ : ByteArray) = o2 := ho2.symm
                clear ho2
                go_wp2_with fail
                refine (HEi.out _).mono ?_
                rintro e w2 ⟨rfl, rfl⟩
                go_wp2
                go_roundw
                case rel => exact ⟨i + 1, o2, by omega, by go_num, rfl, hz2, HI.out.1, HZ.out⟩
                case measure => simp [intOf]; omega
              · have hn1i : ¬ (name.size : Int) = 1 := by omega
                have hn1b : ((name.size : Int) == 1) = false := by simpa using hn1i
                obtain ⟨o2, ho2⟩ : ∃ o2, o2 = o ++ kDol := ⟨_, rfl⟩
                have HZ : Hid (bindL U (bl q) (bl s) = bl o2 ++ bindL U (bl q) ((bl s).drop (i + 1))) := by
                  unfold Hid
                  rw [HI.out.2, HDR.out, HU.out, bind_no HHD.out NOC.out, ho2, bl_app]
                  simp [bl]
                have hz2 : o2.size ≤ 500000000 := by rw [← bl_length]; exact HSZ.out _ _ HZ.out
                have hoe : o ++ (⟨#[36]⟩ : ByteArray) = o2 := ho2.symm
                clear ho2
                go_wp2_with fail
                refine (HEi.out _).mono ?_
                rintro e w2 ⟨rfl, rfl⟩
                go_wp2
                go_roundw
                case rel => exact ⟨i + 1, o2, by omega, by go_num, rfl, hz2, HI.out.1, HZ.out⟩
                case measure => simp [intOf]; omega
            | some m =>
              rw [hen] at HEi
              have hml := Ex.end_le hen
              have hm2 : m ≤ s.size - i := by
                have h9 := hml.2
                rw [List.length_cons, List.length_drop, bl_length] at h9
                omega
              have hm1 := hml.1
              have HEi : Hid (∀ W : World, Calls Tryd.prog 59 #[.string s, .int .i64 (i : Int)] W fun e w' => e = .returned (.int .i64 ((i : Int) + (m : Int))) ∧ W = w') := fun W => (HEi W).mono fun e w' h => ⟨by rw [h.1]; rfl, h.2⟩
              have HEN : Hid (endN (36 :: (bl s).drop (i + 1)) = some m) := hen
              obtain ⟨u, hu⟩ : ∃ u, u = s.extract i (i + m) := ⟨_, rfl⟩
              have hub : (36 :: (bl s).drop (i + 1)).take m = bl u := by
                rw [hu, bl_extract, ← HDR.out, List.drop_take, Nat.add_sub_cancel_left]
              have hpos : (0 : Int) < (i : Int) + (m : Int) := by omega
              have hp2 : (i : Int) + (m : Int) ≤ (s.size : Int) := by omega
              have hp3 : (i : Int) ≤ (i : Int) + (m : Int) := by omega
              have hue : s.extract i (i + m) = u := hu.symm
              have htn : ((i : Int) + (m : Int)).toNat = i + m := by omega
              clear hu hen
              by_cases ha : u = cA
              · subst ha
                have CAND : Hid (Cand name u) := .inl HCA.out.1
                have HUT : Hid _ := hub
                clear hub
                obtain ⟨o2, ho2⟩ : ∃ o2, o2 = o ++ q := ⟨_, rfl⟩
                have HZ : Hid (bindL U (bl q) (bl s) = bl o2 ++ bindL U (bl q) ((bl s).drop (i + m))) := by
                  unfold Hid
                  rw [HI.out.2, HDR.out, HU.out, bind_yes rfl CAND.out HEN.out HUT.out, ho2, bl_app, ← HDR.out, List.drop_drop]
                  simp
                have hz2 : o2.size ≤ 500000000 := by rw [← bl_length]; exact HSZ.out _ _ HZ.out
                have hoe : o ++ q = o2 := ho2.symm
                clear ho2
                go_wp2_with fail
                refine (HEi.out _).mono ?_
                rintro e w2 ⟨rfl, rfl⟩
                go_wp2_with fail
                refine (HQ.out _).mono ?_
                rintro e w3 ⟨rfl, h3⟩
                have H3 : Hid (Below w.heap.size w w3) := HI.out.1.trans (h3.mono HI.out.1.size)
                clear h3
                go_wp2
                go_roundw
                case rel => exact ⟨i + m, o2, by omega, by go_num, rfl, hz2, H3.out, HZ.out⟩
                case measure => simp [intOf]; omega
              · obtain ⟨x1, x2⟩ := ne_ba ha
                by_cases hbb : u = cB
                · subst hbb
                  have CAND : Hid (Cand name u) := .inr (.inl HCA.out.2.1)
                  have HUT : Hid _ := hub
                  clear hub ha
                  obtain ⟨o2, ho2⟩ : ∃ o2, o2 = o ++ q := ⟨_, rfl⟩
                  have HZ : Hid (bindL U (bl q) (bl s) = bl o2 ++ bindL U (bl q) ((bl s).drop (i + m))) := by
                    unfold Hid
                    rw [HI.out.2, HDR.out, HU.out, bind_yes rfl CAND.out HEN.out HUT.out, ho2, bl_app, ← HDR.out, List.drop_drop]
                    simp
                  have hz2 : o2.size ≤ 500000000 := by rw [← bl_length]; exact HSZ.out _ _ HZ.out
                  have hoe : o ++ q = o2 := ho2.symm
                  clear ho2
                  go_wp2_with fail
                  refine (HEi.out _).mono ?_
                  rintro e w2 ⟨rfl, rfl⟩
                  go_wp2_with fail
                  refine (HQ.out _).mono ?_
                  rintro e w3 ⟨rfl, h3⟩
                  have H3 : Hid (Below w.heap.size w w3) := HI.out.1.trans (h3.mono HI.out.1.size)
                  clear h3
                  go_wp2
                  go_roundw
                  case rel => exact ⟨i + m, o2, by omega, by go_num, rfl, hz2, H3.out, HZ.out⟩
                  case measure => simp [intOf]; omega
                · obtain ⟨x3, x4⟩ := ne_ba hbb
                  by_cases hn1 : name.size = 1
                  · have hn1i : (name.size : Int) = 1 := by omega
                    by_cases hcc : u = cC
                    · subst hcc
                      have CAND : Hid (Cand name u) := .inr (.inr ⟨HCA.out.2.2, hn1, fun e => by
                        have h8 : bl u = [36, 36] := by rw [HCA.out.2.2, e]; rfl
                        rw [h8] at hub
                        have h9 : (36 :: (bl s).drop (i + 1))[1]? = some 36 := by
                          have h10 : ((36 :: (bl s).drop (i + 1)).take m)[1]? = some 36 := by rw [hub]; rfl
                          rw [List.getElem?_take] at h10
                          split at h10
                          · exact h10
                          · cases h10
                        simp only [List.getElem?_cons_succ] at h9
                        rw [← List.head?_eq_getElem?] at h9
                        exact HHD.out h9⟩)
                      have HUT : Hid _ := hub
                      clear hub ha hbb hn1
                      obtain ⟨o2, ho2⟩ : ∃ o2, o2 = o ++ q := ⟨_, rfl⟩
                      have HZ : Hid (bindL U (bl q) (bl s) = bl o2 ++ bindL U (bl q) ((bl s).drop (i + m))) := by
                        unfold Hid
                        rw [HI.out.2, HDR.out, HU.out, bind_yes rfl CAND.out HEN.out HUT.out, ho2, bl_app, ← HDR.out, List.drop_drop]
                        simp
                      have hz2 : o2.size ≤ 500000000 := by rw [← bl_length]; exact HSZ.out _ _ HZ.out
                      have hoe : o ++ q = o2 := ho2.symm
                      clear ho2
                      go_wp2_with fail
                      refine (HEi.out _).mono ?_
                      rintro e w2 ⟨rfl, rfl⟩
                      go_wp2_with fail
                      refine (HQ.out _).mono ?_
                      rintro e w3 ⟨rfl, h3⟩
                      have H3 : Hid (Below w.heap.size w w3) := HI.out.1.trans (h3.mono HI.out.1.size)
                      clear h3
                      go_wp2
                      go_roundw
                      case rel => exact ⟨i + m, o2, by omega, by go_num, rfl, hz2, H3.out, HZ.out⟩
                      case measure => simp [intOf]; omega
                    · obtain ⟨x5, x6⟩ := ne_ba hcc
                      have NOC : Hid (∀ c m, Cand name c → endN (36 :: (bl s).drop (i + 1)) = some m → (36 :: (bl s).drop (i + 1)).take m ≠ bl c) := fun c m' hcd h ht => by
                        rw [HEN.out] at h
                        obtain rfl := Option.some.inj h
                        rw [hub] at ht
                        have he := bl_inj ht
                        rcases hcd with h1 | h1 | h1
                        · exact ha (by rw [he, h1, HCA.out.1])
                        · exact hbb (by rw [he, h1, HCA.out.2.1])
                        · exact hcc (by rw [he, h1.1, HCA.out.2.2])
                      clear hub ha hbb hcc hn1
                      obtain ⟨o2, ho2⟩ : ∃ o2, o2 = o ++ kDol := ⟨_, rfl⟩
                      have HZ : Hid (bindL U (bl q) (bl s) = bl o2 ++ bindL U (bl q) ((bl s).drop (i + 1))) := by
                        unfold Hid
                        rw [HI.out.2, HDR.out, HU.out, bind_no HHD.out NOC.out, ho2, bl_app]
                        simp [bl]
                      have hz2 : o2.size ≤ 500000000 := by rw [← bl_length]; exact HSZ.out _ _ HZ.out
                      have hoe : o ++ (⟨#[36]⟩ : ByteArray) = o2 := ho2.symm
                      clear ho2
                      go_wp2_with fail
                      refine (HEi.out _).mono ?_
                      rintro e w2 ⟨rfl, rfl⟩
                      go_wp2
                      go_roundw
                      case rel => exact ⟨i + 1, o2, by omega, by go_num, rfl, hz2, HI.out.1, HZ.out⟩
                      case measure => simp [intOf]; omega
                  · have hn1i : ¬ (name.size : Int) = 1 := by omega
                    have hn1b : ((name.size : Int) == 1) = false := by simpa using hn1i
                    have NOC : Hid (∀ c m, Cand name c → endN (36 :: (bl s).drop (i + 1)) = some m → (36 :: (bl s).drop (i + 1)).take m ≠ bl c) := fun c m' hcd h ht => by
                      rw [HEN.out] at h
                      obtain rfl := Option.some.inj h
                      rw [hub] at ht
                      have he := bl_inj ht
                      rcases hcd with h1 | h1 | h1
                      · exact ha (by rw [he, h1, HCA.out.1])
                      · exact hbb (by rw [he, h1, HCA.out.2.1])
                      · exact hn1 h1.2.1
                    clear hub ha hbb hn1
                    obtain ⟨o2, ho2⟩ : ∃ o2, o2 = o ++ kDol := ⟨_, rfl⟩
                    have HZ : Hid (bindL U (bl q) (bl s) = bl o2 ++ bindL U (bl q) ((bl s).drop (i + 1))) := by
                      unfold Hid
                      rw [HI.out.2, HDR.out, HU.out, bind_no HHD.out NOC.out, ho2, bl_app]
                      simp [bl]
                    have hz2 : o2.size ≤ 500000000 := by rw [← bl_length]; exact HSZ.out _ _ HZ.out
                    have hoe : o ++ (⟨#[36]⟩ : ByteArray) = o2 := ho2.symm
                    clear ho2
                    go_wp2_with fail
                    refine (HEi.out _).mono ?_
                    rintro e w2 ⟨rfl, rfl⟩
                    go_wp2
                    go_roundw
                    case rel => exact ⟨i + 1, o2, by omega, by go_num, rfl, hz2, HI.out.1, HZ.out⟩
                    case measure => simp [intOf]; omega
        · have hni : ¬ (i : Int) + 1 < (s.size : Int) := by omega
          have HHD : Hid (((bl s).drop (i + 1)).head? ≠ some 36) := by unfold Hid; rw [List.drop_of_length_le (by rw [bl_length]; omega)]; simp
          have HEi := fun W => HE.out i W hil
          rw [HDR.out] at HEi
          cases hen : endN (36 :: (bl s).drop (i + 1)) with
          | none =>
            rw [hen] at HEi
            have HEi : Hid (∀ W : World, Calls Tryd.prog 59 #[.string s, .int .i64 (i : Int)] W fun e w' => e = .returned (.int .i64 (-1)) ∧ W = w') := HEi
            have NOC : Hid (∀ c m, Cand name c → endN (36 :: (bl s).drop (i + 1)) = some m → (36 :: (bl s).drop (i + 1)).take m ≠ bl c) := fun c m _ h => by rw [hen] at h; cases h
            obtain ⟨x1, x2, x1s⟩ := ne_dol HDA.out.1
            obtain ⟨x3, x4, x3s⟩ := ne_dol HDA.out.2.1
            clear hen
            by_cases hn1 : name.size = 1
            · have hn1i : (name.size : Int) = 1 := by omega
              obtain ⟨x5, x6, x5s⟩ := ne_dol (HDA.out.2.2 hn1)
              clear hn1
              obtain ⟨o2, ho2⟩ : ∃ o2, o2 = o ++ kDol := ⟨_, rfl⟩
              have HZ : Hid (bindL U (bl q) (bl s) = bl o2 ++ bindL U (bl q) ((bl s).drop (i + 1))) := by
                unfold Hid
                rw [HI.out.2, HDR.out, HU.out, bind_no HHD.out NOC.out, ho2, bl_app]
                simp [bl]
              have hz2 : o2.size ≤ 500000000 := by rw [← bl_length]; exact HSZ.out _ _ HZ.out
              have hoe : o ++ (⟨#[36]⟩ : ByteArray) = o2 := ho2.symm
              clear ho2
              go_wp2_with fail
              refine (HEi.out _).mono ?_
              rintro e w2 ⟨rfl, rfl⟩
              go_wp2
              go_roundw
              case rel => exact ⟨i + 1, o2, by omega, by go_num, rfl, hz2, HI.out.1, HZ.out⟩
              case measure => simp [intOf]; omega
            · have hn1i : ¬ (name.size : Int) = 1 := by omega
              have hn1b : ((name.size : Int) == 1) = false := by simpa using hn1i
              obtain ⟨o2, ho2⟩ : ∃ o2, o2 = o ++ kDol := ⟨_, rfl⟩
              have HZ : Hid (bindL U (bl q) (bl s) = bl o2 ++ bindL U (bl q) ((bl s).drop (i + 1))) := by
                unfold Hid
                rw [HI.out.2, HDR.out, HU.out, bind_no HHD.out NOC.out, ho2, bl_app]
                simp [bl]
              have hz2 : o2.size ≤ 500000000 := by rw [← bl_length]; exact HSZ.out _ _ HZ.out
              have hoe : o ++ (⟨#[36]⟩ : ByteArray) = o2 := ho2.symm
              clear ho2
              go_wp2_with fail
              refine (HEi.out _).mono ?_
              rintro e w2 ⟨rfl, rfl⟩
              go_wp2
              go_roundw
              case rel => exact ⟨i + 1, o2, by omega, by go_num, rfl, hz2, HI.out.1, HZ.out⟩
              case measure => simp [intOf]; omega
          | some m =>
            rw [hen] at HEi
            have hml := Ex.end_le hen
            have hm2 : m ≤ s.size - i := by
              have h9 := hml.2
              rw [List.length_cons, List.length_drop, bl_length] at h9
              omega
            have hm1 := hml.1
            have HEi : Hid (∀ W : World, Calls Tryd.prog 59 #[.string s, .int .i64 (i : Int)] W fun e w' => e = .returned (.int .i64 ((i : Int) + (m : Int))) ∧ W = w') := fun W => (HEi W).mono fun e w' h => ⟨by rw [h.1]; rfl, h.2⟩
            have HEN : Hid (endN (36 :: (bl s).drop (i + 1)) = some m) := hen
            obtain ⟨u, hu⟩ : ∃ u, u = s.extract i (i + m) := ⟨_, rfl⟩
            have hub : (36 :: (bl s).drop (i + 1)).take m = bl u := by
              rw [hu, bl_extract, ← HDR.out, List.drop_take, Nat.add_sub_cancel_left]
            have hpos : (0 : Int) < (i : Int) + (m : Int) := by omega
            have hp2 : (i : Int) + (m : Int) ≤ (s.size : Int) := by omega
            have hp3 : (i : Int) ≤ (i : Int) + (m : Int) := by omega
            have hue : s.extract i (i + m) = u := hu.symm
            have htn : ((i : Int) + (m : Int)).toNat = i + m := by omega
            clear hu hen
            by_cases ha : u = cA
            · subst ha
              have CAND : Hid (Cand name u) := .inl HCA.out.1
              have HUT : Hid _ := hub
              clear hub
              obtain ⟨o2, ho2⟩ : ∃ o2, o2 = o ++ q := ⟨_, rfl⟩
              have HZ : Hid (bindL U (bl q) (bl s) = bl o2 ++ bindL U (bl q) ((bl s).drop (i + m))) := by
                unfold Hid
                rw [HI.out.2, HDR.out, HU.out, bind_yes rfl CAND.out HEN.out HUT.out, ho2, bl_app, ← HDR.out, List.drop_drop]
                simp
              have hz2 : o2.size ≤ 500000000 := by rw [← bl_length]; exact HSZ.out _ _ HZ.out
              have hoe : o ++ q = o2 := ho2.symm
              clear ho2
              go_wp2_with fail
              refine (HEi.out _).mono ?_
              rintro e w2 ⟨rfl, rfl⟩
              go_wp2_with fail
              refine (HQ.out _).mono ?_
              rintro e w3 ⟨rfl, h3⟩
              have H3 : Hid (Below w.heap.size w w3) := HI.out.1.trans (h3.mono HI.out.1.size)
              clear h3
              go_wp2
              go_roundw
              case rel => exact ⟨i + m, o2, by omega, by go_num, rfl, hz2, H3.out, HZ.out⟩
              case measure => simp [intOf]; omega
            · obtain ⟨x1, x2⟩ := ne_ba ha
              by_cases hbb : u = cB
              · subst hbb
                have CAND : Hid (Cand name u) := .inr (.inl HCA.out.2.1)
                have HUT : Hid _ := hub
                clear hub ha
                obtain ⟨o2, ho2⟩ : ∃ o2, o2 = o ++ q := ⟨_, rfl⟩
                have HZ : Hid (bindL U (bl q) (bl s) = bl o2 ++ bindL U (bl q) ((bl s).drop (i + m))) := by
                  unfold Hid
                  rw [HI.out.2, HDR.out, HU.out, bind_yes rfl CAND.out HEN.out HUT.out, ho2, bl_app, ← HDR.out, List.drop_drop]
                  simp
                have hz2 : o2.size ≤ 500000000 := by rw [← bl_length]; exact HSZ.out _ _ HZ.out
                have hoe : o ++ q = o2 := ho2.symm
                clear ho2
                go_wp2_with fail
                refine (HEi.out _).mono ?_
                rintro e w2 ⟨rfl, rfl⟩
                go_wp2_with fail
                refine (HQ.out _).mono ?_
                rintro e w3 ⟨rfl, h3⟩
                have H3 : Hid (Below w.heap.size w w3) := HI.out.1.trans (h3.mono HI.out.1.size)
                clear h3
                go_wp2
                go_roundw
                case rel => exact ⟨i + m, o2, by omega, by go_num, rfl, hz2, H3.out, HZ.out⟩
                case measure => simp [intOf]; omega
              · obtain ⟨x3, x4⟩ := ne_ba hbb
                by_cases hn1 : name.size = 1
                · have hn1i : (name.size : Int) = 1 := by omega
                  by_cases hcc : u = cC
                  · subst hcc
                    have CAND : Hid (Cand name u) := .inr (.inr ⟨HCA.out.2.2, hn1, fun e => by
                      have h8 : bl u = [36, 36] := by rw [HCA.out.2.2, e]; rfl
                      rw [h8] at hub
                      have h9 : (36 :: (bl s).drop (i + 1))[1]? = some 36 := by
                        have h10 : ((36 :: (bl s).drop (i + 1)).take m)[1]? = some 36 := by rw [hub]; rfl
                        rw [List.getElem?_take] at h10
                        split at h10
                        · exact h10
                        · cases h10
                      simp only [List.getElem?_cons_succ] at h9
                      rw [← List.head?_eq_getElem?] at h9
                      exact HHD.out h9⟩)
                    have HUT : Hid _ := hub
                    clear hub ha hbb hn1
                    obtain ⟨o2, ho2⟩ : ∃ o2, o2 = o ++ q := ⟨_, rfl⟩
                    have HZ : Hid (bindL U (bl q) (bl s) = bl o2 ++ bindL U (bl q) ((bl s).drop (i + m))) := by
                      unfold Hid
                      rw [HI.out.2, HDR.out, HU.out, bind_yes rfl CAND.out HEN.out HUT.out, ho2, bl_app, ← HDR.out, List.drop_drop]
                      simp
                    have hz2 : o2.size ≤ 500000000 := by rw [← bl_length]; exact HSZ.out _ _ HZ.out
                    have hoe : o ++ q = o2 := ho2.symm
                    clear ho2
                    go_wp2_with fail
                    refine (HEi.out _).mono ?_
                    rintro e w2 ⟨rfl, rfl⟩
                    go_wp2_with fail
                    refine (HQ.out _).mono ?_
                    rintro e w3 ⟨rfl, h3⟩
                    have H3 : Hid (Below w.heap.size w w3) := HI.out.1.trans (h3.mono HI.out.1.size)
                    clear h3
                    go_wp2
                    go_roundw
                    case rel => exact ⟨i + m, o2, by omega, by go_num, rfl, hz2, H3.out, HZ.out⟩
                    case measure => simp [intOf]; omega
                  · obtain ⟨x5, x6⟩ := ne_ba hcc
                    have NOC : Hid (∀ c m, Cand name c → endN (36 :: (bl s).drop (i + 1)) = some m → (36 :: (bl s).drop (i + 1)).take m ≠ bl c) := fun c m' hcd h ht => by
                      rw [HEN.out] at h
                      obtain rfl := Option.some.inj h
                      rw [hub] at ht
                      have he := bl_inj ht
                      rcases hcd with h1 | h1 | h1
                      · exact ha (by rw [he, h1, HCA.out.1])
                      · exact hbb (by rw [he, h1, HCA.out.2.1])
                      · exact hcc (by rw [he, h1.1, HCA.out.2.2])
                    clear hub ha hbb hcc hn1
                    obtain ⟨o2, ho2⟩ : ∃ o2, o2 = o ++ kDol := ⟨_, rfl⟩
                    have HZ : Hid (bindL U (bl q) (bl s) = bl o2 ++ bindL U (bl q) ((bl s).drop (i + 1))) := by
                      unfold Hid
                      rw [HI.out.2, HDR.out, HU.out, bind_no HHD.out NOC.out, ho2, bl_app]
                      simp [bl]
                    have hz2 : o2.size ≤ 500000000 := by rw [← bl_length]; exact HSZ.out _ _ HZ.out
                    have hoe : o ++ (⟨#[36]⟩ : ByteArray) = o2 := ho2.symm
                    clear ho2
                    go_wp2_with fail
                    refine (HEi.out _).mono ?_
                    rintro e w2 ⟨rfl, rfl⟩
                    go_wp2
                    go_roundw
                    case rel => exact ⟨i + 1, o2, by omega, by go_num, rfl, hz2, HI.out.1, HZ.out⟩
                    case measure => simp [intOf]; omega
                · have hn1i : ¬ (name.size : Int) = 1 := by omega
                  have hn1b : ((name.size : Int) == 1) = false := by simpa using hn1i
                  have NOC : Hid (∀ c m, Cand name c → endN (36 :: (bl s).drop (i + 1)) = some m → (36 :: (bl s).drop (i + 1)).take m ≠ bl c) := fun c m' hcd h ht => by
                    rw [HEN.out] at h
                    obtain rfl := Option.some.inj h
                    rw [hub] at ht
                    have he := bl_inj ht
                    rcases hcd with h1 | h1 | h1
                    · exact ha (by rw [he, h1, HCA.out.1])
                    · exact hbb (by rw [he, h1, HCA.out.2.1])
                    · exact hn1 h1.2.1
                  clear hub ha hbb hn1
                  obtain ⟨o2, ho2⟩ : ∃ o2, o2 = o ++ kDol := ⟨_, rfl⟩
                  have HZ : Hid (bindL U (bl q) (bl s) = bl o2 ++ bindL U (bl q) ((bl s).drop (i + 1))) := by
                    unfold Hid
                    rw [HI.out.2, HDR.out, HU.out, bind_no HHD.out NOC.out, ho2, bl_app]
                    simp [bl]
                  have hz2 : o2.size ≤ 500000000 := by rw [← bl_length]; exact HSZ.out _ _ HZ.out
                  have hoe : o ++ (⟨#[36]⟩ : ByteArray) = o2 := ho2.symm
                  clear ho2
                  go_wp2_with fail
                  refine (HEi.out _).mono ?_
                  rintro e w2 ⟨rfl, rfl⟩
                  go_wp2
                  go_roundw
                  case rel => exact ⟨i + 1, o2, by omega, by go_num, rfl, hz2, HI.out.1, HZ.out⟩
                  case measure => simp [intOf]; omega
      · have hc36 : ¬ s[i] = 36 := fun e => h36 (by rw [hcn, e]; rfl)
        have h36b : (cn == 36) = false := by simpa using h36
        obtain ⟨o2, ho2⟩ : ∃ o2, o2 = o ++ s.extract i (i + 1) := ⟨_, rfl⟩
        have HZ : Hid (bindL U (bl q) (bl s) = bl o2 ++ bindL U (bl q) ((bl s).drop (i + 1))) := by
          unfold Hid
          rw [HI.out.2, hdr, bindL_other _ hc36, ho2, bl_app, ext1 s i hil]; simp
        have hz2 : o2.size ≤ 500000000 := by rw [← bl_length]; exact HSZ.out _ _ HZ.out
        have hoe : o ++ s.extract i (i + 1) = o2 := ho2.symm
        clear hdr hcn hc36 ho2
        go_wp2
        go_roundw
        case rel => exact ⟨i + 1, o2, by omega, by go_num, rfl, hz2, HI.out.1, HZ.out⟩
        case measure => simp [intOf]; omega
    · have hii : ¬ (i : Int) < (s.size : Int) := by omega
      have HF : Hid (bindL U (bl q) (bl s) = bl o) := by
        unfold Hid
        rw [HI.out.2, List.drop_of_length_le (by rw [bl_length]; omega), bindL_nil, List.append_nil]
      go_wp2
      go_ret
      exact ⟨ret_str (by rw [HF.out, ba_bl]), HI.out.1⟩
end Go.Proofs.YtllpbehhbpefjaaDoor
