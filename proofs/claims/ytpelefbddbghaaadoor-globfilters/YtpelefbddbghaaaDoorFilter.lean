/-
  What the program's Filter, the document's own Filter, and its Same answer: the words that match, in order.
-/
import Derived.Test.YtpelefbddbghaaaDoorRead
import Derived.Test.YtpelefbddbghaaaDoorRefMatch
namespace Go.Proofs.YtpelefbddbghaaaDoor
open Go.RowKit

/-- A slice value that reads as a list of texts, its row below block B. -/
def Words (B : Nat) (W : World) (v : Value) (l : List ByteArray) : Prop :=
  ∃ a n c, v = .slice a n c ∧ n = l.length ∧ ∀ i (h : i < l.length), ∃ b o, a = some ⟨b, o, none⟩ ∧ b < B ∧ W.cell? ⟨b, o + i, none⟩ = some (.string l[i])
theorem Words.below {B : Nat} {W W1 : World} {v : Value} {l : List ByteArray} (h : Words B W v l) (hb : Below B W W1) : Words B W1 v l := by
  obtain ⟨a, n, c, h1, h2, h3⟩ := h
  refine ⟨a, n, c, h1, h2, fun i hi => ?_⟩
  obtain ⟨b, o, e1, e2, e3⟩ := h3 i hi
  exact ⟨b, o, e1, e2, by rw [hb.cell (p := ⟨b, o + i, none⟩) e2]; exact e3⟩
theorem Words.mono {B B' : Nat} {W : World} {v : Value} {l : List ByteArray} (h : Words B W v l) (hB : B ≤ B') : Words B' W v l := by
  obtain ⟨a, n, c, h1, h2, h3⟩ := h
  refine ⟨a, n, c, h1, h2, fun i hi => ?_⟩
  obtain ⟨b, o, e1, e2, e3⟩ := h3 i hi
  exact ⟨b, o, e1, by omega, e3⟩
theorem Words.drewN {B : Nat} {W : World} {v : Value} {l : List ByteArray} (h : Words B W v l) (n : Nat) : Words B (W.drewN n) v l := h.below (below_drewN (Below.refl _ _) n)
theorem Words.at {B : Nat} {W : World} {v : Value} {l : List ByteArray} (h : Words B W v l) (hne : l ≠ []) :
    ∃ b o c, v = .slice (some ⟨b, o, none⟩) l.length c ∧ b < B ∧ ∀ i (hi : i < l.length), W.cell? ⟨b, o + i, none⟩ = some (.string l[i]) := by
  obtain ⟨a, n, c, h1, h2, h3⟩ := h
  obtain ⟨b, o, e1, e2, _⟩ := h3 0 (List.length_pos_iff.mpr hne)
  refine ⟨b, o, c, by rw [h1, e1, h2], e2, fun i hi => ?_⟩
  obtain ⟨b', o', e1', _, e3⟩ := h3 i hi
  rw [e1] at e1'
  simp only [Option.some.injEq, Addr.mk.injEq, and_true] at e1'
  rw [e1'.1, e1'.2]; exact e3
theorem words_of_owns {B base : Nat} {W : World} {v : Value} {l : List ByteArray} (h : W.ownsRow base 9 1 v l.length (l.map Value.string)) (hB : W.heap.size ≤ B) : Words B W v l := by
  obtain ⟨hxl, ⟨hv, hn⟩ | ⟨g, cap, cur, hv, hg, hcur, hcap, hcm, hcs, hct⟩⟩ := h
  · exact ⟨none, 0, 0, hv, hn.symm, fun i hi => by omega⟩
  · have hgl : g < W.heap.size := (Array.getElem?_eq_some_iff.1 hcur).1
    refine ⟨some ⟨g, 0, none⟩, l.length, cap, hv, rfl, fun i hi => ⟨g, 0, rfl, by omega, ?_⟩⟩
    have hjc : cur.toList[i]? = some (.string l[i]) := by
      have h2 : (cur.toList.take (l.length * 1))[i]? = (l.map Value.string)[i]? := by rw [hct]
      rw [List.getElem?_take_of_lt (by omega)] at h2
      rw [h2]; simp [List.getElem?_eq_getElem hi]
    simp only [World.cell?, hcur]
    simpa using hjc

theorem owns_below {base n : Nat} {e : TypeId} {size : Nat} {W W1 : World} {v : Value} {xs : List Value} (h : W.ownsRow base e size v n xs) (hb : Below W.heap.size W W1) : W1.ownsRow base e size v n xs :=
  h.kept (row := none) ⟨hb.os, hb.tape, hb.output, hb.size, fun k hk _ => hb.block k hk⟩ (by by_cases h : v.ownBlock = none; exact Or.inl h; exact Or.inr h)

def hit (p : ByteArray) (x : ByteArray) : Bool := G.matchB p.data.toList x.data.toList
theorem filt_snoc (f : ByteArray → Bool) (l : List ByteArray) (k : Nat) (h : k < l.length) : (l.take (k + 1)).filter f = (l.take k).filter f ++ (if f l[k] then [l[k]] else []) := by
  rw [List.take_succ_eq_append_getElem h, List.filter_append, List.filter_cons, List.filter_nil]
theorem filt_len (f : ByteArray → Bool) (l : List ByteArray) (k : Nat) : ((l.take k).filter f).length ≤ l.length := by
  have := List.length_filter_le f (l.take k); simp at this; omega

theorem Tryd.info9 : (Tryd.prog.info? 9).map (fun i => (i.zero, i.size, i.bytes)) = some (some (.string ⟨#[]⟩), 1, 16) := by kernel_rfl

set_option maxHeartbeats 1600000 in
set_option maxRecDepth 20000 in
theorem reffilter_some (p : ByteArray) (l : List ByteArray) (b o c : Nat) (w : World) (hp : p.size ≤ 2000) (hl : l.length ≤ 200) (hx : ∀ i (h : i < l.length), (l[i]).size ≤ 2000) (hbw : b < w.heap.size)
    (hc : ∀ i (h : i < l.length), w.cell? ⟨b, o + i, none⟩ = some (.string l[i])) :
    Calls Tryd.prog 17 #[.string p, .slice (some ⟨b, o, none⟩) l.length c] w fun e w' => ∃ v, e = .returned v ∧ Words w'.heap.size w' v (l.filter (hit p)) ∧ Below w.heap.size w w' := by
  obtain ⟨i0, hi, hz0, hz1, hz2⟩ := info_parts Tryd.info9
  obtain ⟨n, hn⟩ : ∃ n, n = l.length := ⟨_, rfl⟩
  have HC : Hid (n = l.length ∧ (∀ i (h : i < l.length), (l[i]).size ≤ 2000) ∧ (∀ i (h : i < l.length), w.cell? ⟨b, o + i, none⟩ = some (.string l[i]))) := ⟨hn, hx, hc⟩
  rw [← hn] at hl ⊢
  clear hx hc hn
  go_enter Tryd.func17, Tryd.ntmps17
  go_wp2
  go_loopw [5, 6] (fun v vi wr => ∃ k : Nat, k ≤ n ∧ vi = .int .i64 k ∧ wr.ownsRow w.heap.size 9 1 v ((l.take k).filter (hit p)).length (((l.take k).filter (hit p)).map Value.string) ∧ Below w.heap.size w wr)
    (fun _ vi _ => n - (intOf vi).toNat)
  case atStart => exact ⟨0, Nat.zero_le _, rfl, World.ownsRow_nil _ _ _ _, Below.refl _ _⟩
  case round =>
    obtain ⟨k, hk, rfl, hown, hb⟩ := hrel
    have hbs := hb.size
    by_cases hlt : k < n
    · have hkl : k < l.length := by rw [← HC.out.1]; exact hlt
      have hfl := filt_len (hit p) l k
      rw [← HC.out.1] at hfl
      have hil : (k : Int) < (n : Int) := by omega
      obtain ⟨x, hxe⟩ : ∃ x, x = l[k] := ⟨_, rfl⟩
      have hcx : wr.cell? ⟨b, o + k, none⟩ = some (.string x) := by rw [hb.cell (p := ⟨b, o + k, none⟩) hbw, hxe]; exact HC.out.2.2 k hkl
      have hxs : x.size ≤ 2000 := by rw [hxe]; exact HC.out.2.1 k hkl
      obtain ⟨m, hm⟩ : ∃ m, m = hit p x := ⟨_, rfl⟩
      have HM : Hid (∀ W, Calls Tryd.prog 12 #[.string p, .string x] W fun e w' => e = .returned (.bool m) ∧ Below W.heap.size W w') := by
        intro W; rw [hm]; exact refmatch_any p x W (by omega) (by omega)
      have HF : Hid ((l.take (k + 1)).filter (hit p) = (l.take k).filter (hit p) ++ (if m then [x] else [])) := by
        rw [hm, hxe]; exact filt_snoc _ l k hkl
      clear hm hxe
      cases m
      · go_wp2_with fail
        refine (HM.out _).mono ?_
        rintro e w1 ⟨rfl, hb1⟩
        have hown1 := owns_below hown hb1
        have hb2 := hb.trans (hb1.mono hbs)
        clear hown hb hb1
        go_wp2
        go_roundw
        case rel => exact ⟨k + 1, by omega, by go_num, by rw [HF.out]; simpa using hown1, hb2⟩
        case measure => simp [intOf]; omega
      · go_wp2_with fail
        refine (HM.out _).mono ?_
        rintro e w1 ⟨rfl, hb1⟩
        have hown1 := owns_below hown hb1
        have hb2 := hb.trans (hb1.mono hbs)
        have hbs2 := hb2.size
        have hcx1 : w1.cell? ⟨b, o + k, none⟩ = some (.string x) := by rw [hb1.cell (p := ⟨b, o + k, none⟩) (Nat.lt_of_lt_of_le hbw hbs)]; exact hcx
        clear hown hb hb1 hcx
        go_wp2_with (at_builtin; refine wpList_append_own _ rfl _ _ 25 rfl w.heap.size 9 i0 (.string ⟨#[]⟩) 1 16 Tryd.underlying25 hi hz0 hz1 hz2 rfl (by decide) _ _ _ rfl (hown1.alloc _) ⟨w1.heap.size, 0, none⟩ 1 1 [.string x] rfl rfl ?c1 ?c2 ?c3 ?c4 ?c5 ?_)
        case c1 =>
          intro j u hj
          match j, hj with
          | 0, hj => simp at hj; subst hj; simp [Addr.add]
        case c2 => intro u hu; simp at hu; subst hu; rfl
        case c3 => unfold maxLen; omega
        case c4 => omega
        case c5 => simp; omega
        intro v' w2 hown' hgrow _
        have hb3 : Below w.heap.size w w2 := (hb2.alloc hbs2 _).grown hgrow (by simp; omega) (fun k hk => (hown1.lt k hk).1)
        have hown2 : w2.ownsRow w.heap.size 9 1 v' ((l.take (k + 1)).filter (hit p)).length (((l.take (k + 1)).filter (hit p)).map Value.string) := by
          rw [HF.out]; simpa using hown'
        clear hown' hgrow hown1 hb2 hcx1
        go_wp2
        go_roundw
        case rel => exact ⟨k + 1, by omega, by go_num, hown2, hb3⟩
        case measure => simp [intOf]; omega
    · obtain rfl : k = n := by omega
      have hown2 : wr.ownsRow w.heap.size 9 1 u5 (l.filter (hit p)).length ((l.filter (hit p)).map Value.string) := by
        have h := hown
        rw [HC.out.1, List.take_length] at h; exact h
      have hw := words_of_owns hown2 (Nat.le_refl _)
      clear hown hown2
      go_wp2
      go_ret
      exact ⟨_, rfl, hw, hb⟩

set_option maxHeartbeats 1600000 in
set_option maxRecDepth 20000 in
theorem reffilter_none (p : ByteArray) (a : Option Addr) (c : Nat) (w : World) :
    Calls Tryd.prog 17 #[.string p, .slice a 0 c] w fun e w' => e = .returned (.slice none 0 0) ∧ Below w.heap.size w w' := by
  go_enter Tryd.func17, Tryd.ntmps17
  go_wp2
  refine wp_loop_rounds 1 ?_
  rw [rounds_succ]
  go_wp2
  go_ret
  exact ⟨rfl, Below.refl _ _⟩

theorem reffilter_any (p : ByteArray) (l : List ByteArray) (v : Value) (w : World) (hp : p.size ≤ 2000) (hl : l.length ≤ 200) (hx : ∀ i (h : i < l.length), (l[i]).size ≤ 2000) (hw : Words w.heap.size w v l) :
    Calls Tryd.prog 17 #[.string p, v] w fun e w' => ∃ v, e = .returned v ∧ Words w'.heap.size w' v (l.filter (hit p)) ∧ Below w.heap.size w w' := by
  by_cases hne : l = []
  · subst hne
    obtain ⟨a, n, c, rfl, hn, _⟩ := hw
    simp at hn; subst hn
    refine (reffilter_none p a c w).mono ?_
    rintro e w' ⟨rfl, hb⟩
    exact ⟨_, rfl, ⟨none, 0, 0, rfl, rfl, fun i hi => by simp at hi⟩, hb⟩
  · obtain ⟨b, o, c, rfl, hb, hc⟩ := hw.at hne
    exact reffilter_some p l b o c w hp hl hx hb hc

set_option maxHeartbeats 1600000 in
set_option maxRecDepth 20000 in
theorem filter_some (p : ByteArray) (l : List ByteArray) (b o c : Nat) (w : World) (hp : p.size ≤ 2000) (hl : l.length ≤ 200) (hx : ∀ i (h : i < l.length), (l[i]).size ≤ 2000) (hbw : b < w.heap.size)
    (hc : ∀ i (h : i < l.length), w.cell? ⟨b, o + i, none⟩ = some (.string l[i])) :
    Calls Tryd.prog 16 #[.string p, .slice (some ⟨b, o, none⟩) l.length c] w fun e w' => ∃ v, e = .returned v ∧ Words w'.heap.size w' v (l.filter (hit p)) ∧ Below w.heap.size w w' := by
  obtain ⟨i0, hi, hz0, hz1, hz2⟩ := info_parts Tryd.info9
  obtain ⟨n, hn⟩ : ∃ n, n = l.length := ⟨_, rfl⟩
  have HC : Hid (n = l.length ∧ (∀ i (h : i < l.length), (l[i]).size ≤ 2000) ∧ (∀ i (h : i < l.length), w.cell? ⟨b, o + i, none⟩ = some (.string l[i]))) := ⟨hn, hx, hc⟩
  obtain ⟨L, hL⟩ : ∃ L, L = Lib.lastIndexByte p 93 := ⟨_, rfl⟩
  have HR : Hid (∀ W, Calls Tryd.prog 20 #[.string p] W fun e w' => e = .returned (.agg #[.string p, .int .i64 L]) ∧ Below W.heap.size W w') := by
    intro W; rw [hL]; exact read_any p W (by omega)
  have HLO : Hid (LastOk p L) := by rw [hL]; exact last_ok p
  rw [← hn] at hl ⊢
  clear hx hc hn hL
  go_enter Tryd.func16, Tryd.ntmps16
  go_wp2_with fail
  refine (HR.out _).mono ?_
  rintro e w0 ⟨rfl, hb0⟩
  have hbs0 := hb0.size
  go_wp2
  go_loopw [6, 13] (fun v vi wr => ∃ k : Nat, k ≤ n ∧ vi = .int .i64 k ∧ wr.ownsRow (w0.heap.size + 1) 9 1 v ((l.take k).filter (hit p)).length (((l.take k).filter (hit p)).map Value.string) ∧ Below (w0.heap.size + 1) (w0.alloc (.cells #[.string p, .int .i64 L] 35)) wr)
    (fun _ vi _ => n - (intOf vi).toNat)
  case atStart => exact ⟨0, Nat.zero_le _, rfl, World.ownsRow_nil _ _ _ _, Below.refl _ _⟩
  case round =>
    obtain ⟨k, hk, rfl, hown, hb⟩ := hrel
    have hbs : w0.heap.size + 1 ≤ wr.heap.size := by have := hb.size; simpa using this
    have hy0 : wr.cell? ⟨w0.heap.size, 0, none⟩ = some (.string p) := by rw [hb.cell (p := ⟨w0.heap.size, 0, none⟩) (by simp)]; simp
    have hy1 : wr.cell? ⟨w0.heap.size, 1, none⟩ = some (.int .i64 L) := by rw [hb.cell (p := ⟨w0.heap.size, 1, none⟩) (by simp)]; simp
    have hbw0 : Below w.heap.size w wr := (hb0.trans ((below_out hb).mono hbs0))
    by_cases hlt : k < n
    · have hkl : k < l.length := by rw [← HC.out.1]; exact hlt
      have hfl := filt_len (hit p) l k
      rw [← HC.out.1] at hfl
      have hil : (k : Int) < (n : Int) := by omega
      obtain ⟨x, hxe⟩ : ∃ x, x = l[k] := ⟨_, rfl⟩
      have hcx : wr.cell? ⟨b, o + k, none⟩ = some (.string x) := by rw [hbw0.cell (p := ⟨b, o + k, none⟩) hbw, hxe]; exact HC.out.2.2 k hkl
      have hxs : x.size ≤ 2000 := by rw [hxe]; exact HC.out.2.1 k hkl
      obtain ⟨m, hm⟩ : ∃ m, m = hit p x := ⟨_, rfl⟩
      have HM : Hid (∀ W, Calls Tryd.prog 21 #[.agg #[.string p, .int .i64 L], .string x] W fun e w' => e = .returned (.bool m) ∧ Below W.heap.size W w') := by
        intro W; rw [hm]; exact matches_any p x L W (by omega) (by omega) HLO.out
      have HF : Hid ((l.take (k + 1)).filter (hit p) = (l.take k).filter (hit p) ++ (if m then [x] else [])) := by
        rw [hm, hxe]; exact filt_snoc _ l k hkl
      clear hm hxe
      cases m
      · go_wp2_with fail
        refine (HM.out _).mono ?_
        rintro e w1 ⟨rfl, hb1⟩
        have hown1 := owns_below hown hb1
        have hb2 := hb.trans (hb1.mono hbs)
        clear hown hb hb1
        go_wp2
        go_roundw
        case rel => exact ⟨k + 1, by omega, by go_num, by rw [HF.out]; simpa using hown1, hb2⟩
        case measure => simp [intOf]; omega
      · go_wp2_with fail
        refine (HM.out _).mono ?_
        rintro e w1 ⟨rfl, hb1⟩
        have hown1 := owns_below hown hb1
        have hb2 := hb.trans (hb1.mono hbs)
        have hbs2 : w0.heap.size + 1 ≤ w1.heap.size := by have := hb2.size; simpa using this
        clear hown hb hb1 hcx
        go_wp2_with (at_builtin; refine wpList_append_own _ rfl _ _ 25 rfl (w0.heap.size + 1) 9 i0 (.string ⟨#[]⟩) 1 16 Tryd.underlying25 hi hz0 hz1 hz2 rfl (by decide) _ _ _ rfl (hown1.alloc _) ⟨w1.heap.size, 0, none⟩ 1 1 [.string x] rfl rfl ?c1 ?c2 ?c3 ?c4 ?c5 ?_)
        case c1 =>
          intro j u hj
          match j, hj with
          | 0, hj => simp at hj; subst hj; simp [Addr.add]
        case c2 => intro u hu; simp at hu; subst hu; rfl
        case c3 => unfold maxLen; omega
        case c4 => omega
        case c5 => simp; omega
        intro v' w2 hown' hgrow _
        have hb3 : Below (w0.heap.size + 1) (w0.alloc (.cells #[.string p, .int .i64 L] 35)) w2 := (hb2.alloc hbs2 _).grown hgrow (by simp; omega) (fun k hk => (hown1.lt k hk).1)
        have hown2 : w2.ownsRow (w0.heap.size + 1) 9 1 v' ((l.take (k + 1)).filter (hit p)).length (((l.take (k + 1)).filter (hit p)).map Value.string) := by
          rw [HF.out]; simpa using hown'
        clear hown' hgrow hown1 hb2
        go_wp2
        go_roundw
        case rel => exact ⟨k + 1, by omega, by go_num, hown2, hb3⟩
        case measure => simp [intOf]; omega
    · obtain rfl : k = n := by omega
      have hown2 : wr.ownsRow (w0.heap.size + 1) 9 1 u6 (l.filter (hit p)).length ((l.filter (hit p)).map Value.string) := by
        have h := hown
        rw [HC.out.1, List.take_length] at h; exact h
      have hw := words_of_owns hown2 (Nat.le_refl _)
      clear hown hown2
      go_wp2
      go_ret
      exact ⟨_, rfl, hw, hbw0⟩

set_option maxHeartbeats 1600000 in
set_option maxRecDepth 20000 in
theorem filter_none (p : ByteArray) (a : Option Addr) (c : Nat) (w : World) (hp : p.size ≤ 2000) :
    Calls Tryd.prog 16 #[.string p, .slice a 0 c] w fun e w' => e = .returned (.slice none 0 0) ∧ Below w.heap.size w w' := by
  obtain ⟨L, hL⟩ : ∃ L, L = Lib.lastIndexByte p 93 := ⟨_, rfl⟩
  have HR : Hid (∀ W, Calls Tryd.prog 20 #[.string p] W fun e w' => e = .returned (.agg #[.string p, .int .i64 L]) ∧ Below W.heap.size W w') := by
    intro W; rw [hL]; exact read_any p W (by omega)
  clear hL
  go_enter Tryd.func16, Tryd.ntmps16
  go_wp2_with fail
  refine (HR.out _).mono ?_
  rintro e w0 ⟨rfl, hb0⟩
  go_wp2
  refine wp_loop_rounds 1 ?_
  rw [rounds_succ]
  go_wp2
  go_ret
  exact ⟨rfl, hb0.alloc hb0.size _⟩

theorem filter_any (p : ByteArray) (l : List ByteArray) (v : Value) (w : World) (hp : p.size ≤ 2000) (hl : l.length ≤ 200) (hx : ∀ i (h : i < l.length), (l[i]).size ≤ 2000) (hw : Words w.heap.size w v l) :
    Calls Tryd.prog 16 #[.string p, v] w fun e w' => ∃ v, e = .returned v ∧ Words w'.heap.size w' v (l.filter (hit p)) ∧ Below w.heap.size w w' := by
  by_cases hne : l = []
  · subst hne
    obtain ⟨a, n, c, rfl, hn, _⟩ := hw
    simp at hn; subst hn
    refine (filter_none p a c w hp).mono ?_
    rintro e w' ⟨rfl, hb⟩
    exact ⟨_, rfl, ⟨none, 0, 0, rfl, rfl, fun i hi => by simp at hi⟩, hb⟩
  · obtain ⟨b, o, c, rfl, hb, hc⟩ := hw.at hne
    exact filter_some p l b o c w hp hl hx hb hc

set_option maxHeartbeats 1600000 in
theorem same_some (l : List ByteArray) (b1 o1 c1 b2 o2 c2 : Nat) (w : World) (hl : l.length ≤ 1000000)
    (h1 : ∀ i (h : i < l.length), w.cell? ⟨b1, o1 + i, none⟩ = some (.string l[i])) (h2 : ∀ i (h : i < l.length), w.cell? ⟨b2, o2 + i, none⟩ = some (.string l[i])) :
    Calls Tryd.prog 15 #[.slice (some ⟨b1, o1, none⟩) l.length c1, .slice (some ⟨b2, o2, none⟩) l.length c2] w fun e w' => e = .returned (.bool true) ∧ ∃ n, w' = w.drewN n := by
  obtain ⟨n, hn⟩ : ∃ n, n = l.length := ⟨_, rfl⟩
  have HC : Hid (n = l.length ∧ (∀ i (h : i < l.length), w.cell? ⟨b1, o1 + i, none⟩ = some (.string l[i])) ∧ (∀ i (h : i < l.length), w.cell? ⟨b2, o2 + i, none⟩ = some (.string l[i]))) := ⟨hn, h1, h2⟩
  rw [← hn] at hl ⊢
  clear h1 h2 hn
  go_enter Tryd.func15, Tryd.ntmps15
  go_wp2
  go_loopw [5] (fun vi wr => ∃ k m : Nat, k ≤ n ∧ vi = .int .i64 k ∧ wr = w.drewN m) (fun vi _ => n - (intOf vi).toNat)
  case atStart => exact ⟨0, 0, Nat.zero_le _, rfl, rfl⟩
  case round =>
    obtain ⟨k, m, hk, rfl, rfl⟩ := hrel
    by_cases hlt : k < n
    · have hkl : k < l.length := by rw [← HC.out.1]; exact hlt
      have hil : (k : Int) < (n : Int) := by omega
      have e1 := HC.out.2.1 k hkl
      have e2 := HC.out.2.2 k hkl
      obtain ⟨x, hxe⟩ : ∃ x, x = l[k] := ⟨_, rfl⟩
      rw [← hxe] at e1 e2
      clear hxe
      go_wp2
      go_quiet (fail)
      go_wp2
      go_roundw
      case rel => exact ⟨k + 1, _, by omega, by go_num, rfl⟩
      case measure => simp [intOf]; omega
    · go_wp2
      go_ret
      exact ⟨rfl, _, rfl⟩

set_option maxHeartbeats 1600000 in
theorem same_none (a1 a2 : Option Addr) (c1 c2 : Nat) (w : World) :
    Calls Tryd.prog 15 #[.slice a1 0 c1, .slice a2 0 c2] w fun e w' => e = .returned (.bool true) ∧ ∃ n, w' = w.drewN n := by
  go_enter Tryd.func15, Tryd.ntmps15
  go_wp2
  refine wp_loop_rounds 1 ?_
  rw [rounds_succ]
  go_wp2
  go_ret
  exact ⟨rfl, 0, rfl⟩

theorem same_any (l : List ByteArray) (v1 v2 : Value) (B1 B2 : Nat) (w : World) (hl : l.length ≤ 1000000) (h1 : Words B1 w v1 l) (h2 : Words B2 w v2 l) :
    Calls Tryd.prog 15 #[v1, v2] w fun e w' => e = .returned (.bool true) ∧ ∃ n, w' = w.drewN n := by
  by_cases hne : l = []
  · subst hne
    obtain ⟨a, n, c, rfl, hn, _⟩ := h1
    obtain ⟨a', n', c', rfl, hn', _⟩ := h2
    simp at hn hn'; subst hn; subst hn'
    exact same_none a a' c c' w
  · obtain ⟨b, o, c, rfl, hb, hc⟩ := h1.at hne
    obtain ⟨b', o', c', rfl, hb', hc'⟩ := h2.at hne
    exact same_some l b o c b' o' c' w hl hc hc'
end Go.Proofs.YtpelefbddbghaaaDoor
