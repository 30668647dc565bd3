/-
  The document's Sorted.
-/
import Derived.Test.YtjbmmeneejcpbaaVP7
import Derived.Sort.Walk0
namespace Go.Proofs.Ytjbmmeneejcpbaa
open Go.RowKit Go.Shelf Go.Maps

def leX (x y : ByteArray) : Bool := decide (bl x ≤ bl y)
theorem leX_trans (a b c : ByteArray) (h1 : leX a b = true) (h2 : leX b c = true) : leX a c = true := by
  unfold leX at *; simp only [decide_eq_true_eq] at *; exact List.le_trans h1 h2
theorem leX_total (a b : ByteArray) : (leX a b || leX b a) = true := by
  unfold leX; simp only [Bool.or_eq_true, decide_eq_true_eq]; exact List.le_total _ _
theorem sorted_pw (l : List ByteArray) : (VS.sorted l).Pairwise fun x y => leX x y = true := by
  unfold VS.sorted
  refine List.pairwise_map.2 ?_
  have h := List.pairwise_mergeSort (le := fun x y : List UInt8 => decide (x ≤ y)) (fun a b c h1 h2 => by simp only [decide_eq_true_eq] at *; exact List.le_trans h1 h2) (fun a b => by simp only [Bool.or_eq_true, decide_eq_true_eq]; exact List.le_total a b) (l.map bl)
  refine h.imp fun {a b} hab => ?_
  unfold leX; rw [bl_ba, bl_ba]; exact hab
theorem sorted_perm (l : List ByteArray) : (VS.sorted l).Perm l := by
  unfold VS.sorted
  have h := (List.mergeSort_perm (l.map bl) (fun x y => decide (x ≤ y))).map ba
  rw [List.map_map, show (ba ∘ bl) = id from funext ba_bl, List.map_id] at h
  exact h
theorem sorted_len (l : List ByteArray) : (VS.sorted l).length = l.length := (sorted_perm l).length_eq
theorem sorted_eq {l m : List ByteArray} (h1 : m.Pairwise fun x y => leX x y = true) (h2 : m.Perm l) : m = VS.sorted l := by
  refine List.Perm.eq_of_pairwise (le := fun a b => leX a b = true) (fun a b _ _ h3 h4 => ?_) h1 (sorted_pw l) (h2.trans (sorted_perm l).symm)
  unfold leX at h3 h4
  simp only [decide_eq_true_eq] at h3 h4
  exact bl_inj (List.le_antisymm h3 h4)
theorem sorted_merge (a b : List ByteArray) : List.merge (VS.sorted a) (VS.sorted b) leX = VS.sorted (a ++ b) := by
  refine sorted_eq ?_ ((List.merge_perm_append (le := leX)).trans ((sorted_perm a).append (sorted_perm b)))
  exact List.pairwise_merge leX_trans leX_total _ _ (sorted_pw a) (sorted_pw b)
theorem sorted_short {l : List ByteArray} (h : l.length < 2) : VS.sorted l = l := by
  refine (sorted_eq ?_ (List.Perm.refl l)).symm
  match l, h with
  | [], _ => exact List.Pairwise.nil
  | [x], _ => exact List.pairwise_singleton _ _
theorem less_le {x y : ByteArray} (h : Op.bytesLess y.toList x.toList = false) : leX x y = true := by
  rw [bytesLess_eq, Lib.toList_data, Lib.toList_data] at h
  unfold leX
  simp only [decide_eq_true_eq]
  simp only [decide_eq_false_iff_not] at h
  exact List.not_lt.1 h
theorem less_gt {x y : ByteArray} (h : Op.bytesLess y.toList x.toList = true) : leX x y = false := by
  rw [bytesLess_eq, Lib.toList_data, Lib.toList_data] at h
  unfold leX
  simp only [decide_eq_false_iff_not]
  simp only [decide_eq_true_eq] at h
  exact fun e => (List.not_lt.2 e) h

def sliceLenOf : Value → Nat
  | .slice _ n _ => n
  | _ => 0
/-- The first of some words. -/
theorem pick0 {B : Nat} {W : World} {a : Option Addr} {n c : Nat} {x : ByteArray} {l : List ByteArray} (h : Words B W (.slice a n c) (x :: l)) : ∃ g o, a = some ⟨g, o, none⟩ ∧ g < B ∧ W.cell? ⟨g, o, none⟩ = some (.string x) := by
  obtain ⟨a', n', c', e1, _, e3⟩ := h
  simp only [Value.slice.injEq] at e1
  obtain ⟨b, o, f1, f2, f3⟩ := e3 0 (by simp)
  exact ⟨b, o, e1.1.trans f1, f2, f3⟩
/-- Words with room. -/
def WordsC (W : World) (a : Option Addr) (n c : Nat) (l : List ByteArray) : Prop := n ≤ c ∧ Words W.heap.size W (.slice a n c) l ∧ (a = none → c = 0)
theorem WordsC.below {W W' : World} {a : Option Addr} {n c : Nat} {l : List ByteArray} (h : WordsC W a n c l) (hb : Below W.heap.size W W') : WordsC W' a n c l := ⟨h.1, (h.2.1.below hb).mono hb.size, h.2.2⟩
theorem WordsC.len {W : World} {a : Option Addr} {n c : Nat} {l : List ByteArray} (h : WordsC W a n c l) : n = l.length := h.2.1.len
theorem words_head {B : Nat} {W : World} {g o n c : Nat} {l : List ByteArray} (h : Words B W (.slice (some ⟨g, o, none⟩) n c) l) (k : Nat) (hk : k ≤ n) (c' : Nat) : Words B W (.slice (some ⟨g, o, none⟩) k c') (l.take k) := by
  obtain ⟨a, n', c'', h1, h2, h3⟩ := h
  simp only [Value.slice.injEq] at h1
  obtain ⟨rfl, rfl, rfl⟩ := h1
  refine ⟨_, k, c', rfl, by rw [List.length_take]; omega, fun i hi => ?_⟩
  have hi' : i < l.length := by rw [List.length_take] at hi; omega
  obtain ⟨b, o', e1, e2, e3⟩ := h3 i hi'
  exact ⟨b, o', e1, e2, by rw [List.getElem_take]; exact e3⟩
theorem words_tail {B : Nat} {W : World} {g o n c : Nat} {l : List ByteArray} (h : Words B W (.slice (some ⟨g, o, none⟩) n c) l) (k : Nat) (hk : k ≤ n) (c' : Nat) : Words B W (.slice (some ⟨g, o + k, none⟩) (n - k) c') (l.drop k) := by
  obtain ⟨a, n', c'', h1, h2, h3⟩ := h
  simp only [Value.slice.injEq] at h1
  obtain ⟨rfl, rfl, rfl⟩ := h1
  refine ⟨_, n - k, c', rfl, by rw [List.length_drop]; omega, fun i hi => ?_⟩
  have hi' : k + i < l.length := by rw [List.length_drop] at hi; omega
  obtain ⟨b, o', e1, e2, e3⟩ := h3 (k + i) hi'
  simp only [Option.some.injEq, Addr.mk.injEq, and_true] at e1
  obtain ⟨rfl, rfl⟩ := e1
  refine ⟨g, o + k, rfl, e2, ?_⟩
  rw [List.getElem_drop, Nat.add_assoc]; exact e3
theorem words_zero {B : Nat} {W : World} (a : Option Addr) (c : Nat) : Words B W (.slice a 0 c) [] := ⟨a, 0, c, rfl, rfl, fun _ hi => absurd hi (Nat.not_lt_zero _)⟩

theorem strs_one (l : List ByteArray) : ∀ u ∈ l.map Value.string, u.oneCell' = true := by
  intro u hu
  obtain ⟨x, _, rfl⟩ := List.mem_map.1 hu; rfl
theorem wordsC_of_owns {base m : Nat} {W : World} {v : Value} {l : List ByteArray} (h : W.ownsRow base 9 1 v m (l.map Value.string)) (hm : m = l.length) : ∃ a c, v = .slice a m c ∧ WordsC W a m c l := by
  subst hm
  have hw := words_of_owns h (Nat.le_refl _)
  rcases row_src h with ⟨rfl, h0, _⟩ | ⟨g, cap, rfl, _, hc, _, _⟩
  · exact ⟨none, 0, by rw [h0], by omega, by rw [h0]; exact hw, fun _ => rfl⟩
  · exact ⟨_, cap, rfl, hc, hw, fun e => by cases e⟩
/-- Words behind a row of one's own, where there are none, too. -/
theorem append_words {w : World} {ops : Array Oper} {rest : List Oper} {o : Oper} {a : Go.Act} {Q : Exit → Go.Act → World → Prop} (hgd : o.guard = none) (s x : Operand)
    (ho : o.op = .call { callee := .builtin .append, args := #[s, x], argTypes := #[41, 41] }) (base : Nat) (v : Value) (n : Nat) (xs : List Value) (hs : a.eval s = v) (hown : w.ownsRow base 9 1 v n xs)
    (B : Nat) (ao : Option Addr) (m c : Nat) (l : List ByteArray) (hx : a.eval x = .slice ao m c) (hW : Words B w (.slice ao m c) l) (hc : m ≤ c) (hno : ao = none → c = 0) (hsz : n + m ≤ 1000000) (hbase : base ≤ w.heap.size)
    (h : ∀ v' w', w'.ownsRow base 9 1 v' (n + m) (xs ++ l.map Value.string) → w.grownBy w' v.ownBlock → wpList Try.prog ops Q rest (a.put o.dst v') w') : wpList Try.prog ops Q (o :: rest) a w := by
  obtain ⟨i0, hi, hz0, hz1, hz2⟩ := info_parts infoS9
  have hml := hW.len
  cases ao with
  | none =>
    obtain rfl : c = 0 := hno rfl
    obtain rfl : m = 0 := by omega
    have hl : l = [] := List.length_eq_zero_iff.1 hml.symm
    refine wpList_append_own_none hgd s x 41 ho base 9 i0 1 Try.underlying41 hi v n xs hs hown hx (h v w ?_ ⟨rfl, rfl, rfl, Nat.le_refl _, fun _ _ _ => rfl⟩)
    rw [hl]; simpa using hown
  | some ad =>
    refine wpList_append_own _ hgd s x 41 ho base 9 i0 (.string ⟨#[]⟩) 1 16 Try.underlying41 hi hz0 hz1 hz2 rfl (by decide) v n xs hs hown ad m c (l.map Value.string) hx (by rw [List.length_map]; omega) (fun j u hj => ?_) (strs_one l) (by unfold maxLen; omega) (by omega) hbase fun v' w' h2 h3 _ => h v' w' h2 h3
    rw [List.getElem?_map] at hj
    obtain ⟨y, hy, rfl⟩ := Option.map_eq_some_iff.1 hj
    obtain ⟨hjl, rfl⟩ := List.getElem?_eq_some_iff.1 hy
    obtain ⟨a', n', c', e1, _, e3⟩ := hW
    simp only [Value.slice.injEq] at e1
    obtain ⟨b, o', f1, f2, f3⟩ := e3 j hjl
    rw [← e1.1] at f1
    simp only [Option.some.injEq] at f1
    subst f1
    rw [add_none]; exact f3

set_option maxRecDepth 20000 in
set_option maxHeartbeats 4000000 in
theorem rsorted_step (a : Option Addr) (n c : Nat) (l : List ByteArray) (w : World) (hw : WordsC w a n c l) (hn : n ≤ 4096)
    (IH : ∀ (a' : Option Addr) (n' c' : Nat) (l' : List ByteArray) (W : World), n' < n → WordsC W a' n' c' l' → Calls Try.prog 39 #[.slice a' n' c'] W fun e w' => ∃ a2 c2, e = .returned (.slice a2 n' c2) ∧ WordsC w' a2 n' c2 (VS.sorted l') ∧ Below W.heap.size W w') :
    Calls Try.prog 39 #[.slice a n c] w fun e w' => ∃ a2 c2, e = .returned (.slice a2 n c2) ∧ WordsC w' a2 n c2 (VS.sorted l) ∧ Below w.heap.size w w' := by
  have hnl := hw.len
  by_cases h2 : n < 2
  · have HS : Hid (WordsC w a n c (VS.sorted l)) := by rw [sorted_short (by omega)]; exact hw
    have h2i : (n : Int) < 2 := by omega
    clear hw IH hnl
    go_enter Try.func39, Try.ntmps39
    go_wp2
    go_ret
    exact ⟨a, c, rfl, HS.out, Below.refl _ _⟩
  · have h2i : ¬ (n : Int) < 2 := by omega
    obtain ⟨i0, hi, hz0, hz1, hz2⟩ := info_parts infoS9
    obtain ⟨g, o, c', hsl, hg, _⟩ := hw.2.1.at (by intro e; rw [e] at hnl; simp at hnl; omega)
    simp only [Value.slice.injEq] at hsl
    obtain ⟨rfl, -, -⟩ := hsl
    obtain ⟨h, hh⟩ : ∃ h, h = n / 2 := ⟨_, rfl⟩
    have hh1 : 1 ≤ h := by omega
    have hh2 : h < n := by omega
    have hdv : (n : Int) / 2 = (h : Int) := by omega
    have hdt : (n : Int).tdiv 2 = (h : Int) := by rw [Int.tdiv_eq_ediv_of_nonneg (by omega)]; exact hdv
    have hwrp : IntKind.i64.wrap ((n : Int) / 2) = (h : Int) := by rw [hdv]; exact wrapI (by omega) (by omega)
    have HNL : Hid (n = l.length) := hnl
    clear hdv hdt hnl
    have hh0 : (0 : Int) ≤ (h : Int) := by omega
    have hcn := hw.1
    have hhc : (h : Int) ≤ (c : Int) := by omega
    have hhn : (h : Int) ≤ (n : Int) := by omega
    have hnc : (n : Int) ≤ (c : Int) := by omega
    have H1 : Hid (∀ (v : Value) W, v = .slice (some ⟨g, o, none⟩) h c → Below w.heap.size w W → Calls Try.prog 39 #[v] W fun e w' => ∃ a2 c2, e = .returned (.slice a2 h c2) ∧ WordsC w' a2 h c2 (VS.sorted (l.take h)) ∧ Below W.heap.size W w' ∧ Below w.heap.size w w') := fun v W hv hB => hv ▸
      (IH _ h c (l.take h) W hh2 ⟨by omega, ((words_head hw.2.1 h (by omega) c).below hB).mono hB.size, fun e => (by cases e)⟩).mono fun _ _ ⟨a2, c2, h1, h2, h3⟩ => ⟨a2, c2, h1, h2, h3, hB.trans (h3.mono hB.size)⟩
    have H2 : Hid (∀ (v : Value) W, v = .slice (some ⟨g, o + h, none⟩) (n - h) (c - h) → Below w.heap.size w W → Calls Try.prog 39 #[v] W fun e w' => ∃ a2 c2, e = .returned (.slice a2 (n - h) c2) ∧ WordsC w' a2 (n - h) c2 (VS.sorted (l.drop h)) ∧ Below W.heap.size W w' ∧ Below w.heap.size w w') := fun v W hv hB => hv ▸
      (IH _ (n - h) (c - h) (l.drop h) W (by omega) ⟨by omega, ((words_tail hw.2.1 h (by omega) (c - h)).below hB).mono hB.size, fun e => (by cases e)⟩).mono fun _ _ ⟨a2, c2, h1, h2, h3⟩ => ⟨a2, c2, h1, h2, h3, hB.trans (h3.mono hB.size)⟩
    have HMg : Hid (List.merge (VS.sorted (l.take h)) (VS.sorted (l.drop h)) leX = VS.sorted l) := by rw [Hid, sorted_merge, List.take_append_drop]
    have hch : ¬ c = h := by omega
    clear IH hw hh
    go_enter Try.func39, Try.ntmps39
    go_wp2
    go_region_held3 (fun W => Below w.heap.size w W)
      (first | exact (Below.refl _ _).drew | assumption | exact (Below.drew ‹_›))
      (first
        | (go_at_call 39; refine (H1.out _ _ (by rfl) (by assumption)).mono ?_; rintro e w1 ⟨a1, c1, rfl, hwc1, hbw1, hbl1⟩)
        | (go_at_call 39; refine (H2.out _ _ (by rfl) (by assumption)).mono ?_; rintro e w2 ⟨a2, c2, rfl, hwc2, hbw2, hbl2⟩))
    have hA0 : Words w2.heap.size w2 (.slice a1 h c1) (VS.sorted (l.take h)) ∧ h ≤ c1 ∧ (a1 = none → c1 = 0) := ⟨(hwc1.below hbw2).2.1, hwc1.1, hwc1.2.2⟩
    have hB0 : Words w2.heap.size w2 (.slice a2 (n - h) c2) (VS.sorted (l.drop h)) ∧ n - h ≤ c2 ∧ (a2 = none → c2 = 0) := ⟨hwc2.2.1, hwc2.1, hwc2.2.2⟩
    have HA0 : Hid (Words w2.heap.size w2 (.slice a1 h c1) (VS.sorted (l.take h)) ∧ h ≤ c1 ∧ (a1 = none → c1 = 0)) := hA0
    have HB0 : Hid (Words w2.heap.size w2 (.slice a2 (n - h) c2) (VS.sorted (l.drop h)) ∧ n - h ≤ c2 ∧ (a2 = none → c2 = 0)) := hB0
    have hlow : Below w.heap.size w w2 := hbl2
    have HLw : Hid (Below w.heap.size w w2) := hlow
    have hnn : h + (n - h) = n := by omega
    clear hA0 hB0 hwc1 hwc2 hbw1 hbw2 hbl1 hbl2 H1 H2 hlow
    go_wp2
    go_loopw [3, 4, 5] (fun va vb vo wr => ∃ (aa : Option Addr) (na ca : Nat) (la : List ByteArray) (ab : Option Addr) (nb cb : Nat) (lb : List ByteArray) (k : Nat) (lo : List ByteArray), va = .slice aa na ca ∧ vb = .slice ab nb cb ∧ wr.ownsRow w2.heap.size 9 1 vo k (lo.map Value.string) ∧ k + na + nb = n ∧ Hid (Words w2.heap.size w2 (.slice aa na ca) la ∧ na ≤ ca ∧ (aa = none → ca = 0)) ∧ Hid (Words w2.heap.size w2 (.slice ab nb cb) lb ∧ nb ≤ cb ∧ (ab = none → cb = 0)) ∧ Hid (k = lo.length ∧ lo ++ List.merge la lb leX = VS.sorted l) ∧ Below w2.heap.size w2 wr)
      (fun va vb _ _ => (sliceLenOf va) + (sliceLenOf vb))
    case atStart => exact ⟨a1, h, c1, _, a2, n - h, c2, _, 0, [], rfl, rfl, World.ownsRow_nil _ _ _ _, by omega, HA0, HB0, ⟨rfl, by rw [List.nil_append]; exact HMg.out⟩, Below.refl _ _⟩
    case round =>
      obtain ⟨aa, na, ca, la, ab, nb, cb, lb, k, lo, rfl, rfl, hrow, hsum, HA, HB, HM, hb⟩ := hrel
      have hbs := hb.size
      obtain ⟨au, cu, hu⟩ := owns_slice hrow
      subst hu
      clear HA0 HB0 HMg
      by_cases hna : 0 < na
      · by_cases hnb : 0 < nb
        · have hnai : (0 : Int) < (na : Int) := by omega
          have hnbi : (0 : Int) < (nb : Int) := by omega
          have hal := HA.out.1.len
          have hbl := HB.out.1.len
          obtain ⟨x, la', rfl⟩ : ∃ x la', la = x :: la' := by cases la with | nil => simp at hal; omega | cons x t => exact ⟨x, t, rfl⟩
          obtain ⟨y, lb', rfl⟩ : ∃ y lb', lb = y :: lb' := by cases lb with | nil => simp at hbl; omega | cons x t => exact ⟨x, t, rfl⟩
          obtain ⟨g1, o1, rfl, hg1, y1⟩ := pick0 (HA.out.1.below hb)
          obtain ⟨g2, o2, rfl, hg2, y2⟩ := pick0 (HB.out.1.below hb)
          have HCa : Hid (ca = 1 → na = 1) := fun e => by have := HA.out.2.1; omega
          have HCb : Hid (cb = 1 → nb = 1) := fun e => by have := HB.out.2.1; omega
          have hca1 : (1 : Int) ≤ (na : Int) := by omega
          have hcb1 : (1 : Int) ≤ (nb : Int) := by omega
          clear hal hbl
          cases hls : Op.bytesLess y.toList x.toList
          · have HM2 : Hid (k + 1 = (lo ++ [x]).length ∧ (lo ++ [x]) ++ List.merge la' (y :: lb') leX = VS.sorted l) := by
              have := HM.out
              refine ⟨by rw [List.length_append, this.1]; rfl, ?_⟩
              rw [List.append_assoc, ← this.2, List.cons_merge_cons, if_pos (less_le hls)]; rfl
            have HT : Hid (Words w2.heap.size w2 (.slice (some ⟨g1, o1 + 1, none⟩) (na - 1) (ca - 1)) la') := words_tail HA.out.1 1 (by omega) (ca - 1)
            have HT0 : Hid (ca = 1 → Words w2.heap.size w2 (.slice (some ⟨g1, o1, none⟩) (na - 1) (ca - 1)) la' ∧ na - 1 = 0 ∧ ca - 1 = 0) := fun e => by
              have h1 := HCa.out e
              have h2 := HA.out.1.len
              simp at h2
              have h3 : la' = [] := List.length_eq_zero_iff.1 (by omega)
              rw [h3, h1]
              exact ⟨words_zero _ _, rfl, by omega⟩
            have HXc : Hid (na ≤ ca) := HA.out.2.1
            have HCX : Hid (ca = 1 → na = 1) := HCa
            clear HM HA HCa HCb
            by_cases hc1 : ca = 1
            · obtain ⟨ht1, ht2, ht3⟩ := HT0.out hc1
              have HTT : Hid (Words w2.heap.size w2 (.slice (some ⟨g1, o1, none⟩) 0 0) la') := by rw [ht2, ht3] at ht1; exact ht1
              have hn1 : na = 1 := HCX.out hc1
              subst hc1
              subst hn1
              clear ht1 ht2 ht3 HT HT0 HCX
              go_wp2_with fail
              go_quiet (fail)
              have hq : Below wr.heap.size wr (wr.drewN nq) := below_drewN (Below.refl _ _) nq
              have hb5 : Below w2.heap.size w2 (wr.drewN nq) := hb.trans (hq.mono hbs)
              have hrow5 := owns_below hrow hq
              have z1 : (wr.drewN nq).cell? ⟨g1, o1, none⟩ = some (.string x) := (hq.cell (p := ⟨g1, o1, none⟩) (Nat.lt_of_lt_of_le hg1 hbs)).trans y1
              clear hq hrow hb y1 y2
              generalize wr.drewN nq = w5 at hb5 hrow5 z1 ⊢
              have hs5 := hb5.size
              go_wp2_with (at_builtin; refine wpList_append_own _ rfl _ _ 41 rfl w2.heap.size 9 i0 (.string ⟨#[]⟩) 1 16 Try.underlying41 hi hz0 hz1 hz2 rfl (by decide) _ _ _ rfl (hrow5.alloc _) ⟨w5.heap.size, 0, none⟩ 1 1 [.string x] rfl rfl (cell_one_new _ _ _) (by intro u hu; simp at hu; subst hu; rfl) (by unfold maxLen; omega) (by omega) (by simp; omega) ?_)
              intro v' w6 hown' hgrow _
              have hb6 : Below w2.heap.size w2 w6 := (hb5.alloc hs5 _).grown hgrow (by simp; omega) (fun k hk => (hrow5.lt k hk).1)
              clear hgrow hrow5 hb5 z1
              obtain ⟨a3, c3, hv3⟩ := owns_slice hown'
              subst hv3
              go_wp2
              go_roundw
              case rel => exact ⟨_, _, _, la', _, _, _, y :: lb', k + 1, lo ++ [x], rfl, rfl, by rw [List.map_append]; exact hown', by omega, ⟨HTT.out, Nat.le_refl _, fun _ => rfl⟩, HB, HM2, hb6⟩
              case measure => first | (simp [sliceLenOf]; done) | (simp [sliceLenOf]; omega)
            · have HTT : Hid (Words w2.heap.size w2 (.slice (some ⟨g1, o1 + 1, none⟩) (na - 1) (ca - 1)) la' ∧ na - 1 ≤ ca - 1 ∧ (some (⟨g1, o1 + 1, none⟩ : Addr) = none → ca - 1 = 0)) := ⟨HT.out, by have := HXc.out; omega, fun e => by cases e⟩
              clear HT HT0 HCX
              go_wp2_with fail
              go_quiet (fail)
              have hq : Below wr.heap.size wr (wr.drewN nq) := below_drewN (Below.refl _ _) nq
              have hb5 : Below w2.heap.size w2 (wr.drewN nq) := hb.trans (hq.mono hbs)
              have hrow5 := owns_below hrow hq
              have z1 : (wr.drewN nq).cell? ⟨g1, o1, none⟩ = some (.string x) := (hq.cell (p := ⟨g1, o1, none⟩) (Nat.lt_of_lt_of_le hg1 hbs)).trans y1
              clear hq hrow hb y1 y2
              generalize wr.drewN nq = w5 at hb5 hrow5 z1 ⊢
              have hs5 := hb5.size
              go_wp2_with (at_builtin; refine wpList_append_own _ rfl _ _ 41 rfl w2.heap.size 9 i0 (.string ⟨#[]⟩) 1 16 Try.underlying41 hi hz0 hz1 hz2 rfl (by decide) _ _ _ rfl (hrow5.alloc _) ⟨w5.heap.size, 0, none⟩ 1 1 [.string x] rfl rfl (cell_one_new _ _ _) (by intro u hu; simp at hu; subst hu; rfl) (by unfold maxLen; omega) (by omega) (by simp; omega) ?_)
              intro v' w6 hown' hgrow _
              have hb6 : Below w2.heap.size w2 w6 := (hb5.alloc hs5 _).grown hgrow (by simp; omega) (fun k hk => (hrow5.lt k hk).1)
              clear hgrow hrow5 hb5 z1
              obtain ⟨a3, c3, hv3⟩ := owns_slice hown'
              subst hv3
              go_wp2
              go_roundw
              case rel => exact ⟨_, _, _, la', _, _, _, y :: lb', k + 1, lo ++ [x], rfl, rfl, by rw [List.map_append]; exact hown', by omega, HTT, HB, HM2, hb6⟩
              case measure => first | (simp [sliceLenOf]; done) | (simp [sliceLenOf]; omega)
          · have HM2 : Hid (k + 1 = (lo ++ [y]).length ∧ (lo ++ [y]) ++ List.merge (x :: la') lb' leX = VS.sorted l) := by
              have := HM.out
              refine ⟨by rw [List.length_append, this.1]; rfl, ?_⟩
              rw [List.append_assoc, ← this.2, List.cons_merge_cons, if_neg (by rw [less_gt hls]; simp)]; rfl
            have HT : Hid (Words w2.heap.size w2 (.slice (some ⟨g2, o2 + 1, none⟩) (nb - 1) (cb - 1)) lb') := words_tail HB.out.1 1 (by omega) (cb - 1)
            have HT0 : Hid (cb = 1 → Words w2.heap.size w2 (.slice (some ⟨g2, o2, none⟩) (nb - 1) (cb - 1)) lb' ∧ nb - 1 = 0 ∧ cb - 1 = 0) := fun e => by
              have h1 := HCb.out e
              have h2 := HB.out.1.len
              simp at h2
              have h3 : lb' = [] := List.length_eq_zero_iff.1 (by omega)
              rw [h3, h1]
              exact ⟨words_zero _ _, rfl, by omega⟩
            have HXc : Hid (nb ≤ cb) := HB.out.2.1
            have HCX : Hid (cb = 1 → nb = 1) := HCb
            clear HM HB HCa HCb
            by_cases hc1 : cb = 1
            · obtain ⟨ht1, ht2, ht3⟩ := HT0.out hc1
              have HTT : Hid (Words w2.heap.size w2 (.slice (some ⟨g2, o2, none⟩) 0 0) lb') := by rw [ht2, ht3] at ht1; exact ht1
              have hn1 : nb = 1 := HCX.out hc1
              subst hc1
              subst hn1
              clear ht1 ht2 ht3 HT HT0 HCX
              go_wp2_with fail
              go_quiet (fail)
              have hq : Below wr.heap.size wr (wr.drewN nq) := below_drewN (Below.refl _ _) nq
              have hb5 : Below w2.heap.size w2 (wr.drewN nq) := hb.trans (hq.mono hbs)
              have hrow5 := owns_below hrow hq
              have z1 : (wr.drewN nq).cell? ⟨g2, o2, none⟩ = some (.string y) := (hq.cell (p := ⟨g2, o2, none⟩) (Nat.lt_of_lt_of_le hg2 hbs)).trans y2
              clear hq hrow hb y1 y2
              generalize wr.drewN nq = w5 at hb5 hrow5 z1 ⊢
              have hs5 := hb5.size
              go_wp2_with (at_builtin; refine wpList_append_own _ rfl _ _ 41 rfl w2.heap.size 9 i0 (.string ⟨#[]⟩) 1 16 Try.underlying41 hi hz0 hz1 hz2 rfl (by decide) _ _ _ rfl (hrow5.alloc _) ⟨w5.heap.size, 0, none⟩ 1 1 [.string y] rfl rfl (cell_one_new _ _ _) (by intro u hu; simp at hu; subst hu; rfl) (by unfold maxLen; omega) (by omega) (by simp; omega) ?_)
              intro v' w6 hown' hgrow _
              have hb6 : Below w2.heap.size w2 w6 := (hb5.alloc hs5 _).grown hgrow (by simp; omega) (fun k hk => (hrow5.lt k hk).1)
              clear hgrow hrow5 hb5 z1
              obtain ⟨a3, c3, hv3⟩ := owns_slice hown'
              subst hv3
              go_wp2
              go_roundw
              case rel => exact ⟨_, _, _, x :: la', _, _, _, lb', k + 1, lo ++ [y], rfl, rfl, by rw [List.map_append]; exact hown', by omega, HA, ⟨HTT.out, Nat.le_refl _, fun _ => rfl⟩, HM2, hb6⟩
              case measure => first | (simp [sliceLenOf]; done) | (simp [sliceLenOf]; omega)
            · have HTT : Hid (Words w2.heap.size w2 (.slice (some ⟨g2, o2 + 1, none⟩) (nb - 1) (cb - 1)) lb' ∧ nb - 1 ≤ cb - 1 ∧ (some (⟨g2, o2 + 1, none⟩ : Addr) = none → cb - 1 = 0)) := ⟨HT.out, by have := HXc.out; omega, fun e => by cases e⟩
              clear HT HT0 HCX
              go_wp2_with fail
              go_quiet (fail)
              have hq : Below wr.heap.size wr (wr.drewN nq) := below_drewN (Below.refl _ _) nq
              have hb5 : Below w2.heap.size w2 (wr.drewN nq) := hb.trans (hq.mono hbs)
              have hrow5 := owns_below hrow hq
              have z1 : (wr.drewN nq).cell? ⟨g2, o2, none⟩ = some (.string y) := (hq.cell (p := ⟨g2, o2, none⟩) (Nat.lt_of_lt_of_le hg2 hbs)).trans y2
              clear hq hrow hb y1 y2
              generalize wr.drewN nq = w5 at hb5 hrow5 z1 ⊢
              have hs5 := hb5.size
              go_wp2_with (at_builtin; refine wpList_append_own _ rfl _ _ 41 rfl w2.heap.size 9 i0 (.string ⟨#[]⟩) 1 16 Try.underlying41 hi hz0 hz1 hz2 rfl (by decide) _ _ _ rfl (hrow5.alloc _) ⟨w5.heap.size, 0, none⟩ 1 1 [.string y] rfl rfl (cell_one_new _ _ _) (by intro u hu; simp at hu; subst hu; rfl) (by unfold maxLen; omega) (by omega) (by simp; omega) ?_)
              intro v' w6 hown' hgrow _
              have hb6 : Below w2.heap.size w2 w6 := (hb5.alloc hs5 _).grown hgrow (by simp; omega) (fun k hk => (hrow5.lt k hk).1)
              clear hgrow hrow5 hb5 z1
              obtain ⟨a3, c3, hv3⟩ := owns_slice hown'
              subst hv3
              go_wp2
              go_roundw
              case rel => exact ⟨_, _, _, x :: la', _, _, _, lb', k + 1, lo ++ [y], rfl, rfl, by rw [List.map_append]; exact hown', by omega, HA, HTT, HM2, hb6⟩
              case measure => first | (simp [sliceLenOf]; done) | (simp [sliceLenOf]; omega)
        · have hal := HA.out.1.len
          have hbl := HB.out.1.len
          have hnbi : ¬ (0 : Int) < (nb : Int) := by omega
          have hnai : (0 : Int) < (na : Int) := by omega
          have HFin : Hid (lo.map Value.string ++ (la.map Value.string ++ lb.map Value.string) = (VS.sorted l).map Value.string ∧ n = (VS.sorted l).length) := by
            have hm := HM.out
            have e : lo ++ la ++ lb = VS.sorted l := by rw [← hm.2, show lb = [] from List.length_eq_zero_iff.1 (by omega), List.merge_right, List.append_nil]
            exact ⟨by rw [← e, List.map_append, List.map_append, List.append_assoc], by rw [sorted_len]; exact HNL.out⟩
          have WA := HA.out.1.below hb
          have hA2 := HA.out.2
          have HB5 : Hid (∀ W, Below w2.heap.size w2 W → Words w2.heap.size W (.slice ab nb cb) lb) := fun W hB => HB.out.1.below hB
          have hB2 := HB.out.2
          clear hal hbl HM HA HB
          go_wp2_with (at_builtin; refine append_words rfl (.tmp 53) (.tmp 54) rfl w2.heap.size _ _ _ rfl hrow w2.heap.size aa na ca la rfl WA hA2.1 hA2.2 (by omega) hbs ?_)
          intro v1 w5 hown1 hgrow1
          have hb5 : Below w2.heap.size w2 w5 := hb.grown hgrow1 hbs (fun k hk => (hrow.lt k hk).1)
          have WB := HB5.out w5 hb5
          obtain ⟨a4, c4, hv4⟩ := owns_slice hown1
          subst hv4
          clear hgrow1 WA
          go_wp2_with (at_builtin; refine append_words rfl (.tmp 55) (.tmp 56) rfl w2.heap.size _ _ _ rfl hown1 w2.heap.size ab nb cb lb rfl WB hB2.1 hB2.2 (by omega) hb5.size ?_)
          intro v2 w6 hown2 hgrow2
          have hb6 : Below w2.heap.size w2 w6 := hb5.grown hgrow2 hb5.size (fun k hk => (hown1.lt k hk).1)
          rw [HFin.out.1] at hown2
          obtain ⟨a3, c3, hv3, hwc⟩ := wordsC_of_owns hown2 HFin.out.2
          subst hv3
          have HE : Hid (WordsC w6 a3 n c3 (VS.sorted l) ∧ Below w.heap.size w w6) := ⟨hwc, HLw.out.trans (hb6.mono HLw.out.size)⟩
          clear hown2 hgrow2 hown1 hwc WB hb5 hb6
          go_wp2
          go_ret
          exact ⟨a3, c3, rfl, HE.out.1, HE.out.2⟩
      · have hal := HA.out.1.len
        have hbl := HB.out.1.len
        have hnai : ¬ (0 : Int) < (na : Int) := by omega
        have HFin : Hid (lo.map Value.string ++ (la.map Value.string ++ lb.map Value.string) = (VS.sorted l).map Value.string ∧ n = (VS.sorted l).length) := by
          have hm := HM.out
          have e : lo ++ la ++ lb = VS.sorted l := by rw [← hm.2, show la = [] from List.length_eq_zero_iff.1 (by omega), List.nil_merge, List.append_nil]
          exact ⟨by rw [← e, List.map_append, List.map_append, List.append_assoc], by rw [sorted_len]; exact HNL.out⟩
        have WA := HA.out.1.below hb
        have hA2 := HA.out.2
        have HB5 : Hid (∀ W, Below w2.heap.size w2 W → Words w2.heap.size W (.slice ab nb cb) lb) := fun W hB => HB.out.1.below hB
        have hB2 := HB.out.2
        clear hal hbl HM HA HB
        go_wp2_with (at_builtin; refine append_words rfl (.tmp 53) (.tmp 54) rfl w2.heap.size _ _ _ rfl hrow w2.heap.size aa na ca la rfl WA hA2.1 hA2.2 (by omega) hbs ?_)
        intro v1 w5 hown1 hgrow1
        have hb5 : Below w2.heap.size w2 w5 := hb.grown hgrow1 hbs (fun k hk => (hrow.lt k hk).1)
        have WB := HB5.out w5 hb5
        obtain ⟨a4, c4, hv4⟩ := owns_slice hown1
        subst hv4
        clear hgrow1 WA
        go_wp2_with (at_builtin; refine append_words rfl (.tmp 55) (.tmp 56) rfl w2.heap.size _ _ _ rfl hown1 w2.heap.size ab nb cb lb rfl WB hB2.1 hB2.2 (by omega) hb5.size ?_)
        intro v2 w6 hown2 hgrow2
        have hb6 : Below w2.heap.size w2 w6 := hb5.grown hgrow2 hb5.size (fun k hk => (hown1.lt k hk).1)
        rw [HFin.out.1] at hown2
        obtain ⟨a3, c3, hv3, hwc⟩ := wordsC_of_owns hown2 HFin.out.2
        subst hv3
        have HE : Hid (WordsC w6 a3 n c3 (VS.sorted l) ∧ Below w.heap.size w w6) := ⟨hwc, HLw.out.trans (hb6.mono HLw.out.size)⟩
        clear hown2 hgrow2 hown1 hwc WB hb5 hb6
        go_wp2
        go_ret
        exact ⟨a3, c3, rfl, HE.out.1, HE.out.2⟩
theorem rsorted_any (N : Nat) : ∀ (a : Option Addr) (n c : Nat) (l : List ByteArray) (w : World), n ≤ N → n ≤ 4096 → WordsC w a n c l →
    Calls Try.prog 39 #[.slice a n c] w fun e w' => ∃ a2 c2, e = .returned (.slice a2 n c2) ∧ WordsC w' a2 n c2 (VS.sorted l) ∧ Below w.heap.size w w' := by
  induction N with
  | zero =>
    intro a n c l w hN hn hw
    exact rsorted_step a n c l w hw hn (fun a' n' c' l' W h _ => by omega)
  | succ N ih =>
    intro a n c l w hN hn hw
    exact rsorted_step a n c l w hw hn (fun a' n' c' l' W h hW => ih a' n' c' l' W (by omega) (by omega) hW)
end Go.Proofs.Ytjbmmeneejcpbaa
