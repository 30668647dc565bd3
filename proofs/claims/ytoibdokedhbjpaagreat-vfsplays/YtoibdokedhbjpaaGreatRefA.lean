/-
  What the document's own rooted, split and join answer.
-/
import Derived.Test.YtoibdokedhbjpaaGreatWords
import Derived.Deep.OwnRows
import Derived.Deep.RegionHeld3
namespace Go.Proofs.YtoibdokedhbjpaaGreat
open Go.RowKit Go.Shelf

namespace G
theorem splitL_snoc {c : UInt8} (hc : c ≠ 47) (t : Bs) : ∀ {ini : List Bs} {l : Bs}, splitL t = ini ++ [l] → splitL (t ++ [c]) = ini ++ [l ++ [c]] := by
  induction t with
  | nil =>
    intro ini l h
    have h1 : ini = [] := by
      cases ini with
      | nil => rfl
      | cons a b => simp [splitL] at h
    subst h1
    simp [splitL] at h
    subst h
    simp [splitL, hc]
  | cons d t ih =>
    intro ini l h
    by_cases hd : d = 47
    · subst hd
      rw [splitL_cons_eq] at h
      rw [List.cons_append, splitL_cons_eq]
      cases ini with
      | nil => simp at h; exact absurd h.2 (splitL_ne t)
      | cons a b =>
        simp only [List.cons_append, List.cons.injEq] at h
        rw [ih h.2, h.1]; rfl
    · obtain ⟨h0, t0, h1, h2⟩ := splitL_cons_ne hd t
      obtain ⟨h0', t0', h3, h4⟩ := splitL_cons_ne hd (t ++ [c])
      rw [h2] at h
      rw [List.cons_append, h4]
      cases ini with
      | nil =>
        simp only [List.nil_append, List.cons.injEq] at h
        have := ih (ini := []) (l := h0) (by rw [h1, h.2]; rfl)
        rw [this] at h3
        simp only [List.nil_append, List.cons.injEq] at h3
        rw [← h3.1, ← h3.2, ← h.1]; rfl
      | cons a b =>
        simp only [List.cons_append, List.cons.injEq] at h
        have := ih (ini := h0 :: b) (l := l) (by rw [h1, h.2]; rfl)
        rw [this] at h3
        simp only [List.cons_append, List.cons.injEq] at h3
        rw [← h3.1, ← h3.2, ← h.1]; rfl
theorem splitL_stroke (t : Bs) : splitL (t ++ [47]) = splitL t ++ [[]] := splitL_append t []
end G

def str (l : G.Bs) : Value := .string (ba l)
theorem str_pieces (p : ByteArray) : (G.splitL (bl p)).map str = (pieces p).map Value.string := by
  unfold pieces; rw [List.map_map]; rfl
theorem take_snoc (s : ByteArray) (k : Nat) (h : k < s.size) : (bl s).take (k + 1) = (bl s).take k ++ [s[k]] := by
  rw [List.take_succ_eq_append_getElem (by rw [bl_length]; exact h)]; rfl
theorem one_byte (s : ByteArray) (k : Nat) (h : k < s.size) : bl (s.extract k (k + 1)) = [s[k]] := by
  simp only [bl, ByteArray.data_extract, Array.toList_extract, List.extract_eq_take_drop]
  rw [List.drop_eq_getElem_cons (by simpa using h)]
  simp; rfl
theorem split_push {s : ByteArray} {k : Nat} (h : k < s.size) {A : List Value} {y : ByteArray} (hc : s[k] ≠ 47) (hs : (G.splitL ((bl s).take k)).map str = A ++ [.string y]) :
    (G.splitL ((bl s).take (k + 1))).map str = A ++ [.string (y ++ s.extract k (k + 1))] := by
  obtain ⟨ini, l2, h1, h2, h3⟩ := List.map_eq_append_iff.1 hs
  obtain ⟨l, l3, h4, h5, h6⟩ := List.map_eq_cons_iff.1 h3
  have hl3 : l3 = [] := by simpa using h6
  subst hl3
  subst h4
  have hy : ba l = y := by simpa [str] using h5
  rw [take_snoc s k h, G.splitL_snoc hc _ h1, List.map_append, h2]
  congr 1
  simp only [List.map_cons, List.map_nil, str, List.cons.injEq, and_true, Value.string.injEq]
  apply bl_inj
  rw [bl_ba, show bl (y ++ s.extract k (k + 1)) = bl y ++ bl (s.extract k (k + 1)) by simp [bl], one_byte s k h, ← hy, bl_ba]
theorem split_stroke {s : ByteArray} {k : Nat} (h : k < s.size) {A : List Value} {y : ByteArray} (hc : s[k] = 47) (hs : (G.splitL ((bl s).take k)).map str = A ++ [.string y]) :
    (G.splitL ((bl s).take (k + 1))).map str = (A ++ [.string y]) ++ [.string E] := by
  rw [take_snoc s k h, hc, G.splitL_stroke, List.map_append, hs]; rfl

theorem owns_new (w : World) (x : Value) (e : TypeId) : (w.alloc (.cells #[x] e)).ownsRow w.heap.size e 1 (.slice (some ⟨w.heap.size, 0, none⟩) 1 1) 1 [x] :=
  ⟨rfl, .inr ⟨w.heap.size, 1, #[x], rfl, Nat.le_refl _, World.alloc_heap_new w _, Nat.le_refl _, by decide, rfl, rfl⟩⟩
theorem owns_last {base : Nat} {e : TypeId} {W : World} {v : Value} {A : List Value} {y : Value} (h : W.ownsRow base e 1 v (A.length + 1) (A ++ [y])) :
    ∃ g cap, v = .slice (some ⟨g, 0, none⟩) (A.length + 1) cap ∧ base ≤ g ∧ W.cell? ⟨g, A.length, none⟩ = some y ∧ W.frozen? ⟨g, A.length, none⟩ = false ∧ ∀ z n, ((W.drewN n).setCell ⟨g, A.length, none⟩ z).ownsRow base e 1 v (A.length + 1) (A ++ [z]) := by
  obtain ⟨hxl, ⟨hv, hn⟩ | ⟨g, cap, cur, hv, hg, hcur, hcap, hcm, hcs, hct⟩⟩ := h
  · omega
  · refine ⟨g, cap, hv, hg, ?_, frozen_of_row W g _ cur e hcur, fun z n => ⟨by simp, .inr ⟨g, cap, cur.setIfInBounds A.length z, hv, hg, heap_setCell_same (W.drewN n) g _ cur e z hcur, hcap, hcm, by simpa using hcs, ?_⟩⟩⟩
    · rw [cell_of_row W g _ cur e (0, 0) hcur]
      have h2 : (cur.toList.take ((A.length + 1) * 1))[A.length]? = (A ++ [y])[A.length]? := by rw [hct]
      rw [List.getElem?_take_of_lt (by omega)] at h2
      simpa using h2
    · rw [Array.toList_setIfInBounds, List.take_set, hct]
      simp
theorem byte_eq {c : UInt8} {n : Nat} (h : c.toNat = n) (d : UInt8) (hd : d.toNat = n) : c = d := UInt8.toNat_inj.mp (h.trans hd.symm)

set_option maxHeartbeats 400000 in
theorem rooted_any (p : ByteArray) (w : World) :
    Calls Tryz.prog 77 #[.string p] w fun e w' => e = .returned (.bool (G.rootedL (bl p))) ∧ w' = w := by
  by_cases hp : p.size = 0
  · have hr : G.rootedL (bl p) = false := by
      have : bl p = [] := List.length_eq_zero_iff.1 (by rw [bl_length]; exact hp)
      rw [this]; rfl
    rw [hr]
    clear hr
    go_enter Tryz.func77, Tryz.ntmps77
    go_wp2
    go_ret
    exact ⟨ret_bool (by simp_all), rfl⟩
  · have h0 : 0 < p.size := by omega
    have hr : G.rootedL (bl p) = ((p[0].toNat : Int) == 47) := by
      have hb : bl p = p[0] :: (bl p).drop 1 := by
        have := List.drop_eq_getElem_cons (l := bl p) (i := 0) (by rw [bl_length]; exact h0)
        rw [List.drop_zero] at this; exact this
      rw [hb]
      show (p[0] == 47) = _
      rw [Bool.eq_iff_iff]; simp only [beq_iff_eq]
      constructor
      · intro e; rw [e]; rfl
      · intro e; exact UInt8.toNat_inj.mp (by have : p[0].toNat = 47 := by omega
                                              rw [this]; rfl)
    rw [hr]
    clear hr
    have h0I : (0 : Int) < (p.size : Int) := by omega
    go_enter Tryz.func77, Tryz.ntmps77
    go_wp2
    go_ret
    exact ⟨rfl, rfl⟩

set_option maxHeartbeats 1600000 in
set_option maxRecDepth 20000 in
theorem split_any (s : ByteArray) (w : World) (hs : s.size ≤ 1100000) :
    Calls Tryz.prog 78 #[.string s, .int .u8 47] w fun e w' => ∃ v, e = .returned v ∧ w'.ownsRow w.heap.size 9 1 v (pieces s).length ((pieces s).map Value.string) ∧ Below w.heap.size w w' := by
  obtain ⟨i0, hi, hz0, hz1, hz2⟩ := info_parts Tryz.info9
  have hmx : Tryz.prog.follows .mixedOrders = true := by kernel_rfl
  go_enter Tryz.func78, Tryz.ntmps78
  go_wp2
  go_loopw [5, 6] (fun v vi wr => ∃ (k : Nat) (A : List Value) (y : ByteArray), k ≤ s.size ∧ vi = .int .i64 k ∧ y.size ≤ k ∧ A.length ≤ k ∧ Hid ((G.splitL ((bl s).take k)).map str = A ++ [.string y]) ∧ wr.ownsRow w.heap.size 9 1 v (A.length + 1) (A ++ [.string y]) ∧ Below w.heap.size w wr)
    (fun _ vi _ => s.size - (intOf vi).toNat)
  case atStart => exact ⟨0, [], E, Nat.zero_le _, rfl, Nat.le_refl _, Nat.le_refl _, rfl, owns_new w _ 9, (Below.refl _ w).alloc (Nat.le_refl _) _⟩
  case round =>
    obtain ⟨k, A, y, hk, rfl, hyk, hAk, HS, hown, hb⟩ := hrel
    have hbs := hb.size
    by_cases hlt : k < s.size
    · have hil : (k : Int) < (s.size : Int) := by omega
      by_cases hc : s[k].toNat = 47
      · have HN : Hid ((G.splitL ((bl s).take (k + 1))).map str = (A ++ [.string y]) ++ [.string E]) := split_stroke hlt (byte_eq hc 47 rfl) HS.out
        have hcI : ((s[k].toNat : Int) == 47) = true := by simp [hc]
        clear hc HS
        go_wp2_with (at_builtin; refine wpList_append_own _ rfl _ _ 47 rfl w.heap.size 9 i0 (.string ⟨#[]⟩) 1 16 Tryz.underlying47 hi hz0 hz1 hz2 rfl (by decide) _ _ _ rfl (hown.alloc _) ⟨wr.heap.size, 0, none⟩ 1 1 [.string E] rfl rfl ?c1 ?c2 ?c3 ?c4 ?c5 ?_)
        case c1 => exact cell_one_new _ _ _
        case c2 => intro u hu; simp at hu; subst hu; rfl
        case c3 => unfold maxLen; omega
        case c4 => omega
        case c5 => simp; omega
        intro v' w2 hown' hgrow _
        have hb3 : Below w.heap.size w w2 := (hb.alloc hbs _).grown hgrow (by simp; omega) (fun k hk => (hown.lt k hk).1)
        clear hgrow hown hb
        go_wp2
        go_roundw
        case rel => exact ⟨k + 1, A ++ [.string y], E, by omega, by go_num, Nat.zero_le _, by simp; omega, HN, by simpa using hown', hb3⟩
        case measure => simp [intOf]; omega
      · have HN : Hid ((G.splitL ((bl s).take (k + 1))).map str = A ++ [.string (y ++ s.extract k (k + 1))]) := split_push hlt (fun e => hc (by rw [e]; rfl)) HS.out
        have hcI : ((s[k].toNat : Int) == 47) = false := by simp; omega
        obtain ⟨g, cap, rfl, hbg, hcl, hfl, hset⟩ := owns_last hown
        have HO : Hid (∀ z n, ((wr.drewN n).setCell ⟨g, A.length, none⟩ z).ownsRow w.heap.size 9 1 (.slice (some ⟨g, 0, none⟩) (A.length + 1) cap) (A.length + 1) (A ++ [z])) := hset
        have hy2 : (y ++ s.extract k (k + 1)).size ≤ k + 1 := by rw [ByteArray.size_append]; simp; omega
        obtain ⟨m, hm⟩ : ∃ m, m = A.length := ⟨_, rfl⟩
        have HM : Hid (m = A.length) := hm
        rw [← hm] at hcl hfl HO hAk
        rw [← hm]
        clear hc HS hown hset hm
        go_wp2
        go_region_o
        go_wp2
        go_roundw
        case rel => exact ⟨k + 1, A, _, by omega, by go_num, hy2, by rw [← HM.out]; omega, HN, by rw [← HM.out]; exact HO.out _ 1, (below_drewN hb 1).setCell hbg _⟩
        case measure => simp [intOf]; omega
    · obtain rfl : k = s.size := by omega
      have HE : Hid (A ++ [.string y] = (pieces s).map Value.string) := by
        have := HS.out
        rw [List.take_of_length_le (by rw [bl_length]; omega), str_pieces] at this
        exact this.symm
      have HF : Hid (wr.ownsRow w.heap.size 9 1 u5 (pieces s).length ((pieces s).map Value.string)) := by
        have hl : A.length + 1 = (pieces s).length := by
          have := congrArg List.length HE.out
          simpa using this
        rw [← HE.out, ← hl]; exact hown
      clear hown HS HE
      go_wp2
      go_ret
      exact ⟨_, rfl, HF.out, hb⟩

/-! join -/
def rjoin : List G.Bs → G.Bs → G.Bs
  | [], acc => acc
  | x :: t, acc => rjoin t (acc ++ 47 :: x)
theorem rjoin_eq (t : List G.Bs) : ∀ acc, rjoin t acc = if t = [] then acc else acc ++ 47 :: G.joinL t := by
  induction t with
  | nil => intro acc; rfl
  | cons x t ih =>
    intro acc
    rw [rjoin, ih]
    by_cases ht : t = []
    · subst ht; simp [G.joinL_one]
    · simp [ht, G.joinL_cons_ne x ht]
theorem joinL_snoc (l : List G.Bs) (x : G.Bs) (h : l ≠ []) : G.joinL (l ++ [x]) = G.joinL l ++ 47 :: x := by
  induction l with
  | nil => exact absurd rfl h
  | cons y t ih =>
    by_cases ht : t = []
    · subst ht; rfl
    · rw [List.cons_append, G.joinL_cons_ne y (by simp), ih ht, G.joinL_cons_ne y ht]; simp
theorem join_take_zero (l : List ByteArray) (h : 0 < l.length) : ba (G.joinL ((l.take 1).map bl)) = l[0] := by
  cases l with
  | nil => simp at h
  | cons x t => simp [G.joinL_one, ba_bl]
theorem join_take_succ (l : List ByteArray) (k : Nat) (h : k < l.length) (h0 : 0 < k) : ba (G.joinL ((l.take (k + 1)).map bl)) = ba (G.joinL ((l.take k).map bl)) ++ ⟨#[47]⟩ ++ l[k] := by
  rw [List.take_succ_eq_append_getElem h, List.map_append, List.map_singleton, joinL_snoc _ _ (by
    intro e
    have := congrArg List.length e
    rw [List.length_map, List.length_take, List.length_nil] at this; omega)]
  apply bl_inj; simp [bl, ba]
theorem join_take_size (l : List ByteArray) (m k : Nat) (hx : ∀ i (h : i < l.length), (l[i]).size ≤ m) (hk : k ≤ l.length) : (ba (G.joinL ((l.take k).map bl))).size ≤ k * (m + 1) := by
  have h2 := G.joinL_size (m := m) ((l.take k).map bl) (by
    intro x hx'
    obtain ⟨y, hy, rfl⟩ := List.mem_map.1 hx'
    obtain ⟨i, hi, rfl⟩ := List.getElem_of_mem (List.mem_of_mem_take hy)
    rw [bl_length]; exact hx i hi)
  rw [List.length_map, List.length_take, Nat.min_eq_left hk] at h2
  rw [← bl_length, bl_ba]; exact h2

set_option maxHeartbeats 1600000 in
set_option maxRecDepth 20000 in
theorem rjoin_any (a : Option Addr) (n c B : Nat) (l : List ByteArray) (w : World) (hn : n ≤ 1100001) (hx : ∀ i (h : i < l.length), (l[i]).size ≤ 1100000) (hw : Words B w (.slice a n c) l) :
    Calls Tryz.prog 76 #[.slice a n c, .string ⟨#[47]⟩] w fun e w' => e = .returned (.string (ba (G.joinL (l.map bl)))) ∧ w' = w := by
  have HW : Hid (n = l.length ∧ Words B w (.slice a n c) l ∧ ∀ i (h : i < l.length), (l[i]).size ≤ 1100000) := ⟨hw.len, hw, hx⟩
  clear hw hx
  go_enter Tryz.func76, Tryz.ntmps76
  go_wp2
  go_loop [5, 6] (fun vs vi => ∃ (k : Nat) (z : ByteArray), k ≤ n ∧ vi = .int .i64 k ∧ vs = .string z ∧ z.size ≤ 3000000000000 ∧ Hid (z = ba (G.joinL ((l.take k).map bl)))) (fun _ vi => n - (intOf vi).toNat)
  case atStart => exact ⟨0, E, Nat.zero_le _, rfl, rfl, Nat.zero_le _, rfl⟩
  case round =>
    obtain ⟨k, z, hk, rfl, rfl, hzs, HZ⟩ := hrel
    by_cases hlt : k < n
    · have hkl : k < l.length := by rw [← HW.out.1]; exact hlt
      have hil : (k : Int) < (n : Int) := by omega
      obtain ⟨b, o, rfl, hbB, hcx⟩ := HW.out.2.1.pick k hkl
      have hxs : (l[k]).size ≤ 1100000 := HW.out.2.2 k hkl
      have HB : Hid ((ba (G.joinL ((l.take (k + 1)).map bl))).size ≤ 3000000000000) := by
        have h1 := join_take_size l 1100000 (k + 1) HW.out.2.2 hkl
        have h2 : (k + 1) * (1100000 + 1) ≤ 1100002 * (1100000 + 1) := Nat.mul_le_mul_right _ (by omega)
        exact Nat.le_trans h1 (Nat.le_trans h2 (by decide))
      obtain ⟨x, hxe⟩ : ∃ x, x = l[k] := ⟨_, rfl⟩
      rw [← hxe] at hcx hxs
      have HX : Hid (x = l[k]) := hxe
      clear hxe
      by_cases h0 : k = 0
      · subst h0
        have HN : Hid (x = ba (G.joinL ((l.take 1).map bl))) := by rw [HX.out]; exact (join_take_zero l hkl).symm
        rw [Nat.add_zero] at hcx
        have hz0 : z = E := by rw [HZ.out]; rfl
        subst hz0
        have HNE : Hid ((E : ByteArray) ++ x = x) := by apply bl_inj; simp [bl]
        clear HX HZ
        go_wp2
        go_round
        case rel => exact ⟨1, x, by omega, by go_num, by first | rfl | rw [HNE.out], by omega, HN⟩
        case measure => simp [intOf]; omega
      · have h0I : (0 : Int) < (k : Int) := by omega
        have HN : Hid (z ++ ⟨#[47]⟩ ++ x = ba (G.joinL ((l.take (k + 1)).map bl))) := by
          rw [Hid, join_take_succ l k hkl (by omega), ← HZ.out, ← HX.out]
        have s47 : (⟨#[47]⟩ : ByteArray).size = 1 := rfl
        clear HX HZ
        go_wp2
        go_round
        case rel => exact ⟨k + 1, _, by omega, by go_num, rfl, by rw [HN.out]; exact HB.out, HN⟩
        case measure => simp [intOf]; omega
    · obtain rfl : k = n := by omega
      have HE : Hid (z = ba (G.joinL (l.map bl))) := by
        have := HZ.out
        rw [HW.out.1, List.take_length] at this; exact this
      go_wp2
      go_ret
      exact ⟨ret_str HE.out, rfl⟩
end Go.Proofs.YtoibdokedhbjpaaGreat
