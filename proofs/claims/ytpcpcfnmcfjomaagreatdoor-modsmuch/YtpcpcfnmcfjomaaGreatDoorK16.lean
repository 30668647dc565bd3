/-
  DQ11
-/
import Derived.Test.YtpcpcfnmcfjomaaGreatDoorK15
import Derived.Deep.RegionHeld3
import Derived.Deep.CutRange
import Derived.Laws.AppendOwnNone
namespace Go.Proofs.YtpcpcfnmcfjomaaGreatDoor.DQ
open Go.RowKit Go.Shelf
theorem infoS9 : (Tryz.prog.info? 9).map (fun i => (i.zero, i.size, i.bytes)) = some (some (.string ⟨#[]⟩), 1, 16) := by kernel_rfl
def ltB (x y : ByteArray) : Bool := Op.bytesLess x.toList y.toList
def mergeD : List ByteArray → List ByteArray → List ByteArray
  | [], b => b
  | a, [] => a
  | x :: a, y :: b => if ltB y x = true then y :: mergeD (x :: a) b else x :: mergeD a (y :: b)
termination_by a b => a.length + b.length
def sortD : Nat → List ByteArray → List ByteArray
  | 0, l => l
  | k + 1, l => if l.length < 2 then l else mergeD (sortD k (l.take (l.length / 2))) (sortD k (l.drop (l.length / 2)))
def Ws (B : Nat) (W : World) (v : Value) (l : List ByteArray) : Prop := ∃ a c, v = .slice a l.length c ∧ (l.length ≤ c ∧ (a = none → c = 0)) ∧ ∀ i (h : i < l.length), ∃ b o, a = some ⟨b, o, none⟩ ∧ b < B ∧ W.cell? ⟨b, o + i, none⟩ = some (.string l[i])
theorem Ws.below {B : Nat} {W W1 : World} {v : Value} {l : List ByteArray} (h : Ws B W v l) (hb : Below B W W1) : Ws B W1 v l := by
  obtain ⟨a, c, h1, h2, h3⟩ := h
  refine ⟨a, c, h1, h2, fun i hi => ?_⟩
  obtain ⟨b, o, e1, e2, e3⟩ := h3 i hi
  exact ⟨b, o, e1, e2, by rw [hb.cell (p := ⟨b, o + i, none⟩) e2]; exact e3⟩
theorem Ws.mono {B B' : Nat} {W : World} {v : Value} {l : List ByteArray} (h : Ws B W v l) (hB : B ≤ B') : Ws B' W v l := by
  obtain ⟨a, c, h1, h2, h3⟩ := h
  refine ⟨a, c, h1, h2, fun i hi => ?_⟩
  obtain ⟨b, o, e1, e2, e3⟩ := h3 i hi
  exact ⟨b, o, e1, by omega, e3⟩
theorem Ws.on {W W1 : World} {v : Value} {l : List ByteArray} (h : Ws W.heap.size W v l) (hb : Below W.heap.size W W1) : Ws W1.heap.size W1 v l := (h.below hb).mono hb.size
theorem Ws.at {B : Nat} {W : World} {v : Value} {l : List ByteArray} (h : Ws B W v l) (hne : l ≠ []) : ∃ b o c, v = .slice (some ⟨b, o, none⟩) l.length c ∧ l.length ≤ c ∧ b < B ∧ ∀ i (hi : i < l.length), W.cell? ⟨b, o + i, none⟩ = some (.string l[i]) := by
  obtain ⟨a, c, h1, h2, h3⟩ := h
  obtain ⟨b, o, e1, e2, _⟩ := h3 0 (List.length_pos_iff.mpr hne)
  refine ⟨b, o, c, by rw [h1, e1], h2.1, e2, fun i hi => ?_⟩
  obtain ⟨b', o', e1', _, e3⟩ := h3 i hi
  rw [e1] at e1'
  simp only [Option.some.injEq, Addr.mk.injEq, and_true] at e1'
  rw [e1'.1, e1'.2]; exact e3
theorem Ws.words {B : Nat} {W : World} {v : Value} {l : List ByteArray} (h : Ws B W v l) : Words B W v l := by
  obtain ⟨a, c, h1, _, h3⟩ := h
  exact ⟨a, _, c, h1, rfl, h3⟩
theorem ws_nil (B : Nat) (W : World) : Ws B W (.slice none 0 0) [] := ⟨none, 0, rfl, ⟨Nat.le_refl _, fun _ => rfl⟩, fun _ hi => absurd hi (Nat.not_lt_zero _)⟩
theorem ws_of {B b o c : Nat} {W : World} {l : List ByteArray} (hb : b < B) (hc : l.length ≤ c) (h : ∀ i (hi : i < l.length), W.cell? ⟨b, o + i, none⟩ = some (.string l[i])) : Ws B W (.slice (some ⟨b, o, none⟩) l.length c) l :=
  ⟨_, c, rfl, ⟨hc, fun h => by cases h⟩, fun i hi => ⟨b, o, rfl, hb, h i hi⟩⟩
theorem ws_owns {B base : Nat} {W : World} {v : Value} {l : List ByteArray} (h : W.ownsRow base 9 1 v l.length (l.map Value.string)) (hB : W.heap.size ≤ B) : Ws B W v l := by
  obtain ⟨hxl, ⟨hv, hn⟩ | ⟨g, cap, cur, hv, hg, hcur, hcap, hcm, hcs, hct⟩⟩ := h
  · exact ⟨none, 0, by rw [hv, hn], ⟨by rw [hn]; exact Nat.le_refl _, fun _ => rfl⟩, fun i hi => by omega⟩
  · have hgl : g < W.heap.size := (Array.getElem?_eq_some_iff.1 hcur).1
    rw [hv]
    refine ws_of (by omega) hcap fun i hi => ?_
    have hjc : cur.toList[i]? = some (.string l[i]) := by
      have h2 : (cur.toList.take (l.length * 1))[i]? = (l.map Value.string)[i]? := by rw [hct]
      rw [List.getElem?_take_of_lt (by omega)] at h2
      rw [h2]; simp [List.getElem?_eq_getElem hi]
    simp only [World.cell?, hcur]
    simpa using hjc
def ListPost (w : World) (r : List ByteArray) (e : Ending) (w' : World) : Prop := ∃ v, e = .returned v ∧ Ws w'.heap.size w' v r ∧ Below w.heap.size w w'
set_option maxRecDepth 20000 in
theorem append_ws {ops : Array Oper} {rest : List Oper} {o : Oper} {a : Act} {Q : Exit → Act → World → Prop} {w : World} (hgd : o.guard = none) (s x : Operand)
    (ho : o.op = .call { callee := .builtin .append, args := #[s, x], argTypes := #[24, 24] })
    (base B : Nat) (v v2 : Value) (la lb : List ByteArray) (hs : a.eval s = v) (hown : w.ownsRow base 9 1 v la.length (la.map Value.string)) (hx : a.eval x = v2) (h2 : Ws B w v2 lb)
    (hnm : la.length + lb.length ≤ 8000000) (hbase : base ≤ w.heap.size)
    (h : ∀ v' w', w'.ownsRow base 9 1 v' (la ++ lb).length ((la ++ lb).map Value.string) → w.grownBy w' v.ownBlock → wpList Tryz.prog ops Q rest (a.put o.dst v') w') : wpList Tryz.prog ops Q (o :: rest) a w := by
  obtain ⟨i0, hi, hz0, hz1, hz2⟩ := info_of infoS9
  obtain ⟨a2, c, rfl, ⟨hc1, hc2⟩, hcell⟩ := h2
  cases a2 with
  | none =>
    obtain rfl : c = 0 := hc2 rfl
    have hb0 : lb = [] := List.length_eq_zero_iff.1 (by omega)
    subst hb0
    exact wpList_append_own_none hgd s x 24 ho base 9 i0 1 Tryz.underlying24 hi v _ _ hs hown hx (h v w (by simpa using hown) ⟨rfl, rfl, rfl, Nat.le_refl _, fun _ _ _ => rfl⟩)
  | some ad =>
    refine wpList_append_own w hgd s x 24 ho base 9 i0 (.string ⟨#[]⟩) 1 16 Tryz.underlying24 hi hz0 hz1 hz2 rfl (by decide) v _ _ hs hown ad lb.length c (lb.map Value.string) hx (by simp) (fun j u hj => ?_) (fun u hu => ?_) (by unfold maxLen; omega) (by omega) hbase ?_
    · rw [List.getElem?_map] at hj
      cases hq : lb[j]? with
      | none => rw [hq] at hj; cases hj
      | some y =>
        rw [hq] at hj
        obtain rfl : Value.string y = u := Option.some.inj hj
        obtain ⟨hjl, hjy⟩ := List.getElem?_eq_some_iff.1 hq
        obtain ⟨b, o, e1, _, e3⟩ := hcell j hjl
        obtain rfl : ad = ⟨b, o, none⟩ := Option.some.inj e1
        rw [← hjy, ← e3, DQ.add_none]
    · simp only [List.mem_map] at hu
      obtain ⟨y, _, rfl⟩ := hu
      rfl
    · intro v' w' h3 h4 _
      exact h v' w' (by rw [← List.map_append, ← List.length_append] at h3; exact h3) h4
theorem append_wr {ops : Array Oper} {rest : List Oper} {o : Oper} {a : Act} {Q : Exit → Act → World → Prop} {w : World} (hgd : o.guard = none) (s x : Operand)
    (ho : o.op = .call { callee := .builtin .append, args := #[s, x], argTypes := #[24, 24] })
    (base B : Nat) (v v2 : Value) (la lb r : List ByteArray) (hr : la ++ lb = r) (hs : a.eval s = v) (hown : w.ownsRow base 9 1 v la.length (la.map Value.string)) (hx : a.eval x = v2) (h2 : Ws B w v2 lb)
    (hnm : la.length + lb.length ≤ 8000000) (hbase : base ≤ w.heap.size)
    (h : ∀ v' w', w'.ownsRow base 9 1 v' r.length (r.map Value.string) → w.grownBy w' v.ownBlock → wpList Tryz.prog ops Q rest (a.put o.dst v') w') : wpList Tryz.prog ops Q (o :: rest) a w := by
  subst hr
  exact append_ws hgd s x ho base B v v2 la lb hs hown hx h2 hnm hbase h
theorem merge_len : ∀ a b : List ByteArray, (mergeD a b).length = a.length + b.length
  | [], b => by unfold mergeD; simp
  | x :: a, [] => by unfold mergeD; simp
  | x :: a, y :: b => by
    unfold mergeD
    split
    · simp only [List.length_cons, merge_len (x :: a) b]; omega
    · simp only [List.length_cons, merge_len a (y :: b)]; omega
termination_by a b => a.length + b.length
theorem sort_len : ∀ (k : Nat) (l : List ByteArray), (sortD k l).length = l.length
  | 0, _ => rfl
  | k + 1, l => by
    rw [sortD]
    split
    · rfl
    · rw [merge_len, sort_len k, sort_len k, List.length_take, List.length_drop]; omega
theorem merge_nl (b : List ByteArray) : mergeD [] b = b := by unfold mergeD; rfl
theorem merge_nr (a : List ByteArray) : mergeD a [] = a := by cases a <;> (unfold mergeD; rfl)
theorem merge_lt {x y : ByteArray} (a b : List ByteArray) (h : ltB y x = true) : mergeD (x :: a) (y :: b) = y :: mergeD (x :: a) b := by rw [mergeD, if_pos h]
theorem merge_ge {x y : ByteArray} (a b : List ByteArray) (h : ¬ ltB y x = true) : mergeD (x :: a) (y :: b) = x :: mergeD a (y :: b) := by rw [mergeD, if_neg h]
theorem Ws.tail {B : Nat} {W : World} {b o n c : Nat} {x : ByteArray} {l : List ByteArray} (h : Ws B W (.slice (some ⟨b, o, none⟩) (n + 1) c) (x :: l)) : (n = l.length ∧ n + 1 ≤ c ∧ b < B ∧ W.cell? ⟨b, o, none⟩ = some (.string x)) ∧ Ws B W (.slice (some ⟨b, o + 1, none⟩) n (c - 1)) l ∧ (c = 1 → Ws B W (.slice (some ⟨b, o, none⟩) n 0) l) := by
  obtain ⟨a, c', e, ⟨h1, _⟩, h3⟩ := h
  simp only [Value.slice.injEq, List.length_cons] at e h1
  obtain ⟨rfl, e2, rfl⟩ := e
  obtain rfl : n = l.length := by omega
  obtain ⟨b', o', e1, e4, e5⟩ := h3 0 (by simp)
  simp only [Option.some.injEq, Addr.mk.injEq, and_true] at e1
  obtain ⟨rfl, rfl⟩ := e1
  refine ⟨⟨rfl, h1, e4, by simpa using e5⟩, ?_, fun hc => ?_⟩
  · refine ws_of e4 (by omega) fun i hi => ?_
    obtain ⟨b', o', e1, _, e5⟩ := h3 (i + 1) (by simp; omega)
    simp only [Option.some.injEq, Addr.mk.injEq, and_true] at e1
    obtain ⟨rfl, rfl⟩ := e1
    rw [Nat.add_assoc, Nat.add_comm 1 i]
    simpa using e5
  · have : l = [] := List.length_eq_zero_iff.1 (by omega)
    subst this
    exact ⟨_, 0, rfl, ⟨Nat.le_refl _, fun h => by cases h⟩, fun i hi => absurd hi (Nat.not_lt_zero _)⟩
def lenV : Value → Nat
  | .slice _ n _ => n
  | _ => 0
theorem bt3 {w w1 w2 : World} (h : Below w.heap.size w w1) (h2 : Below w1.heap.size w1 w2) : Below w.heap.size w w2 := h.trans (h2.mono h.size)
theorem bd3 {w w1 : World} (h : Below w.heap.size w w1) : Below w.heap.size w w1.drew := h.drew
set_option maxRecDepth 20000 in
set_option maxHeartbeats 3200000 in
theorem sorted_step (k : Nat) (ih : ∀ (l : List ByteArray) (v : Value) (w : World), l.length < k → l.length ≤ 1000000 → Ws w.heap.size w v l → Calls Tryz.prog 30 #[v] w (ListPost w (sortD k l)))
    (l : List ByteArray) (v : Value) (w : World) (hk : l.length < k + 1) (hl : l.length ≤ 1000000) (hv : Ws w.heap.size w v l) : Calls Tryz.prog 30 #[v] w (ListPost w (sortD (k + 1) l)) := by
  have hv0 := hv
  obtain ⟨n, hn⟩ : ∃ n, n = l.length := ⟨_, rfl⟩
  by_cases h2 : l.length < 2
  · have HR : Hid (sortD (k + 1) l = l) := by unfold Hid; rw [sortD, if_pos h2]
    obtain ⟨a, c, rfl, _, _⟩ := hv
    have HV : Hid (Ws w.heap.size w (.slice a l.length c) l) := hv0
    rw [← hn] at HV ⊢
    have h2i : (n : Int) < 2 := by omega
    clear hv0 hn h2 hk hl
    go_enter Tryz.func30, Tryz.ntmps30
    go_wp2
    go_ret
    exact ⟨_, rfl, by rw [HR.out]; exact HV.out, Below.refl _ _⟩
  · obtain ⟨b, o, c, hve, hc, hb, hcell⟩ := hv0.at (fun h => h2 (by rw [h]; decide))
    rw [hve] at hv0 hv ⊢
    clear hve
    rw [← hn] at hc ⊢
    have h2i : ¬ (n : Int) < 2 := by omega
    obtain ⟨h, hh⟩ : ∃ h, h = n / 2 := ⟨_, rfl⟩
    have hhn : h + h ≤ n := by omega
    have hh1 : 1 ≤ h := by omega
    have q0 : (0 : Int) ≤ (h : Int) := by omega
    have q1 : (h : Int) ≤ (c : Int) := by omega
    have q2 : (h : Int) ≤ (n : Int) := by omega
    have hw : IntKind.i64.wrap ((n : Int) / 2) = (h : Int) := (wrap_small _ (by omega) (by omega)).trans (by omega)
    have hne : ¬ c = h := by omega
    have hne2 : ¬ h = c := by omega
    have HS1 : Hid (∀ W, Below w.heap.size w W → Calls Tryz.prog 30 #[.slice (some ⟨b, o, none⟩) (h) c] W (ListPost W (sortD k (l.take (h))))) := fun W hW => by
      have e : (l.take (h)).length = h := by rw [List.length_take]; omega
      refine ih (l.take (h)) _ W (by omega) (by omega) ?_
      have := ws_of (B := W.heap.size) (W := W) (b := b) (o := o) (c := c) (l := l.take (h)) (Nat.lt_of_lt_of_le hb hW.size) (by omega) (fun i hi => by rw [hW.cell (p := ⟨b, o + i, none⟩) hb, List.getElem_take]; exact hcell i (by omega))
      rw [e] at this
      exact this
    have HS2 : Hid (∀ W, Below w.heap.size w W → Calls Tryz.prog 30 #[.slice (some ⟨b, o + h, none⟩) (n - h) (c - h)] W (ListPost W (sortD k (l.drop (h))))) := fun W hW => by
      have e : (l.drop (h)).length = n - h := by rw [List.length_drop]; omega
      refine ih (l.drop (h)) _ W (by omega) (by omega) ?_
      have := ws_of (B := W.heap.size) (W := W) (b := b) (o := o + h) (c := c - h) (l := l.drop (h)) (Nat.lt_of_lt_of_le hb hW.size) (by omega) (fun i hi => by rw [hW.cell (p := ⟨b, o + h + i, none⟩) hb, List.getElem_drop, Nat.add_assoc]; exact hcell _ (by omega))
      rw [e] at this
      exact this
    have HN : Hid (n = l.length ∧ n < k + 1 ∧ h = n / 2) := ⟨hn, by omega, hh⟩
    have hnb : n ≤ 1000000 := by omega
    have HC : Hid (∀ i (hi : i < l.length), w.cell? ⟨b, o + i, none⟩ = some (.string l[i])) := hcell
    have HV : Hid (Ws w.heap.size w (.slice (some ⟨b, o, none⟩) n c) l) := by rw [hn]; exact hv0
    clear hn hk hl hcell hv0 hv h2 hh ih hhn hh1
    go_enter Tryz.func30, Tryz.ntmps30
    go_upto_region 3 with fail
    go_cut [3, 4] from 5 (fun sa sb wc => ∃ ua ub : Value, sa = ua ∧ sb = ub ∧ Hid (Ws wc.heap.size wc ua (sortD k (l.take h)) ∧ Ws wc.heap.size wc ub (sortD k (l.drop h)) ∧ Below w.heap.size w wc))
    case first =>
      go_region_with (first | (go_at_call_of 30 (Value.slice (some (Addr.mk b o none)) h c); refine (HS1.out _ (by repeat (first | with_reducible exact Below.refl _ _ | with_reducible refine bd3 ?_ | with_reducible refine bt3 ?_ (by with_reducible assumption)))).mono ?_; rintro e wa ⟨va, rfl, hva, hba⟩) | (go_at_call_of 30 (Value.slice (some (Addr.mk b (o + h) none)) (n - h) (c - h)); refine (HS2.out _ (by repeat (first | with_reducible exact Below.refl _ _ | with_reducible refine bd3 ?_ | with_reducible refine bt3 ?_ (by with_reducible assumption)))).mono ?_; rintro e wb ⟨vb, rfl, hvb, hbb⟩))
      all_goals go_wp2_with fail
      all_goals go_meet
      exact ⟨_, _, rfl, rfl, hva.on hbb, hvb, bt3 (bt3 (bd3 (Below.refl _ _)) hba) hbb⟩
    case rest =>
      obtain ⟨i0, hi, hz0, hz1, hz2⟩ := info_of infoS9
      obtain ⟨ua, ub, rfl, rfl, HCT⟩ := hcut
      obtain ⟨hA, hB, hbw⟩ := HCT.out
      have HRR : Hid (sortD (k + 1) l = mergeD (sortD k (l.take h)) (sortD k (l.drop h)) ∧ (sortD k (l.take h)).length + (sortD k (l.drop h)).length = n) := by
        refine ⟨?_, ?_⟩
        · rw [sortD, if_neg (by have := HN.out.1; omega), ← HN.out.1, ← HN.out.2.2]
        · rw [sort_len, sort_len, List.length_take, List.length_drop, ← HN.out.1]; omega
      have HBW : Hid (Below w.heap.size w wc) := hbw
      obtain ⟨X, hX⟩ : ∃ X, X = sortD k (l.take h) := ⟨_, rfl⟩
      obtain ⟨Y, hY⟩ : ∃ Y, Y = sortD k (l.drop h) := ⟨_, rfl⟩
      rw [← hX, ← hY] at HRR
      rw [← hX] at hA
      rw [← hY] at hB
      have hAB := And.intro hA hB
      have HAB : Hid _ := hAB
      clear hX hY hA hB hbw HCT HS1 HS2 hAB
      go_wp2_with fail
      obtain ⟨R, hR1⟩ : ∃ R, R = sortD (k + 1) l := ⟨_, rfl⟩
      have HR1 : Hid (R = sortD (k + 1) l) := hR1
      clear hR1
      go_loopw [3, 4, 5] (fun ua ub uo wr => ∃ x y acc : List ByteArray, Hid (Ws wc.heap.size wr ua x) ∧ Hid (Ws wc.heap.size wr ub y) ∧ wr.ownsRow wc.heap.size 9 1 uo acc.length (acc.map Value.string) ∧ Hid (acc ++ mergeD x y = sortD (k + 1) l) ∧ acc.length + x.length + y.length ≤ 1000000 ∧ Below wc.heap.size wc wr) (fun ua ub _ _ => lenV ua + lenV ub)
      case atStart => exact ⟨X, Y, [], HAB.out.1, HAB.out.2, owns_nil _ _ _ _, by unfold Hid; rw [HRR.out.1]; rfl, by have := HRR.out.2; simp; omega, Below.refl _ _⟩
      case round =>
        obtain ⟨x, y, acc, HX, HY, hown, HM, hlen, hb⟩ := hrel
        have hbs := hb.size
        have HLN : Hid (acc.length + x.length + y.length ≤ 1000000) := hlen
        have HXV := HX.out
        have HYV := HY.out
        cases x with
        | nil =>
          obtain ⟨a1, c1, rfl, _, _⟩ := HXV
          obtain ⟨a2, c2, rfl, _, _⟩ := HYV
          simp only [List.length_nil] at HX ⊢
          have hlen1 : acc.length + ([] : List ByteArray).length ≤ 8000000 := by have := HLN.out; simp at this ⊢; omega
          have hlen2 : (acc ++ []).length + (y : List ByteArray).length ≤ 8000000 := by have := HLN.out; simp at this ⊢; omega
          have HM2 : Hid ((acc ++ []) ++ y = R) := by unfold Hid; rw [HR1.out, ← HM.out, merge_nl, List.append_assoc]; first | rfl | simp
          clear HM
          obtain ⟨L2, hL2⟩ : ∃ L2, acc ++ [] = L2 := ⟨_, rfl⟩
          have HE2 : Hid (acc ++ [] = L2) := hL2
          rw [hL2] at HM2 hlen2
          have HL2 : Hid (L2.length + (y : List ByteArray).length ≤ 8000000) := hlen2
          clear hL2 hlen2
          go_wp2_with (at_builtin; refine append_wr rfl _ _ rfl wc.heap.size wc.heap.size _ _ acc [] L2 HE2.out rfl hown rfl HX.out hlen1 hbs ?_)
          intro v1 w1 hown1 hgr1
          have hb1 : Below wc.heap.size wc w1 := hb.grown hgr1 hbs (fun j hj => (hown.lt j hj).1)
          have hbt : Below wc.heap.size wr w1 := (Below.refl _ _).grown hgr1 hbs (fun j hj => (hown.lt j hj).1)
          have HY1 : Hid (Ws wc.heap.size w1 _ y) := HY.out.below hbt
          have hbs1 := hb1.size
          have HO1 : Hid (w1.ownsRow wc.heap.size 9 1 v1 L2.length (L2.map Value.string)) := hown1
          have HB1 : Hid _ := hb1
          clear hown hgr1 hb hbt hown1 hb1 hlen1
          go_wp2_with (at_builtin; refine append_wr rfl _ _ rfl wc.heap.size wc.heap.size _ _ L2 y R HM2.out rfl HO1.out rfl HY1.out HL2.out hbs1 ?_)
          intro v2 w2 hown2 hgr2
          have H2 : Hid (Ws w2.heap.size w2 v2 (sortD (k + 1) l) ∧ Below w.heap.size w w2) := by
            rw [HR1.out] at hown2
            exact ⟨ws_owns hown2 (Nat.le_refl _), bt3 HBW.out (HB1.out.grown hgr2 hbs1 (fun j hj => (HO1.out.lt j hj).1))⟩
          clear hown2 hgr2
          go_wp2_with fail
          go_ret
          exact ⟨_, rfl, H2.out.1, H2.out.2⟩
        | cons xh xt =>
          cases y with
          | nil =>
            obtain ⟨b1, o1, c1, rfl, _, _, hcx⟩ := HXV.at (by simp)
            obtain ⟨a2, c2, rfl, _, _⟩ := HYV
            clear hcx
            simp only [List.length_nil] at HY ⊢
            have p1 : (0 : Int) < ((xh :: xt).length : Int) := by simp only [List.length_cons]; omega
            generalize hnx : (xh :: xt).length = nx at HX p1 hlen ⊢
            clear hnx
            have hlen1 : acc.length + ((xh :: xt) : List ByteArray).length ≤ 8000000 := by have := HLN.out; simp at this ⊢; omega
            have hlen2 : (acc ++ (xh :: xt)).length + ([] : List ByteArray).length ≤ 8000000 := by have := HLN.out; simp at this ⊢; omega
            have HM2 : Hid ((acc ++ (xh :: xt)) ++ [] = R) := by unfold Hid; rw [HR1.out, ← HM.out, merge_nr, List.append_assoc]; first | rfl | simp
            clear HM
            obtain ⟨L2, hL2⟩ : ∃ L2, acc ++ (xh :: xt) = L2 := ⟨_, rfl⟩
            have HE2 : Hid (acc ++ (xh :: xt) = L2) := hL2
            rw [hL2] at HM2 hlen2
            have HL2 : Hid (L2.length + ([] : List ByteArray).length ≤ 8000000) := hlen2
            clear hL2 hlen2
            go_wp2_with (at_builtin; refine append_wr rfl _ _ rfl wc.heap.size wc.heap.size _ _ acc (xh :: xt) L2 HE2.out rfl hown rfl HX.out hlen1 hbs ?_)
            intro v1 w1 hown1 hgr1
            have hb1 : Below wc.heap.size wc w1 := hb.grown hgr1 hbs (fun j hj => (hown.lt j hj).1)
            have hbt : Below wc.heap.size wr w1 := (Below.refl _ _).grown hgr1 hbs (fun j hj => (hown.lt j hj).1)
            have HY1 : Hid (Ws wc.heap.size w1 _ []) := HY.out.below hbt
            have hbs1 := hb1.size
            have HO1 : Hid (w1.ownsRow wc.heap.size 9 1 v1 L2.length (L2.map Value.string)) := hown1
            have HB1 : Hid _ := hb1
            clear hown hgr1 hb hbt hown1 hb1 hlen1
            go_wp2_with (at_builtin; refine append_wr rfl _ _ rfl wc.heap.size wc.heap.size _ _ L2 [] R HM2.out rfl HO1.out rfl HY1.out HL2.out hbs1 ?_)
            intro v2 w2 hown2 hgr2
            have H2 : Hid (Ws w2.heap.size w2 v2 (sortD (k + 1) l) ∧ Below w.heap.size w w2) := by
              rw [HR1.out] at hown2
              exact ⟨ws_owns hown2 (Nat.le_refl _), bt3 HBW.out (HB1.out.grown hgr2 hbs1 (fun j hj => (HO1.out.lt j hj).1))⟩
            clear hown2 hgr2
            go_wp2_with fail
            go_ret
            exact ⟨_, rfl, H2.out.1, H2.out.2⟩
          | cons yh yt =>
            obtain ⟨b1, o1, c1, rfl, _, _, hcx⟩ := HXV.at (by simp)
            clear hcx
            obtain ⟨b2, o2, c2, rfl, _, _, hcy⟩ := HYV.at (by simp)
            clear hcy
            obtain ⟨nx, hnx⟩ : ∃ nx, nx = xt.length := ⟨_, rfl⟩
            obtain ⟨ny, hny⟩ : ∃ ny, ny = yt.length := ⟨_, rfl⟩
            simp only [List.length_cons] at HXV HYV HX HY hlen ⊢
            rw [← hnx] at HXV HX hlen ⊢
            rw [← hny] at HYV HY hlen ⊢
            obtain ⟨⟨hn1, hc1, hbb1, e1⟩, ht1, hz1'⟩ := HXV.tail
            obtain ⟨⟨hn2, hc2, hbb2, e2⟩, ht2, hz2'⟩ := HYV.tail
            have HT1 : Hid (Ws wc.heap.size wr (.slice (some ⟨b1, o1 + 1, none⟩) nx (c1 - 1)) xt ∧ (c1 = 1 → Ws wc.heap.size wr (.slice (some ⟨b1, o1, none⟩) nx 0) xt)) := ⟨ht1, hz1'⟩
            have HT2 : Hid (Ws wc.heap.size wr (.slice (some ⟨b2, o2 + 1, none⟩) ny (c2 - 1)) yt ∧ (c2 = 1 → Ws wc.heap.size wr (.slice (some ⟨b2, o2, none⟩) ny 0) yt)) := ⟨ht2, hz2'⟩
            have p1 : (0 : Int) < (nx : Int) + 1 := by omega
            have p2 : (0 : Int) < (ny : Int) + 1 := by omega
            have p3 : (1 : Int) ≤ (nx : Int) + 1 := by omega
            have p4 : (1 : Int) ≤ (ny : Int) + 1 := by omega
            clear HXV HYV ht1 ht2 hz1' hz2' hnx hny hn1 hn2
            cases hlt : Op.bytesLess yh.toList xh.toList with
            | true =>
              have hL : Op.bytesLess yh.toList xh.toList = true := hlt
              have HM2 : Hid ((acc ++ [yh]) ++ mergeD (xh :: xt) yt = sortD (k + 1) l) := by unfold Hid; rw [← HM.out, merge_lt _ _ hL, List.append_assoc]; rfl
              clear HM hlt
              go_wp2_with fail
              go_quiet (fail)
              obtain ⟨wq, hwq⟩ : ∃ wq, wq = wr.drewN nq := ⟨_, rfl⟩
              have hbq : Below wr.heap.size wr wq := by rw [hwq]; exact below_drewN (Below.refl _ _) _
              have hq1 := (hbq.cell (p := ⟨b1, o1, none⟩) (Nat.lt_of_lt_of_le hbb1 hb.size)).trans e1
              have hq2 := (hbq.cell (p := ⟨b2, o2, none⟩) (Nat.lt_of_lt_of_le hbb2 hb.size)).trans e2
              have hownq := owns_below hown hbq
              have hbw : Below wc.heap.size wc wq := bt3 hb hbq
              have hbsq := hbw.size
              have HTq : Hid (Below wc.heap.size wr wq) := hbq.mono hbs
              rw [← hwq]
              clear hwq e1 e2 hown hb hbq
              have HC1 : Hid (∀ (j : Nat) (u : Value), [Value.string yh][j]? = some u → (wq.alloc (.cells #[.string yh] 9)).cell? ((⟨wq.heap.size, 0, none⟩ : Addr).add j) = some u) := World.news_of_block (Cd.heap_new _ _)
              go_wp2_with (at_builtin; refine wpList_append_own _ rfl _ _ 24 rfl wc.heap.size 9 i0 (.string ⟨#[]⟩) 1 16 Tryz.underlying24 hi hz0 hz1 hz2 rfl (by decide) _ _ _ rfl (hownq.alloc _) ⟨wq.heap.size, 0, none⟩ 1 1 [.string yh] rfl rfl HC1.out (by intro u hu; simp at hu; subst hu; rfl) (by unfold maxLen; omega) (by omega) (by simp; omega) ?_)
              intro v' w1 hown' hgrow _
              have hb1 : Below wc.heap.size wc w1 := (hbw.alloc hbsq _).grown hgrow (by simp; omega) (fun j hj => (hownq.lt j hj).1)
              have hbt : Below wc.heap.size wr w1 := (HTq.out.alloc hbsq _).grown hgrow (by simp; omega) (fun j hj => (hownq.lt j hj).1)
              have hg1 : w1.ownsRow wc.heap.size 9 1 v' (acc ++ [yh]).length ((acc ++ [yh]).map Value.string) := by rw [List.map_append, List.length_append]; exact hown'
              have H1 : Hid (w1.ownsRow wc.heap.size 9 1 v' (acc ++ [yh]).length ((acc ++ [yh]).map Value.string) ∧ Below wc.heap.size wc w1 ∧ Below wc.heap.size wr w1) := ⟨hg1, hb1, hbt⟩
              clear hown' hgrow hownq hb1 hg1 hbt hq1 hq2
              by_cases hc : c2 = 1
              · have hcc : ¬ 1 < c2 := by omega
                go_wp2_with fail
                go_roundw
                case rel => exact ⟨xh :: xt, yt, acc ++ [yh], HX.out.below H1.out.2.2, (HT2.out.2 hc).below H1.out.2.2, H1.out.1, HM2, by have := HLN.out; simp at this ⊢; omega, H1.out.2.1⟩
                case measure => simp only [lenV]; omega
              · have hcc : ¬ 1 = c2 := fun e => hc e.symm
                go_wp2_with fail
                go_roundw
                case rel => exact ⟨xh :: xt, yt, acc ++ [yh], HX.out.below H1.out.2.2, HT2.out.1.below H1.out.2.2, H1.out.1, HM2, by have := HLN.out; simp at this ⊢; omega, H1.out.2.1⟩
                case measure => simp only [lenV]; omega
            | false =>
              have hL : Op.bytesLess yh.toList xh.toList = false := hlt
              have HM2 : Hid ((acc ++ [xh]) ++ mergeD xt (yh :: yt) = sortD (k + 1) l) := by unfold Hid; rw [← HM.out, merge_ge _ _ (by rw [ltB, hL]; decide), List.append_assoc]; rfl
              clear HM hlt
              go_wp2_with fail
              go_quiet (fail)
              obtain ⟨wq, hwq⟩ : ∃ wq, wq = wr.drewN nq := ⟨_, rfl⟩
              have hbq : Below wr.heap.size wr wq := by rw [hwq]; exact below_drewN (Below.refl _ _) _
              have hq1 := (hbq.cell (p := ⟨b1, o1, none⟩) (Nat.lt_of_lt_of_le hbb1 hb.size)).trans e1
              have hq2 := (hbq.cell (p := ⟨b2, o2, none⟩) (Nat.lt_of_lt_of_le hbb2 hb.size)).trans e2
              have hownq := owns_below hown hbq
              have hbw : Below wc.heap.size wc wq := bt3 hb hbq
              have hbsq := hbw.size
              have HTq : Hid (Below wc.heap.size wr wq) := hbq.mono hbs
              rw [← hwq]
              clear hwq e1 e2 hown hb hbq
              have HC1 : Hid (∀ (j : Nat) (u : Value), [Value.string xh][j]? = some u → (wq.alloc (.cells #[.string xh] 9)).cell? ((⟨wq.heap.size, 0, none⟩ : Addr).add j) = some u) := World.news_of_block (Cd.heap_new _ _)
              go_wp2_with (at_builtin; refine wpList_append_own _ rfl _ _ 24 rfl wc.heap.size 9 i0 (.string ⟨#[]⟩) 1 16 Tryz.underlying24 hi hz0 hz1 hz2 rfl (by decide) _ _ _ rfl (hownq.alloc _) ⟨wq.heap.size, 0, none⟩ 1 1 [.string xh] rfl rfl HC1.out (by intro u hu; simp at hu; subst hu; rfl) (by unfold maxLen; omega) (by omega) (by simp; omega) ?_)
              intro v' w1 hown' hgrow _
              have hb1 : Below wc.heap.size wc w1 := (hbw.alloc hbsq _).grown hgrow (by simp; omega) (fun j hj => (hownq.lt j hj).1)
              have hbt : Below wc.heap.size wr w1 := (HTq.out.alloc hbsq _).grown hgrow (by simp; omega) (fun j hj => (hownq.lt j hj).1)
              have hg1 : w1.ownsRow wc.heap.size 9 1 v' (acc ++ [xh]).length ((acc ++ [xh]).map Value.string) := by rw [List.map_append, List.length_append]; exact hown'
              have H1 : Hid (w1.ownsRow wc.heap.size 9 1 v' (acc ++ [xh]).length ((acc ++ [xh]).map Value.string) ∧ Below wc.heap.size wc w1 ∧ Below wc.heap.size wr w1) := ⟨hg1, hb1, hbt⟩
              clear hown' hgrow hownq hb1 hg1 hbt hq1 hq2
              by_cases hc : c1 = 1
              · have hcc : ¬ 1 < c1 := by omega
                go_wp2_with fail
                go_roundw
                case rel => exact ⟨xt, yh :: yt, acc ++ [xh], (HT1.out.2 hc).below H1.out.2.2, HY.out.below H1.out.2.2, H1.out.1, HM2, by have := HLN.out; simp at this ⊢; omega, H1.out.2.1⟩
                case measure => simp only [lenV]; omega
              · have hcc : ¬ 1 = c1 := fun e => hc e.symm
                go_wp2_with fail
                go_roundw
                case rel => exact ⟨xt, yh :: yt, acc ++ [xh], HT1.out.1.below H1.out.2.2, HY.out.below H1.out.2.2, H1.out.1, HM2, by have := HLN.out; simp at this ⊢; omega, H1.out.2.1⟩
                case measure => simp only [lenV]; omega
end Go.Proofs.YtpcpcfnmcfjomaaGreatDoor.DQ
