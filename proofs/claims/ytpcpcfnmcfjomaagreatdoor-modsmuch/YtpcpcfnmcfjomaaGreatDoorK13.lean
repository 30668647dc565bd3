/-
  DQ4
-/
import Derived.Test.YtpcpcfnmcfjomaaGreatDoorK12
import Derived.Deep.CutBlock
import Derived.Deep.Cut
namespace Go.Proofs.YtpcpcfnmcfjomaaGreatDoor.DQ
open Go.RowKit Go.Shelf
structure Dm where
  kind : ByteArray := E
  a : ByteArray := E
  b : ByteArray := E
  frm : Int := 0
  upto : Int := 0
  way : Int := 0
abbrev dmA (kind a b : ByteArray) (f t y : Int) : Array Value := #[.string kind, .string a, .string b, .bool false, .bool false, .int .i64 f, .int .i64 t, .int .u8 y]
def Dm.cells (m : Dm) : Array Value := dmA m.kind m.a m.b m.frm m.upto m.way
inductive Do where
  | bad (e : Int)
  | ok (m : Dm) (n : Nat)
def Do.val : Do → Value
  | .bad e => .tuple #[.agg (dmA E E E 0 0 0), .int .i64 0, .int .i64 e]
  | .ok m n => .tuple #[.agg m.cells, .int .i64 n, .int .i64 0]
def noEnd (c : UInt8) : Bool := !decide (c = 93)
def endP (l : List UInt8) : Nat := (l.takeWhile noEnd).length
def dotsI : List UInt8 → Option Nat
  | [] => none
  | [_] => none
  | a :: b :: t => if a = 46 ∧ b = 46 then some 0 else (dotsI (b :: t)).map (· + 1)
def inA (x : List UInt8) : Dm × Bool :=
  if x = [35] ∨ x = [42] then ({ kind := ⟨#[91]⟩, way := (x.headD 0).toNat }, true)
  else match dotsI x with
  | some d => ({ kind := ⟨#[91]⟩, frm := (numA (x.take d)).1, upto := (numA (x.drop (d + 2))).1, way := 114 }, (numA (x.take d)).2 && (numA (x.drop (d + 2))).2)
  | none => ({ kind := ⟨#[91]⟩, frm := (numA x).1, way := 110 }, (numA x).2)
def pickA (l : List UInt8) : Do :=
  if endP l = l.length then .bad 4
  else if (inA ((l.take (endP l)).drop 1)).2 = false ∨ (∃ c, l[endP l + 1]? = some c ∧ c ≠ 58) then .bad 12
  else .ok (inA ((l.take (endP l)).drop 1)).1 (endP l + 1)
theorem end_at {l : List UInt8} {k : Nat} (h : ∀ j, j < k → ∀ c, l[j]? = some c → c ≠ 93) (hk : k ≤ l.length) (he : k = l.length ∨ l[k]? = some 93) : endP l = k := by
  induction k generalizing l with
  | zero =>
    rcases he with he | he
    · have : l = [] := List.length_eq_zero_iff.1 he.symm
      subst this; rfl
    · cases l with
      | nil => cases he
      | cons c t => simp at he; subst he; rfl
  | succ k ih =>
    cases l with
    | nil => simp at hk
    | cons c t =>
      have hc : c ≠ 93 := h 0 (Nat.succ_pos _) c rfl
      have := ih (l := t) (fun j hj c hc => h (j + 1) (by omega) c (by simpa using hc)) (by simpa using hk) (by simpa using he)
      unfold endP at this ⊢
      rw [List.takeWhile_cons_of_pos (by simp [noEnd, hc])]
      simp [this]
theorem dots_at {l : List UInt8} {k : Nat} (h : ∀ j, j < k → ¬ (l[j]? = some 46 ∧ l[j + 1]? = some 46)) : dotsI l = (dotsI (l.drop k)).map (· + k) := by
  induction k generalizing l with
  | zero => simp
  | succ k ih =>
    cases l with
    | nil => simp [dotsI]
    | cons c t =>
      have h0 := h 0 (Nat.succ_pos _)
      have := ih (l := t) (fun j hj => h (j + 1) (by omega))
      have e : dotsI (c :: t) = (dotsI t).map (· + 1) := by
        cases t with
        | nil => simp [dotsI]
        | cons d t => rw [dotsI, if_neg (by simpa using h0)]
      rw [e, this, List.drop_succ_cons, Option.map_map]
      congr 1
theorem dots_hit {l : List UInt8} {k : Nat} (h : ∀ j, j < k → ¬ (l[j]? = some 46 ∧ l[j + 1]? = some 46)) (hk : l[k]? = some 46 ∧ l[k + 1]? = some 46) : dotsI l = some k := by
  rw [dots_at h]
  have h1 : k < l.length := (List.getElem?_eq_some_iff.1 hk.1).1
  have h2 : k + 1 < l.length := (List.getElem?_eq_some_iff.1 hk.2).1
  have e1 := (List.getElem?_eq_some_iff.1 hk.1).2
  have e2 := (List.getElem?_eq_some_iff.1 hk.2).2
  rw [List.drop_eq_getElem_cons h1, List.drop_eq_getElem_cons h2, e1, e2, dotsI, if_pos ⟨rfl, rfl⟩]
  simp
theorem dots_no {l : List UInt8} {k : Nat} (h : ∀ j, j < k → ¬ (l[j]? = some 46 ∧ l[j + 1]? = some 46)) (hk : l.length ≤ k + 1) : dotsI l = none := by
  rw [dots_at h]
  have : (l.drop k).length ≤ 1 := by simp; omega
  cases hd : l.drop k with
  | nil => simp [dotsI]
  | cons c t =>
    cases t with
    | nil => simp [dotsI]
    | cons d t => rw [hd] at this; simp at this
theorem two_dots {x : ByteArray} {i : Nat} (hi : i + 1 < x.size) : ((x.extract i (i + 2)).toList == [46, 46]) = true ↔ ((bl x)[i]? = some 46 ∧ (bl x)[i + 1]? = some 46) := by
  rw [ByteArray.toList_eq, beq_iff_eq]
  show bl (x.extract i (i + 2)) = _ ↔ _
  rw [bl_extract]
  have h1 : i < (bl x).length := by rw [bl_length]; omega
  have h2 : i + 1 < (bl x).length := by rw [bl_length]; omega
  have e : ((bl x).take (i + 2)).drop i = [(bl x)[i], (bl x)[i + 1]] := by
    rw [List.drop_take, List.drop_eq_getElem_cons h1, List.drop_eq_getElem_cons h2]
    rw [show i + 2 - i = 2 by omega]
    rfl
  rw [e, List.getElem?_eq_getElem h1, List.getElem?_eq_getElem h2]
  simp
theorem set8 {w : World} {b : Nat} {T : TypeId} {z0 z1 z2 z3 z4 z5 z6 z7 : Value} (h : w.heap[b]? = some (.cells #[z0, z1, z2, z3, z4, z5, z6, z7] T (0, 0))) (u0 u1 u2 u3 u4 u5 u6 u7 : Value) :
    ((((((((w.setCell ⟨b, 0, none⟩ u0).setCell ⟨b, 1, none⟩ u1).setCell ⟨b, 2, none⟩ u2).setCell ⟨b, 3, none⟩ u3).setCell ⟨b, 4, none⟩ u4).setCell ⟨b, 5, none⟩ u5).setCell ⟨b, 6, none⟩ u6).setCell ⟨b, 7, none⟩ u7).heap[b]? = some (.cells #[u0, u1, u2, u3, u4, u5, u6, u7] T (0, 0)) := by
  rw [heap_set (heap_set (heap_set (heap_set (heap_set (heap_set (heap_set (heap_set h _) _) _) _) _) _) _) _]; simp
def put8 (w : World) (b : Nat) (u0 u1 u2 u3 u4 u5 u6 u7 : Value) : World := ((((((((w.setCell ⟨b, 0, none⟩ u0).setCell ⟨b, 1, none⟩ u1).setCell ⟨b, 2, none⟩ u2).setCell ⟨b, 3, none⟩ u3).setCell ⟨b, 4, none⟩ u4).setCell ⟨b, 5, none⟩ u5).setCell ⟨b, 6, none⟩ u6).setCell ⟨b, 7, none⟩ u7)
theorem put8_is {B : Nat} {w0 w : World} {b : Nat} {T : TypeId} {z0 z1 z2 z3 z4 z5 z6 z7 : Value} (h : w.heap[b]? = some (.cells #[z0, z1, z2, z3, z4, z5, z6, z7] T (0, 0))) (hb : Below B w0 w) (hB : B ≤ b) (u0 u1 u2 u3 u4 u5 u6 u7 : Value) :
    (put8 w b u0 u1 u2 u3 u4 u5 u6 u7).heap[b]? = some (.cells #[u0, u1, u2, u3, u4, u5, u6, u7] T (0, 0)) ∧ Below B w0 (put8 w b u0 u1 u2 u3 u4 u5 u6 u7) :=
  ⟨set8 h _ _ _ _ _ _ _ _, (((((((hb.setCell hB _).setCell hB _).setCell hB _).setCell hB _).setCell hB _).setCell hB _).setCell hB _).setCell hB _⟩
theorem cell_in {w : World} {b : Nat} {cs : Array Value} {T : TypeId} (h : w.heap[b]? = some (.cells cs T (0, 0))) (i : Nat) {v : Value} (hv : cs[i]? = some v) : w.cell? ⟨b, i, none⟩ = some v := by
  simp only [World.cell?, h]
  simpa using hv
theorem bs2 {B : Nat} {w w1 : World} (h : Below B w w1) {b i : Nat} (hb : B ≤ b) (x : Value) : Below B w (w1.setCell ⟨b, i, none⟩ x) := h.setCell hb x
set_option maxRecDepth 20000 in
set_option maxHeartbeats 1600000 in
theorem pick_any (s : ByteArray) (w : World) (hs : s.size ≤ 1000000) (h91 : (bl s).head? = some 91) :
    Calls Tryz.prog 29 #[.string s] w fun e w' => e = .returned (pickA (bl s)).val ∧ Below w.heap.size w w' := by
  have hpos : 0 < s.size := by
    rw [← bl_length]
    cases hb : bl s with
    | nil => rw [hb] at h91; cases h91
    | cons c l => simp
  have H91 : Hid ((bl s)[0]? = some 91) := by unfold Hid; rw [← List.head?_eq_getElem?]; exact h91
  have HNum : Hid (∀ (t : ByteArray) (W : World), t.size ≤ 1000000 → Calls Tryz.prog 67 #[.string t] W fun e w' => e = .returned (NumV (bl t)) ∧ W = w') := fun t W ht => number_any t W ht
  clear h91
  go_enter Tryz.func29, Tryz.ntmps29
  go_wp2
  go_loopw [5] (fun vi wr => ∃ k : Nat, k ≤ s.size ∧ vi = .int .i64 (k : Int) ∧ Hid (∀ j, j < k → ∀ c, (bl s)[j]? = some c → c ≠ 93) ∧ wr = w.alloc (.cells (dmA E E E 0 0 0) 53)) (fun vi _ => s.size - (intOf vi).toNat)
  case atStart => exact ⟨0, Nat.zero_le _, rfl, fun j hj => by omega, rfl⟩
  case round =>
    obtain ⟨k, hk, rfl, HU, rfl⟩ := hrel
    by_cases hlt : k < s.size
    · have hil : (k : Int) < (s.size : Int) := by omega
      have hbk := bl_get s k hlt
      obtain ⟨c, hc⟩ : ∃ c, c = s[k] := ⟨_, rfl⟩
      rw [← hc] at hbk
      by_cases h93 : c = 93
      · have hgk : ((s[k].toNat : Int) == 93) = true := by rw [← hc, h93]; rfl
        have HE : Hid (endP (bl s) = k) := end_at HU.out (by rw [bl_length]; exact hk) (.inr (by rw [hbk, h93]))
        have hk1 : 1 ≤ k := by
          rcases Nat.eq_zero_or_pos k with h | h
          · subst h
            have h0 := H91.out
            rw [hbk, h93] at h0; cases h0
          · exact h
        have hk1i : (1 : Int) ≤ (k : Int) := by omega
        obtain ⟨x, hx⟩ : ∃ x, x = s.extract 1 k := ⟨_, rfl⟩
        have HX : Hid (x = s.extract 1 k ∧ bl x = ((bl s).take (endP (bl s))).drop 1 ∧ x.size ≤ 1000000) := ⟨hx, by rw [hx, bl_extract, HE.out], by rw [hx]; simp; omega⟩
        clear hbk hc HU hx
        go_upto_region 7 with fail
        rw [← HX.out.1]
        go_upto_region 8 with fail
        obtain ⟨W2, hW2⟩ : ∃ W2, W2 = (w.alloc (.cells (dmA E E E 0 0 0) 53)).alloc (.cells (dmA ⟨#[91]⟩ E E 0 0 110) 53) := ⟨_, rfl⟩
        have H2 : Hid (W2.heap[w.heap.size]? = some (.cells (dmA E E E 0 0 0) 53 (0, 0)) ∧ W2.heap[w.heap.size + 1]? = some (.cells (dmA ⟨#[91]⟩ E E 0 0 110) 53 (0, 0)) ∧ Below w.heap.size w W2) := by
          rw [hW2]
          refine ⟨(Below.heap_alloc _ _ _ (by simp)).trans (Cd.heap_new _ _), ?_, ((Below.refl _ _).alloc (Nat.le_refl _) _).alloc (by simp) _⟩
          have := Cd.heap_new (w.alloc (.cells (dmA E E E 0 0 0) 53)) (.cells (dmA ⟨#[91]⟩ E E 0 0 110) 53)
          rw [show (w.alloc (.cells (dmA E E E 0 0 0) 53)).heap.size = w.heap.size + 1 by simp] at this
          exact this
        rw [← hW2]
        clear hW2
        have hxs := HX.out.2.2
        go_wp2_with fail
        go_loopw [8, 9] (fun vd vi wr => ((∃ i : Nat, i ≤ x.size ∧ vd = .int .i64 (-1) ∧ vi = .int .i64 (i : Int) ∧ Hid (∀ j, j < i → ¬ ((bl x)[j]? = some 46 ∧ (bl x)[j + 1]? = some 46))) ∨ (∃ d : Nat, d + 1 < x.size ∧ vd = .int .i64 (d : Int) ∧ vi = .int .i64 ((d : Int) + 1) ∧ Hid (dotsI (bl x) = some d))) ∧ wr = W2) (fun _ vi _ => x.size - (intOf vi).toNat)
        case atStart => exact ⟨.inl ⟨0, Nat.zero_le _, rfl, rfl, fun j hj => by omega⟩, rfl⟩
        case round =>
          obtain ⟨⟨i, hi, rfl, rfl, HD⟩ | ⟨d, hd, rfl, rfl, HD⟩, rfl⟩ := hrel
          · by_cases hi1 : i + 1 < x.size
            · have hi1i : (i : Int) + 1 < (x.size : Int) := by omega
              have hto : ((i : Int) + 2).toNat = i + 2 := by omega
              have hi2 : (i : Int) + 2 ≤ (x.size : Int) := by omega
              have hi3 : (i : Int) ≤ (i : Int) + 2 := by omega
              by_cases hdd : (bl x)[i]? = some 46 ∧ (bl x)[i + 1]? = some 46
              · have hb : ((x.extract i (i + 2)).toList == [46, 46]) = true := (two_dots hi1).2 hdd
                have HD2 : Hid (dotsI (bl x) = some i) := dots_hit HD.out hdd
                clear hdd HD
                go_wp2_with fail
                go_roundw
                case rel => exact ⟨.inr ⟨i, hi1, rfl, rfl, HD2⟩, trivial⟩
                case measure => simp [intOf]; omega
              · have hb : ((x.extract i (i + 2)).toList == [46, 46]) = false := by
                  rw [← Bool.not_eq_true]; exact fun h => hdd ((two_dots hi1).1 h)
                have HD2 : Hid (∀ j, j < i + 1 → ¬ ((bl x)[j]? = some 46 ∧ (bl x)[j + 1]? = some 46)) := by
                  intro j hj
                  by_cases hji : j = i
                  · subst hji; exact hdd
                  · exact HD.out j (by omega)
                clear hdd HD
                go_wp2_with fail
                go_roundw
                case rel => exact ⟨.inl ⟨i + 1, by omega, rfl, by go_num, HD2⟩, trivial⟩
                case measure => simp [intOf]; omega
            · have hi1i : ¬ (i : Int) + 1 < (x.size : Int) := by omega
              have HDN : Hid (dotsI (bl x) = none) := dots_no HD.out (by rw [bl_length]; omega)
              clear HD
              go_upto_block 4 with fail
              go_cut [10] from 11 (fun vo wc => ∃ (m : Dm) (b : Bool), vo = .bool b ∧ Hid (inA (bl x) = (m, b) ∧ wc.heap[w.heap.size]? = some (.cells (dmA E E E 0 0 0) 53 (0, 0)) ∧ wc.heap[w.heap.size + 1]? = some (.cells m.cells 53 (0, 0)) ∧ Below w.heap.size w wc))
              case first =>
                have p5 : wr.frozen? ⟨w.heap.size + 1, 5, none⟩ = false := by simp [World.frozen?, H2.out.2.1]
                have p6 : wr.frozen? ⟨w.heap.size + 1, 6, none⟩ = false := by simp [World.frozen?, H2.out.2.1]
                have p7 : wr.frozen? ⟨w.heap.size + 1, 7, none⟩ = false := by simp [World.frozen?, H2.out.2.1]
                have o5 := cell_in H2.out.2.1 5 rfl
                have o6 := cell_in H2.out.2.1 6 rfl
                have o7 := cell_in H2.out.2.1 7 rfl
                by_cases e35 : bl x = [35]
                · have hA : (x.toList == [35]) = true := by rw [ByteArray.toList_eq]; show (bl x == _) = _; rw [e35]; rfl
                  have hx0 : 0 < x.size := by rw [← bl_length, e35]; decide
                  have hx0i : (0 : Int) < (x.size : Int) := by omega
                  have hxz : (x[0].toNat : Int) = 35 := by
                    have h := bl_get x 0 hx0
                    rw [e35] at h
                    rw [← Option.some.inj h]; rfl
                  have HI : Hid (inA (bl x) = ({ kind := ⟨#[91]⟩, way := 35 }, true)) := by
                    unfold Hid inA
                    rw [if_pos (.inl e35), e35]; rfl
                  clear e35
                  go_wp2_with fail
                  go_meet
                  exact ⟨_, true, rfl, HI.out, (Below.heap_setCell _ _ _ _ (Nat.ne_of_lt (Nat.lt_succ_self _))).trans H2.out.1, by rw [heap_set H2.out.2.1]; simp [Dm.cells], bs2 H2.out.2.2 (Nat.le_succ _) _⟩
                · by_cases e42 : bl x = [42]
                  · have hA : (x.toList == [35]) = false := by rw [ByteArray.toList_eq]; show (bl x == _) = _; rw [e42]; rfl
                    have hB : (x.toList == [42]) = true := by rw [ByteArray.toList_eq]; show (bl x == _) = _; rw [e42]; rfl
                    have hx0 : 0 < x.size := by rw [← bl_length, e42]; decide
                    have hx0i : (0 : Int) < (x.size : Int) := by omega
                    have hxz : (x[0].toNat : Int) = 42 := by
                      have h := bl_get x 0 hx0
                      rw [e42] at h
                      rw [← Option.some.inj h]; rfl
                    have HI : Hid (inA (bl x) = ({ kind := ⟨#[91]⟩, way := 42 }, true)) := by
                      unfold Hid inA
                      rw [if_pos (.inr e42), e42]; rfl
                    clear e42
                    go_wp2_with fail
                    go_meet
                    exact ⟨_, true, rfl, HI.out, (Below.heap_setCell _ _ _ _ (Nat.ne_of_lt (Nat.lt_succ_self _))).trans H2.out.1, by rw [heap_set H2.out.2.1]; simp [Dm.cells], bs2 H2.out.2.2 (Nat.le_succ _) _⟩
                  · have hA : (x.toList == [35]) = false := by rw [ByteArray.toList_eq, ← Bool.not_eq_true, beq_iff_eq]; exact e35
                    have hB : (x.toList == [42]) = false := by rw [ByteArray.toList_eq, ← Bool.not_eq_true, beq_iff_eq]; exact e42
                    have HI : Hid (inA (bl x) = ({ kind := ⟨#[91]⟩, frm := (numA (bl x)).1, way := 110 }, (numA (bl x)).2)) := by
                      unfold Hid inA
                      rw [if_neg (by rintro (h | h); exact e35 h; exact e42 h), HDN.out]
                    clear e35 e42
                    go_wp2_with fail
                    refine (HNum.out x _ hxs).mono ?_
                    rintro e w' ⟨rfl, rfl⟩
                    unfold NumV
                    generalize numA (bl x) = na at HI ⊢
                    go_wp2_with fail
                    go_meet
                    exact ⟨_, _, rfl, HI.out, (Below.heap_setCell _ _ _ _ (Nat.ne_of_lt (Nat.lt_succ_self _))).trans H2.out.1, by rw [heap_set H2.out.2.1]; simp [Dm.cells], bs2 H2.out.2.2 (Nat.le_succ _) _⟩
              case rest =>
                obtain ⟨m, b, rfl, HC⟩ := hcut
                obtain ⟨hc1, hc2, hc3, hc4⟩ := HC.out
                have HC3 : Hid (inA (bl x) = (m, b) ∧ Below w.heap.size w wc) := ⟨hc1, hc4⟩
                have HZ : Hid (wc.heap[w.heap.size]? = some (.cells (dmA E E E 0 0 0) 53 (0, 0))) := hc2
                have z0 := cell_in hc2 0 rfl
                have fz0 : wc.frozen? ⟨w.heap.size, 0, none⟩ = false := by simp [World.frozen?, hc2]
                have z1 := cell_in hc2 1 rfl
                have fz1 : wc.frozen? ⟨w.heap.size, 1, none⟩ = false := by simp [World.frozen?, hc2]
                have z2 := cell_in hc2 2 rfl
                have fz2 : wc.frozen? ⟨w.heap.size, 2, none⟩ = false := by simp [World.frozen?, hc2]
                have z3 := cell_in hc2 3 rfl
                have fz3 : wc.frozen? ⟨w.heap.size, 3, none⟩ = false := by simp [World.frozen?, hc2]
                have z4 := cell_in hc2 4 rfl
                have fz4 : wc.frozen? ⟨w.heap.size, 4, none⟩ = false := by simp [World.frozen?, hc2]
                have z5 := cell_in hc2 5 rfl
                have fz5 : wc.frozen? ⟨w.heap.size, 5, none⟩ = false := by simp [World.frozen?, hc2]
                have z6 := cell_in hc2 6 rfl
                have fz6 : wc.frozen? ⟨w.heap.size, 6, none⟩ = false := by simp [World.frozen?, hc2]
                have z7 := cell_in hc2 7 rfl
                have fz7 : wc.frozen? ⟨w.heap.size, 7, none⟩ = false := by simp [World.frozen?, hc2]
                cases b with
                | false =>
                  have HR : Hid (pickA (bl s) = .bad 12) := by
                    unfold Hid pickA
                    rw [if_neg (by rw [HE.out, bl_length]; omega), ← HX.out.2.1, HC3.out.1, if_pos (.inl rfl)]
                  clear hc1 hc2 hc3 hc4 HC
                  go_wp2_with fail
                  obtain ⟨WF, hWF⟩ : ∃ WF, WF = put8 wc w.heap.size (.string E) (.string E) (.string E) (.bool false) (.bool false) (.int .i64 0) (.int .i64 0) (.int .u8 0) := ⟨_, rfl⟩
                  have hq : WF.heap[w.heap.size]? = some (.cells #[.string E, .string E, .string E, .bool false, .bool false, .int .i64 0, .int .i64 0, .int .u8 0] 53 (0, 0)) ∧ Below w.heap.size w WF := by rw [hWF]; exact put8_is HZ.out HC3.out.2 (Nat.le_refl _) _ _ _ _ _ _ _ _
                  show bodyPost Tryz.prog Tryz.f29 _ Exit.ret _ (put8 wc w.heap.size (.string E) (.string E) (.string E) (.bool false) (.bool false) (.int .i64 0) (.int .i64 0) (.int .u8 0))
                  rw [← hWF]
                  have v0 := cell_in hq.1 0 rfl
                  have v1 := cell_in hq.1 1 rfl
                  have v2 := cell_in hq.1 2 rfl
                  have v3 := cell_in hq.1 3 rfl
                  have v4 := cell_in hq.1 4 rfl
                  have v5 := cell_in hq.1 5 rfl
                  have v6 := cell_in hq.1 6 rfl
                  have v7 := cell_in hq.1 7 rfl
                  refine bodyPost_ret (v := .tuple #[.agg #[.string E, .string E, .string E, .bool false, .bool false, .int .i64 0, .int .i64 0, .int .u8 0], .int .i64 0, .int .i64 12]) (by simp [results, Tryz.results29, go_sem, v0, v1, v2, v3, v4, v5, v6, v7]; try rfl) rfl ⟨by rw [HR.out]; rfl, hq.2⟩
                | true =>
                  obtain ⟨mk, ma, mb, mf, mt, my⟩ := m
                  have hc3 : wc.heap[w.heap.size + 1]? = some (.cells (dmA mk ma mb mf mt my) 53 (0, 0)) := hc3
                  have y0 := cell_in hc3 0 rfl
                  have y1 := cell_in hc3 1 rfl
                  have y2 := cell_in hc3 2 rfl
                  have y3 := cell_in hc3 3 rfl
                  have y4 := cell_in hc3 4 rfl
                  have y5 := cell_in hc3 5 rfl
                  have y6 := cell_in hc3 6 rfl
                  have y7 := cell_in hc3 7 rfl
                  have HG : ∀ (hq : ¬ ∃ c, (bl s)[endP (bl s) + 1]? = some c ∧ c ≠ 58), Hid (pickA (bl s) = .ok ⟨mk, ma, mb, mf, mt, my⟩ (k + 1)) := fun hq => by
                    unfold Hid pickA
                    rw [if_neg (by rw [HE.out, bl_length]; omega), ← HX.out.2.1, HC3.out.1, if_neg (by rintro (h | h); cases h; exact hq h), HE.out]
                  clear hc1 hc2 hc3 hc4 HC
                  by_cases hk2 : k + 1 < s.size
                  · have hk2i : (k : Int) + 1 < (s.size : Int) := by omega
                    have hto : ((k : Int) + 1).toNat = k + 1 := by omega
                    have hb2 := bl_get s (k + 1) hk2
                    by_cases g58 : s[k + 1] = 58
                    · have e58 : ((s[k + 1].toNat : Int) == 58) = true := by rw [g58]; rfl
                      have HR := HG (by rintro ⟨c, h1, h2⟩; rw [HE.out, hb2] at h1; exact h2 ((Option.some.inj h1).symm.trans g58))
                      clear HG hb2 g58
                      go_wp2_with fail
                      obtain ⟨WF, hWF⟩ : ∃ WF, WF = put8 wc w.heap.size (.string mk) (.string ma) (.string mb) (.bool false) (.bool false) (.int .i64 mf) (.int .i64 mt) (.int .u8 my) := ⟨_, rfl⟩
                      have hq : WF.heap[w.heap.size]? = some (.cells #[.string mk, .string ma, .string mb, .bool false, .bool false, .int .i64 mf, .int .i64 mt, .int .u8 my] 53 (0, 0)) ∧ Below w.heap.size w WF := by rw [hWF]; exact put8_is HZ.out HC3.out.2 (Nat.le_refl _) _ _ _ _ _ _ _ _
                      show bodyPost Tryz.prog Tryz.f29 _ Exit.ret _ (put8 wc w.heap.size (.string mk) (.string ma) (.string mb) (.bool false) (.bool false) (.int .i64 mf) (.int .i64 mt) (.int .u8 my))
                      rw [← hWF]
                      have v0 := cell_in hq.1 0 rfl
                      have v1 := cell_in hq.1 1 rfl
                      have v2 := cell_in hq.1 2 rfl
                      have v3 := cell_in hq.1 3 rfl
                      have v4 := cell_in hq.1 4 rfl
                      have v5 := cell_in hq.1 5 rfl
                      have v6 := cell_in hq.1 6 rfl
                      have v7 := cell_in hq.1 7 rfl
                      refine bodyPost_ret (v := .tuple #[.agg #[.string mk, .string ma, .string mb, .bool false, .bool false, .int .i64 mf, .int .i64 mt, .int .u8 my], .int .i64 ((k + 1 : Nat) : Int), .int .i64 0]) (by simp [results, Tryz.results29, go_sem, v0, v1, v2, v3, v4, v5, v6, v7]; try rfl) rfl ⟨by rw [HR.out]; rfl, hq.2⟩
                    · have e58 : ((s[k + 1].toNat : Int) == 58) = false := by
                        rw [← Bool.not_eq_true, beq_iff_eq]
                        intro e; apply g58; rw [u8_eq_iff]; have : (58 : UInt8).toNat = 58 := rfl; omega
                      have HR : Hid (pickA (bl s) = .bad 12) := by
                        unfold Hid pickA
                        rw [if_neg (by rw [HE.out, bl_length]; omega), if_pos (.inr ⟨_, by rw [HE.out, hb2], g58⟩)]
                      clear HG hb2 g58
                      go_wp2_with fail
                      obtain ⟨WF, hWF⟩ : ∃ WF, WF = put8 wc w.heap.size (.string E) (.string E) (.string E) (.bool false) (.bool false) (.int .i64 0) (.int .i64 0) (.int .u8 0) := ⟨_, rfl⟩
                      have hq : WF.heap[w.heap.size]? = some (.cells #[.string E, .string E, .string E, .bool false, .bool false, .int .i64 0, .int .i64 0, .int .u8 0] 53 (0, 0)) ∧ Below w.heap.size w WF := by rw [hWF]; exact put8_is HZ.out HC3.out.2 (Nat.le_refl _) _ _ _ _ _ _ _ _
                      show bodyPost Tryz.prog Tryz.f29 _ Exit.ret _ (put8 wc w.heap.size (.string E) (.string E) (.string E) (.bool false) (.bool false) (.int .i64 0) (.int .i64 0) (.int .u8 0))
                      rw [← hWF]
                      have v0 := cell_in hq.1 0 rfl
                      have v1 := cell_in hq.1 1 rfl
                      have v2 := cell_in hq.1 2 rfl
                      have v3 := cell_in hq.1 3 rfl
                      have v4 := cell_in hq.1 4 rfl
                      have v5 := cell_in hq.1 5 rfl
                      have v6 := cell_in hq.1 6 rfl
                      have v7 := cell_in hq.1 7 rfl
                      refine bodyPost_ret (v := .tuple #[.agg #[.string E, .string E, .string E, .bool false, .bool false, .int .i64 0, .int .i64 0, .int .u8 0], .int .i64 0, .int .i64 12]) (by simp [results, Tryz.results29, go_sem, v0, v1, v2, v3, v4, v5, v6, v7]; try rfl) rfl ⟨by rw [HR.out]; rfl, hq.2⟩
                  · have hk2i : ¬ (k : Int) + 1 < (s.size : Int) := by omega
                    have HR := HG (by rintro ⟨c, h1, _⟩; rw [HE.out, List.getElem?_eq_none (by rw [bl_length]; omega)] at h1; cases h1)
                    clear HG
                    go_wp2_with fail
                    obtain ⟨WF, hWF⟩ : ∃ WF, WF = put8 wc w.heap.size (.string mk) (.string ma) (.string mb) (.bool false) (.bool false) (.int .i64 mf) (.int .i64 mt) (.int .u8 my) := ⟨_, rfl⟩
                    have hq : WF.heap[w.heap.size]? = some (.cells #[.string mk, .string ma, .string mb, .bool false, .bool false, .int .i64 mf, .int .i64 mt, .int .u8 my] 53 (0, 0)) ∧ Below w.heap.size w WF := by rw [hWF]; exact put8_is HZ.out HC3.out.2 (Nat.le_refl _) _ _ _ _ _ _ _ _
                    show bodyPost Tryz.prog Tryz.f29 _ Exit.ret _ (put8 wc w.heap.size (.string mk) (.string ma) (.string mb) (.bool false) (.bool false) (.int .i64 mf) (.int .i64 mt) (.int .u8 my))
                    rw [← hWF]
                    have v0 := cell_in hq.1 0 rfl
                    have v1 := cell_in hq.1 1 rfl
                    have v2 := cell_in hq.1 2 rfl
                    have v3 := cell_in hq.1 3 rfl
                    have v4 := cell_in hq.1 4 rfl
                    have v5 := cell_in hq.1 5 rfl
                    have v6 := cell_in hq.1 6 rfl
                    have v7 := cell_in hq.1 7 rfl
                    refine bodyPost_ret (v := .tuple #[.agg #[.string mk, .string ma, .string mb, .bool false, .bool false, .int .i64 mf, .int .i64 mt, .int .u8 my], .int .i64 ((k + 1 : Nat) : Int), .int .i64 0]) (by simp [results, Tryz.results29, go_sem, v0, v1, v2, v3, v4, v5, v6, v7]; try rfl) rfl ⟨by rw [HR.out]; rfl, hq.2⟩
          · have HDS : Hid (dotsI (bl x) = some d) := HD
            have hnn : ¬ (d : Int) < 0 := by omega
            clear HD
            by_cases hq2 : (d : Int) + 1 + 1 < (x.size : Int)
            all_goals
              go_upto_block 4 with fail
              go_cut [10] from 11 (fun vo wc => ∃ (m : Dm) (b : Bool), vo = .bool b ∧ Hid (inA (bl x) = (m, b) ∧ wc.heap[w.heap.size]? = some (.cells (dmA E E E 0 0 0) 53 (0, 0)) ∧ wc.heap[w.heap.size + 1]? = some (.cells m.cells 53 (0, 0)) ∧ Below w.heap.size w wc))
              case first =>
                have p5 : wr.frozen? ⟨w.heap.size + 1, 5, none⟩ = false := by simp [World.frozen?, H2.out.2.1]
                have p6 : wr.frozen? ⟨w.heap.size + 1, 6, none⟩ = false := by simp [World.frozen?, H2.out.2.1]
                have p7 : wr.frozen? ⟨w.heap.size + 1, 7, none⟩ = false := by simp [World.frozen?, H2.out.2.1]
                have o5 := cell_in H2.out.2.1 5 rfl
                have o6 := cell_in H2.out.2.1 6 rfl
                have o7 := cell_in H2.out.2.1 7 rfl
                have hA : (x.toList == [35]) = false := by
                  rw [ByteArray.toList_eq, ← Bool.not_eq_true, beq_iff_eq]
                  intro h
                  have h2 := congrArg List.length h
                  have h3 := bl_length x
                  unfold bl at h3
                  rw [h3] at h2; simp at h2; omega
                have hB : (x.toList == [42]) = false := by
                  rw [ByteArray.toList_eq, ← Bool.not_eq_true, beq_iff_eq]
                  intro h
                  have h2 := congrArg List.length h
                  have h3 := bl_length x
                  unfold bl at h3
                  rw [h3] at h2; simp at h2; omega
                have hdi : (0 : Int) ≤ (d : Int) := by omega
                have hd1 : (d : Int) ≤ (x.size : Int) := by omega
                have hd2 : (d : Int) + 2 ≤ (x.size : Int) := by omega
                have hto : ((d : Int) + 2).toNat = d + 2 := by omega
                have HI : Hid (inA (bl x) = ({ kind := ⟨#[91]⟩, frm := (numA (bl (x.extract 0 d))).1, upto := (numA (bl (x.extract (d + 2) x.size))).1, way := 114 }, (numA (bl (x.extract 0 d))).2 && (numA (bl (x.extract (d + 2) x.size))).2)) := by
                  unfold Hid inA
                  rw [if_neg (by rintro (h | h) <;> (have h2 := congrArg List.length h; rw [bl_length] at h2; simp at h2; omega)), HDS.out, bl_extract, bl_extract, take_all, List.drop_zero]
                have s1 : (x.extract 0 d).size ≤ 1000000 := by simp; omega
                have s2 : (x.extract (d + 2) x.size).size ≤ 1000000 := by simp; omega
                obtain ⟨xa, hxa⟩ : ∃ xa, xa = x.extract 0 d := ⟨_, rfl⟩
                obtain ⟨xb, hxb⟩ : ∃ xb, xb = x.extract (d + 2) x.size := ⟨_, rfl⟩
                have HXA : Hid (xa = x.extract 0 d) := hxa
                have HXB : Hid (xb = x.extract (d + 2) x.size) := hxb
                rw [← hxa] at HI s1
                rw [← hxb] at HI s2
                clear hxa hxb
                go_wp2_with fail
                rw [← HXA.out]
                refine (HNum.out xa _ s1).mono ?_
                rintro e w' ⟨rfl, rfl⟩
                unfold NumV
                generalize numA (bl xa) = na at HI ⊢
                obtain ⟨na1, na2⟩ := na
                go_wp2_with fail
                rw [← HXB.out]
                refine (HNum.out xb _ s2).mono ?_
                rintro e w' ⟨rfl, rfl⟩
                unfold NumV
                generalize numA (bl xb) = nb at HI ⊢
                obtain ⟨nb1, nb2⟩ := nb
                cases na2 <;> cases nb2
                all_goals
                  go_wp2_with fail
                  go_meet
                  exact ⟨_, _, rfl, HI.out, (Below.heap_setCell _ _ _ _ (Nat.ne_of_lt (Nat.lt_succ_self _))).trans ((Below.heap_setCell _ _ _ _ (Nat.ne_of_lt (Nat.lt_succ_self _))).trans ((Below.heap_setCell _ _ _ _ (Nat.ne_of_lt (Nat.lt_succ_self _))).trans H2.out.1)), by rw [heap_set (heap_set (heap_set H2.out.2.1 _) _)]; simp [Dm.cells], bs2 (bs2 (bs2 H2.out.2.2 (Nat.le_succ _) _) (Nat.le_succ _) _) (Nat.le_succ _) _⟩
              case rest =>
                obtain ⟨m, b, rfl, HC⟩ := hcut
                obtain ⟨hc1, hc2, hc3, hc4⟩ := HC.out
                have HC3 : Hid (inA (bl x) = (m, b) ∧ Below w.heap.size w wc) := ⟨hc1, hc4⟩
                have HZ : Hid (wc.heap[w.heap.size]? = some (.cells (dmA E E E 0 0 0) 53 (0, 0))) := hc2
                have z0 := cell_in hc2 0 rfl
                have fz0 : wc.frozen? ⟨w.heap.size, 0, none⟩ = false := by simp [World.frozen?, hc2]
                have z1 := cell_in hc2 1 rfl
                have fz1 : wc.frozen? ⟨w.heap.size, 1, none⟩ = false := by simp [World.frozen?, hc2]
                have z2 := cell_in hc2 2 rfl
                have fz2 : wc.frozen? ⟨w.heap.size, 2, none⟩ = false := by simp [World.frozen?, hc2]
                have z3 := cell_in hc2 3 rfl
                have fz3 : wc.frozen? ⟨w.heap.size, 3, none⟩ = false := by simp [World.frozen?, hc2]
                have z4 := cell_in hc2 4 rfl
                have fz4 : wc.frozen? ⟨w.heap.size, 4, none⟩ = false := by simp [World.frozen?, hc2]
                have z5 := cell_in hc2 5 rfl
                have fz5 : wc.frozen? ⟨w.heap.size, 5, none⟩ = false := by simp [World.frozen?, hc2]
                have z6 := cell_in hc2 6 rfl
                have fz6 : wc.frozen? ⟨w.heap.size, 6, none⟩ = false := by simp [World.frozen?, hc2]
                have z7 := cell_in hc2 7 rfl
                have fz7 : wc.frozen? ⟨w.heap.size, 7, none⟩ = false := by simp [World.frozen?, hc2]
                cases b with
                | false =>
                  have HR : Hid (pickA (bl s) = .bad 12) := by
                    unfold Hid pickA
                    rw [if_neg (by rw [HE.out, bl_length]; omega), ← HX.out.2.1, HC3.out.1, if_pos (.inl rfl)]
                  clear hc1 hc2 hc3 hc4 HC
                  go_wp2_with fail
                  obtain ⟨WF, hWF⟩ : ∃ WF, WF = put8 wc w.heap.size (.string E) (.string E) (.string E) (.bool false) (.bool false) (.int .i64 0) (.int .i64 0) (.int .u8 0) := ⟨_, rfl⟩
                  have hq : WF.heap[w.heap.size]? = some (.cells #[.string E, .string E, .string E, .bool false, .bool false, .int .i64 0, .int .i64 0, .int .u8 0] 53 (0, 0)) ∧ Below w.heap.size w WF := by rw [hWF]; exact put8_is HZ.out HC3.out.2 (Nat.le_refl _) _ _ _ _ _ _ _ _
                  show bodyPost Tryz.prog Tryz.f29 _ Exit.ret _ (put8 wc w.heap.size (.string E) (.string E) (.string E) (.bool false) (.bool false) (.int .i64 0) (.int .i64 0) (.int .u8 0))
                  rw [← hWF]
                  have v0 := cell_in hq.1 0 rfl
                  have v1 := cell_in hq.1 1 rfl
                  have v2 := cell_in hq.1 2 rfl
                  have v3 := cell_in hq.1 3 rfl
                  have v4 := cell_in hq.1 4 rfl
                  have v5 := cell_in hq.1 5 rfl
                  have v6 := cell_in hq.1 6 rfl
                  have v7 := cell_in hq.1 7 rfl
                  refine bodyPost_ret (v := .tuple #[.agg #[.string E, .string E, .string E, .bool false, .bool false, .int .i64 0, .int .i64 0, .int .u8 0], .int .i64 0, .int .i64 12]) (by simp [results, Tryz.results29, go_sem, v0, v1, v2, v3, v4, v5, v6, v7]; try rfl) rfl ⟨by rw [HR.out]; rfl, hq.2⟩
                | true =>
                  obtain ⟨mk, ma, mb, mf, mt, my⟩ := m
                  have hc3 : wc.heap[w.heap.size + 1]? = some (.cells (dmA mk ma mb mf mt my) 53 (0, 0)) := hc3
                  have y0 := cell_in hc3 0 rfl
                  have y1 := cell_in hc3 1 rfl
                  have y2 := cell_in hc3 2 rfl
                  have y3 := cell_in hc3 3 rfl
                  have y4 := cell_in hc3 4 rfl
                  have y5 := cell_in hc3 5 rfl
                  have y6 := cell_in hc3 6 rfl
                  have y7 := cell_in hc3 7 rfl
                  have HG : ∀ (hq : ¬ ∃ c, (bl s)[endP (bl s) + 1]? = some c ∧ c ≠ 58), Hid (pickA (bl s) = .ok ⟨mk, ma, mb, mf, mt, my⟩ (k + 1)) := fun hq => by
                    unfold Hid pickA
                    rw [if_neg (by rw [HE.out, bl_length]; omega), ← HX.out.2.1, HC3.out.1, if_neg (by rintro (h | h); cases h; exact hq h), HE.out]
                  clear hc1 hc2 hc3 hc4 HC
                  by_cases hk2 : k + 1 < s.size
                  · have hk2i : (k : Int) + 1 < (s.size : Int) := by omega
                    have hto : ((k : Int) + 1).toNat = k + 1 := by omega
                    have hb2 := bl_get s (k + 1) hk2
                    by_cases g58 : s[k + 1] = 58
                    · have e58 : ((s[k + 1].toNat : Int) == 58) = true := by rw [g58]; rfl
                      have HR := HG (by rintro ⟨c, h1, h2⟩; rw [HE.out, hb2] at h1; exact h2 ((Option.some.inj h1).symm.trans g58))
                      clear HG hb2 g58
                      go_wp2_with fail
                      obtain ⟨WF, hWF⟩ : ∃ WF, WF = put8 wc w.heap.size (.string mk) (.string ma) (.string mb) (.bool false) (.bool false) (.int .i64 mf) (.int .i64 mt) (.int .u8 my) := ⟨_, rfl⟩
                      have hq : WF.heap[w.heap.size]? = some (.cells #[.string mk, .string ma, .string mb, .bool false, .bool false, .int .i64 mf, .int .i64 mt, .int .u8 my] 53 (0, 0)) ∧ Below w.heap.size w WF := by rw [hWF]; exact put8_is HZ.out HC3.out.2 (Nat.le_refl _) _ _ _ _ _ _ _ _
                      show bodyPost Tryz.prog Tryz.f29 _ Exit.ret _ (put8 wc w.heap.size (.string mk) (.string ma) (.string mb) (.bool false) (.bool false) (.int .i64 mf) (.int .i64 mt) (.int .u8 my))
                      rw [← hWF]
                      have v0 := cell_in hq.1 0 rfl
                      have v1 := cell_in hq.1 1 rfl
                      have v2 := cell_in hq.1 2 rfl
                      have v3 := cell_in hq.1 3 rfl
                      have v4 := cell_in hq.1 4 rfl
                      have v5 := cell_in hq.1 5 rfl
                      have v6 := cell_in hq.1 6 rfl
                      have v7 := cell_in hq.1 7 rfl
                      refine bodyPost_ret (v := .tuple #[.agg #[.string mk, .string ma, .string mb, .bool false, .bool false, .int .i64 mf, .int .i64 mt, .int .u8 my], .int .i64 ((k + 1 : Nat) : Int), .int .i64 0]) (by simp [results, Tryz.results29, go_sem, v0, v1, v2, v3, v4, v5, v6, v7]; try rfl) rfl ⟨by rw [HR.out]; rfl, hq.2⟩
                    · have e58 : ((s[k + 1].toNat : Int) == 58) = false := by
                        rw [← Bool.not_eq_true, beq_iff_eq]
                        intro e; apply g58; rw [u8_eq_iff]; have : (58 : UInt8).toNat = 58 := rfl; omega
                      have HR : Hid (pickA (bl s) = .bad 12) := by
                        unfold Hid pickA
                        rw [if_neg (by rw [HE.out, bl_length]; omega), if_pos (.inr ⟨_, by rw [HE.out, hb2], g58⟩)]
                      clear HG hb2 g58
                      go_wp2_with fail
                      obtain ⟨WF, hWF⟩ : ∃ WF, WF = put8 wc w.heap.size (.string E) (.string E) (.string E) (.bool false) (.bool false) (.int .i64 0) (.int .i64 0) (.int .u8 0) := ⟨_, rfl⟩
                      have hq : WF.heap[w.heap.size]? = some (.cells #[.string E, .string E, .string E, .bool false, .bool false, .int .i64 0, .int .i64 0, .int .u8 0] 53 (0, 0)) ∧ Below w.heap.size w WF := by rw [hWF]; exact put8_is HZ.out HC3.out.2 (Nat.le_refl _) _ _ _ _ _ _ _ _
                      show bodyPost Tryz.prog Tryz.f29 _ Exit.ret _ (put8 wc w.heap.size (.string E) (.string E) (.string E) (.bool false) (.bool false) (.int .i64 0) (.int .i64 0) (.int .u8 0))
                      rw [← hWF]
                      have v0 := cell_in hq.1 0 rfl
                      have v1 := cell_in hq.1 1 rfl
                      have v2 := cell_in hq.1 2 rfl
                      have v3 := cell_in hq.1 3 rfl
                      have v4 := cell_in hq.1 4 rfl
                      have v5 := cell_in hq.1 5 rfl
                      have v6 := cell_in hq.1 6 rfl
                      have v7 := cell_in hq.1 7 rfl
                      refine bodyPost_ret (v := .tuple #[.agg #[.string E, .string E, .string E, .bool false, .bool false, .int .i64 0, .int .i64 0, .int .u8 0], .int .i64 0, .int .i64 12]) (by simp [results, Tryz.results29, go_sem, v0, v1, v2, v3, v4, v5, v6, v7]; try rfl) rfl ⟨by rw [HR.out]; rfl, hq.2⟩
                  · have hk2i : ¬ (k : Int) + 1 < (s.size : Int) := by omega
                    have HR := HG (by rintro ⟨c, h1, _⟩; rw [HE.out, List.getElem?_eq_none (by rw [bl_length]; omega)] at h1; cases h1)
                    clear HG
                    go_wp2_with fail
                    obtain ⟨WF, hWF⟩ : ∃ WF, WF = put8 wc w.heap.size (.string mk) (.string ma) (.string mb) (.bool false) (.bool false) (.int .i64 mf) (.int .i64 mt) (.int .u8 my) := ⟨_, rfl⟩
                    have hq : WF.heap[w.heap.size]? = some (.cells #[.string mk, .string ma, .string mb, .bool false, .bool false, .int .i64 mf, .int .i64 mt, .int .u8 my] 53 (0, 0)) ∧ Below w.heap.size w WF := by rw [hWF]; exact put8_is HZ.out HC3.out.2 (Nat.le_refl _) _ _ _ _ _ _ _ _
                    show bodyPost Tryz.prog Tryz.f29 _ Exit.ret _ (put8 wc w.heap.size (.string mk) (.string ma) (.string mb) (.bool false) (.bool false) (.int .i64 mf) (.int .i64 mt) (.int .u8 my))
                    rw [← hWF]
                    have v0 := cell_in hq.1 0 rfl
                    have v1 := cell_in hq.1 1 rfl
                    have v2 := cell_in hq.1 2 rfl
                    have v3 := cell_in hq.1 3 rfl
                    have v4 := cell_in hq.1 4 rfl
                    have v5 := cell_in hq.1 5 rfl
                    have v6 := cell_in hq.1 6 rfl
                    have v7 := cell_in hq.1 7 rfl
                    refine bodyPost_ret (v := .tuple #[.agg #[.string mk, .string ma, .string mb, .bool false, .bool false, .int .i64 mf, .int .i64 mt, .int .u8 my], .int .i64 ((k + 1 : Nat) : Int), .int .i64 0]) (by simp [results, Tryz.results29, go_sem, v0, v1, v2, v3, v4, v5, v6, v7]; try rfl) rfl ⟨by rw [HR.out]; rfl, hq.2⟩
      · have hgk : ((s[k].toNat : Int) == 93) = false := by
          rw [← Bool.not_eq_true, beq_iff_eq]
          intro e; apply h93; rw [hc, u8_eq_iff]; have : (93 : UInt8).toNat = 93 := rfl; omega
        have HU2 : Hid (∀ j, j < k + 1 → ∀ c, (bl s)[j]? = some c → c ≠ 93) := by
          intro j hj d hd
          by_cases hjk : j = k
          · subst hjk; rw [hbk] at hd; rw [← Option.some.inj hd]; exact h93
          · exact HU.out j (by omega) d hd
        clear hbk hc HU
        go_wp2_with fail
        go_roundw
        case rel => exact ⟨k + 1, by omega, by go_num, HU2, trivial⟩
        case measure => simp [intOf]; omega
    · obtain rfl : k = s.size := by omega
      have HE : Hid (pickA (bl s) = .bad 4) := by
        unfold Hid pickA
        rw [if_pos]
        rw [end_at HU.out (by rw [bl_length]; exact Nat.le_refl _) (.inl (bl_length s).symm), bl_length]
      clear HU
      go_wp2_with fail
      have hq : (w.alloc (.cells (dmA E E E 0 0 0) 53)).heap[w.heap.size]? = some (.cells (dmA E E E 0 0 0) 53 (0, 0)) := Cd.heap_new _ _
      have HB : Hid (Below w.heap.size w (w.alloc (.cells (dmA E E E 0 0 0) 53))) := (Below.refl _ _).alloc (Nat.le_refl _) _
      obtain ⟨WF, hWF⟩ : ∃ WF, WF = w.alloc (.cells (dmA E E E 0 0 0) 53) := ⟨_, rfl⟩
      show bodyPost Tryz.prog Tryz.f29 _ Exit.ret _ (w.alloc (.cells (dmA E E E 0 0 0) 53))
      rw [← hWF] at hq HB ⊢
      have v0 := cell_in hq 0 rfl
      have v1 := cell_in hq 1 rfl
      have v2 := cell_in hq 2 rfl
      have v3 := cell_in hq 3 rfl
      have v4 := cell_in hq 4 rfl
      have v5 := cell_in hq 5 rfl
      have v6 := cell_in hq 6 rfl
      have v7 := cell_in hq 7 rfl
      refine bodyPost_ret (v := .tuple #[.agg (dmA E E E 0 0 0), .int .i64 0, .int .i64 4]) (by simp [results, Tryz.results29, go_sem, v0, v1, v2, v3, v4, v5, v6, v7]; try rfl) rfl ⟨by rw [HE.out]; rfl, HB.out⟩
end Go.Proofs.YtpcpcfnmcfjomaaGreatDoor.DQ
