/-
  M1
-/
import Derived.Test.YtpcpcfnmcfjomaaGreatDoorK03
import Derived.Test.YtpcpcfnmcfjomaaGreatDoorK04
import Derived.Deep.OwnRows
import Derived.Lib.OthersKept
import Derived.Below
namespace Go.Proofs.YtpcpcfnmcfjomaaGreatDoor
open Go.RowKit Go.Shelf
def bl (x : ByteArray) : List UInt8 := x.data.toList
def ba (l : List UInt8) : ByteArray := ⟨l.toArray⟩
theorem bl_ba (l : List UInt8) : bl (ba l) = l := by simp [bl, ba]
theorem ba_bl (x : ByteArray) : ba (bl x) = x := by simp [bl, ba]
theorem bl_inj {x y : ByteArray} (h : bl x = bl y) : x = y := by rw [← ba_bl x, ← ba_bl y, h]
theorem bl_length (x : ByteArray) : (bl x).length = x.size := by simp [bl]
theorem ba_size (l : List UInt8) : (ba l).size = l.length := by simp [ba, ByteArray.size]
theorem ret_str {a b : ByteArray} (h : a = b) : Ending.returned (.string a) = .returned (.string b) := by rw [h]
theorem u8_back (c : UInt8) : (Int.toNat (c.toNat : Int)).toUInt8 = c := by simp
theorem take_snoc (s : ByteArray) (k : Nat) (h : k < s.size) : (bl s).take (k + 1) = (bl s).take k ++ [s[k]] := by
  unfold bl; rw [List.take_succ_eq_append_getElem (by simpa using h)]; rfl
theorem drop_bl (m : ByteArray) (k : Nat) (h : k < m.size) : (bl m).drop k = m[k] :: (bl m).drop (k + 1) :=
  List.drop_eq_getElem_cons (by simpa [bl] using h)
theorem take_all (s : ByteArray) : (bl s).take s.size = bl s := List.take_of_length_le (by simp [bl])
theorem drop_all (s : ByteArray) : (bl s).drop s.size = [] := List.drop_of_length_le (by simp [bl])
theorem bl_extract (s : ByteArray) (a b : Nat) : bl (s.extract a b) = ((bl s).take b).drop a := by
  simp [bl, List.extract_eq_take_drop, List.drop_take]
theorem bl_get (s : ByteArray) (k : Nat) (h : k < s.size) : (bl s)[k]? = some s[k] := by
  unfold bl; rw [List.getElem?_eq_getElem (by simpa using h)]; rfl
theorem heap_set {w : World} {b i : Nat} {cs : Array Value} {T : TypeId} (h : w.heap[b]? = some (.cells cs T (0, 0))) (x : Value) : (w.setCell ⟨b, i, none⟩ x).heap[b]? = some (.cells (cs.setIfInBounds i x) T (0, 0)) := by
  simp [World.setCell, Array.getElem?_modify, h]
theorem size_set (w : World) (a : Addr) (x : Value) : (w.setCell a x).heap.size = w.heap.size := by simp [World.setCell]
theorem row_set {w : World} {base b : Nat} {v : Value} {e : TypeId} {k n : Nat} {xs : List Value} {i : Nat} (h : w.ownsRow base e k v n xs) (hb : v.ownBlock ≠ some b) (x : Value) : (w.setCell ⟨b, i, none⟩ x).ownsRow base e k v n xs := by
  refine ⟨h.1, ?_⟩
  rcases h.2 with h0 | ⟨g, cap, cur, hv, hg, hgg, rest⟩
  · exact .inl h0
  · refine .inr ⟨g, cap, cur, hv, hg, ?_, rest⟩
    rw [Below.heap_setCell _ _ _ _ (fun e => hb (by rw [hv, e]; rfl))]
    exact hgg
theorem owns_below {base n : Nat} {e : TypeId} {size : Nat} {W W1 : World} {v : Value} {xs : List Value} (h : W.ownsRow base e size v n xs) (hb : Below W.heap.size W W1) : W1.ownsRow base e size v n xs :=
  h.kept (row := none) ⟨hb.os, hb.tape, hb.output, hb.size, fun k hk _ => hb.block k hk⟩ (by by_cases h : v.ownBlock = none; exact Or.inl h; exact Or.inr h)
structure Only (b : Nat) (w w' : World) : Prop where
  os : w'.os = w.os
  tape : w'.tape = w.tape
  output : w'.output = w.output
  size : w'.heap.size = w.heap.size
  block : ∀ j, j ≠ b → w'.heap[j]? = w.heap[j]?
theorem Only.refl (b : Nat) (w : World) : Only b w w := ⟨rfl, rfl, rfl, rfl, fun _ _ => rfl⟩
theorem Only.set (b i : Nat) (w : World) (x : Value) : Only b w (w.setCell ⟨b, i, none⟩ x) :=
  ⟨rfl, rfl, rfl, size_set _ _ _, fun _ hj => Below.heap_setCell _ _ _ _ hj⟩
theorem Only.trans {b : Nat} {w w1 w2 : World} (h : Only b w w1) (h2 : Only b w1 w2) : Only b w w2 :=
  ⟨h2.os.trans h.os, h2.tape.trans h.tape, h2.output.trans h.output, h2.size.trans h.size, fun j hj => (h2.block j hj).trans (h.block j hj)⟩
theorem Only.below {b B : Nat} {w0 w w' : World} (h : Only b w w') (hb : B ≤ b) (h0 : Below B w0 w) : Below B w0 w' :=
  ⟨h.os.trans h0.os, h.tape.trans h0.tape, h.output.trans h0.output, by rw [h.size]; exact h0.size, fun j hj => (h.block j (by omega)).trans (h0.block j hj)⟩
def Words (B : Nat) (W : World) (v : Value) (l : List ByteArray) : Prop :=
  ∃ a n c, v = .slice a n c ∧ n = l.length ∧ ∀ i (h : i < l.length), ∃ b o, a = some ⟨b, o, none⟩ ∧ b < B ∧ W.cell? ⟨b, o + i, none⟩ = some (.string l[i])
theorem Words.below {B : Nat} {W W1 : World} {v : Value} {l : List ByteArray} (h : Words B W v l) (hb : Below B W W1) : Words B W1 v l := by
  obtain ⟨a, n, c, h1, h2, h3⟩ := h
  refine ⟨a, n, c, h1, h2, fun i hi => ?_⟩
  obtain ⟨b, o, e1, e2, e3⟩ := h3 i hi
  exact ⟨b, o, e1, e2, by rw [hb.cell (p := ⟨b, o + i, none⟩) e2]; exact e3⟩
theorem Words.mono {B B' : Nat} {W : World} {v : Value} {l : List ByteArray} (h : Words B W v l) (hB : B ≤ B') : Words B' W v l := by
  obtain ⟨a, n, c, h1, h2, h3⟩ := h
  refine ⟨a, n, c, h1, h2, fun i hi => ?_⟩
  obtain ⟨b, o, e1, e2, e3⟩ := h3 i hi
  exact ⟨b, o, e1, by omega, e3⟩
theorem Words.at {B : Nat} {W : World} {v : Value} {l : List ByteArray} (h : Words B W v l) (hne : l ≠ []) :
    ∃ b o c, v = .slice (some ⟨b, o, none⟩) l.length c ∧ b < B ∧ ∀ i (hi : i < l.length), W.cell? ⟨b, o + i, none⟩ = some (.string l[i]) := by
  obtain ⟨a, n, c, h1, h2, h3⟩ := h
  obtain ⟨b, o, e1, e2, _⟩ := h3 0 (List.length_pos_iff.mpr hne)
  refine ⟨b, o, c, by rw [h1, e1, h2], e2, fun i hi => ?_⟩
  obtain ⟨b', o', e1', _, e3⟩ := h3 i hi
  rw [e1] at e1'
  simp only [Option.some.injEq, Addr.mk.injEq, and_true] at e1'
  rw [e1'.1, e1'.2]; exact e3
theorem words_of_owns {B base : Nat} {W : World} {v : Value} {l : List ByteArray} (h : W.ownsRow base 9 1 v l.length (l.map Value.string)) (hB : W.heap.size ≤ B) : Words B W v l := by
  obtain ⟨hxl, ⟨hv, hn⟩ | ⟨g, cap, cur, hv, hg, hcur, hcap, hcm, hcs, hct⟩⟩ := h
  · exact ⟨none, 0, 0, hv, hn.symm, fun i hi => by omega⟩
  · have hgl : g < W.heap.size := (Array.getElem?_eq_some_iff.1 hcur).1
    refine ⟨some ⟨g, 0, none⟩, l.length, cap, hv, rfl, fun i hi => ⟨g, 0, rfl, by omega, ?_⟩⟩
    have hjc : cur.toList[i]? = some (.string l[i]) := by
      have h2 : (cur.toList.take (l.length * 1))[i]? = (l.map Value.string)[i]? := by rw [hct]
      rw [List.getElem?_take_of_lt (by omega)] at h2
      rw [h2]; simp [List.getElem?_eq_getElem hi]
    simp only [World.cell?, hcur]
    simpa using hjc
set_option maxHeartbeats 1600000 in
theorem same_some (l : List ByteArray) (b1 o1 c1 b2 o2 c2 : Nat) (w : World) (hl : l.length ≤ 2000000)
    (h1 : ∀ i (h : i < l.length), w.cell? ⟨b1, o1 + i, none⟩ = some (.string l[i])) (h2 : ∀ i (h : i < l.length), w.cell? ⟨b2, o2 + i, none⟩ = some (.string l[i])) :
    Calls Tryz.prog 7 #[.slice (some ⟨b1, o1, none⟩) l.length c1, .slice (some ⟨b2, o2, none⟩) l.length c2] w fun e w' => e = .returned (.bool true) ∧ ∃ n, w' = w.drewN n := by
  obtain ⟨n, hn⟩ : ∃ n, n = l.length := ⟨_, rfl⟩
  have HC : Hid (n = l.length ∧ (∀ i (h : i < l.length), w.cell? ⟨b1, o1 + i, none⟩ = some (.string l[i])) ∧ (∀ i (h : i < l.length), w.cell? ⟨b2, o2 + i, none⟩ = some (.string l[i]))) := ⟨hn, h1, h2⟩
  rw [← hn] at hl ⊢
  clear h1 h2 hn
  go_enter Tryz.func7, Tryz.ntmps7
  go_wp2
  go_loopw [5] (fun vi wr => ∃ k m : Nat, k ≤ n ∧ vi = .int .i64 k ∧ wr = w.drewN m) (fun vi _ => n - (intOf vi).toNat)
  case atStart => exact ⟨0, 0, Nat.zero_le _, rfl, rfl⟩
  case round =>
    obtain ⟨k, m, hk, rfl, rfl⟩ := hrel
    by_cases hlt : k < n
    · have hkl : k < l.length := by rw [← HC.out.1]; exact hlt
      have hil : (k : Int) < (n : Int) := by omega
      have e1 := HC.out.2.1 k hkl
      have e2 := HC.out.2.2 k hkl
      obtain ⟨x, hxe⟩ : ∃ x, x = l[k] := ⟨_, rfl⟩
      rw [← hxe] at e1 e2
      clear hxe
      go_wp2
      go_quiet (fail)
      go_wp2
      go_roundw
      case rel => exact ⟨k + 1, _, by omega, by go_num, rfl⟩
      case measure => simp [intOf]; omega
    · go_wp2
      go_ret
      exact ⟨rfl, _, rfl⟩
set_option maxHeartbeats 1600000 in
theorem same_none (a1 a2 : Option Addr) (c1 c2 : Nat) (w : World) :
    Calls Tryz.prog 7 #[.slice a1 0 c1, .slice a2 0 c2] w fun e w' => e = .returned (.bool true) ∧ ∃ n, w' = w.drewN n := by
  go_enter Tryz.func7, Tryz.ntmps7
  go_wp2
  refine wp_loop_rounds 1 ?_
  rw [rounds_succ]
  go_wp2
  go_ret
  exact ⟨rfl, 0, rfl⟩
theorem same_any (l : List ByteArray) (v1 v2 : Value) (B1 B2 : Nat) (w : World) (hl : l.length ≤ 2000000) (h1 : Words B1 w v1 l) (h2 : Words B2 w v2 l) :
    Calls Tryz.prog 7 #[v1, v2] w fun e w' => e = .returned (.bool true) ∧ ∃ n, w' = w.drewN n := by
  by_cases hne : l = []
  · subst hne
    obtain ⟨a, n, c, rfl, hn, _⟩ := h1
    obtain ⟨a', n', c', rfl, hn', _⟩ := h2
    simp at hn hn'; subst hn; subst hn'
    exact same_none a a' c c' w
  · obtain ⟨b, o, c, rfl, hb, hc⟩ := h1.at hne
    obtain ⟨b', o', c', rfl, hb', hc'⟩ := h2.at hne
    exact same_some l b o c b' o' c' w hl hc hc'
theorem Words.pick {B : Nat} {W : World} {a : Option Addr} {n c : Nat} {l : List ByteArray} (h : Words B W (.slice a n c) l) (k : Nat) (hk : k < l.length) :
    ∃ b o, a = some ⟨b, o, none⟩ ∧ b < B ∧ W.cell? ⟨b, o + k, none⟩ = some (.string l[k]) := by
  obtain ⟨a', n', c', e1, e2, e3⟩ := h
  obtain ⟨b, o, f1, f2, f3⟩ := e3 k hk
  simp only [Value.slice.injEq] at e1
  exact ⟨b, o, by rw [e1.1]; exact f1, f2, f3⟩
theorem Words.len {B : Nat} {W : World} {a : Option Addr} {n c : Nat} {l : List ByteArray} (h : Words B W (.slice a n c) l) : n = l.length := by
  obtain ⟨a', n', c', e1, e2, e3⟩ := h
  simp only [Value.slice.injEq] at e1
  exact e1.2.1.trans e2
def Mx (w : World) : Prop := ∃ m, w.cell? ⟨0, 0, none⟩ = some (.int .i64 m)
theorem Mx.pos {w : World} (h : Mx w) : 0 < w.heap.size := by
  obtain ⟨m, hm⟩ := h
  unfold World.cell? at hm
  cases hb : w.heap[(0 : Nat)]? with
  | none => rw [hb] at hm; simp at hm
  | some o => exact (Array.getElem?_eq_some_iff.1 hb).1
theorem Mx.below {w w' : World} {B : Nat} (h : Mx w) (hb : Below B w w') (hB : 0 < B) : Mx w' := by
  obtain ⟨m, hm⟩ := h
  exact ⟨m, (hb.cell (p := ⟨0, 0, none⟩) hB).trans hm⟩
abbrev E : ByteArray := ⟨#[]⟩
def untilL (e : UInt8) : List UInt8 → List UInt8 × Nat × Bool
  | [] => ([], 0, false)
  | [c] => if c = e then ([], 0, true) else ([c], 1, false)
  | c :: d :: t => if c = 92 ∧ d = e then (e :: (untilL e t).1, (untilL e t).2.1 + 2, (untilL e t).2.2)
    else if c = e then ([], 0, true) else (c :: (untilL e (d :: t)).1, (untilL e (d :: t)).2.1 + 1, (untilL e (d :: t)).2.2)
theorem until_len (e : UInt8) (l : List UInt8) : (untilL e l).1.length ≤ (untilL e l).2.1 ∧ (untilL e l).2.1 ≤ l.length := by
  induction l using untilL.induct e with
  | case1 => simp [untilL]
  | case2 => simp [untilL]
  | case3 c h => simp [untilL, h]
  | case4 c d t h ih => unfold untilL; rw [if_pos h]; simp; omega
  | case5 d t h => unfold untilL; rw [if_neg h, if_pos rfl]; simp
  | case6 c d t h1 h2 ih => unfold untilL; rw [if_neg h1, if_neg h2]; simp at ih ⊢; omega
theorem until_two {e c d : UInt8} {t : List UInt8} (h1 : c = 92) (h2 : d = e) : untilL e (c :: d :: t) = (e :: (untilL e t).1, (untilL e t).2.1 + 2, (untilL e t).2.2) := by
  show (if c = 92 ∧ d = e then _ else _) = _
  rw [if_pos ⟨h1, h2⟩]
theorem until_go {e c : UInt8} {l : List UInt8} (hA : ¬ (c = 92 ∧ l.head? = some e)) (hc : ¬ c = e) : untilL e (c :: l) = (c :: (untilL e l).1, (untilL e l).2.1 + 1, (untilL e l).2.2) := by
  cases l with
  | nil => show (if c = e then _ else _) = _; rw [if_neg hc]; rfl
  | cons d t =>
    show (if c = 92 ∧ d = e then _ else if c = e then _ else _) = _
    rw [if_neg (fun x => hA ⟨x.1, by rw [x.2]; rfl⟩), if_neg hc]
theorem until_end {e c : UInt8} {l : List UInt8} (hA : ¬ (c = 92 ∧ l.head? = some e)) (hc : c = e) : untilL e (c :: l) = ([], 0, true) := by
  cases l with
  | nil => show (if c = e then _ else _) = _; rw [if_pos hc]
  | cons d t =>
    show (if c = 92 ∧ d = e then _ else if c = e then _ else _) = _
    rw [if_neg (fun x => hA ⟨x.1, by rw [x.2]; rfl⟩), if_pos hc]
theorem trip {α β γ : Type} {a a' : α} {b b' : β} {c : γ} (h1 : a = a') (h2 : b = b') : (a, b, c) = (a', b', c) := by rw [h1, h2]
def untilV (e : UInt8) (s : ByteArray) : Value := .tuple #[.string (ba (untilL e (bl s)).1), .int .i64 (untilL e (bl s)).2.1, .bool (untilL e (bl s)).2.2]
set_option maxRecDepth 20000 in
set_option maxHeartbeats 1600000 in
theorem until_any (s : ByteArray) (e : UInt8) (w : World) (hs : s.size ≤ 1000000) :
    Calls Tryz.prog 20 #[.string s, .int .u8 e.toNat] w fun x w' => x = .returned (untilV e s) ∧ Below w.heap.size w w' := by
  obtain ⟨en, hen⟩ : ∃ en : Int, en = (e.toNat : Int) := ⟨_, rfl⟩
  have HEn : Hid (en = (e.toNat : Int)) := hen
  unfold untilV
  rw [← hen]
  clear hen
  go_enter Tryz.func20, Tryz.ntmps20
  go_wp2
  go_loopw [8] (fun vi wr => ∃ (k : Nat) (acc : List UInt8), k ≤ s.size ∧ acc.length ≤ k ∧ vi = .int .i64 k ∧ Hid (Lib.IsBuilder 75 5 w.heap.size w.heap.size (Lib.byteCells acc) wr) ∧ Hid (untilL e (bl s) = (acc ++ (untilL e ((bl s).drop k)).1, k + (untilL e ((bl s).drop k)).2.1, (untilL e ((bl s).drop k)).2.2)) ∧ Below w.heap.size w wr)
    (fun vi _ => s.size - (intOf vi).toNat)
  case atStart => exact ⟨0, [], Nat.zero_le _, Nat.le_refl _, rfl, Lib.fresh_isBuilder 75 5 w, by unfold Hid; simp, (Below.refl _ _).alloc (Nat.le_refl _) _⟩
  case round =>
    obtain ⟨k, acc, hk, hacc, rfl, HB, HU, hb⟩ := hrel
    have hbs := hb.size
    have hlen : (Lib.byteCells acc).length ≤ 1000000 := by simp [Lib.byteCells]; omega
    by_cases hlt : k < s.size
    · have hil : (k : Int) < (s.size : Int) := by omega
      have hd := drop_bl s k hlt
      obtain ⟨c, hc⟩ : ∃ c, c = s[k] := ⟨_, rfl⟩
      obtain ⟨cn, hcn⟩ : ∃ cn : Int, cn = (s[k].toNat : Int) := ⟨_, rfl⟩
      have hgk : (s[k].toNat : Int) = cn := hcn.symm
      rw [← hc] at hd
      have HCC : Hid (cn = (c.toNat : Int)) := by rw [hcn, hc]; rfl
      clear hcn hc
      by_cases hk1 : k + 1 < s.size
      · have hi1 : (k : Int) + 1 < (s.size : Int) := by omega
        have hd1 := drop_bl s (k + 1) hk1
        obtain ⟨d, hde⟩ : ∃ d, d = s[k + 1] := ⟨_, rfl⟩
        obtain ⟨dn, hdn⟩ : ∃ dn : Int, dn = (s[k + 1].toNat : Int) := ⟨_, rfl⟩
        have hgk1 : (s[k + 1].toNat : Int) = dn := hdn.symm
        rw [← hde] at hd1
        have HDD : Hid (dn = (d.toNat : Int)) := by rw [hdn, hde]; rfl
        clear hdn hde
        have hto : ((k : Int) + 1).toNat = k + 1 := by omega
        by_cases h92 : c = 92
        · by_cases hde2 : d = e
          · have t1 : (cn == 92) = true := by rw [HCC.out]; rw [h92]; rfl
            have t2 : (dn == en) = true := by rw [HDD.out, HEn.out]; rw [hde2]; simp
            have HV : Hid (untilL e (bl s) = ((acc ++ [e]) ++ (untilL e ((bl s).drop (k + 2))).1, (k + 2) + (untilL e ((bl s).drop (k + 2))).2.1, (untilL e ((bl s).drop (k + 2))).2.2)) := by
              refine HU.out.trans ?_
              rw [hd, hd1, until_two h92 hde2]
              exact trip (by rw [List.append_assoc]; rfl) (by show k + ((untilL e ((bl s).drop (k + 2))).2.1 + 2) = _; omega)
            have HBy : Hid (Lib.byteCells (acc ++ [e]) = Lib.byteCells acc ++ [.int .u8 dn]) := by
              unfold Hid; rw [HDD.out, hde2]; simp [Lib.byteCells]
            clear HU hd hd1
            go_wp2_with fail
            refine (Tryz.Builder_WriteByte _ _ _ _ _ HB.out (by omega) hbs).mono ?_
            rintro x w1 ⟨rfl, hB1, hb1⟩
            have HE : Hid (Lib.IsBuilder 75 5 w.heap.size w.heap.size (Lib.byteCells (acc ++ [e])) w1 ∧ Below w.heap.size w w1) := ⟨.inr (by rw [HBy.out]; exact hB1), hb.trans hb1⟩
            clear hB1 hb1 HB hb
            go_wp2
            go_roundw
            case rel => exact ⟨k + 2, acc ++ [e], by omega, by simp; omega, by go_num, HE.out.1, HV, HE.out.2⟩
            case measure => simp [intOf]; omega
          · by_cases hce : c = e
            · have t1 : (cn == 92) = true := by rw [HCC.out]; rw [h92]; rfl
              have t2 : (dn == en) = false := by rw [HDD.out, HEn.out]; rw [← Bool.not_eq_true, beq_iff_eq]; intro e1; apply hde2; rw [u8_eq_iff]; omega
              have t3 : (cn == en) = true := by rw [HCC.out, HEn.out]; rw [hce]; simp
              have HV : Hid (untilL e (bl s) = (acc, k, true)) := by
                refine HU.out.trans ?_; rw [hd, until_end (fun x => hde2 (by have := x.2; rw [hd1] at this; simpa using this)) hce]; exact trip (List.append_nil _) rfl
              clear HU hd hd1
              go_wp2_with fail
              refine (Tryz.Builder_String_any _ _ _ _ HB.out hbs).mono ?_
              rintro x w1 ⟨rfl, hb1⟩
              go_wp2
              go_ret3
              exact ⟨by rw [HV.out]; rfl, hb.trans hb1⟩
            · have t1 : (cn == 92) = true := by rw [HCC.out]; rw [h92]; rfl
              have t2 : (dn == en) = false := by rw [HDD.out, HEn.out]; rw [← Bool.not_eq_true, beq_iff_eq]; intro e1; apply hde2; rw [u8_eq_iff]; omega
              have t3 : (cn == en) = false := by rw [HCC.out, HEn.out]; rw [← Bool.not_eq_true, beq_iff_eq]; intro e1; apply hce; rw [u8_eq_iff]; omega
              have HV : Hid (untilL e (bl s) = ((acc ++ [c]) ++ (untilL e ((bl s).drop (k + 1))).1, (k + 1) + (untilL e ((bl s).drop (k + 1))).2.1, (untilL e ((bl s).drop (k + 1))).2.2)) := by
                refine HU.out.trans ?_
                rw [hd, until_go (fun x => hde2 (by have := x.2; rw [hd1] at this; simpa using this)) hce]
                exact trip (by rw [List.append_assoc]; rfl) (by show k + ((untilL e ((bl s).drop (k + 1))).2.1 + 1) = _; omega)
              have HBy : Hid (Lib.byteCells (acc ++ [c]) = Lib.byteCells acc ++ [.int .u8 cn]) := by
                unfold Hid; rw [HCC.out]; simp [Lib.byteCells]
              clear HU hd hd1
              go_wp2_with fail
              refine (Tryz.Builder_WriteByte _ _ _ _ _ HB.out (by omega) hbs).mono ?_
              rintro x w1 ⟨rfl, hB1, hb1⟩
              have HE : Hid (Lib.IsBuilder 75 5 w.heap.size w.heap.size (Lib.byteCells (acc ++ [c])) w1 ∧ Below w.heap.size w w1) := ⟨.inr (by rw [HBy.out]; exact hB1), hb.trans hb1⟩
              clear hB1 hb1 HB hb
              go_wp2
              go_roundw
              case rel => exact ⟨k + 1, acc ++ [c], by omega, by simp; omega, by go_num, HE.out.1, HV, HE.out.2⟩
              case measure => simp [intOf]; omega
        · by_cases hce : c = e
          · have t1 : (cn == 92) = false := by rw [HCC.out]; rw [← Bool.not_eq_true, beq_iff_eq]; intro e1; apply h92; rw [u8_eq_iff]; have : (92 : UInt8).toNat = 92 := rfl; omega
            have t3 : (cn == en) = true := by rw [HCC.out, HEn.out]; rw [hce]; simp
            have HV : Hid (untilL e (bl s) = (acc, k, true)) := by
              refine HU.out.trans ?_; rw [hd, until_end (fun x => h92 x.1) hce]; exact trip (List.append_nil _) rfl
            clear HU hd hd1
            go_wp2_with fail
            refine (Tryz.Builder_String_any _ _ _ _ HB.out hbs).mono ?_
            rintro x w1 ⟨rfl, hb1⟩
            go_wp2
            go_ret3
            exact ⟨by rw [HV.out]; rfl, hb.trans hb1⟩
          · have t1 : (cn == 92) = false := by rw [HCC.out]; rw [← Bool.not_eq_true, beq_iff_eq]; intro e1; apply h92; rw [u8_eq_iff]; have : (92 : UInt8).toNat = 92 := rfl; omega
            have t3 : (cn == en) = false := by rw [HCC.out, HEn.out]; rw [← Bool.not_eq_true, beq_iff_eq]; intro e1; apply hce; rw [u8_eq_iff]; omega
            have HV : Hid (untilL e (bl s) = ((acc ++ [c]) ++ (untilL e ((bl s).drop (k + 1))).1, (k + 1) + (untilL e ((bl s).drop (k + 1))).2.1, (untilL e ((bl s).drop (k + 1))).2.2)) := by
              refine HU.out.trans ?_
              rw [hd, until_go (fun x => h92 x.1) hce]
              exact trip (by rw [List.append_assoc]; rfl) (by show k + ((untilL e ((bl s).drop (k + 1))).2.1 + 1) = _; omega)
            have HBy : Hid (Lib.byteCells (acc ++ [c]) = Lib.byteCells acc ++ [.int .u8 cn]) := by
              unfold Hid; rw [HCC.out]; simp [Lib.byteCells]
            clear HU hd hd1
            go_wp2_with fail
            refine (Tryz.Builder_WriteByte _ _ _ _ _ HB.out (by omega) hbs).mono ?_
            rintro x w1 ⟨rfl, hB1, hb1⟩
            have HE : Hid (Lib.IsBuilder 75 5 w.heap.size w.heap.size (Lib.byteCells (acc ++ [c])) w1 ∧ Below w.heap.size w w1) := ⟨.inr (by rw [HBy.out]; exact hB1), hb.trans hb1⟩
            clear hB1 hb1 HB hb
            go_wp2
            go_roundw
            case rel => exact ⟨k + 1, acc ++ [c], by omega, by simp; omega, by go_num, HE.out.1, HV, HE.out.2⟩
            case measure => simp [intOf]; omega
      · have hi1 : ¬ (k : Int) + 1 < (s.size : Int) := by omega
        by_cases h92 : c = 92
        · by_cases hce : c = e
          · have t1 : (cn == 92) = true := by rw [HCC.out]; rw [h92]; rfl
            have t3 : (cn == en) = true := by rw [HCC.out, HEn.out]; rw [hce]; simp
            have HV : Hid (untilL e (bl s) = (acc, k, true)) := by
              refine HU.out.trans ?_; rw [hd, until_end (fun x => by have := x.2; rw [List.drop_of_length_le (by rw [bl_length]; omega)] at this; simp at this) hce]; exact trip (List.append_nil _) rfl
            clear HU hd
            go_wp2_with fail
            refine (Tryz.Builder_String_any _ _ _ _ HB.out hbs).mono ?_
            rintro x w1 ⟨rfl, hb1⟩
            go_wp2
            go_ret3
            exact ⟨by rw [HV.out]; rfl, hb.trans hb1⟩
          · have t1 : (cn == 92) = true := by rw [HCC.out]; rw [h92]; rfl
            have t3 : (cn == en) = false := by rw [HCC.out, HEn.out]; rw [← Bool.not_eq_true, beq_iff_eq]; intro e1; apply hce; rw [u8_eq_iff]; omega
            have HV : Hid (untilL e (bl s) = ((acc ++ [c]) ++ (untilL e ((bl s).drop (k + 1))).1, (k + 1) + (untilL e ((bl s).drop (k + 1))).2.1, (untilL e ((bl s).drop (k + 1))).2.2)) := by
              refine HU.out.trans ?_
              rw [hd, until_go (fun x => by have := x.2; rw [List.drop_of_length_le (by rw [bl_length]; omega)] at this; simp at this) hce]
              exact trip (by rw [List.append_assoc]; rfl) (by show k + ((untilL e ((bl s).drop (k + 1))).2.1 + 1) = _; omega)
            have HBy : Hid (Lib.byteCells (acc ++ [c]) = Lib.byteCells acc ++ [.int .u8 cn]) := by
              unfold Hid; rw [HCC.out]; simp [Lib.byteCells]
            clear HU hd
            go_wp2_with fail
            refine (Tryz.Builder_WriteByte _ _ _ _ _ HB.out (by omega) hbs).mono ?_
            rintro x w1 ⟨rfl, hB1, hb1⟩
            have HE : Hid (Lib.IsBuilder 75 5 w.heap.size w.heap.size (Lib.byteCells (acc ++ [c])) w1 ∧ Below w.heap.size w w1) := ⟨.inr (by rw [HBy.out]; exact hB1), hb.trans hb1⟩
            clear hB1 hb1 HB hb
            go_wp2
            go_roundw
            case rel => exact ⟨k + 1, acc ++ [c], by omega, by simp; omega, by go_num, HE.out.1, HV, HE.out.2⟩
            case measure => simp [intOf]; omega
        · by_cases hce : c = e
          · have t1 : (cn == 92) = false := by rw [HCC.out]; rw [← Bool.not_eq_true, beq_iff_eq]; intro e1; apply h92; rw [u8_eq_iff]; have : (92 : UInt8).toNat = 92 := rfl; omega
            have t3 : (cn == en) = true := by rw [HCC.out, HEn.out]; rw [hce]; simp
            have HV : Hid (untilL e (bl s) = (acc, k, true)) := by
              refine HU.out.trans ?_; rw [hd, until_end (fun x => by have := x.2; rw [List.drop_of_length_le (by rw [bl_length]; omega)] at this; simp at this) hce]; exact trip (List.append_nil _) rfl
            clear HU hd
            go_wp2_with fail
            refine (Tryz.Builder_String_any _ _ _ _ HB.out hbs).mono ?_
            rintro x w1 ⟨rfl, hb1⟩
            go_wp2
            go_ret3
            exact ⟨by rw [HV.out]; rfl, hb.trans hb1⟩
          · have t1 : (cn == 92) = false := by rw [HCC.out]; rw [← Bool.not_eq_true, beq_iff_eq]; intro e1; apply h92; rw [u8_eq_iff]; have : (92 : UInt8).toNat = 92 := rfl; omega
            have t3 : (cn == en) = false := by rw [HCC.out, HEn.out]; rw [← Bool.not_eq_true, beq_iff_eq]; intro e1; apply hce; rw [u8_eq_iff]; omega
            have HV : Hid (untilL e (bl s) = ((acc ++ [c]) ++ (untilL e ((bl s).drop (k + 1))).1, (k + 1) + (untilL e ((bl s).drop (k + 1))).2.1, (untilL e ((bl s).drop (k + 1))).2.2)) := by
              refine HU.out.trans ?_
              rw [hd, until_go (fun x => by have := x.2; rw [List.drop_of_length_le (by rw [bl_length]; omega)] at this; simp at this) hce]
              exact trip (by rw [List.append_assoc]; rfl) (by show k + ((untilL e ((bl s).drop (k + 1))).2.1 + 1) = _; omega)
            have HBy : Hid (Lib.byteCells (acc ++ [c]) = Lib.byteCells acc ++ [.int .u8 cn]) := by
              unfold Hid; rw [HCC.out]; simp [Lib.byteCells]
            clear HU hd
            go_wp2_with fail
            refine (Tryz.Builder_WriteByte _ _ _ _ _ HB.out (by omega) hbs).mono ?_
            rintro x w1 ⟨rfl, hB1, hb1⟩
            have HE : Hid (Lib.IsBuilder 75 5 w.heap.size w.heap.size (Lib.byteCells (acc ++ [c])) w1 ∧ Below w.heap.size w w1) := ⟨.inr (by rw [HBy.out]; exact hB1), hb.trans hb1⟩
            clear hB1 hb1 HB hb
            go_wp2
            go_roundw
            case rel => exact ⟨k + 1, acc ++ [c], by omega, by simp; omega, by go_num, HE.out.1, HV, HE.out.2⟩
            case measure => simp [intOf]; omega
    · obtain rfl : k = s.size := by omega
      have hil : ¬ (s.size : Int) < (s.size : Int) := by omega
      have HV : Hid (untilL e (bl s) = (acc, s.size, false)) := by
        refine HU.out.trans ?_; rw [List.drop_of_length_le (by rw [bl_length]; omega)]; exact trip (List.append_nil _) rfl
      clear HU
      go_wp2_with fail
      refine (Tryz.Builder_String_any _ _ _ _ HB.out hbs).mono ?_
      rintro x w1 ⟨rfl, hb1⟩
      go_wp2
      go_ret3
      exact ⟨by rw [HV.out]; rfl, hb.trans hb1⟩
end Go.Proofs.YtpcpcfnmcfjomaaGreatDoor
