/-
  M1 M2
-/
import Derived.Test.YtedepknbaakkhabGreatDoorK03
import Derived.Test.YtedepknbaakkhabGreatDoorK04
import Derived.Deep.OwnRows
import Derived.Lib.OthersKept
import Derived.Below
set_option maxRecDepth 20000
namespace Go.Proofs.YtedepknbaakkhabGreatDoor
open Go.RowKit Go.Shelf
def bl (x : ByteArray) : List UInt8 := x.data.toList
def ba (l : List UInt8) : ByteArray := ⟨l.toArray⟩
theorem bl_ba (l : List UInt8) : bl (ba l) = l := by simp [bl, ba]
theorem ba_bl (x : ByteArray) : ba (bl x) = x := by simp [bl, ba]
theorem bl_inj {x y : ByteArray} (h : bl x = bl y) : x = y := by rw [← ba_bl x, ← ba_bl y, h]
theorem bl_length (x : ByteArray) : (bl x).length = x.size := by simp [bl]
theorem ba_size (l : List UInt8) : (ba l).size = l.length := by simp [ba, ByteArray.size]
theorem ret_str {a b : ByteArray} (h : a = b) : Ending.returned (.string a) = .returned (.string b) := by rw [h]
theorem u8_back (c : UInt8) : (Int.toNat (c.toNat : Int)).toUInt8 = c := by simp
theorem take_snoc (s : ByteArray) (k : Nat) (h : k < s.size) : (bl s).take (k + 1) = (bl s).take k ++ [s[k]] := by
  unfold bl; rw [List.take_succ_eq_append_getElem (by simpa using h)]; rfl
theorem drop_bl (m : ByteArray) (k : Nat) (h : k < m.size) : (bl m).drop k = m[k] :: (bl m).drop (k + 1) :=
  List.drop_eq_getElem_cons (by simpa [bl] using h)
theorem take_all (s : ByteArray) : (bl s).take s.size = bl s := List.take_of_length_le (by simp [bl])
theorem drop_all (s : ByteArray) : (bl s).drop s.size = [] := List.drop_of_length_le (by simp [bl])
theorem bl_extract (s : ByteArray) (a b : Nat) : bl (s.extract a b) = ((bl s).take b).drop a := by
  simp [bl, List.extract_eq_take_drop, List.drop_take]
theorem bl_get (s : ByteArray) (k : Nat) (h : k < s.size) : (bl s)[k]? = some s[k] := by
  unfold bl; rw [List.getElem?_eq_getElem (by simpa using h)]; rfl
theorem heap_set {w : World} {b i : Nat} {cs : Array Value} {T : TypeId} (h : w.heap[b]? = some (.cells cs T (0, 0))) (x : Value) : (w.setCell ⟨b, i, none⟩ x).heap[b]? = some (.cells (cs.setIfInBounds i x) T (0, 0)) := by
  simp [World.setCell, Array.getElem?_modify, h]
theorem size_set (w : World) (a : Addr) (x : Value) : (w.setCell a x).heap.size = w.heap.size := by simp [World.setCell]
theorem row_set {w : World} {base b : Nat} {v : Value} {e : TypeId} {k n : Nat} {xs : List Value} {i : Nat} (h : w.ownsRow base e k v n xs) (hb : v.ownBlock ≠ some b) (x : Value) : (w.setCell ⟨b, i, none⟩ x).ownsRow base e k v n xs := by
  refine ⟨h.1, ?_⟩
  rcases h.2 with h0 | ⟨g, cap, cur, hv, hg, hgg, rest⟩
  · exact .inl h0
  · refine .inr ⟨g, cap, cur, hv, hg, ?_, rest⟩
    rw [Below.heap_setCell _ _ _ _ (fun e => hb (by rw [hv, e]; rfl))]
    exact hgg
theorem owns_below {base n : Nat} {e : TypeId} {size : Nat} {W W1 : World} {v : Value} {xs : List Value} (h : W.ownsRow base e size v n xs) (hb : Below W.heap.size W W1) : W1.ownsRow base e size v n xs :=
  h.kept (row := none) ⟨hb.os, hb.tape, hb.output, hb.size, fun k hk _ => hb.block k hk⟩ (by by_cases h : v.ownBlock = none; exact Or.inl h; exact Or.inr h)
structure Only (b : Nat) (w w' : World) : Prop where
  os : w'.os = w.os
  tape : w'.tape = w.tape
  output : w'.output = w.output
  size : w'.heap.size = w.heap.size
  block : ∀ j, j ≠ b → w'.heap[j]? = w.heap[j]?
theorem Only.refl (b : Nat) (w : World) : Only b w w := ⟨rfl, rfl, rfl, rfl, fun _ _ => rfl⟩
theorem Only.set (b i : Nat) (w : World) (x : Value) : Only b w (w.setCell ⟨b, i, none⟩ x) :=
  ⟨rfl, rfl, rfl, size_set _ _ _, fun _ hj => Below.heap_setCell _ _ _ _ hj⟩
theorem Only.drew {b : Nat} {w w' : World} (h : Only b w w') : Only b w w'.drew := ⟨h.os, h.tape, h.output, h.size, h.block⟩
theorem Only.trans {b : Nat} {w w1 w2 : World} (h : Only b w w1) (h2 : Only b w1 w2) : Only b w w2 :=
  ⟨h2.os.trans h.os, h2.tape.trans h.tape, h2.output.trans h.output, h2.size.trans h.size, fun j hj => (h2.block j hj).trans (h.block j hj)⟩
theorem Only.below {b B : Nat} {w0 w w' : World} (h : Only b w w') (hb : B ≤ b) (h0 : Below B w0 w) : Below B w0 w' :=
  ⟨h.os.trans h0.os, h.tape.trans h0.tape, h.output.trans h0.output, by rw [h.size]; exact h0.size, fun j hj => (h.block j (by omega)).trans (h0.block j hj)⟩
theorem Only.row {w w' : World} {base b : Nat} {v : Value} {e : TypeId} {k n : Nat} {xs : List Value} (ho : Only b w w') (h : w.ownsRow base e k v n xs) (hb : v.ownBlock ≠ some b) : w'.ownsRow base e k v n xs := by
  refine ⟨h.1, ?_⟩
  rcases h.2 with h0 | ⟨g, cap, cur, hv, hg, hgg, rest⟩
  · exact .inl h0
  · refine .inr ⟨g, cap, cur, hv, hg, ?_, rest⟩
    rw [ho.block g (fun e => hb (by rw [hv, e]; rfl))]
    exact hgg
theorem row_type {w : World} {base g : Nat} {v : Value} {e : TypeId} {k n : Nat} {xs : List Value} (h : w.ownsRow base e k v n xs) (hv : v.ownBlock = some g) : ∃ cur, w.heap[g]? = some (.cells cur e (0, 0)) := by
  rcases h.2 with ⟨rfl, _⟩ | ⟨g', cap, cur, rfl, _, hg, _⟩
  · simp [Value.ownBlock] at hv
  · simp [Value.ownBlock] at hv
    subst hv
    exact ⟨cur, hg⟩
def Words (B : Nat) (W : World) (v : Value) (l : List ByteArray) : Prop :=
  ∃ a n c, v = .slice a n c ∧ n = l.length ∧ ∀ i (h : i < l.length), ∃ b o, a = some ⟨b, o, none⟩ ∧ b < B ∧ W.cell? ⟨b, o + i, none⟩ = some (.string l[i])
theorem Words.below {B : Nat} {W W1 : World} {v : Value} {l : List ByteArray} (h : Words B W v l) (hb : Below B W W1) : Words B W1 v l := by
  obtain ⟨a, n, c, h1, h2, h3⟩ := h
  refine ⟨a, n, c, h1, h2, fun i hi => ?_⟩
  obtain ⟨b, o, e1, e2, e3⟩ := h3 i hi
  exact ⟨b, o, e1, e2, by rw [hb.cell (p := ⟨b, o + i, none⟩) e2]; exact e3⟩
theorem Words.mono {B B' : Nat} {W : World} {v : Value} {l : List ByteArray} (h : Words B W v l) (hB : B ≤ B') : Words B' W v l := by
  obtain ⟨a, n, c, h1, h2, h3⟩ := h
  refine ⟨a, n, c, h1, h2, fun i hi => ?_⟩
  obtain ⟨b, o, e1, e2, e3⟩ := h3 i hi
  exact ⟨b, o, e1, by omega, e3⟩
theorem Words.drewN {B : Nat} {W : World} {v : Value} {l : List ByteArray} (h : Words B W v l) (n : Nat) : Words B (W.drewN n) v l := h.below (below_drewN (Below.refl _ _) n)
theorem Words.at {B : Nat} {W : World} {v : Value} {l : List ByteArray} (h : Words B W v l) (hne : l ≠ []) :
    ∃ b o c, v = .slice (some ⟨b, o, none⟩) l.length c ∧ b < B ∧ ∀ i (hi : i < l.length), W.cell? ⟨b, o + i, none⟩ = some (.string l[i]) := by
  obtain ⟨a, n, c, h1, h2, h3⟩ := h
  obtain ⟨b, o, e1, e2, _⟩ := h3 0 (List.length_pos_iff.mpr hne)
  refine ⟨b, o, c, by rw [h1, e1, h2], e2, fun i hi => ?_⟩
  obtain ⟨b', o', e1', _, e3⟩ := h3 i hi
  rw [e1] at e1'
  simp only [Option.some.injEq, Addr.mk.injEq, and_true] at e1'
  rw [e1'.1, e1'.2]; exact e3
theorem words_of_owns {B base : Nat} {W : World} {v : Value} {l : List ByteArray} (h : W.ownsRow base 9 1 v l.length (l.map Value.string)) (hB : W.heap.size ≤ B) : Words B W v l := by
  obtain ⟨hxl, ⟨hv, hn⟩ | ⟨g, cap, cur, hv, hg, hcur, hcap, hcm, hcs, hct⟩⟩ := h
  · exact ⟨none, 0, 0, hv, hn.symm, fun i hi => by omega⟩
  · have hgl : g < W.heap.size := (Array.getElem?_eq_some_iff.1 hcur).1
    refine ⟨some ⟨g, 0, none⟩, l.length, cap, hv, rfl, fun i hi => ⟨g, 0, rfl, by omega, ?_⟩⟩
    have hjc : cur.toList[i]? = some (.string l[i]) := by
      have h2 : (cur.toList.take (l.length * 1))[i]? = (l.map Value.string)[i]? := by rw [hct]
      rw [List.getElem?_take_of_lt (by omega)] at h2
      rw [h2]; simp [List.getElem?_eq_getElem hi]
    simp only [World.cell?, hcur]
    simpa using hjc
set_option maxHeartbeats 1600000 in
theorem same_some (l : List ByteArray) (b1 o1 c1 b2 o2 c2 : Nat) (w : World) (hl : l.length ≤ 2000000)
    (h1 : ∀ i (h : i < l.length), w.cell? ⟨b1, o1 + i, none⟩ = some (.string l[i])) (h2 : ∀ i (h : i < l.length), w.cell? ⟨b2, o2 + i, none⟩ = some (.string l[i])) :
    Calls Tryz.prog 9 #[.slice (some ⟨b1, o1, none⟩) l.length c1, .slice (some ⟨b2, o2, none⟩) l.length c2] w fun e w' => e = .returned (.bool true) ∧ ∃ n, w' = w.drewN n := by
  obtain ⟨n, hn⟩ : ∃ n, n = l.length := ⟨_, rfl⟩
  have HC : Hid (n = l.length ∧ (∀ i (h : i < l.length), w.cell? ⟨b1, o1 + i, none⟩ = some (.string l[i])) ∧ (∀ i (h : i < l.length), w.cell? ⟨b2, o2 + i, none⟩ = some (.string l[i]))) := ⟨hn, h1, h2⟩
  rw [← hn] at hl ⊢
  clear h1 h2 hn
  go_enter Tryz.func9, Tryz.ntmps9
  go_wp2
  go_loopw [5] (fun vi wr => ∃ k m : Nat, k ≤ n ∧ vi = .int .i64 k ∧ wr = w.drewN m) (fun vi _ => n - (intOf vi).toNat)
  case atStart => exact ⟨0, 0, Nat.zero_le _, rfl, rfl⟩
  case round =>
    obtain ⟨k, m, hk, rfl, rfl⟩ := hrel
    by_cases hlt : k < n
    · have hkl : k < l.length := by rw [← HC.out.1]; exact hlt
      have hil : (k : Int) < (n : Int) := by omega
      have e1 := HC.out.2.1 k hkl
      have e2 := HC.out.2.2 k hkl
      obtain ⟨x, hxe⟩ : ∃ x, x = l[k] := ⟨_, rfl⟩
      rw [← hxe] at e1 e2
      clear hxe
      go_wp2
      go_quiet (fail)
      go_wp2
      go_roundw
      case rel => exact ⟨k + 1, _, by omega, by go_num, rfl⟩
      case measure => simp [intOf]; omega
    · go_wp2
      go_ret
      exact ⟨rfl, _, rfl⟩
set_option maxHeartbeats 1600000 in
theorem same_none (a1 a2 : Option Addr) (c1 c2 : Nat) (w : World) :
    Calls Tryz.prog 9 #[.slice a1 0 c1, .slice a2 0 c2] w fun e w' => e = .returned (.bool true) ∧ ∃ n, w' = w.drewN n := by
  go_enter Tryz.func9, Tryz.ntmps9
  go_wp2
  refine wp_loop_rounds 1 ?_
  rw [rounds_succ]
  go_wp2
  go_ret
  exact ⟨rfl, 0, rfl⟩
theorem same_any (l : List ByteArray) (v1 v2 : Value) (B1 B2 : Nat) (w : World) (hl : l.length ≤ 2000000) (h1 : Words B1 w v1 l) (h2 : Words B2 w v2 l) :
    Calls Tryz.prog 9 #[v1, v2] w fun e w' => e = .returned (.bool true) ∧ ∃ n, w' = w.drewN n := by
  by_cases hne : l = []
  · subst hne
    obtain ⟨a, n, c, rfl, hn, _⟩ := h1
    obtain ⟨a', n', c', rfl, hn', _⟩ := h2
    simp at hn hn'; subst hn; subst hn'
    exact same_none a a' c c' w
  · obtain ⟨b, o, c, rfl, hb, hc⟩ := h1.at hne
    obtain ⟨b', o', c', rfl, hb', hc'⟩ := h2.at hne
    exact same_some l b o c b' o' c' w hl hc hc'
theorem Words.pick {B : Nat} {W : World} {a : Option Addr} {n c : Nat} {l : List ByteArray} (h : Words B W (.slice a n c) l) (k : Nat) (hk : k < l.length) :
    ∃ b o, a = some ⟨b, o, none⟩ ∧ b < B ∧ W.cell? ⟨b, o + k, none⟩ = some (.string l[k]) := by
  obtain ⟨a', n', c', e1, e2, e3⟩ := h
  obtain ⟨b, o, f1, f2, f3⟩ := e3 k hk
  simp only [Value.slice.injEq] at e1
  exact ⟨b, o, by rw [e1.1]; exact f1, f2, f3⟩
theorem Words.len {B : Nat} {W : World} {a : Option Addr} {n c : Nat} {l : List ByteArray} (h : Words B W (.slice a n c) l) : n = l.length := by
  obtain ⟨a', n', c', e1, e2, e3⟩ := h
  simp only [Value.slice.injEq] at e1
  exact e1.2.1.trans e2
def Mx (w : World) : Prop := ∃ m, w.cell? ⟨0, 0, none⟩ = some (.int .i64 m)
theorem Mx.pos {w : World} (h : Mx w) : 0 < w.heap.size := by
  obtain ⟨m, hm⟩ := h
  unfold World.cell? at hm
  cases hb : w.heap[(0 : Nat)]? with
  | none => rw [hb] at hm; simp at hm
  | some o => exact (Array.getElem?_eq_some_iff.1 hb).1
theorem Mx.below {w w' : World} {B : Nat} (h : Mx w) (hb : Below B w w') (hB : 0 < B) : Mx w' := by
  obtain ⟨m, hm⟩ := h
  exact ⟨m, (hb.cell (p := ⟨0, 0, none⟩) hB).trans hm⟩
theorem ret_int {a b : Int} (h : a = b) : Ending.returned (.int .i64 a) = .returned (.int .i64 b) := by rw [h]
abbrev E : ByteArray := ⟨#[]⟩
def untilL (e : UInt8) : List UInt8 → List UInt8 × Nat × Bool
  | [] => ([], 0, false)
  | [c] => if c = e then ([], 0, true) else ([c], 1, false)
  | c :: d :: t => if c = 92 ∧ d = e then (e :: (untilL e t).1, (untilL e t).2.1 + 2, (untilL e t).2.2)
    else if c = e then ([], 0, true) else (c :: (untilL e (d :: t)).1, (untilL e (d :: t)).2.1 + 1, (untilL e (d :: t)).2.2)
theorem until_len (e : UInt8) (l : List UInt8) : (untilL e l).1.length ≤ (untilL e l).2.1 ∧ (untilL e l).2.1 ≤ l.length := by
  induction l using untilL.induct e with
  | case1 => simp [untilL]
  | case2 => simp [untilL]
  | case3 c h => simp [untilL, h]
  | case4 c d t h ih => unfold untilL; rw [if_pos h]; simp; omega
  | case5 d t h => unfold untilL; rw [if_neg h, if_pos rfl]; simp
  | case6 c d t h1 h2 ih => unfold untilL; rw [if_neg h1, if_neg h2]; simp at ih ⊢; omega
theorem until_two {e c d : UInt8} {t : List UInt8} (h1 : c = 92) (h2 : d = e) : untilL e (c :: d :: t) = (e :: (untilL e t).1, (untilL e t).2.1 + 2, (untilL e t).2.2) := by
  show (if c = 92 ∧ d = e then _ else _) = _
  rw [if_pos ⟨h1, h2⟩]
theorem until_go {e c : UInt8} {l : List UInt8} (hA : ¬ (c = 92 ∧ l.head? = some e)) (hc : ¬ c = e) : untilL e (c :: l) = (c :: (untilL e l).1, (untilL e l).2.1 + 1, (untilL e l).2.2) := by
  cases l with
  | nil => show (if c = e then _ else _) = _; rw [if_neg hc]; rfl
  | cons d t =>
    show (if c = 92 ∧ d = e then _ else if c = e then _ else _) = _
    rw [if_neg (fun x => hA ⟨x.1, by rw [x.2]; rfl⟩), if_neg hc]
theorem until_end {e c : UInt8} {l : List UInt8} (hA : ¬ (c = 92 ∧ l.head? = some e)) (hc : c = e) : untilL e (c :: l) = ([], 0, true) := by
  cases l with
  | nil => show (if c = e then _ else _) = _; rw [if_pos hc]
  | cons d t =>
    show (if c = 92 ∧ d = e then _ else if c = e then _ else _) = _
    rw [if_neg (fun x => hA ⟨x.1, by rw [x.2]; rfl⟩), if_pos hc]
theorem trip {α β γ : Type} {a a' : α} {b b' : β} {c : γ} (h1 : a = a') (h2 : b = b') : (a, b, c) = (a', b', c) := by rw [h1, h2]
def untilV (e : UInt8) (s : ByteArray) : Value := .tuple #[.string (ba (untilL e (bl s)).1), .int .i64 (untilL e (bl s)).2.1, .bool (untilL e (bl s)).2.2]
set_option maxHeartbeats 1600000 in
theorem until_any (s : ByteArray) (e : UInt8) (w : World) (hs : s.size ≤ 1000000) :
    Calls Tryz.prog 15 #[.string s, .int .u8 e.toNat] w fun x w' => x = .returned (untilV e s) ∧ Below w.heap.size w w' := by
  obtain ⟨en, hen⟩ : ∃ en : Int, en = (e.toNat : Int) := ⟨_, rfl⟩
  have HEn : Hid (en = (e.toNat : Int)) := hen
  unfold untilV
  rw [← hen]
  clear hen
  go_enter Tryz.func15, Tryz.ntmps15
  go_wp2
  go_loopw [8] (fun vi wr => ∃ (k : Nat) (acc : List UInt8), k ≤ s.size ∧ acc.length ≤ k ∧ vi = .int .i64 k ∧ Hid (Lib.IsBuilder 57 5 w.heap.size w.heap.size (Lib.byteCells acc) wr) ∧ Hid (untilL e (bl s) = (acc ++ (untilL e ((bl s).drop k)).1, k + (untilL e ((bl s).drop k)).2.1, (untilL e ((bl s).drop k)).2.2)) ∧ Below w.heap.size w wr)
    (fun vi _ => s.size - (intOf vi).toNat)
  case atStart => exact ⟨0, [], Nat.zero_le _, Nat.le_refl _, rfl, Lib.fresh_isBuilder 57 5 w, by unfold Hid; simp, (Below.refl _ _).alloc (Nat.le_refl _) _⟩
  case round =>
    obtain ⟨k, acc, hk, hacc, rfl, HB, HU, hb⟩ := hrel
    have hbs := hb.size
    have hlen : (Lib.byteCells acc).length ≤ 1000000 := by simp [Lib.byteCells]; omega
    by_cases hlt : k < s.size
    · have hil : (k : Int) < (s.size : Int) := by omega
      have hd := drop_bl s k hlt
      obtain ⟨c, hc⟩ : ∃ c, c = s[k] := ⟨_, rfl⟩
      obtain ⟨cn, hcn⟩ : ∃ cn : Int, cn = (s[k].toNat : Int) := ⟨_, rfl⟩
      have hgk : (s[k].toNat : Int) = cn := hcn.symm
      rw [← hc] at hd
      have HCC : Hid (cn = (c.toNat : Int)) := by rw [hcn, hc]; rfl
      clear hcn hc
      by_cases hk1 : k + 1 < s.size
      · have hi1 : (k : Int) + 1 < (s.size : Int) := by omega
        have hd1 := drop_bl s (k + 1) hk1
        obtain ⟨d, hde⟩ : ∃ d, d = s[k + 1] := ⟨_, rfl⟩
        obtain ⟨dn, hdn⟩ : ∃ dn : Int, dn = (s[k + 1].toNat : Int) := ⟨_, rfl⟩
        have hgk1 : (s[k + 1].toNat : Int) = dn := hdn.symm
        rw [← hde] at hd1
        have HDD : Hid (dn = (d.toNat : Int)) := by rw [hdn, hde]; rfl
        clear hdn hde
        have hto : ((k : Int) + 1).toNat = k + 1 := by omega
        by_cases h92 : c = 92
        · by_cases hde2 : d = e
          · have t1 : (cn == 92) = true := by rw [HCC.out]; rw [h92]; rfl
            have t2 : (dn == en) = true := by rw [HDD.out, HEn.out]; rw [hde2]; simp
            have HV : Hid (untilL e (bl s) = ((acc ++ [e]) ++ (untilL e ((bl s).drop (k + 2))).1, (k + 2) + (untilL e ((bl s).drop (k + 2))).2.1, (untilL e ((bl s).drop (k + 2))).2.2)) := by
              refine HU.out.trans ?_
              rw [hd, hd1, until_two h92 hde2]
              exact trip (by rw [List.append_assoc]; rfl) (by show k + ((untilL e ((bl s).drop (k + 2))).2.1 + 2) = _; omega)
            have HBy : Hid (Lib.byteCells (acc ++ [e]) = Lib.byteCells acc ++ [.int .u8 dn]) := by
              unfold Hid; rw [HDD.out, hde2]; simp [Lib.byteCells]
            clear HU hd hd1
            go_wp2_with fail
            refine (Tryz.Builder_WriteByte _ _ _ _ _ HB.out (by omega) hbs).mono ?_
            rintro x w1 ⟨rfl, hB1, hb1⟩
            have HE : Hid (Lib.IsBuilder 57 5 w.heap.size w.heap.size (Lib.byteCells (acc ++ [e])) w1 ∧ Below w.heap.size w w1) := ⟨.inr (by rw [HBy.out]; exact hB1), hb.trans hb1⟩
            clear hB1 hb1 HB hb
            go_wp2
            go_roundw
            case rel => exact ⟨k + 2, acc ++ [e], by omega, by simp; omega, by go_num, HE.out.1, HV, HE.out.2⟩
            case measure => simp [intOf]; omega
          · by_cases hce : c = e
            · have t1 : (cn == 92) = true := by rw [HCC.out]; rw [h92]; rfl
              have t2 : (dn == en) = false := by rw [HDD.out, HEn.out]; rw [← Bool.not_eq_true, beq_iff_eq]; intro e1; apply hde2; rw [u8_eq_iff]; omega
              have t3 : (cn == en) = true := by rw [HCC.out, HEn.out]; rw [hce]; simp
              have HV : Hid (untilL e (bl s) = (acc, k, true)) := by
                refine HU.out.trans ?_; rw [hd, until_end (fun x => hde2 (by have := x.2; rw [hd1] at this; simpa using this)) hce]; exact trip (List.append_nil _) rfl
              clear HU hd hd1
              go_wp2_with fail
              refine (Tryz.Builder_String_any _ _ _ _ HB.out hbs).mono ?_
              rintro x w1 ⟨rfl, hb1⟩
              go_wp2
              go_ret3
              exact ⟨by rw [HV.out]; rfl, hb.trans hb1⟩
            · have t1 : (cn == 92) = true := by rw [HCC.out]; rw [h92]; rfl
              have t2 : (dn == en) = false := by rw [HDD.out, HEn.out]; rw [← Bool.not_eq_true, beq_iff_eq]; intro e1; apply hde2; rw [u8_eq_iff]; omega
              have t3 : (cn == en) = false := by rw [HCC.out, HEn.out]; rw [← Bool.not_eq_true, beq_iff_eq]; intro e1; apply hce; rw [u8_eq_iff]; omega
              have HV : Hid (untilL e (bl s) = ((acc ++ [c]) ++ (untilL e ((bl s).drop (k + 1))).1, (k + 1) + (untilL e ((bl s).drop (k + 1))).2.1, (untilL e ((bl s).drop (k + 1))).2.2)) := by
                refine HU.out.trans ?_
                rw [hd, until_go (fun x => hde2 (by have := x.2; rw [hd1] at this; simpa using this)) hce]
                exact trip (by rw [List.append_assoc]; rfl) (by show k + ((untilL e ((bl s).drop (k + 1))).2.1 + 1) = _; omega)
              have HBy : Hid (Lib.byteCells (acc ++ [c]) = Lib.byteCells acc ++ [.int .u8 cn]) := by
                unfold Hid; rw [HCC.out]; simp [Lib.byteCells]
              clear HU hd hd1
              go_wp2_with fail
              refine (Tryz.Builder_WriteByte _ _ _ _ _ HB.out (by omega) hbs).mono ?_
              rintro x w1 ⟨rfl, hB1, hb1⟩
              have HE : Hid (Lib.IsBuilder 57 5 w.heap.size w.heap.size (Lib.byteCells (acc ++ [c])) w1 ∧ Below w.heap.size w w1) := ⟨.inr (by rw [HBy.out]; exact hB1), hb.trans hb1⟩
              clear hB1 hb1 HB hb
              go_wp2
              go_roundw
              case rel => exact ⟨k + 1, acc ++ [c], by omega, by simp; omega, by go_num, HE.out.1, HV, HE.out.2⟩
              case measure => simp [intOf]; omega
        · by_cases hce : c = e
          · have t1 : (cn == 92) = false := by rw [HCC.out]; rw [← Bool.not_eq_true, beq_iff_eq]; intro e1; apply h92; rw [u8_eq_iff]; have : (92 : UInt8).toNat = 92 := rfl; omega
            have t3 : (cn == en) = true := by rw [HCC.out, HEn.out]; rw [hce]; simp
            have HV : Hid (untilL e (bl s) = (acc, k, true)) := by
              refine HU.out.trans ?_; rw [hd, until_end (fun x => h92 x.1) hce]; exact trip (List.append_nil _) rfl
            clear HU hd hd1
            go_wp2_with fail
            refine (Tryz.Builder_String_any _ _ _ _ HB.out hbs).mono ?_
            rintro x w1 ⟨rfl, hb1⟩
            go_wp2
            go_ret3
            exact ⟨by rw [HV.out]; rfl, hb.trans hb1⟩
          · have t1 : (cn == 92) = false := by rw [HCC.out]; rw [← Bool.not_eq_true, beq_iff_eq]; intro e1; apply h92; rw [u8_eq_iff]; have : (92 : UInt8).toNat = 92 := rfl; omega
            have t3 : (cn == en) = false := by rw [HCC.out, HEn.out]; rw [← Bool.not_eq_true, beq_iff_eq]; intro e1; apply hce; rw [u8_eq_iff]; omega
            have HV : Hid (untilL e (bl s) = ((acc ++ [c]) ++ (untilL e ((bl s).drop (k + 1))).1, (k + 1) + (untilL e ((bl s).drop (k + 1))).2.1, (untilL e ((bl s).drop (k + 1))).2.2)) := by
              refine HU.out.trans ?_
              rw [hd, until_go (fun x => h92 x.1) hce]
              exact trip (by rw [List.append_assoc]; rfl) (by show k + ((untilL e ((bl s).drop (k + 1))).2.1 + 1) = _; omega)
            have HBy : Hid (Lib.byteCells (acc ++ [c]) = Lib.byteCells acc ++ [.int .u8 cn]) := by
              unfold Hid; rw [HCC.out]; simp [Lib.byteCells]
            clear HU hd hd1
            go_wp2_with fail
            refine (Tryz.Builder_WriteByte _ _ _ _ _ HB.out (by omega) hbs).mono ?_
            rintro x w1 ⟨rfl, hB1, hb1⟩
            have HE : Hid (Lib.IsBuilder 57 5 w.heap.size w.heap.size (Lib.byteCells (acc ++ [c])) w1 ∧ Below w.heap.size w w1) := ⟨.inr (by rw [HBy.out]; exact hB1), hb.trans hb1⟩
            clear hB1 hb1 HB hb
            go_wp2
            go_roundw
            case rel => exact ⟨k + 1, acc ++ [c], by omega, by simp; omega, by go_num, HE.out.1, HV, HE.out.2⟩
            case measure => simp [intOf]; omega
      · have hi1 : ¬ (k : Int) + 1 < (s.size : Int) := by omega
        by_cases h92 : c = 92
        · by_cases hce : c = e
          · have t1 : (cn == 92) = true := by rw [HCC.out]; rw [h92]; rfl
            have t3 : (cn == en) = true := by rw [HCC.out, HEn.out]; rw [hce]; simp
            have HV : Hid (untilL e (bl s) = (acc, k, true)) := by
              refine HU.out.trans ?_; rw [hd, until_end (fun x => by have := x.2; rw [List.drop_of_length_le (by rw [bl_length]; omega)] at this; simp at this) hce]; exact trip (List.append_nil _) rfl
            clear HU hd
            go_wp2_with fail
            refine (Tryz.Builder_String_any _ _ _ _ HB.out hbs).mono ?_
            rintro x w1 ⟨rfl, hb1⟩
            go_wp2
            go_ret3
            exact ⟨by rw [HV.out]; rfl, hb.trans hb1⟩
          · have t1 : (cn == 92) = true := by rw [HCC.out]; rw [h92]; rfl
            have t3 : (cn == en) = false := by rw [HCC.out, HEn.out]; rw [← Bool.not_eq_true, beq_iff_eq]; intro e1; apply hce; rw [u8_eq_iff]; omega
            have HV : Hid (untilL e (bl s) = ((acc ++ [c]) ++ (untilL e ((bl s).drop (k + 1))).1, (k + 1) + (untilL e ((bl s).drop (k + 1))).2.1, (untilL e ((bl s).drop (k + 1))).2.2)) := by
              refine HU.out.trans ?_
              rw [hd, until_go (fun x => by have := x.2; rw [List.drop_of_length_le (by rw [bl_length]; omega)] at this; simp at this) hce]
              exact trip (by rw [List.append_assoc]; rfl) (by show k + ((untilL e ((bl s).drop (k + 1))).2.1 + 1) = _; omega)
            have HBy : Hid (Lib.byteCells (acc ++ [c]) = Lib.byteCells acc ++ [.int .u8 cn]) := by
              unfold Hid; rw [HCC.out]; simp [Lib.byteCells]
            clear HU hd
            go_wp2_with fail
            refine (Tryz.Builder_WriteByte _ _ _ _ _ HB.out (by omega) hbs).mono ?_
            rintro x w1 ⟨rfl, hB1, hb1⟩
            have HE : Hid (Lib.IsBuilder 57 5 w.heap.size w.heap.size (Lib.byteCells (acc ++ [c])) w1 ∧ Below w.heap.size w w1) := ⟨.inr (by rw [HBy.out]; exact hB1), hb.trans hb1⟩
            clear hB1 hb1 HB hb
            go_wp2
            go_roundw
            case rel => exact ⟨k + 1, acc ++ [c], by omega, by simp; omega, by go_num, HE.out.1, HV, HE.out.2⟩
            case measure => simp [intOf]; omega
        · by_cases hce : c = e
          · have t1 : (cn == 92) = false := by rw [HCC.out]; rw [← Bool.not_eq_true, beq_iff_eq]; intro e1; apply h92; rw [u8_eq_iff]; have : (92 : UInt8).toNat = 92 := rfl; omega
            have t3 : (cn == en) = true := by rw [HCC.out, HEn.out]; rw [hce]; simp
            have HV : Hid (untilL e (bl s) = (acc, k, true)) := by
              refine HU.out.trans ?_; rw [hd, until_end (fun x => by have := x.2; rw [List.drop_of_length_le (by rw [bl_length]; omega)] at this; simp at this) hce]; exact trip (List.append_nil _) rfl
            clear HU hd
            go_wp2_with fail
            refine (Tryz.Builder_String_any _ _ _ _ HB.out hbs).mono ?_
            rintro x w1 ⟨rfl, hb1⟩
            go_wp2
            go_ret3
            exact ⟨by rw [HV.out]; rfl, hb.trans hb1⟩
          · have t1 : (cn == 92) = false := by rw [HCC.out]; rw [← Bool.not_eq_true, beq_iff_eq]; intro e1; apply h92; rw [u8_eq_iff]; have : (92 : UInt8).toNat = 92 := rfl; omega
            have t3 : (cn == en) = false := by rw [HCC.out, HEn.out]; rw [← Bool.not_eq_true, beq_iff_eq]; intro e1; apply hce; rw [u8_eq_iff]; omega
            have HV : Hid (untilL e (bl s) = ((acc ++ [c]) ++ (untilL e ((bl s).drop (k + 1))).1, (k + 1) + (untilL e ((bl s).drop (k + 1))).2.1, (untilL e ((bl s).drop (k + 1))).2.2)) := by
              refine HU.out.trans ?_
              rw [hd, until_go (fun x => by have := x.2; rw [List.drop_of_length_le (by rw [bl_length]; omega)] at this; simp at this) hce]
              exact trip (by rw [List.append_assoc]; rfl) (by show k + ((untilL e ((bl s).drop (k + 1))).2.1 + 1) = _; omega)
            have HBy : Hid (Lib.byteCells (acc ++ [c]) = Lib.byteCells acc ++ [.int .u8 cn]) := by
              unfold Hid; rw [HCC.out]; simp [Lib.byteCells]
            clear HU hd
            go_wp2_with fail
            refine (Tryz.Builder_WriteByte _ _ _ _ _ HB.out (by omega) hbs).mono ?_
            rintro x w1 ⟨rfl, hB1, hb1⟩
            have HE : Hid (Lib.IsBuilder 57 5 w.heap.size w.heap.size (Lib.byteCells (acc ++ [c])) w1 ∧ Below w.heap.size w w1) := ⟨.inr (by rw [HBy.out]; exact hB1), hb.trans hb1⟩
            clear hB1 hb1 HB hb
            go_wp2
            go_roundw
            case rel => exact ⟨k + 1, acc ++ [c], by omega, by simp; omega, by go_num, HE.out.1, HV, HE.out.2⟩
            case measure => simp [intOf]; omega
    · obtain rfl : k = s.size := by omega
      have hil : ¬ (s.size : Int) < (s.size : Int) := by omega
      have HV : Hid (untilL e (bl s) = (acc, s.size, false)) := by
        refine HU.out.trans ?_; rw [List.drop_of_length_le (by rw [bl_length]; omega)]; exact trip (List.append_nil _) rfl
      clear HU
      go_wp2_with fail
      refine (Tryz.Builder_String_any _ _ _ _ HB.out hbs).mono ?_
      rintro x w1 ⟨rfl, hb1⟩
      go_wp2
      go_ret3
      exact ⟨by rw [HV.out]; rfl, hb.trans hb1⟩
end Go.Proofs.YtedepknbaakkhabGreatDoor
namespace Go.Proofs.YtedepknbaakkhabGreatDoor
open Go.RowKit Go.Shelf
structure Md where
  kind : ByteArray
  a : ByteArray := E
  b : ByteArray := E
  bg : Bool := false
  en : Bool := false
  ex : Option Addr := none
  al : Bool := false
  on : Bool := false
  mks : Int := 0
  ots : Int := 0
  frm : Int := 0
  upto : Int := 0
abbrev mdV (kind a b : ByteArray) (bg en : Bool) (ex : Option Addr) (al on : Bool) (mks ots frm upto : Int) : Array Value := #[.string kind, .string a, .string b, .bool bg, .bool en, .pointer ex, .bool al, .bool on, .int .i64 mks, .int .i64 ots, .int .i64 frm, .int .i64 upto]
def Md.cells (m : Md) : Array Value := mdV m.kind m.a m.b m.bg m.en m.ex m.al m.on m.mks m.ots m.frm m.upto
abbrev zeroMd : Array Value := mdV E E E false false none false false 0 0 0 0
def headIs (s : ByteArray) (c : UInt8) : Bool := decide ((bl s).head? = some c)
theorem pre_any (s : ByteArray) (c : UInt8) (W : World) : Calls Tryz.prog 14 #[.string s, .string ⟨#[c]⟩] W fun e w' => e = .returned (.bool (headIs s c)) ∧ W = w' := by
  refine (Tryz.strings_HasPrefix s ⟨#[c]⟩ W).mono ?_
  rintro e w' ⟨rfl, rfl⟩
  refine ⟨ret_bool ?_, rfl⟩
  show Lib.hasPrefix (bl s) [c] = _
  unfold Lib.hasPrefix headIs
  cases bl s with
  | nil => simp [List.isPrefixOf]
  | cons k t =>
    by_cases h : k = c
    · simp [List.isPrefixOf, h]
    · simp [List.isPrefixOf, h, Ne.symm h]
theorem mod_cells {W : World} {b : Nat} {kind a c : ByteArray} {bg en : Bool} {ex : Option Addr} {al on : Bool} {mks ots frm upto : Int} {T : TypeId} (h : W.heap[b]? = some (.cells (mdV kind a c bg en ex al on mks ots frm upto) T (0, 0))) :
    (W.cell? ⟨b, 0, none⟩ = some (.string kind) ∧ W.cell? ⟨b, 1, none⟩ = some (.string a) ∧ W.cell? ⟨b, 2, none⟩ = some (.string c) ∧ W.cell? ⟨b, 3, none⟩ = some (.bool bg) ∧ W.cell? ⟨b, 4, none⟩ = some (.bool en) ∧ W.cell? ⟨b, 5, none⟩ = some (.pointer ex) ∧ W.cell? ⟨b, 6, none⟩ = some (.bool al) ∧ W.cell? ⟨b, 7, none⟩ = some (.bool on) ∧ W.cell? ⟨b, 8, none⟩ = some (.int .i64 mks) ∧ W.cell? ⟨b, 9, none⟩ = some (.int .i64 ots) ∧ W.cell? ⟨b, 10, none⟩ = some (.int .i64 frm) ∧ W.cell? ⟨b, 11, none⟩ = some (.int .i64 upto)) ∧ ∀ i, W.frozen? ⟨b, i, none⟩ = false := by
  refine ⟨?_, fun i => by simp [World.frozen?, h]⟩
  simp only [World.cell?, h]
  exact ⟨rfl, rfl, rfl, rfl, rfl, rfl, rfl, rfl, rfl, rfl, rfl, rfl⟩
def setMd (w : World) (b : Nat) (kind a c : ByteArray) (bg en : Bool) (ex : Option Addr) (al on : Bool) (mks ots frm upto : Int) : World :=
  ((((((((((((w.setCell ⟨b, 0, none⟩ (.string kind)).setCell ⟨b, 1, none⟩ (.string a)).setCell ⟨b, 2, none⟩ (.string c)).setCell ⟨b, 3, none⟩ (.bool bg)).setCell ⟨b, 4, none⟩ (.bool en)).setCell ⟨b, 5, none⟩ (.pointer ex)).setCell ⟨b, 6, none⟩ (.bool al)).setCell ⟨b, 7, none⟩ (.bool on)).setCell ⟨b, 8, none⟩ (.int .i64 mks)).setCell ⟨b, 9, none⟩ (.int .i64 ots)).setCell ⟨b, 10, none⟩ (.int .i64 frm)).setCell ⟨b, 11, none⟩ (.int .i64 upto))
theorem setMd_heap {w : World} {b : Nat} {kind a c : ByteArray} {bg en : Bool} {ex : Option Addr} {al on : Bool} {mks ots frm upto : Int} {kind' a' c' : ByteArray} {bg' en' : Bool} {ex' : Option Addr} {al' on' : Bool} {mks' ots' frm' upto' : Int} {T : TypeId}
    (h : w.heap[b]? = some (.cells (mdV kind' a' c' bg' en' ex' al' on' mks' ots' frm' upto') T (0, 0))) : (setMd w b kind a c bg en ex al on mks ots frm upto).heap[b]? = some (.cells (mdV kind a c bg en ex al on mks ots frm upto) T (0, 0)) := by
  unfold setMd
  have h1 := heap_set (i := 0) h (.string kind)
  rw [show (mdV kind' a' c' bg' en' ex' al' on' mks' ots' frm' upto').setIfInBounds 0 (.string kind) = mdV kind a' c' bg' en' ex' al' on' mks' ots' frm' upto' from rfl] at h1
  have h2 := heap_set (i := 1) h1 (.string a)
  rw [show (mdV kind a' c' bg' en' ex' al' on' mks' ots' frm' upto').setIfInBounds 1 (.string a) = mdV kind a c' bg' en' ex' al' on' mks' ots' frm' upto' from rfl] at h2
  have h3 := heap_set (i := 2) h2 (.string c)
  rw [show (mdV kind a c' bg' en' ex' al' on' mks' ots' frm' upto').setIfInBounds 2 (.string c) = mdV kind a c bg' en' ex' al' on' mks' ots' frm' upto' from rfl] at h3
  have h4 := heap_set (i := 3) h3 (.bool bg)
  rw [show (mdV kind a c bg' en' ex' al' on' mks' ots' frm' upto').setIfInBounds 3 (.bool bg) = mdV kind a c bg en' ex' al' on' mks' ots' frm' upto' from rfl] at h4
  have h5 := heap_set (i := 4) h4 (.bool en)
  rw [show (mdV kind a c bg en' ex' al' on' mks' ots' frm' upto').setIfInBounds 4 (.bool en) = mdV kind a c bg en ex' al' on' mks' ots' frm' upto' from rfl] at h5
  have h6 := heap_set (i := 5) h5 (.pointer ex)
  rw [show (mdV kind a c bg en ex' al' on' mks' ots' frm' upto').setIfInBounds 5 (.pointer ex) = mdV kind a c bg en ex al' on' mks' ots' frm' upto' from rfl] at h6
  have h7 := heap_set (i := 6) h6 (.bool al)
  rw [show (mdV kind a c bg en ex al' on' mks' ots' frm' upto').setIfInBounds 6 (.bool al) = mdV kind a c bg en ex al on' mks' ots' frm' upto' from rfl] at h7
  have h8 := heap_set (i := 7) h7 (.bool on)
  rw [show (mdV kind a c bg en ex al on' mks' ots' frm' upto').setIfInBounds 7 (.bool on) = mdV kind a c bg en ex al on mks' ots' frm' upto' from rfl] at h8
  have h9 := heap_set (i := 8) h8 (.int .i64 mks)
  rw [show (mdV kind a c bg en ex al on mks' ots' frm' upto').setIfInBounds 8 (.int .i64 mks) = mdV kind a c bg en ex al on mks ots' frm' upto' from rfl] at h9
  have h10 := heap_set (i := 9) h9 (.int .i64 ots)
  rw [show (mdV kind a c bg en ex al on mks ots' frm' upto').setIfInBounds 9 (.int .i64 ots) = mdV kind a c bg en ex al on mks ots frm' upto' from rfl] at h10
  have h11 := heap_set (i := 10) h10 (.int .i64 frm)
  rw [show (mdV kind a c bg en ex al on mks ots frm' upto').setIfInBounds 10 (.int .i64 frm) = mdV kind a c bg en ex al on mks ots frm upto' from rfl] at h11
  have h12 := heap_set (i := 11) h11 (.int .i64 upto)
  rw [show (mdV kind a c bg en ex al on mks ots frm upto').setIfInBounds 11 (.int .i64 upto) = mdV kind a c bg en ex al on mks ots frm upto from rfl] at h12
  exact h12
theorem setMd_below {w0 w : World} {b B : Nat} {kind a c : ByteArray} {bg en : Bool} {ex : Option Addr} {al on : Bool} {mks ots frm upto : Int} (h : Below B w0 w) (hB : B ≤ b) : Below B w0 (setMd w b kind a c bg en ex al on mks ots frm upto) := by
  unfold setMd
  exact (((((((((((h.setCell hB _).setCell hB _).setCell hB _).setCell hB _).setCell hB _).setCell hB _).setCell hB _).setCell hB _).setCell hB _).setCell hB _).setCell hB _).setCell hB _
theorem ext_head {s : ByteArray} {c : UInt8} (h : headIs s c = true) : s.extract 0 1 = ⟨#[c]⟩ := by
  apply bl_inj
  rw [bl_extract]
  unfold headIs at h
  have := of_decide_eq_true h
  cases hb : bl s with
  | nil => rw [hb] at this; simp at this
  | cons k t => rw [hb] at this; simp at this; rw [this]; rfl
theorem head_pos {s : ByteArray} {c : UInt8} (h : headIs s c = true) : 1 ≤ s.size := by
  rw [← bl_length]
  unfold headIs at h
  have := of_decide_eq_true h
  cases hb : bl s with
  | nil => rw [hb] at this; simp at this
  | cons k t => simp
theorem head_not {s : ByteArray} {c d : UInt8} (h : headIs s c = true) (hd : d ≠ c) : headIs s d = false := by
  unfold headIs at h ⊢
  rw [of_decide_eq_true h]
  simp [Ne.symm hd]
theorem pre_is {s : ByteArray} {c : UInt8} {x : Bool} (h : headIs s c = x) : Hid (∀ W, Calls Tryz.prog 14 #[.string s, .string ⟨#[c]⟩] W fun e w' => e = .returned (.bool x) ∧ W = w') := fun W => by
  have := pre_any s c W; rw [h] at this; exact this
set_option maxHeartbeats 1600000 in
theorem read_m (s : ByteArray) (w : World) (hs : s.size ≤ 1000000) (h1 : 1 ≤ s.size) (hk : headIs s 77 = true) :
    Calls Tryz.prog 10 #[.string s] w fun e w' => e = .returned (.tuple #[.agg (mdV (s.extract 0 1) (ba (untilL 58 (bl (s.extract 1 s.size))).1) E false false none false false 0 0 0 0), .int .i64 ((untilL 58 (bl (s.extract 1 s.size))).2.1 + 1), .int .i64 0]) ∧ Below w.heap.size w w' := by
  have HP : Hid (∀ W, Calls Tryz.prog 14 #[.string s, .string ⟨#[77]⟩] W fun e w' => e = .returned (.bool true) ∧ W = w') := fun W => by
    have := pre_any s 77 W; rw [hk] at this; exact this
  have hxs : (s.extract 1 s.size).size ≤ 1000000 := by simp; omega
  have HU : Hid (∀ W, Calls Tryz.prog 15 #[.string (s.extract 1 s.size), .int .u8 58] W fun x w' => x = .returned (.tuple #[.string (ba (untilL 58 (bl (s.extract 1 s.size))).1), .int .i64 (untilL 58 (bl (s.extract 1 s.size))).2.1, .bool (untilL 58 (bl (s.extract 1 s.size))).2.2]) ∧ Below W.heap.size W w') := fun W => until_any _ 58 W hxs
  have hul := (until_len 58 (bl (s.extract 1 s.size))).2
  rw [bl_length] at hul
  obtain ⟨tx, htx⟩ : ∃ tx, tx = ba (untilL 58 (bl (s.extract 1 s.size))).1 := ⟨_, rfl⟩
  obtain ⟨tn, htn⟩ : ∃ tn, tn = (untilL 58 (bl (s.extract 1 s.size))).2.1 := ⟨_, rfl⟩
  obtain ⟨tf, htf⟩ : ∃ tf, tf = (untilL 58 (bl (s.extract 1 s.size))).2.2 := ⟨_, rfl⟩
  rw [← htx, ← htn, ← htf] at HU
  rw [← htx, ← htn]
  rw [← htn] at hul
  have hbnd : tn ≤ 1000000 := by omega
  have h1i : (1 : Int) ≤ (s.size : Int) := by omega
  have HB0 : Hid (∀ W, Below (w.heap.size + 1) (w.alloc (.cells zeroMd 37)) W → W.heap[w.heap.size]? = some (.cells zeroMd 37 (0, 0)) ∧ Below w.heap.size w W) := fun W hB => by
    refine ⟨?_, ((Below.refl _ w).alloc (Nat.le_refl _) _).trans (hB.mono (by omega))⟩
    rw [hB.block w.heap.size (by omega)]; exact heap_alloc_new w _
  clear htx htn htf hk hul hxs
  go_enter Tryz.func10, Tryz.ntmps10
  go_wp2_with fail
  refine (HP.out _).mono ?_
  rintro e w' ⟨rfl, rfl⟩
  go_wp2_with fail
  refine (HU.out _).mono ?_
  rintro e w2 ⟨rfl, hb2⟩
  rw [World.size_alloc] at hb2
  obtain ⟨hblk, hlow⟩ := HB0.out w2 hb2
  obtain ⟨⟨r0, r1, r2, r3, r4, r5, r6, r7, r8, r9, r10, r11⟩, hfz⟩ := mod_cells hblk
  have HBk : Hid (w2.heap[w.heap.size]? = some (.cells zeroMd 37 (0, 0))) := hblk
  clear hblk
  go_wp2
  obtain ⟨W, hW⟩ : ∃ W, W = setMd w2 w.heap.size (s.extract 0 1) tx E false false none false false 0 0 0 0 := ⟨_, rfl⟩
  have hWb : Below w.heap.size w W := by rw [hW]; exact setMd_below hlow (Nat.le_refl _)
  have hWh := setMd_heap (kind := s.extract 0 1) (a := tx) (c := E) (bg := false) (en := false) (ex := none) (al := false) (on := false) (mks := 0) (ots := 0) (frm := 0) (upto := 0) HBk.out
  rw [← hW] at hWh
  obtain ⟨⟨q0, q1, q2, q3, q4, q5, q6, q7, q8, q9, q10, q11⟩, _⟩ := mod_cells hWh
  show bodyPost Tryz.prog Tryz.f10 _ Exit.ret _ (setMd w2 w.heap.size (s.extract 0 1) tx E false false none false false 0 0 0 0)
  rw [← hW]
  refine bodyPost_ret (v := .tuple #[.agg (mdV (s.extract 0 1) tx E false false none false false 0 0 0 0), .int .i64 (tn + 1), .int .i64 0]) (by simp [results, Tryz.results10, go_sem, q0, q1, q2, q3, q4, q5, q6, q7, q8, q9, q10, q11]; try rfl) rfl ⟨rfl, hWb⟩
set_option maxHeartbeats 1600000 in
theorem read_n (s : ByteArray) (w : World) (hs : s.size ≤ 1000000) (h1 : 1 ≤ s.size) (hk : headIs s 78 = true) :
    Calls Tryz.prog 10 #[.string s] w fun e w' => e = .returned (.tuple #[.agg (mdV (s.extract 0 1) (ba (untilL 58 (bl (s.extract 1 s.size))).1) E false false none false false 0 0 0 0), .int .i64 ((untilL 58 (bl (s.extract 1 s.size))).2.1 + 1), .int .i64 0]) ∧ Below w.heap.size w w' := by
  have HP := pre_is hk
  have HM := pre_is (head_not (d := 77) hk (by decide))
  have hxs : (s.extract 1 s.size).size ≤ 1000000 := by simp; omega
  have HU : Hid (∀ W, Calls Tryz.prog 15 #[.string (s.extract 1 s.size), .int .u8 58] W fun x w' => x = .returned (.tuple #[.string (ba (untilL 58 (bl (s.extract 1 s.size))).1), .int .i64 (untilL 58 (bl (s.extract 1 s.size))).2.1, .bool (untilL 58 (bl (s.extract 1 s.size))).2.2]) ∧ Below W.heap.size W w') := fun W => until_any _ 58 W hxs
  have hul := (until_len 58 (bl (s.extract 1 s.size))).2
  rw [bl_length] at hul
  obtain ⟨tx, htx⟩ : ∃ tx, tx = ba (untilL 58 (bl (s.extract 1 s.size))).1 := ⟨_, rfl⟩
  obtain ⟨tn, htn⟩ : ∃ tn, tn = (untilL 58 (bl (s.extract 1 s.size))).2.1 := ⟨_, rfl⟩
  obtain ⟨tf, htf⟩ : ∃ tf, tf = (untilL 58 (bl (s.extract 1 s.size))).2.2 := ⟨_, rfl⟩
  rw [← htx, ← htn, ← htf] at HU
  rw [← htx, ← htn]
  rw [← htn] at hul
  have hbnd : tn ≤ 1000000 := by omega
  have h1i : (1 : Int) ≤ (s.size : Int) := by omega
  have HB0 : Hid (∀ W, Below (w.heap.size + 1) (w.alloc (.cells zeroMd 37)) W → W.heap[w.heap.size]? = some (.cells zeroMd 37 (0, 0)) ∧ Below w.heap.size w W) := fun W hB => by
    refine ⟨?_, ((Below.refl _ w).alloc (Nat.le_refl _) _).trans (hB.mono (by omega))⟩
    rw [hB.block w.heap.size (by omega)]; exact heap_alloc_new w _
  clear htx htn htf hk hul hxs
  go_enter Tryz.func10, Tryz.ntmps10
  go_wp2_with fail
  refine (HM.out _).mono ?_
  rintro e w' ⟨rfl, rfl⟩
  go_wp2_with fail
  refine (HP.out _).mono ?_
  rintro e w' ⟨rfl, rfl⟩
  go_wp2_with fail
  refine (HU.out _).mono ?_
  rintro e w2 ⟨rfl, hb2⟩
  rw [World.size_alloc] at hb2
  obtain ⟨hblk, hlow⟩ := HB0.out w2 hb2
  obtain ⟨⟨r0, r1, r2, r3, r4, r5, r6, r7, r8, r9, r10, r11⟩, hfz⟩ := mod_cells hblk
  have HBk : Hid (w2.heap[w.heap.size]? = some (.cells zeroMd 37 (0, 0))) := hblk
  clear hblk
  go_wp2
  obtain ⟨W, hW⟩ : ∃ W, W = setMd w2 w.heap.size (s.extract 0 1) tx E false false none false false 0 0 0 0 := ⟨_, rfl⟩
  have hWb : Below w.heap.size w W := by rw [hW]; exact setMd_below hlow (Nat.le_refl _)
  have hWh := setMd_heap (kind := s.extract 0 1) (a := tx) (c := E) (bg := false) (en := false) (ex := none) (al := false) (on := false) (mks := 0) (ots := 0) (frm := 0) (upto := 0) HBk.out
  rw [← hW] at hWh
  obtain ⟨⟨q0, q1, q2, q3, q4, q5, q6, q7, q8, q9, q10, q11⟩, _⟩ := mod_cells hWh
  show bodyPost Tryz.prog Tryz.f10 _ Exit.ret _ (setMd w2 w.heap.size (s.extract 0 1) tx E false false none false false 0 0 0 0)
  rw [← hW]
  refine bodyPost_ret (v := .tuple #[.agg (mdV (s.extract 0 1) tx E false false none false false 0 0 0 0), .int .i64 (tn + 1), .int .i64 0]) (by simp [results, Tryz.results10, go_sem, q0, q1, q2, q3, q4, q5, q6, q7, q8, q9, q10, q11]; try rfl) rfl ⟨rfl, hWb⟩
end Go.Proofs.YtedepknbaakkhabGreatDoor
