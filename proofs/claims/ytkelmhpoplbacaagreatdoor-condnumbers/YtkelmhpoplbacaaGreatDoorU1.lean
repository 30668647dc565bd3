/-
  A set of variables, in plain terms and in memory.
-/
import Derived.Test.YtkelmhpoplbacaaGreatDoorProg
import Derived.Below
import Derived.BigQuiet
import Derived.Deep.OwnRows
import Derived.Deep.QuietTactic
import Derived.Lib.OthersKept
import Derived.Maps.Ext
import Derived.Maps.OwnSet
import Derived.Shelf.Abstract
import Derived.WalkKit
import Derived.WalkLawsBesides
import Derived.WalkSpells
namespace Go.Proofs.YtkelmhpoplbacaaGreatDoor.V
open Go.RowKit Go.Shelf

def Hid (p : Prop) : Prop := p
theorem Hid.out {p : Prop} (h : Hid p) : p := h
def bl (x : ByteArray) : List UInt8 := x.data.toList
def ba (l : List UInt8) : ByteArray := ⟨l.toArray⟩
theorem bl_ba (l : List UInt8) : bl (ba l) = l := by simp [bl, ba]
theorem ba_bl (x : ByteArray) : ba (bl x) = x := by simp [bl, ba]
theorem bl_inj {x y : ByteArray} (h : bl x = bl y) : x = y := by rw [← ba_bl x, ← ba_bl y, h]
theorem bl_length (x : ByteArray) : (bl x).length = x.size := by simp [bl]
theorem ba_size (l : List UInt8) : (ba l).size = l.length := by simp [ba, ByteArray.size]
theorem ret_bool {a b : Bool} (h : a = b) : Ending.returned (.bool a) = .returned (.bool b) := by rw [h]
theorem ret_str {a b : ByteArray} (h : a = b) : Ending.returned (.string a) = .returned (.string b) := by rw [h]
theorem u8_eq_iff (a b : UInt8) : a = b ↔ a.toNat = b.toNat := ⟨fun h => by rw [h], UInt8.toNat_inj.mp⟩
theorem u8_beq (a b : UInt8) (n : Nat) (hn : b.toNat = n) : ((a.toNat : Int) == (n : Int)) = (a == b) := by
  rw [Bool.eq_iff_iff]; simp only [beq_iff_eq]; rw [u8_eq_iff]; omega
theorem u8_back (c : UInt8) : (Int.toNat (c.toNat : Int)).toUInt8 = c := by simp
theorem take_snoc (s : ByteArray) (k : Nat) (h : k < s.size) : (bl s).take (k + 1) = (bl s).take k ++ [s[k]] := by
  unfold bl; rw [List.take_succ_eq_append_getElem (by simpa using h)]; rfl
theorem drop_ba (m : ByteArray) (k : Nat) (h : k < m.size) : (bl m).drop k = m[k] :: (bl m).drop (k + 1) :=
  List.drop_eq_getElem_cons (by simpa [bl] using h)
theorem take_all (s : ByteArray) : (bl s).take s.size = bl s := List.take_of_length_le (by simp [bl])
theorem drop_all (s : ByteArray) : (bl s).drop s.size = [] := List.drop_of_length_le (by simp [bl])
theorem bl_extract (s : ByteArray) (a b : Nat) : bl (s.extract a b) = ((bl s).take b).drop a := by
  simp [bl, List.extract_eq_take_drop, List.drop_take]
theorem bl_get (s : ByteArray) (k : Nat) (h : k < s.size) : (bl s)[k]? = some s[k] := by
  unfold bl; rw [List.getElem?_eq_getElem (by simpa using h)]; rfl

theorem heap_set {w : World} {b i : Nat} {cs : Array Value} {T : TypeId} (h : w.heap[b]? = some (.cells cs T (0, 0))) (x : Value) : (w.setCell ⟨b, i, none⟩ x).heap[b]? = some (.cells (cs.setIfInBounds i x) T (0, 0)) := by
  simp [World.setCell, Array.getElem?_modify, h]
theorem size_set (w : World) (a : Addr) (x : Value) : (w.setCell a x).heap.size = w.heap.size := by simp [World.setCell]
theorem row_set {w : World} {base b : Nat} {v : Value} {e : TypeId} {k n : Nat} {xs : List Value} {i : Nat} (h : w.ownsRow base e k v n xs) (hb : v.ownBlock ≠ some b) (x : Value) : (w.setCell ⟨b, i, none⟩ x).ownsRow base e k v n xs := by
  refine ⟨h.1, ?_⟩
  rcases h.2 with h0 | ⟨g, cap, cur, hv, hg, hgg, rest⟩
  · exact .inl h0
  · refine .inr ⟨g, cap, cur, hv, hg, ?_, rest⟩
    rw [Below.heap_setCell _ _ _ _ (fun e => hb (by rw [hv, e]; rfl))]
    exact hgg
theorem owns_below {base n : Nat} {e : TypeId} {size : Nat} {W W1 : World} {v : Value} {xs : List Value} (h : W.ownsRow base e size v n xs) (hb : Below W.heap.size W W1) : W1.ownsRow base e size v n xs :=
  h.kept (row := none) ⟨hb.os, hb.tape, hb.output, hb.size, fun k hk _ => hb.block k hk⟩ (by by_cases h : v.ownBlock = none; exact Or.inl h; exact Or.inr h)

/-- One block alone is written. -/
structure Only (b : Nat) (w w' : World) : Prop where
  os : w'.os = w.os
  tape : w'.tape = w.tape
  output : w'.output = w.output
  size : w'.heap.size = w.heap.size
  block : ∀ j, j ≠ b → w'.heap[j]? = w.heap[j]?
theorem Only.refl (b : Nat) (w : World) : Only b w w := ⟨rfl, rfl, rfl, rfl, fun _ _ => rfl⟩
theorem Only.set (b i : Nat) (w : World) (x : Value) : Only b w (w.setCell ⟨b, i, none⟩ x) :=
  ⟨rfl, rfl, rfl, size_set _ _ _, fun _ hj => Below.heap_setCell _ _ _ _ hj⟩
theorem Only.drew {b : Nat} {w w' : World} (h : Only b w w') : Only b w w'.drew := ⟨h.os, h.tape, h.output, h.size, h.block⟩
theorem Only.trans {b : Nat} {w w1 w2 : World} (h : Only b w w1) (h2 : Only b w1 w2) : Only b w w2 :=
  ⟨h2.os.trans h.os, h2.tape.trans h.tape, h2.output.trans h.output, h2.size.trans h.size, fun j hj => (h2.block j hj).trans (h.block j hj)⟩
theorem Only.below {b B : Nat} {w0 w w' : World} (h : Only b w w') (hb : B ≤ b) (h0 : Below B w0 w) : Below B w0 w' :=
  ⟨h.os.trans h0.os, h.tape.trans h0.tape, h.output.trans h0.output, by rw [h.size]; exact h0.size, fun j hj => (h.block j (by omega)).trans (h0.block j hj)⟩
theorem Only.row {w w' : World} {base b : Nat} {v : Value} {e : TypeId} {k n : Nat} {xs : List Value} (ho : Only b w w') (h : w.ownsRow base e k v n xs) (hb : v.ownBlock ≠ some b) : w'.ownsRow base e k v n xs := by
  refine ⟨h.1, ?_⟩
  rcases h.2 with h0 | ⟨g, cap, cur, hv, hg, hgg, rest⟩
  · exact .inl h0
  · refine .inr ⟨g, cap, cur, hv, hg, ?_, rest⟩
    rw [ho.block g (fun e => hb (by rw [hv, e]; rfl))]
    exact hgg
theorem row_type {w : World} {base g : Nat} {v : Value} {e : TypeId} {k n : Nat} {xs : List Value} (h : w.ownsRow base e k v n xs) (hv : v.ownBlock = some g) : ∃ cur, w.heap[g]? = some (.cells cur e (0, 0)) := by
  rcases h.2 with ⟨rfl, _⟩ | ⟨g', cap, cur, rfl, _, hg, _⟩
  · simp [Value.ownBlock] at hv
  · simp [Value.ownBlock] at hv
    subst hv
    exact ⟨cur, hg⟩
end Go.Proofs.YtkelmhpoplbacaaGreatDoor.V
namespace Go.Proofs.YtkelmhpoplbacaaGreatDoor.V
open Go.RowKit Go.Shelf

abbrev E : ByteArray := ⟨#[]⟩
abbrev Sc := List (ByteArray × ByteArray)
namespace Sc
def look (L : Sc) (p : ByteArray) : Option ByteArray := (L.find? fun x => decide (x.1 = p)).map (·.2)
def set : Sc → ByteArray → ByteArray → Sc
  | [], p, e => [(p, e)]
  | x :: r, p, e => if x.1 = p then (p, e) :: r else x :: set r p e
def del (L : Sc) (p : ByteArray) : Sc := L.filter fun x => decide (x.1 ≠ p)
def Uniq (L : Sc) : Prop := L.Pairwise fun x y => x.1 ≠ y.1

theorem look_nil (p : ByteArray) : look [] p = none := rfl
theorem look_cons (x : ByteArray × ByteArray) (L : Sc) (p : ByteArray) : look (x :: L) p = if x.1 = p then some x.2 else look L p := by
  unfold look
  by_cases h : x.1 = p
  · simp [h]
  · simp [h]
theorem look_mem {L : Sc} {p : ByteArray} {e : ByteArray} (h : look L p = some e) : (p, e) ∈ L := by
  induction L with
  | nil => cases h
  | cons x L ih =>
    rw [look_cons] at h
    by_cases hx : x.1 = p
    · rw [if_pos hx] at h; cases h; subst hx; exact List.mem_cons_self ..
    · rw [if_neg hx] at h; exact List.mem_cons_of_mem _ (ih h)
theorem mem_look {L : Sc} (hu : Uniq L) {p : ByteArray} {e : ByteArray} (h : (p, e) ∈ L) : look L p = some e := by
  induction L with
  | nil => cases h
  | cons x L ih =>
    obtain ⟨h1, h2⟩ := List.pairwise_cons.1 hu
    rw [look_cons]
    rcases List.mem_cons.1 h with rfl | h
    · rw [if_pos rfl]
    · rw [if_neg (h1 _ h)]; exact ih h2 h
theorem look_none {L : Sc} {p : ByteArray} (h : look L p = none) : ∀ x ∈ L, x.1 ≠ p := by
  induction L with
  | nil => intro x hx; cases hx
  | cons x L ih =>
    rw [look_cons] at h
    by_cases hx : x.1 = p
    · rw [if_pos hx] at h; cases h
    · rw [if_neg hx] at h
      intro y hy
      rcases List.mem_cons.1 hy with rfl | hy
      · exact hx
      · exact ih h y hy
theorem look_set_same (L : Sc) (p : ByteArray) (e : ByteArray) : look (set L p e) p = some e := by
  induction L with
  | nil => simp [set, look_cons]
  | cons x L ih =>
    unfold set
    by_cases hx : x.1 = p
    · rw [if_pos hx, look_cons, if_pos rfl]
    · rw [if_neg hx, look_cons, if_neg hx, ih]
theorem look_set_other (L : Sc) (p q : ByteArray) (e : ByteArray) (h : q ≠ p) : look (set L p e) q = look L q := by
  induction L with
  | nil => simp [set, look_cons, Ne.symm h, look_nil]
  | cons x L ih =>
    unfold set
    by_cases hx : x.1 = p
    · rw [if_pos hx, look_cons, look_cons, if_neg (Ne.symm h), if_neg (by rw [hx]; exact Ne.symm h)]
    · rw [if_neg hx, look_cons, look_cons, ih]
theorem mem_set {L : Sc} {p : ByteArray} {e : ByteArray} {x : ByteArray × ByteArray} (h : x ∈ set L p e) : x = (p, e) ∨ x ∈ L := by
  induction L with
  | nil => simp [set] at h; exact .inl h
  | cons y L ih =>
    unfold set at h
    by_cases hy : y.1 = p
    · rw [if_pos hy] at h
      rcases List.mem_cons.1 h with h | h
      · exact .inl h
      · exact .inr (List.mem_cons_of_mem _ h)
    · rw [if_neg hy] at h
      rcases List.mem_cons.1 h with rfl | h
      · exact .inr (List.mem_cons_self ..)
      · rcases ih h with h | h
        · exact .inl h
        · exact .inr (List.mem_cons_of_mem _ h)
theorem uniq_set {L : Sc} (h : Uniq L) (p : ByteArray) (e : ByteArray) : Uniq (set L p e) := by
  induction L with
  | nil => exact List.pairwise_cons.2 ⟨(fun _ h => absurd h (by simp)), List.Pairwise.nil⟩
  | cons x L ih =>
    obtain ⟨h1, h2⟩ := List.pairwise_cons.1 h
    unfold set
    by_cases hx : x.1 = p
    · rw [if_pos hx]; exact List.pairwise_cons.2 ⟨fun y hy => by rw [← hx]; exact h1 y hy, h2⟩
    · rw [if_neg hx]
      refine List.pairwise_cons.2 ⟨fun y hy => ?_, ih h2⟩
      rcases mem_set hy with rfl | hy
      · exact hx
      · exact h1 y hy
theorem length_set (L : Sc) (p : ByteArray) (e : ByteArray) : (set L p e).length = if (look L p).isSome then L.length else L.length + 1 := by
  induction L with
  | nil => rfl
  | cons x L ih =>
    unfold set
    rw [look_cons]
    by_cases hx : x.1 = p
    · rw [if_pos hx, if_pos hx]; simp
    · rw [if_neg hx, if_neg hx, List.length_cons, ih]; split <;> simp
theorem look_del_same (L : Sc) (p : ByteArray) : look (del L p) p = none := by
  cases h : look (del L p) p with
  | none => rfl
  | some e =>
    have := (List.mem_filter.1 (look_mem h)).2
    simp at this
theorem look_del_other (L : Sc) (p q : ByteArray) (h : q ≠ p) : look (del L p) q = look L q := by
  induction L with
  | nil => rfl
  | cons x L ih =>
    unfold del at ih ⊢
    rw [List.filter_cons]
    by_cases hx : x.1 = p
    · rw [if_neg (by simp [hx]), ih, look_cons, if_neg (by rw [hx]; exact Ne.symm h)]
    · rw [if_pos (by simp [hx]), look_cons, look_cons, ih]
theorem uniq_del {L : Sc} (h : Uniq L) (p : ByteArray) : Uniq (del L p) := h.filter _
theorem length_del {L : Sc} (h : Uniq L) (p : ByteArray) : (del L p).length + (if (look L p).isSome then 1 else 0) = L.length := by
  induction L with
  | nil => rfl
  | cons x L ih =>
    obtain ⟨h1, h2⟩ := List.pairwise_cons.1 h
    have ih := ih h2
    unfold del at ih ⊢
    rw [List.filter_cons, look_cons]
    by_cases hx : x.1 = p
    · have hn : look L p = none := by
        cases hl : look L p with
        | none => rfl
        | some e => exact absurd hx (h1 _ (look_mem hl))
      rw [hn] at ih
      rw [if_neg (by simp [hx]), if_pos hx]
      simp at ih ⊢; omega
    · rw [if_pos (by simp [hx]), if_neg hx, List.length_cons, List.length_cons]; omega
theorem mem_del {L : Sc} {p : ByteArray} {x : ByteArray × ByteArray} (h : x ∈ del L p) : x ∈ L ∧ x.1 ≠ p := by
  have := List.mem_filter.1 h
  exact ⟨this.1, by simpa using this.2⟩
end Sc

def bad (x : UInt8) : Bool := [32, 9, 10, 36, 58, 61, 123, 125, 40, 41, 35].contains x
def rightB (x : ByteArray) : Bool := decide (1 ≤ x.size) && decide (x.size ≤ 64) && !(bl x).any bad
def isSc (n : Int) : Bool := decide (1 ≤ n) && decide (n ≤ 4)
def blank : ByteArray := ⟨#[32]⟩

abbrev VS := Int → Sc
namespace VS
def none_ : VS := fun _ => []
def upd (s : VS) (n : Int) (L : Sc) : VS := fun k => if k = n then L else s k
def ok (n : Int) (name : ByteArray) : Bool := isSc n && rightB name
def give (s : VS) (n : Int) (name v : ByteArray) : VS × Int :=
  if 65536 < v.size ∨ (((s n).look name).isSome = false ∧ 1024 ≤ (s n).length) then (s, 5) else (s.upd n ((s n).set name v), 0)
def put (s : VS) (n : Int) (name v : ByteArray) : VS × Int := if ok n name then s.give n name v else (s, 1)
def more (s : VS) (n : Int) (name v : ByteArray) : ByteArray := match (s n).look name with | some o => o ++ blank ++ v | none => v
def add (s : VS) (n : Int) (name v : ByteArray) : VS × Int := if ok n name then s.give n name (s.more n name v) else (s, 1)
def get (s : VS) (name : ByteArray) : Option ByteArray :=
  match (s 1).look name with
  | some v => some v
  | none => match (s 2).look name with
    | some v => some v
    | none => match (s 3).look name with
      | some v => some v
      | none => (s 4).look name
def dflt (s : VS) (n : Int) (name v : ByteArray) : VS × Int := if ok n name then (if (s.get name).isSome then (s, 0) else s.give n name v) else (s, 1)
def drop (s : VS) (n : Int) (name : ByteArray) : VS × Int := if isSc n then (if ((s n).look name).isSome then (s.upd n ((s n).del name), 0) else (s, 6)) else (s, 1)
def clear (s : VS) (n : Int) : VS := s.upd n []
def sorted (l : List ByteArray) : List ByteArray := ((l.map bl).mergeSort fun x y => decide (x ≤ y)).map ba
def names (s : VS) (n : Int) : List ByteArray := sorted ((s n).map (·.1))

/-- What every set keeps. -/
structure Ok (s : VS) : Prop where
  uniq : ∀ n, (s n).Uniq
  len : ∀ n, (s n).length ≤ 1024
  name : ∀ n, ∀ x ∈ s n, rightB x.1 = true
  val : ∀ n, ∀ x ∈ s n, x.2.size ≤ 65536
  out : ∀ n, isSc n = false → s n = []

theorem ok_none : Ok none_ := ⟨fun _ => List.Pairwise.nil, fun _ => Nat.zero_le _, fun _ x hx => (by cases hx), fun _ x hx => (by cases hx), fun _ _ => rfl⟩
theorem upd_same (s : VS) (n : Int) (L : Sc) : s.upd n L n = L := by simp [upd]
theorem upd_other (s : VS) {n k : Int} (L : Sc) (h : k ≠ n) : s.upd n L k = s k := by simp [upd, h]
theorem Ok.upd {s : VS} (h : Ok s) {n : Int} (hn : isSc n = true) {L : Sc} (hu : L.Uniq) (hl : L.length ≤ 1024) (hv : ∀ x ∈ L, rightB x.1 = true ∧ x.2.size ≤ 65536) : Ok (s.upd n L) := by
  refine ⟨fun k => ?_, fun k => ?_, fun k => ?_, fun k => ?_, fun k hk => ?_⟩
  · by_cases e : k = n
    · subst e; rw [upd_same]; exact hu
    · rw [upd_other _ _ e]; exact h.uniq k
  · by_cases e : k = n
    · subst e; rw [upd_same]; exact hl
    · rw [upd_other _ _ e]; exact h.len k
  · by_cases e : k = n
    · subst e; rw [upd_same]; exact fun x hx => (hv x hx).1
    · rw [upd_other _ _ e]; exact h.name k
  · by_cases e : k = n
    · subst e; rw [upd_same]; exact fun x hx => (hv x hx).2
    · rw [upd_other _ _ e]; exact h.val k
  · rw [upd_other _ _ (fun e => by subst e; rw [hn] at hk; cases hk)]; exact h.out k hk
theorem look_size {s : VS} (h : Ok s) {n : Int} {q v : ByteArray} (hl : (s n).look q = some v) : v.size ≤ 65536 := h.val n _ (Sc.look_mem hl)
theorem give_ok {s : VS} (h : Ok s) {n : Int} {name : ByteArray} (hk : ok n name = true) (v : ByteArray) : Ok (s.give n name v).1 := by
  unfold give
  unfold ok at hk
  rw [Bool.and_eq_true] at hk
  split
  · exact h
  · rename_i hc
    refine h.upd hk.1 (Sc.uniq_set (h.uniq n) _ _) ?_ ?_
    · rw [Sc.length_set]
      have := h.len n
      split
      · exact this
      · rename_i h2
        have : ¬ 1024 ≤ (s n).length := fun e => hc (.inr ⟨by simpa using h2, e⟩)
        omega
    · intro x hx
      rcases Sc.mem_set hx with rfl | hx
      · exact ⟨hk.2, by have := fun e => hc (.inl e); simp only; omega⟩
      · exact ⟨h.name n x hx, h.val n x hx⟩
theorem put_ok {s : VS} (h : Ok s) (n : Int) (name v : ByteArray) : Ok (s.put n name v).1 := by
  unfold put; split
  · rename_i hk; exact give_ok h hk v
  · exact h
theorem add_ok {s : VS} (h : Ok s) (n : Int) (name v : ByteArray) : Ok (s.add n name v).1 := by
  unfold add; split
  · rename_i hk; exact give_ok h hk _
  · exact h
theorem dflt_ok {s : VS} (h : Ok s) (n : Int) (name v : ByteArray) : Ok (s.dflt n name v).1 := by
  unfold dflt; split
  · rename_i hk
    split
    · exact h
    · exact give_ok h hk v
  · exact h
theorem drop_ok {s : VS} (h : Ok s) (n : Int) (name : ByteArray) : Ok (s.drop n name).1 := by
  unfold drop; split
  · rename_i hk
    split
    · refine h.upd hk (Sc.uniq_del (h.uniq n) _) ?_ fun x hx => ⟨h.name n x (Sc.mem_del hx).1, h.val n x (Sc.mem_del hx).1⟩
      exact Nat.le_trans (List.length_filter_le _ _) (h.len n)
    · exact h
  · exact h
theorem clear_ok {s : VS} (h : Ok s) (n : Int) : Ok (s.clear n) := by
  unfold clear
  by_cases hk : isSc n = true
  · exact h.upd hk List.Pairwise.nil (Nat.zero_le _) fun x hx => by cases hx
  · have : s.upd n [] = s := by
      funext k
      by_cases e : k = n
      · subst e; rw [upd_same, h.out k (by simpa using hk)]
      · rw [upd_other _ _ e]
    rw [this]; exact h
end VS
end Go.Proofs.YtkelmhpoplbacaaGreatDoor.V
namespace Go.Proofs.YtkelmhpoplbacaaGreatDoor.V
open Go.RowKit Go.Shelf Go.Maps

/-! A value as a map's element. -/
abbrev entV (e : ByteArray) : Value := .agg #[.string e]
def entD (e : ByteArray) : DataW Unit := .agg [.lit (.string (bl e))]
def entR : Value → Option (DataW Unit × List MemPlace)
  | .agg cs => match cs.toList with
    | [.string t] => some (entD t, [])
    | _ => none
  | _ => none
theorem entR_mk (e : ByteArray) : entR (entV e) = some (entD e, []) := rfl
theorem entR_inv {v : Value} {y : DataW Unit × List MemPlace} (h : entR v = some y) : ∃ e, v = entV e ∧ y = (entD e, []) := by
  unfold entR at h
  split at h
  · rename_i cs
    split at h
    · rename_i t hc
      refine ⟨t, ?_, (Option.some.inj h).symm⟩
      unfold entV
      rw [← Array.toArray_toList (xs := cs), hc]
    · cases h
  · cases h
theorem entD_inj {a c : ByteArray} (h : entD a = entD c) : a = c := by
  unfold entD at h
  simp only [DataW.agg.injEq, List.cons.injEq, DataW.lit.injEq, Lit.string.injEq, and_true] at h
  exact bl_inj h
def gotE (L : Sc) (q : ByteArray) : ByteArray := (L.look q).getD E
abbrev keyL (q : ByteArray) : Lit := .string (bl q)
theorem key_isLit (q : ByteArray) : WideAt.IsKeyLit (keyL q) := trivial
theorem keyL_ne {p q : ByteArray} (h : p ≠ q) : keyL p ≠ keyL q := fun e => h (bl_inj (by simpa [keyL] using e))

/-- What a map's datum says, as a list. -/
structure Rep (D : DataW Unit) (L : Sc) : Prop where
  uniq : L.Uniq
  size : Maps.size D = L.length
  look : ∀ q, Maps.has D (keyL q) = (L.look q).isSome
  at_ : ∀ q e z, L.look q = some e → D.atKey (keyL q) z = entD e

theorem Rep.got {D : DataW Unit} {L : Sc} (h : Rep D L) (q : ByteArray) : D.atKey (keyL q) (entD E) = entD (gotE L q) := by
  unfold gotE
  cases hl : L.look q with
  | none => exact atKey_of_not_has (by rw [h.look, hl]; rfl) _
  | some e => exact h.at_ q e _ hl
theorem Rep.put {D : DataW Unit} {L : Sc} (h : Rep D L) (ht : Tidy D) (q : ByteArray) (e : ByteArray) : Rep (D.put (keyL q) (entD e)) (L.set q e) := by
  refine ⟨Sc.uniq_set h.uniq q e, ?_, fun p => ?_, fun p x z hx => ?_⟩
  · rw [size_put ht, h.look, Sc.length_set, h.size]
  · by_cases hp : p = q
    · subst hp; rw [has_put_same ht.isMap (key_isLit p), Sc.look_set_same]; rfl
    · rw [has_put_other (keyL_ne hp), Sc.look_set_other _ _ _ _ hp, h.look]
  · by_cases hp : p = q
    · subst hp; rw [Sc.look_set_same] at hx; cases hx; exact atKey_put_same ht.isMap (key_isLit p) _ _
    · rw [Sc.look_set_other _ _ _ _ hp] at hx; rw [atKey_put_other (keyL_ne hp)]; exact h.at_ _ _ _ hx
theorem Rep.del {D : DataW Unit} {L : Sc} (h : Rep D L) (ht : Tidy D) (q : ByteArray) : Rep (D.del (keyL q)) (L.del q) := by
  refine ⟨Sc.uniq_del h.uniq q, ?_, fun p => ?_, fun p x z hx => ?_⟩
  · have h1 := size_del (k := keyL q) ht
    have h2 := Sc.length_del h.uniq q
    rw [h.look] at h1
    have h3 := h.size
    cases hl : (L.look q).isSome <;> rw [hl] at h1 h2 <;> simp at h1 h2 <;> omega
  · by_cases hp : p = q
    · subst hp; rw [has_del_same, Sc.look_del_same]; rfl
    · rw [has_del_other (keyL_ne hp), Sc.look_del_other _ _ _ hp, h.look]
  · by_cases hp : p = q
    · subst hp; rw [Sc.look_del_same] at hx; cases hx
    · rw [Sc.look_del_other _ _ _ hp] at hx; rw [atKey_del_other (keyL_ne hp)]; exact h.at_ _ _ _ hx

/-- A map's block, with what it holds. -/
def Files (w : World) (m : Nat) (L : Sc) : Prop := ∃ D, w.ownsMap Tryz.prog 9 entR m L.length D ∧ Rep D L
theorem keyed9 : Keyed Tryz.prog 9 := string_keyed Tryz.underlying9
section
variable {w w' : World} {m : Nat} {L : Sc}
theorem Files.lt (h : Files w m L) : m < w.heap.size := by obtain ⟨D, h, _⟩ := h; exact h.lt
theorem Files.of_block (h : Files w m L) (e : w'.heap[m]? = w.heap[m]?) : Files w' m L := by
  obtain ⟨D, ⟨es, clock, hb, r⟩, hR⟩ := h
  exact ⟨D, ⟨es, clock, e.trans hb, r⟩, hR⟩
theorem Files.isMap (h : Files w m L) : ∃ es clock, w.heap[m]? = some (.map es clock) := by
  obtain ⟨D, ⟨es, clock, hb, r⟩, hR⟩ := h
  exact ⟨es, clock, hb⟩
theorem ownsMap_exact {b n : Nat} {D : DataW Unit} (h : w.ownsMap Tryz.prog 9 entR b n D) {m : Nat} (hm : Maps.size D = m) : w.ownsMap Tryz.prog 9 entR b m D := by
  obtain ⟨es, clock, hb, F, hs, rfl⟩ := h
  refine ⟨es, clock, hb, F, ?_, rfl⟩
  rw [← hm]
  simp [Maps.size, length_sorted]
theorem zeroEnt (w : World) : (zeroValue 131).run Tryz.prog w = .ok (entV E) w := Tryz.zeroValue131 w
theorem keyOf_str {q : ByteArray} (hq : q.size ≤ 140737488355328) : keyOf Tryz.prog 9 (.string q) = some (keyL q) := Go.WideMaps.keyOf_string_mk (P := Tryz.prog) Tryz.underlying9 (s := q) (by unfold maxLen; omega)
theorem Files.see (h : Files w m L) {q : ByteArray} (hq : q.size ≤ 140737488355328) (W : World) (hW : W.heap[m]? = w.heap[m]?) :
    (Instr.lookup 71 (.map (some m)) (.string q) true).run Tryz.prog W = .ok (.tuple #[entV (gotE L q), .bool (L.look q).isSome]) W := by
  obtain ⟨D, hown, hR⟩ := h.of_block hW
  obtain ⟨v, ps, hrun, hv⟩ := hown.look_ok keyed9 Tryz.underlying71 (zeroEnt W) (entR_mk E) (keyOf_str hq)
  obtain ⟨e, rfl, he⟩ := entR_inv hv
  have h2 : D.atKey (keyL q) (entD E) = entD e := congrArg Prod.fst he
  rw [hR.got] at h2
  rw [hrun, ← entD_inj h2]
  rw [hR.look q]
theorem see_nil {q : ByteArray} (hq : q.size ≤ 140737488355328) (W : World) :
    (Instr.lookup 71 (.map none) (.string q) true).run Tryz.prog W = .ok (.tuple #[entV E, .bool false]) W := by
  rw [Maps.look_nil true keyed9 Tryz.underlying71 (zeroEnt W) (keyOf_str hq)]; rfl
theorem Files.count (h : Files w m L) (ty : TypeId) (W : World) (hW : W.heap[m]? = w.heap[m]?) : (Builtin.len_ #[71] ty #[.map (some m)]).run Tryz.prog W = .ok (.int .i64 L.length) W := by
  obtain ⟨D, hown, hR⟩ := h.of_block hW
  rw [hown.len Tryz.underlying71, hR.size]
/-- One block alone is another. -/
structure Turned (m : Nat) (w w' : World) : Prop where
  os : w'.os = w.os
  tape : w'.tape = w.tape
  output : w'.output = w.output
  size : w'.heap.size = w.heap.size
  block : ∀ j, j ≠ m → w'.heap[j]? = w.heap[j]?
theorem turned_of (h : w.mapTurned w' m) : Turned m w w' := by
  obtain ⟨es, clock, es', clock', hb, rfl⟩ := h
  exact ⟨rfl, rfl, rfl, by simp [ChangeMaps.setBlock], fun j hj => ChangeMaps.heap_setBlock_other hb _ hj⟩
theorem Files.put (h : Files w m L) (hl : L.length ≤ 1000000) {q e : ByteArray} (hq : q.size ≤ 140737488355328) :
    ∃ w', (Instr.mapUpdate 71 (.map (some m)) (.string q) (entV e)).run Tryz.prog w = .ok () w' ∧ Files w' m (L.set q e) ∧ Turned m w w' := by
  obtain ⟨D, hown, hR⟩ := h
  obtain ⟨w', hrun, h1, h2⟩ := hown.store keyed9 Tryz.underlying71 (by unfold maxLen; omega) (keyOf_str hq) (entR_mk e)
  have hr := hR.put (hown.tidy keyed9) q e
  exact ⟨w', hrun, ⟨_, ownsMap_exact h1 hr.size, hr⟩, turned_of h2⟩
theorem Files.drop (h : Files w m L) (ty : TypeId) {q : ByteArray} (hq : q.size ≤ 140737488355328) :
    ∃ w', (Builtin.delete_ #[71, 9] ty #[.map (some m), .string q]).run Tryz.prog w = .ok (.tuple #[]) w' ∧ Files w' m (L.del q) ∧ Turned m w w' := by
  obtain ⟨D, hown, hR⟩ := h
  obtain ⟨w', hrun, h1, h2⟩ := hown.drop keyed9 Tryz.underlying71 (keyOf_str hq) ty
  have hr := hR.del (hown.tidy keyed9) q
  exact ⟨w', hrun, ⟨_, ownsMap_exact h1 hr.size, hr⟩, turned_of h2⟩
end

def cellsOf (m : Int → Nat) : Array Value := #[.bool true, .map (some (m 1)), .map (some (m 2)), .map (some (m 3)), .map (some (m 4))]
abbrev ptr (b : Nat) : Value := .pointer (some ⟨b, 0, none⟩)

structure VSet (base b : Nat) (m : Int → Nat) (s : VS) (w : World) : Prop where
  blk : w.heap[b]? = some (.cells (cellsOf m) 74 (0, 0))
  map : ∀ n, isSc n = true → Files w (m n) (s n)
  inj : ∀ i j, isSc i = true → isSc j = true → i ≠ j → m i ≠ m j
  hb : base ≤ b
  hm : ∀ n, isSc n = true → base ≤ m n
  ok : s.Ok

/-- What a call on a set may turn: its maps, and new memory. -/
structure Turn (m : Int → Nat) (w w' : World) : Prop where
  os : w'.os = w.os
  tape : w'.tape = w.tape
  output : w'.output = w.output
  size : w.heap.size ≤ w'.heap.size
  block : ∀ j, j < w.heap.size → (∀ n, isSc n = true → j ≠ m n) → w'.heap[j]? = w.heap[j]?

theorem isSc_cases {n : Int} (h : isSc n = true) : n = 1 ∨ n = 2 ∨ n = 3 ∨ n = 4 := by
  unfold isSc at h
  simp at h
  omega

section
variable {base b : Nat} {m : Int → Nat} {s : VS} {w w' w'' : World}
theorem Turn.trans (h : Turn m w w') (k : Turn m w' w'') : Turn m w w'' :=
  ⟨k.os.trans h.os, k.tape.trans h.tape, k.output.trans h.output, Nat.le_trans h.size k.size, fun j hj hn => (k.block j (Nat.lt_of_lt_of_le hj h.size) hn).trans (h.block j hj hn)⟩
theorem Turn.of_below (h : Below w.heap.size w w') : Turn m w w' := ⟨h.os, h.tape, h.output, h.size, fun j hj _ => h.block j hj⟩
theorem Turn.refl (m : Int → Nat) (w : World) : Turn m w w := Turn.of_below (Below.refl _ _)
theorem Turn.of_turned {n : Int} (hn : isSc n = true) (h : Turned (m n) w w') : Turn m w w' :=
  ⟨h.os, h.tape, h.output, Nat.le_of_eq h.size.symm, fun j _ hj => h.block j (hj n hn)⟩
theorem VSet.lt (h : VSet base b m s w) : b < w.heap.size := (Array.getElem?_eq_some_iff.1 h.blk).1
theorem VSet.ltm (h : VSet base b m s w) {n : Int} (hn : isSc n = true) : m n < w.heap.size := (h.map n hn).lt
theorem VSet.of_block (h : VSet base b m s w) (h1 : w'.heap[b]? = w.heap[b]?) (h2 : ∀ n, isSc n = true → w'.heap[m n]? = w.heap[m n]?) : VSet base b m s w' :=
  ⟨h1.trans h.blk, fun n hn => (h.map n hn).of_block (h2 n hn), h.inj, h.hb, h.hm, h.ok⟩
theorem VSet.below (h : VSet base b m s w) (hb : Below w.heap.size w w') : VSet base b m s w' :=
  h.of_block (hb.block b h.lt) fun n hn => hb.block (m n) (h.ltm hn)
theorem VSet.lower (h : VSet base b m s w) {base' : Nat} (hb : base' ≤ base) : VSet base' b m s w :=
  ⟨h.blk, h.map, h.inj, Nat.le_trans hb h.hb, fun n hn => Nat.le_trans hb (h.hm n hn), h.ok⟩
theorem VSet.low (h : VSet base b m s w) (ht : Turn m w w') : Below base w w' :=
  ⟨ht.os, ht.tape, ht.output, ht.size, fun j hj => by
    have h1 := h.lt; have h2 := h.hb
    refine ht.block j (by omega) (fun n hn => ?_)
    have := h.hm n hn
    omega⟩
theorem VSet.bm (h : VSet base b m s w) {n : Int} (hn : isSc n = true) : b ≠ m n := by
  intro e
  obtain ⟨es, clock, hm⟩ := (h.map n hn).isMap
  have := h.blk
  rw [e, hm] at this; cases this
theorem VSet.upd (h : VSet base b m s w) {n : Int} (hn : isSc n = true) {L : Sc} (hk : (s.upd n L).Ok) (hf : Files w' (m n) L) (ht : Turned (m n) w w') : VSet base b m (s.upd n L) w' := by
  refine ⟨(ht.block b (h.bm hn)).trans h.blk, fun k hk' => ?_, h.inj, h.hb, h.hm, hk⟩
  by_cases e : k = n
  · subst e; rw [VS.upd_same]; exact hf
  · rw [VS.upd_other _ _ e]; exact (h.map k hk').of_block (ht.block _ (h.inj k n hk' hn e))
theorem VSet.cell (h : VSet base b m s w) (i : Nat) {u : Value} (hu : (cellsOf m)[i]? = some u) : w.cell? ⟨b, i, none⟩ = some u := by
  simp only [World.cell?, h.blk]; exact hu
theorem VSet.c0 (h : VSet base b m s w) : w.cell? ⟨b, 0, none⟩ = some (.bool true) := h.cell 0 rfl
theorem VSet.c1 (h : VSet base b m s w) : w.cell? ⟨b, 1, none⟩ = some (.map (some (m 1))) := h.cell 1 rfl
theorem VSet.c2 (h : VSet base b m s w) : w.cell? ⟨b, 2, none⟩ = some (.map (some (m 2))) := h.cell 2 rfl
theorem VSet.c3 (h : VSet base b m s w) : w.cell? ⟨b, 3, none⟩ = some (.map (some (m 3))) := h.cell 3 rfl
theorem VSet.c4 (h : VSet base b m s w) : w.cell? ⟨b, 4, none⟩ = some (.map (some (m 4))) := h.cell 4 rfl
/-- Another set is turned. -/
theorem VSet.other (h : VSet base b m s w) {m' : Int → Nat} (ht : Turn m' w w') (hb : ∀ n, isSc n = true → b ≠ m' n) (hm : ∀ i j, isSc i = true → isSc j = true → m i ≠ m' j) : VSet base b m s w' :=
  h.of_block (ht.block b h.lt hb) fun n hn => ht.block (m n) (h.ltm hn) (fun k hk => hm n k hn hk)
end
end Go.Proofs.YtkelmhpoplbacaaGreatDoor.V
