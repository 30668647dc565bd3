/-
  Builders, and lines with any number in memory.
-/
import Derived.Test.YtbciedpjaajhcaaDoorB0
import Derived.Test.YtbciedpjaajhcaaDoorShelf
import Derived.Test.YtbciedpjaajhcaaDoorMShelfB
import Derived.Shelf.Strings.SlTrimAscii
import Derived.Maps.AppendAt
namespace Go.Proofs.YtbciedpjaajhcaaDoor
open Go.RowKit Go.Shelf

theorem owns_nil (base : Nat) (e : TypeId) (size : Nat) (w : World) : w.ownsRow base e size (.slice none 0 0) 0 [] := World.ownsRow_nil _ _ _ _
theorem byteCells_snoc' (o : List UInt8) (c : UInt8) : Lib.byteCells (o ++ [c]) = Lib.byteCells o ++ [.int .u8 (c.toNat : Int)] := by simp [Lib.byteCells]
theorem ibf_below {T e : TypeId} {B b : Nat} {bs : List Value} {W W' : World} (h : Lib.IsBuilderF T e B b bs W) (hb : Below W.heap.size W W') : Lib.IsBuilderF T e B b bs W' := by
  rcases h with h | h
  · have hlt := h.lt
    obtain ⟨hB, v, hv, hown, hne⟩ := h
    exact .inl ⟨hB, v, (hb.block b hlt).trans hv, hown.kept (row := none) ⟨hb.os, hb.tape, hb.output, hb.size, fun k hk _ => hb.block k hk⟩ (Classical.em _), hne⟩
  · have hlt := h.lt
    obtain ⟨hB, v, hv, hown, hne⟩ := h
    exact .inr ⟨hB, v, (hb.block b hlt).trans hv, hown.kept (row := none) ⟨hb.os, hb.tape, hb.output, hb.size, fun k hk _ => hb.block k hk⟩ (Classical.em _), hne⟩
/-- A Builder in block b that holds the bytes o. -/
def Bu (b : Nat) (o : List UInt8) (W : World) : Prop := Lib.IsBuilderF 83 5 b b (Lib.byteCells o) W
theorem bu_new (w : World) : Bu w.heap.size [] (w.alloc (.cells #[.pointer none, .slice none 0 0] 83)) := Lib.IsBuilderF.of (Lib.fresh_isBuilder 83 5 w)
theorem Bu.below {b : Nat} {o : List UInt8} {W W' : World} (h : Bu b o W) (hb : Below W.heap.size W W') : Bu b o W' := ibf_below h hb
theorem Bu.lt {b : Nat} {o : List UInt8} {W : World} (h : Bu b o W) : b < W.heap.size := by
  rcases h with h | h
  · exact h.lt
  · exact h.lt
def BuPost (b : Nat) (o : List UInt8) (W w' : World) : Prop := Bu b o w' ∧ Below b W w' ∧ Lib.OthersKept 5 (some b) W w'
theorem ws_any (b : Nat) (o : List UInt8) (m : ByteArray) (W : World) (h : Bu b o W) (ho : o.length ≤ 600000000) (hm : m.size ≤ 600000000) :
    Calls Tryd.prog 40 #[.pointer (some ⟨b, 0, none⟩), .string m] W fun e w' => e = .returned (.tuple #[.int .i64 m.size, .nilIface]) ∧ BuPost b (o ++ bl m) W w' :=
  (Tryd.Builder_WriteString_k b b (Lib.byteCells o) m W h (by rw [Lib.byteCells_length]; omega) (Nat.le_of_lt h.lt)).mono fun e w' h => ⟨h.1, .inr (by rw [Lib.byteCells_append, ← show Lib.strCells m = Lib.byteCells (bl m) from rfl]; exact h.2.1), h.2.2⟩
theorem bs_any (b : Nat) (o : List UInt8) (W : World) (h : Bu b o W) :
    Calls Tryd.prog 41 #[.pointer (some ⟨b, 0, none⟩)] W fun e w' => e = .returned (.string (ba o)) ∧ Below b W w' :=
  (Tryd.Builder_String_any_k b b o W h (Nat.le_of_lt h.lt)).mono fun _ _ h => ⟨h.1, h.2.2.1⟩

theorem left_le (r p : List UInt8) : (Lib.trimLeftS r p).length ≤ r.length := (List.dropWhile_suffix _).length_le
theorem trimL_blank (s : ByteArray) (W : World) : Calls Tryd.prog 26 #[.string s, .string ⟨#[32, 9]⟩] W fun e w' => e = .returned (.string (ba (Lib.trimLeftS (bl s) [32, 9]))) ∧ Below W.heap.size W w' :=
  Any.strings_TrimLeft_laid Tryd.lays161 (by kernel_rfl) s ⟨#[32, 9]⟩ W (by show 2 < 4294967281; omega) (ascii_of_all rfl)
set_option maxRecDepth 20000 in
theorem eqL52 (a b : ByteArray) (x y : Int) (c d : Bool) (w : World) : Sem.run Tryd.prog (Op.equalIn 10000 38 (.agg #[.string a, .int .i64 x, .bool c]) (.agg #[.string b, .int .i64 y, .bool d])) w = .ok (a == b && (x == y && c == d)) w := by
  rw [run_equalIn_agg w 9999 38 _ _ (by kernel_rfl) (by kernel_rfl)]
  simp only [Program.fieldsOf, Tryd.underlying38]
  have p9 : ∀ (a : ByteArray) (x : Int) (c : Bool) (w : World), (part 9 #[.string a, .int .i64 x, .bool c] 0).run Tryd.prog w = .ok (.string a) w := fun a x c w => by kernel_rfl
  have p3 : ∀ (a : ByteArray) (x : Int) (c : Bool) (w : World), (part 3 #[.string a, .int .i64 x, .bool c] 1).run Tryd.prog w = .ok (.int .i64 x) w := fun a x c w => by kernel_rfl
  have p4 : ∀ (a : ByteArray) (x : Int) (c : Bool) (w : World), (part 4 #[.string a, .int .i64 x, .bool c] 2).run Tryd.prog w = .ok (.bool c) w := fun a x c w => by kernel_rfl
  have q9 := run_equalIn_string (P := Tryd.prog) w 9998 9 a b Tryd.underlying9
  have q3 := run_equalIn_int (P := Tryd.prog) w 9998 3 .i64 .i64 x y Tryd.underlying3
  have q4 := run_equalIn_bool' (P := Tryd.prog) w 9998 4 c d Tryd.underlying4
  rw [beq_toListBytes]
  generalize (a.toList == b.toList) = u at q9 ⊢
  generalize (x == y) = v at q3 ⊢
  generalize (c == d) = t at q4 ⊢
  simp only [Op.eqFields, Sem.run_bind, Sem.run_ite, p9, p3, p4, Result.andThen_ok, q9, q3, q4]
  cases u <;> cases v <;> cases t <;> simp
theorem neq52 (a b : ByteArray) (x y : Int) (c d : Bool) (w : World) : Sem.run Tryd.prog (binOp .neq 38 (.agg #[.string a, .int .i64 x, .bool c]) (.agg #[.string b, .int .i64 y, .bool d])) w = .ok (.bool (!(a == b && (x == y && c == d)))) w := by
  rw [run_neq_struct, eqL52]; rfl
/-- A line with any number. -/
structure Lz where
  text : ByteArray
  at_ : Int
  cmd : Bool
def lzC (x : Lz) : List Value := [.string x.text, .int .i64 x.at_, .bool x.cmd]
def lzsV (l : List Lz) : List Value := l.flatMap lzC
theorem lz_len (x : Lz) : (lzC x).length = 3 := rfl
theorem lzsV_snoc (l : List Lz) (x : Lz) : lzsV (l ++ [x]) = lzsV l ++ lzC x := by simp [lzsV]
theorem lz_one (x : Lz) : ∀ u ∈ lzC x, u.oneCell' = true := by
  intro u hu
  simp only [lzC, List.mem_cons, List.not_mem_nil, or_false] at hu
  rcases hu with rfl | rfl | rfl <;> rfl
theorem ba_beq (a b : ByteArray) : (a == b) = decide (a = b) := by
  rw [beq_toListBytes, Bool.eq_iff_iff]
  simp only [beq_iff_eq, decide_eq_true_eq]
  constructor
  · intro h
    rw [Lib.toList_data, Lib.toList_data] at h
    exact bl_inj h
  · intro h; rw [h]
theorem alloc_last (W : World) (o : Obj) : (W.alloc o).heap[W.heap.size]? = some o := by
  show (W.heap.push o)[W.heap.size]? = _
  exact Array.getElem?_push_size
def sameZ (x y : Lz) : Bool := x.text == y.text && (x.at_ == y.at_ && x.cmd == y.cmd)
theorem sameZ_iff (x y : Lz) : sameZ x y = true ↔ x = y := by
  unfold sameZ
  rw [ba_beq]
  simp only [Bool.and_eq_true, beq_iff_eq, decide_eq_true_eq]
  constructor
  · rintro ⟨h1, h2, h3⟩
    cases x; cases y; simp_all
  · rintro rfl; exact ⟨rfl, rfl, rfl⟩
/-- A slice value that reads as a list of lines, its row below block B. -/
def LZ (B : Nat) (W : World) (v : Value) (l : List Lz) : Prop :=
  ∃ a n c, v = .slice a n c ∧ n = l.length ∧ n ≤ c ∧ ∀ i x, l[i]? = some x → ∃ b o, a = some ⟨b, o, none⟩ ∧ b < B ∧ W.cell? ⟨b, o + i * 3, none⟩ = some (.string x.text) ∧ W.cell? ⟨b, o + i * 3 + 1, none⟩ = some (.int .i64 x.at_) ∧ W.cell? ⟨b, o + i * 3 + 2, none⟩ = some (.bool x.cmd)
theorem LZ.below {B : Nat} {W W1 : World} {v : Value} {l : List Lz} (h : LZ B W v l) (hb : Below B W W1) : LZ B W1 v l := by
  obtain ⟨a, n, c, h1, h2, h4, h3⟩ := h
  refine ⟨a, n, c, h1, h2, h4, fun i x hi => ?_⟩
  obtain ⟨b, o, e1, e2, e3, e4, e5⟩ := h3 i x hi
  exact ⟨b, o, e1, e2, by rw [hb.cell (p := ⟨b, _, none⟩) e2]; exact e3, by rw [hb.cell (p := ⟨b, _, none⟩) e2]; exact e4, by rw [hb.cell (p := ⟨b, _, none⟩) e2]; exact e5⟩
theorem LZ.mono {B B' : Nat} {W : World} {v : Value} {l : List Lz} (h : LZ B W v l) (hB : B ≤ B') : LZ B' W v l := by
  obtain ⟨a, n, c, h1, h2, h4, h3⟩ := h
  refine ⟨a, n, c, h1, h2, h4, fun i x hi => ?_⟩
  obtain ⟨b, o, e1, e2, e3⟩ := h3 i x hi
  exact ⟨b, o, e1, by omega, e3⟩
theorem LZ.slice {B : Nat} {W : World} {v : Value} {l : List Lz} (h : LZ B W v l) : ∃ a c, v = .slice a l.length c ∧ l.length ≤ c := by
  obtain ⟨a, n, c, h1, h2, h4, _⟩ := h
  exact ⟨a, c, by rw [h1, h2], by omega⟩
theorem LZ.pick {B : Nat} {W : World} {a : Option Addr} {n c : Nat} {l : List Lz} (h : LZ B W (.slice a n c) l) {k : Nat} {x : Lz} (hx : l[k]? = some x) :
    ∃ b o, a = some ⟨b, o, none⟩ ∧ b < B ∧ W.cell? ⟨b, o + k * 3, none⟩ = some (.string x.text) ∧ W.cell? ⟨b, o + k * 3 + 1, none⟩ = some (.int .i64 x.at_) ∧ W.cell? ⟨b, o + k * 3 + 2, none⟩ = some (.bool x.cmd) := by
  obtain ⟨a', n', c', h1, h2, h4, h3⟩ := h
  simp only [Value.slice.injEq] at h1
  obtain ⟨rfl, rfl, rfl⟩ := h1
  exact h3 k x hx
theorem lz_of_owns {B base : Nat} {W : World} {v : Value} {e : TypeId} {l : List Lz} (h : W.ownsRow base e 3 v l.length (lzsV l)) (hB : W.heap.size ≤ B) : LZ B W v l := by
  rcases row_src h with ⟨h1, h2, _⟩ | ⟨g, cap, hv, hg, hcap, _, hc⟩
  · refine ⟨none, 0, 0, h1, h2.symm, Nat.le_refl _, fun i x hi => ?_⟩
    have := (List.getElem?_eq_some_iff.1 hi).1
    omega
  · refine ⟨some ⟨g, 0, none⟩, l.length, cap, hv, rfl, hcap, fun i x hi => ⟨g, 0, rfl, by omega, ?_, ?_, ?_⟩⟩
    · have := hc (i * 3 + 0) _ (by unfold lzsV; rw [fl_get lzC 3 lz_len l i 0 x hi (by omega)]; rfl)
      rw [add_none] at this; exact this
    · have := hc (i * 3 + 1) _ (by unfold lzsV; rw [fl_get lzC 3 lz_len l i 1 x hi (by omega)]; rfl)
      rw [add_none] at this; rw [Nat.add_assoc]; exact this
    · have := hc (i * 3 + 2) _ (by unfold lzsV; rw [fl_get lzC 3 lz_len l i 2 x hi (by omega)]; rfl)
      rw [add_none] at this; rw [Nat.add_assoc]; exact this

theorem infoR : (Tryd.prog.info? 38).map (fun i => (i.zero, i.size, i.bytes)) = some (some (.agg #[.string ⟨#[]⟩, .int .i64 0, .bool false]), 3, 32) := by kernel_rfl
theorem infoL : (Tryd.prog.info? 43).map (fun i => (i.zero, i.size, i.bytes)) = some (some (.agg #[.string ⟨#[]⟩, .int .i64 0, .bool false]), 3, 32) := by kernel_rfl
end Go.Proofs.YtbciedpjaajhcaaDoor
