/-
  Lines with numbers of any kind in memory: ours, theirs, Same.
-/
import Derived.Test.YtefhpoklehmlhaaDoorL4
namespace Go.Proofs.YtefhpoklehmlhaaDoor
open Go.RowKit Go.Shelf

set_option maxRecDepth 20000 in
theorem eqL52 (a b : ByteArray) (x y : Int) (c d : Bool) (w : World) : Sem.run Tryd.prog (Op.equalIn 10000 52 (.agg #[.string a, .int .i64 x, .bool c]) (.agg #[.string b, .int .i64 y, .bool d])) w = .ok (a == b && (x == y && c == d)) w := by
  rw [run_equalIn_agg w 9999 52 _ _ (by kernel_rfl) (by kernel_rfl)]
  simp only [Program.fieldsOf, Tryd.underlying52]
  have p9 : ∀ (a : ByteArray) (x : Int) (c : Bool) (w : World), (part 9 #[.string a, .int .i64 x, .bool c] 0).run Tryd.prog w = .ok (.string a) w := fun a x c w => by kernel_rfl
  have p3 : ∀ (a : ByteArray) (x : Int) (c : Bool) (w : World), (part 3 #[.string a, .int .i64 x, .bool c] 1).run Tryd.prog w = .ok (.int .i64 x) w := fun a x c w => by kernel_rfl
  have p4 : ∀ (a : ByteArray) (x : Int) (c : Bool) (w : World), (part 4 #[.string a, .int .i64 x, .bool c] 2).run Tryd.prog w = .ok (.bool c) w := fun a x c w => by kernel_rfl
  have q9 := run_equalIn_string (P := Tryd.prog) w 9998 9 a b Tryd.underlying9
  have q3 := run_equalIn_int (P := Tryd.prog) w 9998 3 .i64 .i64 x y Tryd.underlying3
  have q4 := run_equalIn_bool' (P := Tryd.prog) w 9998 4 c d Tryd.underlying4
  rw [beq_toListBytes]
  generalize (a.toList == b.toList) = u at q9 ⊢
  generalize (x == y) = v at q3 ⊢
  generalize (c == d) = t at q4 ⊢
  simp only [Op.eqFields, Sem.run_bind, Sem.run_ite, p9, p3, p4, Result.andThen_ok, q9, q3, q4]
  cases u <;> cases v <;> cases t <;> simp
set_option maxRecDepth 20000 in
theorem eqL30 (a b : ByteArray) (x y : Int) (c d : Bool) (w : World) : Sem.run Tryd.prog (Op.equalIn 10000 30 (.agg #[.string a, .int .i64 x, .bool c]) (.agg #[.string b, .int .i64 y, .bool d])) w = .ok (a == b && (x == y && c == d)) w := by
  rw [run_equalIn_agg w 9999 30 _ _ (by kernel_rfl) (by kernel_rfl)]
  simp only [Program.fieldsOf, Tryd.underlying30]
  have p9 : ∀ (a : ByteArray) (x : Int) (c : Bool) (w : World), (part 9 #[.string a, .int .i64 x, .bool c] 0).run Tryd.prog w = .ok (.string a) w := fun a x c w => by kernel_rfl
  have p3 : ∀ (a : ByteArray) (x : Int) (c : Bool) (w : World), (part 3 #[.string a, .int .i64 x, .bool c] 1).run Tryd.prog w = .ok (.int .i64 x) w := fun a x c w => by kernel_rfl
  have p4 : ∀ (a : ByteArray) (x : Int) (c : Bool) (w : World), (part 4 #[.string a, .int .i64 x, .bool c] 2).run Tryd.prog w = .ok (.bool c) w := fun a x c w => by kernel_rfl
  have q9 := run_equalIn_string (P := Tryd.prog) w 9998 9 a b Tryd.underlying9
  have q3 := run_equalIn_int (P := Tryd.prog) w 9998 3 .i64 .i64 x y Tryd.underlying3
  have q4 := run_equalIn_bool' (P := Tryd.prog) w 9998 4 c d Tryd.underlying4
  rw [beq_toListBytes]
  generalize (a.toList == b.toList) = u at q9 ⊢
  generalize (x == y) = v at q3 ⊢
  generalize (c == d) = t at q4 ⊢
  simp only [Op.eqFields, Sem.run_bind, Sem.run_ite, p9, p3, p4, Result.andThen_ok, q9, q3, q4]
  cases u <;> cases v <;> cases t <;> simp
theorem neq52 (a b : ByteArray) (x y : Int) (c d : Bool) (w : World) : Sem.run Tryd.prog (binOp .neq 52 (.agg #[.string a, .int .i64 x, .bool c]) (.agg #[.string b, .int .i64 y, .bool d])) w = .ok (.bool (!(a == b && (x == y && c == d)))) w := by
  rw [run_neq_struct, eqL52]; rfl
theorem neq30 (a b : ByteArray) (x y : Int) (c d : Bool) (w : World) : Sem.run Tryd.prog (binOp .neq 30 (.agg #[.string a, .int .i64 x, .bool c]) (.agg #[.string b, .int .i64 y, .bool d])) w = .ok (.bool (!(a == b && (x == y && c == d)))) w := by
  rw [run_neq_struct, eqL30]; rfl

/-- A line with any number. -/
structure Lz where
  text : ByteArray
  at_ : Int
  cmd : Bool
def lzC (x : Lz) : List Value := [.string x.text, .int .i64 x.at_, .bool x.cmd]
def lzsV (l : List Lz) : List Value := l.flatMap lzC
def lz (x : Ln.Ln) : Lz := ⟨ba x.text, (x.at_ : Int), x.cmd⟩
theorem lz_len (x : Lz) : (lzC x).length = 3 := rfl
theorem lnsV_lz (l : List Ln.Ln) : lnsV l = lzsV (l.map lz) := by
  induction l with
  | nil => rfl
  | cons a l ih =>
    show lnC a ++ lnsV l = lzC (lz a) ++ lzsV (l.map lz)
    rw [ih]; rfl
theorem lzsV_snoc (l : List Lz) (x : Lz) : lzsV (l ++ [x]) = lzsV l ++ lzC x := by simp [lzsV]
theorem lz_one (x : Lz) : ∀ u ∈ lzC x, u.oneCell' = true := by
  intro u hu
  simp only [lzC, List.mem_cons, List.not_mem_nil, or_false] at hu
  rcases hu with rfl | rfl | rfl <;> rfl
theorem ba_beq (a b : ByteArray) : (a == b) = decide (a = b) := by
  rw [beq_toListBytes, Bool.eq_iff_iff]
  simp only [beq_iff_eq, decide_eq_true_eq]
  constructor
  · intro h
    rw [Lib.toList_data, Lib.toList_data] at h
    exact bl_inj h
  · intro h; rw [h]
theorem alloc_last (W : World) (o : Obj) : (W.alloc o).heap[W.heap.size]? = some o := by
  show (W.heap.push o)[W.heap.size]? = _
  exact Array.getElem?_push_size
def sameZ (x y : Lz) : Bool := x.text == y.text && (x.at_ == y.at_ && x.cmd == y.cmd)
theorem sameZ_iff (x y : Lz) : sameZ x y = true ↔ x = y := by
  unfold sameZ
  rw [ba_beq]
  simp only [Bool.and_eq_true, beq_iff_eq, decide_eq_true_eq]
  constructor
  · rintro ⟨h1, h2, h3⟩
    cases x; cases y; simp_all
  · rintro rfl; exact ⟨rfl, rfl, rfl⟩
/-- A slice value that reads as a list of lines, its row below block B. -/
def LZ (B : Nat) (W : World) (v : Value) (l : List Lz) : Prop :=
  ∃ a n c, v = .slice a n c ∧ n = l.length ∧ n ≤ c ∧ ∀ i x, l[i]? = some x → ∃ b o, a = some ⟨b, o, none⟩ ∧ b < B ∧ W.cell? ⟨b, o + i * 3, none⟩ = some (.string x.text) ∧ W.cell? ⟨b, o + i * 3 + 1, none⟩ = some (.int .i64 x.at_) ∧ W.cell? ⟨b, o + i * 3 + 2, none⟩ = some (.bool x.cmd)
theorem LZ.below {B : Nat} {W W1 : World} {v : Value} {l : List Lz} (h : LZ B W v l) (hb : Below B W W1) : LZ B W1 v l := by
  obtain ⟨a, n, c, h1, h2, h4, h3⟩ := h
  refine ⟨a, n, c, h1, h2, h4, fun i x hi => ?_⟩
  obtain ⟨b, o, e1, e2, e3, e4, e5⟩ := h3 i x hi
  exact ⟨b, o, e1, e2, by rw [hb.cell (p := ⟨b, _, none⟩) e2]; exact e3, by rw [hb.cell (p := ⟨b, _, none⟩) e2]; exact e4, by rw [hb.cell (p := ⟨b, _, none⟩) e2]; exact e5⟩
theorem LZ.mono {B B' : Nat} {W : World} {v : Value} {l : List Lz} (h : LZ B W v l) (hB : B ≤ B') : LZ B' W v l := by
  obtain ⟨a, n, c, h1, h2, h4, h3⟩ := h
  refine ⟨a, n, c, h1, h2, h4, fun i x hi => ?_⟩
  obtain ⟨b, o, e1, e2, e3⟩ := h3 i x hi
  exact ⟨b, o, e1, by omega, e3⟩
theorem LZ.slice {B : Nat} {W : World} {v : Value} {l : List Lz} (h : LZ B W v l) : ∃ a c, v = .slice a l.length c ∧ l.length ≤ c := by
  obtain ⟨a, n, c, h1, h2, h4, _⟩ := h
  exact ⟨a, c, by rw [h1, h2], by omega⟩
theorem LZ.pick {B : Nat} {W : World} {a : Option Addr} {n c : Nat} {l : List Lz} (h : LZ B W (.slice a n c) l) {k : Nat} {x : Lz} (hx : l[k]? = some x) :
    ∃ b o, a = some ⟨b, o, none⟩ ∧ b < B ∧ W.cell? ⟨b, o + k * 3, none⟩ = some (.string x.text) ∧ W.cell? ⟨b, o + k * 3 + 1, none⟩ = some (.int .i64 x.at_) ∧ W.cell? ⟨b, o + k * 3 + 2, none⟩ = some (.bool x.cmd) := by
  obtain ⟨a', n', c', h1, h2, h4, h3⟩ := h
  simp only [Value.slice.injEq] at h1
  obtain ⟨rfl, rfl, rfl⟩ := h1
  exact h3 k x hx
theorem lz_of_owns {B base : Nat} {W : World} {v : Value} {e : TypeId} {l : List Lz} (h : W.ownsRow base e 3 v l.length (lzsV l)) (hB : W.heap.size ≤ B) : LZ B W v l := by
  rcases row_src h with ⟨h1, h2, _⟩ | ⟨g, cap, hv, hg, hcap, _, hc⟩
  · refine ⟨none, 0, 0, h1, h2.symm, Nat.le_refl _, fun i x hi => ?_⟩
    have := (List.getElem?_eq_some_iff.1 hi).1
    omega
  · refine ⟨some ⟨g, 0, none⟩, l.length, cap, hv, rfl, hcap, fun i x hi => ⟨g, 0, rfl, by omega, ?_, ?_, ?_⟩⟩
    · have := hc (i * 3 + 0) _ (by unfold lzsV; rw [fl_get lzC 3 lz_len l i 0 x hi (by omega)]; rfl)
      rw [add_none] at this; exact this
    · have := hc (i * 3 + 1) _ (by unfold lzsV; rw [fl_get lzC 3 lz_len l i 1 x hi (by omega)]; rfl)
      rw [add_none] at this; rw [Nat.add_assoc]; exact this
    · have := hc (i * 3 + 2) _ (by unfold lzsV; rw [fl_get lzC 3 lz_len l i 2 x hi (by omega)]; rfl)
      rw [add_none] at this; rw [Nat.add_assoc]; exact this

theorem infoR : (Tryd.prog.info? 52).map (fun i => (i.zero, i.size, i.bytes)) = some (some (.agg #[.string ⟨#[]⟩, .int .i64 0, .bool false]), 3, 32) := by kernel_rfl

set_option maxRecDepth 20000 in
set_option maxHeartbeats 800000 in
theorem ours_any (v : Value) (l : List Lz) (w : World) (hl : l.length ≤ 4000000) (hW : LZ w.heap.size w v l) :
    Calls Tryd.prog 16 #[v] w fun e w' => ∃ v', e = .returned v' ∧ w'.ownsRow w.heap.size 52 3 v' l.length (lzsV l) ∧ Below w.heap.size w w' := by
  obtain ⟨i0, hi, hz0, hz1, hz2⟩ := info_parts infoR
  obtain ⟨a, c, rfl, hc⟩ := hW.slice
  obtain ⟨n, hn⟩ : ∃ n, n = l.length := ⟨_, rfl⟩
  rw [← hn] at hl hc hW
  have HW : Hid (n = l.length ∧ LZ w.heap.size w (.slice a n c) l) := ⟨hn, hW⟩
  rw [← hn]
  clear hn hW
  go_enter Tryd.func16, Tryd.ntmps16
  go_wp2
  go_loopw [3, 8] (fun v vi wr => ∃ k : Nat, k ≤ n ∧ vi = .int .i64 (k : Int) ∧ wr.ownsRow w.heap.size 52 3 v k (lzsV (l.take k)) ∧ Below w.heap.size w wr) (fun _ vi _ => n - (intOf vi).toNat)
  case atStart => exact ⟨0, Nat.zero_le _, rfl, owns_nil _ _ _ _, Below.refl _ _⟩
  case round =>
    obtain ⟨k, hk, rfl, hown, hb⟩ := hrel
    have hbs := hb.size
    by_cases hlt : k < n
    · have hil : (k : Int) < (n : Int) := by omega
      have hkl : k < l.length := by rw [← HW.out.1]; exact hlt
      obtain ⟨x, hx⟩ : ∃ x, l[k]? = some x := ⟨l[k], List.getElem?_eq_getElem hkl⟩
      obtain ⟨b, o, rfl, hbB, d0, d1, d2⟩ := HW.out.2.pick hx
      have c0 : wr.cell? ⟨b, o + k * 3, none⟩ = some (.string x.text) := by rw [hb.cell (p := ⟨b, _, none⟩) hbB]; exact d0
      have c1 : wr.cell? ⟨b, o + k * 3 + 1, none⟩ = some (.int .i64 x.at_) := by rw [hb.cell (p := ⟨b, _, none⟩) hbB]; exact d1
      have c2 : wr.cell? ⟨b, o + k * 3 + 2, none⟩ = some (.bool x.cmd) := by rw [hb.cell (p := ⟨b, _, none⟩) hbB]; exact d2
      have HT : Hid (l.take (k + 1) = l.take k ++ [x]) := by
        unfold Hid
        rw [List.take_succ_eq_append_getElem hkl]
        rw [List.getElem?_eq_getElem hkl] at hx
        simp at hx; rw [hx]
      obtain ⟨xt, xa, xc⟩ := x
      simp only at c0 c1 c2
      have HZ : Hid (lzC ⟨xt, xa, xc⟩ = [.string xt, .int .i64 xa, .bool xc]) := rfl
      obtain ⟨wa, hwa⟩ : ∃ wa, wa = wr.alloc (.cells #[.string xt, .int .i64 xa, .bool xc] 30) := ⟨_, rfl⟩
      clear d0 d1 d2 hx
      go_wp2_with (at_builtin; refine wpList_append_own _ rfl _ _ 38 rfl w.heap.size 52 i0 (.agg #[.string ⟨#[]⟩, .int .i64 0, .bool false]) 3 32 Tryd.underlying38 hi hz0 hz1 hz2 rfl (by decide) _ _ _ rfl ((hown.alloc _).alloc _) ⟨wr.heap.size + 1, 0, none⟩ 1 1 [.string xt, .int .i64 xa, .bool xc] rfl rfl ?c1 ?c2 ?c3 ?c4 ?c5 ?_)
      case c1 =>
        intro j u hj
        rw [add_none, Nat.zero_add]
        refine cell_in (cs := #[.string xt, .int .i64 xa, .bool xc]) (T := 52) ?_ j (by simpa using hj)
        have hsz : (wr.alloc (.cells #[.string xt, .int .i64 xa, .bool xc] 30)).heap.size = wr.heap.size + 1 := by simp
        rw [← hsz]
        exact alloc_last _ _
      case c2 => exact fun u hu => lz_one ⟨xt, xa, xc⟩ u hu
      case c3 => unfold maxLen; omega
      case c4 => omega
      case c5 => simp; omega
      intro v' w2 hown' hgrow _
      have hb3 : Below w.heap.size w w2 := ((hb.alloc hbs _).alloc (by simp; omega) _).grown hgrow (by simp; omega) (fun k hk => (hown.lt k hk).1)
      have hown2 : w2.ownsRow w.heap.size 52 3 v' (k + 1) (lzsV (l.take (k + 1))) := by
        rw [HT.out, lzsV_snoc, HZ.out]; exact hown'
      clear hown' hgrow hown hb hwa c0 c1 c2
      go_wp2
      go_roundw
      case rel => exact ⟨k + 1, by omega, by go_num, hown2, hb3⟩
      case measure => simp [intOf]; omega
    · obtain rfl : k = n := by omega
      have HO : Hid (wr.ownsRow w.heap.size 52 3 u3 k (lzsV l)) := by
        have h := hown
        rw [HW.out.1, List.take_length] at h
        rw [HW.out.1]; exact h
      clear hown
      go_wp2
      go_ret
      exact ⟨_, rfl, HO, hb⟩
end Go.Proofs.YtefhpoklehmlhaaDoor
