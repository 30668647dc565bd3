import Derived.Test.YtbciedpjaajhcaaDoorCards
import Derived.Test.YtbciedpjaajhcaaDoorTie
import Derived.WalkKit
import Derived.ProofKit
import Derived.OpenShut
import Derived.Deep.DeepHandedRow
import Derived.Deep.DeepLaidRun
import Derived.Lib.LaidTab
import Derived.SizedLaws
import Derived.Shelf.Vars
import Derived.Test.YtbciedpjaajhcaaDoorBA
import Derived.Deep.Slices
import Derived.Lib.SmallJoins
import Derived.Test.YtbciedpjaajhcaaDoorBBR
import Derived.Test.YtbciedpjaajhcaaDoorBL
import Derived.Test.YtbciedpjaajhcaaDoorFS
import Derived.Test.YtbciedpjaajhcaaDoorFA
/-
  A world that bears the library's two tables as the program's text lays them: the start that each card of this seat shows to be there; and what every start of this seat's statements gives.
-/
namespace Go.Proofs.YtbciedpjaajhcaaDoor
open Go.ChangeShapes Go.WideShapes Go.ChangeAt Go.RowKit

theorem own : ownKnob Tryd.prog.godebug = none := by kernel_rfl
theorem laidOut : laidOutB Tryd.prog = true := by kernel_rfl

def lv : DataW Unit → Value
  | .lit (.int k n) => .int k n
  | _ => .int .u8 0
def flat1 : DataW Unit → List Value
  | .agg ps => ps.map lv
  | _ => []
def flat2 : DataW Unit → List Value
  | .agg ps => ps.flatMap flat1
  | _ => []
/-- The two tables laid into a world. -/
def withTables (w : World) : World :=
  { w with heap := (w.heap.modify 1 fun
      | .cells _ t frozen => .cells (flat1 Go.Pinned.utf8First).toArray t frozen
      | o => o).modify 2 fun
      | .cells _ t frozen => .cells (flat2 Rows.laid_unicode_utf8_acceptRanges).toArray t frozen
      | o => o }

/-- The list that every row of this seat bears. -/
theorem laid_met (os : Os) (args : Array Value) : laidMet Tryd.prog [("unicode/utf8.acceptRanges", Rows.laid_unicode_utf8_acceptRanges), ("unicode/utf8.first", Rows.laid_unicode_utf8_first)] ((withTables (World.holding Tryd.prog os ⟨#[], #[], []⟩)).forCall (fun _ _ => 0) ⟨#[], args, []⟩).memory :=
  laidMet_of_run3 8 (by kernel_rfl) (by kernel_rfl) (by kernel_rfl)

/-- MaxLen's cell holds a number, whatever the start. -/
theorem mx_of {W : World} (h : W.ShapedOpen Tryd.prog) : Mx W :=
  cell_of_shapedOpen_int (t := 3) (zero := #[.int .i64 0]) (k := .i64) h (by decide +kernel) (by kernel_rfl) rfl (by kernel_rfl) (by kernel_rfl) Tryd.underlying3
end Go.Proofs.YtbciedpjaajhcaaDoor

/-
  A number as a parameter.
-/
namespace Go.Proofs.YtbciedpjaajhcaaDoor
open Go.ChangeShapes Go.WideShapes Go.ChangeAt Go.RowKit
theorem int_rangeI {n : Int} (h : (Lit.int .i64 n).wf = true) : -9223372036854775808 ≤ n ∧ n ≤ 9223372036854775807 := by
  have h1 : IntKind.i64.min = -9223372036854775808 := by decide
  have h2 : IntKind.i64.max = 9223372036854775807 := by decide
  simp [Lit.wf] at h
  omega
end Go.Proofs.YtbciedpjaajhcaaDoor

/-
  A list of lines as a parameter.
-/
namespace Go.Proofs.YtbciedpjaajhcaaDoor
open Go.ChangeShapes Go.WideShapes Go.ChangeAt Go.RowKit
open Go.WideMaps Go.WideElems

theorem cells9 : Tryd.prog.cellsOf 9 = 1 := by kernel_rfl
theorem cells4 : Tryd.prog.cellsOf 4 = 1 := by kernel_rfl
theorem cell_here {W : World} {a : Addr} {v : Value} (h : W.cell? a = some v) : a.block < W.heap.size ∧ a.spot = none := by
  unfold World.cell? at h
  cases hb : W.heap[a.block]? with
  | none => rw [hb] at h; simp at h
  | some o =>
    refine ⟨(Array.getElem?_eq_some_iff.1 hb).1, ?_⟩
    rw [hb] at h
    cases o <;> simp at h
    exact h.1
theorem cellsL : Tryd.prog.cellsOf 38 = 3 := by kernel_rfl
theorem cellsF3 : Tryd.prog.cellsOf 3 = 1 := by kernel_rfl
def Lz.dat {H : Type} (x : Lz) : DataW H := .agg [.lit (.string x.text.data.toList), .lit (.int .i64 x.at_), .lit (.bool x.cmd)]
theorem three {α : Type} {l : List α} (h : l.length = 3) : ∃ a b c, l = [a, b, c] := by
  match l, h with
  | [a, b, c], _ => exact ⟨a, b, c, rfl⟩
set_option maxRecDepth 20000 in
theorem line_of {H : Type} {enc : TypeId × Value → H} {W : World} {base : Nat} {sp : Nat → Bool} {held : Bool} {n : Nat} {cs : List Value} {x : DataW H × List MemPlace} (h : DataW.trod enc Tryd.prog W base sp held n 38 cs = some x) :
    ∃ a : Lz, cs = lzC a ∧ x.1 = a.dat ∧ a.text.size ≤ 9223372036854775807 := by
  obtain ⟨xs, m, _, rfl, hl, hlen, hf⟩ := DataW.trod_struct Tryd.underlying38 h
  rw [cellsL] at hl
  obtain ⟨c0, c1, c2, rfl⟩ := three hl
  have e0 : DataW.trod enc Tryd.prog W base sp held m 9 (([c0, c1, c2].drop 0).take (Tryd.prog.cellsOf 9)) = xs[0]? := hf 0 _ rfl
  rw [cells9] at e0
  have e1 : DataW.trod enc Tryd.prog W base sp held m 3 (([c0, c1, c2].drop 1).take (Tryd.prog.cellsOf 3)) = xs[1]? := hf 1 _ rfl
  rw [cellsF3] at e1
  have e2 : DataW.trod enc Tryd.prog W base sp held m 4 (([c0, c1, c2].drop 2).take (Tryd.prog.cellsOf 4)) = xs[2]? := hf 2 _ rfl
  rw [cells4] at e2
  simp only [List.drop_zero, List.drop_succ_cons, List.take_succ_cons, List.take_zero] at e0 e1 e2
  have hx : ∀ i, i < 3 → ∃ y, xs[i]? = some y := fun i hi => ⟨_, List.getElem?_eq_getElem (by rw [hlen]; exact hi)⟩
  obtain ⟨y0, h0⟩ := hx 0 (by omega)
  obtain ⟨y1, h1⟩ := hx 1 (by omega)
  obtain ⟨y2, h2⟩ := hx 2 (by omega)
  have hml : maxLen = 9223372036854775807 := by decide
  obtain ⟨t, t1, rfl, t4⟩ := DataW.trod_string Tryd.underlying9 (e0.trans h0)
  obtain ⟨n', n1, rfl, n2⟩ := DataW.trod_int Tryd.underlying3 (e1.trans h1)
  obtain ⟨b, b1, b2⟩ := DataW.trod_bool Tryd.underlying4 (e2.trans h2)
  subst b2
  have hxs : xs = [(.lit (.string t.data.toList), []), (.lit (.int .i64 n'), []), (.lit (.bool b), [])] := by
    obtain ⟨a0, a1, a2, rfl⟩ := three (show xs.length = 3 from hlen)
    simp at h0 h1 h2
    rw [h0, h1, h2]
  refine ⟨⟨t, n', b⟩, ?_, ?_, by rw [← hml]; exact t4⟩
  · simp only [List.cons.injEq, and_true] at t1 n1 b1
    rw [t1, n1, b1]; rfl
  · rw [hxs]; rfl
set_option maxRecDepth 20000 in
theorem lines_of {H : Type} {enc : TypeId × Value → H} {W : World} {base : Nat} {v : Value} {d : DataW H} {ps : List MemPlace} (hval : Value.okWide Tryd.prog W .any base 22 v) (h : DataW.Trod enc Tryd.prog W 0 (fun _ => true) true 22 v d ps) :
    ∃ l : List Lz, LZ W.heap.size W v l ∧ l.length ≤ 9223372036854775807 ∧ ∀ x ∈ l, x.text.size ≤ 9223372036854775807 := by
  have hml : maxLen = 9223372036854775807 := by decide
  obtain ⟨a0, len, cap, rfl⟩ := WideShapes.okWide_slice Tryd.underlying22 hval
  obtain ⟨fuel, hf⟩ := h
  rcases Go.Deep.open_slice Tryd.underlying22 hf with ⟨hcs, _⟩ | ⟨a, len', cap', m, n, D, Pl, hcs, _, hl, hcm, hm, hx, hcell⟩
  · have e1 : Value.slice a0 len cap = .slice none 0 0 := by simpa [Value.cells] using hcs
    simp only [Value.slice.injEq] at e1
    obtain ⟨rfl, rfl, rfl⟩ := e1
    exact ⟨[], ⟨none, 0, 0, rfl, rfl, Nat.le_refl _, fun i x hi => by simp at hi⟩, by simp, by simp⟩
  · have e1 : Value.slice a0 len cap = .slice (some a) len' cap' := by simpa [Value.cells] using hcs
    simp only [Value.slice.injEq] at e1
    obtain ⟨rfl, rfl, rfl⟩ := e1
    simp only [if_true] at hm
    subst hm
    rw [cellsL] at hcell
    have key : ∀ i, i < m → ∃ x : Lz, x.text.size ≤ 9223372036854775807 ∧ W.cells? 0 (a.add (i * 3)) 3 = some (lzC x) := fun i hi => by
      obtain ⟨cs', h1, h2⟩ := hcell i hi
      obtain ⟨x, rfl, hx1, hx2⟩ := line_of h2
      exact ⟨x, hx2, h1⟩
    have inh : Inhabited Lz := ⟨⟨⟨#[]⟩, 0, false⟩⟩
    obtain ⟨V, hV⟩ := Go.Deep.choose_lt (α := Lz) (p := fun i x => x.text.size ≤ 9223372036854775807 ∧ W.cells? 0 (a.add (i * 3)) 3 = some (lzC x)) key
    refine ⟨(List.range len).map V, ⟨some a, len, m, rfl, by simp, hl, fun i x hi => ?_⟩, ?_, ?_⟩
    · have hi' : i < len := by have := (List.getElem?_eq_some_iff.1 hi).1; simpa using this
      have hxv : x = V i := by
        rw [List.getElem?_map, List.getElem?_range hi'] at hi
        exact (Option.some.inj hi).symm
      obtain ⟨_, hc⟩ := hV i (by omega)
      obtain ⟨_, _, hcc⟩ := World.cells?_some hc
      obtain ⟨_, hc0⟩ := hV 0 (by omega)
      obtain ⟨_, _, hcc0⟩ := World.cells?_some hc0
      have hfirst : W.cell? (a.add 0) = some (.string (V 0).text) := by
        have := hcc0 0 (by omega)
        rw [Nat.zero_mul] at this
        exact this
      obtain ⟨b, o, sp⟩ := a
      have hsp : sp = none := by
        have h0 := (cell_here hfirst).2
        simpa [Addr.add] using h0
      have hbl : b < W.heap.size := by
        have h0 := (cell_here hfirst).1
        simpa [Addr.add] using h0
      subst hsp
      rw [hxv]
      have g0 := hcc 0 (by omega)
      have g1 := hcc 1 (by omega)
      have g2 := hcc 2 (by omega)
      rw [add_none, add_none] at g0 g1 g2
      exact ⟨b, o, rfl, hbl, g0, g1, g2⟩
    · rw [List.length_map, List.length_range]; omega
    · intro x hx
      obtain ⟨i, hi, rfl⟩ := List.mem_map.1 hx
      exact (hV i (by have := List.mem_range.1 hi; omega)).1
end Go.Proofs.YtbciedpjaajhcaaDoor

/-
  The law's blocks of any blocks; what Build tells of faults.
-/
namespace Go.Proofs.YtbciedpjaajhcaaDoor
open Go.RowKit Go.Shelf
open Ex (Fr)

theorem blocksH_step (r : Nat) (ih : BlocksH r) : BlocksH (r + 1) := by
  intro H v ts W left hH hk hl hr hl2
  obtain ⟨css, h1, h2⟩ := hk
  have hlen := h2.length
  rcases h1 with ⟨rfl, rfl⟩ | ⟨g, c, rfl, hc, hg, hgH, hcells⟩
  · have : ts = [] := List.length_eq_zero_iff.1 hlen.symm
    subst this
    exact (blocks_nil W left hl2).mono fun e w' h => ⟨none, 0, 0, h.1, ⟨[], .inl ⟨rfl, rfl⟩, .nil⟩, fun _ => rfl, by rw [← h.2]; exact Below.refl _ _⟩
  · have := loadN_length ts
    exact blocks_row r ih H g css.length c css ts W left hr hl2 hH hlen hg hgH hcells h2 hl hc (by omega)
/-- The law's blocks answers the same blocks. -/
theorem blocks_all : ∀ r, BlocksH r
  | 0 => blocksH_zero
  | r + 1 => blocksH_step r (blocks_all r)

set_option maxRecDepth 20000 in
theorem eqFault (x y c d : Int) (w : World) : Sem.run Tryd.prog (Op.equalIn 10000 28 (.agg #[.int .i64 x, .int .i64 y]) (.agg #[.int .i64 c, .int .i64 d])) w = .ok (x == c && y == d) w := by
  rw [run_equalIn_agg w 9999 28 _ _ (by kernel_rfl) (by kernel_rfl)]
  simp only [Program.fieldsOf, Tryd.underlying28]
  have p0 : ∀ (x y : Int) (w : World), (part 26 #[.int .i64 x, .int .i64 y] 0).run Tryd.prog w = .ok (.int .i64 x) w := fun x y w => by kernel_rfl
  have p1 : ∀ (x y : Int) (w : World), (part 3 #[.int .i64 x, .int .i64 y] 1).run Tryd.prog w = .ok (.int .i64 y) w := fun x y w => by kernel_rfl
  have q0 := run_equalIn_int (P := Tryd.prog) w 9998 26 .i64 .i64 x c Tryd.underlying26
  have q1 := run_equalIn_int (P := Tryd.prog) w 9998 3 .i64 .i64 y d Tryd.underlying3
  generalize (x == c) = u at q0 ⊢
  generalize (y == d) = v at q1 ⊢
  simp only [Op.eqFields, Sem.run_bind, Sem.run_ite, p0, p1, Result.andThen_ok, q0, q1]
  cases u <;> cases v <;> simp
theorem neqFault (x y c d : Int) (w : World) : Sem.run Tryd.prog (binOp .neq 28 (.agg #[.int .i64 x, .int .i64 y]) (.agg #[.int .i64 c, .int .i64 d])) w = .ok (.bool (!(x == c && y == d))) w := by
  rw [run_neq_struct, eqFault]; rfl
theorem step_bad {s : Sx} {x : Lz} {e : Int} (h : s.step x = .bad e) : e = 5 ∨ e = 3 := by
  unfold Sx.step at h
  split at h
  · split at h
    · cases h; exact .inl rfl
    · cases h
  · split at h
    · cases h; exact .inr rfl
    · split at h
      · cases h; exact .inl rfl
      · cases h
  · split at h
    · split at h
      · cases h; exact .inr rfl
      · cases h
    · cases h; exact .inr rfl
  · split at h
    · split at h
      · cases h; exact .inr rfl
      · cases h
    · cases h; exact .inr rfl
  · split at h
    · split at h
      · cases h; exact .inr rfl
      · cases h
    · cases h; exact .inr rfl
  · cases h
theorem run_bad0 : ∀ (l : List Lz) (s : Sx) {e a : Int}, s.run l = .bad e a → (e == 0) = false
  | [], s, e, a, h => by
    unfold Sx.run at h
    split at h
    · cases h; rfl
    · cases h
  | x :: l, s, e, a, h => by
    unfold Sx.run at h
    split at h
    · rename_i h'
      cases h
      rcases step_bad h' with rfl | rfl <;> rfl
    · exact run_bad0 l _ h
theorem ne_txt {x : ByteArray} {l : List UInt8} (h : ¬ x = ⟨l.toArray⟩) : ¬ x.toList = l ∧ (x.toList == l) = false := by
  have h1 : ¬ x.toList = l := by rw [Lib.toList_data]; exact fun e => h (by rw [← e])
  exact ⟨h1, by simpa using h1⟩
theorem filter_take {l : List Lz} {k : Nat} {x : Lz} (h : l[k]? = some x) : (l.take (k + 1)).filter isPl = (l.take k).filter isPl ++ (if isPl x = true then [x] else []) := by
  rw [List.take_add_one, h, List.filter_append]
  cases hp : isPl x <;> simp [hp]
end Go.Proofs.YtbciedpjaajhcaaDoor

/-
  LoopBack at every list of lines.
-/
namespace Go.Proofs.YtbciedpjaajhcaaDoor
open Go.RowKit Go.Shelf
open Ex (Fr)

theorem eqlF00 (w : World) : Sem.run Tryd.prog (binOp .eql 28 (.agg #[.int .i64 0, .int .i64 0]) (.agg #[.int .i64 0, .int .i64 0])) w = .ok (.bool true) w := by kernel_rfl
mutual
theorem rebLoadT : ∀ t : Nd, (rebT t).load = t.load
  | .pl _ => by unfold rebT; rfl
  | .cn l bs => by unfold rebT; unfold Nd.load; rw [rebBs_load bs]
  | .fr _ _ _ ks => by unfold rebT; unfold Nd.load; rw [rebNs_load ks]
theorem rebNs_load : ∀ ts : List Nd, loadN (rebNs ts) = loadN ts
  | [] => by unfold rebNs; rfl
  | n :: ns => by unfold rebNs; unfold loadN; rw [rebLoadT n, rebNs_load ns]
theorem rebBs_load : ∀ bs : List Bk, loadB (rebBs bs) = loadB bs
  | [] => by unfold rebBs; rfl
  | b :: bs => by unfold rebBs; unfold loadB; rw [rebB_load b, rebBs_load bs]
theorem rebB_load : ∀ b : Bk, (rebB b).load = b.load
  | .mk _ _ _ ks => by unfold rebB; unfold Bk.load; rw [rebNs_load ks]
end

set_option maxRecDepth 20000 in
set_option maxHeartbeats 2000000 in
theorem back_law (v : Value) (l : List Lz) (w : World) (hl : l.length ≤ 9223372036854775807) (hs : ∀ x ∈ l, x.text.size ≤ 9223372036854775807) (hW : LZ w.heap.size w v l) (hm : Mx w) :
    Calls Tryd.prog 3 #[v] w fun e w' => e = .returned (.bool true) ∧ Below w.heap.size w w' := by
  have HA : Hid (∀ W, Below w.heap.size w W → Calls Tryd.prog 6 #[] W fun e w' => e = .returned (.bool true) ∧ Below w.heap.size w w') := fun W hW => (alive_any W (hm.below hW hm.pos)).mono fun e w' h => ⟨h.1, hW.trans (h.2.mono hW.size)⟩
  have HFA : Hid (Calls Tryd.prog 5 #[v] w fun e w' => e = .returned (.bool (farZ l)) ∧ Below w.heap.size w w') := far_any v l w hl hs hW
  obtain ⟨va, vc, rfl, hvc⟩ := hW.slice
  cases hfar : farZ l with
  | true =>
    rw [hfar] at HFA
    clear hfar
    go_enter Tryd.func3, Tryd.ntmps3
    go_wp2_with fail
    refine HFA.out.mono ?_
    rintro e w1 ⟨rfl, h1⟩
    have H1 : Hid _ := h1
    clear h1
    go_wp2_with fail
    refine (HA.out _ H1.out).mono ?_
    rintro e w2 ⟨rfl, h2⟩
    have H2 : Hid _ := h2
    clear h2
    go_wp2
    go_ret
    exact ⟨rfl, H2.out⟩
  | false =>
    rw [hfar] at HFA
    obtain ⟨hl4, hs4⟩ := far_no hfar
    obtain ⟨n, hn⟩ : ∃ n, n = l.length := ⟨_, rfl⟩
    rw [← hn] at hl4 hvc HFA hW ⊢
    have HTB : Hid (∀ W, Below w.heap.size w W → Calls Tryd.prog 8 #[.slice va n vc] W fun e w' => ∃ a c, e = .returned (.slice a n c) ∧ LZ w'.heap.size w' (.slice a n c) l ∧ Below w.heap.size w w') := fun W hWb =>
      (theirs_any _ l W (by omega) ((hW.below hWb).mono hWb.size)).mono fun e w' ⟨v', h1, h2, h3⟩ => by
        obtain ⟨a, c, rfl⟩ := V.owns_slice h2
        exact ⟨a, c, by rw [h1, hn], by rw [hn]; exact lz_of_owns h2 (Nat.le_refl _), hWb.trans (h3.mono hWb.size)⟩
    have HV : Hid (n = l.length ∧ LZ w.heap.size w (.slice va n vc) l ∧ (∀ x ∈ l, x.text.size ≤ 2000)) := ⟨hn, hW, hs4⟩
    have hneq := fun y z W => neqFault y z 0 0 W
    clear hfar hs hl hW hm hs4 hn
    go_enter Tryd.func3, Tryd.ntmps3
    go_wp2_with fail
    refine HFA.out.mono ?_
    rintro e w1 ⟨rfl, h1⟩
    have H1 : Hid _ := h1
    clear h1
    go_wp2_with fail
    refine (HTB.out _ H1.out).mono ?_
    rintro e w2 ⟨ta, tc, rfl, h2, h3⟩
    have HBu : Hid (Calls Tryd.prog 7 #[.slice ta n tc] w2 (BuildPost l w2)) := build_any _ l w2 (by have := HV.out.1; omega) (fun x hx => by have := HV.out.2.2 x hx; omega) h2
    have H2 : Hid (Below w.heap.size w w2) := h3
    clear h2 h3
    go_wp2_with fail
    refine HBu.out.mono ?_
    intro e w3 hP
    unfold BuildPost at hP
    cases hbl : buildL l with
    | bad k a =>
      rw [hbl] at hP
      obtain ⟨rfl, h3⟩ := hP
      have hk0 := run_bad0 l _ hbl
      have hne : (!(k == 0 && a == 0)) = true := by rw [hk0]; rfl
      have H3 : Hid (Below w.heap.size w (w3.alloc (.cells #[.int .i64 k, .int .i64 a] 28))) := by
        have hb := H2.out.trans (h3.mono H2.out.size)
        exact hb.alloc hb.size _
      have hneq' := hneq k a
      rw [hne] at hneq'
      clear h3 hbl hneq hk0 hne
      go_wp2_with fail
      refine (HA.out _ H3.out).mono ?_
      rintro e w4 ⟨rfl, h4⟩
      have H4 : Hid _ := h4
      clear h4
      go_wp2
      go_ret
      exact ⟨rfl, H4.out⟩
    | good ts =>
      rw [hbl] at hP
      obtain ⟨vb, rfl, hnd, h3⟩ := hP
      have hld := (build_tells hbl).2
      have hsh := build_short hbl HV.out.2.2
      have hnm := nm_flatNs ts 32 (build_wf hbl) hsh
      have hbk := build_back hbl
      have hfl := flatNs_load ts
      obtain ⟨ba_, bn, bc, rfl⟩ : ∃ a n c, vb = .slice a n c := by
        obtain ⟨css, h, _⟩ := hnd; obtain ⟨a, c, e⟩ := row_slice h; exact ⟨a, _, c, e⟩
      obtain ⟨w4, hw4⟩ : ∃ w4, w4 = w3.alloc (.cells #[.int .i64 0, .int .i64 0] 28) := ⟨_, rfl⟩
      have hb34 : Below w3.heap.size w3 w4 := by rw [hw4]; exact (Below.refl _ _).alloc (Nat.le_refl _) _
      have hn1 := HV.out.1
      have hld4 : loadN ts ≤ 800 := by omega
      have HD : Hid (NdsAt H0 w4 32 (.slice ba_ bn bc) ts ∧ Below w.heap.size w w4) :=
        ⟨NdsAt.keeps hnd (Keeps.of_below hb34), bt2 (H2.out.trans (h3.mono H2.out.size)) hb34⟩
      have HFl : Hid (Calls Tryd.prog 9 #[.slice ba_ bn bc] w4 fun e w' => ∃ a n c, e = .returned (.slice a n c) ∧ LZ w'.heap.size w' (.slice a n c) (flatNs ts) ∧ Below w4.heap.size w4 w') :=
        (flat_any _ ts w4 HD.out.1 (by omega) (sm_flatNs ts hsh)).mono fun e w' ⟨v', p1, p2, p3⟩ => by
          obtain ⟨a, c, rfl⟩ := V.owns_slice p2
          exact ⟨a, _, c, p1, lz_of_owns p2 (Nat.le_refl _), p3⟩
      have HB2 : Hid (∀ (u : Value) (W : World), LZ W.heap.size W u (flatNs ts) → Calls Tryd.prog 7 #[u] W fun e w' => ∃ a n c, e = .returned (.tuple #[.slice a n c, .agg #[.int .i64 0, .int .i64 0]]) ∧ NdsAt H0 w' 32 (.slice a n c) (rebNs ts) ∧ Below W.heap.size W w') := fun u W hu =>
        (build_any u (flatNs ts) W (by omega) (fun x hx => by have := hsh x hx; omega) hu).mono fun e w' hP => by
          unfold BuildPost at hP
          rw [hbk] at hP
          obtain ⟨v', p1, p2, p3⟩ := hP
          obtain ⟨a, n, c, rfl⟩ : ∃ a n c, v' = .slice a n c := by
            obtain ⟨css, h, _⟩ := p2; obtain ⟨a, c, e⟩ := row_slice h; exact ⟨a, _, c, e⟩
          exact ⟨a, n, c, p1, p2, p3⟩
      have HBk : Hid (∀ (u : Value) (us : List Nd) (W : World), Kd W u us 33 → loadN us ≤ 800 → Calls Tryd.prog 11 #[u, .int .i64 40] W fun e w' => ∃ a n c, e = .returned (.slice a n c) ∧ Kd w' (.slice a n c) us 33 ∧ Below W.heap.size W w') := fun u us W hu hn =>
        (blocks_all 33 H0 u us W 40 (fun g h => h.elim) hu (by omega) (by omega) (by omega)).mono fun e w' ⟨a, n, c, p1, p2, _, p3⟩ => ⟨a, n, c, p1, p2, p3⟩
      have HSm : Hid (∀ (u1 u2 : Value) (W : World), Kd W u1 ts 33 → Kd W u2 (rebNs ts) 33 → Calls Tryd.prog 10 #[u1, u2, .bool false] W fun e w' => e = .returned (.bool true) ∧ Below W.heap.size W w') := fun u1 u2 W p1 p2 => same_all 33 u1 u2 ts W p1 p2 (by omega) hnm
      have HLd : Hid (loadN ts ≤ 800 ∧ loadN (rebNs ts) ≤ 800) := ⟨hld4, by rw [rebNs_load]; exact hld4⟩
      have heql := eqlF00
      have hneq' := hneq 0 0
      have hne0 : (!((0 : Int) == 0 && (0 : Int) == 0)) = false := rfl
      rw [hne0] at hneq'
      clear hnd h3 hld hsh hnm hbk hfl hbl hb34 hneq hne0 hn1 hld4
      go_wp2_with fail
      rw [← hw4]
      clear hw4
      refine HFl.out.mono ?_
      rintro e w5 ⟨a5, n5, c5, rfl, hz5, hb5⟩
      have H5 : Hid (LZ w5.heap.size w5 (.slice a5 n5 c5) (flatNs ts) ∧ Below w4.heap.size w4 w5) := ⟨hz5, hb5⟩
      clear hz5 hb5
      go_wp2_with fail
      refine (HB2.out _ _ H5.out.1).mono ?_
      rintro e w6 ⟨a6, n6, c6, rfl, hk6, hb6⟩
      obtain ⟨w7, hw7⟩ : ∃ w7, w7 = w6.alloc (.cells #[.int .i64 0, .int .i64 0] 28) := ⟨_, rfl⟩
      have hb67 : Below w6.heap.size w6 w7 := by rw [hw7]; exact (Below.refl _ _).alloc (Nat.le_refl _) _
      have H7 : Hid (Kd w7 (.slice a6 n6 c6) (rebNs ts) 33 ∧ Kd w7 (.slice ba_ bn bc) ts 33 ∧ Below w.heap.size w w7) := by
        have h47 : Below w4.heap.size w4 w7 := bt2 (bt2 H5.out.2 hb6) hb67
        exact ⟨NdsAt.keeps hk6 (Keeps.of_below hb67), NdsAt.keeps HD.out.1 (Keeps.of_below h47), bt2 HD.out.2 h47⟩
      clear hk6 hb6 hb67
      go_wp2_with fail
      rw [← hw7]
      clear hw7
      refine (HBk.out _ ts _ H7.out.2.1 HLd.out.1).mono ?_
      rintro e w8 ⟨a8, n8, c8, rfl, hk8, hb8⟩
      have H8 : Hid (Kd w8 (.slice a8 n8 c8) ts 33 ∧ Kd w8 (.slice a6 n6 c6) (rebNs ts) 33 ∧ Below w.heap.size w w8) := ⟨hk8, H7.out.1.keeps hb8, bt2 H7.out.2.2 hb8⟩
      clear hk8 hb8
      go_wp2_with fail
      refine (HBk.out _ (rebNs ts) _ H8.out.2.1 HLd.out.2).mono ?_
      rintro e w9 ⟨a9, n9, c9, rfl, hk9, hb9⟩
      have H9 : Hid (Kd w9 (.slice a8 n8 c8) ts 33 ∧ Kd w9 (.slice a9 n9 c9) (rebNs ts) 33 ∧ Below w.heap.size w w9) := ⟨H8.out.1.keeps hb9, hk9, bt2 H8.out.2.2 hb9⟩
      clear hk9 hb9
      go_wp2_with fail
      refine (HSm.out _ _ _ H9.out.1 H9.out.2.1).mono ?_
      rintro e w10 ⟨rfl, hb10⟩
      have H10 : Hid (Below w.heap.size w w10) := bt2 H9.out.2.2 hb10
      clear hb10
      go_wp2_with fail
      refine (HA.out _ H10.out).mono ?_
      rintro e w11 ⟨rfl, h11⟩
      have H11 : Hid _ := h11
      clear h11
      go_wp2
      go_ret
      exact ⟨rfl, H11.out⟩
end Go.Proofs.YtbciedpjaajhcaaDoor

/-
  LoopBack holds at every list of lines. Its conditions: the library's two tables hold what the program's text lays (the card ties them); of the pruned copy of the project.
-/
namespace Go.Proofs.YtbciedpjaajhcaaDoor.LoopBackC
open Go.ChangeShapes Go.WideShapes Go.ChangeAt Go.RowKit
open Go.WideMaps Go.WideElems
open Go.ChangeMaps (open_string shut_string)

set_option maxRecDepth 100000 in
theorem contract (H : Type) (enc : TypeId × Value → H) (W : World) (base : Nat) (args : Array Value) (ds gs : List (DataW H)) (before : List MemPlace)
    (hval : ∀ (j : Nat) t v, Tryd.f3.params[j]? = some t → args[j]? = some v → Value.okWide Tryd.prog W .any base t v)
    (hW : DataW.Whole enc Tryd.prog Tryd.f3.params.toList Rows.loopBackSpec.vars false W args.toList ds gs before)
    (hsz : (DataW.weightsEach Tryd.prog (Tryd.f3.params.toList ++ Rows.loopBackSpec.plain.varTypes Tryd.prog) (ds ++ gs)).all (· ≤ reachBytes) = true) (hM : Mx W) :
    Calls Tryd.prog 3 args W fun e W' => ∃ v, e = .returned v ∧ Rows.loopBackSpec.post enc Tryd.prog Tryd.f3 false true false false W args v W' := by
  have hW' := hW
  obtain ⟨p, q, hA0, hV, rfl, hfz, hnd⟩ := hW
  have hA : DataW.TrodAll enc Tryd.prog W 0 (fun _ => true) true Tryd.f3.params.toList args.toList ds p := hA0
  rw [Tryd.params3] at hA hval
  obtain ⟨v0, d0, rfl, rfl, h0⟩ := trodAll_one hA
  obtain ⟨rfl, rfl⟩ := trodVars_none hV
  have hlt0 : ∀ x ∈ p, x.block < W.heap.size := fun x hx => hW'.lt x (by simp [hx])
  obtain ⟨l0, wl0, ll0, ls0⟩ := lines_of (hval 0 22 v0 rfl rfl) h0
  clear hA0
  refine (back_law v0 l0 W ll0 ls0 wl0 hM).mono fun e W' ⟨he, hb⟩ => ?_
  subst he
  exact ⟨_, rfl, _, _, _, [], p, [], hW', trodAll_mk1 (shut_bool Tryd.underlying4 true), trodAll_mk1 (Below.trod laidOut (by kernel_rfl) (of_decide_eq_true (by kernel_rfl)) h0 hb hlt0), rfl, hb.frame _, fun h => by cases h⟩

theorem reads (os : Os) {H : Type} (enc : TypeId × Value → H) : ∃ places, DataW.whole enc Tryd.prog ((withTables (World.holding Tryd.prog os ⟨#[], #[], []⟩)).forCall (fun _ _ => 0) ⟨#[], #[.slice none 0 0], []⟩).memory Tryd.f3.params.toList Rows.loopBackSpec.vars false #[Value.slice none 0 0].toList 8 = some ([.nil], [], places) :=
  ⟨[], by kernel_rfl⟩

set_option maxRecDepth 100000 in
theorem lifted (os : Os) (started : os.Started) (H : Type) (enc : TypeId × Value → H) (F : Stop.Interp) :
    ReturnsInHanded {} Tryd.checked os 3 .any ((OpenSpec.ofChange Rows.loopBackSpec).preRow enc Tryd.prog Tryd.f3 Rows.loopBackRow.domain false Rows.loopBackRow.laid) (((OpenSpec.ofChange Rows.loopBackSpec).at F).post enc Tryd.prog Tryd.f3 false true false false) := by
  obtain ⟨places, hx⟩ := reads os enc
  refine returnsInHanded_of_row (C := Tryd.checked) (s := OpenSpec.ofChange Rows.loopBackSpec) own started (by kernel_rfl) Tryd.func3
    (witness_row_at (enc := enc) (C := Tryd.checked) false (withTables (World.holding Tryd.prog os ⟨#[], #[], []⟩)) #[.slice none 0 0] rfl (by kernel_rfl) (by kernel_rfl) (by kernel_rfl)
      (OpenSpec.preRow_of_cond 8 hx (by kernel_rfl) (fun k hk => by cases hk) (by kernel_rfl) (laid_met os _))) ?_
  intro W base args ds gs before hval hW _ _ hsz hl hsh _
  exact contract H enc W base args ds gs before hval hW hsz (mx_of hsh)

theorem said : Rows.LoopBackSaid :=
  OpenClaim.holds_of_cond 3 Tryd.f3 rfl rfl rfl rfl rfl rfl rfl ⟨rfl, rfl, rfl, rfl, rfl⟩ rfl rfl rfl rfl rfl (by kernel_rfl) Tryd.func3 (by kernel_rfl)
    (of_decide_eq_true (by kernel_rfl)) (by unfold Func.isWrapper; first | (rw [if_pos (by decide +kernel)]; kernel_rfl) | (rw [if_neg (by decide +kernel)]; exact ⟨rfl, rfl⟩))
    (fun os started H enc _ F => by rw [OpenClaim.pre_eq_preRow]; exact lifted os started H enc F)

theorem plain (f : FuncId) (fn : Func) (hf : Tryd.pinned.checked.prog.funcNamed "bobstay/bobstaylaw12.LoopBack" = some f) (hfn : Tryd.pinned.checked.prog.funcs[f]? = some fn) :
    false = Tryd.pinned.checked.prog.looks [] ∧ ∀ (j : Nat) t, fn.params[j]? = some t → Tryd.pinned.checked.prog.wantsStandIn t = false := by
  obtain rfl : f = 3 := Option.some.inj ((show Tryd.prog.funcNamed "bobstay/bobstaylaw12.LoopBack" = some 3 by kernel_rfl).symm.trans hf) |>.symm
  obtain rfl : fn = Tryd.f3 := (Option.some.inj (Tryd.func3.symm.trans hfn)).symm
  refine ⟨by kernel_rfl, fun j t ht => ?_⟩
  rw [Tryd.params3] at ht
  obtain rfl : t = 22 := by simpa using Array.mem_of_getElem? ht
  exact (show Tryd.prog.wantsStandIn 22 = false by kernel_rfl)

theorem card : Rows.LoopBackCardSaid :=
  Claim7.holds_tied_plain_at .later [] _ _ _ _ said (fun _ h => by cases h) (by kernel_rfl) (fun _ h => by cases h) loopBack_row_tie rfl ⟨rfl, rfl⟩ (by kernel_rfl) rfl plain (by kernel_rfl)
end Go.Proofs.YtbciedpjaajhcaaDoor.LoopBackC
namespace Go.Proofs.YtbciedpjaajhcaaDoor
theorem loopBack_card : Rows.LoopBackCardSaid := LoopBackC.card
end Go.Proofs.YtbciedpjaajhcaaDoor
