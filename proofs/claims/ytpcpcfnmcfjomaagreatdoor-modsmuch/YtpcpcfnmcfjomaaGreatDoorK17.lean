/-
  M8 M9 M10
-/
import Derived.Test.YtpcpcfnmcfjomaaGreatDoorK09
import Derived.Deep.OwnRows
import Derived.Maps.AppendAt
namespace Go.Proofs.YtpcpcfnmcfjomaaGreatDoor
open Go.RowKit Go.Shelf
theorem owns_slice {base n : Nat} {e : TypeId} {size : Nat} {W : World} {v : Value} {xs : List Value} (h : W.ownsRow base e size v n xs) : ∃ a cap, v = .slice a n cap := by
  rcases h.2 with ⟨rfl, rfl⟩ | ⟨g, cap, cur, rfl, _⟩
  · exact ⟨none, 0, rfl⟩
  · exact ⟨_, _, rfl⟩
theorem owns_base {b b' : Nat} {e : TypeId} {size : Nat} {W : World} {v : Value} {n : Nat} {xs : List Value} (h : W.ownsRow b e size v n xs) (hb : b' ≤ b) : W.ownsRow b' e size v n xs := by
  refine ⟨h.1, ?_⟩
  rcases h.2 with h0 | ⟨g, cap, cur, hv, hg, rest⟩
  · exact .inl h0
  · exact .inr ⟨g, cap, cur, hv, Nat.le_trans hb hg, rest⟩
theorem infoMd : (Tryz.prog.info? 45).map (fun i => (i.zero, i.size, i.bytes)) = some (some (.agg zeroMd), 12, 104) := by kernel_rfl
theorem infoS9 : (Tryz.prog.info? 9).map (fun i => (i.zero, i.size, i.bytes)) = some (some (.string ⟨#[]⟩), 1, 16) := by kernel_rfl
theorem info_of {T : TypeId} {z : Option Value} {n b : Nat} (h : (Tryz.prog.info? T).map (fun i => (i.zero, i.size, i.bytes)) = some (z, n, b)) : ∃ i, Tryz.prog.info? T = some i ∧ i.zero = z ∧ i.size = n ∧ i.bytes = b := by
  obtain ⟨i, hi, e⟩ := Option.map_eq_some_iff.1 h
  simp only [Prod.mk.injEq] at e
  exact ⟨i, hi, e.1, e.2.1, e.2.2⟩
theorem cell_one_new (w : World) (T : TypeId) (x : ByteArray) : ∀ j u, ([.string x] : List Value)[j]? = some u → (w.alloc (.cells #[.string x] T)).cell? ((⟨w.heap.size, 0, none⟩ : Addr).add j) = some u := by
  intro j u hj
  match j, hj with
  | 0, hj => simp at hj; subst hj; simp [Addr.add]
theorem cells_new (w : World) (T : TypeId) (arr : Array Value) (g : Nat) (hg : g = w.heap.size) : ∀ j u, arr.toList[j]? = some u → (w.alloc (.cells arr T)).cell? ((⟨g, 0, none⟩ : Addr).add j) = some u := by
  intro j u hj
  subst hg
  have hadd : (⟨w.heap.size, 0, none⟩ : Addr).add j = ⟨w.heap.size, j, none⟩ := by unfold Addr.add; split <;> simp_all
  rw [hadd]
  simp only [World.cell?, heap_alloc_new]
  simpa using hj
theorem md_one {kind a c : ByteArray} {bg en : Bool} {ex : Option Addr} {al on : Bool} {mks ots frm upto : Int} : ∀ u ∈ (mdV kind a c bg en ex al on mks ots frm upto).toList, u.oneCell' = true := by
  intro u hu
  simp only [List.mem_cons, List.not_mem_nil, or_false] at hu
  rcases hu with rfl | rfl | rfl | rfl | rfl | rfl | rfl | rfl | rfl | rfl | rfl | rfl <;> rfl
def modsV (l : List Md) : List Value := l.flatMap (·.cells.toList)
theorem modsV_app (l : List Md) (m : Md) : modsV (l ++ [m]) = modsV l ++ m.cells.toList := by unfold modsV; simp
def Reads (s : ByteArray) (r : Rd) : Prop := ∀ w, Mx w → Calls Tryz.prog 12 #[.string s] w fun e w' => e = .returned r.val ∧ Below w.heap.size w w'
inductive Chain (s : ByteArray) : Nat → List Md → Prop
  | done {k : Nat} : s.size < k → Chain s k []
  | step {k n : Nat} {m : Md} {ms : List Md} : k ≤ s.size → n ≤ s.size → Reads (s.extract k s.size) (.ok m n) → Chain s (k + n + 1) ms → Chain s k (m :: ms)
theorem Chain.nil {s : ByteArray} {k : Nat} {l : List Md} (h : Chain s k l) (hk : s.size < k) : l = [] := by
  cases h with
  | done => rfl
  | step h1 => omega
theorem Chain.cons {s : ByteArray} {k : Nat} {l : List Md} (h : Chain s k l) (hk : k ≤ s.size) : ∃ n m ms, l = m :: ms ∧ n ≤ s.size ∧ Reads (s.extract k s.size) (.ok m n) ∧ Chain s (k + n + 1) ms := by
  cases h with
  | done => omega
  | step h1 hn h2 h3 => exact ⟨_, _, _, rfl, hn, h2, h3⟩
set_option maxRecDepth 20000 in
set_option maxHeartbeats 1600000 in
theorem parse_ok (s : ByteArray) (l : List Md) (w : World) (hs : s.size ≤ 1000000) (h1 : 1 ≤ s.size) (hc : Chain s 0 l) (hl : l.length ≤ 32) (hmx : Mx w) :
    Calls Tryz.prog 8 #[.string s] w fun e w' => ∃ v, e = .returned (.tuple #[v, .agg #[.int .i64 0, .int .i64 0]]) ∧ w'.ownsRow w.heap.size 45 12 v l.length (modsV l) ∧ Below w.heap.size w w' := by
  have t1 : ¬ s.toList = [] := by rw [Lib.toList_data]; intro e; have := bl_length s; unfold bl at this; rw [e] at this; simp at this; omega
  have t2 : s.toList.isEmpty = false := by cases hh : s.toList with | nil => exact absurd hh t1 | cons => rfl
  have HMx : Hid (∀ W, Below w.heap.size w W → Mx W) := fun W hB => hmx.below hB hmx.pos
  have HCh : Hid (Chain s 0 l) := hc
  clear hc hmx
  obtain ⟨i0, hi, hz0, hz1, hz2⟩ := info_of infoMd
  obtain ⟨N, hN⟩ : ∃ N, N = l.length := ⟨_, rfl⟩
  rw [← hN] at hl ⊢
  have HN : Hid (N = l.length) := hN
  clear hN
  go_enter Tryz.func8, Tryz.ntmps8
  go_wp2
  go_loopw [4, 5] (fun v4 vi wr => ∃ (k c : Nat) (dn rs : List Md), k ≤ 2 * s.size + 1 ∧ vi = .int .i64 k ∧ c + rs.length = N ∧ Hid (c = dn.length ∧ l = dn ++ rs ∧ Chain s k rs) ∧ wr.ownsRow (w.heap.size + 1) 45 12 v4 c (modsV dn) ∧ Below (w.heap.size + 1) (w.alloc (.cells #[.int .i64 0, .int .i64 0] 35)) wr)
    (fun _ vi _ => 2 * s.size + 2 - (intOf vi).toNat)
  case atStart => exact ⟨0, 0, [], l, Nat.zero_le _, rfl, by rw [HN.out]; omega, ⟨rfl, rfl, HCh.out⟩, World.ownsRow_nil _ _ _ _, Below.refl _ _⟩
  case round =>
    obtain ⟨k, c, dn, rs, hk, rfl, hcr, HD, hrow, hb⟩ := hrel
    obtain ⟨a4, cap4, hv4⟩ := owns_slice hrow
    subst hv4
    have hbs : w.heap.size + 1 ≤ wr.heap.size := by have := hb.size; simpa using this
    have HLow : Hid (Below w.heap.size w wr) := ((Below.refl _ w).alloc (Nat.le_refl _) _).trans (hb.mono (by omega))
    by_cases hlt : k ≤ s.size
    · have hil : (k : Int) ≤ (s.size : Int) := by omega
      have h0 : (0 : Int) ≤ (k : Int) := by omega
      obtain ⟨n, m, ms, hrs, hns, hrd, hch⟩ := HD.out.2.2.cons hlt
      have HRd : Hid (Reads (s.extract k s.size) (.ok m n)) := hrd
      have HD2 : Hid (c + 1 = (dn ++ [m]).length ∧ l = (dn ++ [m]) ++ ms ∧ Chain s (k + n + 1) ms ∧ modsV (dn ++ [m]) = modsV dn ++ m.cells.toList) := ⟨by rw [List.length_append, ← HD.out.1]; rfl, by rw [HD.out.2.1, hrs]; simp, hch, modsV_app dn m⟩
      have hcr2 : c + 1 + ms.length = N := by rw [hrs] at hcr; simp at hcr; omega
      clear hrd hch hrs HD hcr
      have hc32 : ((c : Int) == 32) = false := by rw [beq_eq_false_iff_ne]; omega
      have hnb : n ≤ 1000000 := by omega
      have hkb : k ≤ 1000000 := by omega
      obtain ⟨kind, a, b, bg, en, ex, al, on, mks, ots, frm, upto⟩ := m
      go_wp2_with fail
      refine (HRd.out _ (HMx.out _ HLow.out)).mono ?_
      rintro e w1 ⟨rfl, hb1⟩
      dsimp only [Rd.val, Md.cells] at HD2 ⊢
      have hb1' := hb.trans (hb1.mono hbs)
      have hrow1 := owns_below hrow hb1
      have hbs1 := hb1'.size
      rw [World.size_alloc] at hbs1
      clear hb hb1 hrow HLow
      go_wp2_with (at_builtin; refine wpList_append_own _ rfl _ _ 33 rfl (w.heap.size + 1) 45 i0 (.agg zeroMd) 12 104 Tryz.underlying33 hi hz0 hz1 hz2 rfl (by decide) _ _ _ rfl ((hrow1.alloc _).alloc _) ⟨w1.heap.size + 1, 0, none⟩ 1 1 (mdV kind a b bg en ex al on mks ots frm upto).toList rfl rfl (cells_new _ _ _ _ (by simp)) md_one (by unfold maxLen; omega) (by omega) (by simp; omega) ?_)
      intro v' w2 hown' hgrow _
      have hb3 : Below (w.heap.size + 1) (w.alloc (.cells #[.int .i64 0, .int .i64 0] 35)) w2 := ((hb1'.alloc hbs1 _).alloc (by simp; omega) _).grown hgrow (by simp; omega) (fun k hk => (hrow1.lt k hk).1)
      clear hgrow hrow1 hb1'
      obtain ⟨a3, c3, hv3⟩ := owns_slice hown'
      subst hv3
      go_wp2
      go_roundw
      case rel => exact ⟨k + n + 1, c + 1, _, ms, by omega, by go_num, hcr2, ⟨HD2.out.1, HD2.out.2.1, HD2.out.2.2.1⟩, by rw [HD2.out.2.2.2]; exact hown', hb3⟩
      case measure => simp [intOf]; omega
    · have hil : ¬ (k : Int) ≤ (s.size : Int) := by omega
      have hrs := HD.out.2.2.nil (by omega)
      have hce : c = N := by rw [hrs] at hcr; simpa using hcr
      subst hce
      have HE : Hid (wr.ownsRow w.heap.size 45 12 (.slice a4 c cap4) c (modsV l)) := by
        have e : l = dn := by rw [HD.out.2.1, hrs, List.append_nil]
        rw [e]; exact owns_base hrow (by omega)
      clear hrs
      have hblk : wr.heap[w.heap.size]? = some (.cells #[.int .i64 0, .int .i64 0] 35 (0, 0)) := by
        rw [hb.block w.heap.size (by omega)]; exact heap_alloc_new w _
      have y0 : wr.cell? ⟨w.heap.size, 0, none⟩ = some (.int .i64 0) := by simp [World.cell?, hblk]
      have y1 : wr.cell? ⟨w.heap.size, 1, none⟩ = some (.int .i64 0) := by simp [World.cell?, hblk]
      have yf : ∀ i, wr.frozen? ⟨w.heap.size, i, none⟩ = false := fun i => by simp [World.frozen?, hblk]
      have HF : Hid ((wr.setCell ⟨w.heap.size, 0, none⟩ (.int .i64 0)).setCell ⟨w.heap.size, 1, none⟩ (.int .i64 0) |>.heap[w.heap.size]? = some (.cells #[.int .i64 0, .int .i64 0] 35 (0, 0))) := heap_set (heap_set hblk _) _
      have HO : Hid ((wr.setCell ⟨w.heap.size, 0, none⟩ (.int .i64 0)).setCell ⟨w.heap.size, 1, none⟩ (.int .i64 0) |>.ownsRow w.heap.size 45 12 (.slice a4 c cap4) c (modsV l)) := by
        have hne : (Value.slice a4 c cap4).ownBlock ≠ some w.heap.size := fun e => by have := (hrow.lt _ e).1; omega
        exact row_set (row_set HE.out hne _) hne _
      clear hblk hrow
      go_wp2
      obtain ⟨W, hW⟩ : ∃ W, W = (wr.setCell ⟨w.heap.size, 0, none⟩ (.int .i64 0)).setCell ⟨w.heap.size, 1, none⟩ (.int .i64 0) := ⟨_, rfl⟩
      have hWb : Below w.heap.size w W := by
        rw [hW]; exact ((((Below.refl _ w).alloc (Nat.le_refl _) _).trans (hb.mono (by omega))).setCell (Nat.le_refl _) _).setCell (Nat.le_refl _) _
      rw [← hW]
      have hH := HF.out
      have hO := HO.out
      rw [← hW] at hH hO
      have q0 : W.cell? ⟨w.heap.size, 0, none⟩ = some (.int .i64 0) := by simp [World.cell?, hH]
      have q1 : W.cell? ⟨w.heap.size, 1, none⟩ = some (.int .i64 0) := by simp [World.cell?, hH]
      refine bodyPost_ret (v := .tuple #[.slice a4 c cap4, .agg #[.int .i64 0, .int .i64 0]]) (by simp [results, Tryz.results8, go_sem, q0, q1]; try rfl) rfl ⟨_, rfl, hO, hWb⟩
end Go.Proofs.YtpcpcfnmcfjomaaGreatDoor
namespace Go.Proofs.YtpcpcfnmcfjomaaGreatDoor
open Go.RowKit Go.Shelf
def wkV (m : Md) (v : Value) (size : Int) (over done : Bool) : Array Value :=
  #[.string m.kind, .string m.a, .string m.b, .bool m.bg, .bool m.en, .pointer m.ex, .bool m.al, .bool m.on, .int .i64 m.mks, .int .i64 m.ots, .int .i64 m.frm, .int .i64 m.upto, v, .int .i64 size, .bool over, .bool done]
def sizeL (l : List ByteArray) : Nat := (l.map ByteArray.size).sum
theorem sizeL_snoc (l : List ByteArray) (x : ByteArray) : sizeL (l ++ [x]) = sizeL l + x.size := by simp [sizeL]
structure Wk (base b : Nat) (m : Md) (v : Value) (made : List ByteArray) (over done : Bool) (w : World) : Prop where
  blk : w.heap[b]? = some (.cells (wkV m v (sizeL made) over done) 64 (0, 0))
  row : w.ownsRow base 9 1 v made.length (made.map Value.string)
  far : v.ownBlock ≠ some b
  at_ : base ≤ w.heap.size
theorem Wk.cells {base b : Nat} {m : Md} {v : Value} {made : List ByteArray} {over done : Bool} {w : World} (h : Wk base b m v made over done w) :
    (w.cell? ⟨b, 0, none⟩ = some (.string m.kind) ∧ w.cell? ⟨b, 1, none⟩ = some (.string m.a) ∧ w.cell? ⟨b, 2, none⟩ = some (.string m.b) ∧ w.cell? ⟨b, 3, none⟩ = some (.bool m.bg) ∧ w.cell? ⟨b, 4, none⟩ = some (.bool m.en) ∧ w.cell? ⟨b, 6, none⟩ = some (.bool m.al) ∧ w.cell? ⟨b, 7, none⟩ = some (.bool m.on) ∧ w.cell? ⟨b, 8, none⟩ = some (.int .i64 m.mks) ∧ w.cell? ⟨b, 9, none⟩ = some (.int .i64 m.ots)) ∧
    (w.cell? ⟨b, 12, none⟩ = some v ∧ w.cell? ⟨b, 13, none⟩ = some (.int .i64 (sizeL made)) ∧ w.cell? ⟨b, 14, none⟩ = some (.bool over) ∧ w.cell? ⟨b, 15, none⟩ = some (.bool done)) ∧ ∀ i, w.frozen? ⟨b, i, none⟩ = false := by
  refine ⟨?_, ?_, fun i => by simp [World.frozen?, h.blk]⟩
  · simp only [World.cell?, h.blk, wkV]
    exact ⟨rfl, rfl, rfl, rfl, rfl, rfl, rfl, rfl, rfl⟩
  · simp only [World.cell?, h.blk, wkV]
    exact ⟨rfl, rfl, rfl, rfl⟩
theorem Wk.below {base b : Nat} {m : Md} {v : Value} {made : List ByteArray} {over done : Bool} {w w' : World} (h : Wk base b m v made over done w) (hb : Below w.heap.size w w') : Wk base b m v made over done w' := by
  have hlt : b < w.heap.size := (Array.getElem?_eq_some_iff.1 h.blk).1
  exact ⟨(hb.block b hlt).trans h.blk, owns_below h.row hb, h.far, Nat.le_trans h.at_ hb.size⟩
theorem Wk.lt {base b : Nat} {m : Md} {v : Value} {made : List ByteArray} {over done : Bool} {w : World} (h : Wk base b m v made over done w) : b < w.heap.size := (Array.getElem?_eq_some_iff.1 h.blk).1
structure Went (b : Nat) (v : Value) (w w' : World) : Prop where
  os : w'.os = w.os
  tape : w'.tape = w.tape
  output : w'.output = w.output
  size : w.heap.size ≤ w'.heap.size
  block : ∀ j, j < w.heap.size → j ≠ b → v.ownBlock ≠ some j → w'.heap[j]? = w.heap[j]?
theorem Went.of_below {b : Nat} {v : Value} {w w' : World} (h : Below w.heap.size w w') : Went b v w w' := ⟨h.os, h.tape, h.output, h.size, fun j hj _ _ => h.block j hj⟩
theorem Went.set (b i : Nat) (v : Value) (w : World) (x : Value) : Went b v w (w.setCell ⟨b, i, none⟩ x) := ⟨rfl, rfl, rfl, by rw [size_set]; exact Nat.le_refl _, fun _ _ h _ => Below.heap_setCell _ _ _ _ h⟩
theorem Went.trans {b : Nat} {v v1 : Value} {w w1 w2 : World} (h : Went b v w w1) (h2 : Went b v1 w1 w2) (hv : ∀ j, v1.ownBlock = some j → v.ownBlock = some j ∨ w.heap.size ≤ j) : Went b v w w2 :=
  ⟨h2.os.trans h.os, h2.tape.trans h.tape, h2.output.trans h.output, Nat.le_trans h.size h2.size, fun j hj hb hvj => (h2.block j (Nat.lt_of_lt_of_le hj h.size) hb (fun e => by rcases hv j e with h3 | h3; exact hvj h3; omega)).trans (h.block j hj hb hvj)⟩
theorem Went.same {b : Nat} {v : Value} {w w1 w2 : World} (h : Went b v w w1) (h2 : Went b v w1 w2) : Went b v w w2 := h.trans h2 fun _ h => .inl h
theorem Wk.over' {base b : Nat} {m : Md} {v : Value} {made : List ByteArray} {over done : Bool} {w : World} (h : Wk base b m v made over done w) (o : Bool) : Wk base b m v made o done (w.setCell ⟨b, 14, none⟩ (.bool o)) :=
  ⟨heap_set h.blk _, row_set h.row h.far _, h.far, by rw [size_set]; exact h.at_⟩
theorem Wk.done' {base b : Nat} {m : Md} {v : Value} {made : List ByteArray} {over done : Bool} {w : World} (h : Wk base b m v made over done w) (o : Bool) : Wk base b m v made over o (w.setCell ⟨b, 15, none⟩ (.bool o)) :=
  ⟨heap_set h.blk _, row_set h.row h.far _, h.far, by rw [size_set]; exact h.at_⟩
set_option maxRecDepth 20000 in
set_option maxHeartbeats 1600000 in
theorem room_any (base b : Nat) (m : Md) (v : Value) (made : List ByteArray) (over done : Bool) (n : Int) (w : World) (h : Wk base b m v made over done w) (hs : sizeL made ≤ 65536) :
    Calls Tryz.prog 92 #[.pointer (some ⟨b, 0, none⟩), .int .i64 n] w fun e w' => e = .returned (.bool (decide (n + sizeL made ≤ 65536))) ∧ Wk base b m v made (!decide (n + sizeL made ≤ 65536)) done w' ∧ Went b v w w' := by
  have HW : Hid (Wk base b m v made over done w) := h
  obtain ⟨_, ⟨r12, r13, r14, r15⟩, hfz⟩ := h.cells
  clear h
  obtain ⟨z, hz⟩ : ∃ z, z = sizeL made := ⟨_, rfl⟩
  rw [← hz] at r13 hs ⊢
  have HZ : Hid (z = sizeL made) := hz
  clear hz
  by_cases hle : n + (z : Int) ≤ 65536
  · have t1 : decide ((65536 : Int) - (z : Int) < n) = false := by simp; omega
    rw [decide_eq_true hle]
    go_enter Tryz.func92, Tryz.ntmps92
    go_wp2
    go_ret
    exact ⟨rfl, HW.out.over' false, Went.set b 14 v w _⟩
  · have t1 : decide ((65536 : Int) - (z : Int) < n) = true := by simp; omega
    rw [decide_eq_false hle]
    go_enter Tryz.func92, Tryz.ntmps92
    go_wp2
    go_ret
    exact ⟨rfl, HW.out.over' true, Went.set b 14 v w _⟩
set_option maxRecDepth 20000 in
set_option maxHeartbeats 1600000 in
theorem keep_in (base b : Nat) (m : Md) (v : Value) (made : List ByteArray) (over done : Bool) (x : ByteArray) (w : World) (h : Wk base b m v made over done w) (hs : sizeL made ≤ 65536) (hl : made.length ≤ 100000) (hle : x.size + sizeL made ≤ 65536) :
    Calls Tryz.prog 89 #[.pointer (some ⟨b, 0, none⟩), .string x] w fun e w' => e = .returned (.tuple #[]) ∧
      (∃ v', Wk base b m v' (made ++ [x]) false done w' ∧ (∀ j, v'.ownBlock = some j → v.ownBlock = some j ∨ w.heap.size ≤ j)) ∧ Went b v w w' := by
  obtain ⟨i0, hi, hz0, hz1, hz2⟩ := info_of infoS9
  have hx : x.size ≤ 1000000 := by omega
  have HR : Hid (Calls Tryz.prog 92 #[.pointer (some ⟨b, 0, none⟩), .int .i64 x.size] w fun e w' => e = .returned (.bool (decide ((x.size : Int) + sizeL made ≤ 65536))) ∧ Wk base b m v made (!decide ((x.size : Int) + sizeL made ≤ 65536)) done w' ∧ Went b v w w') := room_any base b m v made over done x.size w h hs
  clear h
  rw [decide_eq_true (by omega)] at HR
  obtain ⟨z, hz⟩ : ∃ z, z = sizeL made := ⟨_, rfl⟩
  have HZ : Hid (z = sizeL made) := hz
  rw [← hz] at hle hs
  clear hz
  go_enter Tryz.func89, Tryz.ntmps89
  go_wp2_with fail
  refine HR.out.mono ?_
  rintro e w1 ⟨rfl, hW1, hg1⟩
  have HW1 : Hid (Wk base b m v made false done w1 ∧ Went b v w w1) := ⟨hW1, hg1⟩
  obtain ⟨_, ⟨r12, r13, r14, r15⟩, hfz⟩ := hW1.cells
  rw [← HZ.out] at r13
  have hrow := hW1.row
  have hbs := hW1.at_
  have hblt := hW1.lt
  have hfar := hW1.far
  have hblk := hW1.blk
  obtain ⟨ln, hln⟩ : ∃ ln, ln = made.length := ⟨_, rfl⟩
  have HLn : Hid (ln = made.length) := hln
  rw [← hln] at hrow hl
  clear hln
  obtain ⟨a4, cap4, hv4⟩ := owns_slice hrow
  subst hv4
  clear hW1 hg1
  have HH : Hid (w1.heap[b]? = some (.cells (wkV m (.slice a4 ln cap4) (sizeL made) false done) 64 (0, 0)) ∧ b < w1.heap.size ∧ (Value.slice a4 ln cap4).ownBlock ≠ some b) := ⟨hblk, hblt, hfar⟩
  clear hblk hblt hfar
  go_wp2_with (at_builtin; refine wpList_append_own_at _ rfl _ _ 24 rfl base 9 i0 (.string ⟨#[]⟩) 1 16 Tryz.underlying24 hi hz0 hz1 hz2 rfl (by decide) _ _ _ rfl (hrow.alloc _) ⟨w1.heap.size, 0, none⟩ 1 1 [.string x] rfl rfl (cell_one_new _ _ _) (by intro u hu; simp at hu; subst hu; rfl) (by unfold maxLen; omega) (by omega) (by simp; omega) ?_)
  intro v' w2 hown' hgrow _ hat
  obtain ⟨a5, c5, hv5⟩ := owns_slice hown'
  subst hv5
  obtain ⟨c1, c2, c3⟩ := HH.out
  have hb2 : w2.heap[b]? = some (.cells (wkV m (.slice a4 ln cap4) (sizeL made) false done) 64 (0, 0)) := by
    rw [hgrow.block b (by simp; omega) (fun e => c3 e.symm), heap_alloc_old _ _ c2]; exact c1
  have hw2 : Went b (.slice a4 ln cap4) w w2 := HW1.out.2.same ⟨hgrow.os, hgrow.tape, hgrow.output, by have := hgrow.size; rw [World.size_alloc] at this; omega, fun j hj _ hv => by
    rw [hgrow.block j (by simp; omega) (fun e => hv e.symm), heap_alloc_old _ _ hj]⟩
  have hf2 : (Value.slice a5 (ln + 1) c5).ownBlock ≠ some b := by
    rcases hat with h1 | h1
    · rw [h1]; exact c3
    · rw [h1]; intro e; simp at e; omega
  have hv2 : ∀ j, (Value.slice a5 (ln + 1) c5).ownBlock = some j → (Value.slice a4 ln cap4).ownBlock = some j ∨ w.heap.size ≤ j := fun j hj => by
    rcases hat with h1 | h1
    · exact .inl (h1.symm.trans hj)
    · rw [h1] at hj; simp at hj; have := HW1.out.2.size; exact .inr (by omega)
  have hsz2 : base ≤ w2.heap.size := by have := hgrow.size; rw [World.size_alloc] at this; omega
  have HZ2 : Hid (((z : Int) + (x.size : Int)) = (sizeL (made ++ [x]) : Nat)) := by unfold Hid; rw [sizeL_snoc, ← HZ.out]; omega
  have HE : Hid (Wk base b m (Value.slice a5 (ln + 1) c5) (made ++ [x]) false done ((w2.setCell ⟨b, 12, none⟩ (Value.slice a5 (ln + 1) c5)).setCell ⟨b, 13, none⟩ (.int .i64 ((z : Int) + (x.size : Int)))) ∧ Went b (.slice a4 ln cap4) w ((w2.setCell ⟨b, 12, none⟩ (Value.slice a5 (ln + 1) c5)).setCell ⟨b, 13, none⟩ (.int .i64 ((z : Int) + (x.size : Int)))) ∧ ∀ j, (Value.slice a5 (ln + 1) c5).ownBlock = some j → (Value.slice a4 ln cap4).ownBlock = some j ∨ w.heap.size ≤ j) := by
    refine ⟨⟨?_, ?_, hf2, by rw [size_set, size_set]; exact hsz2⟩, (hw2.same (Went.set b 12 _ w2 _)).same (Went.set b 13 _ _ _), hv2⟩
    · rw [HZ2.out]; exact heap_set (heap_set hb2 _) _
    · refine row_set (row_set ?_ hf2 _) hf2 _
      have e1 : (made ++ [x]).length = ln + 1 := by rw [List.length_append, ← HLn.out]; rfl
      rw [e1, List.map_append]; exact hown'
  have y12 : w2.cell? ⟨b, 12, none⟩ = some (.slice a4 ln cap4) := by simp [World.cell?, hb2, wkV]
  have y13 : w2.cell? ⟨b, 13, none⟩ = some (.int .i64 z) := by rw [HZ.out]; simp [World.cell?, hb2, wkV]
  have yf : ∀ i, w2.frozen? ⟨b, i, none⟩ = false := fun i => by simp [World.frozen?, hb2]
  clear hown' hgrow hat c1 c2 c3 hb2 hw2 hf2 hv2 hsz2 r12 r13 r14 r15 hfz hrow HW1 HH
  go_wp2
  refine bodyPost_end (v := .tuple #[]) (by simp [results, Tryz.results89, go_sem]) rfl ⟨rfl, ⟨(Value.slice a5 (ln + 1) c5), HE.out.1, HE.out.2.2⟩, HE.out.2.1⟩
set_option maxRecDepth 20000 in
set_option maxHeartbeats 1600000 in
theorem keep_out (base b : Nat) (m : Md) (v : Value) (made : List ByteArray) (over done : Bool) (x : ByteArray) (w : World) (h : Wk base b m v made over done w) (hs : sizeL made ≤ 65536) (hle : ¬ x.size + sizeL made ≤ 65536) :
    Calls Tryz.prog 89 #[.pointer (some ⟨b, 0, none⟩), .string x] w fun e w' => e = .returned (.tuple #[]) ∧ Wk base b m v made true done w' ∧ Went b v w w' := by
  have HR : Hid (Calls Tryz.prog 92 #[.pointer (some ⟨b, 0, none⟩), .int .i64 x.size] w fun e w' => e = .returned (.bool (decide ((x.size : Int) + sizeL made ≤ 65536))) ∧ Wk base b m v made (!decide ((x.size : Int) + sizeL made ≤ 65536)) done w' ∧ Went b v w w') := room_any base b m v made over done x.size w h hs
  clear h
  rw [decide_eq_false (by omega)] at HR
  go_enter Tryz.func89, Tryz.ntmps89
  go_wp2_with fail
  refine HR.out.mono ?_
  rintro e w1 ⟨rfl, hW1, hg1⟩
  go_wp2
  refine bodyPost_end (v := .tuple #[]) (by simp [results, Tryz.results89, go_sem]) rfl ⟨rfl, hW1, hg1⟩
def Step (base b : Nat) (m : Md) (v : Value) (made : List ByteArray) (done : Bool) (x : Option ByteArray) (w w' : World) : Prop :=
  (∃ v', (match x with
    | none => Wk base b m v' made false done w'
    | some y => if y.size + sizeL made ≤ 65536 then Wk base b m v' (made ++ [y]) false done w' else Wk base b m v' made true done w') ∧ (∀ j, v'.ownBlock = some j → v.ownBlock = some j ∨ w.heap.size ≤ j)) ∧ Went b v w w'
theorem keep_any (base b : Nat) (m : Md) (v : Value) (made : List ByteArray) (over done : Bool) (x : ByteArray) (w : World) (h : Wk base b m v made over done w) (hs : sizeL made ≤ 65536) (hl : made.length ≤ 100000) :
    Calls Tryz.prog 89 #[.pointer (some ⟨b, 0, none⟩), .string x] w fun e w' => e = .returned (.tuple #[]) ∧ Step base b m v made done (some x) w w' := by
  by_cases hle : x.size + sizeL made ≤ 65536
  · refine (keep_in base b m v made over done x w h hs hl hle).mono ?_
    rintro e w' ⟨rfl, ⟨v', h1, h2⟩, h3⟩
    exact ⟨rfl, ⟨v', by dsimp only; rw [if_pos hle]; exact h1, h2⟩, h3⟩
  · refine (keep_out base b m v made over done x w h hs hle).mono ?_
    rintro e w' ⟨rfl, h1, h3⟩
    exact ⟨rfl, ⟨v, by dsimp only; rw [if_neg hle]; exact h1, fun j hj => .inl hj⟩, h3⟩
theorem Step.of_below {base b : Nat} {m : Md} {v : Value} {made : List ByteArray} {done : Bool} {x : Option ByteArray} {w0 w w' : World} (h : Step base b m v made done x w w') (hb : Below w0.heap.size w0 w) : Step base b m v made done x w0 w' := by
  obtain ⟨⟨v', h1, h2⟩, h3⟩ := h
  refine ⟨⟨v', h1, fun j hj => ?_⟩, (Went.of_below hb).same h3⟩
  have := hb.size
  rcases h2 j hj with h4 | h4
  · exact .inl h4
  · exact .inr (by omega)
end Go.Proofs.YtpcpcfnmcfjomaaGreatDoor
namespace Go.Proofs.YtpcpcfnmcfjomaaGreatDoor
open Go.RowKit Go.Shelf
theorem Wk.step {base b : Nat} {m : Md} {v : Value} {made : List ByteArray} {done : Bool} {w w' : World} (h : Wk base b m v made false done w) (hb : Below w.heap.size w w') : Step base b m v made done none w w' :=
  ⟨⟨v, h.below hb, fun _ h => .inl h⟩, Went.of_below hb⟩
set_option maxRecDepth 20000 in
set_option maxHeartbeats 1600000 in
theorem matching_any (base b : Nat) (m : Md) (v : Value) (made : List ByteArray) (done : Bool) (x : ByteArray) (w : World) (h : Wk base b m v made false done w) (ha : m.a.size ≤ 1000000) (hx : x.size ≤ 1000000) (hs : sizeL made ≤ 65536) (hl : made.length ≤ 100000) :
    Calls Tryz.prog 45 #[.pointer (some ⟨b, 0, none⟩), .string x] w fun e w' => e = .returned (.tuple #[]) ∧ Step base b m v made done (if G.matchB (bl m.a) (bl x) = true then some x else none) w w' := by
  have HM : Hid (∀ W, Calls Tryz.prog 88 #[.string m.a, .string x] W fun e w' => e = .returned (.bool (G.matchB (bl m.a) (bl x))) ∧ Below W.heap.size W w') := fun W => match_any m.a x W ha hx
  have HK : Hid (∀ W, Wk base b m v made false done W → Calls Tryz.prog 89 #[.pointer (some ⟨b, 0, none⟩), .string x] W fun e w' => e = .returned (.tuple #[]) ∧ Step base b m v made done (some x) W w') := fun W hW => keep_any base b m v made false done x W hW hs hl
  have HW : Hid (Wk base b m v made false done w) := h
  obtain ⟨⟨r0, r1, r2, r3, r4, r6, r7, r8, r9⟩, _, hfz⟩ := h.cells
  clear h
  cases hB : G.matchB (bl m.a) (bl x) with
  | true =>
    rw [hB] at HM
    rw [if_pos rfl]
    go_enter Tryz.func45, Tryz.ntmps45
    go_wp2_with fail
    refine (HM.out _).mono ?_
    rintro e w1 ⟨rfl, hb1⟩
    have HZ : Hid (Below w.heap.size w w1) := hb1
    clear hb1
    go_wp2_with fail
    refine (HK.out _ (HW.out.below HZ.out)).mono ?_
    rintro e w2 ⟨rfl, hst⟩
    have HS : Hid (Step base b m v made done (some x) w w2) := hst.of_below HZ.out
    clear hst
    go_wp2
    refine bodyPost_end (v := .tuple #[]) (by simp [results, Tryz.results45, go_sem]) rfl ⟨rfl, HS.out⟩
  | false =>
    rw [hB] at HM
    rw [if_neg (by simp)]
    go_enter Tryz.func45, Tryz.ntmps45
    go_wp2_with fail
    refine (HM.out _).mono ?_
    rintro e w1 ⟨rfl, hb1⟩
    have HZ : Hid (Below w.heap.size w w1) := hb1
    clear hb1
    go_wp2
    refine bodyPost_end (v := .tuple #[]) (by simp [results, Tryz.results45, go_sem]) rfl ⟨rfl, HW.out.step HZ.out⟩
set_option maxRecDepth 20000 in
set_option maxHeartbeats 1600000 in
theorem other_any (base b : Nat) (m : Md) (v : Value) (made : List ByteArray) (done : Bool) (x : ByteArray) (w : World) (h : Wk base b m v made false done w) (ha : m.a.size ≤ 1000000) (hx : x.size ≤ 1000000) (hs : sizeL made ≤ 65536) (hl : made.length ≤ 100000) :
    Calls Tryz.prog 46 #[.pointer (some ⟨b, 0, none⟩), .string x] w fun e w' => e = .returned (.tuple #[]) ∧ Step base b m v made done (if G.matchB (bl m.a) (bl x) = true then none else some x) w w' := by
  have HM : Hid (∀ W, Calls Tryz.prog 88 #[.string m.a, .string x] W fun e w' => e = .returned (.bool (G.matchB (bl m.a) (bl x))) ∧ Below W.heap.size W w') := fun W => match_any m.a x W ha hx
  have HK : Hid (∀ W, Wk base b m v made false done W → Calls Tryz.prog 89 #[.pointer (some ⟨b, 0, none⟩), .string x] W fun e w' => e = .returned (.tuple #[]) ∧ Step base b m v made done (some x) W w') := fun W hW => keep_any base b m v made false done x W hW hs hl
  have HW : Hid (Wk base b m v made false done w) := h
  obtain ⟨⟨r0, r1, r2, r3, r4, r6, r7, r8, r9⟩, _, hfz⟩ := h.cells
  clear h
  cases hB : G.matchB (bl m.a) (bl x) with
  | false =>
    rw [hB] at HM
    rw [if_neg (by simp)]
    go_enter Tryz.func46, Tryz.ntmps46
    go_wp2_with fail
    refine (HM.out _).mono ?_
    rintro e w1 ⟨rfl, hb1⟩
    have HZ : Hid (Below w.heap.size w w1) := hb1
    clear hb1
    go_wp2_with fail
    refine (HK.out _ (HW.out.below HZ.out)).mono ?_
    rintro e w2 ⟨rfl, hst⟩
    have HS : Hid (Step base b m v made done (some x) w w2) := hst.of_below HZ.out
    clear hst
    go_wp2
    refine bodyPost_end (v := .tuple #[]) (by simp [results, Tryz.results46, go_sem]) rfl ⟨rfl, HS.out⟩
  | true =>
    rw [hB] at HM
    rw [if_pos rfl]
    go_enter Tryz.func46, Tryz.ntmps46
    go_wp2_with fail
    refine (HM.out _).mono ?_
    rintro e w1 ⟨rfl, hb1⟩
    have HZ : Hid (Below w.heap.size w w1) := hb1
    clear hb1
    go_wp2
    refine bodyPost_end (v := .tuple #[]) (by simp [results, Tryz.results46, go_sem]) rfl ⟨rfl, HW.out.step HZ.out⟩
end Go.Proofs.YtpcpcfnmcfjomaaGreatDoor
