/-
  Parse, of a text whose modifiers all read well.
-/
import Derived.Test.YthcbagggalehgaaGreatDoorM7
import Derived.Deep.OwnRows
namespace Go.Proofs.YthcbagggalehgaaGreatDoor
open Go.RowKit Go.Shelf

theorem owns_slice {base n : Nat} {e : TypeId} {size : Nat} {W : World} {v : Value} {xs : List Value} (h : W.ownsRow base e size v n xs) : ∃ a cap, v = .slice a n cap := by
  rcases h.2 with ⟨rfl, rfl⟩ | ⟨g, cap, cur, rfl, _⟩
  · exact ⟨none, 0, rfl⟩
  · exact ⟨_, _, rfl⟩
theorem owns_base {b b' : Nat} {e : TypeId} {size : Nat} {W : World} {v : Value} {n : Nat} {xs : List Value} (h : W.ownsRow b e size v n xs) (hb : b' ≤ b) : W.ownsRow b' e size v n xs := by
  refine ⟨h.1, ?_⟩
  rcases h.2 with h0 | ⟨g, cap, cur, hv, hg, rest⟩
  · exact .inl h0
  · exact .inr ⟨g, cap, cur, hv, Nat.le_trans hb hg, rest⟩
theorem infoMd : (Tryz.prog.info? 157).map (fun i => (i.zero, i.size, i.bytes)) = some (some (.agg zeroMd), 12, 104) := by kernel_rfl
theorem infoS9 : (Tryz.prog.info? 9).map (fun i => (i.zero, i.size, i.bytes)) = some (some (.string ⟨#[]⟩), 1, 16) := by kernel_rfl
theorem info_of {T : TypeId} {z : Option Value} {n b : Nat} (h : (Tryz.prog.info? T).map (fun i => (i.zero, i.size, i.bytes)) = some (z, n, b)) : ∃ i, Tryz.prog.info? T = some i ∧ i.zero = z ∧ i.size = n ∧ i.bytes = b := by
  obtain ⟨i, hi, e⟩ := Option.map_eq_some_iff.1 h
  simp only [Prod.mk.injEq] at e
  exact ⟨i, hi, e.1, e.2.1, e.2.2⟩
theorem cell_one_new (w : World) (T : TypeId) (x : ByteArray) : ∀ j u, ([.string x] : List Value)[j]? = some u → (w.alloc (.cells #[.string x] T)).cell? ((⟨w.heap.size, 0, none⟩ : Addr).add j) = some u := by
  intro j u hj
  match j, hj with
  | 0, hj => simp at hj; subst hj; simp [Addr.add]
theorem cells_new (w : World) (T : TypeId) (arr : Array Value) (g : Nat) (hg : g = w.heap.size) : ∀ j u, arr.toList[j]? = some u → (w.alloc (.cells arr T)).cell? ((⟨g, 0, none⟩ : Addr).add j) = some u := by
  intro j u hj
  subst hg
  have hadd : (⟨w.heap.size, 0, none⟩ : Addr).add j = ⟨w.heap.size, j, none⟩ := by unfold Addr.add; split <;> simp_all
  rw [hadd]
  simp only [World.cell?, heap_alloc_new]
  simpa using hj
theorem md_one {kind a c : ByteArray} {bg en : Bool} {ex : Option Addr} {al on : Bool} {mks ots frm upto : Int} : ∀ u ∈ (mdV kind a c bg en ex al on mks ots frm upto).toList, u.oneCell' = true := by
  intro u hu
  simp only [List.mem_cons, List.not_mem_nil, or_false] at hu
  rcases hu with rfl | rfl | rfl | rfl | rfl | rfl | rfl | rfl | rfl | rfl | rfl | rfl <;> rfl
/-- The cells of a list of modifiers. -/
def modsV (l : List Md) : List Value := l.flatMap (·.cells.toList)
theorem modsV_app (l : List Md) (m : Md) : modsV (l ++ [m]) = modsV l ++ m.cells.toList := by unfold modsV; simp
/-- A text reads as a modifier. -/
def Reads (s : ByteArray) (r : Rd) : Prop := ∀ w, Mx w → Calls Tryz.prog 101 #[.string s] w fun e w' => e = .returned r.val ∧ Below w.heap.size w w'
/-- From a place on a text reads as modifiers. -/
inductive Chain (s : ByteArray) : Nat → List Md → Prop
  | done {k : Nat} : s.size < k → Chain s k []
  | step {k n : Nat} {m : Md} {ms : List Md} : k ≤ s.size → n ≤ s.size → Reads (s.extract k s.size) (.ok m n) → Chain s (k + n + 1) ms → Chain s k (m :: ms)
theorem Chain.nil {s : ByteArray} {k : Nat} {l : List Md} (h : Chain s k l) (hk : s.size < k) : l = [] := by
  cases h with
  | done => rfl
  | step h1 => omega
theorem Chain.cons {s : ByteArray} {k : Nat} {l : List Md} (h : Chain s k l) (hk : k ≤ s.size) : ∃ n m ms, l = m :: ms ∧ n ≤ s.size ∧ Reads (s.extract k s.size) (.ok m n) ∧ Chain s (k + n + 1) ms := by
  cases h with
  | done => omega
  | step h1 hn h2 h3 => exact ⟨_, _, _, rfl, hn, h2, h3⟩

set_option maxRecDepth 20000 in
set_option maxHeartbeats 1600000 in
theorem parse_ok (s : ByteArray) (l : List Md) (w : World) (hs : s.size ≤ 1000000) (h1 : 1 ≤ s.size) (hc : Chain s 0 l) (hl : l.length ≤ 32) (hmx : Mx w) :
    Calls Tryz.prog 93 #[.string s] w fun e w' => ∃ v, e = .returned (.tuple #[v, .agg #[.int .i64 0, .int .i64 0]]) ∧ w'.ownsRow w.heap.size 157 12 v l.length (modsV l) ∧ Below w.heap.size w w' := by
  have t1 : ¬ s.toList = [] := by rw [Lib.toList_data]; intro e; have := bl_length s; unfold bl at this; rw [e] at this; simp at this; omega
  have t2 : s.toList.isEmpty = false := by cases hh : s.toList with | nil => exact absurd hh t1 | cons => rfl
  have HMx : Hid (∀ W, Below w.heap.size w W → Mx W) := fun W hB => hmx.below hB hmx.pos
  have HCh : Hid (Chain s 0 l) := hc
  clear hc hmx
  obtain ⟨i0, hi, hz0, hz1, hz2⟩ := info_of infoMd
  obtain ⟨N, hN⟩ : ∃ N, N = l.length := ⟨_, rfl⟩
  rw [← hN] at hl ⊢
  have HN : Hid (N = l.length) := hN
  clear hN
  go_enter Tryz.func93, Tryz.ntmps93
  go_wp2
  go_loopw [4, 5] (fun v4 vi wr => ∃ (k c : Nat) (dn rs : List Md), k ≤ 2 * s.size + 1 ∧ vi = .int .i64 k ∧ c + rs.length = N ∧ Hid (c = dn.length ∧ l = dn ++ rs ∧ Chain s k rs) ∧ wr.ownsRow (w.heap.size + 1) 157 12 v4 c (modsV dn) ∧ Below (w.heap.size + 1) (w.alloc (.cells #[.int .i64 0, .int .i64 0] 145)) wr)
    (fun _ vi _ => 2 * s.size + 2 - (intOf vi).toNat)
  case atStart => exact ⟨0, 0, [], l, Nat.zero_le _, rfl, by rw [HN.out]; omega, ⟨rfl, rfl, HCh.out⟩, World.ownsRow_nil _ _ _ _, Below.refl _ _⟩
  case round =>
    obtain ⟨k, c, dn, rs, hk, rfl, hcr, HD, hrow, hb⟩ := hrel
    obtain ⟨a4, cap4, hv4⟩ := owns_slice hrow
    subst hv4
    have hbs : w.heap.size + 1 ≤ wr.heap.size := by have := hb.size; simpa using this
    have HLow : Hid (Below w.heap.size w wr) := ((Below.refl _ w).alloc (Nat.le_refl _) _).trans (hb.mono (by omega))
    by_cases hlt : k ≤ s.size
    · have hil : (k : Int) ≤ (s.size : Int) := by omega
      have h0 : (0 : Int) ≤ (k : Int) := by omega
      obtain ⟨n, m, ms, hrs, hns, hrd, hch⟩ := HD.out.2.2.cons hlt
      have HRd : Hid (Reads (s.extract k s.size) (.ok m n)) := hrd
      have HD2 : Hid (c + 1 = (dn ++ [m]).length ∧ l = (dn ++ [m]) ++ ms ∧ Chain s (k + n + 1) ms ∧ modsV (dn ++ [m]) = modsV dn ++ m.cells.toList) := ⟨by rw [List.length_append, ← HD.out.1]; rfl, by rw [HD.out.2.1, hrs]; simp, hch, modsV_app dn m⟩
      have hcr2 : c + 1 + ms.length = N := by rw [hrs] at hcr; simp at hcr; omega
      clear hrd hch hrs HD hcr
      have hc32 : ((c : Int) == 32) = false := by rw [beq_eq_false_iff_ne]; omega
      have hnb : n ≤ 1000000 := by omega
      have hkb : k ≤ 1000000 := by omega
      obtain ⟨kind, a, b, bg, en, ex, al, on, mks, ots, frm, upto⟩ := m
      go_wp2_with fail
      refine (HRd.out _ (HMx.out _ HLow.out)).mono ?_
      rintro e w1 ⟨rfl, hb1⟩
      dsimp only [Rd.val, Md.cells] at HD2 ⊢
      have hb1' := hb.trans (hb1.mono hbs)
      have hrow1 := owns_below hrow hb1
      have hbs1 := hb1'.size
      rw [World.size_alloc] at hbs1
      clear hb hb1 hrow HLow
      go_wp2_with (at_builtin; refine wpList_append_own _ rfl _ _ 143 rfl (w.heap.size + 1) 157 i0 (.agg zeroMd) 12 104 Tryz.underlying143 hi hz0 hz1 hz2 rfl (by decide) _ _ _ rfl ((hrow1.alloc _).alloc _) ⟨w1.heap.size + 1, 0, none⟩ 1 1 (mdV kind a b bg en ex al on mks ots frm upto).toList rfl rfl (cells_new _ _ _ _ (by simp)) md_one (by unfold maxLen; omega) (by omega) (by simp; omega) ?_)
      intro v' w2 hown' hgrow _
      have hb3 : Below (w.heap.size + 1) (w.alloc (.cells #[.int .i64 0, .int .i64 0] 145)) w2 := ((hb1'.alloc hbs1 _).alloc (by simp; omega) _).grown hgrow (by simp; omega) (fun k hk => (hrow1.lt k hk).1)
      clear hgrow hrow1 hb1'
      obtain ⟨a3, c3, hv3⟩ := owns_slice hown'
      subst hv3
      go_wp2
      go_roundw
      case rel => exact ⟨k + n + 1, c + 1, _, ms, by omega, by go_num, hcr2, ⟨HD2.out.1, HD2.out.2.1, HD2.out.2.2.1⟩, by rw [HD2.out.2.2.2]; exact hown', hb3⟩
      case measure => simp [intOf]; omega
    · have hil : ¬ (k : Int) ≤ (s.size : Int) := by omega
      have hrs := HD.out.2.2.nil (by omega)
      have hce : c = N := by rw [hrs] at hcr; simpa using hcr
      subst hce
      have HE : Hid (wr.ownsRow w.heap.size 157 12 (.slice a4 c cap4) c (modsV l)) := by
        have e : l = dn := by rw [HD.out.2.1, hrs, List.append_nil]
        rw [e]; exact owns_base hrow (by omega)
      clear hrs
      have hblk : wr.heap[w.heap.size]? = some (.cells #[.int .i64 0, .int .i64 0] 145 (0, 0)) := by
        rw [hb.block w.heap.size (by omega)]; exact heap_alloc_new w _
      have y0 : wr.cell? ⟨w.heap.size, 0, none⟩ = some (.int .i64 0) := by simp [World.cell?, hblk]
      have y1 : wr.cell? ⟨w.heap.size, 1, none⟩ = some (.int .i64 0) := by simp [World.cell?, hblk]
      have yf : ∀ i, wr.frozen? ⟨w.heap.size, i, none⟩ = false := fun i => by simp [World.frozen?, hblk]
      have HF : Hid ((wr.setCell ⟨w.heap.size, 0, none⟩ (.int .i64 0)).setCell ⟨w.heap.size, 1, none⟩ (.int .i64 0) |>.heap[w.heap.size]? = some (.cells #[.int .i64 0, .int .i64 0] 145 (0, 0))) := heap_set (heap_set hblk _) _
      have HO : Hid ((wr.setCell ⟨w.heap.size, 0, none⟩ (.int .i64 0)).setCell ⟨w.heap.size, 1, none⟩ (.int .i64 0) |>.ownsRow w.heap.size 157 12 (.slice a4 c cap4) c (modsV l)) := by
        have hne : (Value.slice a4 c cap4).ownBlock ≠ some w.heap.size := fun e => by have := (hrow.lt _ e).1; omega
        exact row_set (row_set HE.out hne _) hne _
      clear hblk hrow
      go_wp2
      obtain ⟨W, hW⟩ : ∃ W, W = (wr.setCell ⟨w.heap.size, 0, none⟩ (.int .i64 0)).setCell ⟨w.heap.size, 1, none⟩ (.int .i64 0) := ⟨_, rfl⟩
      have hWb : Below w.heap.size w W := by
        rw [hW]; exact ((((Below.refl _ w).alloc (Nat.le_refl _) _).trans (hb.mono (by omega))).setCell (Nat.le_refl _) _).setCell (Nat.le_refl _) _
      rw [← hW]
      have hH := HF.out
      have hO := HO.out
      rw [← hW] at hH hO
      have q0 : W.cell? ⟨w.heap.size, 0, none⟩ = some (.int .i64 0) := by simp [World.cell?, hH]
      have q1 : W.cell? ⟨w.heap.size, 1, none⟩ = some (.int .i64 0) := by simp [World.cell?, hH]
      refine bodyPost_ret (v := .tuple #[.slice a4 c cap4, .agg #[.int .i64 0, .int .i64 0]]) (by simp [results, Tryz.results93, go_sem, q0, q1]; try rfl) rfl ⟨_, rfl, hO, hWb⟩
end Go.Proofs.YthcbagggalehgaaGreatDoor
