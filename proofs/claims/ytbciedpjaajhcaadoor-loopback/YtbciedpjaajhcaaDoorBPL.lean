/-
  What the law's plain answers: the plain lines of blocks.
-/
import Derived.Test.YtbciedpjaajhcaaDoorBP
import Derived.Laws.AppendOwnNone
namespace Go.Proofs.YtbciedpjaajhcaaDoor
open Go.RowKit Go.Shelf

def H0 : Nat → Prop := fun _ => False
/-- What lies within a block. -/
def Kd (w : World) (v : Value) (ts : List Nd) : Nat → Prop
  | 0 => v = nilS ∧ ts = []
  | r + 1 => NdsAt H0 w r v ts
theorem Kd.keeps {w w' : World} {v : Value} {ts : List Nd} {r : Nat} (h : Kd w v ts r) (hb : Below w.heap.size w w') : Kd w' v ts r := by
  cases r with
  | zero => exact h
  | succ r => exact NdsAt.keeps h (Keeps.of_below hb)
theorem Kd.noth (w : World) (r : Nat) : Kd w nilS [] r := by
  cases r with
  | zero => exact ⟨rfl, rfl⟩
  | succ r => exact ⟨[], .inl ⟨rfl, rfl⟩, .nil⟩
theorem row_slice {H : Nat → Prop} {w : World} {k : Nat} {v : Value} {css : List (List Value)} (h : RowAt H w k v css) : ∃ a c, v = .slice a css.length c := by
  rcases h with ⟨rfl, rfl⟩ | ⟨g, c, rfl, _⟩
  · exact ⟨none, 0, rfl⟩
  · exact ⟨_, _, rfl⟩
theorem Kd.slice {w : World} {v : Value} {ts : List Nd} {r : Nat} (h : Kd w v ts r) : ∃ a n c, v = .slice a n c := by
  cases r with
  | zero => exact ⟨none, 0, 0, h.1⟩
  | succ r => obtain ⟨css, h1, _⟩ := h; obtain ⟨a, c, e⟩ := row_slice h1; exact ⟨a, _, c, e⟩
/-- A branch in memory. -/
def BrV (w : World) (r : Nat) (c : List Value) (b : Bk) : Prop := ∃ wd t a vK ks, c = bkC wd t a vK ∧ b = Bk.mk wd t a ks ∧ Kd w vK ks r
/-- A block in memory, whatever its kind. -/
def NdV (w : World) (r : Nat) (cs : List Value) (t : Nd) : Prop :=
  ∃ (k : Int) (l : Lz) (vB : Value) (aN : Option Addr) (nN cN : Nat) (li : ByteArray) (vK : Value) (bs : List Bk) (css : List (List Value)) (ks : List Nd), cs = ndC k l vB (.slice aN nN cN) li vK ∧ RowAt H0 w 4 vB css ∧ All2 (BrV w r) css bs ∧ Kd w vK ks r ∧ t.plain = ((if k = 1 then [l] else []) ++ plainsB bs) ++ plainsN ks ∧ 1 + loadB bs + loadN ks ≤ t.load
theorem nd_view {w : World} {r : Nat} {cs : List Value} {t : Nd} (h : NdAt H0 w r cs t) : NdV w r cs t := by
  cases t with
  | pl l => exact ⟨1, l, nilS, none, 0, 0, E, nilS, [], [], [], nd_pl' h, .inl ⟨rfl, rfl⟩, .nil, Kd.noth w r, by simp [Nd.plain, plainsB, plainsN], by simp [Nd.load, loadB, loadN]⟩
  | cn l bs =>
    cases r with
    | zero => exact h.elim
    | succ r =>
      obtain ⟨vB, css, h1, h2, h3⟩ := nd_cn h
      refine ⟨2, l, vB, none, 0, 0, E, nilS, bs, css, [], h1, h2, h3.mono fun c b hb => ?_, Kd.noth w _, by simp [Nd.plain, plainsN], by simp [Nd.load, loadN]⟩
      cases b with
      | mk wd t a ks => obtain ⟨vK, e1, e2⟩ := hb; exact ⟨wd, t, a, vK, ks, e1, rfl, e2⟩
  | fr l ns li ks =>
    cases r with
    | zero => exact h.elim
    | succ r =>
      obtain ⟨vN, vK, h1, h2, h3⟩ := nd_fr h
      obtain ⟨aN, cN, rfl⟩ := row_slice h2
      exact ⟨3, l, nilS, aN, _, cN, li, vK, [], [], ks, h1, .inl ⟨rfl, rfl⟩, .nil, h3, by simp [Nd.plain, plainsB], by simp [Nd.load, loadB]⟩
theorem row_ne2 {w : World} {base g : Nat} {v : Value} {e T : TypeId} {k n : Nat} {xs : List Value} {cs : Array Value} (h : w.ownsRow base e k v n xs) (hg : w.heap[g]? = some (.cells cs T (0, 0))) (hT : ¬ e = T) : v.ownBlock ≠ some g := by
  rcases h.2 with ⟨rfl, _⟩ | ⟨g', cap, cur, rfl, _, hc, _⟩
  · intro h; cases h
  · intro h
    simp [Value.ownBlock] at h
    subst h
    rw [hg] at hc
    simp at hc
    exact hT hc.2.symm
theorem lzsV_len (l : List Lz) : (lzsV l).length = l.length * 3 := by
  induction l with
  | nil => rfl
  | cons x l ih =>
    have : lzsV (x :: l) = lzC x ++ lzsV l := by simp [lzsV]
    rw [this, List.length_append, ih, List.length_cons, lz_len]; omega
theorem lzsV_app (a b : List Lz) : lzsV (a ++ b) = lzsV a ++ lzsV b := by simp [lzsV]
theorem lzs_one (l : List Lz) : ∀ u ∈ lzsV l, u.oneCell' = true := by
  intro u hu
  simp only [lzsV, List.mem_flatMap] at hu
  obtain ⟨x, _, h⟩ := hu
  exact lz_one x u h
/-- A row of lines is put behind a row of lines. -/
theorem append_two {ops : Array Oper} {rest : List Oper} {o : Oper} {a : Act} {Q : Exit → Act → World → Prop} {w : World} (hgd : o.guard = none) (s x : Operand)
    (ho : o.op = .call { callee := .builtin .append, args := #[s, x], argTypes := #[22, 22] })
    (base base2 : Nat) (v v2 : Value) (la lb : List Lz) (hs : a.eval s = v) (hown : w.ownsRow base 38 3 v la.length (lzsV la)) (hx : a.eval x = v2) (h2 : w.ownsRow base2 38 3 v2 lb.length (lzsV lb))
    (hnm : la.length + lb.length ≤ 8000000) (hbase : base ≤ w.heap.size)
    (h : ∀ v' w', w'.ownsRow base 38 3 v' (la ++ lb).length (lzsV (la ++ lb)) → w.grownBy w' v.ownBlock → wpList Tryd.prog ops Q rest (a.put o.dst v') w') : wpList Tryd.prog ops Q (o :: rest) a w := by
  obtain ⟨i0, hi, hz0, hz1, hz2⟩ := info_of infoR
  rcases V.row_src h2 with ⟨rfl, hn, hnil⟩ | ⟨g, cap, rfl, hg, hc, hl, hcells⟩
  · have hb0 : lb = [] := List.length_eq_zero_iff.1 hn
    subst hb0
    refine wpList_append_own_none hgd s x 22 ho base 38 i0 3 Tryd.underlying22 hi v _ _ hs hown hx (h v w (by simpa using hown) ⟨rfl, rfl, rfl, Nat.le_refl _, fun _ _ _ => rfl⟩)
  · refine wpList_append_own w hgd s x 22 ho base 38 i0 (.agg #[.string ⟨#[]⟩, .int .i64 0, .bool false]) 3 32 Tryd.underlying22 hi hz0 hz1 hz2 rfl (by decide) v _ _ hs hown ⟨g, 0, none⟩ lb.length cap (lzsV lb) hx hl hcells (lzs_one lb) (by unfold maxLen; omega) (by omega) hbase ?_
    intro v' w' h3 h4 _
    exact h v' w' (by rw [lzsV_app, List.length_append]; exact h3) h4

def PlainC (r : Nat) : Prop := ∀ (v : Value) (ts : List Nd) (W : World), Kd W v ts r → loadN ts ≤ 4000000 → Calls Tryd.prog 14 #[v] W fun e w' => ∃ v', e = .returned v' ∧ w'.ownsRow W.heap.size 38 3 v' (plainsN ts).length (lzsV (plainsN ts)) ∧ Below W.heap.size W w'

set_option maxRecDepth 20000 in
set_option maxHeartbeats 800000 in
theorem plain_nil (w : World) : Calls Tryd.prog 14 #[nilS] w fun e w' => ∃ v', e = .returned v' ∧ w'.ownsRow w.heap.size 38 3 v' 0 [] ∧ Below w.heap.size w w' := by
  go_enter Tryd.func14, Tryd.ntmps14
  go_wp2
  go_loopw [3, 10] (fun v vi wr => v = nilS ∧ vi = .int .i64 0 ∧ w = wr) (fun _ _ _ => 0)
  case atStart => exact ⟨rfl, rfl, rfl⟩
  case round =>
    obtain ⟨rfl, rfl, rfl⟩ := hrel
    go_wp2
    go_ret
    exact ⟨_, rfl, owns_nil _ _ _ _, Below.refl _ _⟩
theorem plain_zero : PlainC 0 := by
  rintro v ts W ⟨rfl, rfl⟩ _
  exact plain_nil W

/-- The j-th branch of a block. -/
theorem br_pick {w : World} {r : Nat} {aB : Option Addr} {m cB : Nat} {css : List (List Value)} {bs : List Bk} (h1 : RowAt H0 w 4 (.slice aB m cB) css) (h2 : All2 (BrV w r) css bs) {j : Nat} (hj : j < bs.length) :
    ∃ (gb : Nat) (wd t : ByteArray) (at_ : Int) (aq : Option Addr) (nq cq : Nat) (ks : List Nd), aB = some ⟨gb, 0, none⟩ ∧ gb < w.heap.size ∧ w.cell? ⟨gb, j * 4, none⟩ = some (.string wd) ∧ w.cell? ⟨gb, j * 4 + 1, none⟩ = some (.string t) ∧ w.cell? ⟨gb, j * 4 + 2, none⟩ = some (.int .i64 at_) ∧ w.cell? ⟨gb, j * 4 + 3, none⟩ = some (.slice aq nq cq) ∧ Kd w (.slice aq nq cq) ks r ∧ plainsB (bs.take (j + 1)) = plainsB (bs.take j) ++ plainsN ks ∧ loadN ks ≤ loadB bs := by
  obtain ⟨b, hb⟩ : ∃ b, bs[j]? = some b := ⟨_, List.getElem?_eq_getElem hj⟩
  obtain ⟨c, hc, wd, t, a, vK, ks, e1, e2, e3⟩ := h2.get hb
  obtain ⟨aq, nq, cq, rfl⟩ := e3.slice
  rcases h1 with ⟨_, rfl⟩ | ⟨g, c', hv, _, hg, _, hcells⟩
  · simp at hc
  · injection hv with q1 q2 q3
    obtain ⟨_, hcell⟩ := hcells j c hc
    subst e1 e2
    have hp := plainsB_take hb
    have hld := loadB_get hb
    refine ⟨g, wd, t, a, aq, nq, cq, ks, q1, hg, hcell 0 _ rfl, hcell 1 _ rfl, hcell 2 _ rfl, hcell 3 _ rfl, e3, hp, ?_⟩
    simp only [Bk.load] at hld; omega
/-- The i-th of several blocks. -/
theorem nd_pick {w : World} {r g : Nat} {css : List (List Value)} {ts : List Nd} (hcells : ∀ i cs, css[i]? = some cs → cs.length = 8 ∧ ∀ j u, cs[j]? = some u → w.cell? ⟨g, i * 8 + j, none⟩ = some u) (h2 : All2 (NdAt H0 w r) css ts) {i : Nat} (hi : i < ts.length) :
    ∃ (k : Int) (lt : ByteArray) (la : Int) (lc : Bool) (aB : Option Addr) (m cB : Nat) (aN : Option Addr) (nN cN : Nat) (li : ByteArray) (aK : Option Addr) (nK cK : Nat) (bs : List Bk) (bss : List (List Value)) (ks : List Nd), w.cell? ⟨g, i * 8, none⟩ = some (.int .i64 k) ∧ w.cell? ⟨g, i * 8 + 1, none⟩ = some (.string lt) ∧ w.cell? ⟨g, i * 8 + 2, none⟩ = some (.int .i64 la) ∧ w.cell? ⟨g, i * 8 + 3, none⟩ = some (.bool lc) ∧ w.cell? ⟨g, i * 8 + 4, none⟩ = some (.slice aB m cB) ∧ w.cell? ⟨g, i * 8 + 5, none⟩ = some (.slice aN nN cN) ∧ w.cell? ⟨g, i * 8 + 6, none⟩ = some (.string li) ∧ w.cell? ⟨g, i * 8 + 7, none⟩ = some (.slice aK nK cK) ∧
      m = bs.length ∧ RowAt H0 w 4 (.slice aB m cB) bss ∧ All2 (BrV w r) bss bs ∧ Kd w (.slice aK nK cK) ks r ∧ plainsN (ts.take (i + 1)) = ((plainsN (ts.take i) ++ (if k = 1 then [⟨lt, la, lc⟩] else [])) ++ plainsB bs) ++ plainsN ks ∧ 1 + loadB bs + loadN ks ≤ loadN ts := by
  obtain ⟨t, ht⟩ : ∃ t, ts[i]? = some t := ⟨_, List.getElem?_eq_getElem hi⟩
  obtain ⟨c, hc, hnd⟩ := h2.get ht
  obtain ⟨k, l, vB, aN, nN, cN, li, vK, bs, bss, ks, e1, e2, e3, e4, e5, e6⟩ := nd_view hnd
  obtain ⟨aB, cB, rfl⟩ := row_slice e2
  obtain ⟨aK, nK, cK, rfl⟩ := e4.slice
  obtain ⟨_, hcell⟩ := hcells i c hc
  subst e1
  have hp := plainsN_take ht
  have hld := loadN_get ht
  refine ⟨k, l.text, l.at_, l.cmd, aB, _, cB, aN, nN, cN, li, aK, nK, cK, bs, bss, ks, hcell 0 _ rfl, hcell 1 _ rfl, hcell 2 _ rfl, hcell 3 _ rfl, hcell 4 _ rfl, hcell 5 _ rfl, hcell 6 _ rfl, hcell 7 _ rfl, e3.length, e2, e3, e4, ?_, by omega⟩
  rw [hp, e5]; simp only [List.append_assoc]

theorem plain_size (ts : List Nd) (i : Nat) : (plainsN (ts.take i)).length ≤ loadN ts := by
  have h1 := plainsN_load (ts.take i)
  have h3 : loadN ts = loadN (ts.take i) + loadN (ts.drop i) := by rw [← loadN_append, List.take_append_drop]
  omega
theorem plainsB_le (bs : List Bk) (j : Nat) : (plainsB (bs.take j)).length ≤ (plainsB bs).length := by
  have h : plainsB bs = plainsB (bs.take j) ++ plainsB (bs.drop j) := by rw [← plainsB_append, List.take_append_drop]
  rw [h, List.length_append]; omega

set_option maxRecDepth 20000 in
set_option maxHeartbeats 4000000 in
theorem plain_row (r : Nat) (ih : PlainC r) (g n c : Nat) (css : List (List Value)) (ts : List Nd) (w : World) (hn : n = ts.length) (hg : g < w.heap.size) (hcells : ∀ i cs, css[i]? = some cs → cs.length = 8 ∧ ∀ j u, cs[j]? = some u → w.cell? ⟨g, i * 8 + j, none⟩ = some u) (h2 : All2 (NdAt H0 w r) css ts) (hl : loadN ts ≤ 4000000) (hnc : n ≤ c) (hn4 : n ≤ 4000000) :
    Calls Tryd.prog 14 #[.slice (some ⟨g, 0, none⟩) n c] w fun e w' => ∃ v', e = .returned v' ∧ w'.ownsRow w.heap.size 38 3 v' (plainsN ts).length (lzsV (plainsN ts)) ∧ Below w.heap.size w w' := by
  obtain ⟨i0, hi, hz0, hz1, hz2⟩ := info_of infoR
  have IH : Hid (PlainC r) := ih
  have HN : Hid (n = ts.length) := hn
  have HPK : Hid (∀ i, i < ts.length → _) := fun i hi => nd_pick hcells h2 (i := i) hi
  clear ih hn hcells h2
  go_enter Tryd.func14, Tryd.ntmps14
  go_wp2
  go_loopw [3, 10] (fun v vi wr => ∃ i : Nat, i ≤ n ∧ vi = .int .i64 (i : Int) ∧ wr.ownsRow w.heap.size 38 3 v (plainsN (ts.take i)).length (lzsV (plainsN (ts.take i))) ∧ Below w.heap.size w wr) (fun _ vi _ => n - (intOf vi).toNat)
  case atStart => exact ⟨0, Nat.zero_le _, rfl, owns_nil _ _ _ _, Below.refl _ _⟩
  case round =>
    obtain ⟨i, hin, rfl, hown, hb⟩ := hrel
    have hbs := hb.size
    by_cases hlt : i < n
    · have hil : (i : Int) < (n : Int) := by omega
      obtain ⟨k, lt, la, lc, aB, m, cB, aN, nN, cN, li, aK, nK, cK, bs, bss, ks, d0, d1, d2, d3, d4, d5, d6, d7, hm, hB1, hB2, hKd, hpl, hld⟩ := HPK.out i (by rw [← HN.out]; exact hlt)
      have c0 := (hb.cell (p := ⟨g, i * 8, none⟩) hg).trans d0
      have c1 := (hb.cell (p := ⟨g, i * 8 + 1, none⟩) hg).trans d1
      have c2 := (hb.cell (p := ⟨g, i * 8 + 2, none⟩) hg).trans d2
      have c3 := (hb.cell (p := ⟨g, i * 8 + 3, none⟩) hg).trans d3
      have c4 := (hb.cell (p := ⟨g, i * 8 + 4, none⟩) hg).trans d4
      have c5 := (hb.cell (p := ⟨g, i * 8 + 5, none⟩) hg).trans d5
      have c6 := (hb.cell (p := ⟨g, i * 8 + 6, none⟩) hg).trans d6
      have c7 := (hb.cell (p := ⟨g, i * 8 + 7, none⟩) hg).trans d7
      have HBS : Hid (RowAt H0 w 4 (.slice aB m cB) bss ∧ All2 (BrV w r) bss bs) := ⟨hB1, hB2⟩
      have HKK : Hid (Kd w (.slice aK nK cK) ks r ∧ loadN ks ≤ 4000000) := ⟨hKd, by omega⟩
      have HM : Hid (m = bs.length) := hm
      have hm4 : m ≤ 4000000 := by have := loadB_length bs; omega
      have hlb : loadB bs ≤ 4000000 := by omega
      have hsz0 : (plainsN (ts.take i)).length ≤ 4000000 := by
        have h1 := plainsN_load (ts.take i)
        have h3 : loadN ts = loadN (ts.take i) + loadN (ts.drop i) := by rw [← loadN_append, List.take_append_drop]
        omega
      have HW1 : Hid (Below w.heap.size w (wr.alloc (.cells #[.int .i64 k, .string lt, .int .i64 la, .bool lc, .slice aB m cB, .slice aN nN cN, .string li, .slice aK nK cK] 61))) := hb.alloc hbs _
      have HW2 : Hid ((wr.alloc (.cells #[.int .i64 k, .string lt, .int .i64 la, .bool lc, .slice aB m cB, .slice aN nN cN, .string li, .slice aK nK cK] 61)).heap[wr.heap.size]? = some (.cells #[.int .i64 k, .string lt, .int .i64 la, .bool lc, .slice aB m cB, .slice aN nN cN, .string li, .slice aK nK cK] 61 (0, 0))) := alloc_last _ _
      clear d0 d1 d2 d3 d4 d5 d6 d7 hB1 hB2 hKd hm hld
      obtain ⟨w1, hw1⟩ : ∃ w1, w1 = wr.alloc (.cells #[.int .i64 k, .string lt, .int .i64 la, .bool lc, .slice aB m cB, .slice aN nN cN, .string li, .slice aK nK cK] 61) := ⟨_, rfl⟩
      have hownW : w1.ownsRow w.heap.size 38 3 u3 (plainsN (ts.take i)).length (lzsV (plainsN (ts.take i))) := by rw [hw1]; exact hown.alloc _
      have hbxn : u3.ownBlock ≠ some wr.heap.size := fun h => by have := (hown.lt _ h).2; omega
      have hw1s : w1.heap.size = wr.heap.size + 1 := by rw [hw1]; simp
      rw [← hw1] at HW1 HW2
      by_cases hk1 : k = 1
      · subst hk1
        rw [if_pos rfl] at hpl
        go_wp2_with (at_builtin; rw [← hw1]; refine wpList_append_own _ rfl _ _ 22 rfl w.heap.size 38 i0 (.agg #[.string ⟨#[]⟩, .int .i64 0, .bool false]) 3 32 Tryd.underlying22 hi hz0 hz1 hz2 rfl (by decide) _ _ _ rfl (hownW.alloc _) ⟨wr.heap.size + 1, 0, none⟩ 1 1 [.string lt, .int .i64 la, .bool lc] rfl rfl ?c1 ?c2 ?c3 ?c4 ?c5 ?_)
        case c1 =>
          intro j u hj
          rw [add_none, Nat.zero_add, ← hw1s]
          exact cell_in (cs := #[.string lt, .int .i64 la, .bool lc]) (T := 38) (alloc_last _ _) j (by simpa using hj)
        case c2 => exact fun u hu => lz_one ⟨lt, la, lc⟩ u hu
        case c3 => unfold maxLen; omega
        case c4 => omega
        case c5 => simp; omega
        intro v3 w3 hown3 hgrow _
        rw [← hw1] at hgrow
        obtain ⟨bx, hbx⟩ : ∃ bx, bx = wr.heap.size := ⟨_, rfl⟩
        obtain ⟨P, hP⟩ : ∃ P, P = plainsN (ts.take i) ++ [⟨lt, la, lc⟩] := ⟨_, rfl⟩
        have HO3 : Hid (w3.ownsRow w.heap.size 38 3 v3 P.length (lzsV P)) := by
          unfold Hid; rw [hP, lzsV_snoc, List.length_append]; exact hown3
        have HB3 : Hid (Below w.heap.size w w3) := (HW1.out.alloc (by omega) _).grown hgrow (by simp; omega) (fun k hk => (hown.lt k hk).1)
        have HX : Hid (w3.heap[bx]? = some (.cells #[.int .i64 1, .string lt, .int .i64 la, .bool lc, .slice aB m cB, .slice aN nN cN, .string li, .slice aK nK cK] 61 (0, 0))) := by
          unfold Hid; rw [hbx]
          exact (hgrow.block wr.heap.size (by simp; omega) (fun h => hbxn h.symm)).trans ((Below.heap_alloc _ _ _ (by omega)).trans HW2.out)
        have HP : Hid (∀ j, j ≤ m → (P ++ plainsB (bs.take j)).length ≤ 4000000) := by
          intro j _
          have q1 := plain_size ts (i + 1)
          have q2 := plainsB_le bs j
          rw [hpl] at q1
          rw [hP]
          simp only [List.length_append, List.length_cons, List.length_nil] at q1 ⊢
          omega
        have HPL : Hid (plainsN (ts.take (i + 1)) = (P ++ plainsB bs) ++ plainsN ks) := by
          unfold Hid; rw [hpl, hP]
        rw [← hbx]
        have y4 := cell_in HX.out 4 rfl
        clear hpl hP hbx hown3 hgrow HW1 HW2 hownW hbxn hw1 hw1s hown hb c0 c1 c2 c3 c4 c5 c6 c7 hsz0
        go_wp2_with fail
        clear y4
        go_loopw [3, 25] (fun v vi wr => ∃ j : Nat, j ≤ m ∧ vi = .int .i64 (j : Int) ∧ wr.ownsRow w.heap.size 38 3 v (P ++ plainsB (bs.take j)).length (lzsV (P ++ plainsB (bs.take j))) ∧ Below w.heap.size w wr ∧ wr.heap[bx]? = some (.cells #[.int .i64 1, .string lt, .int .i64 la, .bool lc, .slice aB m cB, .slice aN nN cN, .string li, .slice aK nK cK] 61 (0, 0))) (fun _ vi _ => m - (intOf vi).toNat)
        case atStart => exact ⟨0, Nat.zero_le _, rfl, by simpa [plainsB] using HO3.out, HB3.out, HX.out⟩
        case round =>
          obtain ⟨j, hj, rfl, hown4, hb4, hx4⟩ := hrel
          have hbs4 := hb4.size
          have hbx4 : bx < wr.heap.size := (Array.getElem?_eq_some_iff.1 hx4).1
          have HX4 : Hid _ := hx4
          have HNE4 := row_ne2 hown4 hx4 (by decide)
          have HNE4 : Hid _ := HNE4
          have HO4 : Hid (wr.ownsRow w.heap.size 38 3 u3 (P ++ plainsB (bs.take j)).length (lzsV (P ++ plainsB (bs.take j)))) := hown4
          have HB4 : Hid _ := hb4
          clear hx4 hown4 hb4
          by_cases hjm : j < m
          · have hjmi : (j : Int) < (m : Int) := by omega
            obtain ⟨gb, wd, t, at_, aq, nq, cq, ks2, rfl, hgb, d0, d1, d2, d3, hkd, hpl, hll⟩ := br_pick HBS.out.1 HBS.out.2 (j := j) (by rw [← HM.out]; exact hjm)
            have c0 := (HB4.out.cell (p := ⟨gb, j * 4, none⟩) hgb).trans d0
            have c1 := (HB4.out.cell (p := ⟨gb, j * 4 + 1, none⟩) hgb).trans d1
            have c2 := (HB4.out.cell (p := ⟨gb, j * 4 + 2, none⟩) hgb).trans d2
            have c3 := (HB4.out.cell (p := ⟨gb, j * 4 + 3, none⟩) hgb).trans d3
            have HKd : Hid (Kd w (.slice aq nq cq) ks2 r ∧ loadN ks2 ≤ 4000000 ∧ plainsB (bs.take (j + 1)) = plainsB (bs.take j) ++ plainsN ks2) := ⟨hkd, by omega, hpl⟩
            clear d0 d1 d2 d3 hkd hpl hll
            go_wp2_with fail
            have hw5 := HB4.out.alloc (o := .cells #[.string wd, .string t, .int .i64 at_, .slice aq nq cq] 63) hbs4
            refine (IH.out _ ks2 _ (HKd.out.1.keeps hw5) HKd.out.2.1).mono ?_
            rintro e w6 ⟨v2, rfl, hown2, h6⟩
            have hown6 := owns_below (HO4.out.alloc _) h6
            have hb6 : Below w.heap.size w w6 := hw5.trans (h6.mono hw5.size)
            have hx6 : w6.heap[bx]? = some (.cells #[.int .i64 1, .string lt, .int .i64 la, .bool lc, .slice (some ⟨gb, 0, none⟩) m cB, .slice aN nN cN, .string li, .slice aK nK cK] 61 (0, 0)) := (h6.block bx (by simp; omega)).trans ((Below.heap_alloc _ _ _ hbx4).trans HX4.out)
            have hbx6 : bx < w6.heap.size := (Array.getElem?_eq_some_iff.1 hx6).1
            have hbs6 := hb6.size
            have hsz1 := plainsN_load ks2
            have hsz2 := HP.out j hj
            clear h6 hw5 c0 c1 c2 c3
            go_wp2_with (at_builtin; refine append_two rfl _ _ rfl _ _ _ _ (P ++ plainsB (bs.take j)) (plainsN ks2) rfl hown6 rfl hown2 (by have := HKd.out.2.1; omega) hbs6 ?_)
            intro v' w7 hown7 hgrow
            have hb7 : Below w.heap.size w w7 := hb6.grown hgrow hbs6 (fun k hk => (hown6.lt k hk).1)
            have hx7 : w7.heap[bx]? = some (.cells #[.int .i64 1, .string lt, .int .i64 la, .bool lc, .slice (some ⟨gb, 0, none⟩) m cB, .slice aN nN cN, .string li, .slice aK nK cK] 61 (0, 0)) := (hgrow.block bx hbx6 (fun h => HNE4.out h.symm)).trans hx6
            have hown8 : w7.ownsRow w.heap.size 38 3 v' (P ++ plainsB (bs.take (j + 1))).length (lzsV (P ++ plainsB (bs.take (j + 1)))) := by
              rw [HKd.out.2.2]; simp only [List.length_append] at hown7 ⊢; exact hown7
            have HO8 : Hid _ := hown8
            have HB7 : Hid _ := hb7
            have HX7 : Hid _ := hx7
            clear hown7 hgrow hown6 hown2 hb6 hx6 hb7 hx7 hown8
            go_wp2
            go_roundw
            case rel => exact ⟨j + 1, by omega, by go_num, HO8.out, HB7.out, HX7.out⟩
            case measure => simp [intOf]; omega
          · obtain rfl : j = m := by omega
            have y7 := cell_in HX4.out 7 rfl
            go_wp2_with fail
            refine (IH.out _ ks _ (HKK.out.1.keeps HB4.out) HKK.out.2).mono ?_
            rintro e w6 ⟨v2, rfl, hown2, h6⟩
            have hown6 := owns_below HO4.out h6
            have hb6 : Below w.heap.size w w6 := HB4.out.trans (h6.mono HB4.out.size)
            have hbs6 := hb6.size
            have hsz1 := plainsN_load ks
            have hsz2 := HP.out j hj
            clear h6 y7
            go_wp2_with (at_builtin; refine append_two rfl _ _ rfl _ _ _ _ (P ++ plainsB (bs.take j)) (plainsN ks) rfl hown6 rfl hown2 (by have := HKK.out.2; omega) hbs6 ?_)
            intro v' w7 hown7 hgrow
            have hb7 : Below w.heap.size w w7 := hb6.grown hgrow hbs6 (fun k hk => (hown6.lt k hk).1)
            have hown8 : w7.ownsRow w.heap.size 38 3 v' (plainsN (ts.take (i + 1))).length (lzsV (plainsN (ts.take (i + 1)))) := by
              rw [HPL.out]
              have e : bs.take j = bs := List.take_of_length_le (by rw [HM.out]; exact Nat.le_refl _)
              rw [e] at hown7; simp only [List.length_append, List.append_assoc] at hown7 ⊢; exact hown7
            have HO8 : Hid _ := hown8
            have HB7 : Hid _ := hb7
            clear hown7 hgrow hown6 hown2 hb6 hb7 hown8
            go_wp2
            go_roundw
            case rel => exact ⟨i + 1, by omega, by go_num, HO8.out, HB7.out⟩
            case measure => simp [intOf]; omega
      · obtain ⟨bx, hbx⟩ : ∃ bx, bx = wr.heap.size := ⟨_, rfl⟩
        obtain ⟨P, hP⟩ : ∃ P, P = plainsN (ts.take i) := ⟨_, rfl⟩
        have hk1b : (k == 1) = false := by simpa using hk1
        rw [if_neg hk1] at hpl
        have HO3 : Hid (w1.ownsRow w.heap.size 38 3 u3 P.length (lzsV P)) := by
          unfold Hid; rw [hP]; exact hownW
        have HB3 : Hid (Below w.heap.size w w1) := HW1.out
        have HX : Hid (w1.heap[bx]? = some (.cells #[.int .i64 k, .string lt, .int .i64 la, .bool lc, .slice aB m cB, .slice aN nN cN, .string li, .slice aK nK cK] 61 (0, 0))) := by
          unfold Hid; rw [hbx]; exact HW2.out
        have HP : Hid (∀ j, j ≤ m → (P ++ plainsB (bs.take j)).length ≤ 4000000) := by
          intro j _
          have q1 := plain_size ts (i + 1)
          have q2 := plainsB_le bs j
          rw [hpl] at q1
          rw [hP]
          simp only [List.length_append, List.length_nil] at q1 ⊢
          omega
        have HPL : Hid (plainsN (ts.take (i + 1)) = (P ++ plainsB bs) ++ plainsN ks) := by
          unfold Hid; rw [hpl, hP]; simp
        clear hpl hP hownW hbxn hw1s hown hb hsz0 HW1 HW2
        go_wp2_with fail
        rw [← hw1, ← hbx]
        clear hw1 hbx c0 c1 c2 c3 c4 c5 c6 c7
        go_loopw [3, 25] (fun v vi wr => ∃ j : Nat, j ≤ m ∧ vi = .int .i64 (j : Int) ∧ wr.ownsRow w.heap.size 38 3 v (P ++ plainsB (bs.take j)).length (lzsV (P ++ plainsB (bs.take j))) ∧ Below w.heap.size w wr ∧ wr.heap[bx]? = some (.cells #[.int .i64 k, .string lt, .int .i64 la, .bool lc, .slice aB m cB, .slice aN nN cN, .string li, .slice aK nK cK] 61 (0, 0))) (fun _ vi _ => m - (intOf vi).toNat)
        case atStart => exact ⟨0, Nat.zero_le _, rfl, by simpa [plainsB] using HO3.out, HB3.out, HX.out⟩
        case round =>
          obtain ⟨j, hj, rfl, hown4, hb4, hx4⟩ := hrel
          have hbs4 := hb4.size
          have hbx4 : bx < wr.heap.size := (Array.getElem?_eq_some_iff.1 hx4).1
          have HX4 : Hid _ := hx4
          have HNE4 := row_ne2 hown4 hx4 (by decide)
          have HNE4 : Hid _ := HNE4
          have HO4 : Hid (wr.ownsRow w.heap.size 38 3 u3 (P ++ plainsB (bs.take j)).length (lzsV (P ++ plainsB (bs.take j)))) := hown4
          have HB4 : Hid _ := hb4
          clear hx4 hown4 hb4
          by_cases hjm : j < m
          · have hjmi : (j : Int) < (m : Int) := by omega
            obtain ⟨gb, wd, t, at_, aq, nq, cq, ks2, rfl, hgb, d0, d1, d2, d3, hkd, hpl, hll⟩ := br_pick HBS.out.1 HBS.out.2 (j := j) (by rw [← HM.out]; exact hjm)
            have c0 := (HB4.out.cell (p := ⟨gb, j * 4, none⟩) hgb).trans d0
            have c1 := (HB4.out.cell (p := ⟨gb, j * 4 + 1, none⟩) hgb).trans d1
            have c2 := (HB4.out.cell (p := ⟨gb, j * 4 + 2, none⟩) hgb).trans d2
            have c3 := (HB4.out.cell (p := ⟨gb, j * 4 + 3, none⟩) hgb).trans d3
            have HKd : Hid (Kd w (.slice aq nq cq) ks2 r ∧ loadN ks2 ≤ 4000000 ∧ plainsB (bs.take (j + 1)) = plainsB (bs.take j) ++ plainsN ks2) := ⟨hkd, by omega, hpl⟩
            clear d0 d1 d2 d3 hkd hpl hll
            go_wp2_with fail
            have hw5 := HB4.out.alloc (o := .cells #[.string wd, .string t, .int .i64 at_, .slice aq nq cq] 63) hbs4
            refine (IH.out _ ks2 _ (HKd.out.1.keeps hw5) HKd.out.2.1).mono ?_
            rintro e w6 ⟨v2, rfl, hown2, h6⟩
            have hown6 := owns_below (HO4.out.alloc _) h6
            have hb6 : Below w.heap.size w w6 := hw5.trans (h6.mono hw5.size)
            have hx6 : w6.heap[bx]? = some (.cells #[.int .i64 k, .string lt, .int .i64 la, .bool lc, .slice (some ⟨gb, 0, none⟩) m cB, .slice aN nN cN, .string li, .slice aK nK cK] 61 (0, 0)) := (h6.block bx (by simp; omega)).trans ((Below.heap_alloc _ _ _ hbx4).trans HX4.out)
            have hbx6 : bx < w6.heap.size := (Array.getElem?_eq_some_iff.1 hx6).1
            have hbs6 := hb6.size
            have hsz1 := plainsN_load ks2
            have hsz2 := HP.out j hj
            clear h6 hw5 c0 c1 c2 c3
            go_wp2_with (at_builtin; refine append_two rfl _ _ rfl _ _ _ _ (P ++ plainsB (bs.take j)) (plainsN ks2) rfl hown6 rfl hown2 (by have := HKd.out.2.1; omega) hbs6 ?_)
            intro v' w7 hown7 hgrow
            have hb7 : Below w.heap.size w w7 := hb6.grown hgrow hbs6 (fun k hk => (hown6.lt k hk).1)
            have hx7 : w7.heap[bx]? = some (.cells #[.int .i64 k, .string lt, .int .i64 la, .bool lc, .slice (some ⟨gb, 0, none⟩) m cB, .slice aN nN cN, .string li, .slice aK nK cK] 61 (0, 0)) := (hgrow.block bx hbx6 (fun h => HNE4.out h.symm)).trans hx6
            have hown8 : w7.ownsRow w.heap.size 38 3 v' (P ++ plainsB (bs.take (j + 1))).length (lzsV (P ++ plainsB (bs.take (j + 1)))) := by
              rw [HKd.out.2.2]; simp only [List.length_append] at hown7 ⊢; exact hown7
            have HO8 : Hid _ := hown8
            have HB7 : Hid _ := hb7
            have HX7 : Hid _ := hx7
            clear hown7 hgrow hown6 hown2 hb6 hx6 hb7 hx7 hown8
            go_wp2
            go_roundw
            case rel => exact ⟨j + 1, by omega, by go_num, HO8.out, HB7.out, HX7.out⟩
            case measure => simp [intOf]; omega
          · obtain rfl : j = m := by omega
            have y7 := cell_in HX4.out 7 rfl
            go_wp2_with fail
            refine (IH.out _ ks _ (HKK.out.1.keeps HB4.out) HKK.out.2).mono ?_
            rintro e w6 ⟨v2, rfl, hown2, h6⟩
            have hown6 := owns_below HO4.out h6
            have hb6 : Below w.heap.size w w6 := HB4.out.trans (h6.mono HB4.out.size)
            have hbs6 := hb6.size
            have hsz1 := plainsN_load ks
            have hsz2 := HP.out j hj
            clear h6 y7
            go_wp2_with (at_builtin; refine append_two rfl _ _ rfl _ _ _ _ (P ++ plainsB (bs.take j)) (plainsN ks) rfl hown6 rfl hown2 (by have := HKK.out.2; omega) hbs6 ?_)
            intro v' w7 hown7 hgrow
            have hb7 : Below w.heap.size w w7 := hb6.grown hgrow hbs6 (fun k hk => (hown6.lt k hk).1)
            have hown8 : w7.ownsRow w.heap.size 38 3 v' (plainsN (ts.take (i + 1))).length (lzsV (plainsN (ts.take (i + 1)))) := by
              rw [HPL.out]
              have e : bs.take j = bs := List.take_of_length_le (by rw [HM.out]; exact Nat.le_refl _)
              rw [e] at hown7; simp only [List.length_append, List.append_assoc] at hown7 ⊢; exact hown7
            have HO8 : Hid _ := hown8
            have HB7 : Hid _ := hb7
            clear hown7 hgrow hown6 hown2 hb6 hb7 hown8
            go_wp2
            go_roundw
            case rel => exact ⟨i + 1, by omega, by go_num, HO8.out, HB7.out⟩
            case measure => simp [intOf]; omega
    · obtain rfl : i = n := by omega
      have HO2 : Hid (wr.ownsRow w.heap.size 38 3 u3 (plainsN ts).length (lzsV (plainsN ts))) := by
        have h := hown
        rw [HN.out, List.take_length] at h
        exact h
      clear hown
      go_wp2
      go_ret
      exact ⟨_, rfl, HO2.out, hb⟩

theorem plain_step (r : Nat) (ih : PlainC r) : PlainC (r + 1) := by
  intro v ts W hk hl
  obtain ⟨css, h1, h2⟩ := hk
  have hlen := h2.length
  rcases h1 with ⟨rfl, rfl⟩ | ⟨g, c, rfl, hc, hg, _, hcells⟩
  · have : ts = [] := List.length_eq_zero_iff.1 hlen.symm
    subst this
    exact plain_nil W
  · have := loadN_length ts
    exact plain_row r ih g css.length c css ts W hlen hg hcells h2 hl hc (by omega)
/-- The law's plain answers the plain lines of any blocks. -/
theorem plain_all : ∀ r, PlainC r
  | 0 => plain_zero
  | r + 1 => plain_step r (plain_all r)
end Go.Proofs.YtbciedpjaajhcaaDoor
