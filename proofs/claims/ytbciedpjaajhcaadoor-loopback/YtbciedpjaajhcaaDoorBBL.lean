/-
  Blocks in memory, apart from blocks that are written.
-/
import Derived.Test.YtbciedpjaajhcaaDoorBBK
import Derived.Test.YtbciedpjaajhcaaDoorBT
import Derived.Deep.Cut
import Derived.Deep.AppendLies
import Derived.Deep.RegionLaw
namespace Go.Proofs.YtbciedpjaajhcaaDoor
open Go.RowKit Go.Shelf

/-- What lies within a block, none of it hot. -/
def KdH (H : Nat → Prop) (w : World) (v : Value) (ts : List Nd) : Nat → Prop
  | 0 => v = nilS ∧ ts = []
  | r + 1 => NdsAt H w r v ts
theorem KdH.keeps {H H' : Nat → Prop} {w w' : World} {v : Value} {ts : List Nd} {r : Nat} (h : KdH H w v ts r) (hk : Keeps H H' w w') : KdH H' w' v ts r := by
  cases r with
  | zero => exact h
  | succ r => exact NdsAt.keeps h hk
theorem KdH.noth (H : Nat → Prop) (w : World) (r : Nat) : KdH H w nilS [] r := by
  cases r with
  | zero => exact ⟨rfl, rfl⟩
  | succ r => exact ⟨[], .inl ⟨rfl, rfl⟩, .nil⟩
theorem KdH.slice {H : Nat → Prop} {w : World} {v : Value} {ts : List Nd} {r : Nat} (h : KdH H w v ts r) : ∃ a n c, v = .slice a n c := by
  cases r with
  | zero => exact ⟨none, 0, 0, h.1⟩
  | succ r => obtain ⟨css, h1, _⟩ := h; obtain ⟨a, c, e⟩ := row_slice h1; exact ⟨a, _, c, e⟩
theorem KdH.kd {w : World} {v : Value} {ts : List Nd} {r : Nat} (h : KdH H0 w v ts r) : Kd w v ts r := by cases r <;> exact h
def BrH (H : Nat → Prop) (w : World) (r : Nat) (c : List Value) (b : Bk) : Prop := ∃ wd t a vK ks, c = bkC wd t a vK ∧ b = Bk.mk wd t a ks ∧ KdH H w vK ks r
theorem BrH.keeps {H H' : Nat → Prop} {w w' : World} {r : Nat} {c : List Value} {b : Bk} (h : BrH H w r c b) (hk : Keeps H H' w w') : BrH H' w' r c b := by
  obtain ⟨wd, t, a, vK, ks, e1, e2, e3⟩ := h
  exact ⟨wd, t, a, vK, ks, e1, e2, e3.keeps hk⟩
/-- A block in memory, whatever its kind; and the same block once its branches and what lies within were laid anew. -/
theorem nd_open {H : Nat → Prop} {w : World} {r : Nat} {cs : List Value} {t : Nd} (h : NdAt H w r cs t) :
    ∃ (k : Int) (l : Lz) (vB : Value) (aN : Option Addr) (nN cN : Nat) (li : ByteArray) (vK : Value) (bs : List Bk) (css : List (List Value)) (ks : List Nd), cs = ndC k l vB (.slice aN nN cN) li vK ∧ RowAt H w 4 vB css ∧ All2 (BrH H w r) css bs ∧ KdH H w vK ks r ∧ 1 + loadB bs + loadN ks ≤ t.load ∧
      ∀ (H' : Nat → Prop) (w' : World) (vB' : Value) (css' : List (List Value)) (vK' : Value), Keeps H H' w w' → RowAt H' w' 4 vB' css' → All2 (BrH H' w' r) css' bs → (bs = [] → vB' = nilS) → KdH H' w' vK' ks r → (vK = nilS → vK' = nilS) → NdAt H' w' r (ndC k l vB' (.slice aN nN cN) li vK') t := by
  cases t with
  | pl l =>
    refine ⟨1, l, nilS, none, 0, 0, E, nilS, [], [], [], nd_pl' h, .inl ⟨rfl, rfl⟩, .nil, KdH.noth H w r, by simp [Nd.load, loadB, loadN], fun H' w' vB' css' vK' _ _ _ h1 _ h2 => ?_⟩
    rw [h1 rfl, h2 rfl]; exact nd_pl r l
  | cn l bs =>
    cases r with
    | zero => exact h.elim
    | succ r =>
      obtain ⟨vB, css, h1, h2, h3⟩ := nd_cn h
      refine ⟨2, l, vB, none, 0, 0, E, nilS, bs, css, [], h1, h2, h3.mono fun c b hb => ?_, KdH.noth H w _, by simp [Nd.load, loadN], fun H' w' vB' css' vK' _ g1 g2 _ _ g4 => ?_⟩
      · cases b with
        | mk wd t a ks => obtain ⟨vK, e1, e2⟩ := hb; exact ⟨wd, t, a, vK, ks, e1, rfl, e2⟩
      · rw [g4 rfl]
        refine cn_nd g1 (g2.mono fun c b hb => ?_)
        obtain ⟨wd, t, a, vK, ks, e1, rfl, e3⟩ := hb
        exact ⟨vK, e1, e3⟩
  | fr l ns li ks =>
    cases r with
    | zero => exact h.elim
    | succ r =>
      obtain ⟨vN, vK, h1, h2, h3⟩ := nd_fr h
      obtain ⟨aN, cN, rfl⟩ := row_slice h2
      refine ⟨3, l, nilS, aN, _, cN, li, vK, [], [], ks, h1, .inl ⟨rfl, rfl⟩, .nil, h3, by simp [Nd.load, loadB], fun H' w' vB' css' vK' hk _ _ g3 g4 _ => ?_⟩
      rw [g3 rfl]
      exact fr_nd (h2.keeps hk) g4

theorem lt_alloc (w : World) (o : Obj) : w.heap.size < (w.alloc o).heap.size := by simp
theorem ba2 {w w1 : World} (h : Below w.heap.size w w1) (o : Obj) : Below w.heap.size w (w1.alloc o) := h.alloc h.size o
theorem bt2 {w w1 w2 : World} (h : Below w.heap.size w w1) (k : Below w1.heap.size w1 w2) : Below w.heap.size w w2 := h.trans (k.mono h.size)
theorem bs2 {w w1 : World} {b i : Nat} {x : Value} (h : Below w.heap.size w w1) (hb : w.heap.size ≤ b) : Below w.heap.size w (w1.setCell ⟨b, i, none⟩ x) := h.setCell (p := ⟨b, i, none⟩) hb x
theorem bd2 {w w1 : World} (h : Below w.heap.size w w1) : Below w.heap.size w w1.drew := h.drew
abbrev zR : Obj := .cells #[.int .i64 0, .string ⟨#[]⟩, .int .i64 0, .bool false, .slice none 0 0, .slice none 0 0, .string ⟨#[]⟩, .slice none 0 0] 61
theorem cells8 {w : World} {b : Nat} {u0 u1 u2 u3 u4 u5 u6 u7 : Value} {T : TypeId} (h : w.heap[b]? = some (.cells #[u0, u1, u2, u3, u4, u5, u6, u7] T (0, 0))) :
    (w.cell? ⟨b, 0, none⟩ = some u0 ∧ w.cell? ⟨b, 1, none⟩ = some u1 ∧ w.cell? ⟨b, 2, none⟩ = some u2 ∧ w.cell? ⟨b, 3, none⟩ = some u3 ∧ w.cell? ⟨b, 4, none⟩ = some u4 ∧ w.cell? ⟨b, 5, none⟩ = some u5 ∧ w.cell? ⟨b, 6, none⟩ = some u6 ∧ w.cell? ⟨b, 7, none⟩ = some u7) ∧
    (w.frozen? ⟨b, 0, none⟩ = false ∧ w.frozen? ⟨b, 1, none⟩ = false ∧ w.frozen? ⟨b, 2, none⟩ = false ∧ w.frozen? ⟨b, 3, none⟩ = false ∧ w.frozen? ⟨b, 4, none⟩ = false ∧ w.frozen? ⟨b, 5, none⟩ = false ∧ w.frozen? ⟨b, 6, none⟩ = false ∧ w.frozen? ⟨b, 7, none⟩ = false) :=
  ⟨⟨cell_in h 0 rfl, cell_in h 1 rfl, cell_in h 2 rfl, cell_in h 3 rfl, cell_in h 4 rfl, cell_in h 5 rfl, cell_in h 6 rfl, cell_in h 7 rfl⟩,
    by simp [World.frozen?, h], by simp [World.frozen?, h], by simp [World.frozen?, h], by simp [World.frozen?, h], by simp [World.frozen?, h], by simp [World.frozen?, h], by simp [World.frozen?, h], by simp [World.frozen?, h]⟩
/-- What blocks answers of what lies within a block, none of it hot: no more is it then. -/
def BlPost (H : Nat → Prop) (r : Nat) (v : Value) (ts : List Nd) (W : World) (e : Ending) (w' : World) : Prop := ∃ a n c, e = .returned (.slice a n c) ∧ KdH H w' (.slice a n c) ts r ∧ (v = nilS → Value.slice a n c = nilS) ∧ Below W.heap.size W w'
def BlocksH (r : Nat) : Prop := ∀ (H : Nat → Prop) (v : Value) (ts : List Nd) (W : World) (left : Nat), (∀ g, H g → g < W.heap.size) → KdH H W v ts r → loadN ts ≤ 4000000 → r ≤ left → left ≤ 1000 → Calls Tryd.prog 11 #[v, .int .i64 (left : Int)] W (BlPost H r v ts W)
theorem blocksH_zero : BlocksH 0 := by
  rintro H v ts W left _ ⟨rfl, rfl⟩ _ _ hl
  exact (blocks_nil W left hl).mono fun e w' h => ⟨none, 0, 0, h.1, ⟨rfl, rfl⟩, fun _ => rfl, by rw [← h.2]; exact Below.refl _ _⟩
end Go.Proofs.YtbciedpjaajhcaaDoor
