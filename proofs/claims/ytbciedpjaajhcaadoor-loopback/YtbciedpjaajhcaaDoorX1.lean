/-
  The scanner's rows in memory, and what endName and end of a dollar write.
-/
import Derived.Test.YtbciedpjaajhcaaDoorE3
import Derived.Lib.Strings
import Derived.Test.YtbciedpjaajhcaaDoorShelf
import Derived.Test.YtbciedpjaajhcaaDoorMShelfB
import Derived.Deep.RegionHeld3
import Derived.Deep.LoopGhost
import Derived.Laws.RangeAny
import Derived.Laws.Runes
import Derived.Laws.AppendOwnNone
import Derived.WalkMore
import Derived.Maps.Ext
import Derived.Maps.OwnSet
import Derived.Test.YtbciedpjaajhcaaDoorB0
import Derived.Deep.RegionLaw
import Derived.Maps.AppendAt
namespace Go.Proofs.YtbciedpjaajhcaaDoor.Ex
open Go.RowKit Go.Shelf

def dlC (d : Dl) : List Value := [.int .i64 (d.fr : Int), .int .i64 (d.en : Int), .int .i64 (d.nf : Int), .int .i64 (d.nt : Int), .int .i64 (d.mf : Int), .int .i64 (d.mt : Int)]
def brC (k : Br) : List Value := [.int .i64 (k.wh : Int), .int .u8 (k.o.toNat : Int), .int .u8 (k.c.toNat : Int), .int .i64 (k.deep : Int)]
def dlsV (l : List Dl) : List Value := l.flatMap dlC
def brsV (l : List Br) : List Value := l.flatMap brC
theorem fl_len {α : Type} (f : α → List Value) (k : Nat) (hk : ∀ x, (f x).length = k) (l : List α) : (l.flatMap f).length = l.length * k := by
  induction l with
  | nil => simp
  | cons a r ih => rw [List.flatMap_cons, List.length_append, hk, ih, List.length_cons, Nat.succ_mul]; omega
theorem fl_get {α : Type} (f : α → List Value) (k : Nat) (hk : ∀ x, (f x).length = k) : ∀ (l : List α) (i j : Nat) (x : α), l[i]? = some x → j < k → (l.flatMap f)[i * k + j]? = (f x)[j]?
  | [], i, j, x, h, _ => by simp at h
  | a :: r, 0, j, x, h, hj => by
    simp at h; subst h
    rw [List.flatMap_cons, Nat.zero_mul, Nat.zero_add, List.getElem?_append_left (by rw [hk]; exact hj)]
  | a :: r, i + 1, j, x, h, hj => by
    rw [List.flatMap_cons, List.getElem?_append_right (by rw [hk, Nat.succ_mul]; omega), hk, show (i + 1) * k + j - k = i * k + j by rw [Nat.succ_mul]; omega]
    exact fl_get f k hk r i j x (by simpa using h) hj
theorem fl_set {α : Type} (f : α → List Value) (k : Nat) (hk : ∀ x, (f x).length = k) : ∀ (l : List α) (i j : Nat) (x y : α) (u : Value), l[i]? = some x → j < k → f y = (f x).set j u → (l.set i y).flatMap f = (l.flatMap f).set (i * k + j) u
  | [], i, j, x, y, u, h, _, _ => by simp at h
  | a :: r, 0, j, x, y, u, h, hj, hf => by
    simp at h; subst h
    rw [List.set_cons_zero, List.flatMap_cons, List.flatMap_cons, Nat.zero_mul, Nat.zero_add, List.set_append_left _ _ (by rw [hk]; exact hj), hf]
  | a :: r, i + 1, j, x, y, u, h, hj, hf => by
    rw [List.set_cons_succ, List.flatMap_cons, List.flatMap_cons, List.set_append_right _ _ (by rw [hk, Nat.succ_mul]; omega), hk, show (i + 1) * k + j - k = i * k + j by rw [Nat.succ_mul]; omega, fl_set f k hk r i j x y u (by simpa using h) hj hf]
theorem dl_len (x : Dl) : (dlC x).length = 6 := rfl
theorem br_len (x : Br) : (brC x).length = 4 := rfl
theorem dls_one (l : List Dl) : ∀ u ∈ dlsV l, u.oneCell' = true := by
  intro u hu
  obtain ⟨d, _, h2⟩ := List.mem_flatMap.1 hu
  simp only [dlC, List.mem_cons, List.not_mem_nil, or_false] at h2
  rcases h2 with rfl | rfl | rfl | rfl | rfl | rfl <;> rfl
theorem brs_one (l : List Br) : ∀ u ∈ brsV l, u.oneCell' = true := by
  intro u hu
  obtain ⟨d, _, h2⟩ := List.mem_flatMap.1 hu
  simp only [brC, List.mem_cons, List.not_mem_nil, or_false] at h2
  rcases h2 with rfl | rfl | rfl | rfl <;> rfl
theorem infoD : (Tryd.prog.info? 142).map (fun i => (i.zero, i.size, i.bytes)) = some (some (.agg #[.int .i64 0, .int .i64 0, .int .i64 0, .int .i64 0, .int .i64 0, .int .i64 0]), 6, 48) := by kernel_rfl
theorem infoB : (Tryd.prog.info? 147).map (fun i => (i.zero, i.size, i.bytes)) = some (some (.agg #[.int .i64 0, .int .u8 0, .int .u8 0, .int .i64 0]), 4, 24) := by kernel_rfl

set_option maxHeartbeats 400000 in
theorem endName_no (g o nt at_ : Nat) (w : World) (h : w.cell? ⟨g, o + 3, none⟩ = some (.int .i64 (nt : Int))) (hn : 1 ≤ nt) :
    Calls Tryd.prog 90 #[.pointer (some ⟨g, o, none⟩), .int .i64 (at_ : Int)] w fun e w' => e = .returned (.bool false) ∧ w = w' := by
  have hn2 : (0 : Int) < (nt : Int) := by omega
  clear hn
  go_enter Tryd.func90, Tryd.ntmps90
  go_wp2
  go_ret
  exact ⟨rfl, rfl⟩
set_option maxHeartbeats 400000 in
theorem endName_yes (g o at_ : Nat) (w : World) (h : w.cell? ⟨g, o + 3, none⟩ = some (.int .i64 0)) (hf : w.frozen? ⟨g, o + 3, none⟩ = false) :
    Calls Tryd.prog 90 #[.pointer (some ⟨g, o, none⟩), .int .i64 (at_ : Int)] w fun e w' => e = .returned (.bool true) ∧ w.setCell ⟨g, o + 3, none⟩ (.int .i64 (at_ : Int)) = w' := by
  go_enter Tryd.func90, Tryd.ntmps90
  go_wp2
  go_ret
  exact ⟨rfl, rfl⟩
set_option maxHeartbeats 400000 in
theorem end_no (g o nt at_ : Nat) (x1 x5 : Value) (w : World) (h : w.cell? ⟨g, o + 3, none⟩ = some (.int .i64 (nt : Int))) (hn : 1 ≤ nt) (hat : at_ ≤ 10000000) (h1 : w.cell? ⟨g, o + 1, none⟩ = some x1) (h5 : w.cell? ⟨g, o + 5, none⟩ = some x5) (hf : ∀ k, w.frozen? ⟨g, k, none⟩ = false) :
    Calls Tryd.prog 91 #[.pointer (some ⟨g, o, none⟩), .int .i64 (at_ : Int)] w fun e w' => e = .returned (.tuple #[]) ∧ (w.setCell ⟨g, o + 5, none⟩ (.int .i64 (at_ : Int))).setCell ⟨g, o + 1, none⟩ (.int .i64 ((at_ : Int) + 1)) = w' := by
  have HE : Hid (Calls Tryd.prog 90 #[.pointer (some ⟨g, o, none⟩), .int .i64 (at_ : Int)] w fun e w' => e = .returned (.bool false) ∧ w = w') := endName_no g o nt at_ w h hn
  have f1 := hf (o + 1)
  have f5 := hf (o + 5)
  clear hn h hf
  go_enter Tryd.func91, Tryd.ntmps91
  go_wp2_with fail
  refine HE.out.mono ?_
  rintro e w' ⟨rfl, rfl⟩
  go_wp2
  go_end0
  exact ⟨rfl, rfl⟩
set_option maxHeartbeats 400000 in
theorem end_yes (g o at_ : Nat) (x1 : Value) (w : World) (h : w.cell? ⟨g, o + 3, none⟩ = some (.int .i64 0)) (hat : at_ ≤ 10000000) (h1 : w.cell? ⟨g, o + 1, none⟩ = some x1) (hf : ∀ k, w.frozen? ⟨g, k, none⟩ = false) :
    Calls Tryd.prog 91 #[.pointer (some ⟨g, o, none⟩), .int .i64 (at_ : Int)] w fun e w' => e = .returned (.tuple #[]) ∧ (w.setCell ⟨g, o + 3, none⟩ (.int .i64 (at_ : Int))).setCell ⟨g, o + 1, none⟩ (.int .i64 ((at_ : Int) + 1)) = w' := by
  have HE : Hid (Calls Tryd.prog 90 #[.pointer (some ⟨g, o, none⟩), .int .i64 (at_ : Int)] w fun e w' => e = .returned (.bool true) ∧ w.setCell ⟨g, o + 3, none⟩ (.int .i64 (at_ : Int)) = w') := endName_yes g o at_ w h (hf _)
  have f1 := hf (o + 1)
  clear hf
  go_enter Tryd.func91, Tryd.ntmps91
  go_wp2_with fail
  refine HE.out.mono ?_
  rintro e w' ⟨rfl, rfl⟩
  go_wp2
  go_end0
  exact ⟨rfl, rfl⟩

/-- A scanner in memory: its block, the dollars that were found, the brackets that are open. -/
structure SnR (base b : Nat) (s : ByteArray) (vf vo : Value) (σ : Sn) (w : World) : Prop where
  blk : w.heap[b]? = some (.cells #[.string s, .int .i64 (σ.pos : Int), vf, vo] 121 (0, 0))
  rf : w.ownsRow base 142 6 vf σ.found.length (dlsV σ.found)
  ro : w.ownsRow base 147 4 vo σ.opn.length (brsV σ.opn)
  hb : base ≤ b
structure SnAt (base b : Nat) (s : ByteArray) (vf vo : Value) (σ : Sn) (w : World) : Prop extends SnR base b s vf vo σ w where
  fine : σ.Fine (bl s)
theorem row_ne' {w : World} {base g : Nat} {v : Value} {e T : TypeId} {k n : Nat} {xs : List Value} {cs : Array Value} (h : w.ownsRow base e k v n xs) (hg : w.heap[g]? = some (.cells cs T (0, 0))) (hT : ¬ e = T) : v.ownBlock ≠ some g := fun hv => by
  obtain ⟨cur, hc⟩ := row_type h hv
  rw [hg] at hc
  simp at hc
  exact hT hc.2.symm
section
variable {base b : Nat} {s : ByteArray} {vf vo : Value} {σ : Sn} {w w' : World}
theorem SnR.lt (h : SnR base b s vf vo σ w) : b < w.heap.size := (Array.getElem?_eq_some_iff.1 h.blk).1
theorem SnR.fr (h : SnR base b s vf vo σ w) (i : Nat) : w.frozen? ⟨b, i, none⟩ = false := by simp [World.frozen?, h.blk]
theorem SnR.c0 (h : SnR base b s vf vo σ w) : w.cell? ⟨b, 0, none⟩ = some (.string s) := V.cell_in h.blk 0 rfl
theorem SnR.c1 (h : SnR base b s vf vo σ w) : w.cell? ⟨b, 1, none⟩ = some (.int .i64 (σ.pos : Int)) := V.cell_in h.blk 1 rfl
theorem SnR.c2 (h : SnR base b s vf vo σ w) : w.cell? ⟨b, 2, none⟩ = some vf := V.cell_in h.blk 2 rfl
theorem SnR.c3 (h : SnR base b s vf vo σ w) : w.cell? ⟨b, 3, none⟩ = some vo := V.cell_in h.blk 3 rfl
theorem SnR.nf (h : SnR base b s vf vo σ w) : vf.ownBlock ≠ some b := row_ne' h.rf h.blk (by decide)
theorem SnR.no (h : SnR base b s vf vo σ w) : vo.ownBlock ≠ some b := row_ne' h.ro h.blk (by decide)
theorem SnR.fo (h : SnR base b s vf vo σ w) (g : Nat) (hg : vf.ownBlock = some g) : vo.ownBlock ≠ some g := by
  obtain ⟨cur, hc⟩ := row_type h.rf hg
  exact row_ne' h.ro hc (by decide)
theorem SnR.below (h : SnR base b s vf vo σ w) (hb : Below w.heap.size w w') : SnR base b s vf vo σ w' :=
  ⟨(hb.block b h.lt).trans h.blk, owns_below h.rf hb, owns_below h.ro hb, h.hb⟩
theorem SnR.drewN (h : SnR base b s vf vo σ w) (n : Nat) : SnR base b s vf vo σ (w.drewN n) := h.below (below_drewN (Below.refl _ _) n)
/-- Of a dollar that was found: where it lies. -/
theorem SnR.dollar (h : SnR base b s vf vo σ w) {i : Nat} {D : Dl} (hD : σ.found[i]? = some D) : ∃ g cap, vf = .slice (some ⟨g, 0, none⟩) σ.found.length cap ∧ i < σ.found.length ∧ ∀ j u, (dlC D)[j]? = some u → w.cell? ⟨g, i * 6 + j, none⟩ = some u := by
  have hi := (List.getElem?_eq_some_iff.1 hD).1
  rcases V.row_src h.rf with ⟨_, h2, _⟩ | ⟨g, cap, hv, _, _, _, hc⟩
  · omega
  · refine ⟨g, cap, hv, hi, fun j u hu => ?_⟩
    have hj : j < 6 := (List.getElem?_eq_some_iff.1 hu).1
    have := hc (i * 6 + j) u (by unfold dlsV; rw [fl_get dlC 6 dl_len _ i j D hD hj]; exact hu)
    rw [V.add_none, Nat.zero_add] at this
    exact this
theorem SnR.bracket (h : SnR base b s vf vo σ w) {i : Nat} {k : Br} (hk : σ.opn[i]? = some k) : ∃ g cap, vo = .slice (some ⟨g, 0, none⟩) σ.opn.length cap ∧ i < σ.opn.length ∧ σ.opn.length ≤ cap ∧ ∀ j u, (brC k)[j]? = some u → w.cell? ⟨g, i * 4 + j, none⟩ = some u := by
  have hi := (List.getElem?_eq_some_iff.1 hk).1
  rcases V.row_src h.ro with ⟨_, h2, _⟩ | ⟨g, cap, hv, _, hcap, _, hc⟩
  · omega
  · refine ⟨g, cap, hv, hi, hcap, fun j u hu => ?_⟩
    have hj : j < 4 := (List.getElem?_eq_some_iff.1 hu).1
    have := hc (i * 4 + j) u (by unfold brsV; rw [fl_get brC 4 br_len _ i j k hk hj]; exact hu)
    rw [V.add_none, Nat.zero_add] at this
    exact this
end
end Go.Proofs.YtbciedpjaajhcaaDoor.Ex
