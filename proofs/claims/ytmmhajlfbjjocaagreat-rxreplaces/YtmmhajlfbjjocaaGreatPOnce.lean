/-
  The steps are found once.
-/
import Derived.Test.YtmmhajlfbjjocaaGreatPRep
import Derived.Defers
import Derived.Laws.LoneSync
import Derived.RegionCalls
import Derived.Laws.Pointers
namespace Go.Proofs.YtmmhajlfbjjocaaGreat
open Go.RowKit Go.Shelf RxSem

theorem disable (w : World) : (callFunc 85 #[]).run Tryz.prog w = .ok (.value (.tuple #[])) w := run_call_mark0 Tryz.func85 (by kernel_rfl) (by kernel_rfl) (by kernel_rfl) .disable (by kernel_rfl) w
theorem enable (w : World) : (callFunc 87 #[]).run Tryz.prog w = .ok (.value (.tuple #[])) w := run_call_mark0 Tryz.func87 (by kernel_rfl) (by kernel_rfl) (by kernel_rfl) .enable (by kernel_rfl) w
theorem acquire (a : Addr) (w : World) : (callFunc 88 #[.pointer (some a)]).run Tryz.prog w = .ok (.value (.tuple #[])) w := run_call_marked Tryz.func88 (by kernel_rfl) (by kernel_rfl) (by kernel_rfl) .acquire (by kernel_rfl) a w
theorem releaseMerge (a : Addr) (w : World) : (callFunc 90 #[.pointer (some a)]).run Tryz.prog w = .ok (.value (.tuple #[])) w := run_call_marked Tryz.func90 (by kernel_rfl) (by kernel_rfl) (by kernel_rfl) .releaseMerge (by kernel_rfl) a w

theorem store_deferred (a : Addr) (x : Value) (u : FrameMode) (w : World) (hc : w.cell? a = some x) (hz : w.frozen? a = false) :
    CallsD Tryz.prog 73 #[.pointer (some a), .bool true] u w fun e u' w' => u' = u ∧ (e = .returned (.tuple #[]) ∧ w' = w.drew.setCell a (.int .u32 1)) := by
  have hc' : w.drew.cell? a = some x := by go_simp
  have hz' : w.drew.frozen? a = false := by go_simp
  have hst := run_call_store (P := Tryz.prog) Tryz.func80 (by kernel_rfl) (by kernel_rfl) (by kernel_rfl) (by kernel_rfl) (k := .u32) (y := 1) hc' hz'
  go_enter_d Tryz.func73, Tryz.ntmps73
  go_wp2
  go_region_calls
  all_goals (go_end0; exact ⟨rfl, rfl⟩)
set_option maxRecDepth 100000 in
set_option maxHeartbeats 1600000 in
theorem unlock_deferred (a : Addr) (u : FrameMode) (w : World) (hc : w.cell? a = some (.int .i32 1)) (hz : w.frozen? a = false) :
    CallsD Tryz.prog 72 #[.pointer (some a)] u w fun e u' w' => u' = u ∧ (e = .returned (.tuple #[]) ∧ w' = w.setCell a (.int .i32 0)) := by
  have hd := disable
  have he := enable
  have hr := releaseMerge
  have hadd := run_call_add (P := Tryz.prog) Tryz.func91 (by kernel_rfl) (by kernel_rfl) (by kernel_rfl) .i32 (by kernel_rfl) (y := -1) (s := 0) hc hz (by simp [go_sem]; rfl)
  have hcv := run_convert_to_unsafe (P := Tryz.prog) (src := 160) (dst := 118) Tryz.underlying160 Tryz.underlying118 (by kernel_rfl) hc
  go_enter_d Tryz.func72, Tryz.ntmps72
  go_wp2
  go_end0
  go_wp2
  go_end0
  exact ⟨rfl, rfl⟩
set_option maxRecDepth 100000 in
set_option maxHeartbeats 1600000 in
theorem lock_free (a : Addr) (w : World) (hc : w.cell? a = some (.int .i32 0)) (hz : w.frozen? a = false) :
    Calls Tryz.prog 71 #[.pointer (some a)] w fun e w' => e = .returned (.tuple #[]) ∧ w' = w.setCell a (.int .i32 1) := by
  have hd := disable
  have he := enable
  have ha := acquire
  have hcas := run_call_cas_hit (P := Tryz.prog) Tryz.func86 (by kernel_rfl) (by kernel_rfl) (by kernel_rfl) .i32 (by kernel_rfl) (y := 1) hc hz
  have hc' : (w.setCell a (.int .i32 1)).cell? a = some (.int .i32 1) := World.cell?_setCell_same w a _ hc
  have hcv := run_convert_to_unsafe (P := Tryz.prog) (src := 160) (dst := 118) Tryz.underlying160 Tryz.underlying118 (by kernel_rfl) hc'
  go_enter Tryz.func71, Tryz.ntmps71
  go_wp2
  first | go_end0 | (simp only [Exit.inBlock, Exit.then]; refine bodyPost_ret (results_none rfl _ _ _) rfl ?_) | refine bodyPost_ret (results_none rfl _ _ _) rfl ?_
  go_wp2
  go_end0
  exact ⟨rfl, rfl⟩

def rxC (d l : Int) (t : ByteArray) (sv pv : Value) : Array Value := #[.bool true, .string t, .int .u32 d, .int .i32 l, .int .u32 0, sv, pv]
/-- What finding the steps gives. -/
def StepsC : Prop := ∀ (L : List SG) (k : List Nd) (v : Value) (base : Nat) (w : World), w.ownsRow base 98 8 v L.length (L.flatMap signC) → (∀ x ∈ L, x.v.Ok) → SP .ways (L.map SG.abs) k [] → L.length ≤ 200 →
  Calls Tryz.prog 52 #[v] w fun e w' => Below w.heap.size w w' ∧ ∃ (gs cap : Nat) (SL : List SV), e = .returned (.slice (some ⟨gs, 0, none⟩) SL.length cap) ∧ w.heap.size ≤ gs ∧ (∃ cur, w'.heap[gs]? = some (.cells cur 96 (0, 0)) ∧ cur.toList.take (7 * SL.length) = SL.flatMap stepC) ∧ SL.map SV.abs = code (.alt k) ++ [.done] ∧ ∀ x ∈ SL, x.Ok
/-- Behind the function that finds them. -/
def FoundPost (b : Nat) (t : ByteArray) (k : List Nd) (l : Int) (w : World) (e : Ending) (w' : World) : Prop := e = .returned (.tuple #[]) ∧ Wrote b w w' ∧ ∃ (gs cap : Nat) (SL : List SV), w'.heap[b]? = some (.cells (rxC 0 l t (.slice none 0 0) (.slice (some ⟨gs, 0, none⟩) SL.length cap)) 63 (0, 0)) ∧ w.heap.size ≤ gs ∧ (∃ cur, w'.heap[gs]? = some (.cells cur 96 (0, 0)) ∧ cur.toList.take (7 * SL.length) = SL.flatMap stepC) ∧ SL.map SV.abs = code (.alt k) ++ [.done] ∧ ∀ x ∈ SL, x.Ok

set_option maxRecDepth 20000 in
set_option maxHeartbeats 400000 in
theorem found1_any (hst : StepsC) (b : Nat) (pl : Nat) (t : ByteArray) (L : List SG) (k : List Nd) (v : Value) (base : Nat) (l : Int) (w : World) (hp : w.cell? ⟨pl, 0, none⟩ = some (.pointer (some ⟨b, 0, none⟩))) (hb : w.heap[b]? = some (.cells (rxC 0 l t v (.slice none 0 0)) 63 (0, 0))) (hrow : w.ownsRow base 98 8 v L.length (L.flatMap signC)) (hok : ∀ x ∈ L, x.v.Ok) (hsp : SP .ways (L.map SG.abs) k []) (hL : L.length ≤ 200) (hpb : pl ≠ b) :
    Calls Tryz.prog 51 #[.pointer (some ⟨pl, 0, none⟩)] w (FoundPost b t k l w) := by
  have c5 : w.cell? ⟨b, 5, none⟩ = some v := by simp only [World.cell?, hb]; rfl
  have c6 : w.cell? ⟨b, 6, none⟩ = some (.slice none 0 0) := by simp only [World.cell?, hb]; rfl
  have fb : ∀ j, w.frozen? ⟨b, j, none⟩ = false := fun j => by simp [World.frozen?, hb]
  have hbl : b < w.heap.size := (Array.getElem?_eq_some_iff.1 hb).1
  have hpl : pl < w.heap.size := World.block_lt_of_cell? w _ hp
  obtain ⟨av, cv, hv⟩ := row_slice hrow
  obtain ⟨n, hn⟩ : ∃ n, n = L.length := ⟨_, rfl⟩
  rw [← hn] at hv
  subst hv
  have HS : Hid (Calls Tryz.prog 52 #[.slice av n cv] w.drew fun e w' => Below w.heap.size w w' ∧ ∃ (gs cap : Nat) (SL : List SV), e = .returned (.slice (some ⟨gs, 0, none⟩) SL.length cap) ∧ w.heap.size ≤ gs ∧ (∃ cur, w'.heap[gs]? = some (.cells cur 96 (0, 0)) ∧ cur.toList.take (7 * SL.length) = SL.flatMap stepC) ∧ SL.map SV.abs = code (.alt k) ++ [.done] ∧ ∀ x ∈ SL, x.Ok) := by
    refine (hst L k (.slice av n cv) base w.drew ?_ hok hsp hL).mono ?_
    · exact hrow
    · rintro e w' ⟨h1, h2⟩
      exact ⟨(Below.refl _ w).drew.trans h1, h2⟩
  have HB : Hid (w.heap[b]? = some (.cells (rxC 0 l t (.slice av n cv) (.slice none 0 0)) 63 (0, 0))) := hb
  clear hrow hok hsp hL hst hb hn
  go_enter Tryz.func51, Tryz.ntmps51
  go_wp2_with fail
  go_region_with (first | (go_at_call 52; refine HS.out.mono ?_; rintro e w1 ⟨hb1, gs, cap, SL, rfl, hg1, hg2, hg3, hg4⟩; have hx6 : w1.cell? ⟨b, 6, none⟩ = some (.slice none 0 0) := (World.cell?_of_block (hb1.block b hbl)).trans c6; have hxp : w1.cell? ⟨pl, 0, none⟩ = some (.pointer (some ⟨b, 0, none⟩)) := (World.cell?_of_block (hb1.block pl hpl)).trans hp; have hx5 : w1.cell? ⟨b, 5, none⟩ = some (.slice av n cv) := (World.cell?_of_block (hb1.block b hbl)).trans c5; have hxf : ∀ j, w1.frozen? ⟨b, j, none⟩ = false := fun j => (World.frozen?_of_block (hb1.block b hbl)).trans (fb j)))
  all_goals
    have HX : Hid (Below w.heap.size w w1 ∧ w.heap.size ≤ gs ∧ (∃ cur, w1.heap[gs]? = some (.cells cur 96 (0, 0)) ∧ cur.toList.take (7 * SL.length) = SL.flatMap stepC) ∧ SL.map SV.abs = code (.alt k) ++ [.done] ∧ ∀ x ∈ SL, x.Ok) := ⟨hb1, hg1, hg2, hg3, hg4⟩
    have hpb2 : ¬ b = pl := Ne.symm hpb
    clear hb1 hg1 hg2 hg3 hg4 HS
    go_wp2_with fail
    go_end0
    obtain ⟨hb1, hg1, ⟨cur, hg2, hg2'⟩, hg3, hg4⟩ := HX.out
    refine ⟨rfl, ((Wrote.of_below hb1).set _).set _, gs, cap, SL, heap_set (heap_set ((hb1.block b hbl).trans HB.out) _) _, hg1, ⟨cur, ?_, hg2'⟩, hg3, hg4⟩
    rw [Below.heap_setCell _ _ _ _ (by show gs ≠ b; omega), Below.heap_setCell _ _ _ _ (by show gs ≠ b; omega)]
    exact hg2
end Go.Proofs.YtmmhajlfbjjocaaGreat
