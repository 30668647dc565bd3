/-
  The slow way of a Once, and what is found.
-/
import Derived.Test.YtmmhajlfbjjocaaGreatPOnce
namespace Go.Proofs.YtmmhajlfbjjocaaGreat
open Go.RowKit Go.Shelf RxSem

theorem load_any (a : Addr) (x : Int) (w : World) (hc : w.cell? a = some (.int .u32 x)) : Calls Tryz.prog 63 #[.pointer (some a)] w fun e w' => e = .returned (.bool (x != 0)) ∧ w' = w := by
  have hl := run_call_load (P := Tryz.prog) Tryz.func70 (by kernel_rfl) (by kernel_rfl) (by kernel_rfl) .u32 (by kernel_rfl) hc
  go_enter Tryz.func63, Tryz.ntmps63
  go_wp2
  go_ret
  exact ⟨rfl, rfl⟩
def SlowPost (b : Nat) (t : ByteArray) (k : List Nd) (w : World) (e : Ending) (w' : World) : Prop := e = .returned (.tuple #[]) ∧ Wrote b w w' ∧ ∃ (gs cap : Nat) (SL : List SV), w'.heap[b]? = some (.cells (rxC 1 0 t (.slice none 0 0) (.slice (some ⟨gs, 0, none⟩) SL.length cap)) 63 (0, 0)) ∧ w.heap.size ≤ gs ∧ (∃ cur, w'.heap[gs]? = some (.cells cur 96 (0, 0)) ∧ cur.toList.take (7 * SL.length) = SL.flatMap stepC) ∧ SL.map SV.abs = code (.alt k) ++ [.done] ∧ ∀ x ∈ SL, x.Ok
set_option maxRecDepth 100000 in
set_option maxHeartbeats 1600000 in
theorem slow_any (hst : StepsC) (b : Nat) (pl : Nat) (t : ByteArray) (L : List SG) (k : List Nd) (v : Value) (base : Nat) (w : World) (hp : w.cell? ⟨pl, 0, none⟩ = some (.pointer (some ⟨b, 0, none⟩))) (hb : w.heap[b]? = some (.cells (rxC 0 0 t v (.slice none 0 0)) 63 (0, 0))) (hrow : w.ownsRow base 98 8 v L.length (L.flatMap signC)) (hok : ∀ x ∈ L, x.v.Ok) (hsp : SP .ways (L.map SG.abs) k []) (hL : L.length ≤ 200) (hpb : pl ≠ b) :
    Calls Tryz.prog 64 #[.pointer (some ⟨b, 2, none⟩), .func (.func 51) #[] #[.pointer (some ⟨pl, 0, none⟩)]] w (SlowPost b t k w) := by
  have hbl : b < w.heap.size := (Array.getElem?_eq_some_iff.1 hb).1
  have c2 : w.cell? ⟨b, 2, none⟩ = some (.int .u32 0) := by simp only [World.cell?, hb]; rfl
  have c3 : w.cell? ⟨b, 3, none⟩ = some (.int .i32 0) := by simp only [World.cell?, hb]; rfl
  have f3 : w.frozen? ⟨b, 3, none⟩ = false := by simp [World.frozen?, hb]
  have f2 : w.frozen? ⟨b, 2, none⟩ = false := by simp [World.frozen?, hb]
  have h1 : (w.setCell ⟨b, 3, none⟩ (.int .i32 1)).heap[b]? = some (.cells (rxC 0 1 t v (.slice none 0 0)) 63 (0, 0)) := heap_set hb _
  have hne : v.ownBlock ≠ some b := row_ne hrow hb (by decide)
  have HF : Hid (Calls Tryz.prog 51 #[.pointer (some ⟨pl, 0, none⟩)] (w.setCell ⟨b, 3, none⟩ (.int .i32 1)) (FoundPost b t k 1 (w.setCell ⟨b, 3, none⟩ (.int .i32 1)))) := found1_any hst b pl t L k v base 1 _ ((World.cell?_of_block (Below.heap_setCell _ _ _ _ hpb)).trans hp) h1 (row_set hrow hne _) hok hsp hL hpb
  have HLo : Hid (Calls Tryz.prog 63 #[.pointer (some ⟨b, 2, none⟩)] (w.setCell ⟨b, 3, none⟩ (.int .i32 1)) fun e w' => e = .returned (.bool (0 != 0)) ∧ w' = w.setCell ⟨b, 3, none⟩ (.int .i32 1)) := load_any _ 0 _ ((World.cell?_setCell_other _ ⟨b, 3, none⟩ ⟨b, 2, none⟩ _ (by simp)).trans c2)
  have hnot : ∀ (x : Bool) (w : World), (Op.unary .not (.bool x)).run Tryz.prog w = .ok (.bool (!x)) w := fun _ _ => rfl
  have HL : Hid (∀ W, W.cell? ⟨b, 3, none⟩ = some (.int .i32 0) → W.frozen? ⟨b, 3, none⟩ = false → Calls Tryz.prog 71 #[.pointer (some ⟨b, 3, none⟩)] W fun e w' => e = .returned (.tuple #[]) ∧ w' = W.setCell ⟨b, 3, none⟩ (.int .i32 1)) := fun W h1 h2 => lock_free _ W h1 h2
  clear hp hb hrow hok hsp hL hst h1 hne
  go_enter_defers Tryz.func64, Tryz.ntmps64
  go_wp2_with (go_at_call 71; refine (HL.out _ (by go_simp) (by go_simp)).mono ?_; rintro e w' ⟨rfl, rfl⟩)
  refine HLo.out.mono ?_
  rintro e w' ⟨rfl, rfl⟩
  go_wp2_with fail
  refine HF.out.mono ?_
  rintro e w2 ⟨rfl, hwr, gs, cap, SL, q1, q2, q3, q4, q5⟩
  have d2 : w2.cell? ⟨b, 2, none⟩ = some (.int .u32 0) := by simp only [World.cell?, q1]; rfl
  have d3 : w2.cell? ⟨b, 3, none⟩ = some (.int .i32 1) := by simp only [World.cell?, q1]; rfl
  have e2 : w2.frozen? ⟨b, 2, none⟩ = false := by simp [World.frozen?, q1]
  have e3 : w2.frozen? ⟨b, 3, none⟩ = false := by simp [World.frozen?, q1]
  have HQ : Hid (_ ∧ _ ∧ _ ∧ _ ∧ _ ∧ _) := ⟨hwr, q1, q2, q3, q4, q5⟩
  clear hwr q1 q2 q3 q4 q5 HF HLo HL
  go_wp2_with fail
  refine leaves_cons (f := 73) (args := #[.pointer (some ⟨b, 2, none⟩), .bool true]) (by simp) (by simp [go_sem]) ?_
  refine (store_deferred ⟨b, 2, none⟩ (.int .u32 0) .returning _ d2 e2).mono ?_
  rintro e u' w'' ⟨rfl, rfl, rfl⟩
  refine leaves_cons (f := 72) (args := #[.pointer (some ⟨b, 3, none⟩)]) (by simp [settle]) (by simp [go_sem]) ?_
  refine (unlock_deferred ⟨b, 3, none⟩ _ _ ?_ (by simp [e3])).mono ?_
  · refine (World.cell?_setCell_other _ ⟨b, 2, none⟩ ⟨b, 3, none⟩ _ (by simp)).trans ?_
    rw [World.cell?_drew]; exact d3
  rintro e u' w'' ⟨rfl, rfl, rfl⟩
  obtain ⟨hwr, q1, q2, ⟨cur, q3, q3'⟩, q4, q5⟩ := HQ.out
  have hgs : gs ≠ b := by rw [size_set] at q2; omega
  have hfin : SlowPost b t k w (.returned (.tuple #[])) ((w2.drew.setCell ⟨b, 2, none⟩ (.int .u32 1)).setCell ⟨b, 3, none⟩ (.int .i32 0)) := by
    refine ⟨rfl, ?_, gs, cap, SL, heap_set (heap_set q1 _) _, by rw [size_set] at q2; exact q2, ⟨cur, ?_, q3'⟩, q4, q5⟩
    · exact (((Wrote.of_only (Only.set b 3 w (.int .i32 1))).trans hwr).drew.set _).set _
    · rw [Below.heap_setCell _ _ _ _ hgs, Below.heap_setCell _ _ _ _ hgs]; exact q3
  simpa [Leaves, settle, results, Tryz.results64] using hfin
/-- Do, not yet done. -/
theorem do_first (hst : StepsC) (b : Nat) (pl : Nat) (t : ByteArray) (L : List SG) (k : List Nd) (v : Value) (base : Nat) (w : World) (hp : w.cell? ⟨pl, 0, none⟩ = some (.pointer (some ⟨b, 0, none⟩))) (hb : w.heap[b]? = some (.cells (rxC 0 0 t v (.slice none 0 0)) 63 (0, 0))) (hrow : w.ownsRow base 98 8 v L.length (L.flatMap signC)) (hok : ∀ x ∈ L, x.v.Ok) (hsp : SP .ways (L.map SG.abs) k []) (hL : L.length ≤ 200) (hpb : pl ≠ b) :
    Calls Tryz.prog 50 #[.pointer (some ⟨b, 2, none⟩), .func (.func 51) #[] #[.pointer (some ⟨pl, 0, none⟩)]] w (SlowPost b t k w) := by
  have c2 : w.cell? ⟨b, 2, none⟩ = some (.int .u32 0) := by simp only [World.cell?, hb]; rfl
  have HLo : Hid (Calls Tryz.prog 63 #[.pointer (some ⟨b, 2, none⟩)] w fun e w' => e = .returned (.bool (0 != 0)) ∧ w' = w) := load_any _ 0 _ c2
  have HS : Hid (Calls Tryz.prog 64 #[.pointer (some ⟨b, 2, none⟩), .func (.func 51) #[] #[.pointer (some ⟨pl, 0, none⟩)]] w (SlowPost b t k w)) := slow_any hst b pl t L k v base w hp hb hrow hok hsp hL hpb
  have hnot : ∀ (x : Bool) (w : World), (Op.unary .not (.bool x)).run Tryz.prog w = .ok (.bool (!x)) w := fun _ _ => rfl
  clear hp hb hrow hok hsp hL hst
  go_enter Tryz.func50, Tryz.ntmps50
  go_wp2_with fail
  refine HLo.out.mono ?_
  rintro e w' ⟨rfl, rfl⟩
  go_wp2_with fail
  refine HS.out.mono ?_
  rintro e w2 hP
  obtain ⟨rfl, hP2⟩ := hP
  have HP : Hid (_) := hP2
  clear hP2
  go_wp2_with fail
  go_end0
  exact ⟨rfl, HP.out⟩
theorem do_done (b : Nat) (fv : Value) (w : World) (c2 : w.cell? ⟨b, 2, none⟩ = some (.int .u32 1)) : Calls Tryz.prog 50 #[.pointer (some ⟨b, 2, none⟩), fv] w fun e w' => e = .returned (.tuple #[]) ∧ w' = w := by
  have HLo : Hid (Calls Tryz.prog 63 #[.pointer (some ⟨b, 2, none⟩)] w fun e w' => e = .returned (.bool (1 != 0)) ∧ w' = w) := load_any _ 1 _ c2
  have hnot : ∀ (x : Bool) (w : World), (Op.unary .not (.bool x)).run Tryz.prog w = .ok (.bool (!x)) w := fun _ _ => rfl
  go_enter Tryz.func50, Tryz.ntmps50
  go_wp2_with fail
  refine HLo.out.mono ?_
  rintro e w' ⟨rfl, rfl⟩
  go_wp2_with fail
  go_end0
  exact ⟨rfl, rfl⟩
end Go.Proofs.YtmmhajlfbjjocaaGreat
