/-
  POnce PSlow PFound PEach PGrow
-/
import Derived.Test.YtedepknbaakkhabGreatDoorK24
import Derived.Defers
import Derived.Laws.LoneSync
import Derived.RegionCalls
import Derived.Laws.Pointers
import Derived.Test.YtedepknbaakkhabGreatDoorK16
set_option maxRecDepth 20000
namespace Go.Proofs.YtedepknbaakkhabGreatDoor.X
open Go.RowKit Go.Shelf RxSem
theorem disable (w : World) : (callFunc 209 #[]).run Tryz.prog w = .ok (.value (.tuple #[])) w := run_call_mark0 Tryz.func209 (by kernel_rfl) (by kernel_rfl) (by kernel_rfl) .disable (by kernel_rfl) w
theorem enable (w : World) : (callFunc 211 #[]).run Tryz.prog w = .ok (.value (.tuple #[])) w := run_call_mark0 Tryz.func211 (by kernel_rfl) (by kernel_rfl) (by kernel_rfl) .enable (by kernel_rfl) w
theorem acquire (a : Addr) (w : World) : (callFunc 212 #[.pointer (some a)]).run Tryz.prog w = .ok (.value (.tuple #[])) w := run_call_marked Tryz.func212 (by kernel_rfl) (by kernel_rfl) (by kernel_rfl) .acquire (by kernel_rfl) a w
theorem releaseMerge (a : Addr) (w : World) : (callFunc 214 #[.pointer (some a)]).run Tryz.prog w = .ok (.value (.tuple #[])) w := run_call_marked Tryz.func214 (by kernel_rfl) (by kernel_rfl) (by kernel_rfl) .releaseMerge (by kernel_rfl) a w
theorem store_deferred (a : Addr) (x : Value) (u : FrameMode) (w : World) (hc : w.cell? a = some x) (hz : w.frozen? a = false) :
    CallsD Tryz.prog 198 #[.pointer (some a), .bool true] u w fun e u' w' => u' = u ∧ (e = .returned (.tuple #[]) ∧ w' = w.drew.setCell a (.int .u32 1)) := by
  have hc' : w.drew.cell? a = some x := by go_simp
  have hz' : w.drew.frozen? a = false := by go_simp
  have hst := run_call_store (P := Tryz.prog) Tryz.func204 (by kernel_rfl) (by kernel_rfl) (by kernel_rfl) (by kernel_rfl) (k := .u32) (y := 1) hc' hz'
  go_enter_d Tryz.func198, Tryz.ntmps198
  go_wp2
  go_region_calls
  all_goals (go_end0; exact ⟨rfl, rfl⟩)
set_option maxRecDepth 100000 in
set_option maxHeartbeats 1600000 in
theorem unlock_deferred (a : Addr) (u : FrameMode) (w : World) (hc : w.cell? a = some (.int .i32 1)) (hz : w.frozen? a = false) :
    CallsD Tryz.prog 197 #[.pointer (some a)] u w fun e u' w' => u' = u ∧ (e = .returned (.tuple #[]) ∧ w' = w.setCell a (.int .i32 0)) := by
  have hd := disable
  have he := enable
  have hr := releaseMerge
  have hadd := run_call_add (P := Tryz.prog) Tryz.func215 (by kernel_rfl) (by kernel_rfl) (by kernel_rfl) .i32 (by kernel_rfl) (y := -1) (s := 0) hc hz (by simp [go_sem]; rfl)
  have hcv := run_convert_to_unsafe (P := Tryz.prog) (src := 254) (dst := 94) Tryz.underlying254 Tryz.underlying94 (by kernel_rfl) hc
  go_enter_d Tryz.func197, Tryz.ntmps197
  go_wp2
  go_end0
  go_wp2
  go_end0
  exact ⟨rfl, rfl⟩
set_option maxRecDepth 100000 in
set_option maxHeartbeats 1600000 in
theorem lock_free (a : Addr) (w : World) (hc : w.cell? a = some (.int .i32 0)) (hz : w.frozen? a = false) :
    Calls Tryz.prog 196 #[.pointer (some a)] w fun e w' => e = .returned (.tuple #[]) ∧ w' = w.setCell a (.int .i32 1) := by
  have hd := disable
  have he := enable
  have ha := acquire
  have hcas := run_call_cas_hit (P := Tryz.prog) Tryz.func210 (by kernel_rfl) (by kernel_rfl) (by kernel_rfl) .i32 (by kernel_rfl) (y := 1) hc hz
  have hc' : (w.setCell a (.int .i32 1)).cell? a = some (.int .i32 1) := World.cell?_setCell_same w a _ hc
  have hcv := run_convert_to_unsafe (P := Tryz.prog) (src := 254) (dst := 94) Tryz.underlying254 Tryz.underlying94 (by kernel_rfl) hc'
  go_enter Tryz.func196, Tryz.ntmps196
  go_wp2
  first | go_end0 | (simp only [Exit.inBlock, Exit.then]; refine bodyPost_ret (results_none rfl _ _ _) rfl ?_) | refine bodyPost_ret (results_none rfl _ _ _) rfl ?_
  go_wp2
  go_end0
  exact ⟨rfl, rfl⟩
def rxC (d l : Int) (t : ByteArray) (sv pv : Value) : Array Value := #[.bool true, .string t, .int .u32 d, .int .i32 l, .int .u32 0, sv, pv]
def StepsC : Prop := ∀ (L : List SG) (k : List Nd) (v : Value) (base : Nat) (w : World), w.ownsRow base 148 8 v L.length (L.flatMap signC) → (∀ x ∈ L, x.v.Ok) → SP .ways (L.map SG.abs) k [] → L.length ≤ 200 →
  Calls Tryz.prog 180 #[v] w fun e w' => Below w.heap.size w w' ∧ ∃ (gs cap : Nat) (SL : List SV), e = .returned (.slice (some ⟨gs, 0, none⟩) SL.length cap) ∧ w.heap.size ≤ gs ∧ (∃ cur, w'.heap[gs]? = some (.cells cur 146 (0, 0)) ∧ cur.toList.take (7 * SL.length) = SL.flatMap stepC) ∧ SL.map SV.abs = code (.alt k) ++ [.done] ∧ ∀ x ∈ SL, x.Ok
def FoundPost (b : Nat) (t : ByteArray) (k : List Nd) (l : Int) (w : World) (e : Ending) (w' : World) : Prop := e = .returned (.tuple #[]) ∧ Wrote b w w' ∧ ∃ (gs cap : Nat) (SL : List SV), w'.heap[b]? = some (.cells (rxC 0 l t (.slice none 0 0) (.slice (some ⟨gs, 0, none⟩) SL.length cap)) 113 (0, 0)) ∧ w.heap.size ≤ gs ∧ (∃ cur, w'.heap[gs]? = some (.cells cur 146 (0, 0)) ∧ cur.toList.take (7 * SL.length) = SL.flatMap stepC) ∧ SL.map SV.abs = code (.alt k) ++ [.done] ∧ ∀ x ∈ SL, x.Ok
set_option maxHeartbeats 400000 in
theorem found1_any (hst : StepsC) (b : Nat) (pl : Nat) (t : ByteArray) (L : List SG) (k : List Nd) (v : Value) (base : Nat) (l : Int) (w : World) (hp : w.cell? ⟨pl, 0, none⟩ = some (.pointer (some ⟨b, 0, none⟩))) (hb : w.heap[b]? = some (.cells (rxC 0 l t v (.slice none 0 0)) 113 (0, 0))) (hrow : w.ownsRow base 148 8 v L.length (L.flatMap signC)) (hok : ∀ x ∈ L, x.v.Ok) (hsp : SP .ways (L.map SG.abs) k []) (hL : L.length ≤ 200) (hpb : pl ≠ b) :
    Calls Tryz.prog 179 #[.pointer (some ⟨pl, 0, none⟩)] w (FoundPost b t k l w) := by
  have c5 : w.cell? ⟨b, 5, none⟩ = some v := by simp only [World.cell?, hb]; rfl
  have c6 : w.cell? ⟨b, 6, none⟩ = some (.slice none 0 0) := by simp only [World.cell?, hb]; rfl
  have fb : ∀ j, w.frozen? ⟨b, j, none⟩ = false := fun j => by simp [World.frozen?, hb]
  have hbl : b < w.heap.size := (Array.getElem?_eq_some_iff.1 hb).1
  have hpl : pl < w.heap.size := World.block_lt_of_cell? w _ hp
  obtain ⟨av, cv, hv⟩ := row_slice hrow
  obtain ⟨n, hn⟩ : ∃ n, n = L.length := ⟨_, rfl⟩
  rw [← hn] at hv
  subst hv
  have HS : Hid (Calls Tryz.prog 180 #[.slice av n cv] w.drew fun e w' => Below w.heap.size w w' ∧ ∃ (gs cap : Nat) (SL : List SV), e = .returned (.slice (some ⟨gs, 0, none⟩) SL.length cap) ∧ w.heap.size ≤ gs ∧ (∃ cur, w'.heap[gs]? = some (.cells cur 146 (0, 0)) ∧ cur.toList.take (7 * SL.length) = SL.flatMap stepC) ∧ SL.map SV.abs = code (.alt k) ++ [.done] ∧ ∀ x ∈ SL, x.Ok) := by
    refine (hst L k (.slice av n cv) base w.drew ?_ hok hsp hL).mono ?_
    · exact hrow
    · rintro e w' ⟨h1, h2⟩
      exact ⟨(Below.refl _ w).drew.trans h1, h2⟩
  have HB : Hid (w.heap[b]? = some (.cells (rxC 0 l t (.slice av n cv) (.slice none 0 0)) 113 (0, 0))) := hb
  clear hrow hok hsp hL hst hb hn
  go_enter Tryz.func179, Tryz.ntmps179
  go_wp2_with fail
  go_region_with (first | (go_at_call 180; refine HS.out.mono ?_; rintro e w1 ⟨hb1, gs, cap, SL, rfl, hg1, hg2, hg3, hg4⟩; have hx6 : w1.cell? ⟨b, 6, none⟩ = some (.slice none 0 0) := (World.cell?_of_block (hb1.block b hbl)).trans c6; have hxp : w1.cell? ⟨pl, 0, none⟩ = some (.pointer (some ⟨b, 0, none⟩)) := (World.cell?_of_block (hb1.block pl hpl)).trans hp; have hx5 : w1.cell? ⟨b, 5, none⟩ = some (.slice av n cv) := (World.cell?_of_block (hb1.block b hbl)).trans c5; have hxf : ∀ j, w1.frozen? ⟨b, j, none⟩ = false := fun j => (World.frozen?_of_block (hb1.block b hbl)).trans (fb j)))
  all_goals
    have HX : Hid (Below w.heap.size w w1 ∧ w.heap.size ≤ gs ∧ (∃ cur, w1.heap[gs]? = some (.cells cur 146 (0, 0)) ∧ cur.toList.take (7 * SL.length) = SL.flatMap stepC) ∧ SL.map SV.abs = code (.alt k) ++ [.done] ∧ ∀ x ∈ SL, x.Ok) := ⟨hb1, hg1, hg2, hg3, hg4⟩
    have hpb2 : ¬ b = pl := Ne.symm hpb
    clear hb1 hg1 hg2 hg3 hg4 HS
    go_wp2_with fail
    go_end0
    obtain ⟨hb1, hg1, ⟨cur, hg2, hg2'⟩, hg3, hg4⟩ := HX.out
    refine ⟨rfl, ((Wrote.of_below hb1).set _).set _, gs, cap, SL, heap_set (heap_set ((hb1.block b hbl).trans HB.out) _) _, hg1, ⟨cur, ?_, hg2'⟩, hg3, hg4⟩
    rw [Below.heap_setCell _ _ _ _ (by show gs ≠ b; omega), Below.heap_setCell _ _ _ _ (by show gs ≠ b; omega)]
    exact hg2
end Go.Proofs.YtedepknbaakkhabGreatDoor.X
namespace Go.Proofs.YtedepknbaakkhabGreatDoor.X
open Go.RowKit Go.Shelf RxSem
theorem load_any (a : Addr) (x : Int) (w : World) (hc : w.cell? a = some (.int .u32 x)) : Calls Tryz.prog 190 #[.pointer (some a)] w fun e w' => e = .returned (.bool (x != 0)) ∧ w' = w := by
  have hl := run_call_load (P := Tryz.prog) Tryz.func195 (by kernel_rfl) (by kernel_rfl) (by kernel_rfl) .u32 (by kernel_rfl) hc
  go_enter Tryz.func190, Tryz.ntmps190
  go_wp2
  go_ret
  exact ⟨rfl, rfl⟩
def SlowPost (b : Nat) (t : ByteArray) (k : List Nd) (w : World) (e : Ending) (w' : World) : Prop := e = .returned (.tuple #[]) ∧ Wrote b w w' ∧ ∃ (gs cap : Nat) (SL : List SV), w'.heap[b]? = some (.cells (rxC 1 0 t (.slice none 0 0) (.slice (some ⟨gs, 0, none⟩) SL.length cap)) 113 (0, 0)) ∧ w.heap.size ≤ gs ∧ (∃ cur, w'.heap[gs]? = some (.cells cur 146 (0, 0)) ∧ cur.toList.take (7 * SL.length) = SL.flatMap stepC) ∧ SL.map SV.abs = code (.alt k) ++ [.done] ∧ ∀ x ∈ SL, x.Ok
set_option maxRecDepth 100000 in
set_option maxHeartbeats 1600000 in
theorem slow_any (hst : StepsC) (b : Nat) (pl : Nat) (t : ByteArray) (L : List SG) (k : List Nd) (v : Value) (base : Nat) (w : World) (hp : w.cell? ⟨pl, 0, none⟩ = some (.pointer (some ⟨b, 0, none⟩))) (hb : w.heap[b]? = some (.cells (rxC 0 0 t v (.slice none 0 0)) 113 (0, 0))) (hrow : w.ownsRow base 148 8 v L.length (L.flatMap signC)) (hok : ∀ x ∈ L, x.v.Ok) (hsp : SP .ways (L.map SG.abs) k []) (hL : L.length ≤ 200) (hpb : pl ≠ b) :
    Calls Tryz.prog 191 #[.pointer (some ⟨b, 2, none⟩), .func (.func 179) #[] #[.pointer (some ⟨pl, 0, none⟩)]] w (SlowPost b t k w) := by
  have hbl : b < w.heap.size := (Array.getElem?_eq_some_iff.1 hb).1
  have c2 : w.cell? ⟨b, 2, none⟩ = some (.int .u32 0) := by simp only [World.cell?, hb]; rfl
  have c3 : w.cell? ⟨b, 3, none⟩ = some (.int .i32 0) := by simp only [World.cell?, hb]; rfl
  have f3 : w.frozen? ⟨b, 3, none⟩ = false := by simp [World.frozen?, hb]
  have f2 : w.frozen? ⟨b, 2, none⟩ = false := by simp [World.frozen?, hb]
  have h1 : (w.setCell ⟨b, 3, none⟩ (.int .i32 1)).heap[b]? = some (.cells (rxC 0 1 t v (.slice none 0 0)) 113 (0, 0)) := heap_set hb _
  have hne : v.ownBlock ≠ some b := row_ne hrow hb (by decide)
  have HF : Hid (Calls Tryz.prog 179 #[.pointer (some ⟨pl, 0, none⟩)] (w.setCell ⟨b, 3, none⟩ (.int .i32 1)) (FoundPost b t k 1 (w.setCell ⟨b, 3, none⟩ (.int .i32 1)))) := found1_any hst b pl t L k v base 1 _ ((World.cell?_of_block (Below.heap_setCell _ _ _ _ hpb)).trans hp) h1 (row_set hrow hne _) hok hsp hL hpb
  have HLo : Hid (Calls Tryz.prog 190 #[.pointer (some ⟨b, 2, none⟩)] (w.setCell ⟨b, 3, none⟩ (.int .i32 1)) fun e w' => e = .returned (.bool (0 != 0)) ∧ w' = w.setCell ⟨b, 3, none⟩ (.int .i32 1)) := load_any _ 0 _ ((World.cell?_setCell_other _ ⟨b, 3, none⟩ ⟨b, 2, none⟩ _ (by simp)).trans c2)
  have hnot : ∀ (x : Bool) (w : World), (Op.unary .not (.bool x)).run Tryz.prog w = .ok (.bool (!x)) w := fun _ _ => rfl
  have HL : Hid (∀ W, W.cell? ⟨b, 3, none⟩ = some (.int .i32 0) → W.frozen? ⟨b, 3, none⟩ = false → Calls Tryz.prog 196 #[.pointer (some ⟨b, 3, none⟩)] W fun e w' => e = .returned (.tuple #[]) ∧ w' = W.setCell ⟨b, 3, none⟩ (.int .i32 1)) := fun W h1 h2 => lock_free _ W h1 h2
  clear hp hb hrow hok hsp hL hst h1 hne
  go_enter_defers Tryz.func191, Tryz.ntmps191
  go_wp2_with (go_at_call 196; refine (HL.out _ (by go_simp) (by go_simp)).mono ?_; rintro e w' ⟨rfl, rfl⟩)
  refine HLo.out.mono ?_
  rintro e w' ⟨rfl, rfl⟩
  go_wp2_with fail
  refine HF.out.mono ?_
  rintro e w2 ⟨rfl, hwr, gs, cap, SL, q1, q2, q3, q4, q5⟩
  have d2 : w2.cell? ⟨b, 2, none⟩ = some (.int .u32 0) := by simp only [World.cell?, q1]; rfl
  have d3 : w2.cell? ⟨b, 3, none⟩ = some (.int .i32 1) := by simp only [World.cell?, q1]; rfl
  have e2 : w2.frozen? ⟨b, 2, none⟩ = false := by simp [World.frozen?, q1]
  have e3 : w2.frozen? ⟨b, 3, none⟩ = false := by simp [World.frozen?, q1]
  have HQ : Hid (_ ∧ _ ∧ _ ∧ _ ∧ _ ∧ _) := ⟨hwr, q1, q2, q3, q4, q5⟩
  clear hwr q1 q2 q3 q4 q5 HF HLo HL
  go_wp2_with fail
  refine leaves_cons (f := 198) (args := #[.pointer (some ⟨b, 2, none⟩), .bool true]) (by simp) (by simp [go_sem]) ?_
  refine (store_deferred ⟨b, 2, none⟩ (.int .u32 0) .returning _ d2 e2).mono ?_
  rintro e u' w'' ⟨rfl, rfl, rfl⟩
  refine leaves_cons (f := 197) (args := #[.pointer (some ⟨b, 3, none⟩)]) (by simp [settle]) (by simp [go_sem]) ?_
  refine (unlock_deferred ⟨b, 3, none⟩ _ _ ?_ (by simp [e3])).mono ?_
  · refine (World.cell?_setCell_other _ ⟨b, 2, none⟩ ⟨b, 3, none⟩ _ (by simp)).trans ?_
    rw [World.cell?_drew]; exact d3
  rintro e u' w'' ⟨rfl, rfl, rfl⟩
  obtain ⟨hwr, q1, q2, ⟨cur, q3, q3'⟩, q4, q5⟩ := HQ.out
  have hgs : gs ≠ b := by rw [size_set] at q2; omega
  have hfin : SlowPost b t k w (.returned (.tuple #[])) ((w2.drew.setCell ⟨b, 2, none⟩ (.int .u32 1)).setCell ⟨b, 3, none⟩ (.int .i32 0)) := by
    refine ⟨rfl, ?_, gs, cap, SL, heap_set (heap_set q1 _) _, by rw [size_set] at q2; exact q2, ⟨cur, ?_, q3'⟩, q4, q5⟩
    · exact (((Wrote.of_only (Only.set b 3 w (.int .i32 1))).trans hwr).drew.set _).set _
    · rw [Below.heap_setCell _ _ _ _ hgs, Below.heap_setCell _ _ _ _ hgs]; exact q3
  simpa [Leaves, settle, results, Tryz.results191] using hfin
theorem do_first (hst : StepsC) (b : Nat) (pl : Nat) (t : ByteArray) (L : List SG) (k : List Nd) (v : Value) (base : Nat) (w : World) (hp : w.cell? ⟨pl, 0, none⟩ = some (.pointer (some ⟨b, 0, none⟩))) (hb : w.heap[b]? = some (.cells (rxC 0 0 t v (.slice none 0 0)) 113 (0, 0))) (hrow : w.ownsRow base 148 8 v L.length (L.flatMap signC)) (hok : ∀ x ∈ L, x.v.Ok) (hsp : SP .ways (L.map SG.abs) k []) (hL : L.length ≤ 200) (hpb : pl ≠ b) :
    Calls Tryz.prog 178 #[.pointer (some ⟨b, 2, none⟩), .func (.func 179) #[] #[.pointer (some ⟨pl, 0, none⟩)]] w (SlowPost b t k w) := by
  have c2 : w.cell? ⟨b, 2, none⟩ = some (.int .u32 0) := by simp only [World.cell?, hb]; rfl
  have HLo : Hid (Calls Tryz.prog 190 #[.pointer (some ⟨b, 2, none⟩)] w fun e w' => e = .returned (.bool (0 != 0)) ∧ w' = w) := load_any _ 0 _ c2
  have HS : Hid (Calls Tryz.prog 191 #[.pointer (some ⟨b, 2, none⟩), .func (.func 179) #[] #[.pointer (some ⟨pl, 0, none⟩)]] w (SlowPost b t k w)) := slow_any hst b pl t L k v base w hp hb hrow hok hsp hL hpb
  have hnot : ∀ (x : Bool) (w : World), (Op.unary .not (.bool x)).run Tryz.prog w = .ok (.bool (!x)) w := fun _ _ => rfl
  clear hp hb hrow hok hsp hL hst
  go_enter Tryz.func178, Tryz.ntmps178
  go_wp2_with fail
  refine HLo.out.mono ?_
  rintro e w' ⟨rfl, rfl⟩
  go_wp2_with fail
  refine HS.out.mono ?_
  rintro e w2 hP
  obtain ⟨rfl, hP2⟩ := hP
  have HP : Hid (_) := hP2
  clear hP2
  go_wp2_with fail
  go_end0
  exact ⟨rfl, HP.out⟩
theorem do_done (b : Nat) (fv : Value) (w : World) (c2 : w.cell? ⟨b, 2, none⟩ = some (.int .u32 1)) : Calls Tryz.prog 178 #[.pointer (some ⟨b, 2, none⟩), fv] w fun e w' => e = .returned (.tuple #[]) ∧ w' = w := by
  have HLo : Hid (Calls Tryz.prog 190 #[.pointer (some ⟨b, 2, none⟩)] w fun e w' => e = .returned (.bool (1 != 0)) ∧ w' = w) := load_any _ 1 _ c2
  have hnot : ∀ (x : Bool) (w : World), (Op.unary .not (.bool x)).run Tryz.prog w = .ok (.bool (!x)) w := fun _ _ => rfl
  go_enter Tryz.func178, Tryz.ntmps178
  go_wp2_with fail
  refine HLo.out.mono ?_
  rintro e w' ⟨rfl, rfl⟩
  go_wp2_with fail
  go_end0
  exact ⟨rfl, rfl⟩
end Go.Proofs.YtedepknbaakkhabGreatDoor.X
namespace Go.Proofs.YtedepknbaakkhabGreatDoor.X
open Go.RowKit Go.Shelf RxSem
structure Steps (b gs cap : Nat) (SL : List SV) (t : ByteArray) (k : List Nd) (w : World) : Prop where
  blk : w.heap[b]? = some (.cells (rxC 1 0 t (.slice none 0 0) (.slice (some ⟨gs, 0, none⟩) SL.length cap)) 113 (0, 0))
  stp : ∃ cur, w.heap[gs]? = some (.cells cur 146 (0, 0)) ∧ cur.toList.take (7 * SL.length) = SL.flatMap stepC
  abs : SL.map SV.abs = code (.alt k) ++ [.done]
  oks : ∀ x ∈ SL, x.Ok
  few : SL.length ≤ 1000
inductive Made (b : Nat) (t : ByteArray) (k : List Nd) (w : World) : Prop where
  | fresh (v : Value) (base : Nat) (L : List SG) (hb : w.heap[b]? = some (.cells (rxC 0 0 t v (.slice none 0 0)) 113 (0, 0))) (hr : w.ownsRow base 148 8 v L.length (L.flatMap signC)) (hok : ∀ x ∈ L, x.v.Ok) (hsp : SP .ways (L.map SG.abs) k []) (hL : L.length ≤ 200)
  | found (gs cap : Nat) (SL : List SV) (h : Steps b gs cap SL t k w)
theorem Made.lt {b : Nat} {t : ByteArray} {k : List Nd} {w : World} (h : Made b t k w) : b < w.heap.size := by
  cases h with
  | fresh v base L hb => exact (Array.getElem?_eq_some_iff.1 hb).1
  | found gs cap SL h => exact (Array.getElem?_eq_some_iff.1 h.blk).1
theorem Made.below {b : Nat} {t : ByteArray} {k : List Nd} {w w' : World} (h : Made b t k w) (hB : Below w.heap.size w w') : Made b t k w' := by
  cases h with
  | fresh v base L hb hr hok hsp hL => exact .fresh v base L ((hB.block b (Array.getElem?_eq_some_iff.1 hb).1).trans hb) (owns_below hr hB) hok hsp hL
  | found gs cap SL h =>
    obtain ⟨cur, h2, h3⟩ := h.stp
    exact .found gs cap SL ⟨(hB.block b (Array.getElem?_eq_some_iff.1 h.blk).1).trans h.blk, ⟨cur, (hB.block gs (Array.getElem?_eq_some_iff.1 h2).1).trans h2, h3⟩, h.abs, h.oks, h.few⟩
theorem steps_few {L : List SG} {k : List Nd} {SL : List SV} (hsp : SP .ways (L.map SG.abs) k []) (hL : L.length ≤ 200) (ha : SL.map SV.abs = code (.alt k) ++ [.done]) : SL.length ≤ 1000 := by
  have h1 := hsp.size
  have h2 := congrArg List.length ha
  simp only [lenOf, List.length_map, List.length_append, List.length_nil, List.length_singleton] at h1 h2
  omega
set_option maxHeartbeats 400000 in
theorem found_fresh (hst : StepsC) (b : Nat) (t : ByteArray) (k : List Nd) (v : Value) (base : Nat) (L : List SG) (w : World) (hb : w.heap[b]? = some (.cells (rxC 0 0 t v (.slice none 0 0)) 113 (0, 0))) (hr : w.ownsRow base 148 8 v L.length (L.flatMap signC)) (hok : ∀ x ∈ L, x.v.Ok) (hsp : SP .ways (L.map SG.abs) k []) (hL : L.length ≤ 200) :
    Calls Tryz.prog 161 #[.pointer (some ⟨b, 0, none⟩)] w fun e w' => ∃ (gs cap : Nat) (SL : List SV), e = .returned (.slice (some ⟨gs, 0, none⟩) SL.length cap) ∧ Steps b gs cap SL t k w' ∧ Wrote b w w' := by
  obtain ⟨wa, hwa, hBa, hSa, hka⟩ := one_box w (.cells #[.pointer (some ⟨b, 0, none⟩)] 35)
  have hbl : b < w.heap.size := (Array.getElem?_eq_some_iff.1 hb).1
  have p0 : wa.cell? ⟨w.heap.size, 0, none⟩ = some (.pointer (some ⟨b, 0, none⟩)) := by simp only [World.cell?, hka]; rfl
  have hba := (hBa.block b hbl).trans hb
  have HD : Hid (Calls Tryz.prog 178 #[.pointer (some ⟨b, 2, none⟩), .func (.func 179) #[] #[.pointer (some ⟨w.heap.size, 0, none⟩)]] wa (SlowPost b t k wa)) := do_first hst b w.heap.size t L k v base wa p0 hba (owns_below hr hBa) hok hsp hL (by omega)
  have hmf : ∀ (fn : Fn) (first cap : Array Value) (w : World), (Instr.makeFunc fn first cap).run Tryz.prog w = .ok (.func fn first cap) w := fun _ _ _ _ => rfl
  have HX : Hid (Below w.heap.size w wa ∧ wa.heap.size = w.heap.size + 1 ∧ SP .ways (L.map SG.abs) k [] ∧ L.length ≤ 200) := ⟨hBa, hSa, hsp, hL⟩
  clear hb hr hok hsp hL hba hst hBa hSa hka
  go_enter Tryz.func161, Tryz.ntmps161
  go_wp2_with fail
  rw [← hwa]
  clear hwa
  go_wp2_with fail
  refine HD.out.mono ?_
  rintro e w1 ⟨rfl, hwr, gs, cap, SL, q1, q2, q3, q4, q5⟩
  have d6 : w1.cell? ⟨b, 6, none⟩ = some (.slice (some ⟨gs, 0, none⟩) SL.length cap) := by simp only [World.cell?, q1]; rfl
  have pe : w1.cell? ⟨w.heap.size, 0, none⟩ = some (.pointer (some ⟨b, 0, none⟩)) := (World.cell?_of_block (hwr.block w.heap.size (World.block_lt_of_cell? wa _ p0) (by omega))).trans p0
  have HQ : Hid (Wrote b wa w1 ∧ Steps b gs cap SL t k w1) := ⟨hwr, q1, q3, q4, q5, steps_few HX.out.2.2.1 HX.out.2.2.2 q4⟩
  clear hwr q1 q2 q3 q4 q5 HD
  go_wp2_with fail
  go_ret
  exact ⟨gs, cap, SL, rfl, HQ.out.2, Wrote.of HX.out.1 HQ.out.1⟩
set_option maxHeartbeats 400000 in
theorem found_found (b : Nat) (t : ByteArray) (k : List Nd) (gs cap : Nat) (SL : List SV) (w : World) (h : Steps b gs cap SL t k w) :
    Calls Tryz.prog 161 #[.pointer (some ⟨b, 0, none⟩)] w fun e w' => ∃ (gs cap : Nat) (SL : List SV), e = .returned (.slice (some ⟨gs, 0, none⟩) SL.length cap) ∧ Steps b gs cap SL t k w' ∧ Wrote b w w' := by
  obtain ⟨wa, hwa, hBa, hSa, hka⟩ := one_box w (.cells #[.pointer (some ⟨b, 0, none⟩)] 35)
  have hbl : b < w.heap.size := (Array.getElem?_eq_some_iff.1 h.blk).1
  have p0 : wa.cell? ⟨w.heap.size, 0, none⟩ = some (.pointer (some ⟨b, 0, none⟩)) := by simp only [World.cell?, hka]; rfl
  have hba := (hBa.block b hbl).trans h.blk
  have c2 : wa.cell? ⟨b, 2, none⟩ = some (.int .u32 1) := by simp only [World.cell?, hba]; rfl
  have d6 : wa.cell? ⟨b, 6, none⟩ = some (.slice (some ⟨gs, 0, none⟩) SL.length cap) := by simp only [World.cell?, hba]; rfl
  have HD : Hid (Calls Tryz.prog 178 #[.pointer (some ⟨b, 2, none⟩), .func (.func 179) #[] #[.pointer (some ⟨w.heap.size, 0, none⟩)]] wa fun e w' => e = .returned (.tuple #[]) ∧ w' = wa) := do_done b _ wa c2
  have hmf : ∀ (fn : Fn) (first cap : Array Value) (w : World), (Instr.makeFunc fn first cap).run Tryz.prog w = .ok (.func fn first cap) w := fun _ _ _ _ => rfl
  have HX : Hid (Below w.heap.size w wa ∧ Steps b gs cap SL t k wa) := by
    obtain ⟨cur, h2, h3⟩ := h.stp
    exact ⟨hBa, hba, ⟨cur, (hBa.block gs (Array.getElem?_eq_some_iff.1 h2).1).trans h2, h3⟩, h.abs, h.oks, h.few⟩
  clear h hba hBa hSa hka
  go_enter Tryz.func161, Tryz.ntmps161
  go_wp2_with fail
  rw [← hwa]
  clear hwa
  go_wp2_with fail
  refine HD.out.mono ?_
  rintro e w1 ⟨rfl, rfl⟩
  go_wp2_with fail
  go_ret
  exact ⟨gs, cap, SL, rfl, HX.out.2, Wrote.of_below HX.out.1⟩
theorem found_any (hst : StepsC) (b : Nat) (t : ByteArray) (k : List Nd) (w : World) (h : Made b t k w) :
    Calls Tryz.prog 161 #[.pointer (some ⟨b, 0, none⟩)] w fun e w' => ∃ (gs cap : Nat) (SL : List SV), e = .returned (.slice (some ⟨gs, 0, none⟩) SL.length cap) ∧ Steps b gs cap SL t k w' ∧ Wrote b w w' := by
  cases h with
  | fresh v base L hb hr hok hsp hL => exact found_fresh hst b t k v base L w hb hr hok hsp hL
  | found gs cap SL h => exact found_found b t k gs cap SL w h
end Go.Proofs.YtedepknbaakkhabGreatDoor.X
namespace Go.Proofs.YtedepknbaakkhabGreatDoor.X
open Go.RowKit Go.Shelf RxSem
structure Fr (D : Nat → Prop) (w w' : World) : Prop where
  os : w'.os = w.os
  tape : w'.tape = w.tape
  output : w'.output = w.output
  size : w.heap.size ≤ w'.heap.size
  block : ∀ j, j < w.heap.size → ¬ D j → w'.heap[j]? = w.heap[j]?
theorem Fr.refl (D : Nat → Prop) (w : World) : Fr D w w := ⟨rfl, rfl, rfl, Nat.le_refl _, fun _ _ _ => rfl⟩
theorem Fr.trans {D : Nat → Prop} {w w1 w2 : World} (h : Fr D w w1) (h2 : Fr D w1 w2) : Fr D w w2 :=
  ⟨h2.os.trans h.os, h2.tape.trans h.tape, h2.output.trans h.output, Nat.le_trans h.size h2.size, fun j hj hd => (h2.block j (Nat.lt_of_lt_of_le hj h.size) hd).trans (h.block j hj hd)⟩
theorem Fr.of_below {D : Nat → Prop} {w w' : World} (h : Below w.heap.size w w') : Fr D w w' := ⟨h.os, h.tape, h.output, h.size, fun j hj _ => h.block j hj⟩
theorem Fr.of_wrote {D : Nat → Prop} {b : Nat} {w w' : World} (h : Wrote b w w') (hb : D b) : Fr D w w' := ⟨h.os, h.tape, h.output, h.size, fun j hj hd => h.block j hj (fun e => hd (by rw [e]; exact hb))⟩
theorem Fr.low {D : Nat → Prop} {w w' : World} {B : Nat} (h : Below B w w') (hB : ∀ j, B ≤ j → j < w.heap.size → D j) : Fr D w w' := ⟨h.os, h.tape, h.output, h.size, fun j hj hd => by
  rcases Nat.lt_or_ge j B with hl | hl
  · exact h.block j hl
  · exact absurd (hB j hl hj) hd⟩
theorem Idle.keep {base b gs gn capS capN : Nat} {L : List SV} {t : ByteArray} {q : Int} {bv sv : Value} {B : List (Nat × Nat)} {sn : List Int} {lo : Int} {w w' : World} (h : Idle base b gs gn capS capN L t q bv sv B sn lo w) (hk : ∀ (j : Nat) (cs : Array Value) (T : TypeId), w.heap[j]? = some (.cells cs T (0, 0)) → (T = 219 ∨ T = 146 ∨ T = 3 ∨ T = 223) → w'.heap[j]? = w.heap[j]?) : Idle base b gs gn capS capN L t q bv sv B sn lo w' := by
  obtain ⟨cur, h2, h3⟩ := h.stp
  obtain ⟨n, X, hX⟩ := h.spare
  have hrow : ∀ {v : Value} {n : Nat} {xs : List Value}, w.ownsRow base 223 2 v n xs → w'.ownsRow base 223 2 v n xs := fun {v n xs} hr => by
    refine ⟨hr.1, ?_⟩
    rcases hr.2 with h0 | ⟨g, cap, cur, hv, hg, hgg, rest⟩
    · exact .inl h0
    · exact .inr ⟨g, cap, cur, hv, hg, (hk g _ _ hgg (.inr (.inr (.inr rfl)))).trans hgg, rest⟩
  exact ⟨(hk b _ _ h.blk (.inl rfl)).trans h.blk, ⟨cur, (hk gs _ _ h2 (.inr (.inl rfl))).trans h2, h3⟩, (hk gn _ _ h.seen (.inr (.inr (.inl rfl)))).trans h.seen, h.len, hrow h.row, ⟨n, X, hrow hX⟩, h.apart, h.oks, h.few, h.many, h.baseb, h.basen⟩
end Go.Proofs.YtedepknbaakkhabGreatDoor.X
namespace Go.Proofs.YtedepknbaakkhabGreatDoor.X
open Go.RowKit Go.Shelf RxSem
theorem infoSt : (Tryz.prog.info? 146).map (fun i => (i.zero, i.size, i.bytes)) = some (some (.agg #[.int .i64 0, .int .u64 0, .int .u64 0, .int .u64 0, .int .u64 0, .int .i64 0, .int .i64 0]), 7, 56) := by kernel_rfl
def Row (base : Nat) (v : Value) (L : List SV) (w : World) : Prop := w.ownsRow base 146 7 v L.length (L.flatMap stepC)
theorem stepC_one (L : List SV) : ∀ u ∈ L.flatMap stepC, u.oneCell' = true := by
  intro u hu
  obtain ⟨x, _, hx⟩ := List.mem_flatMap.1 hu
  simp [stepC] at hx
  rcases hx with rfl | rfl | rfl | rfl | rfl | rfl | rfl <;> rfl
set_option maxHeartbeats 400000 in
theorem grow_any (n : Nat) (hn1 : 1 ≤ n) (hn : n ≤ 100000) (w : World) : Calls Tryz.prog 220 #[.slice none 0 0, .int .i64 (n : Int)] w fun e w' => ∃ v, e = .returned v ∧ Row w.heap.size v [] w' ∧ Below w.heap.size w w' := by
  have hT : Tryz.t146.bytes = 56 := by kernel_rfl
  have hnc : Builtin.nextslicecap n 0 = n := by unfold Builtin.nextslicecap; simp; omega
  have hn0 : ¬ (n : Int) < 0 := by omega
  have hn2 : (0 : Int) < (n : Int) := by omega
  go_enter Tryz.func220, Tryz.ntmps220
  go_wp2_with fail
  all_goals first
    | (exfalso; rename_i a1 a2 a3; simp only [hT, hnc] at *; omega)
    | skip
  go_ret
  have hg1 : n ≤ (Question.appendCap n 0 146).cut (w.tape w.drawn (Question.appendCap n 0 146)) := grownCap_ge w n 0 146
  have hg2 : (Question.appendCap n 0 146).cut (w.tape w.drawn (Question.appendCap n 0 146)) ≤ maxLen := grownCap_le_maxLen w n 0 146 (by unfold maxLen; omega)
  generalize (Question.appendCap n 0 146).cut (w.tape w.drawn (Question.appendCap n 0 146)) = C at hg1 hg2 ⊢
  refine ⟨_, rfl, ⟨rfl, .inr ⟨w.heap.size, C, _, rfl, Nat.le_refl _, heap_alloc_new _ _, Nat.zero_le _, hg2, ?_, by simp⟩⟩, ((Below.refl _ _).alloc (Nat.le_refl _) _).drew⟩
  rw [Array.size_append, size_zeroCells, size_zeroCells]
  simp
  omega
def Parts (ga : Nat) (Vs : List (Value × List SV)) (w : World) : Prop := w.heap[ga]? = some (.cells (Vs.map (·.1)).toArray 111 (0, 0)) ∧ ∀ x ∈ Vs, Row 0 x.1 x.2 w
set_option maxHeartbeats 400000 in
theorem concat_any (ga : Nat) (Vs : List (Value × List SV)) (w : World) (h : Parts ga Vs w) (h1 : 1 ≤ (Vs.flatMap (·.2)).length) (h2 : (Vs.flatMap (·.2)).length ≤ 100000) (h3 : Vs.length ≤ 10) : Calls Tryz.prog 207 #[.slice (some ⟨ga, 0, none⟩) Vs.length Vs.length] w fun e w' => ∃ v, e = .returned v ∧ Row w.heap.size v (Vs.flatMap (·.2)) w' ∧ Below w.heap.size w w' := by
  obtain ⟨i0, hif, hz0, hz1, hz2⟩ := info_parts infoSt
  obtain ⟨n, hn⟩ : ∃ n, n = Vs.length := ⟨_, rfl⟩
  have hcell : ∀ (W : World), Parts ga Vs W → ∀ i (hi : i < Vs.length), W.cell? ⟨ga, i, none⟩ = some Vs[i].1 := fun W hW i hi => by
    simp only [World.cell?, hW.1]
    simp [hi]
  have hsum : ∀ i, i ≤ Vs.length → ((Vs.take i).flatMap (·.2)).length ≤ 100000 := fun i hi => by
    have e : (Vs.flatMap (·.2)).length = ((Vs.take i).flatMap (·.2)).length + ((Vs.drop i).flatMap (·.2)).length := by
      rw [← List.length_append, ← List.flatMap_append, List.take_append_drop]
    omega
  have hnext : ∀ i (hi : i < Vs.length), (Vs.take (i + 1)).flatMap (·.2) = (Vs.take i).flatMap (·.2) ++ Vs[i].2 := fun i hi => by
    rw [List.take_succ_eq_append_getElem hi, List.flatMap_append]; simp
  have HG : Hid (∀ W m, 1 ≤ m → m ≤ 100000 → Calls Tryz.prog 220 #[.slice none 0 0, .int .i64 ((m : Nat) : Int)] W fun e w' => ∃ v, e = .returned v ∧ Row W.heap.size v [] w' ∧ Below W.heap.size W w') := fun W m a b => grow_any m a b W
  have HH : Hid (n = Vs.length ∧ Parts ga Vs w ∧ _ ∧ _ ∧ _ ∧ 1 ≤ (Vs.flatMap (·.2)).length ∧ (Vs.flatMap (·.2)).length ≤ 100000) := ⟨hn, h, hcell, hsum, hnext, h1, h2⟩
  rw [← hn] at h3 ⊢
  clear h h1 h2 hn hcell hsum hnext
  go_enter Tryz.func207, Tryz.ntmps207
  go_wp2_with fail
  go_loopw [3, 11] (fun vs vi wr => ∃ k : Nat, k ≤ n ∧ vi = .int .i64 (k : Int) ∧ vs = .int .i64 ((((Vs.take k).flatMap (·.2)).length : Nat) : Int) ∧ wr = w) (fun _ vi _ => n - (intOf vi).toNat)
  case atStart => exact ⟨0, Nat.zero_le _, rfl, rfl, rfl⟩
  case round =>
    obtain ⟨k, hk, rfl, rfl, hwr⟩ := hrel
    have hwr2 := hwr.symm
    clear hwr
    subst hwr2
    by_cases hlt : k < n
    · have hl2 : (k : Int) < (n : Int) := by omega
      have hkV : k < Vs.length := by rw [← HH.out.1]; exact hlt
      have e0 := HH.out.2.2.1 w HH.out.2.1 k hkV
      have hrw := HH.out.2.1.2 Vs[k] (List.getElem_mem hkV)
      obtain ⟨a, c, hv⟩ := row_slice hrw
      rw [hv] at e0
      have hs1 := HH.out.2.2.2.1 k (by omega)
      have hs2 := HH.out.2.2.2.1 (k + 1) (by omega)
      rw [HH.out.2.2.2.2.1 k hkV, List.length_append] at hs2
      obtain ⟨m, hm⟩ : ∃ m, m = ((Vs.take k).flatMap (·.2)).length := ⟨_, rfl⟩
      obtain ⟨m2, hm2⟩ : ∃ m, m = Vs[k].2.length := ⟨_, rfl⟩
      rw [← hm] at hs1 hs2
      rw [← hm2] at hs2 e0
      have HM : Hid (m = ((Vs.take k).flatMap (·.2)).length ∧ m2 = Vs[k].2.length) := ⟨hm, hm2⟩
      rw [← hm]
      clear hm hm2 hv hrw
      go_wp2_with fail
      go_roundw
      case rel =>
        refine ⟨k + 1, by omega, by go_num, ?_, trivial⟩
        rw [HH.out.2.2.2.2.1 k hkV, List.length_append, ← HM.out.1, ← HM.out.2]
        go_num
      case measure => simp [intOf]; omega
    · have hl2 : ¬ (k : Int) < (n : Int) := by omega
      have hkn : k = n := by omega
      have hfull : (Vs.take k).flatMap (·.2) = Vs.flatMap (·.2) := by rw [hkn, HH.out.1, List.take_length]
      rw [hfull]
      obtain ⟨m, hm⟩ : ∃ m, m = (Vs.flatMap (·.2)).length := ⟨_, rfl⟩
      have HM : Hid (m = (Vs.flatMap (·.2)).length) := hm
      have hm1 : 1 ≤ m := by rw [hm]; exact HH.out.2.2.2.2.2.1
      have hm2 : m ≤ 100000 := by rw [hm]; exact HH.out.2.2.2.2.2.2
      rw [← hm]
      clear hm hfull
      go_wp2_with fail
      refine (HG.out w m hm1 hm2).mono ?_
      rintro e w1 ⟨v0, rfl, hr0, hb0⟩
      have H0 : Hid (Row w.heap.size v0 [] w1 ∧ Below w.heap.size w w1) := ⟨hr0, hb0⟩
      clear hr0 hb0 HG
      go_wp2_with fail
      go_loopw [6, 27] (fun vs vi w2 => ∃ k : Nat, k ≤ n ∧ vi = .int .i64 (k : Int) ∧ Row w.heap.size vs ((Vs.take k).flatMap (·.2)) w2 ∧ Below w.heap.size w w2) (fun _ vi _ => n - (intOf vi).toNat)
      case atStart => exact ⟨0, Nat.zero_le _, rfl, H0.out.1, H0.out.2⟩
      case round =>
        obtain ⟨k, hk, rfl, hrow, hbel⟩ := hrel
        by_cases hlt3 : k < n
        · have hl3 : (k : Int) < (n : Int) := by omega
          have hkV : k < Vs.length := by rw [← HH.out.1]; exact hlt3
          have hP : Parts ga Vs wr := ⟨(hbel.block ga (Array.getElem?_eq_some_iff.1 HH.out.2.1.1).1).trans HH.out.2.1.1, fun x hx => owns_below (HH.out.2.1.2 x hx) hbel⟩
          have e0 := HH.out.2.2.1 wr hP k hkV
          have hrw := hP.2 Vs[k] (List.getElem_mem hkV)
          have hs1 := HH.out.2.2.2.1 k (by omega)
          have hs2 := HH.out.2.2.2.1 (k + 1) (by omega)
          have hnx := HH.out.2.2.2.2.1 k hkV
          rw [hnx, List.length_append] at hs2
          obtain ⟨x, hx⟩ : ∃ x, x = Vs[k] := ⟨_, rfl⟩
          rw [← hx] at e0 hrw hs2 hnx
          obtain ⟨A, hA⟩ : ∃ A, A = (Vs.take k).flatMap (·.2) := ⟨_, rfl⟩
          rw [← hA] at hs1 hs2 hnx hrow
          obtain ⟨m, hm'⟩ : ∃ m, m = A.length := ⟨_, rfl⟩
          have hrow' : wr.ownsRow w.heap.size 146 7 u6 m (A.flatMap stepC) := by rw [hm']; exact hrow
          obtain ⟨a6, c6, hv6⟩ := row_slice hrow'
          subst hv6
          have HZ : Hid ((Vs.take (k + 1)).flatMap (·.2) = A ++ x.2 ∧ m = A.length ∧ Below w.heap.size w wr) := ⟨hnx, hm', hbel⟩
          have hbs := hbel.size
          rw [← hm'] at hs1 hs2
          clear hnx hx hA hm' hrow hbel
          rcases hrw.2 with ⟨hv, hl0⟩ | ⟨g, cap', cur, hv, hg0, hgg, hcl, hcm, hcs, hct⟩
          · rw [hv] at e0
            have hx0 : x.2 = [] := List.length_eq_zero_iff.1 hl0
            have HX0 : Hid (x.2 = []) := hx0
            clear hx0
            go_wp2_with (first | (at_builtin; refine wpList_append_own_none rfl _ _ 111 rfl w.heap.size 146 i0 7 Tryz.underlying111 hif _ _ _ rfl hrow' rfl ?_) | fail)
            go_roundw
            case rel =>
              refine ⟨k + 1, by omega, by go_num, ?_, HZ.out.2.2⟩
              rw [HZ.out.1, HX0.out, List.append_nil]
              unfold Row
              rw [← HZ.out.2.1]; exact hrow'
            case measure => simp [intOf]; omega
          · rw [hv] at e0
            obtain ⟨m2, hm2'⟩ : ∃ m, m = x.2.length := ⟨_, rfl⟩
            rw [← hm2'] at e0 hs2
            have hrw2 : wr.ownsRow 0 146 7 (.slice (some ⟨g, 0, none⟩) m2 cap') m2 (x.2.flatMap stepC) := by rw [hm2', ← hv]; exact hrw
            have HX0 : Hid (m2 = x.2.length) := hm2'
            clear hrw hgg hcs hct hv hcl hcm hm2'
            go_wp2_with (first | (at_builtin; refine wpList_append_own_at _ rfl _ _ 111 rfl w.heap.size 146 i0 (.agg #[.int .i64 0, .int .u64 0, .int .u64 0, .int .u64 0, .int .u64 0, .int .i64 0, .int .i64 0]) 7 56 Tryz.underlying111 hif hz0 hz1 hz2 rfl (by decide) _ _ _ rfl hrow' ⟨g, 0, none⟩ m2 cap' (x.2.flatMap stepC) rfl (by rw [flat_len2 stepC 7 (fun _ => rfl), ← HX0.out, Nat.mul_comm]) (fun j u hj => hrw2.cells rfl j u hj) (stepC_one _) (by unfold maxLen; omega) (by omega) hbs ?_) | fail)
            intro v9 w9 hown' hgrow _ hloc
            obtain ⟨a9, c9, hv9⟩ := row_slice hown'
            subst hv9
            have H9 : Hid (w9.ownsRow w.heap.size 146 7 (.slice a9 (m + m2) c9) (m + m2) (A.flatMap stepC ++ x.2.flatMap stepC) ∧ Below w.heap.size w w9) := by
              refine ⟨hown', hgrow.os.trans HZ.out.2.2.os, hgrow.tape.trans HZ.out.2.2.tape, hgrow.output.trans HZ.out.2.2.output, Nat.le_trans HZ.out.2.2.size hgrow.size, fun j hj => ?_⟩
              rw [hgrow.block j (by omega) (fun e => by have := (hrow'.lt j e.symm).1; omega)]
              exact HZ.out.2.2.block j hj
            clear hown' hgrow hloc hrow' hrw2
            go_wp2_with fail
            go_roundw
            case rel =>
              refine ⟨k + 1, by omega, by go_num, ?_, H9.out.2⟩
              rw [HZ.out.1]
              unfold Row
              rw [List.flatMap_append, List.length_append, ← HZ.out.2.1, ← HX0.out]
              exact H9.out.1
            case measure => simp [intOf]; omega
        · have hl3 : ¬ (k : Int) < (n : Int) := by omega
          have HF : Hid (Row w.heap.size u6 (Vs.flatMap (·.2)) wr ∧ Below w.heap.size w wr) := by
            have hkn2 : k = n := by omega
            rw [hkn2, HH.out.1, List.take_length] at hrow
            exact ⟨hrow, hbel⟩
          clear hrow hbel
          go_wp2_with fail
          go_ret
          exact ⟨_, rfl, HF.out⟩
end Go.Proofs.YtedepknbaakkhabGreatDoor.X
