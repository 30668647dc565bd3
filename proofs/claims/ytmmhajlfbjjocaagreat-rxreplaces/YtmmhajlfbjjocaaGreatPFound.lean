/-
  An expression's steps.
-/
import Derived.Test.YtmmhajlfbjjocaaGreatPSlow
namespace Go.Proofs.YtmmhajlfbjjocaaGreat
open Go.RowKit Go.Shelf RxSem

/-- Its steps are found. -/
structure Steps (b gs cap : Nat) (SL : List SV) (t : ByteArray) (k : List Nd) (w : World) : Prop where
  blk : w.heap[b]? = some (.cells (rxC 1 0 t (.slice none 0 0) (.slice (some ⟨gs, 0, none⟩) SL.length cap)) 63 (0, 0))
  stp : ∃ cur, w.heap[gs]? = some (.cells cur 96 (0, 0)) ∧ cur.toList.take (7 * SL.length) = SL.flatMap stepC
  abs : SL.map SV.abs = code (.alt k) ++ [.done]
  oks : ∀ x ∈ SL, x.Ok
  few : SL.length ≤ 1000
/-- An expression that was made. -/
inductive Made (b : Nat) (t : ByteArray) (k : List Nd) (w : World) : Prop where
  | fresh (v : Value) (base : Nat) (L : List SG) (hb : w.heap[b]? = some (.cells (rxC 0 0 t v (.slice none 0 0)) 63 (0, 0))) (hr : w.ownsRow base 98 8 v L.length (L.flatMap signC)) (hok : ∀ x ∈ L, x.v.Ok) (hsp : SP .ways (L.map SG.abs) k []) (hL : L.length ≤ 200)
  | found (gs cap : Nat) (SL : List SV) (h : Steps b gs cap SL t k w)
theorem Made.lt {b : Nat} {t : ByteArray} {k : List Nd} {w : World} (h : Made b t k w) : b < w.heap.size := by
  cases h with
  | fresh v base L hb => exact (Array.getElem?_eq_some_iff.1 hb).1
  | found gs cap SL h => exact (Array.getElem?_eq_some_iff.1 h.blk).1
theorem Made.below {b : Nat} {t : ByteArray} {k : List Nd} {w w' : World} (h : Made b t k w) (hB : Below w.heap.size w w') : Made b t k w' := by
  cases h with
  | fresh v base L hb hr hok hsp hL => exact .fresh v base L ((hB.block b (Array.getElem?_eq_some_iff.1 hb).1).trans hb) (owns_below hr hB) hok hsp hL
  | found gs cap SL h =>
    obtain ⟨cur, h2, h3⟩ := h.stp
    exact .found gs cap SL ⟨(hB.block b (Array.getElem?_eq_some_iff.1 h.blk).1).trans h.blk, ⟨cur, (hB.block gs (Array.getElem?_eq_some_iff.1 h2).1).trans h2, h3⟩, h.abs, h.oks, h.few⟩
/-- Another block is written: an expression stays. -/
theorem Made.wrote {b c : Nat} {t : ByteArray} {k : List Nd} {w w' : World} (h : Made b t k w) (hW : Wrote c w w') (hbc : b ≠ c) (hc : ∃ cs, w.heap[c]? = some (.cells cs 63 (0, 0))) : Made b t k w' := by
  obtain ⟨cs, hc⟩ := hc
  cases h with
  | fresh v base L hb hr hok hsp hL => exact .fresh v base L ((hW.block b (Array.getElem?_eq_some_iff.1 hb).1 hbc).trans hb) (wrote_row hW hr (row_ne hr hc (by decide))) hok hsp hL
  | found gs cap SL h =>
    obtain ⟨cur, h2, h3⟩ := h.stp
    have hgc : gs ≠ c := fun e => by rw [e, hc] at h2; simp at h2
    exact .found gs cap SL ⟨(hW.block b (Array.getElem?_eq_some_iff.1 h.blk).1 hbc).trans h.blk, ⟨cur, (hW.block gs (Array.getElem?_eq_some_iff.1 h2).1 hgc).trans h2, h3⟩, h.abs, h.oks, h.few⟩
theorem steps_few {L : List SG} {k : List Nd} {SL : List SV} (hsp : SP .ways (L.map SG.abs) k []) (hL : L.length ≤ 200) (ha : SL.map SV.abs = code (.alt k) ++ [.done]) : SL.length ≤ 1000 := by
  have h1 := hsp.size
  have h2 := congrArg List.length ha
  simp only [lenOf, List.length_map, List.length_append, List.length_nil, List.length_singleton] at h1 h2
  omega

set_option maxRecDepth 20000 in
set_option maxHeartbeats 400000 in
theorem found_fresh (hst : StepsC) (b : Nat) (t : ByteArray) (k : List Nd) (v : Value) (base : Nat) (L : List SG) (w : World) (hb : w.heap[b]? = some (.cells (rxC 0 0 t v (.slice none 0 0)) 63 (0, 0))) (hr : w.ownsRow base 98 8 v L.length (L.flatMap signC)) (hok : ∀ x ∈ L, x.v.Ok) (hsp : SP .ways (L.map SG.abs) k []) (hL : L.length ≤ 200) :
    Calls Tryz.prog 39 #[.pointer (some ⟨b, 0, none⟩)] w fun e w' => ∃ (gs cap : Nat) (SL : List SV), e = .returned (.slice (some ⟨gs, 0, none⟩) SL.length cap) ∧ Steps b gs cap SL t k w' ∧ Wrote b w w' := by
  obtain ⟨wa, hwa, hBa, hSa, hka⟩ := one_box w (.cells #[.pointer (some ⟨b, 0, none⟩)] 26)
  have hbl : b < w.heap.size := (Array.getElem?_eq_some_iff.1 hb).1
  have p0 : wa.cell? ⟨w.heap.size, 0, none⟩ = some (.pointer (some ⟨b, 0, none⟩)) := by simp only [World.cell?, hka]; rfl
  have hba := (hBa.block b hbl).trans hb
  have HD : Hid (Calls Tryz.prog 50 #[.pointer (some ⟨b, 2, none⟩), .func (.func 51) #[] #[.pointer (some ⟨w.heap.size, 0, none⟩)]] wa (SlowPost b t k wa)) := do_first hst b w.heap.size t L k v base wa p0 hba (owns_below hr hBa) hok hsp hL (by omega)
  have hmf : ∀ (fn : Fn) (first cap : Array Value) (w : World), (Instr.makeFunc fn first cap).run Tryz.prog w = .ok (.func fn first cap) w := fun _ _ _ _ => rfl
  have HX : Hid (Below w.heap.size w wa ∧ wa.heap.size = w.heap.size + 1 ∧ SP .ways (L.map SG.abs) k [] ∧ L.length ≤ 200) := ⟨hBa, hSa, hsp, hL⟩
  clear hb hr hok hsp hL hba hst hBa hSa hka
  go_enter Tryz.func39, Tryz.ntmps39
  go_wp2_with fail
  rw [← hwa]
  clear hwa
  go_wp2_with fail
  refine HD.out.mono ?_
  rintro e w1 ⟨rfl, hwr, gs, cap, SL, q1, q2, q3, q4, q5⟩
  have d6 : w1.cell? ⟨b, 6, none⟩ = some (.slice (some ⟨gs, 0, none⟩) SL.length cap) := by simp only [World.cell?, q1]; rfl
  have pe : w1.cell? ⟨w.heap.size, 0, none⟩ = some (.pointer (some ⟨b, 0, none⟩)) := (World.cell?_of_block (hwr.block w.heap.size (World.block_lt_of_cell? wa _ p0) (by omega))).trans p0
  have HQ : Hid (Wrote b wa w1 ∧ Steps b gs cap SL t k w1) := ⟨hwr, q1, q3, q4, q5, steps_few HX.out.2.2.1 HX.out.2.2.2 q4⟩
  clear hwr q1 q2 q3 q4 q5 HD
  go_wp2_with fail
  go_ret
  exact ⟨gs, cap, SL, rfl, HQ.out.2, Wrote.of HX.out.1 HQ.out.1⟩

set_option maxRecDepth 20000 in
set_option maxHeartbeats 400000 in
theorem found_found (b : Nat) (t : ByteArray) (k : List Nd) (gs cap : Nat) (SL : List SV) (w : World) (h : Steps b gs cap SL t k w) :
    Calls Tryz.prog 39 #[.pointer (some ⟨b, 0, none⟩)] w fun e w' => ∃ (gs cap : Nat) (SL : List SV), e = .returned (.slice (some ⟨gs, 0, none⟩) SL.length cap) ∧ Steps b gs cap SL t k w' ∧ Wrote b w w' := by
  obtain ⟨wa, hwa, hBa, hSa, hka⟩ := one_box w (.cells #[.pointer (some ⟨b, 0, none⟩)] 26)
  have hbl : b < w.heap.size := (Array.getElem?_eq_some_iff.1 h.blk).1
  have p0 : wa.cell? ⟨w.heap.size, 0, none⟩ = some (.pointer (some ⟨b, 0, none⟩)) := by simp only [World.cell?, hka]; rfl
  have hba := (hBa.block b hbl).trans h.blk
  have c2 : wa.cell? ⟨b, 2, none⟩ = some (.int .u32 1) := by simp only [World.cell?, hba]; rfl
  have d6 : wa.cell? ⟨b, 6, none⟩ = some (.slice (some ⟨gs, 0, none⟩) SL.length cap) := by simp only [World.cell?, hba]; rfl
  have HD : Hid (Calls Tryz.prog 50 #[.pointer (some ⟨b, 2, none⟩), .func (.func 51) #[] #[.pointer (some ⟨w.heap.size, 0, none⟩)]] wa fun e w' => e = .returned (.tuple #[]) ∧ w' = wa) := do_done b _ wa c2
  have hmf : ∀ (fn : Fn) (first cap : Array Value) (w : World), (Instr.makeFunc fn first cap).run Tryz.prog w = .ok (.func fn first cap) w := fun _ _ _ _ => rfl
  have HX : Hid (Below w.heap.size w wa ∧ Steps b gs cap SL t k wa) := by
    obtain ⟨cur, h2, h3⟩ := h.stp
    exact ⟨hBa, hba, ⟨cur, (hBa.block gs (Array.getElem?_eq_some_iff.1 h2).1).trans h2, h3⟩, h.abs, h.oks, h.few⟩
  clear h hba hBa hSa hka
  go_enter Tryz.func39, Tryz.ntmps39
  go_wp2_with fail
  rw [← hwa]
  clear hwa
  go_wp2_with fail
  refine HD.out.mono ?_
  rintro e w1 ⟨rfl, rfl⟩
  go_wp2_with fail
  go_ret
  exact ⟨gs, cap, SL, rfl, HX.out.2, Wrote.of_below HX.out.1⟩
theorem found_any (hst : StepsC) (b : Nat) (t : ByteArray) (k : List Nd) (w : World) (h : Made b t k w) :
    Calls Tryz.prog 39 #[.pointer (some ⟨b, 0, none⟩)] w fun e w' => ∃ (gs cap : Nat) (SL : List SV), e = .returned (.slice (some ⟨gs, 0, none⟩) SL.length cap) ∧ Steps b gs cap SL t k w' ∧ Wrote b w w' := by
  cases h with
  | fresh v base L hb hr hok hsp hL => exact found_fresh hst b t k v base L w hb hr hok hsp hL
  | found gs cap SL h => exact found_found b t k gs cap SL w h
end Go.Proofs.YtmmhajlfbjjocaaGreat
