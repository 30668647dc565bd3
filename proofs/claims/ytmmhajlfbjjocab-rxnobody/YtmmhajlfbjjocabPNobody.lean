/-
  What the statement RxNobody answers.
-/
import Derived.Test.YtmmhajlfbjjocabPNone
namespace Go.Proofs.Ytmmhajlfbjjocab
open Go.RowKit Go.Shelf RxSem

def zeroRx : Array Value := #[.bool false, .string ⟨#[]⟩, .int .u32 0, .int .i32 0, .int .u32 0, .slice none 0 0, .slice none 0 0]
structure Nb (w W : World) : Prop where
  bel : Below w.heap.size w W
  rx : W.heap[w.heap.size]? = some (.cells zeroRx 38 (0, 0))
  row : W.heap[w.heap.size + 1]? = some (.cells #[.pointer none, .pointer (some ⟨w.heap.size, 0, none⟩)] 22 (0, 0))
theorem Nb.below {w W W' : World} (h : Nb w W) (hb : Below W.heap.size W W') : Nb w W' :=
  ⟨h.bel.trans (hb.mono h.bel.size), (hb.block _ (Array.getElem?_eq_some_iff.1 h.rx).1).trans h.rx, (hb.block _ (Array.getElem?_eq_some_iff.1 h.row).1).trans h.row⟩
theorem Nb.nil {w W : World} (_h : Nb w W) : Nob (.pointer none) W := .inl rfl
theorem Nb.zero {w W : World} (h : Nb w W) : Nob (.pointer (some ⟨w.heap.size, 0, none⟩)) W := .inr ⟨_, rfl, _, h.rx, rfl, rfl⟩
set_option maxRecDepth 20000 in
set_option maxHeartbeats 600000 in
theorem nobody_law (s : ByteArray) (f : Int) (w : World) (hs : s.size ≤ 140737488355328) : Calls Try.prog 3 #[.string s, .int .i64 f] w fun e w' => e = .returned (.bool true) ∧ Below w.heap.size w w' := by
  have HA : Hid (∀ W, Calls Try.prog 8 #[] W fun e w' => e = .returned (.bool true) ∧ Below W.heap.size W w') := alive_any
  have HF : Hid (∀ v W, Nob v W → Calls Try.prog 4 #[v, .string s, .int .i64 f] W fun e w' => e = .returned (findV (0, 0, false)) ∧ Below W.heap.size W w') := fun v W h => find_none v s f W h
  have HI : Hid (∀ v W, Nob v W → Calls Try.prog 5 #[v, .string s] W fun e w' => e = .returned (.bool false) ∧ Below W.heap.size W w') := fun v W h => is_none v s W h
  have HR : Hid (∀ v W, Nob v W → Calls Try.prog 6 #[v, .string s, .string ⟨#[120]⟩, .bool true] W fun e w' => e = .returned (.string s) ∧ Below W.heap.size W w') := fun v W h => replace_none v s _ true W h hs
  have HT : Hid (∀ v W, Nob v W → Calls Try.prog 7 #[v] W fun e w' => e = .returned (.string ⟨#[]⟩) ∧ W = w') := fun v W h => text_none v W h
  obtain ⟨W0, hW, hB, hS, k1, k2⟩ := two w (.cells #[.bool false, .string ⟨#[]⟩, .int .u32 0, .int .i32 0, .int .u32 0, .slice none 0 0, .slice none 0 0] 38) (.cells #[.pointer none, .pointer (some ⟨w.heap.size, 0, none⟩)] 22)
  have H0 : Hid (Nb w W0) := ⟨hB, k1, k2⟩
  clear hB hS k1 k2
  go_enter Try.func3, Try.ntmps3
  go_wp2_with fail
  rw [← hW]
  clear hW
  go_loopw [14] (fun vi wr => ∃ j : Nat, j ≤ 2 ∧ vi = .int .i64 (j : Int) ∧ Hid (Nb w wr)) (fun vi _ => 2 - (intOf vi).toNat)
  case atStart => exact ⟨0, by omega, rfl, H0⟩
  case round =>
    obtain ⟨j, hj, rfl, HI0'⟩ := hrel
    have HI0 : Hid (True ∧ Nb w wr) := ⟨trivial, HI0'.out⟩
    clear HI0' H0
    have hb : w.heap.size + 1 < wr.heap.size := (Array.getElem?_eq_some_iff.1 HI0.out.2.row).1
    have r0 : wr.cell? ⟨w.heap.size + 1, 0, none⟩ = some (.pointer none) := by simp only [World.cell?, HI0.out.2.row]; rfl
    have r1 : wr.cell? ⟨w.heap.size + 1, 1, none⟩ = some (.pointer (some ⟨w.heap.size, 0, none⟩)) := by simp only [World.cell?, HI0.out.2.row]; rfl
    obtain rfl | rfl | rfl : j = 0 ∨ j = 1 ∨ j = 2 := by omega
    · go_wp2_with fail
      refine (HF.out (.pointer none) wr (Nb.nil HI0.out.2)).mono ?_
      rintro e w1 ⟨rfl, hb⟩
      have H1 : Hid (Nb w w1) := HI0.out.2.below hb
      clear hb
      simp only [findV]
      go_wp2_with fail
      refine (HI.out (.pointer none) w1 (Nb.nil H1.out)).mono ?_
      rintro e w2 ⟨rfl, hb⟩
      have H2 : Hid (Nb w w2) := H1.out.below hb
      clear hb
      go_wp2_with fail
      refine (HR.out (.pointer none) w2 (Nb.nil H2.out)).mono ?_
      rintro e w3 ⟨rfl, hb⟩
      have H3 : Hid (Nb w w3) := H2.out.below hb
      clear hb
      go_wp2_with fail
      refine (HT.out (.pointer none) w3 (Nb.nil H3.out)).mono ?_
      rintro e w4 ⟨rfl, rfl⟩
      go_wp2_with fail
      go_roundw
      case rel => exact ⟨1, by omega, rfl, H3⟩
      case measure => simp [intOf]
    · go_wp2_with fail
      refine (HF.out (.pointer (some ⟨w.heap.size, 0, none⟩)) wr (Nb.zero HI0.out.2)).mono ?_
      rintro e w1 ⟨rfl, hb⟩
      have H1 : Hid (Nb w w1) := HI0.out.2.below hb
      clear hb
      simp only [findV]
      go_wp2_with fail
      refine (HI.out (.pointer (some ⟨w.heap.size, 0, none⟩)) w1 (Nb.zero H1.out)).mono ?_
      rintro e w2 ⟨rfl, hb⟩
      have H2 : Hid (Nb w w2) := H1.out.below hb
      clear hb
      go_wp2_with fail
      refine (HR.out (.pointer (some ⟨w.heap.size, 0, none⟩)) w2 (Nb.zero H2.out)).mono ?_
      rintro e w3 ⟨rfl, hb⟩
      have H3 : Hid (Nb w w3) := H2.out.below hb
      clear hb
      go_wp2_with fail
      refine (HT.out (.pointer (some ⟨w.heap.size, 0, none⟩)) w3 (Nb.zero H3.out)).mono ?_
      rintro e w4 ⟨rfl, rfl⟩
      go_wp2_with fail
      go_roundw
      case rel => exact ⟨2, by omega, rfl, H3⟩
      case measure => simp [intOf]
    · go_wp2_with fail
      refine (HA.out _).mono ?_
      rintro e w1 ⟨rfl, hb⟩
      have HB : Hid (Below w.heap.size w w1) := HI0.out.2.bel.trans (hb.mono HI0.out.2.bel.size)
      clear hb
      go_wp2_with fail
      go_ret
      exact ⟨rfl, HB.out⟩
theorem nobody_rx (s : ByteArray) (f : Int) (w : World) (hs : s.size ≤ 140737488355328) (_hf : (Lit.int .i64 f).wf = true) : Calls Try.prog 3 #[.string s, .int .i64 f] w fun e w' => e = .returned (.bool true) ∧ Below w.heap.size w w' := nobody_law s f w hs
end Go.Proofs.Ytmmhajlfbjjocab
