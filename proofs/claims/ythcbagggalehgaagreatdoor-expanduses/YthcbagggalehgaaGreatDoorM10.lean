/-
  The steps of M, N and a=b.
-/
import Derived.Test.YthcbagggalehgaaGreatDoorM9
namespace Go.Proofs.YthcbagggalehgaaGreatDoor
open Go.RowKit Go.Shelf

theorem Wk.step {base b : Nat} {m : Md} {v : Value} {made : List ByteArray} {done : Bool} {w w' : World} (h : Wk base b m v made false done w) (hb : Below w.heap.size w w') : Step base b m v made done none w w' :=
  ⟨⟨v, h.below hb, fun _ h => .inl h⟩, Went.of_below hb⟩

set_option maxRecDepth 20000 in
set_option maxHeartbeats 1600000 in
theorem matching_any (base b : Nat) (m : Md) (v : Value) (made : List ByteArray) (done : Bool) (x : ByteArray) (w : World) (h : Wk base b m v made false done w) (ha : m.a.size ≤ 1000000) (hx : x.size ≤ 1000000) (hs : sizeL made ≤ 65536) (hl : made.length ≤ 100000) :
    Calls Tryz.prog 120 #[.pointer (some ⟨b, 0, none⟩), .string x] w fun e w' => e = .returned (.tuple #[]) ∧ Step base b m v made done (if G.matchB (bl m.a) (bl x) = true then some x else none) w w' := by
  have HM : Hid (∀ W, Calls Tryz.prog 140 #[.string m.a, .string x] W fun e w' => e = .returned (.bool (G.matchB (bl m.a) (bl x))) ∧ Below W.heap.size W w') := fun W => match_any m.a x W ha hx
  have HK : Hid (∀ W, Wk base b m v made false done W → Calls Tryz.prog 141 #[.pointer (some ⟨b, 0, none⟩), .string x] W fun e w' => e = .returned (.tuple #[]) ∧ Step base b m v made done (some x) W w') := fun W hW => keep_any base b m v made false done x W hW hs hl
  have HW : Hid (Wk base b m v made false done w) := h
  obtain ⟨⟨r0, r1, r2, r3, r4, r6, r7, r8, r9⟩, _, hfz⟩ := h.cells
  clear h
  cases hB : G.matchB (bl m.a) (bl x) with
  | true =>
    rw [hB] at HM
    rw [if_pos rfl]
    go_enter Tryz.func120, Tryz.ntmps120
    go_wp2_with fail
    refine (HM.out _).mono ?_
    rintro e w1 ⟨rfl, hb1⟩
    have HZ : Hid (Below w.heap.size w w1) := hb1
    clear hb1
    go_wp2_with fail
    refine (HK.out _ (HW.out.below HZ.out)).mono ?_
    rintro e w2 ⟨rfl, hst⟩
    have HS : Hid (Step base b m v made done (some x) w w2) := hst.of_below HZ.out
    clear hst
    go_wp2
    refine bodyPost_end (v := .tuple #[]) (by simp [results, Tryz.results120, go_sem]) rfl ⟨rfl, HS.out⟩
  | false =>
    rw [hB] at HM
    rw [if_neg (by simp)]
    go_enter Tryz.func120, Tryz.ntmps120
    go_wp2_with fail
    refine (HM.out _).mono ?_
    rintro e w1 ⟨rfl, hb1⟩
    have HZ : Hid (Below w.heap.size w w1) := hb1
    clear hb1
    go_wp2
    refine bodyPost_end (v := .tuple #[]) (by simp [results, Tryz.results120, go_sem]) rfl ⟨rfl, HW.out.step HZ.out⟩

set_option maxRecDepth 20000 in
set_option maxHeartbeats 1600000 in
theorem other_any (base b : Nat) (m : Md) (v : Value) (made : List ByteArray) (done : Bool) (x : ByteArray) (w : World) (h : Wk base b m v made false done w) (ha : m.a.size ≤ 1000000) (hx : x.size ≤ 1000000) (hs : sizeL made ≤ 65536) (hl : made.length ≤ 100000) :
    Calls Tryz.prog 121 #[.pointer (some ⟨b, 0, none⟩), .string x] w fun e w' => e = .returned (.tuple #[]) ∧ Step base b m v made done (if G.matchB (bl m.a) (bl x) = true then none else some x) w w' := by
  have HM : Hid (∀ W, Calls Tryz.prog 140 #[.string m.a, .string x] W fun e w' => e = .returned (.bool (G.matchB (bl m.a) (bl x))) ∧ Below W.heap.size W w') := fun W => match_any m.a x W ha hx
  have HK : Hid (∀ W, Wk base b m v made false done W → Calls Tryz.prog 141 #[.pointer (some ⟨b, 0, none⟩), .string x] W fun e w' => e = .returned (.tuple #[]) ∧ Step base b m v made done (some x) W w') := fun W hW => keep_any base b m v made false done x W hW hs hl
  have HW : Hid (Wk base b m v made false done w) := h
  obtain ⟨⟨r0, r1, r2, r3, r4, r6, r7, r8, r9⟩, _, hfz⟩ := h.cells
  clear h
  cases hB : G.matchB (bl m.a) (bl x) with
  | false =>
    rw [hB] at HM
    rw [if_neg (by simp)]
    go_enter Tryz.func121, Tryz.ntmps121
    go_wp2_with fail
    refine (HM.out _).mono ?_
    rintro e w1 ⟨rfl, hb1⟩
    have HZ : Hid (Below w.heap.size w w1) := hb1
    clear hb1
    go_wp2_with fail
    refine (HK.out _ (HW.out.below HZ.out)).mono ?_
    rintro e w2 ⟨rfl, hst⟩
    have HS : Hid (Step base b m v made done (some x) w w2) := hst.of_below HZ.out
    clear hst
    go_wp2
    refine bodyPost_end (v := .tuple #[]) (by simp [results, Tryz.results121, go_sem]) rfl ⟨rfl, HS.out⟩
  | true =>
    rw [hB] at HM
    rw [if_pos rfl]
    go_enter Tryz.func121, Tryz.ntmps121
    go_wp2_with fail
    refine (HM.out _).mono ?_
    rintro e w1 ⟨rfl, hb1⟩
    have HZ : Hid (Below w.heap.size w w1) := hb1
    clear hb1
    go_wp2
    refine bodyPost_end (v := .tuple #[]) (by simp [results, Tryz.results121, go_sem]) rfl ⟨rfl, HW.out.step HZ.out⟩
end Go.Proofs.YthcbagggalehgaaGreatDoor
