/-
  All, of a text whose modifiers all read well.
-/
import Derived.Test.YthcbagggalehgaaGreatDoorM19
namespace Go.Proofs.YthcbagggalehgaaGreatDoor
open Go.RowKit Go.Shelf

set_option maxRecDepth 20000 in
set_option maxHeartbeats 3200000 in
theorem All_ok (s : ByteArray) (ms : List Md) (gs : List (List ByteArray → Option (List ByteArray))) (hg : AllApply ms gs) (hs : s.size ≤ 1000000) (h1 : 1 ≤ s.size) (hc : Chain s 0 ms) (hl : ms.length ≤ 32) (a : Option Addr) (n c : Nat) (l : List ByteArray) (w : World) (hw : Words w.heap.size w (.slice a n c) l) (hfew : Few l) (hmx : Mx w) :
    Calls Tryz.prog 81 #[.string s, .slice a n c] w fun e w' => DonePost w (foldG gs l) e w' := by
  have HP : Hid (Calls Tryz.prog 93 #[.string s] w fun e w' => ∃ v, e = .returned (.tuple #[v, .agg #[.int .i64 0, .int .i64 0]]) ∧ w'.ownsRow w.heap.size 157 12 v ms.length (modsV ms) ∧ Below w.heap.size w w') := parse_ok s ms w hs h1 hc hl hmx
  have HA : Hid (∀ am cm W, ModsRow W.heap.size W (.slice am ms.length cm) ms → Below w.heap.size w W → Calls Tryz.prog 94 #[.slice am ms.length cm, .slice a n c] W fun e w' => DonePost W (foldG gs l) e w') := fun am cm W hm hB =>
    Apply_any ms gs hg am ms.length cm a n c l W hm ((hw.below hB).mono hB.size) hfew (by omega) (hmx.below hB hmx.pos)
  obtain ⟨R, hR⟩ : ∃ R, R = foldG gs l := ⟨_, rfl⟩
  rw [← hR] at HA ⊢
  obtain ⟨nm, hnm⟩ : ∃ nm, nm = ms.length := ⟨_, rfl⟩
  rw [← hnm] at HA HP
  have HN : Hid (nm = ms.length) := hnm
  clear hg hc hw hfew hmx hR hs h1 hl hnm
  go_enter Tryz.func81, Tryz.ntmps81
  go_wp2_with fail
  refine HP.out.mono ?_
  rintro e w1 ⟨v, rfl, ho, hb⟩
  obtain ⟨am, cm, rfl⟩ := owns_slice ho
  have HM : Hid (∀ W, Below w1.heap.size w1 W → ModsRow W.heap.size W (.slice am nm cm) ms) := fun W hB => by
    have h2 := modsRow_of (ms := ms) (by rw [← HN.out]; exact ho)
    obtain ⟨a', c', e1, e2⟩ := h2.below hB
    refine ⟨a', c', e1, fun k hk => ?_⟩
    obtain ⟨g, o, f1, f2, f3⟩ := e2 k hk
    exact ⟨g, o, f1, Nat.lt_of_lt_of_le f2 hB.size, f3⟩
  have HB : Hid (Below w.heap.size w w1) := hb
  clear ho hb
  go_wp2_with fail
  refine (HA.out am cm _ (HM.out _ ((Below.refl _ _).alloc (Nat.le_refl _) _)) (HB.out.alloc HB.out.size _)).mono ?_
  rintro e w2 ⟨hb2, hm2⟩
  have HB2 : Hid (Below w.heap.size w w2 ∧ w.heap.size ≤ (w1.alloc (.cells #[.int .i64 0, .int .i64 0] 145)).heap.size) := ⟨(HB.out.alloc HB.out.size _).trans (hb2.mono ((HB.out.alloc HB.out.size _).size)), (HB.out.alloc HB.out.size _).size⟩
  clear hb2
  cases R with
  | none =>
    dsimp only at hm2
    subst hm2
    go_wp2
    go_ret2
    exact ⟨HB2.out.1, rfl⟩
  | some r =>
    obtain ⟨v2, rfl, ho2⟩ := hm2
    have HO : Hid (w2.ownsRow w.heap.size 9 1 v2 r.length (r.map Value.string)) := owns_base ho2 HB2.out.2
    clear ho2
    go_wp2
    go_ret2
    exact ⟨HB2.out.1, v2, rfl, HO.out⟩
end Go.Proofs.YthcbagggalehgaaGreatDoor
