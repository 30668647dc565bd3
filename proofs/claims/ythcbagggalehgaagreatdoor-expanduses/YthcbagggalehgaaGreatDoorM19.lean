/-
  Apply.
-/
import Derived.Test.YthcbagggalehgaaGreatDoorM18
namespace Go.Proofs.YthcbagggalehgaaGreatDoor
open Go.RowKit Go.Shelf

theorem modsV_get : ∀ (ms : List Md) (k i : Nat) (hk : k < ms.length), i < 12 → ∀ u, (ms[k].cells)[i]? = some u → (modsV ms)[k * 12 + i]? = some u
  | [], k, i, hk, _, _, _ => by simp at hk
  | m :: t, 0, i, _, hi, u, hu => by
    unfold modsV
    rw [List.flatMap_cons, Nat.zero_mul, Nat.zero_add, List.getElem?_append_left (by exact hi)]
    simpa using hu
  | m :: t, k + 1, i, hk, hi, u, hu => by
    unfold modsV
    rw [List.flatMap_cons, List.getElem?_append_right (by show 12 ≤ _; omega)]
    have := modsV_get t k i (by simpa using hk) hi u (by simpa using hu)
    unfold modsV at this
    rw [show (k + 1) * 12 + i - m.cells.toList.length = k * 12 + i by show (k + 1) * 12 + i - 12 = _; omega]
    exact this
/-- A slice of modifiers that is read. -/
def ModsRow (B : Nat) (W : World) (v : Value) (ms : List Md) : Prop :=
  ∃ a c, v = .slice a ms.length c ∧ ∀ k (h : k < ms.length), ∃ g o, a = some ⟨g, o, none⟩ ∧ g < B ∧ ∀ i u, (ms[k].cells)[i]? = some u → W.cell? ⟨g, o + k * 12 + i, none⟩ = some u
theorem ModsRow.below {B : Nat} {W W1 : World} {v : Value} {ms : List Md} (h : ModsRow B W v ms) (hb : Below B W W1) : ModsRow B W1 v ms := by
  obtain ⟨a, c, h1, h2⟩ := h
  refine ⟨a, c, h1, fun k hk => ?_⟩
  obtain ⟨g, o, e1, e2, e3⟩ := h2 k hk
  exact ⟨g, o, e1, e2, fun i u hu => (hb.cell (p := ⟨g, o + k * 12 + i, none⟩) e2).trans (e3 i u hu)⟩
def foldG : List (List ByteArray → Option (List ByteArray)) → List ByteArray → Option (List ByteArray)
  | [], l => some l
  | g :: t, l => (g l).bind (foldG t)
def DonePost (w : World) (R : Option (List ByteArray)) (e : Ending) (w' : World) : Prop :=
  Below w.heap.size w w' ∧ match R with
      | none => e = .returned (.tuple #[.slice none 0 0, .int .i64 5])
      | some r => ∃ v', e = .returned (.tuple #[v', .int .i64 0]) ∧ w'.ownsRow w.heap.size 9 1 v' r.length (r.map Value.string)
/-- Modifiers, each with what it makes. -/
def AllApply (ms : List Md) (gs : List (List ByteArray → Option (List ByteArray))) : Prop := ms.length = gs.length ∧ ∀ k (h : k < ms.length) (h2 : k < gs.length), Applies ms[k] gs[k]

set_option maxRecDepth 20000 in
set_option maxHeartbeats 3200000 in
theorem Apply_any (ms : List Md) (gs : List (List ByteArray → Option (List ByteArray))) (hg : AllApply ms gs) (am : Option Addr) (nm cm : Nat) (a : Option Addr) (n c : Nat) (l : List ByteArray) (w : World) (hmr : ModsRow w.heap.size w (.slice am nm cm) ms) (hw : Words w.heap.size w (.slice a n c) l) (hfew : Few l) (hnm : nm ≤ 100000) (hmx : Mx w) :
    Calls Tryz.prog 94 #[.slice am nm cm, .slice a n c] w fun e w' => DonePost w (foldG gs l) e w' := by
  have hnl := hw.len
  have hnml : nm = ms.length := by obtain ⟨_, _, e1, _⟩ := hmr; simp only [Value.slice.injEq] at e1; exact e1.2.1
  have HFw : Hid (Calls Tryz.prog 102 #[.slice a n c] w fun e w' => e = .returned (.bool true) ∧ w = w') := by
    have := few_any a n c l w.heap.size w hw (by have := hfew.1; omega) (fun y hy => by have := size_mem hy; have := hfew.2; omega)
    rw [decide_eq_true ⟨by rw [hnl]; exact hfew.1, hfew.2⟩] at this; exact this
  have HCl : Hid (Calls Tryz.prog 103 #[.slice a n c] w fun e w' => ∃ v', e = .returned v' ∧ w'.ownsRow w.heap.size 9 1 v' l.length (l.map Value.string) ∧ Below w.heap.size w w') := by
    cases a with
    | none =>
      refine (Tryz.slices_Clone_string_nil n c w).mono ?_
      rintro e w' ⟨rfl, rfl⟩
      have hl0 : l = [] := by
        by_cases hne : l = []
        · exact hne
        · obtain ⟨b, o, _, e, _⟩ := hw.at hne; cases e
      refine ⟨_, rfl, ?_, Below.refl _ _⟩
      rw [hl0]; exact World.ownsRow_nil _ _ _ _
    | some ad =>
      by_cases hne : l = []
      · subst hne
        obtain rfl : n = 0 := by simpa using hnl
        refine (Tryz.slices_Clone_string_zero ad c w).mono ?_
        rintro e w' ⟨v', rfl, h1, _, h3⟩
        exact ⟨v', rfl, h1, h3⟩
      · obtain ⟨b, o, c', e, hb, hc⟩ := hw.at hne
        simp only [Value.slice.injEq, Option.some.injEq] at e
        obtain ⟨rfl, rfl, rfl⟩ := e
        refine (Tryz.slices_Clone_string b o l.length c l w (Nat.le_refl _) (by have := hfew.1; omega) (fun j hj => ?_)).mono ?_
        · rw [hc j hj, List.getD_eq_getElem?_getD, List.getElem?_eq_getElem hj]; rfl
        · rintro e w' ⟨v', rfl, h1, _, h3⟩
          rw [List.take_length] at h1
          exact ⟨v', rfl, h1, h3⟩
  have HM : Hid (∀ W, Below w.heap.size w W → Mx W) := fun W hB => hmx.below hB hmx.pos
  have HP0 : Hid (0 < w.heap.size) := hmx.pos
  have HMR : Hid (∀ W, Below w.heap.size w W → ModsRow w.heap.size W (.slice am nm cm) ms) := fun W hB => hmr.below hB
  have HG : Hid (AllApply ms gs) := hg
  have HF0 : Hid (Few l) := hfew
  obtain ⟨R, hR⟩ : ∃ R, R = foldG gs l := ⟨_, rfl⟩
  rw [← hR]
  have HR : Hid (R = foldG gs l) := hR
  have HN : Hid (nm = ms.length) := hnml
  clear hnl hnml hw hfew hmx hR hmr hg
  go_enter Tryz.func94, Tryz.ntmps94
  go_wp2_with fail
  refine HFw.out.mono ?_
  rintro e w' ⟨rfl, rfl⟩
  go_wp2_with fail
  refine HCl.out.mono ?_
  rintro e w1 ⟨v1, rfl, ho1, hb1⟩
  have H1 : Hid (w1.ownsRow w.heap.size 9 1 v1 l.length (l.map Value.string) ∧ Below w.heap.size w w1) := ⟨ho1, hb1⟩
  clear ho1 hb1
  go_wp2
  go_loopw [6, 17] (fun v6 vi wr => ∃ (k : Nat) (r : List ByteArray), k ≤ nm ∧ vi = .int .i64 k ∧ Hid (R = foldG (gs.drop k) r ∧ Few r) ∧ wr.ownsRow w.heap.size 9 1 v6 r.length (r.map Value.string) ∧ Hid (Below w.heap.size w wr)) (fun _ vi _ => nm - (intOf vi).toNat)
  case atStart => exact ⟨0, l, Nat.zero_le _, rfl, ⟨HR.out, HF0.out⟩, H1.out.1, H1.out.2⟩
  case round =>
    obtain ⟨k, r, hk, rfl, HRk, hrow, HB⟩ := hrel
    obtain ⟨a6, c6, hv6⟩ := owns_slice hrow
    subst hv6
    by_cases hlt : k < nm
    · have hil : (k : Int) < (nm : Int) := by omega
      have hkl : k < ms.length := by rw [← HN.out]; exact hlt
      have hkg : k < gs.length := by rw [← HG.out.1]; exact hkl
      obtain ⟨am', cm', e0, e1⟩ := HMR.out _ HB.out
      simp only [Value.slice.injEq] at e0
      obtain ⟨g, o, e2, e3, e4⟩ := e1 k hkl
      obtain rfl : am = some ⟨g, o, none⟩ := by rw [e0.1, e2]
      have HAp := HG.out.2 k hkl hkg
      have HRn : Hid (R = (gs[k] r).bind (foldG (gs.drop (k + 1)))) := by
        unfold Hid; rw [HRk.out.1, List.drop_eq_getElem_cons hkg]; rfl
      obtain ⟨m, hm⟩ : ∃ m, m = ms[k] := ⟨_, rfl⟩
      obtain ⟨gk, hgk⟩ : ∃ gk, gk = gs[k] := ⟨_, rfl⟩
      rw [← hm] at e4 HAp
      rw [← hgk] at HAp HRn
      have HA : Hid (Applies m gk) := HAp
      clear e0 e1 e2 HAp hm hgk hkl hkg
      obtain ⟨kind, ma, mb, bg, en, ex, al, on, mks, ots, frm, upto⟩ := m
      dsimp only [Md.cells] at e4
      have q0 := e4 0 _ rfl
      have q1 := e4 1 _ rfl
      have q2 := e4 2 _ rfl
      have q3 := e4 3 _ rfl
      have q4 := e4 4 _ rfl
      have q5 := e4 5 _ rfl
      have q6 := e4 6 _ rfl
      have q7 := e4 7 _ rfl
      have q8 := e4 8 _ rfl
      have q9 := e4 9 _ rfl
      have q10 := e4 10 _ rfl
      have q11 := e4 11 _ rfl
      clear e4
      rw [Nat.add_zero] at q0
      have HC : Hid (∀ W, W.ownsRow w.heap.size 9 1 (.slice a6 r.length c6) r.length (r.map Value.string) → Below w.heap.size w W → _) := fun W h1 h2 => HA.out.2 w.heap.size (.slice a6 r.length c6) r W h1 HRk.out.2 (HM.out _ h2) HP0.out h2.size
      go_wp2_with fail
      refine (HC.out _ (hrow.alloc _) (HB.out.alloc HB.out.size _)).mono ?_
      rintro e w2 ⟨hb2, hm2⟩
      have HB2 : Hid (Below w.heap.size w w2) := (HB.out.alloc HB.out.size _).trans hb2
      clear hb2
      cases hgr : gk r with
      | none =>
        rw [hgr] at hm2
        subst hm2
        have HRN : Hid (R = none) := by unfold Hid; rw [HRn.out, hgr]; rfl
        go_wp2
        go_ret2
        refine ⟨HB2.out, ?_⟩
        rw [HRN.out]; rfl
      | some r2 =>
        rw [hgr] at hm2
        obtain ⟨v2, rfl, ho2⟩ := hm2
        have HR2 : Hid (R = foldG (gs.drop (k + 1)) r2 ∧ Few r2) := ⟨by rw [HRn.out, hgr]; rfl, HA.out.1 r r2 HRk.out.2 hgr⟩
        have HO2 : Hid (w2.ownsRow w.heap.size 9 1 v2 r2.length (r2.map Value.string)) := ho2
        clear ho2
        go_wp2
        go_roundw
        case rel => exact ⟨k + 1, r2, by omega, by go_num, HR2, HO2.out, HB2⟩
        case measure => simp [intOf]; omega
    · obtain rfl : k = nm := by omega
      have hil : ¬ (k : Int) < (k : Int) := by omega
      have HRS : Hid (R = some r) := by unfold Hid; rw [HRk.out.1, List.drop_of_length_le (by rw [← HG.out.1, ← HN.out]; exact Nat.le_refl _)]; rfl
      have HO : Hid (wr.ownsRow w.heap.size 9 1 (.slice a6 r.length c6) r.length (r.map Value.string)) := hrow
      clear hrow
      go_wp2
      go_ret2
      refine ⟨HB.out, ?_⟩
      rw [HRS.out]
      exact ⟨_, rfl, HO.out⟩

theorem modsRow_of {base : Nat} {W : World} {v : Value} {ms : List Md} (h : W.ownsRow base 157 12 v ms.length (modsV ms)) : ModsRow W.heap.size W v ms := by
  obtain ⟨a, c, rfl⟩ := owns_slice h
  refine ⟨a, c, rfl, fun k hk => ?_⟩
  obtain ⟨hxl, ⟨hv, hn⟩ | ⟨g, cap, cur, hv, hg, hcur, hcap, hcm, hcs, hct⟩⟩ := h
  · omega
  · simp only [Value.slice.injEq] at hv
    have hgl : g < W.heap.size := (Array.getElem?_eq_some_iff.1 hcur).1
    refine ⟨g, 0, hv.1, hgl, fun i u hu => ?_⟩
    have hi12 : i < 12 := by
      have := (Array.getElem?_eq_some_iff.1 hu).1
      exact this
    have hmv : (modsV ms)[k * 12 + i]? = some u := modsV_get ms k i hk hi12 u hu
    have hlt : k * 12 + i < ms.length * 12 := by
      have : (k + 1) * 12 ≤ ms.length * 12 := Nat.mul_le_mul_right _ hk
      omega
    rw [← hct, List.getElem?_take_of_lt hlt] at hmv
    simp only [World.cell?, hcur, Nat.zero_add]
    simpa using hmv
end Go.Proofs.YthcbagggalehgaaGreatDoor
