/-
  M19 M20 M21 M22 M23 MP M32
-/
import Derived.Test.YtedepknbaakkhabGreatDoorK10
import Derived.Sort.OwnSorted
import Derived.Test.YtedepknbaakkhabGreatDoorK07
set_option maxRecDepth 20000
namespace Go.Proofs.YtedepknbaakkhabGreatDoor
open Go.RowKit Go.Shelf
theorem modsV_get : ∀ (ms : List Md) (k i : Nat) (hk : k < ms.length), i < 12 → ∀ u, (ms[k].cells)[i]? = some u → (modsV ms)[k * 12 + i]? = some u
  | [], k, i, hk, _, _, _ => by simp at hk
  | m :: t, 0, i, _, hi, u, hu => by
    unfold modsV
    rw [List.flatMap_cons, Nat.zero_mul, Nat.zero_add, List.getElem?_append_left (by exact hi)]
    simpa using hu
  | m :: t, k + 1, i, hk, hi, u, hu => by
    unfold modsV
    rw [List.flatMap_cons, List.getElem?_append_right (by show 12 ≤ _; omega)]
    have := modsV_get t k i (by simpa using hk) hi u (by simpa using hu)
    unfold modsV at this
    rw [show (k + 1) * 12 + i - m.cells.toList.length = k * 12 + i by show (k + 1) * 12 + i - 12 = _; omega]
    exact this
def ModsRow (B : Nat) (W : World) (v : Value) (ms : List Md) : Prop :=
  ∃ a c, v = .slice a ms.length c ∧ ∀ k (h : k < ms.length), ∃ g o, a = some ⟨g, o, none⟩ ∧ g < B ∧ ∀ i u, (ms[k].cells)[i]? = some u → W.cell? ⟨g, o + k * 12 + i, none⟩ = some u
theorem ModsRow.below {B : Nat} {W W1 : World} {v : Value} {ms : List Md} (h : ModsRow B W v ms) (hb : Below B W W1) : ModsRow B W1 v ms := by
  obtain ⟨a, c, h1, h2⟩ := h
  refine ⟨a, c, h1, fun k hk => ?_⟩
  obtain ⟨g, o, e1, e2, e3⟩ := h2 k hk
  exact ⟨g, o, e1, e2, fun i u hu => (hb.cell (p := ⟨g, o + k * 12 + i, none⟩) e2).trans (e3 i u hu)⟩
def foldG : List (List ByteArray → Option (List ByteArray)) → List ByteArray → Option (List ByteArray)
  | [], l => some l
  | g :: t, l => (g l).bind (foldG t)
def DonePost (w : World) (R : Option (List ByteArray)) (e : Ending) (w' : World) : Prop :=
  Below w.heap.size w w' ∧ match R with
      | none => e = .returned (.tuple #[.slice none 0 0, .int .i64 5])
      | some r => ∃ v', e = .returned (.tuple #[v', .int .i64 0]) ∧ w'.ownsRow w.heap.size 9 1 v' r.length (r.map Value.string)
def AllApply (ms : List Md) (gs : List (List ByteArray → Option (List ByteArray))) : Prop := ms.length = gs.length ∧ ∀ k (h : k < ms.length) (h2 : k < gs.length), Applies ms[k] gs[k]
set_option maxHeartbeats 3200000 in
theorem Apply_any (ms : List Md) (gs : List (List ByteArray → Option (List ByteArray))) (hg : AllApply ms gs) (am : Option Addr) (nm cm : Nat) (a : Option Addr) (n c : Nat) (l : List ByteArray) (w : World) (hmr : ModsRow w.heap.size w (.slice am nm cm) ms) (hw : Words w.heap.size w (.slice a n c) l) (hfew : Few l) (hnm : nm ≤ 100000) (hmx : Mx w) :
    Calls Tryz.prog 8 #[.slice am nm cm, .slice a n c] w fun e w' => DonePost w (foldG gs l) e w' := by
  have hnl := hw.len
  have hnml : nm = ms.length := by obtain ⟨_, _, e1, _⟩ := hmr; simp only [Value.slice.injEq] at e1; exact e1.2.1
  have HFw : Hid (Calls Tryz.prog 11 #[.slice a n c] w fun e w' => e = .returned (.bool true) ∧ w = w') := by
    have := few_any a n c l w.heap.size w hw (by have := hfew.1; omega) (fun y hy => by have := size_mem hy; have := hfew.2; omega)
    rw [decide_eq_true ⟨by rw [hnl]; exact hfew.1, hfew.2⟩] at this; exact this
  have HCl : Hid (Calls Tryz.prog 12 #[.slice a n c] w fun e w' => ∃ v', e = .returned v' ∧ w'.ownsRow w.heap.size 9 1 v' l.length (l.map Value.string) ∧ Below w.heap.size w w') := by
    cases a with
    | none =>
      refine (Tryz.slices_Clone_string_nil n c w).mono ?_
      rintro e w' ⟨rfl, rfl⟩
      have hl0 : l = [] := by
        by_cases hne : l = []
        · exact hne
        · obtain ⟨b, o, _, e, _⟩ := hw.at hne; cases e
      refine ⟨_, rfl, ?_, Below.refl _ _⟩
      rw [hl0]; exact World.ownsRow_nil _ _ _ _
    | some ad =>
      by_cases hne : l = []
      · subst hne
        obtain rfl : n = 0 := by simpa using hnl
        refine (Tryz.slices_Clone_string_zero ad c w).mono ?_
        rintro e w' ⟨v', rfl, h1, _, h3⟩
        exact ⟨v', rfl, h1, h3⟩
      · obtain ⟨b, o, c', e, hb, hc⟩ := hw.at hne
        simp only [Value.slice.injEq, Option.some.injEq] at e
        obtain ⟨rfl, rfl, rfl⟩ := e
        refine (Tryz.slices_Clone_string b o l.length c l w (Nat.le_refl _) (by have := hfew.1; omega) (fun j hj => ?_)).mono ?_
        · rw [hc j hj, List.getD_eq_getElem?_getD, List.getElem?_eq_getElem hj]; rfl
        · rintro e w' ⟨v', rfl, h1, _, h3⟩
          rw [List.take_length] at h1
          exact ⟨v', rfl, h1, h3⟩
  have HM : Hid (∀ W, Below w.heap.size w W → Mx W) := fun W hB => hmx.below hB hmx.pos
  have HP0 : Hid (0 < w.heap.size) := hmx.pos
  have HMR : Hid (∀ W, Below w.heap.size w W → ModsRow w.heap.size W (.slice am nm cm) ms) := fun W hB => hmr.below hB
  have HG : Hid (AllApply ms gs) := hg
  have HF0 : Hid (Few l) := hfew
  obtain ⟨R, hR⟩ : ∃ R, R = foldG gs l := ⟨_, rfl⟩
  rw [← hR]
  have HR : Hid (R = foldG gs l) := hR
  have HN : Hid (nm = ms.length) := hnml
  clear hnl hnml hw hfew hmx hR hmr hg
  go_enter Tryz.func8, Tryz.ntmps8
  go_wp2_with fail
  refine HFw.out.mono ?_
  rintro e w' ⟨rfl, rfl⟩
  go_wp2_with fail
  refine HCl.out.mono ?_
  rintro e w1 ⟨v1, rfl, ho1, hb1⟩
  have H1 : Hid (w1.ownsRow w.heap.size 9 1 v1 l.length (l.map Value.string) ∧ Below w.heap.size w w1) := ⟨ho1, hb1⟩
  clear ho1 hb1
  go_wp2
  go_loopw [6, 17] (fun v6 vi wr => ∃ (k : Nat) (r : List ByteArray), k ≤ nm ∧ vi = .int .i64 k ∧ Hid (R = foldG (gs.drop k) r ∧ Few r) ∧ wr.ownsRow w.heap.size 9 1 v6 r.length (r.map Value.string) ∧ Hid (Below w.heap.size w wr)) (fun _ vi _ => nm - (intOf vi).toNat)
  case atStart => exact ⟨0, l, Nat.zero_le _, rfl, ⟨HR.out, HF0.out⟩, H1.out.1, H1.out.2⟩
  case round =>
    obtain ⟨k, r, hk, rfl, HRk, hrow, HB⟩ := hrel
    obtain ⟨a6, c6, hv6⟩ := owns_slice hrow
    subst hv6
    by_cases hlt : k < nm
    · have hil : (k : Int) < (nm : Int) := by omega
      have hkl : k < ms.length := by rw [← HN.out]; exact hlt
      have hkg : k < gs.length := by rw [← HG.out.1]; exact hkl
      obtain ⟨am', cm', e0, e1⟩ := HMR.out _ HB.out
      simp only [Value.slice.injEq] at e0
      obtain ⟨g, o, e2, e3, e4⟩ := e1 k hkl
      obtain rfl : am = some ⟨g, o, none⟩ := by rw [e0.1, e2]
      have HAp := HG.out.2 k hkl hkg
      have HRn : Hid (R = (gs[k] r).bind (foldG (gs.drop (k + 1)))) := by
        unfold Hid; rw [HRk.out.1, List.drop_eq_getElem_cons hkg]; rfl
      obtain ⟨m, hm⟩ : ∃ m, m = ms[k] := ⟨_, rfl⟩
      obtain ⟨gk, hgk⟩ : ∃ gk, gk = gs[k] := ⟨_, rfl⟩
      rw [← hm] at e4 HAp
      rw [← hgk] at HAp HRn
      have HA : Hid (Applies m gk) := HAp
      clear e0 e1 e2 HAp hm hgk hkl hkg
      obtain ⟨kind, ma, mb, bg, en, ex, al, on, mks, ots, frm, upto⟩ := m
      dsimp only [Md.cells] at e4
      have q0 := e4 0 _ rfl
      have q1 := e4 1 _ rfl
      have q2 := e4 2 _ rfl
      have q3 := e4 3 _ rfl
      have q4 := e4 4 _ rfl
      have q5 := e4 5 _ rfl
      have q6 := e4 6 _ rfl
      have q7 := e4 7 _ rfl
      have q8 := e4 8 _ rfl
      have q9 := e4 9 _ rfl
      have q10 := e4 10 _ rfl
      have q11 := e4 11 _ rfl
      clear e4
      rw [Nat.add_zero] at q0
      have HC : Hid (∀ W, W.ownsRow w.heap.size 9 1 (.slice a6 r.length c6) r.length (r.map Value.string) → Below w.heap.size w W → _) := fun W h1 h2 => HA.out.2 w.heap.size (.slice a6 r.length c6) r W h1 HRk.out.2 (HM.out _ h2) HP0.out h2.size
      go_wp2_with fail
      refine (HC.out _ (hrow.alloc _) (HB.out.alloc HB.out.size _)).mono ?_
      rintro e w2 ⟨hb2, hm2⟩
      have HB2 : Hid (Below w.heap.size w w2) := (HB.out.alloc HB.out.size _).trans hb2
      clear hb2
      cases hgr : gk r with
      | none =>
        rw [hgr] at hm2
        subst hm2
        have HRN : Hid (R = none) := by unfold Hid; rw [HRn.out, hgr]; rfl
        go_wp2
        go_ret2
        refine ⟨HB2.out, ?_⟩
        rw [HRN.out]; rfl
      | some r2 =>
        rw [hgr] at hm2
        obtain ⟨v2, rfl, ho2⟩ := hm2
        have HR2 : Hid (R = foldG (gs.drop (k + 1)) r2 ∧ Few r2) := ⟨by rw [HRn.out, hgr]; rfl, HA.out.1 r r2 HRk.out.2 hgr⟩
        have HO2 : Hid (w2.ownsRow w.heap.size 9 1 v2 r2.length (r2.map Value.string)) := ho2
        clear ho2
        go_wp2
        go_roundw
        case rel => exact ⟨k + 1, r2, by omega, by go_num, HR2, HO2.out, HB2⟩
        case measure => simp [intOf]; omega
    · obtain rfl : k = nm := by omega
      have hil : ¬ (k : Int) < (k : Int) := by omega
      have HRS : Hid (R = some r) := by unfold Hid; rw [HRk.out.1, List.drop_of_length_le (by rw [← HG.out.1, ← HN.out]; exact Nat.le_refl _)]; rfl
      have HO : Hid (wr.ownsRow w.heap.size 9 1 (.slice a6 r.length c6) r.length (r.map Value.string)) := hrow
      clear hrow
      go_wp2
      go_ret2
      refine ⟨HB.out, ?_⟩
      rw [HRS.out]
      exact ⟨_, rfl, HO.out⟩
theorem modsRow_of {base : Nat} {W : World} {v : Value} {ms : List Md} (h : W.ownsRow base 37 12 v ms.length (modsV ms)) : ModsRow W.heap.size W v ms := by
  obtain ⟨a, c, rfl⟩ := owns_slice h
  refine ⟨a, c, rfl, fun k hk => ?_⟩
  obtain ⟨hxl, ⟨hv, hn⟩ | ⟨g, cap, cur, hv, hg, hcur, hcap, hcm, hcs, hct⟩⟩ := h
  · omega
  · simp only [Value.slice.injEq] at hv
    have hgl : g < W.heap.size := (Array.getElem?_eq_some_iff.1 hcur).1
    refine ⟨g, 0, hv.1, hgl, fun i u hu => ?_⟩
    have hi12 : i < 12 := by
      have := (Array.getElem?_eq_some_iff.1 hu).1
      exact this
    have hmv : (modsV ms)[k * 12 + i]? = some u := modsV_get ms k i hk hi12 u hu
    have hlt : k * 12 + i < ms.length * 12 := by
      have : (k + 1) * 12 ≤ ms.length * 12 := Nat.mul_le_mul_right _ hk
      omega
    rw [← hct, List.getElem?_take_of_lt hlt] at hmv
    simp only [World.cell?, hcur, Nat.zero_add]
    simpa using hmv
end Go.Proofs.YtedepknbaakkhabGreatDoor
namespace Go.Proofs.YtedepknbaakkhabGreatDoor
open Go.RowKit Go.Shelf
set_option maxHeartbeats 3200000 in
theorem All_ok (s : ByteArray) (ms : List Md) (gs : List (List ByteArray → Option (List ByteArray))) (hg : AllApply ms gs) (hs : s.size ≤ 1000000) (h1 : 1 ≤ s.size) (hc : Chain s 0 ms) (hl : ms.length ≤ 32) (a : Option Addr) (n c : Nat) (l : List ByteArray) (w : World) (hw : Words w.heap.size w (.slice a n c) l) (hfew : Few l) (hmx : Mx w) :
    Calls Tryz.prog 7 #[.string s, .slice a n c] w fun e w' => DonePost w (foldG gs l) e w' := by
  have HP : Hid (Calls Tryz.prog 6 #[.string s] w fun e w' => ∃ v, e = .returned (.tuple #[v, .agg #[.int .i64 0, .int .i64 0]]) ∧ w'.ownsRow w.heap.size 37 12 v ms.length (modsV ms) ∧ Below w.heap.size w w') := parse_ok s ms w hs h1 hc hl hmx
  have HA : Hid (∀ am cm W, ModsRow W.heap.size W (.slice am ms.length cm) ms → Below w.heap.size w W → Calls Tryz.prog 8 #[.slice am ms.length cm, .slice a n c] W fun e w' => DonePost W (foldG gs l) e w') := fun am cm W hm hB =>
    Apply_any ms gs hg am ms.length cm a n c l W hm ((hw.below hB).mono hB.size) hfew (by omega) (hmx.below hB hmx.pos)
  obtain ⟨R, hR⟩ : ∃ R, R = foldG gs l := ⟨_, rfl⟩
  rw [← hR] at HA ⊢
  obtain ⟨nm, hnm⟩ : ∃ nm, nm = ms.length := ⟨_, rfl⟩
  rw [← hnm] at HA HP
  have HN : Hid (nm = ms.length) := hnm
  clear hg hc hw hfew hmx hR hs h1 hl hnm
  go_enter Tryz.func7, Tryz.ntmps7
  go_wp2_with fail
  refine HP.out.mono ?_
  rintro e w1 ⟨v, rfl, ho, hb⟩
  obtain ⟨am, cm, rfl⟩ := owns_slice ho
  have HM : Hid (∀ W, Below w1.heap.size w1 W → ModsRow W.heap.size W (.slice am nm cm) ms) := fun W hB => by
    have h2 := modsRow_of (ms := ms) (by rw [← HN.out]; exact ho)
    obtain ⟨a', c', e1, e2⟩ := h2.below hB
    refine ⟨a', c', e1, fun k hk => ?_⟩
    obtain ⟨g, o, f1, f2, f3⟩ := e2 k hk
    exact ⟨g, o, f1, Nat.lt_of_lt_of_le f2 hB.size, f3⟩
  have HB : Hid (Below w.heap.size w w1) := hb
  clear ho hb
  go_wp2_with fail
  refine (HA.out am cm _ (HM.out _ ((Below.refl _ _).alloc (Nat.le_refl _) _)) (HB.out.alloc HB.out.size _)).mono ?_
  rintro e w2 ⟨hb2, hm2⟩
  have HB2 : Hid (Below w.heap.size w w2 ∧ w.heap.size ≤ (w1.alloc (.cells #[.int .i64 0, .int .i64 0] 28)).heap.size) := ⟨(HB.out.alloc HB.out.size _).trans (hb2.mono ((HB.out.alloc HB.out.size _).size)), (HB.out.alloc HB.out.size _).size⟩
  clear hb2
  cases R with
  | none =>
    dsimp only at hm2
    subst hm2
    go_wp2
    go_ret2
    exact ⟨HB2.out.1, rfl⟩
  | some r =>
    obtain ⟨v2, rfl, ho2⟩ := hm2
    have HO : Hid (w2.ownsRow w.heap.size 9 1 v2 r.length (r.map Value.string)) := owns_base ho2 HB2.out.2
    clear ho2
    go_wp2
    go_ret2
    exact ⟨HB2.out.1, v2, rfl, HO.out⟩
end Go.Proofs.YtedepknbaakkhabGreatDoor
namespace Go.Proofs.YtedepknbaakkhabGreatDoor
open Go.RowKit Go.Shelf
def aliveS : ByteArray := ⟨#[77, 42, 46, 99, 58, 83, 47, 120, 47, 121, 47, 58, 46, 99, 61, 46, 111]⟩
def aM : Md := { kind := ⟨#[77]⟩, a := ⟨#[42, 46, 99]⟩ }
def aS : Md := { kind := ⟨#[83]⟩, a := ⟨#[120]⟩, b := ⟨#[121]⟩, ots := 1 }
def aE : Md := { kind := ⟨#[61]⟩, a := ⟨#[46, 99]⟩, b := ⟨#[46, 111]⟩ }
theorem reads_m {s : ByteArray} (hs : s.size ≤ 1000000) (h1 : 1 ≤ s.size) (hk : headIs s 77 = true) {m : Md} {n : Nat} (hm : m = { kind := ⟨#[77]⟩, a := ba (untilL 58 ((bl s).drop 1)).1 }) (hn : n = (untilL 58 ((bl s).drop 1)).2.1 + 1) : Reads s (.ok m n) := fun w _ => by
  refine (read_m s w hs h1 hk).mono ?_
  rintro e w' ⟨rfl, hb⟩
  refine ⟨?_, hb⟩
  rw [ext_head hk, bl_rest, hm, hn]
  rfl
theorem alive_chain : Chain aliveS 0 [aM, aS, aE] := by
  have e0 : aliveS.extract 0 aliveS.size = aliveS := by kernel_rfl
  have e5 : aliveS.extract 5 aliveS.size = ⟨#[83, 47, 120, 47, 121, 47, 58, 46, 99, 61, 46, 111]⟩ := by kernel_rfl
  have e12 : aliveS.extract 12 aliveS.size = ⟨#[46, 99, 61, 46, 111]⟩ := by kernel_rfl
  refine .step (n := 4) (by decide) (by decide) ?_ (.step (n := 6) (by decide) (by decide) ?_ (.step (n := 5) (by decide) (by decide) ?_ (.done (by decide))))
  · rw [e0]
    exact reads_m (by decide) (by decide) (by kernel_rfl) (by kernel_rfl) (by kernel_rfl)
  · rw [e5]
    intro w hw
    refine (read_s _ w (by decide) (by decide) (by kernel_rfl) (by kernel_rfl) hw).mono ?_
    rintro e w' ⟨rfl, hb⟩
    exact ⟨congrArg Ending.returned (by kernel_rfl), hb⟩
  · rw [e12]
    intro w hw
    refine (read_eq ⟨#[46, 99, 61, 46, 111]⟩ ⟨#[46, 99, 61, 46, 111]⟩ 5 false w (by decide) ⟨by kernel_rfl, by kernel_rfl, by kernel_rfl, by kernel_rfl, by kernel_rfl⟩ (by kernel_rfl) (by simp [wordsL]) hw).mono ?_
    rintro e w' ⟨rfl, hb⟩
    exact ⟨congrArg Ending.returned (by kernel_rfl), hb⟩
noncomputable def aliveG : List (List ByteArray → Option (List ByteArray)) := [foldA (actM aM) [] false, foldA (actS aS 0 1) [] false, foldA (actE aE) [] false]
theorem alive_all : AllApply [aM, aS, aE] aliveG := by
  refine ⟨rfl, fun k h h2 => ?_⟩
  match k, h with
  | 0, _ => exact applies_m aM rfl (by decide)
  | 1, _ => exact applies_s aS 0 1 rfl (by decide) (by decide) (by decide) rfl rfl (by decide) (by decide)
  | 2, _ => exact applies_e aE rfl (by decide) (by decide)
theorem alive_fold : foldG aliveG [⟨#[97, 120, 46, 99]⟩, ⟨#[98, 46, 104]⟩, ⟨#[120, 120, 46, 99]⟩] = some [⟨#[97, 121, 46, 111]⟩, ⟨#[121, 120, 46, 111]⟩] := by kernel_rfl
theorem words_new {W : World} {T : TypeId} {arr : Array Value} {l : List ByteArray} {g : Nat} (hg : g = W.heap.size) (h : arr.toList = l.map Value.string) (c : Nat) : Words (W.alloc (.cells arr T)).heap.size (W.alloc (.cells arr T)) (.slice (some ⟨g, 0, none⟩) l.length c) l := by
  subst hg
  refine ⟨_, _, _, rfl, rfl, fun i hi => ⟨W.heap.size, 0, rfl, by simp, ?_⟩⟩
  simp only [World.cell?, heap_alloc_new, Nat.zero_add]
  have : arr.toList[i]? = some (.string l[i]) := by rw [h, List.getElem?_map, List.getElem?_eq_getElem hi]; rfl
  simpa using this
set_option maxHeartbeats 1600000 in
theorem alive_any (w : World) (hmx : Mx w) : Calls Tryz.prog 5 #[] w fun e w' => e = .returned (.bool true) ∧ Below w.heap.size w w' := by
  have HA : Hid (∀ W, W = w.alloc (.cells #[.string ⟨#[97, 120, 46, 99]⟩, .string ⟨#[98, 46, 104]⟩, .string ⟨#[120, 120, 46, 99]⟩] 9) → Calls Tryz.prog 7 #[.string ⟨#[77, 42, 46, 99, 58, 83, 47, 120, 47, 121, 47, 58, 46, 99, 61, 46, 111]⟩, .slice (some ⟨w.heap.size, 0, none⟩) 3 3] W fun e w' => ∃ a c, e = .returned (.tuple #[.slice a 2 c, .int .i64 0]) ∧ Words w'.heap.size w' (.slice a 2 c) [⟨#[97, 121, 46, 111]⟩, ⟨#[121, 120, 46, 111]⟩] ∧ Below w.heap.size w w') := by
    rintro W rfl
    have hB := (Below.refl w.heap.size w).alloc (Nat.le_refl _) (.cells #[.string ⟨#[97, 120, 46, 99]⟩, .string ⟨#[98, 46, 104]⟩, .string ⟨#[120, 120, 46, 99]⟩] 9)
    refine (All_ok aliveS _ _ alive_all (by decide) (by decide) alive_chain (by decide) _ 3 3 [⟨#[97, 120, 46, 99]⟩, ⟨#[98, 46, 104]⟩, ⟨#[120, 120, 46, 99]⟩] _ (words_new (W := w) (T := 9) (arr := #[.string ⟨#[97, 120, 46, 99]⟩, .string ⟨#[98, 46, 104]⟩, .string ⟨#[120, 120, 46, 99]⟩]) (l := [⟨#[97, 120, 46, 99]⟩, ⟨#[98, 46, 104]⟩, ⟨#[120, 120, 46, 99]⟩]) rfl rfl 3) ⟨by decide, by decide⟩ (hmx.below hB hmx.pos)).mono ?_
    rintro e w' ⟨h1, h2⟩
    rw [alive_fold] at h2
    obtain ⟨v', rfl, ho⟩ := h2
    obtain ⟨a, c, rfl⟩ := owns_slice ho
    exact ⟨a, c, rfl, words_of_owns ho (Nat.le_refl _), hB.trans (h1.mono (by simp))⟩
  clear hmx
  go_enter Tryz.func5, Tryz.ntmps5
  go_wp2_with fail
  refine (HA.out _ rfl).mono ?_
  rintro e w1 ⟨a, c, rfl, hw1, hb1⟩
  have HW : Hid (Words w1.heap.size w1 (.slice a 2 c) [⟨#[97, 121, 46, 111]⟩, ⟨#[121, 120, 46, 111]⟩] ∧ Below w.heap.size w w1) := ⟨hw1, hb1⟩
  clear hw1 hb1
  have HS : Hid (∀ W, W = w1.alloc (.cells #[.string ⟨#[97, 121, 46, 111]⟩, .string ⟨#[121, 120, 46, 111]⟩] 9) → Calls Tryz.prog 9 #[.slice a 2 c, .slice (some ⟨w1.heap.size, 0, none⟩) 2 2] W fun e w' => e = .returned (.bool true) ∧ ∃ n, w' = W.drewN n) := by
    rintro W rfl
    exact same_any _ _ _ _ _ _ (by decide) ((HW.out.1).below ((Below.refl _ _).alloc (Nat.le_refl _) _)) (words_new (W := w1) (T := 9) (arr := #[.string ⟨#[97, 121, 46, 111]⟩, .string ⟨#[121, 120, 46, 111]⟩]) (l := [⟨#[97, 121, 46, 111]⟩, ⟨#[121, 120, 46, 111]⟩]) rfl rfl 2)
  go_wp2_with fail
  refine (HS.out _ rfl).mono ?_
  rintro e w2 ⟨rfl, k2, rfl⟩
  go_wp2
  go_ret
  exact ⟨rfl, below_drewN (HW.out.2.alloc HW.out.2.size _) k2⟩
end Go.Proofs.YtedepknbaakkhabGreatDoor
namespace Go.Proofs.YtedepknbaakkhabGreatDoor
open Go.RowKit Go.Shelf Go.Sort
def sortedL (l : List ByteArray) : List ByteArray := ((l.map bl).mergeSort fun x y => decide (x ≤ y)).map ba
def compactL (l : List ByteArray) : List ByteArray := (Lib.compact (l.map bl)).map ba
theorem sorted_length (xs : List ByteArray) : (sortedL xs).length = xs.length := by simp [sortedL, List.length_mergeSort]
theorem compact_len (zs : List (List UInt8)) : (Lib.compact zs).length ≤ zs.length := by
  unfold Lib.compact Lib.compactUpTo
  rw [List.length_map]
  refine Nat.le_trans (List.length_filter_le _ _) ?_
  simp
end Go.Proofs.YtedepknbaakkhabGreatDoor
namespace Go.Proofs.YtedepknbaakkhabGreatDoor
open Go.RowKit Go.Shelf Go.Sort
end Go.Proofs.YtedepknbaakkhabGreatDoor
namespace Go.Proofs.YtedepknbaakkhabGreatDoor
open Go.RowKit Go.Shelf
def lastI (s : ByteArray) (c : Int) : Int := Lib.lastIndexByte s c
theorem lastI_cases (s : ByteArray) (c : Int) : lastI s c = -1 ∨ ∃ i : Nat, i < s.size ∧ lastI s c = i := by
  rcases Lib.lastIndexByte_spec s c with ⟨h, _⟩ | ⟨i, h1, h2, _⟩
  · exact .inl h
  · exact .inr ⟨i, h1, h2⟩
def dirB (p : ByteArray) : ByteArray := if lastI p 47 < 0 then ⟨#[46]⟩ else if lastI p 47 = 0 then ⟨#[47]⟩ else p.extract 0 (lastI p 47).toNat
def nameB (p : ByteArray) : ByteArray := p.extract (lastI p 47 + 1).toNat p.size
def sufB (p : ByteArray) : ByteArray := if 0 < lastI (nameB p) 46 then (nameB p).extract (lastI (nameB p) 46).toNat (nameB p).size else E
def rootB (p : ByteArray) : ByteArray := p.extract 0 (p.size - (sufB p).size)
theorem nameB_size (p : ByteArray) : (nameB p).size ≤ p.size := by unfold nameB; simp
theorem sufB_size (p : ByteArray) : (sufB p).size ≤ p.size := by
  have := nameB_size p
  unfold sufB
  split
  · simp; omega
  · exact Nat.zero_le _
set_option maxHeartbeats 400000 in
theorem dir_any (p : ByteArray) (w : World) (hs : p.size ≤ 140737488355328) :
    Calls Tryz.prog 64 #[.string p] w fun e w' => e = .returned (.string (dirB p)) ∧ w' = w := by
  have HO : Hid (∀ W, Calls Tryz.prog 98 #[.string p, .int .u8 47] W fun e w' => e = .returned (.int .i64 (lastI p 47)) ∧ w' = W) := fun W => Tryz.strings_LastIndexByte p 47 (by omega) W
  unfold dirB
  rcases lastI_cases p 47 with h | ⟨i, hi, h⟩
  · rw [h] at HO ⊢
    clear h
    go_enter Tryz.func64, Tryz.ntmps64
    go_wp2_with fail
    refine (HO.out _).mono ?_
    rintro e w' ⟨rfl, rfl⟩
    go_wp2
    go_ret
    exact ⟨rfl, rfl⟩
  · rw [h] at HO ⊢
    clear h
    by_cases h0 : i = 0
    · subst h0
      go_enter Tryz.func64, Tryz.ntmps64
      go_wp2_with fail
      refine (HO.out _).mono ?_
      rintro e w' ⟨rfl, rfl⟩
      go_wp2
      go_ret
      exact ⟨rfl, rfl⟩
    · have c1 : (0 : Int) < (i : Int) := by omega
      have c2 : ¬ (i : Int) = 0 := by omega
      have c3 : (i : Int) ≤ (p.size : Int) := by omega
      rw [if_neg (by omega), if_neg c2]
      go_enter Tryz.func64, Tryz.ntmps64
      go_wp2_with fail
      refine (HO.out _).mono ?_
      rintro e w' ⟨rfl, rfl⟩
      go_wp2
      go_ret
      exact ⟨rfl, rfl⟩
set_option maxHeartbeats 400000 in
theorem name_any (p : ByteArray) (w : World) (hs : p.size ≤ 140737488355328) :
    Calls Tryz.prog 63 #[.string p] w fun e w' => e = .returned (.string (nameB p)) ∧ w' = w := by
  have HO : Hid (∀ W, Calls Tryz.prog 98 #[.string p, .int .u8 47] W fun e w' => e = .returned (.int .i64 (lastI p 47)) ∧ w' = W) := fun W => Tryz.strings_LastIndexByte p 47 (by omega) W
  unfold nameB
  rcases lastI_cases p 47 with h | ⟨i, hi, h⟩
  · rw [h] at HO ⊢
    clear h
    go_enter Tryz.func63, Tryz.ntmps63
    go_wp2_with fail
    refine (HO.out _).mono ?_
    rintro e w' ⟨rfl, rfl⟩
    go_wp2
    go_ret
    exact ⟨ret_str (by simp), rfl⟩
  · rw [h] at HO ⊢
    clear h
    have c1 : (0 : Int) ≤ (i : Int) + 1 := by omega
    have c3 : (i : Int) + 1 ≤ (p.size : Int) := by omega
    go_enter Tryz.func63, Tryz.ntmps63
    go_wp2_with fail
    refine (HO.out _).mono ?_
    rintro e w' ⟨rfl, rfl⟩
    go_wp2
    go_ret
    exact ⟨rfl, rfl⟩
set_option maxHeartbeats 400000 in
theorem suffix_any (p : ByteArray) (w : World) (hs : p.size ≤ 140737488355328) :
    Calls Tryz.prog 65 #[.string p] w fun e w' => e = .returned (.string (sufB p)) ∧ w' = w := by
  have HN : Hid (∀ W, Calls Tryz.prog 63 #[.string p] W fun e w' => e = .returned (.string (nameB p)) ∧ w' = W) := fun W => name_any p W hs
  have hns := nameB_size p
  unfold sufB
  obtain ⟨n, hn⟩ : ∃ n, n = nameB p := ⟨_, rfl⟩
  rw [← hn] at HN hns ⊢
  clear hn
  have HO : Hid (∀ W, Calls Tryz.prog 98 #[.string n, .int .u8 46] W fun e w' => e = .returned (.int .i64 (lastI n 46)) ∧ w' = W) := fun W => Tryz.strings_LastIndexByte n 46 (by omega) W
  rcases lastI_cases n 46 with h | ⟨i, hi, h⟩
  · rw [h] at HO ⊢
    clear h
    go_enter Tryz.func65, Tryz.ntmps65
    go_wp2_with fail
    refine (HN.out _).mono ?_
    rintro e w' ⟨rfl, rfl⟩
    go_wp2_with fail
    refine (HO.out _).mono ?_
    rintro e w' ⟨rfl, rfl⟩
    go_wp2
    go_ret
    exact ⟨rfl, rfl⟩
  · rw [h] at HO ⊢
    clear h
    by_cases h0 : i = 0
    · subst h0
      go_enter Tryz.func65, Tryz.ntmps65
      go_wp2_with fail
      refine (HN.out _).mono ?_
      rintro e w' ⟨rfl, rfl⟩
      go_wp2_with fail
      refine (HO.out _).mono ?_
      rintro e w' ⟨rfl, rfl⟩
      go_wp2
      go_ret
      exact ⟨rfl, rfl⟩
    · have c1 : (0 : Int) < (i : Int) := by omega
      have c3 : (i : Int) ≤ (n.size : Int) := by omega
      rw [if_pos c1]
      go_enter Tryz.func65, Tryz.ntmps65
      go_wp2_with fail
      refine (HN.out _).mono ?_
      rintro e w' ⟨rfl, rfl⟩
      go_wp2_with fail
      refine (HO.out _).mono ?_
      rintro e w' ⟨rfl, rfl⟩
      go_wp2
      go_ret
      exact ⟨rfl, rfl⟩
set_option maxHeartbeats 400000 in
theorem root_any (p : ByteArray) (w : World) (hs : p.size ≤ 140737488355328) :
    Calls Tryz.prog 66 #[.string p] w fun e w' => e = .returned (.string (rootB p)) ∧ w' = w := by
  have HN : Hid (∀ W, Calls Tryz.prog 65 #[.string p] W fun e w' => e = .returned (.string (sufB p)) ∧ w' = W) := fun W => suffix_any p W hs
  have hns := sufB_size p
  unfold rootB
  obtain ⟨n, hn⟩ : ∃ n, n = sufB p := ⟨_, rfl⟩
  rw [← hn] at HN hns ⊢
  clear hn
  have c1 : (0 : Int) ≤ (p.size : Int) - (n.size : Int) := by omega
  have c2 : (p.size : Int) - (n.size : Int) ≤ (p.size : Int) := by omega
  have c3 : ((p.size : Int) - (n.size : Int)).toNat = p.size - n.size := by omega
  have HC : Hid (((p.size : Int) - (n.size : Int)).toNat = p.size - n.size) := c3
  clear c3
  go_enter Tryz.func66, Tryz.ntmps66
  go_wp2_with fail
  refine (HN.out _).mono ?_
  rintro e w' ⟨rfl, rfl⟩
  go_wp2
  go_ret
  exact ⟨by first | rfl | rw [HC.out], rfl⟩
end Go.Proofs.YtedepknbaakkhabGreatDoor
namespace Go.Proofs.YtedepknbaakkhabGreatDoor
open Go.RowKit Go.Shelf
set_option maxHeartbeats 1600000 in
theorem w_name_any (base b : Nat) (m : Md) (v : Value) (made : List ByteArray) (done : Bool) (x : ByteArray) (w : World) (h : Wk base b m v made false done w) (hx : x.size ≤ 1000000) (hs : sizeL made ≤ 65536) (hl : made.length ≤ 100000) :
    Calls Tryz.prog 34 #[.pointer (some ⟨b, 0, none⟩), .string x] w fun e w' => e = .returned (.tuple #[]) ∧ Step base b m v made done (some (nameB x)) w w' := by
  have HN : Hid (∀ W, Calls Tryz.prog 63 #[.string x] W fun e w' => e = .returned (.string (nameB x)) ∧ w' = W) := fun W => name_any x W (by omega)
  obtain ⟨y, hy⟩ : ∃ y, y = nameB x := ⟨_, rfl⟩
  rw [← hy] at HN ⊢
  have HK : Hid (Calls Tryz.prog 55 #[.pointer (some ⟨b, 0, none⟩), .string y] w fun e w' => e = .returned (.tuple #[]) ∧ Step base b m v made done (some y) w w') := keep_any base b m v made false done y w h hs hl
  clear h hy
  go_enter Tryz.func34, Tryz.ntmps34
  go_wp2_with fail
  refine (HN.out _).mono ?_
  rintro e w' ⟨rfl, rfl⟩
  go_wp2_with fail
  refine HK.out.mono ?_
  rintro e w2 ⟨rfl, hst⟩
  have HS : Hid (Step base b m v made done (some y) w' w2) := hst
  clear hst
  go_wp2
  refine bodyPost_end (v := .tuple #[]) (by simp [results, Tryz.results34, go_sem]) rfl ⟨rfl, HS.out⟩
set_option maxHeartbeats 1600000 in
theorem w_dir_any (base b : Nat) (m : Md) (v : Value) (made : List ByteArray) (done : Bool) (x : ByteArray) (w : World) (h : Wk base b m v made false done w) (hx : x.size ≤ 1000000) (hs : sizeL made ≤ 65536) (hl : made.length ≤ 100000) :
    Calls Tryz.prog 35 #[.pointer (some ⟨b, 0, none⟩), .string x] w fun e w' => e = .returned (.tuple #[]) ∧ Step base b m v made done (some (dirB x)) w w' := by
  have HN : Hid (∀ W, Calls Tryz.prog 64 #[.string x] W fun e w' => e = .returned (.string (dirB x)) ∧ w' = W) := fun W => dir_any x W (by omega)
  obtain ⟨y, hy⟩ : ∃ y, y = dirB x := ⟨_, rfl⟩
  rw [← hy] at HN ⊢
  have HK : Hid (Calls Tryz.prog 55 #[.pointer (some ⟨b, 0, none⟩), .string y] w fun e w' => e = .returned (.tuple #[]) ∧ Step base b m v made done (some y) w w') := keep_any base b m v made false done y w h hs hl
  clear h hy
  go_enter Tryz.func35, Tryz.ntmps35
  go_wp2_with fail
  refine (HN.out _).mono ?_
  rintro e w' ⟨rfl, rfl⟩
  go_wp2_with fail
  refine HK.out.mono ?_
  rintro e w2 ⟨rfl, hst⟩
  have HS : Hid (Step base b m v made done (some y) w' w2) := hst
  clear hst
  go_wp2
  refine bodyPost_end (v := .tuple #[]) (by simp [results, Tryz.results35, go_sem]) rfl ⟨rfl, HS.out⟩
set_option maxHeartbeats 1600000 in
theorem w_root_any (base b : Nat) (m : Md) (v : Value) (made : List ByteArray) (done : Bool) (x : ByteArray) (w : World) (h : Wk base b m v made false done w) (hx : x.size ≤ 1000000) (hs : sizeL made ≤ 65536) (hl : made.length ≤ 100000) :
    Calls Tryz.prog 37 #[.pointer (some ⟨b, 0, none⟩), .string x] w fun e w' => e = .returned (.tuple #[]) ∧ Step base b m v made done (some (rootB x)) w w' := by
  have HN : Hid (∀ W, Calls Tryz.prog 66 #[.string x] W fun e w' => e = .returned (.string (rootB x)) ∧ w' = W) := fun W => root_any x W (by omega)
  obtain ⟨y, hy⟩ : ∃ y, y = rootB x := ⟨_, rfl⟩
  rw [← hy] at HN ⊢
  have HK : Hid (Calls Tryz.prog 55 #[.pointer (some ⟨b, 0, none⟩), .string y] w fun e w' => e = .returned (.tuple #[]) ∧ Step base b m v made done (some y) w w') := keep_any base b m v made false done y w h hs hl
  clear h hy
  go_enter Tryz.func37, Tryz.ntmps37
  go_wp2_with fail
  refine (HN.out _).mono ?_
  rintro e w' ⟨rfl, rfl⟩
  go_wp2_with fail
  refine HK.out.mono ?_
  rintro e w2 ⟨rfl, hst⟩
  have HS : Hid (Step base b m v made done (some y) w' w2) := hst
  clear hst
  go_wp2
  refine bodyPost_end (v := .tuple #[]) (by simp [results, Tryz.results37, go_sem]) rfl ⟨rfl, HS.out⟩
theorem suf_two (x : ByteArray) : sufB x = E ∨ 1 ≤ (sufB x).size := by
  by_cases h : (sufB x).size = 0
  · exact .inl (by apply bl_inj; have := bl_length (sufB x); rw [h] at this; exact List.length_eq_zero_iff.1 this)
  · exact .inr (by omega)
def sufO (x : ByteArray) : Option ByteArray := if (sufB x).size = 0 then none else some ((sufB x).extract 1 (sufB x).size)
set_option maxHeartbeats 1600000 in
theorem w_suffix_any (base b : Nat) (m : Md) (v : Value) (made : List ByteArray) (done : Bool) (x : ByteArray) (w : World) (h : Wk base b m v made false done w) (hx : x.size ≤ 1000000) (hs : sizeL made ≤ 65536) (hl : made.length ≤ 100000) :
    Calls Tryz.prog 36 #[.pointer (some ⟨b, 0, none⟩), .string x] w fun e w' => e = .returned (.tuple #[]) ∧ Step base b m v made done (sufO x) w w' := by
  have HN : Hid (∀ W, Calls Tryz.prog 65 #[.string x] W fun e w' => e = .returned (.string (sufB x)) ∧ w' = W) := fun W => suffix_any x W (by omega)
  have hsz := sufB_size x
  unfold sufO
  obtain ⟨y, hy⟩ : ∃ y, y = sufB x := ⟨_, rfl⟩
  have ht := suf_two x
  rw [← hy] at HN hsz ht ⊢
  rcases ht with rfl | h1
  · have HZ : Hid (Step base b m v made done none w w) := h.step (Below.refl _ _)
    clear h hy
    rw [if_pos (show E.size = 0 from rfl)]
    go_enter Tryz.func36, Tryz.ntmps36
    go_wp2_with fail
    refine (HN.out _).mono ?_
    rintro e w' ⟨rfl, rfl⟩
    go_wp2
    refine bodyPost_end (v := .tuple #[]) (by simp [results, Tryz.results36, go_sem]) rfl ⟨rfl, HZ.out⟩
  · have t1 : ¬ y.toList = [] := by rw [Lib.toList_data]; intro e; have := bl_length y; unfold bl at this; rw [e] at this; simp at this; omega
    have t2 : y.toList.isEmpty = false := by cases hh : y.toList with | nil => exact absurd hh t1 | cons => rfl
    have h1i : (1 : Int) ≤ (y.size : Int) := by omega
    have HK : Hid (Calls Tryz.prog 55 #[.pointer (some ⟨b, 0, none⟩), .string (y.extract 1 y.size)] w fun e w' => e = .returned (.tuple #[]) ∧ Step base b m v made done (some (y.extract 1 y.size)) w w') := keep_any base b m v made false done _ w h hs hl
    clear h hy
    rw [if_neg (by omega)]
    go_enter Tryz.func36, Tryz.ntmps36
    go_wp2_with fail
    refine (HN.out _).mono ?_
    rintro e w' ⟨rfl, rfl⟩
    go_wp2_with fail
    refine HK.out.mono ?_
    rintro e w2 ⟨rfl, hst⟩
    have HS : Hid (Step base b m v made done (some (y.extract 1 y.size)) w' w2) := hst
    clear hst
    go_wp2
    refine bodyPost_end (v := .tuple #[]) (by simp [results, Tryz.results36, go_sem]) rfl ⟨rfl, HS.out⟩
end Go.Proofs.YtedepknbaakkhabGreatDoor
