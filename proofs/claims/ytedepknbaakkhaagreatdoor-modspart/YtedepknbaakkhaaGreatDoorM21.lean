/-
  alive.
-/
import Derived.Test.YtedepknbaakkhaaGreatDoorM20
namespace Go.Proofs.YtedepknbaakkhaaGreatDoor
open Go.RowKit Go.Shelf

def aliveS : ByteArray := ⟨#[77, 42, 46, 99, 58, 83, 47, 120, 47, 121, 47, 58, 46, 99, 61, 46, 111]⟩
def aM : Md := { kind := ⟨#[77]⟩, a := ⟨#[42, 46, 99]⟩ }
def aS : Md := { kind := ⟨#[83]⟩, a := ⟨#[120]⟩, b := ⟨#[121]⟩, ots := 1 }
def aE : Md := { kind := ⟨#[61]⟩, a := ⟨#[46, 99]⟩, b := ⟨#[46, 111]⟩ }
theorem reads_m {s : ByteArray} (hs : s.size ≤ 1000000) (h1 : 1 ≤ s.size) (hk : headIs s 77 = true) {m : Md} {n : Nat} (hm : m = { kind := ⟨#[77]⟩, a := ba (untilL 58 ((bl s).drop 1)).1 }) (hn : n = (untilL 58 ((bl s).drop 1)).2.1 + 1) : Reads s (.ok m n) := fun w _ => by
  refine (read_m s w hs h1 hk).mono ?_
  rintro e w' ⟨rfl, hb⟩
  refine ⟨?_, hb⟩
  rw [ext_head hk, bl_rest, hm, hn]
  rfl
theorem reads_n {s : ByteArray} (hs : s.size ≤ 1000000) (h1 : 1 ≤ s.size) (hk : headIs s 78 = true) {m : Md} {n : Nat} (hm : m = { kind := ⟨#[78]⟩, a := ba (untilL 58 ((bl s).drop 1)).1 }) (hn : n = (untilL 58 ((bl s).drop 1)).2.1 + 1) : Reads s (.ok m n) := fun w _ => by
  refine (read_n s w hs h1 hk).mono ?_
  rintro e w' ⟨rfl, hb⟩
  refine ⟨?_, hb⟩
  rw [ext_head hk, bl_rest, hm, hn]
  rfl
theorem alive_chain : Chain aliveS 0 [aM, aS, aE] := by
  have e0 : aliveS.extract 0 aliveS.size = aliveS := by kernel_rfl
  have e5 : aliveS.extract 5 aliveS.size = ⟨#[83, 47, 120, 47, 121, 47, 58, 46, 99, 61, 46, 111]⟩ := by kernel_rfl
  have e12 : aliveS.extract 12 aliveS.size = ⟨#[46, 99, 61, 46, 111]⟩ := by kernel_rfl
  refine .step (n := 4) (by decide) (by decide) ?_ (.step (n := 6) (by decide) (by decide) ?_ (.step (n := 5) (by decide) (by decide) ?_ (.done (by decide))))
  · rw [e0]
    exact reads_m (by decide) (by decide) (by kernel_rfl) (by kernel_rfl) (by kernel_rfl)
  · rw [e5]
    intro w hw
    refine (read_s _ w (by decide) (by decide) (by kernel_rfl) (by kernel_rfl) hw).mono ?_
    rintro e w' ⟨rfl, hb⟩
    exact ⟨congrArg Ending.returned (by kernel_rfl), hb⟩
  · rw [e12]
    intro w hw
    refine (read_eq ⟨#[46, 99, 61, 46, 111]⟩ ⟨#[46, 99, 61, 46, 111]⟩ 5 false w (by decide) ⟨by kernel_rfl, by kernel_rfl, by kernel_rfl, by kernel_rfl, by kernel_rfl⟩ (by kernel_rfl) (by simp [wordsL]) hw).mono ?_
    rintro e w' ⟨rfl, hb⟩
    exact ⟨congrArg Ending.returned (by kernel_rfl), hb⟩
noncomputable def aliveG : List (List ByteArray → Option (List ByteArray)) := [foldA (actM aM) [] false, foldA (actS aS 0 1) [] false, foldA (actE aE) [] false]
theorem alive_all : AllApply [aM, aS, aE] aliveG := by
  refine ⟨rfl, fun k h h2 => ?_⟩
  match k, h with
  | 0, _ => exact applies_m aM rfl (by decide)
  | 1, _ => exact applies_s aS 0 1 rfl (by decide) (by decide) (by decide) rfl rfl (by decide) (by decide)
  | 2, _ => exact applies_e aE rfl (by decide) (by decide)
theorem alive_fold : foldG aliveG [⟨#[97, 120, 46, 99]⟩, ⟨#[98, 46, 104]⟩, ⟨#[120, 120, 46, 99]⟩] = some [⟨#[97, 121, 46, 111]⟩, ⟨#[121, 120, 46, 111]⟩] := by kernel_rfl

theorem words_new {W : World} {T : TypeId} {arr : Array Value} {l : List ByteArray} {g : Nat} (hg : g = W.heap.size) (h : arr.toList = l.map Value.string) (c : Nat) : Words (W.alloc (.cells arr T)).heap.size (W.alloc (.cells arr T)) (.slice (some ⟨g, 0, none⟩) l.length c) l := by
  subst hg
  refine ⟨_, _, _, rfl, rfl, fun i hi => ⟨W.heap.size, 0, rfl, by simp, ?_⟩⟩
  simp only [World.cell?, heap_alloc_new, Nat.zero_add]
  have : arr.toList[i]? = some (.string l[i]) := by rw [h, List.getElem?_map, List.getElem?_eq_getElem hi]; rfl
  simpa using this
set_option maxRecDepth 20000 in
set_option maxHeartbeats 1600000 in
theorem alive_any (w : World) (hmx : Mx w) : Calls Tryz.prog 10 #[] w fun e w' => e = .returned (.bool true) ∧ Below w.heap.size w w' := by
  have HA : Hid (∀ W, W = w.alloc (.cells #[.string ⟨#[97, 120, 46, 99]⟩, .string ⟨#[98, 46, 104]⟩, .string ⟨#[120, 120, 46, 99]⟩] 9) → Calls Tryz.prog 11 #[.string ⟨#[77, 42, 46, 99, 58, 83, 47, 120, 47, 121, 47, 58, 46, 99, 61, 46, 111]⟩, .slice (some ⟨w.heap.size, 0, none⟩) 3 3] W fun e w' => ∃ a c, e = .returned (.tuple #[.slice a 2 c, .int .i64 0]) ∧ Words w'.heap.size w' (.slice a 2 c) [⟨#[97, 121, 46, 111]⟩, ⟨#[121, 120, 46, 111]⟩] ∧ Below w.heap.size w w') := by
    rintro W rfl
    have hB := (Below.refl w.heap.size w).alloc (Nat.le_refl _) (.cells #[.string ⟨#[97, 120, 46, 99]⟩, .string ⟨#[98, 46, 104]⟩, .string ⟨#[120, 120, 46, 99]⟩] 9)
    refine (All_ok aliveS _ _ alive_all (by decide) (by decide) alive_chain (by decide) _ 3 3 [⟨#[97, 120, 46, 99]⟩, ⟨#[98, 46, 104]⟩, ⟨#[120, 120, 46, 99]⟩] _ (words_new (W := w) (T := 9) (arr := #[.string ⟨#[97, 120, 46, 99]⟩, .string ⟨#[98, 46, 104]⟩, .string ⟨#[120, 120, 46, 99]⟩]) (l := [⟨#[97, 120, 46, 99]⟩, ⟨#[98, 46, 104]⟩, ⟨#[120, 120, 46, 99]⟩]) rfl rfl 3) ⟨by decide, by decide⟩ (hmx.below hB hmx.pos)).mono ?_
    rintro e w' ⟨h1, h2⟩
    rw [alive_fold] at h2
    obtain ⟨v', rfl, ho⟩ := h2
    obtain ⟨a, c, rfl⟩ := owns_slice ho
    exact ⟨a, c, rfl, words_of_owns ho (Nat.le_refl _), hB.trans (h1.mono (by simp))⟩
  clear hmx
  go_enter Tryz.func10, Tryz.ntmps10
  go_wp2_with fail
  refine (HA.out _ rfl).mono ?_
  rintro e w1 ⟨a, c, rfl, hw1, hb1⟩
  have HW : Hid (Words w1.heap.size w1 (.slice a 2 c) [⟨#[97, 121, 46, 111]⟩, ⟨#[121, 120, 46, 111]⟩] ∧ Below w.heap.size w w1) := ⟨hw1, hb1⟩
  clear hw1 hb1
  have HS : Hid (∀ W, W = w1.alloc (.cells #[.string ⟨#[97, 121, 46, 111]⟩, .string ⟨#[121, 120, 46, 111]⟩] 9) → Calls Tryz.prog 13 #[.slice a 2 c, .slice (some ⟨w1.heap.size, 0, none⟩) 2 2] W fun e w' => e = .returned (.bool true) ∧ ∃ n, w' = W.drewN n) := by
    rintro W rfl
    exact same_any _ _ _ _ _ _ (by decide) ((HW.out.1).below ((Below.refl _ _).alloc (Nat.le_refl _) _)) (words_new (W := w1) (T := 9) (arr := #[.string ⟨#[97, 121, 46, 111]⟩, .string ⟨#[121, 120, 46, 111]⟩]) (l := [⟨#[97, 121, 46, 111]⟩, ⟨#[121, 120, 46, 111]⟩]) rfl rfl 2)
  go_wp2_with fail
  refine (HS.out _ rfl).mono ?_
  rintro e w2 ⟨rfl, k2, rfl⟩
  go_wp2
  go_ret
  exact ⟨rfl, below_drewN (HW.out.2.alloc HW.out.2.size _) k2⟩
end Go.Proofs.YtedepknbaakkhaaGreatDoor
