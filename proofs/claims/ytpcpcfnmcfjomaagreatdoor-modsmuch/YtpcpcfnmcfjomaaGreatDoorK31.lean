/-
  M21 M22 M23 M24 QE1 M32
-/
import Derived.Test.YtpcpcfnmcfjomaaGreatDoorK30
import Derived.Sort.OwnSorted
import Derived.Test.YtpcpcfnmcfjomaaGreatDoorK28
import Derived.Test.YtpcpcfnmcfjomaaGreatDoorK24
import Derived.Test.YtpcpcfnmcfjomaaGreatDoorK17
namespace Go.Proofs.YtpcpcfnmcfjomaaGreatDoor
open Go.RowKit Go.Shelf
def aliveS : ByteArray := ⟨#[77, 42, 46, 99, 58, 83, 47, 120, 47, 121, 47, 58, 46, 99, 61, 46, 111]⟩
def aM : Md := { kind := ⟨#[77]⟩, a := ⟨#[42, 46, 99]⟩ }
def aS : Md := { kind := ⟨#[83]⟩, a := ⟨#[120]⟩, b := ⟨#[121]⟩, ots := 1 }
def aE : Md := { kind := ⟨#[61]⟩, a := ⟨#[46, 99]⟩, b := ⟨#[46, 111]⟩ }
theorem reads_m {s : ByteArray} (hs : s.size ≤ 1000000) (h1 : 1 ≤ s.size) (hk : headIs s 77 = true) {m : Md} {n : Nat} (hm : m = { kind := ⟨#[77]⟩, a := ba (untilL 58 ((bl s).drop 1)).1 }) (hn : n = (untilL 58 ((bl s).drop 1)).2.1 + 1) : Reads s (.ok m n) := fun w _ => by
  refine (read_m s w hs h1 hk).mono ?_
  rintro e w' ⟨rfl, hb⟩
  refine ⟨?_, hb⟩
  rw [ext_head hk, bl_rest, hm, hn]
  rfl
theorem alive_chain : Chain aliveS 0 [aM, aS, aE] := by
  have e0 : aliveS.extract 0 aliveS.size = aliveS := by kernel_rfl
  have e5 : aliveS.extract 5 aliveS.size = ⟨#[83, 47, 120, 47, 121, 47, 58, 46, 99, 61, 46, 111]⟩ := by kernel_rfl
  have e12 : aliveS.extract 12 aliveS.size = ⟨#[46, 99, 61, 46, 111]⟩ := by kernel_rfl
  refine .step (n := 4) (by decide) (by decide) ?_ (.step (n := 6) (by decide) (by decide) ?_ (.step (n := 5) (by decide) (by decide) ?_ (.done (by decide))))
  · rw [e0]
    exact reads_m (by decide) (by decide) (by kernel_rfl) (by kernel_rfl) (by kernel_rfl)
  · rw [e5]
    intro w hw
    refine (read_s _ w (by decide) (by decide) (by kernel_rfl) (by kernel_rfl) hw).mono ?_
    rintro e w' ⟨rfl, hb⟩
    exact ⟨congrArg Ending.returned (by kernel_rfl), hb⟩
  · rw [e12]
    intro w hw
    refine (read_eq ⟨#[46, 99, 61, 46, 111]⟩ ⟨#[46, 99, 61, 46, 111]⟩ 5 false w (by decide) ⟨by kernel_rfl, by kernel_rfl, by kernel_rfl, by kernel_rfl, by kernel_rfl⟩ (by kernel_rfl) (by simp [wordsL]) hw).mono ?_
    rintro e w' ⟨rfl, hb⟩
    exact ⟨congrArg Ending.returned (by kernel_rfl), hb⟩
noncomputable def aliveG : List (List ByteArray → Option (List ByteArray)) := [foldA (actM aM) [] false, foldA (actS aS 0 1) [] false, foldA (actE aE) [] false]
theorem alive_all : AllApply [aM, aS, aE] aliveG := by
  refine ⟨rfl, fun k h h2 => ?_⟩
  match k, h with
  | 0, _ => exact applies_m aM rfl (by decide)
  | 1, _ => exact applies_s aS 0 1 rfl (by decide) (by decide) (by decide) rfl rfl (by decide) (by decide)
  | 2, _ => exact applies_e aE rfl (by decide) (by decide)
theorem alive_fold : foldG aliveG [⟨#[97, 120, 46, 99]⟩, ⟨#[98, 46, 104]⟩, ⟨#[120, 120, 46, 99]⟩] = some [⟨#[97, 121, 46, 111]⟩, ⟨#[121, 120, 46, 111]⟩] := by kernel_rfl
theorem words_new {W : World} {T : TypeId} {arr : Array Value} {l : List ByteArray} {g : Nat} (hg : g = W.heap.size) (h : arr.toList = l.map Value.string) (c : Nat) : Words (W.alloc (.cells arr T)).heap.size (W.alloc (.cells arr T)) (.slice (some ⟨g, 0, none⟩) l.length c) l := by
  subst hg
  refine ⟨_, _, _, rfl, rfl, fun i hi => ⟨W.heap.size, 0, rfl, by simp, ?_⟩⟩
  simp only [World.cell?, heap_alloc_new, Nat.zero_add]
  have : arr.toList[i]? = some (.string l[i]) := by rw [h, List.getElem?_map, List.getElem?_eq_getElem hi]; rfl
  simpa using this
set_option maxRecDepth 20000 in
set_option maxHeartbeats 1600000 in
theorem alive_any (w : World) (hmx : Mx w) : Calls Tryz.prog 4 #[] w fun e w' => e = .returned (.bool true) ∧ Below w.heap.size w w' := by
  have HA : Hid (∀ W, W = w.alloc (.cells #[.string ⟨#[97, 120, 46, 99]⟩, .string ⟨#[98, 46, 104]⟩, .string ⟨#[120, 120, 46, 99]⟩] 9) → Calls Tryz.prog 5 #[.string ⟨#[77, 42, 46, 99, 58, 83, 47, 120, 47, 121, 47, 58, 46, 99, 61, 46, 111]⟩, .slice (some ⟨w.heap.size, 0, none⟩) 3 3] W fun e w' => ∃ a c, e = .returned (.tuple #[.slice a 2 c, .int .i64 0]) ∧ Words w'.heap.size w' (.slice a 2 c) [⟨#[97, 121, 46, 111]⟩, ⟨#[121, 120, 46, 111]⟩] ∧ Below w.heap.size w w') := by
    rintro W rfl
    have hB := (Below.refl w.heap.size w).alloc (Nat.le_refl _) (.cells #[.string ⟨#[97, 120, 46, 99]⟩, .string ⟨#[98, 46, 104]⟩, .string ⟨#[120, 120, 46, 99]⟩] 9)
    refine (All_ok aliveS _ _ alive_all (by decide) (by decide) alive_chain (by decide) _ 3 3 [⟨#[97, 120, 46, 99]⟩, ⟨#[98, 46, 104]⟩, ⟨#[120, 120, 46, 99]⟩] _ (words_new (W := w) (T := 9) (arr := #[.string ⟨#[97, 120, 46, 99]⟩, .string ⟨#[98, 46, 104]⟩, .string ⟨#[120, 120, 46, 99]⟩]) (l := [⟨#[97, 120, 46, 99]⟩, ⟨#[98, 46, 104]⟩, ⟨#[120, 120, 46, 99]⟩]) rfl rfl 3) ⟨by decide, by decide⟩ (hmx.below hB hmx.pos)).mono ?_
    rintro e w' ⟨h1, h2⟩
    rw [alive_fold] at h2
    obtain ⟨v', rfl, ho⟩ := h2
    obtain ⟨a, c, rfl⟩ := owns_slice ho
    exact ⟨a, c, rfl, words_of_owns ho (Nat.le_refl _), hB.trans (h1.mono (by simp))⟩
  clear hmx
  go_enter Tryz.func4, Tryz.ntmps4
  go_wp2_with fail
  refine (HA.out _ rfl).mono ?_
  rintro e w1 ⟨a, c, rfl, hw1, hb1⟩
  have HW : Hid (Words w1.heap.size w1 (.slice a 2 c) [⟨#[97, 121, 46, 111]⟩, ⟨#[121, 120, 46, 111]⟩] ∧ Below w.heap.size w w1) := ⟨hw1, hb1⟩
  clear hw1 hb1
  have HS : Hid (∀ W, W = w1.alloc (.cells #[.string ⟨#[97, 121, 46, 111]⟩, .string ⟨#[121, 120, 46, 111]⟩] 9) → Calls Tryz.prog 7 #[.slice a 2 c, .slice (some ⟨w1.heap.size, 0, none⟩) 2 2] W fun e w' => e = .returned (.bool true) ∧ ∃ n, w' = W.drewN n) := by
    rintro W rfl
    exact same_any _ _ _ _ _ _ (by decide) ((HW.out.1).below ((Below.refl _ _).alloc (Nat.le_refl _) _)) (words_new (W := w1) (T := 9) (arr := #[.string ⟨#[97, 121, 46, 111]⟩, .string ⟨#[121, 120, 46, 111]⟩]) (l := [⟨#[97, 121, 46, 111]⟩, ⟨#[121, 120, 46, 111]⟩]) rfl rfl 2)
  go_wp2_with fail
  refine (HS.out _ rfl).mono ?_
  rintro e w2 ⟨rfl, k2, rfl⟩
  go_wp2
  go_ret
  exact ⟨rfl, below_drewN (HW.out.2.alloc HW.out.2.size _) k2⟩
end Go.Proofs.YtpcpcfnmcfjomaaGreatDoor
namespace Go.Proofs.YtpcpcfnmcfjomaaGreatDoor
open Go.RowKit Go.Shelf Go.Sort
def sortedL (l : List ByteArray) : List ByteArray := ((l.map bl).mergeSort fun x y => decide (x ≤ y)).map ba
def compactL (l : List ByteArray) : List ByteArray := (Lib.compact (l.map bl)).map ba
theorem sorted_length (xs : List ByteArray) : (sortedL xs).length = xs.length := by simp [sortedL, List.length_mergeSort]
theorem compact_len (zs : List (List UInt8)) : (Lib.compact zs).length ≤ zs.length := by
  unfold Lib.compact Lib.compactUpTo
  rw [List.length_map]
  refine Nat.le_trans (List.length_filter_le _ _) ?_
  simp
end Go.Proofs.YtpcpcfnmcfjomaaGreatDoor
namespace Go.Proofs.YtpcpcfnmcfjomaaGreatDoor
open Go.RowKit Go.Shelf Go.Sort
end Go.Proofs.YtpcpcfnmcfjomaaGreatDoor
namespace Go.Proofs.YtpcpcfnmcfjomaaGreatDoor
open Go.RowKit Go.Shelf Go.Sort
section
variable {α : Type} [Inhabited α] [DecidableEq α]
end
theorem map_bl_ba (l : List ByteArray) : (l.map bl).map ba = l := by
  rw [List.map_map]
  conv => rhs; rw [← List.map_id l]
  exact List.map_congr_left fun x _ => ba_bl x
theorem sortedL_perm (l : List ByteArray) : (sortedL l).Perm l := by
  have h := (List.mergeSort_perm (l.map bl) (fun x y => decide (x ≤ y))).map ba
  rw [map_bl_ba] at h
  exact h
theorem sizeL_perm {l l' : List ByteArray} (h : l.Perm l') : sizeL l = sizeL l' := (h.map ByteArray.size).sum_nat
theorem few_sorted (l : List ByteArray) (h : Few l) : Few (sortedL l) := ⟨by rw [sorted_length]; exact h.1, by rw [sizeL_perm (sortedL_perm l)]; exact h.2⟩
theorem few_rev (l : List ByteArray) (h : Few l) : Few l.reverse := ⟨by rw [List.length_reverse]; exact h.1, by rw [sizeL_perm (List.reverse_perm l)]; exact h.2⟩
theorem sum_sub {l l' : List Nat} (h : l.Sublist l') : l.sum ≤ l'.sum := by
  induction h with
  | slnil => exact Nat.le_refl _
  | cons a _ ih => simp only [List.sum_cons]; omega
  | cons_cons a _ ih => simp only [List.sum_cons]; omega
theorem compact_sub (zs : List (List UInt8)) : (Lib.compact zs).Sublist zs := by
  unfold Lib.compact Lib.compactUpTo
  have h := (List.filter_sublist (l := List.range zs.length) (p := Lib.keeps zs.toArray)).map (zs.toArray[·]!)
  have e := Lib.range_map_get zs.toArray
  simp only [List.size_toArray] at e
  rw [e] at h
  exact h
theorem few_compact (l : List ByteArray) (h : Few l) : Few (compactL l) := by
  have hs : (compactL l).Sublist l := by
    have := (compact_sub (l.map bl)).map ba
    rw [map_bl_ba] at this
    exact this
  exact ⟨Nat.le_trans hs.length_le h.1, Nat.le_trans (sum_sub (hs.map ByteArray.size)) h.2⟩
end Go.Proofs.YtpcpcfnmcfjomaaGreatDoor
namespace Go.Proofs.YtpcpcfnmcfjomaaGreatDoor.DQ
open Go.RowKit Go.Shelf
theorem ltB_is (x y : ByteArray) : ltB x y = decide (bl x < bl y) := by
  unfold ltB; rw [Proofs.bytesLess_eq, Lib.toList_data, Lib.toList_data]; rfl
def LeW (x y : ByteArray) : Prop := bl x ≤ bl y
theorem leW_not {x y : ByteArray} (h : ¬ ltB y x = true) : LeW x y := by
  rw [ltB_is] at h
  simpa [LeW] using h
theorem leW_lt {x y : ByteArray} (h : ltB y x = true) : LeW y x := by
  rw [ltB_is] at h
  exact List.le_of_lt (of_decide_eq_true h)
theorem LeW.trans {x y z : ByteArray} (h : LeW x y) (h2 : LeW y z) : LeW x z := List.le_trans h h2
theorem merge_perm : ∀ (n : Nat) (a b : List ByteArray), a.length + b.length ≤ n → (mergeD a b).Perm (a ++ b)
  | n, [], b, _ => by rw [merge_nl]; exact .refl _
  | n, x :: a, [], _ => by rw [merge_nr, List.append_nil]
  | 0, x :: a, y :: b, h => by simp at h
  | n + 1, x :: a, y :: b, h => by
    simp only [List.length_cons] at h
    by_cases hl : ltB y x = true
    · rw [merge_lt _ _ hl]
      exact ((merge_perm n (x :: a) b (by simp only [List.length_cons]; omega)).cons y).trans List.perm_middle.symm
    · rw [merge_ge _ _ hl]
      exact (merge_perm n a (y :: b) (by simp only [List.length_cons]; omega)).cons x
theorem merge_sorted : ∀ (n : Nat) (a b : List ByteArray), a.length + b.length ≤ n → a.Pairwise LeW → b.Pairwise LeW → (mergeD a b).Pairwise LeW
  | n, [], b, _, _, hb => by rw [merge_nl]; exact hb
  | n, x :: a, [], _, ha, _ => by rw [merge_nr]; exact ha
  | 0, x :: a, y :: b, h, _, _ => by simp at h
  | n + 1, x :: a, y :: b, h, ha, hb => by
    simp only [List.length_cons] at h
    obtain ⟨hx, ha'⟩ := List.pairwise_cons.1 ha
    obtain ⟨hy, hb'⟩ := List.pairwise_cons.1 hb
    by_cases hl : ltB y x = true
    · rw [merge_lt _ _ hl]
      refine List.pairwise_cons.2 ⟨fun z hz => ?_, merge_sorted n (x :: a) b (by simp only [List.length_cons]; omega) ha hb'⟩
      have hz' := (merge_perm _ (x :: a) b (Nat.le_refl _)).mem_iff.1 hz
      rcases List.mem_append.1 hz' with h1 | h1
      · rcases List.mem_cons.1 h1 with rfl | h1
        · exact leW_lt hl
        · exact (leW_lt hl).trans (hx z h1)
      · exact hy z h1
    · rw [merge_ge _ _ hl]
      refine List.pairwise_cons.2 ⟨fun z hz => ?_, merge_sorted n a (y :: b) (by simp only [List.length_cons]; omega) ha' hb⟩
      have hz' := (merge_perm _ a (y :: b) (Nat.le_refl _)).mem_iff.1 hz
      rcases List.mem_append.1 hz' with h1 | h1
      · exact hx z h1
      · rcases List.mem_cons.1 h1 with rfl | h1
        · exact leW_not hl
        · exact (leW_not hl).trans (hy z h1)
theorem sortD_is : ∀ (k : Nat) (l : List ByteArray), l.length < k → (sortD k l).Perm l ∧ (sortD k l).Pairwise LeW
  | 0, l, h => by omega
  | k + 1, l, h => by
    rw [sortD]
    split
    · rename_i h2
      refine ⟨.refl _, ?_⟩
      match l, h2 with
      | [], _ => exact .nil
      | [x], _ => exact List.pairwise_singleton _ _
    · have h1 := sortD_is k (l.take (l.length / 2)) (by rw [List.length_take]; omega)
      have h2 := sortD_is k (l.drop (l.length / 2)) (by rw [List.length_drop]; omega)
      refine ⟨(merge_perm _ _ _ (Nat.le_refl _)).trans ?_, merge_sorted _ _ _ (Nat.le_refl _) h1.2 h2.2⟩
      have := h1.1.append h2.1
      rwa [List.take_append_drop] at this
theorem sort_eq (l : List ByteArray) : sortedL l = sortA l := by
  obtain ⟨h1, h2⟩ := sortD_is (l.length + 1) l (Nat.lt_succ_self _)
  have g1 : (sortedL l).Perm l := by
    have := (List.mergeSort_perm (l.map bl) (fun x y => decide (x ≤ y))).map ba
    rw [List.map_map] at this
    refine this.trans ?_
    rw [show ba ∘ bl = id from funext ba_bl, List.map_id]
  have g2 : (sortedL l).Pairwise LeW := by
    unfold sortedL
    rw [List.pairwise_map]
    have := List.pairwise_mergeSort (le := fun (x y : List UInt8) => decide (x ≤ y)) (fun a b c h h' => by simp only [decide_eq_true_eq] at h h' ⊢; exact List.le_trans h h') (fun a b => by simp only [Bool.or_eq_true, decide_eq_true_eq]; exact List.le_total a b) (l.map bl)
    refine this.imp fun {a b} h => ?_
    unfold LeW; rw [bl_ba, bl_ba]; exact of_decide_eq_true h
  exact List.Perm.eq_of_pairwise (fun a b _ _ h h' => bl_inj (List.le_antisymm h h')) g2 h2 (g1.trans h1.symm)
theorem keeps_one (a b : List UInt8) (t : List (List UInt8)) : Lib.keeps (a :: b :: t).toArray 1 = decide (b ≠ a) := by
  unfold Lib.keeps; simp
theorem keeps_two (a b : List UInt8) (t : List (List UInt8)) (j : Nat) : Lib.keeps (a :: b :: t).toArray (j + 2) = Lib.keeps (b :: t).toArray (j + 1) := by
  unfold Lib.keeps; simp
theorem compact_cons (a : List UInt8) (l : List (List UInt8)) : Lib.compact (a :: l) = a :: ((List.range l.length).filter fun j => Lib.keeps (a :: l).toArray (j + 1)).map fun j => l.toArray[j]! := by
  unfold Lib.compact Lib.compactUpTo
  rw [List.length_cons, List.range_succ_eq_map, List.filter_cons, if_pos (by simp [Lib.keeps]), List.map_cons, List.filter_map, List.map_map]
  refine congr (congrArg _ (by simp)) ?_
  refine congrFun (congrArg _ (funext fun j => ?_)) _
  simp
theorem compact_cons2 (a b : List UInt8) (t : List (List UInt8)) : Lib.compact (a :: b :: t) = if a = b then Lib.compact (b :: t) else a :: Lib.compact (b :: t) := by
  rw [compact_cons a, compact_cons b, List.length_cons, List.range_succ_eq_map, List.filter_cons]
  have e : (((List.range t.length).map Nat.succ).filter fun j => Lib.keeps (a :: b :: t).toArray (j + 1)).map (fun j => (b :: t).toArray[j]!) = ((List.range t.length).filter fun j => Lib.keeps (b :: t).toArray (j + 1)).map fun j => t.toArray[j]! := by
    rw [List.filter_map, List.map_map]
    have e1 : ((fun j => Lib.keeps (a :: b :: t).toArray (j + 1)) ∘ Nat.succ) = fun j => Lib.keeps (b :: t).toArray (j + 1) := funext fun j => keeps_two a b t j
    rw [e1]
    refine congrFun (congrArg _ (funext fun j => ?_)) _
    simp
  by_cases h : a = b
  · rw [if_pos h, if_neg (by rw [keeps_one]; simp [h]), e, h]
  · rw [if_neg h, if_pos (by rw [keeps_one]; simpa using fun x => h x.symm), List.map_cons, e]
    rfl
theorem dedup_eq : ∀ l : List ByteArray, compactL l = dedupA l
  | [] => by simp [compactL, dedupA, Lib.compact, Lib.compactUpTo]
  | [x] => by
    unfold compactL
    rw [List.map_cons, compact_cons]
    simp [dedupA, ba_bl]
  | x :: y :: l => by
    have ih := dedup_eq (y :: l)
    unfold compactL at ih ⊢
    rw [List.map_cons, List.map_cons, compact_cons2, dedupA]
    rw [List.map_cons] at ih
    by_cases h : x = y
    · rw [if_pos (by rw [h]), if_pos h, ih]
    · rw [if_neg (fun e => h (bl_inj e)), if_neg h, List.map_cons, ba_bl, ih]
end Go.Proofs.YtpcpcfnmcfjomaaGreatDoor.DQ
namespace Go.Proofs.YtpcpcfnmcfjomaaGreatDoor
open Go.RowKit Go.Shelf
set_option maxRecDepth 20000 in
set_option maxHeartbeats 1600000 in
theorem w_name_any (base b : Nat) (m : Md) (v : Value) (made : List ByteArray) (done : Bool) (x : ByteArray) (w : World) (h : Wk base b m v made false done w) (hx : x.size ≤ 1000000) (hs : sizeL made ≤ 65536) (hl : made.length ≤ 100000) :
    Calls Tryz.prog 49 #[.pointer (some ⟨b, 0, none⟩), .string x] w fun e w' => e = .returned (.tuple #[]) ∧ Step base b m v made done (some (nameB x)) w w' := by
  have HN : Hid (∀ W, Calls Tryz.prog 97 #[.string x] W fun e w' => e = .returned (.string (nameB x)) ∧ w' = W) := fun W => name_any x W (by omega)
  obtain ⟨y, hy⟩ : ∃ y, y = nameB x := ⟨_, rfl⟩
  rw [← hy] at HN ⊢
  have HK : Hid (Calls Tryz.prog 89 #[.pointer (some ⟨b, 0, none⟩), .string y] w fun e w' => e = .returned (.tuple #[]) ∧ Step base b m v made done (some y) w w') := keep_any base b m v made false done y w h hs hl
  clear h hy
  go_enter Tryz.func49, Tryz.ntmps49
  go_wp2_with fail
  refine (HN.out _).mono ?_
  rintro e w' ⟨rfl, rfl⟩
  go_wp2_with fail
  refine HK.out.mono ?_
  rintro e w2 ⟨rfl, hst⟩
  have HS : Hid (Step base b m v made done (some y) w' w2) := hst
  clear hst
  go_wp2
  refine bodyPost_end (v := .tuple #[]) (by simp [results, Tryz.results49, go_sem]) rfl ⟨rfl, HS.out⟩
set_option maxRecDepth 20000 in
set_option maxHeartbeats 1600000 in
theorem w_dir_any (base b : Nat) (m : Md) (v : Value) (made : List ByteArray) (done : Bool) (x : ByteArray) (w : World) (h : Wk base b m v made false done w) (hx : x.size ≤ 1000000) (hs : sizeL made ≤ 65536) (hl : made.length ≤ 100000) :
    Calls Tryz.prog 50 #[.pointer (some ⟨b, 0, none⟩), .string x] w fun e w' => e = .returned (.tuple #[]) ∧ Step base b m v made done (some (dirB x)) w w' := by
  have HN : Hid (∀ W, Calls Tryz.prog 98 #[.string x] W fun e w' => e = .returned (.string (dirB x)) ∧ w' = W) := fun W => dir_any x W (by omega)
  obtain ⟨y, hy⟩ : ∃ y, y = dirB x := ⟨_, rfl⟩
  rw [← hy] at HN ⊢
  have HK : Hid (Calls Tryz.prog 89 #[.pointer (some ⟨b, 0, none⟩), .string y] w fun e w' => e = .returned (.tuple #[]) ∧ Step base b m v made done (some y) w w') := keep_any base b m v made false done y w h hs hl
  clear h hy
  go_enter Tryz.func50, Tryz.ntmps50
  go_wp2_with fail
  refine (HN.out _).mono ?_
  rintro e w' ⟨rfl, rfl⟩
  go_wp2_with fail
  refine HK.out.mono ?_
  rintro e w2 ⟨rfl, hst⟩
  have HS : Hid (Step base b m v made done (some y) w' w2) := hst
  clear hst
  go_wp2
  refine bodyPost_end (v := .tuple #[]) (by simp [results, Tryz.results50, go_sem]) rfl ⟨rfl, HS.out⟩
set_option maxRecDepth 20000 in
set_option maxHeartbeats 1600000 in
theorem w_root_any (base b : Nat) (m : Md) (v : Value) (made : List ByteArray) (done : Bool) (x : ByteArray) (w : World) (h : Wk base b m v made false done w) (hx : x.size ≤ 1000000) (hs : sizeL made ≤ 65536) (hl : made.length ≤ 100000) :
    Calls Tryz.prog 52 #[.pointer (some ⟨b, 0, none⟩), .string x] w fun e w' => e = .returned (.tuple #[]) ∧ Step base b m v made done (some (rootB x)) w w' := by
  have HN : Hid (∀ W, Calls Tryz.prog 100 #[.string x] W fun e w' => e = .returned (.string (rootB x)) ∧ w' = W) := fun W => root_any x W (by omega)
  obtain ⟨y, hy⟩ : ∃ y, y = rootB x := ⟨_, rfl⟩
  rw [← hy] at HN ⊢
  have HK : Hid (Calls Tryz.prog 89 #[.pointer (some ⟨b, 0, none⟩), .string y] w fun e w' => e = .returned (.tuple #[]) ∧ Step base b m v made done (some y) w w') := keep_any base b m v made false done y w h hs hl
  clear h hy
  go_enter Tryz.func52, Tryz.ntmps52
  go_wp2_with fail
  refine (HN.out _).mono ?_
  rintro e w' ⟨rfl, rfl⟩
  go_wp2_with fail
  refine HK.out.mono ?_
  rintro e w2 ⟨rfl, hst⟩
  have HS : Hid (Step base b m v made done (some y) w' w2) := hst
  clear hst
  go_wp2
  refine bodyPost_end (v := .tuple #[]) (by simp [results, Tryz.results52, go_sem]) rfl ⟨rfl, HS.out⟩
theorem suf_two (x : ByteArray) : sufB x = E ∨ 1 ≤ (sufB x).size := by
  by_cases h : (sufB x).size = 0
  · exact .inl (by apply bl_inj; have := bl_length (sufB x); rw [h] at this; exact List.length_eq_zero_iff.1 this)
  · exact .inr (by omega)
def sufO (x : ByteArray) : Option ByteArray := if (sufB x).size = 0 then none else some ((sufB x).extract 1 (sufB x).size)
set_option maxRecDepth 20000 in
set_option maxHeartbeats 1600000 in
theorem w_suffix_any (base b : Nat) (m : Md) (v : Value) (made : List ByteArray) (done : Bool) (x : ByteArray) (w : World) (h : Wk base b m v made false done w) (hx : x.size ≤ 1000000) (hs : sizeL made ≤ 65536) (hl : made.length ≤ 100000) :
    Calls Tryz.prog 51 #[.pointer (some ⟨b, 0, none⟩), .string x] w fun e w' => e = .returned (.tuple #[]) ∧ Step base b m v made done (sufO x) w w' := by
  have HN : Hid (∀ W, Calls Tryz.prog 99 #[.string x] W fun e w' => e = .returned (.string (sufB x)) ∧ w' = W) := fun W => suffix_any x W (by omega)
  have hsz := sufB_size x
  unfold sufO
  obtain ⟨y, hy⟩ : ∃ y, y = sufB x := ⟨_, rfl⟩
  have ht := suf_two x
  rw [← hy] at HN hsz ht ⊢
  rcases ht with rfl | h1
  · have HZ : Hid (Step base b m v made done none w w) := h.step (Below.refl _ _)
    clear h hy
    rw [if_pos (show E.size = 0 from rfl)]
    go_enter Tryz.func51, Tryz.ntmps51
    go_wp2_with fail
    refine (HN.out _).mono ?_
    rintro e w' ⟨rfl, rfl⟩
    go_wp2
    refine bodyPost_end (v := .tuple #[]) (by simp [results, Tryz.results51, go_sem]) rfl ⟨rfl, HZ.out⟩
  · have t1 : ¬ y.toList = [] := by rw [Lib.toList_data]; intro e; have := bl_length y; unfold bl at this; rw [e] at this; simp at this; omega
    have t2 : y.toList.isEmpty = false := by cases hh : y.toList with | nil => exact absurd hh t1 | cons => rfl
    have h1i : (1 : Int) ≤ (y.size : Int) := by omega
    have HK : Hid (Calls Tryz.prog 89 #[.pointer (some ⟨b, 0, none⟩), .string (y.extract 1 y.size)] w fun e w' => e = .returned (.tuple #[]) ∧ Step base b m v made done (some (y.extract 1 y.size)) w w') := keep_any base b m v made false done _ w h hs hl
    clear h hy
    rw [if_neg (by omega)]
    go_enter Tryz.func51, Tryz.ntmps51
    go_wp2_with fail
    refine (HN.out _).mono ?_
    rintro e w' ⟨rfl, rfl⟩
    go_wp2_with fail
    refine HK.out.mono ?_
    rintro e w2 ⟨rfl, hst⟩
    have HS : Hid (Step base b m v made done (some (y.extract 1 y.size)) w' w2) := hst
    clear hst
    go_wp2
    refine bodyPost_end (v := .tuple #[]) (by simp [results, Tryz.results51, go_sem]) rfl ⟨rfl, HS.out⟩
end Go.Proofs.YtpcpcfnmcfjomaaGreatDoor
