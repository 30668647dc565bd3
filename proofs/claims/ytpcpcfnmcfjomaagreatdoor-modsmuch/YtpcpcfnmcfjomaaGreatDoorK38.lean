/-
  DQ16 DQ17 DQ18 DQ19
-/
import Derived.Test.YtpcpcfnmcfjomaaGreatDoorK28
namespace Go.Proofs.YtpcpcfnmcfjomaaGreatDoor.DQ
open Go.RowKit Go.Shelf
def wordsA (m : Dm) (l : List ByteArray) : List ByteArray := (l.filter fun x => (wordA m x).2).map fun x => (wordA m x).1
theorem words_yes {m : Dm} {l : List ByteArray} {k : Nat} (hk : k < l.length) {r : ByteArray} (h : wordA m l[k] = (r, true)) : wordsA m (l.take k) ++ [r] = wordsA m (l.take (k + 1)) := by
  unfold wordsA
  rw [List.take_succ_eq_append_getElem hk, List.filter_append, List.map_append]
  simp [h]
theorem words_no {m : Dm} {l : List ByteArray} {k : Nat} (hk : k < l.length) {r : ByteArray} (h : wordA m l[k] = (r, false)) : wordsA m (l.take k) = wordsA m (l.take (k + 1)) := by
  unfold wordsA
  rw [List.take_succ_eq_append_getElem hk, List.filter_append, List.map_append]
  simp [h]
theorem toL (l : List UInt8) : (⟨⟨l⟩⟩ : ByteArray).toList = l := by simp [ByteArray.toList_eq]
theorem lst_ne {x y : ByteArray} (h : ¬ x = y) : (x.toList == y.toList) = false := by rw [lst_eq]; exact decide_eq_false h
theorem words_len (m : Dm) (l : List ByteArray) : (wordsA m l).length ≤ l.length := by
  unfold wordsA; rw [List.length_map]; exact List.length_filter_le _ _
set_option maxRecDepth 20000 in
set_option maxHeartbeats 3200000 in
theorem list_words (kd a b : ByteArray) (f t y : Int) (v : Value) (l : List ByteArray) (w : World) (hl : l.length ≤ 1000000) (hk : wordK ⟨kd, a, b, f, t, y⟩) (ha : a.size ≤ 1000000) (hb : b.size ≤ 1000000) (hs : ∀ x ∈ l, x.size ≤ 1000000) (hv : Ws w.heap.size w v l) :
    Calls Tryz.prog 18 #[.agg (dmA kd a b f t y), v] w (ListPost w (listA ⟨kd, a, b, f, t, y⟩ l)) := by
  obtain ⟨W1, hW1⟩ : ∃ W1, W1 = w.alloc (.cells (dmA kd a b f t y) 53) := ⟨_, rfl⟩
  have hbx : W1.heap[w.heap.size]? = some (.cells (dmA kd a b f t y) 53 (0, 0)) := by rw [hW1]; exact Cd.heap_new _ _
  have HB : Hid (Below w.heap.size w W1) := by rw [hW1]; exact (Below.refl _ _).alloc (Nat.le_refl _) _
  have hlt : w.heap.size < W1.heap.size := (Array.getElem?_eq_some_iff.1 hbx).1
  have HBX : Hid (W1.heap[w.heap.size]? = some (.cells (dmA kd a b f t y) 53 (0, 0))) := hbx
  have c0 := cell_in hbx 0 rfl
  have HV : Hid (Ws W1.heap.size W1 v l) := hv.on HB.out
  obtain ⟨m, hm⟩ : ∃ m : Dm, m = ⟨kd, a, b, f, t, y⟩ := ⟨_, rfl⟩
  have HC : Hid (∀ k (h : k < l.length) W, Calls Tryz.prog 36 #[.agg (dmA kd a b f t y), .string l[k]] W fun e w' => e = .returned (WordV m l[k]) ∧ Below W.heap.size W w') := fun k h W => by
    rw [hm]; exact word_any ⟨kd, a, b, f, t, y⟩ _ W hk ha hb (hs _ (List.getElem_mem h))
  have hne : ¬ kd = ⟨#[79]⟩ ∧ ¬ kd = ⟨#[79, 114]⟩ ∧ ¬ kd = ⟨#[114]⟩ ∧ ¬ kd = ⟨#[81]⟩ ∧ ¬ kd = ⟨#[91]⟩ ∧ ¬ kd = ⟨#[117]⟩ ∧ ¬ kd = ⟨#[83]⟩ ∧ ¬ kd = ⟨#[67]⟩ := by
    unfold wordK at hk
    rcases hk with h | h | h | h | h | h | h | h | h <;> (have h' : kd = _ := h; subst h'; decide)
  obtain ⟨n1, n2, n3, n4, n5, n6, n7, n8⟩ := hne
  have HR : Hid (listA ⟨kd, a, b, f, t, y⟩ l = wordsA m l) := by
    unfold Hid listA wordsA
    rw [if_neg n1, if_neg n2, if_neg n3, if_neg n4, if_neg n5, if_neg n6, hm]
  have e1 : (kd.toList == [79]) = false := by have h := lst_ne n1; rwa [show (⟨#[79]⟩ : ByteArray).toList = [79] from toL _] at h
  have e2 : (kd.toList == [79, 114]) = false := by have h := lst_ne n2; rwa [show (⟨#[79, 114]⟩ : ByteArray).toList = [79, 114] from toL _] at h
  have e3 : (kd.toList == [114]) = false := by have h := lst_ne n3; rwa [show (⟨#[114]⟩ : ByteArray).toList = [114] from toL _] at h
  have e4 : (kd.toList == [81]) = false := by have h := lst_ne n4; rwa [show (⟨#[81]⟩ : ByteArray).toList = [81] from toL _] at h
  have e5 : (kd.toList == [91]) = false := by have h := lst_ne n5; rwa [show (⟨#[91]⟩ : ByteArray).toList = [91] from toL _] at h
  have e6 : (kd.toList == [117]) = false := by have h := lst_ne n6; rwa [show (⟨#[117]⟩ : ByteArray).toList = [117] from toL _] at h
  have e7 : (kd.toList == [83]) = false := by have h := lst_ne n7; rwa [show (⟨#[83]⟩ : ByteArray).toList = [83] from toL _] at h
  have e8 : (kd.toList == [67]) = false := by have h := lst_ne n8; rwa [show (⟨#[67]⟩ : ByteArray).toList = [67] from toL _] at h
  obtain ⟨ad, n, c, rfl, hnl, _⟩ : ∃ ad n c, v = .slice ad n c ∧ n = l.length ∧ True := by obtain ⟨ad, c, h, _⟩ := hv; exact ⟨ad, _, c, h, rfl, trivial⟩
  have hn : n ≤ 1000000 := by omega
  have HN : Hid (n = l.length) := hnl
  obtain ⟨i0, hi, hz0, hz1, hz2'⟩ := info_of infoS9
  have HO0 : Hid (W1.ownsRow W1.heap.size 9 1 (.slice none 0 0) (wordsA m (l.take 0)).length ((wordsA m (l.take 0)).map Value.string)) := ⟨rfl, .inl ⟨rfl, rfl⟩⟩
  clear hv hbx hnl hl hk ha hb hs hm n1 n2 n3 n4 n5 n6 n7 n8
  go_enter Tryz.func18, Tryz.ntmps18
  go_upto_region 1 with fail
  rw [← hW1]
  clear hW1
  go_wp2_with fail
  go_loopw [5, 8] (fun v5 v8 wr => ∃ k : Nat, k ≤ n ∧ v8 = .int .i64 (k : Int) ∧ Hid (wr.ownsRow W1.heap.size 9 1 v5 (wordsA m (l.take k)).length ((wordsA m (l.take k)).map Value.string)) ∧ Hid (Below W1.heap.size W1 wr)) (fun _ v8 _ => n - (intOf v8).toNat)
  case atStart => exact ⟨0, Nat.zero_le _, rfl, HO0, Below.refl _ _⟩
  case round =>
    obtain ⟨k, hk, rfl, HO, HBr⟩ := hrel
    obtain ⟨a3, c3, hv3⟩ := dm_slice HO.out
    obtain ⟨q, hq⟩ : ∃ q, q = (wordsA m (l.take k)).length := ⟨_, rfl⟩
    rw [← hq] at hv3
    subst hv3
    have HQ : Hid (q = (wordsA m (l.take k)).length ∧ q ≤ 1000000) := ⟨hq, by rw [hq]; have := words_len m (l.take k); rw [List.length_take] at this; omega⟩
    clear hq
    by_cases hkn : k < n
    · have hkl : k < l.length := by rw [← HN.out]; exact hkn
      obtain ⟨b0, o0, c', hvs, hcn, hb0, hcl⟩ := HV.out.at (fun h => by rw [h] at hkl; exact absurd hkl (Nat.not_lt_zero _))
      simp only [Value.slice.injEq] at hvs
      obtain ⟨rfl, hzz, rfl⟩ := hvs
      clear hzz
      have e10 := hcl k hkl
      have HCk := HC.out k hkl
      have HY : Hid (cond (wordA m l[k]).2 (wordsA m (l.take k) ++ [(wordA m l[k]).1] = wordsA m (l.take (k + 1))) (wordsA m (l.take k) = wordsA m (l.take (k + 1)))) := by
        unfold Hid
        cases h : (wordA m l[k]).2
        · exact words_no hkl (r := (wordA m l[k]).1) (by rw [← h])
        · exact words_yes hkl (by rw [← h])
      have e9 : wr.cell? ⟨b0, o0 + k, none⟩ = some (.string l[k]) := by rw [HBr.out.cell (p := ⟨b0, o0 + k, none⟩) hb0]; exact e10
      obtain ⟨x, hx⟩ : ∃ x, x = l[k] := ⟨_, rfl⟩
      obtain ⟨r, hr⟩ : ∃ r, r = (wordA m l[k]).1 := ⟨_, rfl⟩
      obtain ⟨ok, hok⟩ : ∃ ok, ok = (wordA m l[k]).2 := ⟨_, rfl⟩
      have HW : Hid (∀ W, Calls Tryz.prog 36 #[.agg (dmA kd a b f t y), .string x] W fun e w' => e = .returned (.tuple #[.string r, .bool ok]) ∧ Below W.heap.size W w') := fun W => by
        rw [hx, hr, hok]; exact HCk W
      rw [← hr, ← hok] at HY
      rw [← hx] at e9
      have hbr : wr.heap[w.heap.size]? = some (.cells (dmA kd a b f t y) 53 (0, 0)) := (HBr.out.block _ hlt).trans HBX.out
      have d0 := cell_in hbr 0 rfl
      have d1 := cell_in hbr 1 rfl
      have d2 := cell_in hbr 2 rfl
      have d3 := cell_in hbr 3 rfl
      have d4 := cell_in hbr 4 rfl
      have d5 := cell_in hbr 5 rfl
      have d6 := cell_in hbr 6 rfl
      have d7 := cell_in hbr 7 rfl
      have hz : W1.heap.size ≤ wr.heap.size := HBr.out.size
      clear hcl HCk e10 hx hr hok hkl hbr hcn hb0 c0
      go_wp2_with fail
      refine (HW.out _).mono ?_
      rintro e w2 ⟨rfl, hb2⟩
      have HO2 : Hid (w2.ownsRow W1.heap.size 9 1 (.slice a3 q c3) q ((wordsA m (l.take k)).map Value.string)) := by
        have := HO.out
        rw [← HQ.out.1] at this
        exact owns_below this hb2
      have HB2 : Hid (Below W1.heap.size W1 w2) := bt3 HBr.out hb2
      have hz2 : W1.heap.size ≤ w2.heap.size := HB2.out.size
      clear hb2 d0 d1 d2 d3 d4 d5 d6 d7 e9 hz
      cases ok
      · go_wp2
        go_roundw
        case rel => exact ⟨k + 1, by omega, by go_num, by unfold Hid; rw [← HY.out, ← HQ.out.1]; exact HO2.out, HB2⟩
        case measure => simp [intOf]; omega
      · have hrow := HO2.out
        have hqq := HQ.out.2
        have HC1 : Hid (∀ (j : Nat) (u : Value), [Value.string r][j]? = some u → (w2.alloc (.cells #[.string r] 9)).cell? ((⟨w2.heap.size, 0, none⟩ : Addr).add j) = some u) := World.news_of_block (Cd.heap_new _ _)
        go_wp2_with (at_builtin; refine wpList_append_own_at _ rfl _ _ 24 rfl W1.heap.size 9 i0 (.string ⟨#[]⟩) 1 16 Tryz.underlying24 hi hz0 hz1 hz2' rfl (by decide) _ _ _ rfl (hrow.alloc _) ⟨w2.heap.size, 0, none⟩ 1 1 [.string r] rfl rfl HC1.out (by intro u hu; simp at hu; subst hu; rfl) (by unfold maxLen; omega) (by omega) (by simp; omega) ?_)
        intro v' w3 hown' hgrow _ hat
        have HO3 : Hid (w3.ownsRow W1.heap.size 9 1 v' (wordsA m (l.take (k + 1))).length ((wordsA m (l.take (k + 1))).map Value.string)) := by
          unfold Hid; rw [← HY.out, List.length_append, ← HQ.out.1, List.map_append]; exact hown'
        have HB3 : Hid (Below W1.heap.size W1 w3) := ((HB2.out.alloc hz2 _).grown hgrow (by simp; omega) (fun j hj => by
          obtain ⟨_, ⟨hv, _⟩ | ⟨g, cap, cur, hv, hg, _⟩⟩ := hrow
          · rw [hv] at hj; simp [Value.ownBlock] at hj
          · rw [hv] at hj; simp [Value.ownBlock] at hj; omega))
        obtain ⟨a5, c5, hv5⟩ := dm_slice hown'
        subst hv5
        clear hown' hgrow hat hrow
        go_wp2
        go_roundw
        case rel => exact ⟨k + 1, by omega, by go_num, HO3, HB3⟩
        case measure => simp [intOf]; omega
    · obtain rfl : k = n := by omega
      have HE : Hid (wordsA m (l.take k) = wordsA m l) := by unfold Hid; rw [HN.out, List.take_length]
      go_wp2
      go_ret
      exact ⟨_, rfl, by rw [HR.out, ← HE.out]; have := HO.out; rw [← HQ.out.1] at this; exact ws_owns HO.out (Nat.le_refl _), HB.out.trans (HBr.out.mono HB.out.size)⟩
end Go.Proofs.YtpcpcfnmcfjomaaGreatDoor.DQ
namespace Go.Proofs.YtpcpcfnmcfjomaaGreatDoor.DQ
open Go.RowKit Go.Shelf
theorem dedup_snoc : ∀ (l : List ByteArray) (y z : ByteArray), dedupA (l ++ [y, z]) = if z = y then dedupA (l ++ [y]) else dedupA (l ++ [y]) ++ [z]
  | [], y, z => by by_cases h : y = z <;> simp [dedupA, h, eq_comm]
  | [x], y, z => by
    have := dedup_snoc [] y z
    simp only [List.nil_append] at this
    simp only [List.cons_append, List.nil_append, dedupA] at *
    by_cases h : x = y <;> by_cases h2 : z = y <;> simp_all
  | x :: x2 :: l, y, z => by
    have := dedup_snoc (x2 :: l) y z
    simp only [List.cons_append] at this ⊢
    by_cases h : x = x2 <;> by_cases h2 : z = y <;> simp_all [dedupA]
theorem dedup_at {l : List ByteArray} {k : Nat} (hk : k + 1 < l.length) : dedupA (l.take (k + 2)) = if l[k + 1] = l[k] then dedupA (l.take (k + 1)) else dedupA (l.take (k + 1)) ++ [l[k + 1]] := by
  rw [List.take_succ_eq_append_getElem hk, List.take_succ_eq_append_getElem (show k < l.length by omega), List.append_assoc]
  exact dedup_snoc _ _ _
theorem dedup_one {l : List ByteArray} (h : 0 < l.length) : dedupA (l.take 1) = [l[0]] := by
  cases l with
  | nil => exact absurd h (Nat.lt_irrefl _)
  | cons x l => rfl
theorem dedup_len : ∀ (l : List ByteArray), (dedupA l).length ≤ l.length
  | [] => Nat.le_refl _
  | [x] => Nat.le_refl _
  | x :: y :: l => by
    have := dedup_len (y :: l)
    simp only [List.length_cons] at this
    unfold dedupA
    split <;> simp only [List.length_cons] <;> omega
set_option maxRecDepth 20000 in
set_option maxHeartbeats 3200000 in
theorem list_u (a b : ByteArray) (f t y : Int) (v : Value) (l : List ByteArray) (w : World) (hl : l.length ≤ 1000000) (hv : Ws w.heap.size w v l) :
    Calls Tryz.prog 18 #[.agg (dmA ⟨#[117]⟩ a b f t y), v] w (ListPost w (listA ⟨⟨#[117]⟩, a, b, f, t, y⟩ l)) := by
  obtain ⟨W1, hW1⟩ : ∃ W1, W1 = w.alloc (.cells (dmA ⟨#[117]⟩ a b f t y) 53) := ⟨_, rfl⟩
  have hbx : W1.heap[w.heap.size]? = some (.cells (dmA ⟨#[117]⟩ a b f t y) 53 (0, 0)) := by rw [hW1]; exact Cd.heap_new _ _
  have HB : Hid (Below w.heap.size w W1) := by rw [hW1]; exact (Below.refl _ _).alloc (Nat.le_refl _) _
  have c0 := cell_in hbx 0 rfl
  have HV : Hid (Ws W1.heap.size W1 v l) := hv.on HB.out
  have HR : Hid (listA ⟨⟨#[117]⟩, a, b, f, t, y⟩ l = dedupA l) := by unfold Hid listA; simp
  obtain ⟨ad, n, c, rfl, hnl, _⟩ : ∃ ad n c, v = .slice ad n c ∧ n = l.length ∧ True := by obtain ⟨ad, c, h, _⟩ := hv; exact ⟨ad, _, c, h, rfl, trivial⟩
  have hn : n ≤ 1000000 := by omega
  have HN : Hid (n = l.length) := hnl
  obtain ⟨i0, hi, hz0, hz1, hz2'⟩ := info_of infoS9
  have HO0 : Hid (W1.ownsRow W1.heap.size 9 1 (.slice none 0 0) (dedupA (l.take 0)).length ((dedupA (l.take 0)).map Value.string)) := ⟨rfl, .inl ⟨rfl, rfl⟩⟩
  clear hv hbx hnl hl
  go_enter Tryz.func18, Tryz.ntmps18
  go_upto_region 1 with fail
  rw [← hW1]
  clear hW1
  go_wp2_with fail
  go_loopw [5, 6] (fun v5 v6 wr => ∃ k : Nat, k ≤ n ∧ v6 = .int .i64 (k : Int) ∧ Hid (wr.ownsRow W1.heap.size 9 1 v5 (dedupA (l.take k)).length ((dedupA (l.take k)).map Value.string)) ∧ Hid (Below W1.heap.size W1 wr)) (fun _ v6 _ => n - (intOf v6).toNat)
  case atStart => exact ⟨0, Nat.zero_le _, rfl, HO0, Below.refl _ _⟩
  case round =>
    obtain ⟨k, hk, rfl, HO, HBr⟩ := hrel
    obtain ⟨a3, c3, hv3⟩ := dm_slice HO.out
    obtain ⟨q, hq⟩ : ∃ q, q = (dedupA (l.take k)).length := ⟨_, rfl⟩
    rw [← hq] at hv3
    subst hv3
    have HQ : Hid (q = (dedupA (l.take k)).length ∧ q ≤ 1000000) := ⟨hq, by rw [hq]; have := dedup_len (l.take k); rw [List.length_take] at this; omega⟩
    clear hq
    by_cases hkn : k < n
    · have hkl : k < l.length := by rw [← HN.out]; exact hkn
      obtain ⟨b0, o0, c', hvs, hcn, hb0, hcl⟩ := HV.out.at (fun h => by rw [h] at hkl; exact absurd hkl (Nat.not_lt_zero _))
      simp only [Value.slice.injEq] at hvs
      obtain ⟨rfl, hzz, rfl⟩ := hvs
      clear hzz
      have e10 := hcl k hkl
      have e9 : wr.cell? ⟨b0, o0 + k, none⟩ = some (.string l[k]) := by rw [HBr.out.cell (p := ⟨b0, o0 + k, none⟩) hb0]; exact e10
      obtain ⟨x, hx⟩ : ∃ x, x = l[k] := ⟨_, rfl⟩
      rw [← hx] at e9
      have hz : W1.heap.size ≤ wr.heap.size := HBr.out.size
      have hrow : wr.ownsRow W1.heap.size 9 1 (.slice a3 q c3) q ((dedupA (l.take k)).map Value.string) := by
        have := HO.out
        rw [← HQ.out.1] at this
        exact this
      have hqq := HQ.out.2
      by_cases hk0 : k = 0
      · subst hk0
        have HY : Hid (dedupA (l.take 0) ++ [x] = dedupA (l.take (0 + 1))) := by unfold Hid; rw [hx]; exact (dedup_one hkl).symm
        have HC1 : Hid (∀ w2 (j : Nat) (u : Value), [Value.string x][j]? = some u → (World.alloc w2 (.cells #[.string x] 9)).cell? ((⟨w2.heap.size, 0, none⟩ : Addr).add j) = some u) := fun w2 => World.news_of_block (Cd.heap_new _ _)
        have e0 : wr.cell? ⟨b0, o0, none⟩ = some (.string x) := e9
        have ez : ((0 : Nat) : Int) = 0 := rfl
        rw [ez]
        clear hcl e10 hx hkl hcn hb0 c0 e9 ez
        go_wp2_with fail
        go_region
        go_wp2_with (at_builtin; refine wpList_append_own_at _ rfl _ _ 24 rfl W1.heap.size 9 i0 (.string ⟨#[]⟩) 1 16 Tryz.underlying24 hi hz0 hz1 hz2' rfl (by decide) _ _ _ rfl (hrow.drew.alloc _) ⟨wr.drew.heap.size, 0, none⟩ 1 1 [.string x] rfl rfl (HC1.out _) (by intro u hu; simp at hu; subst hu; rfl) (by unfold maxLen; omega) (by omega) (by simp; omega) ?_)
        intro v' w3 hown' hgrow _ hat
        have HO3 : Hid (w3.ownsRow W1.heap.size 9 1 v' (dedupA (l.take (0 + 1))).length ((dedupA (l.take (0 + 1))).map Value.string)) := by
          unfold Hid; rw [← HY.out, List.length_append, ← HQ.out.1, List.map_append]; exact hown'
        have HB3 : Hid (Below W1.heap.size W1 w3) := ((HBr.out.drew.alloc hz _).grown hgrow (by simp; omega) (fun j hj => by
          obtain ⟨_, ⟨hv, _⟩ | ⟨g, cap, cur, hv, hg, _⟩⟩ := hrow
          · rw [hv] at hj; simp [Value.ownBlock] at hj
          · rw [hv] at hj; simp [Value.ownBlock] at hj; omega))
        obtain ⟨a5, c5, hv5⟩ := dm_slice hown'
        subst hv5
        clear hown' hgrow hat hrow
        go_wp2
        go_roundw
        case rel => exact ⟨0 + 1, by omega, by go_num, HO3, HB3⟩
        case measure => simp [intOf]; omega
      · obtain ⟨j, hj⟩ : ∃ j, k = j + 1 := ⟨k - 1, by omega⟩
        have hjp : j < l.length := by omega
        obtain ⟨z, hzv⟩ : ∃ z, z = l[j] := ⟨_, rfl⟩
        have e8 : wr.cell? ⟨b0, o0 + j, none⟩ = some (.string z) := by rw [HBr.out.cell (p := ⟨b0, o0 + j, none⟩) hb0, hzv]; exact hcl j hjp
        have HD : Hid (dedupA (l.take (k + 1)) = if x = z then dedupA (l.take k) else dedupA (l.take k) ++ [x]) := by
          unfold Hid; subst hj; rw [hx, hzv]; exact dedup_at hkl
        have k0 : ((k : Int) == 0) = false := by simp; omega
        have k1 : (k : Int) - 1 = (j : Int) := by omega
        have k3 : (0 : Int) ≤ (j : Int) := by omega
        have k4 : (j : Int) < (n : Int) := by omega
        have k5 : j ≤ 1000000 := by omega
        clear hcl e10 hx hkl hcn hb0 c0 hj hjp hzv
        by_cases hxz : x = z
        · have HY : Hid (dedupA (l.take k) = dedupA (l.take (k + 1))) := by unfold Hid; rw [HD.out, if_pos hxz]
          subst hxz
          clear HD
          go_wp2_with fail
          have en : (x.toList == x.toList) = true := by rw [lst_eq]; simp
          go_region
          go_wp2
          go_roundw
          case rel => exact ⟨k + 1, by omega, by go_num, by unfold Hid; rw [← HY.out]; rw [← HQ.out.1]; exact hrow.drew, HBr.out.drew⟩
          case measure => simp [intOf]; omega
        · have HY : Hid (dedupA (l.take k) ++ [x] = dedupA (l.take (k + 1))) := by unfold Hid; rw [HD.out, if_neg hxz]
          have en : (x.toList == z.toList) = false := lst_ne hxz
          have HC1 : Hid (∀ w2 (j : Nat) (u : Value), [Value.string x][j]? = some u → (World.alloc w2 (.cells #[.string x] 9)).cell? ((⟨w2.heap.size, 0, none⟩ : Addr).add j) = some u) := fun w2 => World.news_of_block (Cd.heap_new _ _)
          clear HD
          go_wp2_with fail
          go_region
          go_wp2_with (at_builtin; refine wpList_append_own_at _ rfl _ _ 24 rfl W1.heap.size 9 i0 (.string ⟨#[]⟩) 1 16 Tryz.underlying24 hi hz0 hz1 hz2' rfl (by decide) _ _ _ rfl (hrow.drew.alloc _) ⟨wr.drew.heap.size, 0, none⟩ 1 1 [.string x] rfl rfl (HC1.out _) (by intro u hu; simp at hu; subst hu; rfl) (by unfold maxLen; omega) (by omega) (by simp; omega) ?_)
          intro v' w3 hown' hgrow _ hat
          have HO3 : Hid (w3.ownsRow W1.heap.size 9 1 v' (dedupA (l.take (k + 1))).length ((dedupA (l.take (k + 1))).map Value.string)) := by
            unfold Hid; rw [← HY.out, List.length_append, ← HQ.out.1, List.map_append]; exact hown'
          have HB3 : Hid (Below W1.heap.size W1 w3) := ((HBr.out.drew.alloc hz _).grown hgrow (by simp; omega) (fun j hj => by
            obtain ⟨_, ⟨hv, _⟩ | ⟨g, cap, cur, hv, hg, _⟩⟩ := hrow
            · rw [hv] at hj; simp [Value.ownBlock] at hj
            · rw [hv] at hj; simp [Value.ownBlock] at hj; omega))
          obtain ⟨a5, c5, hv5⟩ := dm_slice hown'
          subst hv5
          clear hown' hgrow hat hrow
          go_wp2
          go_roundw
          case rel => exact ⟨k + 1, by omega, by go_num, HO3, HB3⟩
          case measure => simp [intOf]; omega
    · obtain rfl : k = n := by omega
      have HE : Hid (dedupA (l.take k) = dedupA l) := by unfold Hid; rw [HN.out, List.take_length]
      go_wp2
      go_ret
      exact ⟨_, rfl, by rw [HR.out, ← HE.out]; exact ws_owns HO.out (Nat.le_refl _), HB.out.trans (HBr.out.mono HB.out.size)⟩
end Go.Proofs.YtpcpcfnmcfjomaaGreatDoor.DQ
namespace Go.Proofs.YtpcpcfnmcfjomaaGreatDoor.DQ
open Go.RowKit Go.Shelf
open WD (joined)
def ListOk (m : Dm) (l : List ByteArray) : Prop :=
  m.kind = ⟨#[79]⟩ ∨ m.kind = ⟨#[79, 114]⟩ ∨ m.kind = ⟨#[114]⟩ ∨ (m.kind = ⟨#[81]⟩ ∧ (joined l).size ≤ 2000000) ∨ (m.kind = ⟨#[91]⟩ ∧ pickOk m l) ∨ m.kind = ⟨#[117]⟩ ∨
    (wordK m ∧ m.a.size ≤ 1000000 ∧ m.b.size ≤ 1000000 ∧ ∀ x ∈ l, x.size ≤ 1000000)
theorem list_any (m : Dm) (v : Value) (l : List ByteArray) (w : World) (hl : l.length ≤ 1000000) (hm : ListOk m l) (hv : Ws w.heap.size w v l) :
    Calls Tryz.prog 18 #[.agg m.cells, v] w (ListPost w (listA m l)) := by
  obtain ⟨kd, a, b, f, t, y⟩ := m
  unfold ListOk at hm
  rcases hm with h | h | h | ⟨h, h1⟩ | ⟨h, h1⟩ | h | ⟨h, h1, h2, h3⟩
  · obtain rfl : kd = ⟨#[79]⟩ := h
    exact list_O a b f t y v l w hl hv
  · obtain rfl : kd = ⟨#[79, 114]⟩ := h
    exact list_Or a b f t y v l w hl hv
  · obtain rfl : kd = ⟨#[114]⟩ := h
    exact list_r a b f t y v l w hl hv
  · obtain rfl : kd = ⟨#[81]⟩ := h
    exact list_Q a b f t y v l w hl h1 hv
  · obtain rfl : kd = ⟨#[91]⟩ := h
    exact list_pick a b f t y v l w hl h1 hv
  · obtain rfl : kd = ⟨#[117]⟩ := h
    exact list_u a b f t y v l w hl hv
  · exact list_words kd a b f t y v l w hl h h1 h2 h3 hv
end Go.Proofs.YtpcpcfnmcfjomaaGreatDoor.DQ
namespace Go.Proofs.YtpcpcfnmcfjomaaGreatDoor.DQ
open Go.RowKit Go.Shelf
open WD (joined)
def muchB (l : List ByteArray) : Bool := decide (4096 < l.length ∨ 65536 < sizeL l)
def applyL : List Dm → List ByteArray → List ByteArray × Int
  | [], l => (l, 0)
  | m :: ms, l => if muchB (listA m l) = true then ([], 5) else applyL ms (listA m l)
def applyA (ms : List Dm) (l : List ByteArray) : List ByteArray × Int := if muchB l = true then ([], 5) else applyL ms l
def Ms (B : Nat) (W : World) (v : Value) (ms : List Dm) : Prop := ∃ a c, v = .slice a ms.length c ∧ ∀ i (h : i < ms.length), ∃ b o, a = some ⟨b, o, none⟩ ∧ b < B ∧ ∀ (j : Nat) (u : Value), ms[i].cells[j]? = some u → W.cell? ⟨b, o + i * 8 + j, none⟩ = some u
def ApPost (r : List ByteArray × Int) (w : World) (e : Ending) (w' : World) : Prop := ∃ v, e = .returned (.tuple #[v, .int .i64 r.2]) ∧ Ws w'.heap.size w' v r.1 ∧ Below w.heap.size w w'
def Bears (ms : List Dm) : Prop := ∀ m ∈ ms, ∀ l, muchB l = false → ListOk m l ∧ (listA m l).length ≤ 1000000 ∧ ∀ x ∈ listA m l, x.size ≤ 1000000
theorem much_ws (l : List ByteArray) (v : Value) (W : World) (h : Ws W.heap.size W v l) (hl : l.length ≤ 1000000) (hs : ∀ y ∈ l, y.size ≤ 1000000) :
    Calls Tryz.prog 17 #[v] W fun e w' => e = .returned (.bool (muchB l)) ∧ W = w' := by
  obtain ⟨a, c, rfl, h1, h3⟩ := h
  exact much_any a _ c l _ W (Ws.words ⟨a, c, rfl, h1, h3⟩) hl hs
set_option maxRecDepth 20000 in
set_option maxHeartbeats 3200000 in
theorem apply_any (ms : List Dm) (vm v : Value) (l : List ByteArray) (w : World) (hms : ms.length ≤ 1000000) (hm : Ms w.heap.size w vm ms) (hb : Bears ms) (hl : l.length ≤ 1000000) (hs : ∀ y ∈ l, y.size ≤ 1000000) (hv : Ws w.heap.size w v l) :
    Calls Tryz.prog 11 #[vm, v] w (ApPost (applyA ms l) w) := by
  have HM : Hid (Calls Tryz.prog 17 #[v] w fun e w' => e = .returned (.bool (muchB l)) ∧ w = w') := much_ws l v w hv hl hs
  have HB : Hid (Bears ms) := hb
  obtain ⟨am, cm, rfl, hmc⟩ := hm
  obtain ⟨n, hn⟩ : ∃ n, n = ms.length := ⟨_, rfl⟩
  rw [← hn] at hms
  have HN : Hid (n = ms.length ∧ ∀ i (h : i < ms.length), ∃ b o, am = some ⟨b, o, none⟩ ∧ b < w.heap.size ∧ ∀ (j : Nat) (u : Value), ms[i].cells[j]? = some u → w.cell? ⟨b, o + i * 8 + j, none⟩ = some u) := ⟨hn, hmc⟩
  rw [← hn]
  have HV : Hid (Ws w.heap.size w v l) := hv
  obtain ⟨r, hr⟩ : ∃ r, r = applyA ms l := ⟨_, rfl⟩
  rw [← hr]
  obtain ⟨mu, hmu⟩ : ∃ mu, mu = muchB l := ⟨_, rfl⟩
  rw [← hmu] at HM
  have HR : Hid (r = if mu = true then ([], 5) else applyL ms l) := by unfold Hid; rw [hr, hmu]; rfl
  have HU : Hid (mu = muchB l) := hmu
  clear hn hmc hb hl hs hv hr hmu
  go_enter Tryz.func11, Tryz.ntmps11
  go_wp2_with fail
  refine HM.out.mono ?_
  rintro e w2 ⟨rfl, rfl⟩
  clear HM
  cases mu
  · have HR2 : Hid (r = applyL ms l) := by unfold Hid; rw [HR.out]; rfl
    have HU2 : Hid (muchB l = false) := HU.out.symm
    clear HR HU
    go_wp2_with fail
    go_loopw [1, 6] (fun v1 v6 wr => ∃ (k : Nat) (x : List ByteArray), k ≤ n ∧ v6 = .int .i64 (k : Int) ∧ Hid (Ws wr.heap.size wr v1 x ∧ r = applyL (ms.drop k) x ∧ muchB x = false) ∧ Hid (Below w.heap.size w wr)) (fun _ v6 _ => n - (intOf v6).toNat)
    case atStart => exact ⟨0, l, Nat.zero_le _, rfl, ⟨HV.out, HR2.out, HU2.out⟩, Below.refl _ _⟩
    case round =>
      obtain ⟨k, x, hk, rfl, HX, HBr⟩ := hrel
      by_cases hkn : k < n
      · have hkl : k < ms.length := by rw [← HN.out.1]; exact hkn
        obtain ⟨b0, o0, rfl, hb0, hcl⟩ := HN.out.2 k hkl
        obtain ⟨m, hm⟩ : ∃ m, m = ms[k] := ⟨_, rfl⟩
        have HW := HB.out m (by rw [hm]; exact List.getElem_mem hkl) x HX.out.2.2
        have HL : Hid (∀ W, Ws W.heap.size W u1 x → Calls Tryz.prog 18 #[.agg m.cells, u1] W (ListPost W (listA m x))) := fun W h => by
          refine list_any m u1 x W ?_ HW.1 h
          have := HX.out.2.2
          unfold muchB at this
          have := of_decide_eq_false this
          omega
        have HM : Hid (∀ W v, Ws W.heap.size W v (listA m x) → Calls Tryz.prog 17 #[v] W fun e w' => e = .returned (.bool (muchB (listA m x))) ∧ W = w') := fun W v h => much_ws _ v W h HW.2.1 HW.2.2
        have HR3 : Hid (r = if muchB (listA m x) = true then ([], 5) else applyL (ms.drop (k + 1)) (listA m x)) := by
          unfold Hid
          rw [HX.out.2.1, List.drop_eq_getElem_cons hkl, ← hm]; rfl
        rw [← hm] at hcl
        have hcl2 : ∀ (j : Nat) (u : Value), m.cells[j]? = some u → wr.cell? ⟨b0, o0 + k * 8 + j, none⟩ = some u := fun j u hu => by
          rw [HBr.out.cell (p := ⟨b0, o0 + k * 8 + j, none⟩) hb0]; exact hcl j u hu
        obtain ⟨kd, a, b, f, t, y⟩ := m
        have d0 := hcl2 0 _ rfl
        have d1 := hcl2 1 _ rfl
        have d2 := hcl2 2 _ rfl
        have d3 := hcl2 3 _ rfl
        have d4 := hcl2 4 _ rfl
        have d5 := hcl2 5 _ rfl
        have d6 := hcl2 6 _ rfl
        have d7 := hcl2 7 _ rfl
        have HX1 : Hid (Ws wr.heap.size wr u1 x) := HX.out.1
        rw [Nat.add_zero] at d0
        obtain ⟨L, hL⟩ : ∃ L, L = listA ⟨kd, a, b, f, t, y⟩ x := ⟨_, rfl⟩
        rw [← hL] at HL HM HR3
        clear hcl hcl2 HW hkl hm hL hb0
        go_wp2_with fail
        refine (HL.out _ HX1.out).mono ?_
        rintro e w2 ⟨v2, rfl, hw2, hb2⟩
        have H2 : Hid (Ws w2.heap.size w2 v2 L ∧ Below w.heap.size w w2) := ⟨hw2, bt3 HBr.out hb2⟩
        clear hw2 hb2 d0 d1 d2 d3 d4 d5 d6 d7
        go_wp2_with fail
        refine (HM.out _ _ H2.out.1).mono ?_
        rintro e w3 ⟨rfl, rfl⟩
        obtain ⟨mu, hmu⟩ : ∃ mu, mu = muchB L := ⟨_, rfl⟩
        rw [← hmu] at HR3 ⊢
        have HU : Hid (mu = muchB L) := hmu
        clear hmu HM HL HX1 HX
        cases mu
        · have HR4 : Hid (r = applyL (ms.drop (k + 1)) L ∧ muchB L = false) := ⟨by rw [HR3.out]; rfl, HU.out.symm⟩
          clear HR3 HU
          go_wp2
          go_roundw
          case rel => exact ⟨k + 1, L, by omega, by go_num, ⟨H2.out.1, HR4.out.1, HR4.out.2⟩, H2.out.2⟩
          case measure => simp [intOf]; omega
        · have HR4 : Hid (r = ([], 5)) := by unfold Hid; rw [HR3.out]; rfl
          clear HR3 HU
          go_wp2
          go_ret2
          exact ⟨.slice none 0 0, by rw [HR4.out]; rfl, by rw [HR4.out]; exact ws_nil _ _, H2.out.2⟩
      · have HR4 : Hid (r = (x, 0)) := by
          unfold Hid
          rw [HX.out.2.1, List.drop_eq_nil_of_le (by rw [← HN.out.1]; omega)]; rfl
        have HX1 : Hid (Ws wr.heap.size wr u1 x) := HX.out.1
        clear HX
        go_wp2
        go_ret2
        exact ⟨u1, by rw [HR4.out]; rfl, by rw [HR4.out]; exact HX1.out, HBr.out⟩
  · have HR2 : Hid (r = ([], 5)) := by unfold Hid; rw [HR.out]; rfl
    clear HR HU
    go_wp2
    go_ret2
    exact ⟨.slice none 0 0, by rw [HR2.out]; rfl, by rw [HR2.out]; exact ws_nil _ _, Below.refl _ _⟩
end Go.Proofs.YtpcpcfnmcfjomaaGreatDoor.DQ
