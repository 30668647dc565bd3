/-
  VarsMany at every scope and number.
-/
import Derived.Test.YtjbmmeneejcpbaaVRefused
namespace Go.Proofs.Ytjbmmeneejcpbaa
open Go.RowKit Go.Shelf Go.Maps

/-! The names. -/
def nmL (i : Nat) : List UInt8 := [UInt8.ofNat (97 + i % 26), UInt8.ofNat (97 + i / 26 % 26), UInt8.ofNat (97 + i / 676)]
def nm (i : Nat) : ByteArray := ba (nmL i)
theorem nm_size (i : Nat) : (nm i).size = 3 := by unfold nm; rw [ba_size]; rfl
theorem nm_inj {i j : Nat} (hi : i < 1060) (hj : j < 1060) (h : nm i = nm j) : i = j := by
  have h1 : nmL i = nmL j := by
    have := congrArg bl h
    unfold nm at this
    rw [bl_ba, bl_ba] at this; exact this
  unfold nmL at h1
  simp only [List.cons.injEq, and_true] at h1
  obtain ⟨a1, a2, a3⟩ := h1
  have b1 := congrArg UInt8.toNat a1
  have b2 := congrArg UInt8.toNat a2
  have b3 := congrArg UInt8.toNat a3
  simp only [UInt8.toNat_ofNat'] at b1 b2 b3
  omega
theorem letter_ok (k : Nat) (h : k < 26) : bad (UInt8.ofNat (97 + k)) = false := by
  have : ∀ k : Fin 26, bad (UInt8.ofNat (97 + k.val)) = false := by decide
  exact this ⟨k, h⟩
theorem nm_right {i : Nat} (hi : i < 1060) : rightB (nm i) = true := by
  unfold rightB
  rw [nm_size]
  have : (bl (nm i)).any bad = false := by
    unfold nm
    rw [bl_ba]
    unfold nmL
    simp only [List.any_cons, List.any_nil, Bool.or_false]
    rw [letter_ok _ (by omega), letter_ok _ (by omega), letter_ok _ (by omega)]; rfl
  rw [this]; rfl
def xs : ByteArray := ⟨#[120]⟩
def rows (k : Nat) : Sc := (List.range k).map fun j => (nm j, xs)
def stM (n : Int) (i : Nat) : VS := VS.none_.upd n (rows (min i 1024))
theorem look_append (L : Sc) (x : ByteArray × ByteArray) (q : ByteArray) : Sc.look (L ++ [x]) q = match L.look q with | some v => some v | none => if x.1 = q then some x.2 else none := by
  induction L with
  | nil => rw [List.nil_append, Sc.look_cons]; rfl
  | cons y L ih =>
    rw [List.cons_append, Sc.look_cons, Sc.look_cons, ih]
    by_cases h : y.1 = q
    · rw [if_pos h, if_pos h]
    · rw [if_neg h, if_neg h]
theorem set_none {L : Sc} {q v : ByteArray} (h : L.look q = none) : L.set q v = L ++ [(q, v)] := by
  induction L with
  | nil => rfl
  | cons y L ih =>
    rw [Sc.look_cons] at h
    unfold Sc.set
    by_cases e : y.1 = q
    · rw [if_pos e] at h; cases h
    · rw [if_neg e] at h ⊢; rw [ih h]; rfl
theorem rows_look {i k : Nat} (hk : k ≤ i) (hi : i < 1060) : (rows k).look (nm i) = none := by
  cases hl : (rows k).look (nm i) with
  | none => rfl
  | some v =>
    have := Sc.look_mem hl
    unfold rows at this
    obtain ⟨j, hj, e⟩ := List.mem_map.1 this
    have hj' : j < k := by simpa using hj
    have := nm_inj (by omega) hi (congrArg Prod.fst e)
    omega
theorem rows_len (k : Nat) : (rows k).length = k := by simp [rows]
theorem rows_succ (k : Nat) : rows (k + 1) = rows k ++ [(nm k, xs)] := by unfold rows; rw [List.range_succ, List.map_append]; rfl
theorem st_put {n : Int} (hn : isSc n = true) {i : Nat} (hi : i < 1060) : (stM n i).put n (nm i) xs = (stM n (i + 1), if i < 1024 then 0 else 5) := by
  have hk : VS.ok n (nm i) = true := by unfold VS.ok; rw [hn, nm_right hi]; rfl
  have hs : stM n i n = rows (min i 1024) := VS.upd_same _ _ _
  have hl : (stM n i n).look (nm i) = none := by rw [hs]; exact rows_look (by omega) hi
  unfold VS.put
  rw [hk, if_pos rfl]
  unfold VS.give
  by_cases h : i < 1024
  · rw [if_neg, if_pos h]
    · rw [set_none hl, hs]
      have e1 : min i 1024 = i := by omega
      have e2 : min (i + 1) 1024 = i + 1 := by omega
      unfold stM
      rw [e1, e2, rows_succ]
      congr 1
      funext k
      by_cases e : k = n
      · subst e; rw [VS.upd_same, VS.upd_same]
      · rw [VS.upd_other _ _ e, VS.upd_other _ _ e, VS.upd_other _ _ e]
    · rintro (e | e)
      · exact absurd e (by decide)
      · rw [hs, rows_len] at e; omega
  · rw [if_pos, if_neg h]
    · unfold stM
      rw [show min i 1024 = 1024 by omega, show min (i + 1) 1024 = 1024 by omega]
    · right
      rw [hl, hs, rows_len]; exact ⟨rfl, by omega⟩

theorem st_len {n : Int} {k : Nat} : (stM n k n).length = min k 1024 := by
  unfold stM; rw [VS.upd_same, rows_len]
theorem set_len {L : Sc} {q v : ByteArray} (h : (L.look q).isSome = true) : (L.set q v).length = L.length := by rw [Sc.length_set, if_pos h]
theorem st_again {n : Int} (hn : isSc n = true) {k : Nat} (hk : 1000 ≤ k) {v : ByteArray} (hv : v.size ≤ 65536 := by decide) : ((stM n k).put n (nm 0) v).2 = 0 ∧ (((stM n k).put n (nm 0) v).1 n).length = min k 1024 := by
  have hok : VS.ok n (nm 0) = true := by unfold VS.ok; rw [hn, nm_right (by omega)]; rfl
  have hs : stM n k n = rows (min k 1024) := VS.upd_same _ _ _
  have hl : ((stM n k n).look (nm 0)).isSome = true := by
    rw [hs, look_isSome]
    unfold rows
    rw [List.map_map]
    exact List.mem_map.2 ⟨0, by simp; omega, rfl⟩
  have hp : (stM n k).put n (nm 0) v = ((stM n k).upd n ((stM n k n).set (nm 0) v), 0) := by
    unfold VS.put
    rw [hok, if_pos rfl]
    unfold VS.give
    rw [if_neg]
    rintro (e | e)
    · omega
    · rw [hl] at e; cases e.1
  rw [hp]
  refine ⟨rfl, ?_⟩
  simp only [VS.upd_same]
  rw [set_len hl, hs, rows_len]
theorem nm_conv {j : Nat} (hj : j < 1060) (wr : World) : (convert 49 9 (.slice (some ⟨wr.heap.size, 0, none⟩) 3 3)).run Try.prog (wr.alloc (.cells #[.int .u8 (97 + (j : Int) % 26), .int .u8 (97 + (j : Int) / 26 % 26), .int .u8 (97 + (j : Int) / 676)] 5)) = .ok (.string (nm j)) (wr.alloc (.cells #[.int .u8 (97 + (j : Int) % 26), .int .u8 (97 + (j : Int) / 26 % 26), .int .u8 (97 + (j : Int) / 676)] 5)) := by
  have hblk := heap_alloc_new wr (.cells #[.int .u8 (97 + (j : Int) % 26), .int .u8 (97 + (j : Int) / 26 % 26), .int .u8 (97 + (j : Int) / 676)] 5)
  refine run_convert_bytes_back _ 49 9 5 ⟨wr.heap.size, 0, none⟩ 3 (nmL j) Try.underlying49 Try.underlying5 Try.underlying9 fun i hi => ?_
  have hi3 : i < 3 := hi
  have key : ∀ k : Nat, k < 256 → ((UInt8.ofNat k).toNat : Int) = (k : Int) := fun k hk => by rw [UInt8.toNat_ofNat']; omega
  rw [add_none]
  have h3 : i = 0 ∨ i = 1 ∨ i = 2 := by omega
  rcases h3 with rfl | rfl | rfl
  · rw [cell_in hblk 0 rfl]
    show _ = some (Value.int .u8 ((UInt8.ofNat (97 + j % 26)).toNat : Int))
    rw [key _ (by omega)]; congr 2
  · rw [cell_in hblk 1 rfl]
    show _ = some (Value.int .u8 ((UInt8.ofNat (97 + j / 26 % 26)).toNat : Int))
    rw [key _ (by omega)]; congr 2
  · rw [cell_in hblk 2 rfl]
    show _ = some (Value.int .u8 ((UInt8.ofNat (97 + j / 676)).toNat : Int))
    rw [key _ (by omega)]; congr 2

set_option maxRecDepth 20000 in
set_option maxHeartbeats 4000000 in
theorem many_law (sc mn : Int) (w : World) (h0 : 0 ≤ sc ∧ sc ≤ 255) (h1 : 0 ≤ mn ∧ mn ≤ 65535) :
    Calls Try.prog 7 #[.int .u8 sc, .int .u16 mn] w fun e w' => e = .returned (.bool true) ∧ Below w.heap.size w w' := by
  have HA : Hid (∀ W, Calls Try.prog 12 #[] W fun e w' => e = .returned (.bool true) ∧ Below W.heap.size W w') := fun W => alive_any W
  have HN : Hid (∀ W : World, W = w → Calls Try.prog 9 #[] W fun e w' => e = .returned (ptr w.heap.size) ∧ VSet w.heap.size w.heap.size (newM w.heap.size) VS.none_ w' ∧ Below w.heap.size w w') := by
    rintro W rfl; exact new_any W
  go_enter Try.func7, Try.ntmps7
  go_wp2_with fail
  refine (HN.out _ rfl).mono ?_
  rintro e w1 ⟨rfl, hv1, hb1⟩
  go_wp2_with fail
  refine (HA.out _).mono ?_
  rintro e w2 ⟨rfl, hb2⟩
  have hv2 := hv1.below hb2
  have hb2' : Below w.heap.size w w2 := hb1.trans (hb2.mono hb1.size)
  clear hv1 hb1 hb2 HN
  have h20 : 0 ≤ sc := h0.1
  have h21 : 0 ≤ mn := h1.1
  go_wp2
  obtain ⟨n, hnn⟩ : ∃ n : Int, n = sc % 4 + 1 := ⟨_, rfl⟩
  obtain ⟨K, hK⟩ : ∃ K : Nat, (K : Int) = 1000 + mn % 60 := ⟨(1000 + mn % 60).toNat, by omega⟩
  rw [← hnn, ← hK]
  have hsc : isSc n = true := by unfold isSc; simp; omega
  have hK0 : 1000 ≤ K := by omega
  have hK1 : K ≤ 1059 := by omega
  have HSt : Hid (stM n 0 = VS.none_) := by
    unfold Hid stM
    funext k
    by_cases e : k = n
    · subst e; rw [VS.upd_same]; rfl
    · rw [VS.upd_other _ _ e]
  obtain ⟨M, hM⟩ : ∃ M, M = newM w.heap.size := ⟨_, rfl⟩
  rw [← hM] at hv2
  have HP : Hid (∀ j, j < 1060 → ∀ W, VSet w.heap.size w.heap.size M (stM n j) W → Calls Try.prog 24 #[ptr w.heap.size, .int .i64 n, .string (nm j), .string ⟨#[120]⟩] W fun e w' => e = .returned (.int .i64 (if j < 1024 then 0 else 5)) ∧ VSet w.heap.size w.heap.size M (stM n (j + 1)) w' ∧ Turn M W w') := fun j hj W h => by
    have := put_any n (nm j) xs W h (by decide)
    rw [st_put hsc hj] at this; exact this
  have HL : Hid (∀ W, VSet w.heap.size w.heap.size M (stM n K) W → Calls Try.prog 21 #[ptr w.heap.size, .int .i64 n] W fun e w' => ∃ a c, e = .returned (.slice a (min K 1024) c) ∧ Below W.heap.size W w') := fun W h => by
    have := names_len_any n W h
    rw [st_len] at this; exact this
  have HP2 : Hid (∀ W, VSet w.heap.size w.heap.size M (stM n K) W → Calls Try.prog 24 #[ptr w.heap.size, .int .i64 n, .string ⟨#[97, 97, 97]⟩, .string ⟨#[121]⟩] W fun e w' => e = .returned (.int .i64 0) ∧ VSet w.heap.size w.heap.size M ((stM n K).put n (nm 0) ⟨#[121]⟩).1 w' ∧ Turn M W w') := fun W h => by
    have := put_any n (nm 0) ⟨#[121]⟩ W h (by decide)
    rw [(st_again hsc hK0).1] at this; exact this
  have HCl : Hid (∀ W, VSet w.heap.size w.heap.size M ((stM n K).put n (nm 0) ⟨#[121]⟩).1 W → Calls Try.prog 26 #[ptr w.heap.size, .int .i64 n] W fun e w' => e = .returned (.int .i64 (min K 1024 : Nat)) ∧ ∃ s, VSet w.heap.size w.heap.size M s w' ∧ Turn M W w') := fun W h => by
    refine (clear_any n W h).mono ?_
    rintro e w' ⟨rfl, hv, ht⟩
    rw [(st_again hsc hK0).2]
    exact ⟨rfl, _, hv, ht⟩
  have HT : Hid (VSet w.heap.size w.heap.size M (stM n 0) w2) := by rw [HSt.out]; exact hv2
  have hbn : ∀ (x y : Bool) (W : World), (Sem.run Try.prog (binOp .neq 4 (.bool x) (.bool y)) W) = .ok (.bool (x != y)) W := fun x y W => rfl
  clear hnn hK hM hsc hv2 HA HSt h0 h1 h20 h21
  go_loopw [27] (fun vi wr => ∃ j : Nat, j ≤ K ∧ vi = .int .i64 j ∧ Hid (VSet w.heap.size w.heap.size M (stM n j) wr) ∧ Below w.heap.size w wr)
    (fun vi _ => K - (intOf vi).toNat)
  case atStart => exact ⟨0, Nat.zero_le _, rfl, HT, hb2'⟩
  case round =>
    obtain ⟨j, hj, rfl, HTr, hb⟩ := hrel
    clear HT hb2'
    by_cases hlt : j < K
    · have hlti : (j : Int) < (K : Int) := by omega
      have hj60 : j < 1060 := by omega
      have hcv : (convert 49 9 (.slice (some ⟨wr.heap.size, 0, none⟩) 3 3)).run Try.prog (wr.alloc (.cells #[.int .u8 (97 + (j : Int) % 26), .int .u8 (97 + (j : Int) / 26 % 26), .int .u8 (97 + (j : Int) / 676)] 5)) = .ok (.string (nm j)) (wr.alloc (.cells #[.int .u8 (97 + (j : Int) % 26), .int .u8 (97 + (j : Int) / 26 % 26), .int .u8 (97 + (j : Int) / 676)] 5)) := nm_conv hj60 wr
      have HPj : Hid (∀ W, VSet w.heap.size w.heap.size M (stM n j) W → Calls Try.prog 24 #[ptr w.heap.size, .int .i64 n, .string (nm j), .string ⟨#[120]⟩] W fun e w' => e = .returned (.int .i64 (if j < 1024 then 0 else 5)) ∧ VSet w.heap.size w.heap.size M (stM n (j + 1)) w' ∧ Turn M W w') := HP.out j hj60
      have HT2 : Hid (∀ o, VSet w.heap.size w.heap.size M (stM n j) (wr.alloc o) ∧ Below w.heap.size w (wr.alloc o)) := fun o => ⟨HTr.out.below ((Below.refl _ _).alloc (Nat.le_refl _) o), hb.alloc hb.size o⟩
      clear HTr hb HP HP2 HCl HL
      by_cases h4 : j < 1024
      · have h4i : (j : Int) < 1024 := by omega
        rw [if_pos h4] at HPj
        go_wp2_with fail
        refine (HPj.out _ (HT2.out _).1).mono ?_
        rintro e w4 ⟨rfl, hv4, ht4⟩
        have HE : Hid (VSet w.heap.size w.heap.size M (stM n (j + 1)) w4 ∧ Below w.heap.size w w4) := ⟨hv4, (HT2.out _).2.trans ((HT2.out _).1.low ht4)⟩
        clear hv4 ht4 HT2 HPj hcv
        go_wp2
        go_roundw
        case rel => exact ⟨j + 1, by omega, by go_num, HE.out.1, HE.out.2⟩
        case measure => simp [intOf]; omega
      · have h4i : ¬ (j : Int) < 1024 := by omega
        have h4j : (1024 : Int) ≤ (j : Int) := by omega
        rw [if_neg h4] at HPj
        go_wp2_with fail
        refine (HPj.out _ (HT2.out _).1).mono ?_
        rintro e w4 ⟨rfl, hv4, ht4⟩
        have HE : Hid (VSet w.heap.size w.heap.size M (stM n (j + 1)) w4 ∧ Below w.heap.size w w4) := ⟨hv4, (HT2.out _).2.trans ((HT2.out _).1.low ht4)⟩
        clear hv4 ht4 HT2 HPj hcv
        go_wp2
        go_roundw
        case rel => exact ⟨j + 1, by omega, by go_num, HE.out.1, HE.out.2⟩
        case measure => simp [intOf]; omega
    · obtain rfl : j = K := by omega
      have hlti : ¬ (j : Int) < (j : Int) := by omega
      have hv3 := HTr.out
      have HMn : Hid ((min (j : Int) 1024) = ((min j 1024 : Nat) : Int)) := by unfold Hid; omega
      obtain ⟨kk, hkk⟩ : ∃ kk, kk = min j 1024 := ⟨_, rfl⟩
      rw [← hkk] at HL HCl HMn
      have hmn := HMn.out
      clear HTr HP hkk
      go_wp2_with fail
      refine (HL.out _ hv3).mono ?_
      rintro e w4 ⟨a4, c4, rfl, hb4⟩
      have hv4 := hv3.below hb4
      have hb4' := hb.trans (hb4.mono hb.size)
      clear hv3 hb hb4
      go_wp2_with fail
      refine (HP2.out _ hv4).mono ?_
      rintro e w5 ⟨rfl, hv5, ht5⟩
      have hb5 := hb4'.trans (hv4.low ht5)
      clear hv4 hb4' ht5
      go_wp2_with fail
      refine (HCl.out _ hv5).mono ?_
      rintro e w6 ⟨rfl, s6, hv6, ht6⟩
      have hb6 := hb5.trans (hv5.low ht6)
      clear hv5 hv6 hb5 ht6
      go_wp2
      go_ret
      exact ⟨ret_bool (by simp), hb6⟩
end Go.Proofs.Ytjbmmeneejcpbaa
