/-
  MA3 MA4
-/
import Derived.Test.YtedepknbaakkhabGreatDoorK36
import Derived.Test.YtedepknbaakkhabGreatDoorK37
import Derived.Test.YtedepknbaakkhabGreatDoorK10
set_option maxRecDepth 20000
namespace Go.Proofs.YtedepknbaakkhabGreatDoor
open Go.RowKit Go.Shelf Go.Sort
def placeI (n : Int) (k : Nat) : Int :=
  if (if n < 0 then n + (k + 1) else n) < 1 ∨ (k : Int) < (if n < 0 then n + (k + 1) else n) then -1 else (if n < 0 then n + (k + 1) else n) - 1
theorem place_two (n : Int) (k : Nat) : placeI n k = -1 ∨ ∃ i : Nat, i < k ∧ placeI n k = i := by
  unfold placeI
  obtain ⟨z, hz⟩ : ∃ z, z = if n < 0 then n + ((k : Int) + 1) else n := ⟨_, rfl⟩
  rw [← hz]
  by_cases h : z < 1 ∨ (k : Int) < z
  · exact .inl (if_pos h)
  · refine .inr ⟨(z - 1).toNat, ?_, ?_⟩
    · omega
    · rw [if_neg h]; omega
theorem ret_i {a b : Int} (h : a = b) : Ending.returned (.int .i64 a) = .returned (.int .i64 b) := by rw [h]
set_option maxHeartbeats 800000 in
theorem place_any (n : Int) (k : Nat) (w : World) (h1 : -1000000000000000000 < n) (h2 : n < 1000000000000000000) (hk : k ≤ 1000000) : Calls Tryz.prog 76 #[.int .i64 n, .int .i64 k] w fun e w' => e = .returned (.int .i64 (placeI n k)) ∧ w = w' := by
  obtain ⟨R, hR⟩ : ∃ R, R = placeI n k := ⟨_, rfl⟩
  rw [← hR]
  unfold placeI at hR
  by_cases hn : n < 0
  · rw [if_pos hn] at hR
    obtain ⟨z, hz⟩ : ∃ z, z = n + ((k : Int) + 1) := ⟨_, rfl⟩
    rw [← hz] at hR
    by_cases hc : z < 1
    · rw [if_pos (.inl hc)] at hR
      have HR : Hid (R = -1) := hR
      have hz1 : n + ((k : Int) + 1) < 1 := by omega
      clear hR hz hc
      go_enter Tryz.func76, Tryz.ntmps76
      go_wp2
      go_ret
      exact ⟨ret_i (by rw [HR.out]), rfl⟩
    · by_cases hc2 : (k : Int) < z
      · omega
      · rw [if_neg (fun h => h.elim hc hc2)] at hR
        have HR : Hid (R = n + ((k : Int) + 1) - 1) := by unfold Hid; rw [hR, hz]
        have hz1 : ¬ n + ((k : Int) + 1) < 1 := by omega
        have hz2 : ¬ (k : Int) < n + ((k : Int) + 1) := by omega
        clear hR hz hc hc2
        go_enter Tryz.func76, Tryz.ntmps76
        go_wp2
        go_ret
        exact ⟨ret_i (by rw [HR.out]), rfl⟩
  · rw [if_neg hn] at hR
    by_cases hc : n < 1
    · rw [if_pos (.inl hc)] at hR
      have HR : Hid (R = -1) := hR
      clear hR
      go_enter Tryz.func76, Tryz.ntmps76
      go_wp2
      go_ret
      exact ⟨ret_i (by rw [HR.out]), rfl⟩
    · by_cases hc2 : (k : Int) < n
      · rw [if_pos (.inr hc2)] at hR
        have HR : Hid (R = -1) := hR
        clear hR
        go_enter Tryz.func76, Tryz.ntmps76
        go_wp2
        go_ret
        exact ⟨ret_i (by rw [HR.out]), rfl⟩
      · rw [if_neg (fun h => h.elim hc hc2)] at hR
        have HR : Hid (R = n - 1) := hR
        clear hR
        go_enter Tryz.func76, Tryz.ntmps76
        go_wp2
        go_ret
        exact ⟨ret_i (by rw [HR.out]), rfl⟩
def pieceL (f t : Int) (l : List ByteArray) : List ByteArray :=
  if placeI f l.length < 0 ∨ placeI t l.length < 0 then [] else
  if placeI f l.length ≤ placeI t l.length then (l.drop (placeI f l.length).toNat).take ((placeI t l.length).toNat + 1 - (placeI f l.length).toNat)
  else ((l.drop (placeI t l.length).toNat).take ((placeI f l.length).toNat + 1 - (placeI t l.length).toNat)).reverse
theorem OwnW.part {base : Nat} {W : World} {a : Option Addr} {c : Nat} {l : List ByteArray} (h : OwnW base W (.slice a l.length c) l) (i j : Nat) (hij : i ≤ j) (hj : j < l.length) : ∃ g o, a = some ⟨g, o, none⟩ ∧ j < c ∧ OwnW base W (.slice (some ⟨g, o + i, none⟩) (j + 1 - i) (c - i)) ((l.drop i).take (j + 1 - i)) := by
  obtain ⟨g, o, c', cur, hv, hg, hcur, hc, ho, hcell⟩ := h.resolve_left (fun e => by rw [e.2] at hj; simp at hj)
  simp only [Value.slice.injEq] at hv
  obtain ⟨ha, _, rfl⟩ := hv
  have hlen : ((l.drop i).take (j + 1 - i)).length = j + 1 - i := by simp; omega
  refine ⟨g, o, ha, by omega, .inr ⟨g, o + i, c - i, cur, by rw [hlen], hg, hcur, by omega, by omega, fun k hk => ?_⟩⟩
  rw [hlen] at hk
  have := hcell (i + k) (by omega)
  rw [Nat.add_assoc, this]
  simp
set_option maxHeartbeats 1600000 in
theorem piece_any (v : Value) (f t : Int) (l : List ByteArray) (base : Nat) (w : World) (h : OwnW base w v l) (hn : l.length ≤ 4096) (f1 : -1000000000000000000 < f) (f2 : f < 1000000000000000000) (t1 : -1000000000000000000 < t) (t2 : t < 1000000000000000000) :
    Calls Tryz.prog 47 #[v, .int .i64 f, .int .i64 t] w fun e w' => X.Fr (fun j => v.ownBlock = some j) w w' ∧ ∃ v', e = .returned v' ∧ OwnW base w' v' (pieceL f t l) := by
  obtain ⟨a, c, rfl⟩ := h.slice
  obtain ⟨n, hnl⟩ : ∃ n, n = l.length := ⟨_, rfl⟩
  have HPf : Hid (∀ W, Calls Tryz.prog 76 #[.int .i64 f, .int .i64 n] W fun e w' => e = .returned (.int .i64 (placeI f n)) ∧ W = w') := fun W => place_any f n W f1 f2 (by omega)
  have HPt : Hid (∀ W, Calls Tryz.prog 76 #[.int .i64 t, .int .i64 n] W fun e w' => e = .returned (.int .i64 (placeI t n)) ∧ W = w') := fun W => place_any t n W t1 t2 (by omega)
  have hn4 : n ≤ 4096 := by omega
  have hcn : n ≤ c := by have := h.cap; omega
  obtain ⟨R, hR⟩ : ∃ R, R = pieceL f t l := ⟨_, rfl⟩
  rw [← hR]
  unfold pieceL at hR
  rw [← hnl] at hR
  have HNl : Hid (n = l.length) := hnl
  rw [← hnl]
  have h' := h
  rw [← hnl] at h'
  have HW : Hid (OwnW base w (.slice a n c) l) := h'
  have hpart := fun i j h1 h2 => h.part i j h1 h2
  rw [← hnl] at hpart
  have hrf := place_two f n
  have hrt := place_two t n
  obtain ⟨F, hF⟩ : ∃ F, F = placeI f n := ⟨_, rfl⟩
  obtain ⟨T, hT⟩ : ∃ T, T = placeI t n := ⟨_, rfl⟩
  rw [← hF] at HPf hR hrf
  rw [← hT] at HPt hR hrt
  clear hF hT h h' hnl f1 f2 t1 t2
  by_cases hneg : F < 0 ∨ T < 0
  · rw [if_pos hneg] at hR
    have HR : Hid (R = []) := hR
    clear hR hpart
    by_cases hFn : F < 0
    · clear hrf hrt hneg
      go_enter Tryz.func47, Tryz.ntmps47
      go_wp2_with fail
      refine (HPf.out _).mono ?_
      rintro e w' ⟨rfl, rfl⟩
      go_wp2_with fail
      refine (HPt.out _).mono ?_
      rintro e w' ⟨rfl, rfl⟩
      go_wp2
      go_ret
      exact ⟨.refl _ _, _, rfl, by rw [HR.out]; exact OwnW.nil⟩
    · have hTn : T < 0 := hneg.resolve_left hFn
      clear hrf hrt hneg
      go_enter Tryz.func47, Tryz.ntmps47
      go_wp2_with fail
      refine (HPf.out _).mono ?_
      rintro e w' ⟨rfl, rfl⟩
      go_wp2_with fail
      refine (HPt.out _).mono ?_
      rintro e w' ⟨rfl, rfl⟩
      go_wp2
      go_ret
      exact ⟨.refl _ _, _, rfl, by rw [HR.out]; exact OwnW.nil⟩
  · rw [if_neg hneg] at hR
    obtain ⟨i, hi, rfl⟩ := hrf.resolve_left (by omega)
    obtain ⟨j, hj, rfl⟩ := hrt.resolve_left (by omega)
    clear hneg
    have hib : i ≤ 1000000 := by omega
    have hjb : j ≤ 1000000 := by omega
    have n1 : ¬ (i : Int) < 0 := by omega
    have n2 : ¬ (j : Int) < 0 := by omega
    by_cases hle : i ≤ j
    · have hlei : (i : Int) ≤ (j : Int) := by omega
      rw [if_pos hlei] at hR
      obtain ⟨g, o, rfl, hjc, hown⟩ := hpart i j hle hj
      have HR : Hid (OwnW base w (.slice (some ⟨g, o + i, none⟩) (j + 1 - i) (c - i)) R) := by unfold Hid; rw [hR]; exact hown
      have e1 : (0 : Int) ≤ (i : Int) := by omega
      have e2 : (i : Int) ≤ (j : Int) + 1 := by omega
      have e3 : (j : Int) + 1 ≤ (c : Int) := by omega
      have e4 : ((j : Int) + 1).toNat = j + 1 := by omega
      have e5 : ¬ c = i := by omega
      clear hR hown hpart
      go_enter Tryz.func47, Tryz.ntmps47
      go_wp2_with fail
      refine (HPf.out _).mono ?_
      rintro e w' ⟨rfl, rfl⟩
      go_wp2_with fail
      refine (HPt.out _).mono ?_
      rintro e w' ⟨rfl, rfl⟩
      go_wp2
      go_ret
      exact ⟨.refl _ _, _, rfl, HR.out⟩
    · have hlei : ¬ (i : Int) ≤ (j : Int) := by omega
      rw [if_neg hlei] at hR
      obtain ⟨g, o, rfl, hjc, hown⟩ := hpart j i (by omega) hi
      obtain ⟨P, hP⟩ : ∃ P, P = (l.drop j).take (i + 1 - j) := ⟨_, rfl⟩
      have hPl : P.length ≤ 1000000 := by rw [hP]; simp; omega
      have HRv : Hid (Calls Tryz.prog 42 #[.slice (some ⟨g, o + j, none⟩) (i + 1 - j) (c - j)] w (InPost base (.slice (some ⟨g, o + j, none⟩) (i + 1 - j) (c - j)) P.reverse w)) := rev_in _ P base w (by rw [hP]; exact hown) hPl
      have HR : Hid (R = P.reverse) := by unfold Hid; rw [hR, hP]; rfl
      have e1 : (0 : Int) ≤ (j : Int) := by omega
      have e2 : (j : Int) ≤ (i : Int) + 1 := by omega
      have e3 : (i : Int) + 1 ≤ (c : Int) := by omega
      have e4 : ((i : Int) + 1).toNat = i + 1 := by omega
      have e5 : ¬ c = j := by omega
      clear hR hown hpart hP hPl hle
      go_enter Tryz.func47, Tryz.ntmps47
      go_wp2_with fail
      refine (HPf.out _).mono ?_
      rintro e w' ⟨rfl, rfl⟩
      go_wp2_with fail
      refine (HPt.out _).mono ?_
      rintro e w' ⟨rfl, rfl⟩
      go_wp2_with fail
      refine HRv.out.mono ?_
      rintro e w2 ⟨rfl, ho2, hf2⟩
      have HZ : Hid (OwnW base w2 (.slice (some ⟨g, o + j, none⟩) (i + 1 - j) (c - j)) R ∧ X.Fr (fun q => (Value.slice (some ⟨g, o, none⟩) n c).ownBlock = some q) w w2) := ⟨by rw [HR.out]; exact ho2, hf2⟩
      clear ho2 hf2
      go_wp2
      go_ret
      exact ⟨HZ.out.2, _, rfl, HZ.out.1⟩
theorem own_one {base : Nat} {W : World} {x : ByteArray} (hb : base ≤ W.heap.size) : OwnW base (W.alloc (.cells #[.string x] 9)) (.slice (some ⟨W.heap.size, 0, none⟩) 1 1) [x] :=
  .inr ⟨W.heap.size, 0, 1, #[.string x], rfl, hb, heap_alloc_new W _, Nat.le_refl _, by simp, fun i hi => by
    have : i = 0 := by simp at hi; exact hi
    subst this; rfl⟩
theorem few_join (l : List ByteArray) (hf : Few l) : (WD.joined l).size ≤ 70000 := by
  have h1 : ∀ l : List ByteArray, (K.joinB ((WD.told l).map bl)).length ≤ sizeL l + l.length := by
    intro l
    have h2 : ∀ zs : List (List UInt8), (K.joinB zs).length ≤ (zs.map List.length).sum + zs.length := by
      intro zs
      induction zs with
      | nil => simp [K.joinB]
      | cons z t ih =>
        cases t with
        | nil => simp [K.joinB]
        | cons y t =>
          rw [K.joinB_cons2]
          simp only [List.length_append, List.length_cons, List.map_cons, List.sum_cons] at ih ⊢
          omega
    refine Nat.le_trans (h2 _) ?_
    induction l with
    | nil => simp [WD.told, sizeL]
    | cons x t ih =>
      have hx := bl_length x
      unfold WD.told at ih ⊢
      rw [List.filter_cons]
      simp only [sizeL, List.map_cons, List.sum_cons, List.length_cons] at ih ⊢
      split
      · simp only [List.map_cons, List.sum_cons, List.length_cons] at ih ⊢; omega
      · omega
  have := h1 l
  unfold WD.joined
  rw [ba_size]
  have := hf.1
  have := hf.2
  omega
theorem join_few (v : Value) (l : List ByteArray) (base : Nat) (w : World) (h : OwnW base w v l) (hf : Few l) : Calls Tryz.prog 45 #[v] w fun e w' => e = .returned (.string (WD.joined l)) ∧ Below w.heap.size w w' := by
  obtain ⟨a, c, rfl⟩ := h.slice
  exact WD.join_any a l.length c l w (by have := hf.1; omega) (by have := few_join l hf; omega) h.words
def quoteB (l : List ByteArray) : ByteArray := ba (K.quote (bl (WD.joined l)))
theorem quote_few (l : List ByteArray) (hf : Few l) : (quoteB l).size ≤ 1000000 := by
  have h1 := few_join l hf
  have h2 := K.esc_length (bl (WD.joined l))
  rw [bl_length] at h2
  unfold quoteB
  rw [ba_size]
  unfold K.quote
  split
  · rw [bl_length]; omega
  · simp only [List.length_append, List.length_cons, List.length_nil]; omega
set_option maxHeartbeats 1600000 in
theorem ofAllU_q (m : Md) (hk : m.kind = ⟨#[81]⟩) : OfAllU m (fun l => [quoteB l]) := by
  intro base v l w ho hf hm hb
  have HJ : Hid (∀ W, OwnW base W v l → Calls Tryz.prog 45 #[v] W fun e w' => e = .returned (.string (WD.joined l)) ∧ Below W.heap.size W w') := fun W h => join_few v l base W h hf
  have HQ : Hid (∀ W, Below w.heap.size w W → Calls Tryz.prog 44 #[.string (WD.joined l)] W fun e w' => e = .returned (.string (quoteB l)) ∧ Below W.heap.size W w') := fun W hB => by
    obtain ⟨mm, hmm⟩ := (hm.below hB).1
    exact WD.quote_any (WD.joined l) mm W (by have := few_join l hf; omega) hmm
  obtain ⟨J, hJ⟩ : ∃ J, J = WD.joined l := ⟨_, rfl⟩
  obtain ⟨Q, hQ⟩ : ∃ Q, Q = quoteB l := ⟨_, rfl⟩
  dsimp only
  rw [← hJ] at HJ HQ
  rw [← hQ] at HQ ⊢
  have HB : Hid (base ≤ w.heap.size) := hb
  have HO : Hid (OwnW base w v l) := ho
  obtain ⟨a, c, rfl⟩ := ho.slice
  clear ho hb hf hm hJ hQ
  obtain ⟨kind, ma, mb, bg, en, ex, al, on, mks, ots, frm, upto⟩ := m
  dsimp only at hk
  subst hk
  unfold Md.cells
  go_enter Tryz.func21, Tryz.ntmps21
  go_wp2_with fail
  refine (HJ.out _ (HO.out.below ((Below.refl _ w).alloc (Nat.le_refl _) _))).mono ?_
  rintro e w1 ⟨rfl, h1⟩
  have HZ1 : Hid (Below w.heap.size w w1) := ((Below.refl _ w).alloc (Nat.le_refl _) _).trans (h1.mono (by simp))
  clear h1
  go_wp2_with fail
  refine (HQ.out _ HZ1.out).mono ?_
  rintro e w2 ⟨rfl, h2⟩
  have HZ2 : Hid (Below w.heap.size w w2) := HZ1.out.trans (h2.mono HZ1.out.size)
  clear h2
  go_wp2
  go_ret
  exact ⟨.of_below (HZ2.out.alloc HZ2.out.size _), _, rfl, own_one (Nat.le_trans HB.out HZ2.out.size)⟩
set_option maxHeartbeats 1600000 in
theorem ofAllU_star (m : Md) (hk : m.kind = ⟨#[42]⟩) : OfAllU m (fun l => if l = [] then [] else [WD.joined l]) := by
  intro base v l w ho hf hm hb
  have HJ : Hid (∀ W, OwnW base W v l → Calls Tryz.prog 45 #[v] W fun e w' => e = .returned (.string (WD.joined l)) ∧ Below W.heap.size W w') := fun W h => join_few v l base W h hf
  obtain ⟨J, hJ⟩ : ∃ J, J = WD.joined l := ⟨_, rfl⟩
  dsimp only
  rw [← hJ] at HJ ⊢
  have HB : Hid (base ≤ w.heap.size) := hb
  have HO : Hid (OwnW base w v l) := ho
  obtain ⟨a, c, rfl⟩ := ho.slice
  clear ho hb hf hm hJ
  obtain ⟨kind, ma, mb, bg, en, ex, al, on, mks, ots, frm, upto⟩ := m
  dsimp only at hk
  subst hk
  unfold Md.cells
  by_cases hl : l = []
  · subst hl
    rw [if_pos rfl]
    go_enter Tryz.func21, Tryz.ntmps21
    go_wp2
    go_ret
    exact ⟨fr_alloc w _, _, rfl, HO.out.below ((Below.refl _ w).alloc (Nat.le_refl _) _)⟩
  · rw [if_neg hl]
    have hpos : (0 : Int) < (l.length : Int) := by have : l.length ≠ 0 := fun e => hl (List.length_eq_zero_iff.1 e); omega
    go_enter Tryz.func21, Tryz.ntmps21
    go_wp2_with fail
    refine (HJ.out _ (HO.out.below ((Below.refl _ w).alloc (Nat.le_refl _) _))).mono ?_
    rintro e w1 ⟨rfl, h1⟩
    have HZ1 : Hid (Below w.heap.size w w1) := ((Below.refl _ w).alloc (Nat.le_refl _) _).trans (h1.mono (by simp))
    clear h1
    go_wp2
    go_ret
    exact ⟨.of_below (HZ1.out.alloc HZ1.out.size _), _, rfl, own_one (Nat.le_trans HB.out HZ1.out.size)⟩
theorem itoa_any (n : Nat) (hn : n ≤ 4096) (w : World) (h : Tz w) : Calls Tryz.prog 46 #[.int .i64 n] w fun e w' => e = .returned (.string (ba (Lib.itoa n))) ∧ Below w.heap.size w w' := by
  refine (Tryz.strconv_Itoa n (by omega) (by omega) w h).mono ?_
  rintro e w' ⟨rfl, k, os, rfl⟩
  refine ⟨rfl, rfl, rfl, rfl, by simp [grow, World.drewN], fun j hj => ?_⟩
  rw [heap_grow_old _ _ (by exact hj)]
  rfl
set_option maxHeartbeats 1600000 in
theorem ofAllU_hash (m : Md) (hk : m.kind = ⟨#[35]⟩) : OfAllU m (fun l => [ba (Lib.itoa l.length)]) := by
  intro base v l w ho hf hm hb
  have HI : Hid (∀ W, Below w.heap.size w W → Calls Tryz.prog 46 #[.int .i64 (l.length : Nat)] W fun e w' => e = .returned (.string (ba (Lib.itoa l.length))) ∧ Below W.heap.size W w') := fun W hB => itoa_any l.length hf.1 W (hm.below hB).2
  obtain ⟨J, hJ⟩ : ∃ J, J = ba (Lib.itoa l.length) := ⟨_, rfl⟩
  dsimp only
  rw [← hJ] at HI ⊢
  have HB : Hid (base ≤ w.heap.size) := hb
  obtain ⟨a, c, rfl⟩ := ho.slice
  clear ho hb hf hm hJ
  obtain ⟨kind, ma, mb, bg, en, ex, al, on, mks, ots, frm, upto⟩ := m
  dsimp only at hk
  subst hk
  unfold Md.cells
  go_enter Tryz.func21, Tryz.ntmps21
  go_wp2_with fail
  refine (HI.out _ ((Below.refl _ w).alloc (Nat.le_refl _) _)).mono ?_
  rintro e w1 ⟨rfl, h1⟩
  have HZ1 : Hid (Below w.heap.size w w1) := ((Below.refl _ w).alloc (Nat.le_refl _) _).trans (h1.mono (by simp))
  clear h1
  go_wp2
  go_ret
  exact ⟨.of_below (HZ1.out.alloc HZ1.out.size _), _, rfl, own_one (Nat.le_trans HB.out HZ1.out.size)⟩
set_option maxHeartbeats 1600000 in
theorem ofAllU_pick (m : Md) (hk : m.kind = ⟨#[91]⟩) (f1 : -1000000000000000000 < m.frm) (f2 : m.frm < 1000000000000000000) (t1 : -1000000000000000000 < m.upto) (t2 : m.upto < 1000000000000000000) : OfAllU m (fun l => pieceL m.frm m.upto l) := by
  intro base v l w ho hf hm hb
  have HI : Hid (∀ W, OwnW base W v l → Calls Tryz.prog 47 #[v, .int .i64 m.frm, .int .i64 m.upto] W fun e w' => X.Fr (fun j => v.ownBlock = some j) W w' ∧ ∃ v', e = .returned v' ∧ OwnW base w' v' (pieceL m.frm m.upto l)) := fun W h => piece_any v m.frm m.upto l base W h hf.1 f1 f2 t1 t2
  obtain ⟨J, hJ⟩ : ∃ J, J = pieceL m.frm m.upto l := ⟨_, rfl⟩
  dsimp only
  rw [← hJ] at HI ⊢
  have HO : Hid (OwnW base w v l) := ho
  obtain ⟨a, c, rfl⟩ := ho.slice
  clear ho hb hf hm hJ f1 f2 t1 t2
  obtain ⟨kind, ma, mb, bg, en, ex, al, on, mks, ots, frm, upto⟩ := m
  dsimp only at hk
  subst hk
  unfold Md.cells
  dsimp only at HI
  go_enter Tryz.func21, Tryz.ntmps21
  go_wp2_with fail
  refine (HI.out _ (HO.out.below ((Below.refl _ w).alloc (Nat.le_refl _) _))).mono ?_
  rintro e w1 ⟨h1, v2, rfl, h2⟩
  have HZ1 : Hid (X.Fr (fun j => (Value.slice a l.length c).ownBlock = some j) w w1 ∧ OwnW base w1 v2 J) := ⟨(fr_alloc w _).trans h1, h2⟩
  clear h1 h2
  go_wp2
  go_ret
  exact ⟨HZ1.out.1, _, rfl, HZ1.out.2⟩
end Go.Proofs.YtedepknbaakkhabGreatDoor
namespace Go.Proofs.YtedepknbaakkhabGreatDoor
open Go.RowKit Go.Shelf
set_option maxHeartbeats 800000 in
theorem count_empty (s : ByteArray) (w : World) (hs : s.size ≤ 1000000) : Calls Tryz.prog 57 #[.string s, .string E] w fun e w' => e = .returned (.int .i64 ((Lib.runeCount s : Nat) + 1)) ∧ Below w.heap.size w w' := by
  have HC : Hid (Calls Tryz.prog 91 #[.string s] w fun e w' => e = .returned (.int .i64 (Lib.runeCount s : Nat)) ∧ Below w.heap.size w w') := by
    refine (Tryz.utf8_RuneCountInString s w (by omega)).mono ?_
    rintro e w' ⟨rfl, pos, rfl⟩
    exact ⟨rfl, (Below.refl _ w).alloc (Nat.le_refl _) _⟩
  have hle := Lib.runeCount_le s
  obtain ⟨R, hR⟩ : ∃ R, R = Lib.runeCount s := ⟨_, rfl⟩
  rw [← hR] at HC hle ⊢
  clear hR
  have hRb : R ≤ 1000000 := by omega
  go_enter Tryz.func57, Tryz.ntmps57
  go_wp2_with fail
  refine HC.out.mono ?_
  rintro e w1 ⟨rfl, hb⟩
  go_wp2
  go_ret
  exact ⟨rfl, hb⟩
theorem empty_app (s : ByteArray) : (E ++ s : ByteArray) = s := bl_inj (by simp [bl])
set_option maxHeartbeats 1600000 in
theorem replace_empty (s new : ByteArray) (w : World) (hs : s.size ≤ 1000000) (hn : new.size ≤ 10000000) : Calls Tryz.prog 61 #[.string s, .string E, .string new, .int .i64 1] w fun e w' => e = .returned (.string (new ++ s)) ∧ Below w.heap.size w w' := by
  by_cases hne : new = E
  · subst hne
    refine (Tryz.strings_Replace_none s E E 1 w (.inl rfl)).mono ?_
    rintro e w' ⟨rfl, rfl⟩
    exact ⟨by rw [empty_app], Below.refl _ _⟩
  · have HC : Hid (Calls Tryz.prog 57 #[.string s, .string E] w fun e w' => e = .returned (.int .i64 ((Lib.runeCount s : Nat) + 1)) ∧ Below w.heap.size w w') := count_empty s w hs
    have hle := Lib.runeCount_le s
    obtain ⟨R, hR⟩ : ∃ R, R = Lib.runeCount s := ⟨_, rfl⟩
    rw [← hR] at HC hle
    clear hR
    have hRb : R ≤ 1000000 := by omega
    have t1 : ¬ ([] : List UInt8) = new.toList := by rw [Lib.toList_data]; exact fun e => hne (bl_inj e.symm)
    have t2 : (([] : List UInt8) == new.toList) = false := beq_eq_false_iff_ne.2 t1
    have t3 : ¬ new.toList = [] := fun e => t1 e.symm
    have t4 : new.toList.isEmpty = false := by cases hh : new.toList with | nil => exact absurd hh t3 | cons => rfl
    have r1 : ¬ ((R : Int) + 1 < 1) := by omega
    have r2 : ¬ ((R : Int) + 1 = 0) := by omega
    have r3 : ((R : Int) + 1 == 0) = false := by rw [beq_eq_false_iff_ne]; omega
    have HG : Hid (∀ (B : Nat) (z : Int) (W : World), z = ((s.size + new.size : Nat) : Int) → W.heap[B]? = some (.cells #[.pointer none, .slice none 0 0] 57 (0, 0)) → B ≤ W.heap.size → Calls Tryz.prog 93 #[.pointer (some ⟨B, 0, none⟩), .int .i64 z] W fun e w' => e = .returned (.tuple #[]) ∧ Lib.IsBuilder 57 5 B B (Lib.byteCells []) w' ∧ Below B W w') := fun B z W hz h1 h2 => by
      rw [hz]
      refine (Tryz.Builder_Grow_fresh B B (s.size + new.size) W (Nat.le_refl _) h1 h2 (by omega)).mono ?_
      rintro e w' ⟨rfl, h3, h4⟩
      exact ⟨rfl, .inr h3, h4⟩
    have HWS : Hid (∀ (B : Nat) (o : List UInt8) (u : ByteArray) (W : World), Lib.IsBuilder 57 5 B B (Lib.byteCells o) W → o.length ≤ 20000000 → u.size ≤ 10000000 → B ≤ W.heap.size → Calls Tryz.prog 94 #[.pointer (some ⟨B, 0, none⟩), .string u] W fun e w' => e = .returned (.tuple #[.int .i64 u.size, .nilIface]) ∧ Lib.IsBuilder 57 5 B B (Lib.byteCells (o ++ bl u)) w' ∧ Below B W w') := fun B o u W h1 h2 h4 h3 =>
      (Tryz.Builder_WriteString B B (Lib.byteCells o) u W h1 (by rw [Lib.byteCells_length]; omega) h3).mono fun e w' h => ⟨h.1, .inr (by rw [Lib.byteCells_append, ← show Lib.strCells u = Lib.byteCells (bl u) from rfl]; exact h.2.1), h.2.2⟩
    have HST : Hid (∀ (B : Nat) (o : List UInt8) (W : World), Lib.IsBuilder 57 5 B B (Lib.byteCells o) W → B ≤ W.heap.size → Calls Tryz.prog 23 #[.pointer (some ⟨B, 0, none⟩)] W fun e w' => e = .returned (.string (ba o)) ∧ Below B W w') := fun B o W h1 h2 => Tryz.Builder_String_any B B o W h1 h2
    have hx0 : s.extract 0 s.size = s := bl_inj (by rw [bl_rest]; rfl)
    have HX : Hid (ba (([] ++ bl new) ++ bl s) = new ++ s) := bl_inj (by rw [bl_ba]; simp [bl])
    clear hne
    go_enter Tryz.func61, Tryz.ntmps61
    go_wp2_with fail
    refine HC.out.mono ?_
    rintro e w1 ⟨rfl, hb1⟩
    have HB1 : Hid (Below w.heap.size w w1) := hb1
    clear hb1
    obtain ⟨B, hB⟩ : ∃ B, B = w1.heap.size := ⟨_, rfl⟩
    go_wp2_with fail
    refine (HG.out w1.heap.size _ _ (by omega) (heap_alloc_new w1 _) (by simp)).mono ?_
    rintro e w2 ⟨rfl, hi2, hb2⟩
    have HB2 : Hid (Lib.IsBuilder 57 5 w1.heap.size w1.heap.size (Lib.byteCells []) w2 ∧ Below w1.heap.size w1 w2) := ⟨hi2, ((Below.refl _ w1).alloc (Nat.le_refl _) _).trans hb2⟩
    clear hi2 hb2
    go_wp2_with fail
    refine (HWS.out w1.heap.size [] new w2 HB2.out.1 (by simp) hn HB2.out.2.size).mono ?_
    rintro e w3 ⟨rfl, hi3, hb3⟩
    have HB3 : Hid (Lib.IsBuilder 57 5 w1.heap.size w1.heap.size (Lib.byteCells ([] ++ bl new)) w3 ∧ Below w1.heap.size w1 w3) := ⟨hi3, HB2.out.2.trans hb3⟩
    clear hi3 hb3 HB2
    go_wp2
    go_loopw [11, 78] (fun v11 vi wr => v11 = .int .i64 0 ∧ vi = .int .i64 0 ∧ w3 = wr) (fun _ _ _ => 0)
    case atStart => exact ⟨rfl, rfl, rfl⟩
    case round =>
      obtain ⟨rfl, rfl, rfl⟩ := hrel
      go_wp2_with fail
      refine (HWS.out w1.heap.size _ s w3 HB3.out.1 (by simp [bl_length]; omega) (by omega) HB3.out.2.size).mono ?_
      rintro e w4 ⟨rfl, hi4, hb4⟩
      have HB4 : Hid (Lib.IsBuilder 57 5 w1.heap.size w1.heap.size (Lib.byteCells (([] ++ bl new) ++ bl s)) w4 ∧ Below w1.heap.size w1 w4) := ⟨hi4, HB3.out.2.trans hb4⟩
      clear hi4 hb4
      go_wp2_with fail
      refine (HST.out w1.heap.size _ w4 HB4.out.1 HB4.out.2.size).mono ?_
      rintro e w5 ⟨rfl, hb5⟩
      have HE : Hid (Below w.heap.size w w5) := HB1.out.trans ((HB4.out.2.trans hb5).mono HB1.out.size)
      clear hb5
      go_wp2
      go_ret
      exact ⟨ret_str HX.out, HE.out⟩
end Go.Proofs.YtedepknbaakkhabGreatDoor
