/-
  QA3 QA9
-/
import Derived.Test.YtpcpcfnmcfjomaaGreatDoorK34
import Derived.Test.YtpcpcfnmcfjomaaGreatDoorK21
import Derived.Test.YtpcpcfnmcfjomaaGreatDoorK32
import Derived.Test.YtpcpcfnmcfjomaaGreatDoorK30
import Derived.Test.YtpcpcfnmcfjomaaGreatDoorK31
import Derived.Lib.ItoaLen
namespace Go.Proofs.YtpcpcfnmcfjomaaGreatDoor
open Go.RowKit Go.Shelf Go.Sort
def placeI (n : Int) (k : Nat) : Int :=
  if (if n < 0 then n + (k + 1) else n) < 1 ∨ (k : Int) < (if n < 0 then n + (k + 1) else n) then -1 else (if n < 0 then n + (k + 1) else n) - 1
theorem place_two (n : Int) (k : Nat) : placeI n k = -1 ∨ ∃ i : Nat, i < k ∧ placeI n k = i := by
  unfold placeI
  obtain ⟨z, hz⟩ : ∃ z, z = if n < 0 then n + ((k : Int) + 1) else n := ⟨_, rfl⟩
  rw [← hz]
  by_cases h : z < 1 ∨ (k : Int) < z
  · exact .inl (if_pos h)
  · refine .inr ⟨(z - 1).toNat, ?_, ?_⟩
    · omega
    · rw [if_neg h]; omega
theorem ret_i {a b : Int} (h : a = b) : Ending.returned (.int .i64 a) = .returned (.int .i64 b) := by rw [h]
set_option maxRecDepth 20000 in
set_option maxHeartbeats 800000 in
theorem place_any (n : Int) (k : Nat) (w : World) (h1 : -1000000000000000000 < n) (h2 : n < 1000000000000000000) (hk : k ≤ 1000000) : Calls Tryz.prog 110 #[.int .i64 n, .int .i64 k] w fun e w' => e = .returned (.int .i64 (placeI n k)) ∧ w = w' := by
  obtain ⟨R, hR⟩ : ∃ R, R = placeI n k := ⟨_, rfl⟩
  rw [← hR]
  unfold placeI at hR
  by_cases hn : n < 0
  · rw [if_pos hn] at hR
    obtain ⟨z, hz⟩ : ∃ z, z = n + ((k : Int) + 1) := ⟨_, rfl⟩
    rw [← hz] at hR
    by_cases hc : z < 1
    · rw [if_pos (.inl hc)] at hR
      have HR : Hid (R = -1) := hR
      have hz1 : n + ((k : Int) + 1) < 1 := by omega
      clear hR hz hc
      go_enter Tryz.func110, Tryz.ntmps110
      go_wp2
      go_ret
      exact ⟨ret_i (by rw [HR.out]), rfl⟩
    · by_cases hc2 : (k : Int) < z
      · omega
      · rw [if_neg (fun h => h.elim hc hc2)] at hR
        have HR : Hid (R = n + ((k : Int) + 1) - 1) := by unfold Hid; rw [hR, hz]
        have hz1 : ¬ n + ((k : Int) + 1) < 1 := by omega
        have hz2 : ¬ (k : Int) < n + ((k : Int) + 1) := by omega
        clear hR hz hc hc2
        go_enter Tryz.func110, Tryz.ntmps110
        go_wp2
        go_ret
        exact ⟨ret_i (by rw [HR.out]), rfl⟩
  · rw [if_neg hn] at hR
    by_cases hc : n < 1
    · rw [if_pos (.inl hc)] at hR
      have HR : Hid (R = -1) := hR
      clear hR
      go_enter Tryz.func110, Tryz.ntmps110
      go_wp2
      go_ret
      exact ⟨ret_i (by rw [HR.out]), rfl⟩
    · by_cases hc2 : (k : Int) < n
      · rw [if_pos (.inr hc2)] at hR
        have HR : Hid (R = -1) := hR
        clear hR
        go_enter Tryz.func110, Tryz.ntmps110
        go_wp2
        go_ret
        exact ⟨ret_i (by rw [HR.out]), rfl⟩
      · rw [if_neg (fun h => h.elim hc hc2)] at hR
        have HR : Hid (R = n - 1) := hR
        clear hR
        go_enter Tryz.func110, Tryz.ntmps110
        go_wp2
        go_ret
        exact ⟨ret_i (by rw [HR.out]), rfl⟩
def pieceL (f t : Int) (l : List ByteArray) : List ByteArray :=
  if placeI f l.length < 0 ∨ placeI t l.length < 0 then [] else
  if placeI f l.length ≤ placeI t l.length then (l.drop (placeI f l.length).toNat).take ((placeI t l.length).toNat + 1 - (placeI f l.length).toNat)
  else ((l.drop (placeI t l.length).toNat).take ((placeI f l.length).toNat + 1 - (placeI t l.length).toNat)).reverse
theorem OwnW.part {base : Nat} {W : World} {a : Option Addr} {c : Nat} {l : List ByteArray} (h : OwnW base W (.slice a l.length c) l) (i j : Nat) (hij : i ≤ j) (hj : j < l.length) : ∃ g o, a = some ⟨g, o, none⟩ ∧ j < c ∧ OwnW base W (.slice (some ⟨g, o + i, none⟩) (j + 1 - i) (c - i)) ((l.drop i).take (j + 1 - i)) := by
  obtain ⟨g, o, c', cur, hv, hg, hcur, hc, ho, hcell⟩ := h.resolve_left (fun e => by rw [e.2] at hj; simp at hj)
  simp only [Value.slice.injEq] at hv
  obtain ⟨ha, _, rfl⟩ := hv
  have hlen : ((l.drop i).take (j + 1 - i)).length = j + 1 - i := by simp; omega
  refine ⟨g, o, ha, by omega, .inr ⟨g, o + i, c - i, cur, by rw [hlen], hg, hcur, by omega, by omega, fun k hk => ?_⟩⟩
  rw [hlen] at hk
  have := hcell (i + k) (by omega)
  rw [Nat.add_assoc, this]
  simp
set_option maxRecDepth 20000 in
set_option maxHeartbeats 1600000 in
theorem piece_any (v : Value) (f t : Int) (l : List ByteArray) (base : Nat) (w : World) (h : OwnW base w v l) (hn : l.length ≤ 4096) (f1 : -1000000000000000000 < f) (f2 : f < 1000000000000000000) (t1 : -1000000000000000000 < t) (t2 : t < 1000000000000000000) :
    Calls Tryz.prog 62 #[v, .int .i64 f, .int .i64 t] w fun e w' => X.Fr (fun j => v.ownBlock = some j) w w' ∧ ∃ v', e = .returned v' ∧ OwnW base w' v' (pieceL f t l) := by
  obtain ⟨a, c, rfl⟩ := h.slice
  obtain ⟨n, hnl⟩ : ∃ n, n = l.length := ⟨_, rfl⟩
  have HPf : Hid (∀ W, Calls Tryz.prog 110 #[.int .i64 f, .int .i64 n] W fun e w' => e = .returned (.int .i64 (placeI f n)) ∧ W = w') := fun W => place_any f n W f1 f2 (by omega)
  have HPt : Hid (∀ W, Calls Tryz.prog 110 #[.int .i64 t, .int .i64 n] W fun e w' => e = .returned (.int .i64 (placeI t n)) ∧ W = w') := fun W => place_any t n W t1 t2 (by omega)
  have hn4 : n ≤ 4096 := by omega
  have hcn : n ≤ c := by have := h.cap; omega
  obtain ⟨R, hR⟩ : ∃ R, R = pieceL f t l := ⟨_, rfl⟩
  rw [← hR]
  unfold pieceL at hR
  rw [← hnl] at hR
  have HNl : Hid (n = l.length) := hnl
  rw [← hnl]
  have h' := h
  rw [← hnl] at h'
  have HW : Hid (OwnW base w (.slice a n c) l) := h'
  have hpart := fun i j h1 h2 => h.part i j h1 h2
  rw [← hnl] at hpart
  have hrf := place_two f n
  have hrt := place_two t n
  obtain ⟨F, hF⟩ : ∃ F, F = placeI f n := ⟨_, rfl⟩
  obtain ⟨T, hT⟩ : ∃ T, T = placeI t n := ⟨_, rfl⟩
  rw [← hF] at HPf hR hrf
  rw [← hT] at HPt hR hrt
  clear hF hT h h' hnl f1 f2 t1 t2
  by_cases hneg : F < 0 ∨ T < 0
  · rw [if_pos hneg] at hR
    have HR : Hid (R = []) := hR
    clear hR hpart
    by_cases hFn : F < 0
    · clear hrf hrt hneg
      go_enter Tryz.func62, Tryz.ntmps62
      go_wp2_with fail
      refine (HPf.out _).mono ?_
      rintro e w' ⟨rfl, rfl⟩
      go_wp2_with fail
      refine (HPt.out _).mono ?_
      rintro e w' ⟨rfl, rfl⟩
      go_wp2
      go_ret
      exact ⟨.refl _ _, _, rfl, by rw [HR.out]; exact OwnW.nil⟩
    · have hTn : T < 0 := hneg.resolve_left hFn
      clear hrf hrt hneg
      go_enter Tryz.func62, Tryz.ntmps62
      go_wp2_with fail
      refine (HPf.out _).mono ?_
      rintro e w' ⟨rfl, rfl⟩
      go_wp2_with fail
      refine (HPt.out _).mono ?_
      rintro e w' ⟨rfl, rfl⟩
      go_wp2
      go_ret
      exact ⟨.refl _ _, _, rfl, by rw [HR.out]; exact OwnW.nil⟩
  · rw [if_neg hneg] at hR
    obtain ⟨i, hi, rfl⟩ := hrf.resolve_left (by omega)
    obtain ⟨j, hj, rfl⟩ := hrt.resolve_left (by omega)
    clear hneg
    have hib : i ≤ 1000000 := by omega
    have hjb : j ≤ 1000000 := by omega
    have n1 : ¬ (i : Int) < 0 := by omega
    have n2 : ¬ (j : Int) < 0 := by omega
    by_cases hle : i ≤ j
    · have hlei : (i : Int) ≤ (j : Int) := by omega
      rw [if_pos hlei] at hR
      obtain ⟨g, o, rfl, hjc, hown⟩ := hpart i j hle hj
      have HR : Hid (OwnW base w (.slice (some ⟨g, o + i, none⟩) (j + 1 - i) (c - i)) R) := by unfold Hid; rw [hR]; exact hown
      have e1 : (0 : Int) ≤ (i : Int) := by omega
      have e2 : (i : Int) ≤ (j : Int) + 1 := by omega
      have e3 : (j : Int) + 1 ≤ (c : Int) := by omega
      have e4 : ((j : Int) + 1).toNat = j + 1 := by omega
      have e5 : ¬ c = i := by omega
      clear hR hown hpart
      go_enter Tryz.func62, Tryz.ntmps62
      go_wp2_with fail
      refine (HPf.out _).mono ?_
      rintro e w' ⟨rfl, rfl⟩
      go_wp2_with fail
      refine (HPt.out _).mono ?_
      rintro e w' ⟨rfl, rfl⟩
      go_wp2
      go_ret
      exact ⟨.refl _ _, _, rfl, HR.out⟩
    · have hlei : ¬ (i : Int) ≤ (j : Int) := by omega
      rw [if_neg hlei] at hR
      obtain ⟨g, o, rfl, hjc, hown⟩ := hpart j i (by omega) hi
      obtain ⟨P, hP⟩ : ∃ P, P = (l.drop j).take (i + 1 - j) := ⟨_, rfl⟩
      have hPl : P.length ≤ 1000000 := by rw [hP]; simp; omega
      have HRv : Hid (Calls Tryz.prog 57 #[.slice (some ⟨g, o + j, none⟩) (i + 1 - j) (c - j)] w (InPost base (.slice (some ⟨g, o + j, none⟩) (i + 1 - j) (c - j)) P.reverse w)) := rev_in _ P base w (by rw [hP]; exact hown) hPl
      have HR : Hid (R = P.reverse) := by unfold Hid; rw [hR, hP]; rfl
      have e1 : (0 : Int) ≤ (j : Int) := by omega
      have e2 : (j : Int) ≤ (i : Int) + 1 := by omega
      have e3 : (i : Int) + 1 ≤ (c : Int) := by omega
      have e4 : ((i : Int) + 1).toNat = i + 1 := by omega
      have e5 : ¬ c = j := by omega
      clear hR hown hpart hP hPl hle
      go_enter Tryz.func62, Tryz.ntmps62
      go_wp2_with fail
      refine (HPf.out _).mono ?_
      rintro e w' ⟨rfl, rfl⟩
      go_wp2_with fail
      refine (HPt.out _).mono ?_
      rintro e w' ⟨rfl, rfl⟩
      go_wp2_with fail
      refine HRv.out.mono ?_
      rintro e w2 ⟨rfl, ho2, hf2⟩
      have HZ : Hid (OwnW base w2 (.slice (some ⟨g, o + j, none⟩) (i + 1 - j) (c - j)) R ∧ X.Fr (fun q => (Value.slice (some ⟨g, o, none⟩) n c).ownBlock = some q) w w2) := ⟨by rw [HR.out]; exact ho2, hf2⟩
      clear ho2 hf2
      go_wp2
      go_ret
      exact ⟨HZ.out.2, _, rfl, HZ.out.1⟩
theorem own_one {base : Nat} {W : World} {x : ByteArray} (hb : base ≤ W.heap.size) : OwnW base (W.alloc (.cells #[.string x] 9)) (.slice (some ⟨W.heap.size, 0, none⟩) 1 1) [x] :=
  .inr ⟨W.heap.size, 0, 1, #[.string x], rfl, hb, heap_alloc_new W _, Nat.le_refl _, by simp, fun i hi => by
    have : i = 0 := by simp at hi; exact hi
    subst this; rfl⟩
theorem few_join (l : List ByteArray) (hf : Few l) : (WD.joined l).size ≤ 70000 := by
  have h1 : ∀ l : List ByteArray, (K.joinB ((WD.told l).map bl)).length ≤ sizeL l + l.length := by
    intro l
    have h2 : ∀ zs : List (List UInt8), (K.joinB zs).length ≤ (zs.map List.length).sum + zs.length := by
      intro zs
      induction zs with
      | nil => simp [K.joinB]
      | cons z t ih =>
        cases t with
        | nil => simp [K.joinB]
        | cons y t =>
          rw [K.joinB_cons2]
          simp only [List.length_append, List.length_cons, List.map_cons, List.sum_cons] at ih ⊢
          omega
    refine Nat.le_trans (h2 _) ?_
    induction l with
    | nil => simp [WD.told, sizeL]
    | cons x t ih =>
      have hx := bl_length x
      unfold WD.told at ih ⊢
      rw [List.filter_cons]
      simp only [sizeL, List.map_cons, List.sum_cons, List.length_cons] at ih ⊢
      split
      · simp only [List.map_cons, List.sum_cons, List.length_cons] at ih ⊢; omega
      · omega
  have := h1 l
  unfold WD.joined
  rw [ba_size]
  have := hf.1
  have := hf.2
  omega
theorem join_few (v : Value) (l : List ByteArray) (base : Nat) (w : World) (h : OwnW base w v l) (hf : Few l) : Calls Tryz.prog 60 #[v] w fun e w' => e = .returned (.string (WD.joined l)) ∧ Below w.heap.size w w' := by
  obtain ⟨a, c, rfl⟩ := h.slice
  exact WD.join_any a l.length c l w (by have := hf.1; omega) (by have := few_join l hf; omega) h.words
def quoteB (l : List ByteArray) : ByteArray := ba (K.quote (bl (WD.joined l)))
theorem quote_few (l : List ByteArray) (hf : Few l) : (quoteB l).size ≤ 1000000 := by
  have h1 := few_join l hf
  have h2 := K.esc_length (bl (WD.joined l))
  rw [bl_length] at h2
  unfold quoteB
  rw [ba_size]
  unfold K.quote
  split
  · rw [bl_length]; omega
  · simp only [List.length_append, List.length_cons, List.length_nil]; omega
set_option maxRecDepth 20000 in
set_option maxHeartbeats 1600000 in
theorem ofAllU_q (m : Md) (hk : m.kind = ⟨#[81]⟩) : OfAllU m (fun l => [quoteB l]) := by
  intro base v l w ho hf hm hb
  have HJ : Hid (∀ W, OwnW base W v l → Calls Tryz.prog 60 #[v] W fun e w' => e = .returned (.string (WD.joined l)) ∧ Below W.heap.size W w') := fun W h => join_few v l base W h hf
  have HQ : Hid (∀ W, Below w.heap.size w W → Calls Tryz.prog 59 #[.string (WD.joined l)] W fun e w' => e = .returned (.string (quoteB l)) ∧ Below W.heap.size W w') := fun W hB => by
    obtain ⟨mm, hmm⟩ := (hm.below hB).1
    exact WD.quote_any (WD.joined l) mm W (by have := few_join l hf; omega) hmm
  obtain ⟨J, hJ⟩ : ∃ J, J = WD.joined l := ⟨_, rfl⟩
  obtain ⟨Q, hQ⟩ : ∃ Q, Q = quoteB l := ⟨_, rfl⟩
  dsimp only
  rw [← hJ] at HJ HQ
  rw [← hQ] at HQ ⊢
  have HB : Hid (base ≤ w.heap.size) := hb
  have HO : Hid (OwnW base w v l) := ho
  obtain ⟨a, c, rfl⟩ := ho.slice
  clear ho hb hf hm hJ hQ
  obtain ⟨kind, ma, mb, bg, en, ex, al, on, mks, ots, frm, upto⟩ := m
  dsimp only at hk
  subst hk
  unfold Md.cells
  go_enter Tryz.func26, Tryz.ntmps26
  go_wp2_with fail
  refine (HJ.out _ (HO.out.below ((Below.refl _ w).alloc (Nat.le_refl _) _))).mono ?_
  rintro e w1 ⟨rfl, h1⟩
  have HZ1 : Hid (Below w.heap.size w w1) := ((Below.refl _ w).alloc (Nat.le_refl _) _).trans (h1.mono (by simp))
  clear h1
  go_wp2_with fail
  refine (HQ.out _ HZ1.out).mono ?_
  rintro e w2 ⟨rfl, h2⟩
  have HZ2 : Hid (Below w.heap.size w w2) := HZ1.out.trans (h2.mono HZ1.out.size)
  clear h2
  go_wp2
  go_ret
  exact ⟨.of_below (HZ2.out.alloc HZ2.out.size _), _, rfl, own_one (Nat.le_trans HB.out HZ2.out.size)⟩
set_option maxRecDepth 20000 in
set_option maxHeartbeats 1600000 in
theorem ofAllU_star (m : Md) (hk : m.kind = ⟨#[42]⟩) : OfAllU m (fun l => if l = [] then [] else [WD.joined l]) := by
  intro base v l w ho hf hm hb
  have HJ : Hid (∀ W, OwnW base W v l → Calls Tryz.prog 60 #[v] W fun e w' => e = .returned (.string (WD.joined l)) ∧ Below W.heap.size W w') := fun W h => join_few v l base W h hf
  obtain ⟨J, hJ⟩ : ∃ J, J = WD.joined l := ⟨_, rfl⟩
  dsimp only
  rw [← hJ] at HJ ⊢
  have HB : Hid (base ≤ w.heap.size) := hb
  have HO : Hid (OwnW base w v l) := ho
  obtain ⟨a, c, rfl⟩ := ho.slice
  clear ho hb hf hm hJ
  obtain ⟨kind, ma, mb, bg, en, ex, al, on, mks, ots, frm, upto⟩ := m
  dsimp only at hk
  subst hk
  unfold Md.cells
  by_cases hl : l = []
  · subst hl
    rw [if_pos rfl]
    go_enter Tryz.func26, Tryz.ntmps26
    go_wp2
    go_ret
    exact ⟨fr_alloc w _, _, rfl, HO.out.below ((Below.refl _ w).alloc (Nat.le_refl _) _)⟩
  · rw [if_neg hl]
    have hpos : (0 : Int) < (l.length : Int) := by have : l.length ≠ 0 := fun e => hl (List.length_eq_zero_iff.1 e); omega
    go_enter Tryz.func26, Tryz.ntmps26
    go_wp2_with fail
    refine (HJ.out _ (HO.out.below ((Below.refl _ w).alloc (Nat.le_refl _) _))).mono ?_
    rintro e w1 ⟨rfl, h1⟩
    have HZ1 : Hid (Below w.heap.size w w1) := ((Below.refl _ w).alloc (Nat.le_refl _) _).trans (h1.mono (by simp))
    clear h1
    go_wp2
    go_ret
    exact ⟨.of_below (HZ1.out.alloc HZ1.out.size _), _, rfl, own_one (Nat.le_trans HB.out HZ1.out.size)⟩
theorem itoa_any (n : Nat) (hn : n ≤ 4096) (w : World) (h : Tz w) : Calls Tryz.prog 61 #[.int .i64 n] w fun e w' => e = .returned (.string (ba (Lib.itoa n))) ∧ Below w.heap.size w w' := by
  refine (Tryz.strconv_Itoa n (by omega) (by omega) w h).mono ?_
  rintro e w' ⟨rfl, k, os, rfl⟩
  refine ⟨rfl, rfl, rfl, rfl, by simp [grow, World.drewN], fun j hj => ?_⟩
  rw [heap_grow_old _ _ (by exact hj)]
  rfl
set_option maxRecDepth 20000 in
set_option maxHeartbeats 1600000 in
theorem ofAllU_hash (m : Md) (hk : m.kind = ⟨#[35]⟩) : OfAllU m (fun l => [ba (Lib.itoa l.length)]) := by
  intro base v l w ho hf hm hb
  have HI : Hid (∀ W, Below w.heap.size w W → Calls Tryz.prog 61 #[.int .i64 (l.length : Nat)] W fun e w' => e = .returned (.string (ba (Lib.itoa l.length))) ∧ Below W.heap.size W w') := fun W hB => itoa_any l.length hf.1 W (hm.below hB).2
  obtain ⟨J, hJ⟩ : ∃ J, J = ba (Lib.itoa l.length) := ⟨_, rfl⟩
  dsimp only
  rw [← hJ] at HI ⊢
  have HB : Hid (base ≤ w.heap.size) := hb
  obtain ⟨a, c, rfl⟩ := ho.slice
  clear ho hb hf hm hJ
  obtain ⟨kind, ma, mb, bg, en, ex, al, on, mks, ots, frm, upto⟩ := m
  dsimp only at hk
  subst hk
  unfold Md.cells
  go_enter Tryz.func26, Tryz.ntmps26
  go_wp2_with fail
  refine (HI.out _ ((Below.refl _ w).alloc (Nat.le_refl _) _)).mono ?_
  rintro e w1 ⟨rfl, h1⟩
  have HZ1 : Hid (Below w.heap.size w w1) := ((Below.refl _ w).alloc (Nat.le_refl _) _).trans (h1.mono (by simp))
  clear h1
  go_wp2
  go_ret
  exact ⟨.of_below (HZ1.out.alloc HZ1.out.size _), _, rfl, own_one (Nat.le_trans HB.out HZ1.out.size)⟩
set_option maxRecDepth 20000 in
set_option maxHeartbeats 1600000 in
theorem ofAllU_pick (m : Md) (hk : m.kind = ⟨#[91]⟩) (f1 : -1000000000000000000 < m.frm) (f2 : m.frm < 1000000000000000000) (t1 : -1000000000000000000 < m.upto) (t2 : m.upto < 1000000000000000000) : OfAllU m (fun l => pieceL m.frm m.upto l) := by
  intro base v l w ho hf hm hb
  have HI : Hid (∀ W, OwnW base W v l → Calls Tryz.prog 62 #[v, .int .i64 m.frm, .int .i64 m.upto] W fun e w' => X.Fr (fun j => v.ownBlock = some j) W w' ∧ ∃ v', e = .returned v' ∧ OwnW base w' v' (pieceL m.frm m.upto l)) := fun W h => piece_any v m.frm m.upto l base W h hf.1 f1 f2 t1 t2
  obtain ⟨J, hJ⟩ : ∃ J, J = pieceL m.frm m.upto l := ⟨_, rfl⟩
  dsimp only
  rw [← hJ] at HI ⊢
  have HO : Hid (OwnW base w v l) := ho
  obtain ⟨a, c, rfl⟩ := ho.slice
  clear ho hb hf hm hJ f1 f2 t1 t2
  obtain ⟨kind, ma, mb, bg, en, ex, al, on, mks, ots, frm, upto⟩ := m
  dsimp only at hk
  subst hk
  unfold Md.cells
  dsimp only at HI
  go_enter Tryz.func26, Tryz.ntmps26
  go_wp2_with fail
  refine (HI.out _ (HO.out.below ((Below.refl _ w).alloc (Nat.le_refl _) _))).mono ?_
  rintro e w1 ⟨h1, v2, rfl, h2⟩
  have HZ1 : Hid (X.Fr (fun j => (Value.slice a l.length c).ownBlock = some j) w w1 ∧ OwnW base w1 v2 J) := ⟨(fr_alloc w _).trans h1, h2⟩
  clear h1 h2
  go_wp2
  go_ret
  exact ⟨HZ1.out.1, _, rfl, HZ1.out.2⟩
end Go.Proofs.YtpcpcfnmcfjomaaGreatDoor
namespace Go.Proofs.YtpcpcfnmcfjomaaGreatDoor
open Go.RowKit Go.Shelf Go.Sort
theorem few_all {r : List ByteArray} (h : Few r) : r.length ≤ 1000000 ∧ ∀ y ∈ r, y.size ≤ 1000000 :=
  ⟨by have := h.1; omega, fun y hy => by have := size_mem hy; have := h.2; omega⟩
theorem few_sub {l r : List ByteArray} (hl : r.length ≤ l.length) (h : ∀ y ∈ r, y ∈ l) (hf : Few l) : r.length ≤ 1000000 ∧ ∀ y ∈ r, y.size ≤ 1000000 :=
  ⟨by have := hf.1; omega, fun y hy => (few_all hf).2 y (h y hy)⟩
theorem piece_sub (f t : Int) (l : List ByteArray) : (pieceL f t l).length ≤ l.length ∧ ∀ y ∈ pieceL f t l, y ∈ l := by
  unfold pieceL
  split
  · exact ⟨Nat.zero_le _, fun y hy => by simp at hy⟩
  · split
    · exact ⟨by simp; omega, fun y hy => List.mem_of_mem_drop (List.mem_of_mem_take hy)⟩
    · exact ⟨by simp; omega, fun y hy => List.mem_of_mem_drop (List.mem_of_mem_take (List.mem_reverse.1 hy))⟩
theorem itoa_size (n : Nat) (hn : n ≤ 4096) : (ba (Lib.itoa n)).size ≤ 1000000 := by
  have := Lib.itoa_length_le n (by omega) (by omega)
  rw [ba_size]; omega
open Classical in
noncomputable def semU (u : Um) : List ByteArray → Option (List ByteArray) :=
  if u.md.kind = ⟨#[77]⟩ then foldA (actM u.md) [] false else
  if u.md.kind = ⟨#[78]⟩ then foldA (actN u.md) [] false else
  if u.md.kind = ⟨#[61]⟩ then foldA (actE u.md) [] false else
  if u.md.kind = ⟨#[84]⟩ then foldA (actF nameB) [] false else
  if u.md.kind = ⟨#[72]⟩ then foldA (actF dirB) [] false else
  if u.md.kind = ⟨#[69]⟩ then foldA (actO sufO) [] false else
  if u.md.kind = ⟨#[82]⟩ then foldA (actF rootB) [] false else
  if u.md.kind = ⟨#[79]⟩ then fun l => fewO (sortedL l) else
  if u.md.kind = ⟨#[79, 114]⟩ then fun l => fewO (sortedL l).reverse else
  if u.md.kind = ⟨#[117]⟩ then fun l => fewO (compactL l) else
  if u.md.kind = ⟨#[114]⟩ then fun l => fewO l.reverse else
  if u.md.kind = ⟨#[116, 108]⟩ then foldA (actF (caseB 65 97)) [] false else
  if u.md.kind = ⟨#[116, 117]⟩ then foldA (actF (caseB 97 65)) [] false else
  if u.md.kind = ⟨#[81]⟩ then fun l => fewO [quoteB l] else
  if u.md.kind = ⟨#[35]⟩ then fun l => fewO [ba (Lib.itoa l.length)] else
  if u.md.kind = ⟨#[42]⟩ then fun l => fewO (if l = [] then [] else [WD.joined l]) else
  if u.md.kind = ⟨#[91]⟩ then fun l => fewO (pieceL u.md.frm u.md.upto l) else
  fun _ => none
theorem kind_ne {a b : Array UInt8} (h : a ≠ b) : ¬ (⟨a⟩ : ByteArray) = ⟨b⟩ := fun e => h (congrArg ByteArray.data e)
theorem sem_m (p : ByteArray) : semU { md := { kind := ⟨#[77]⟩, a := p } } = foldA (actM { kind := ⟨#[77]⟩, a := p }) [] false := by
  unfold semU
  rw [if_pos rfl]
theorem sem_n (p : ByteArray) : semU { md := { kind := ⟨#[78]⟩, a := p } } = foldA (actN { kind := ⟨#[78]⟩, a := p }) [] false := by
  unfold semU
  rw [if_neg (kind_ne (by decide))]
  rw [if_pos rfl]
theorem sem_e (a b : ByteArray) : semU { md := { kind := ⟨#[61]⟩, a := a, b := b } } = foldA (actE { kind := ⟨#[61]⟩, a := a, b := b }) [] false := by
  unfold semU
  rw [if_neg (kind_ne (by decide))]
  rw [if_neg (kind_ne (by decide))]
  rw [if_pos rfl]
theorem sem_T : semU { md := { kind := ⟨#[84]⟩ } } = foldA (actF nameB) [] false := by
  unfold semU
  rw [if_neg (kind_ne (by decide))]
  rw [if_neg (kind_ne (by decide))]
  rw [if_neg (kind_ne (by decide))]
  rw [if_pos rfl]
theorem sem_H : semU { md := { kind := ⟨#[72]⟩ } } = foldA (actF dirB) [] false := by
  unfold semU
  rw [if_neg (kind_ne (by decide))]
  rw [if_neg (kind_ne (by decide))]
  rw [if_neg (kind_ne (by decide))]
  rw [if_neg (kind_ne (by decide))]
  rw [if_pos rfl]
theorem sem_E : semU { md := { kind := ⟨#[69]⟩ } } = foldA (actO sufO) [] false := by
  unfold semU
  rw [if_neg (kind_ne (by decide))]
  rw [if_neg (kind_ne (by decide))]
  rw [if_neg (kind_ne (by decide))]
  rw [if_neg (kind_ne (by decide))]
  rw [if_neg (kind_ne (by decide))]
  rw [if_pos rfl]
theorem sem_R : semU { md := { kind := ⟨#[82]⟩ } } = foldA (actF rootB) [] false := by
  unfold semU
  rw [if_neg (kind_ne (by decide))]
  rw [if_neg (kind_ne (by decide))]
  rw [if_neg (kind_ne (by decide))]
  rw [if_neg (kind_ne (by decide))]
  rw [if_neg (kind_ne (by decide))]
  rw [if_neg (kind_ne (by decide))]
  rw [if_pos rfl]
theorem sem_O : semU { md := { kind := ⟨#[79]⟩ } } = fun l => fewO (sortedL l) := by
  unfold semU
  rw [if_neg (kind_ne (by decide))]
  rw [if_neg (kind_ne (by decide))]
  rw [if_neg (kind_ne (by decide))]
  rw [if_neg (kind_ne (by decide))]
  rw [if_neg (kind_ne (by decide))]
  rw [if_neg (kind_ne (by decide))]
  rw [if_neg (kind_ne (by decide))]
  rw [if_pos rfl]
theorem sem_Or : semU { md := { kind := ⟨#[79, 114]⟩ } } = fun l => fewO (sortedL l).reverse := by
  unfold semU
  rw [if_neg (kind_ne (by decide))]
  rw [if_neg (kind_ne (by decide))]
  rw [if_neg (kind_ne (by decide))]
  rw [if_neg (kind_ne (by decide))]
  rw [if_neg (kind_ne (by decide))]
  rw [if_neg (kind_ne (by decide))]
  rw [if_neg (kind_ne (by decide))]
  rw [if_neg (kind_ne (by decide))]
  rw [if_pos rfl]
theorem sem_u : semU { md := { kind := ⟨#[117]⟩ } } = fun l => fewO (compactL l) := by
  unfold semU
  rw [if_neg (kind_ne (by decide))]
  rw [if_neg (kind_ne (by decide))]
  rw [if_neg (kind_ne (by decide))]
  rw [if_neg (kind_ne (by decide))]
  rw [if_neg (kind_ne (by decide))]
  rw [if_neg (kind_ne (by decide))]
  rw [if_neg (kind_ne (by decide))]
  rw [if_neg (kind_ne (by decide))]
  rw [if_neg (kind_ne (by decide))]
  rw [if_pos rfl]
theorem sem_r : semU { md := { kind := ⟨#[114]⟩ } } = fun l => fewO l.reverse := by
  unfold semU
  rw [if_neg (kind_ne (by decide))]
  rw [if_neg (kind_ne (by decide))]
  rw [if_neg (kind_ne (by decide))]
  rw [if_neg (kind_ne (by decide))]
  rw [if_neg (kind_ne (by decide))]
  rw [if_neg (kind_ne (by decide))]
  rw [if_neg (kind_ne (by decide))]
  rw [if_neg (kind_ne (by decide))]
  rw [if_neg (kind_ne (by decide))]
  rw [if_neg (kind_ne (by decide))]
  rw [if_pos rfl]
theorem sem_tl : semU { md := { kind := ⟨#[116, 108]⟩ } } = foldA (actF (caseB 65 97)) [] false := by
  unfold semU
  rw [if_neg (kind_ne (by decide))]
  rw [if_neg (kind_ne (by decide))]
  rw [if_neg (kind_ne (by decide))]
  rw [if_neg (kind_ne (by decide))]
  rw [if_neg (kind_ne (by decide))]
  rw [if_neg (kind_ne (by decide))]
  rw [if_neg (kind_ne (by decide))]
  rw [if_neg (kind_ne (by decide))]
  rw [if_neg (kind_ne (by decide))]
  rw [if_neg (kind_ne (by decide))]
  rw [if_neg (kind_ne (by decide))]
  rw [if_pos rfl]
theorem sem_tu : semU { md := { kind := ⟨#[116, 117]⟩ } } = foldA (actF (caseB 97 65)) [] false := by
  unfold semU
  rw [if_neg (kind_ne (by decide))]
  rw [if_neg (kind_ne (by decide))]
  rw [if_neg (kind_ne (by decide))]
  rw [if_neg (kind_ne (by decide))]
  rw [if_neg (kind_ne (by decide))]
  rw [if_neg (kind_ne (by decide))]
  rw [if_neg (kind_ne (by decide))]
  rw [if_neg (kind_ne (by decide))]
  rw [if_neg (kind_ne (by decide))]
  rw [if_neg (kind_ne (by decide))]
  rw [if_neg (kind_ne (by decide))]
  rw [if_neg (kind_ne (by decide))]
  rw [if_pos rfl]
theorem sem_Q : semU { md := { kind := ⟨#[81]⟩ } } = fun l => fewO [quoteB l] := by
  unfold semU
  rw [if_neg (kind_ne (by decide))]
  rw [if_neg (kind_ne (by decide))]
  rw [if_neg (kind_ne (by decide))]
  rw [if_neg (kind_ne (by decide))]
  rw [if_neg (kind_ne (by decide))]
  rw [if_neg (kind_ne (by decide))]
  rw [if_neg (kind_ne (by decide))]
  rw [if_neg (kind_ne (by decide))]
  rw [if_neg (kind_ne (by decide))]
  rw [if_neg (kind_ne (by decide))]
  rw [if_neg (kind_ne (by decide))]
  rw [if_neg (kind_ne (by decide))]
  rw [if_neg (kind_ne (by decide))]
  rw [if_pos rfl]
theorem sem_h : semU { md := { kind := ⟨#[35]⟩ } } = fun l => fewO [ba (Lib.itoa l.length)] := by
  unfold semU
  rw [if_neg (kind_ne (by decide))]
  rw [if_neg (kind_ne (by decide))]
  rw [if_neg (kind_ne (by decide))]
  rw [if_neg (kind_ne (by decide))]
  rw [if_neg (kind_ne (by decide))]
  rw [if_neg (kind_ne (by decide))]
  rw [if_neg (kind_ne (by decide))]
  rw [if_neg (kind_ne (by decide))]
  rw [if_neg (kind_ne (by decide))]
  rw [if_neg (kind_ne (by decide))]
  rw [if_neg (kind_ne (by decide))]
  rw [if_neg (kind_ne (by decide))]
  rw [if_neg (kind_ne (by decide))]
  rw [if_neg (kind_ne (by decide))]
  rw [if_pos rfl]
theorem sem_s : semU { md := { kind := ⟨#[42]⟩ } } = fun l => fewO (if l = [] then [] else [WD.joined l]) := by
  unfold semU
  rw [if_neg (kind_ne (by decide))]
  rw [if_neg (kind_ne (by decide))]
  rw [if_neg (kind_ne (by decide))]
  rw [if_neg (kind_ne (by decide))]
  rw [if_neg (kind_ne (by decide))]
  rw [if_neg (kind_ne (by decide))]
  rw [if_neg (kind_ne (by decide))]
  rw [if_neg (kind_ne (by decide))]
  rw [if_neg (kind_ne (by decide))]
  rw [if_neg (kind_ne (by decide))]
  rw [if_neg (kind_ne (by decide))]
  rw [if_neg (kind_ne (by decide))]
  rw [if_neg (kind_ne (by decide))]
  rw [if_neg (kind_ne (by decide))]
  rw [if_neg (kind_ne (by decide))]
  rw [if_pos rfl]
theorem sem_p (f t : Int) : semU { md := { kind := ⟨#[91]⟩, frm := f, upto := t } } = fun l => fewO (pieceL f t l) := by
  unfold semU
  rw [if_neg (kind_ne (by decide))]
  rw [if_neg (kind_ne (by decide))]
  rw [if_neg (kind_ne (by decide))]
  rw [if_neg (kind_ne (by decide))]
  rw [if_neg (kind_ne (by decide))]
  rw [if_neg (kind_ne (by decide))]
  rw [if_neg (kind_ne (by decide))]
  rw [if_neg (kind_ne (by decide))]
  rw [if_neg (kind_ne (by decide))]
  rw [if_neg (kind_ne (by decide))]
  rw [if_neg (kind_ne (by decide))]
  rw [if_neg (kind_ne (by decide))]
  rw [if_neg (kind_ne (by decide))]
  rw [if_neg (kind_ne (by decide))]
  rw [if_neg (kind_ne (by decide))]
  rw [if_neg (kind_ne (by decide))]
  rw [if_pos rfl]
theorem semU_is {N : Nat} (hN : N ≤ 1000) {u : Um} (h : GoodU N u) : AppliesU u (semU u) := by
  cases h with
  | m p hp => rw [sem_m]; exact appliesU_of fun a n c l w h1 h2 h3 h4 => apply_matching _ (actM _) (by simp [fnL]) (does_m _ (by show p.size ≤ _; omega)) a n c l w h1 h2 h3 h4
  | n p hp => rw [sem_n]; exact appliesU_of fun a n c l w h1 h2 h3 h4 => apply_other _ (actN _) (by simp [fnL]) (does_n _ (by show p.size ≤ _; omega)) a n c l w h1 h2 h3 h4
  | word t ht =>
    unfold wordsL at ht
    simp only [List.mem_cons, List.not_mem_nil, or_false] at ht
    rcases ht with rfl | rfl | rfl | rfl | rfl | rfl | rfl | rfl | rfl | rfl | rfl
    · rw [sem_T]; exact appliesU_of fun a n c l w h1 h2 h3 h4 => apply_name _ _ (by simp [fnL]) (does_name _) a n c l w h1 h2 h3 h4
    · rw [sem_H]; exact appliesU_of fun a n c l w h1 h2 h3 h4 => apply_dir _ _ (by simp [fnL]) (does_dir _) a n c l w h1 h2 h3 h4
    · rw [sem_E]; exact appliesU_of fun a n c l w h1 h2 h3 h4 => apply_suffix _ _ (by simp [fnL]) (does_suffix _) a n c l w h1 h2 h3 h4
    · rw [sem_R]; exact appliesU_of fun a n c l w h1 h2 h3 h4 => apply_root _ _ (by simp [fnL]) (does_root _) a n c l w h1 h2 h3 h4
    · rw [sem_O]; exact appliesU_all _ _ (by simp [allL]) (fun l hf => few_all (few_sorted l hf)) (ofAllU_o _ rfl)
    · rw [sem_Or]; exact appliesU_all _ _ (by simp [allL]) (fun l hf => few_all (few_rev _ (few_sorted l hf))) (ofAllU_or _ rfl)
    · rw [sem_u]; exact appliesU_all _ _ (by simp [allL]) (fun l hf => few_all (few_compact l hf)) (ofAllU_u _ rfl)
    · rw [sem_r]; exact appliesU_all _ _ (by simp [allL]) (fun l hf => few_all (few_rev l hf)) (ofAllU_r _ rfl)
    · rw [sem_tl]; exact appliesU_of fun a n c l w h1 h2 h3 h4 => apply_small _ _ (by simp [fnL]) (does_small _) a n c l w h1 h2 h3 h4
    · rw [sem_tu]; exact appliesU_of fun a n c l w h1 h2 h3 h4 => apply_large _ _ (by simp [fnL]) (does_large _) a n c l w h1 h2 h3 h4
    · rw [sem_Q]; exact appliesU_all _ (fun l => [quoteB l]) (by simp [allL]) (fun l hf => ⟨by simp, fun y hy => by simp at hy; rw [hy]; exact quote_few l hf⟩) (ofAllU_q _ rfl)
  | eq a b ha hb => rw [sem_e]; exact appliesU_of fun a' n c l w h1 h2 h3 h4 => apply_endedSo _ (actE _) (by simp [fnL]) (does_e _ (by show a.size ≤ _; omega) (by show b.size ≤ _; omega)) a' n c l w h1 h2 h3 h4
  | count => rw [sem_h]; exact appliesU_all _ (fun l => [ba (Lib.itoa l.length)]) (by simp [allL]) (fun l hf => ⟨by simp, fun y hy => by simp at hy; rw [hy]; exact itoa_size _ hf.1⟩) (ofAllU_hash _ rfl)
  | join => rw [sem_s]; exact appliesU_all _ (fun l => if l = [] then [] else [WD.joined l]) (by simp [allL]) (fun l hf => by
      split
      · exact ⟨by simp, fun y hy => by simp at hy⟩
      · exact ⟨by simp, fun y hy => by simp at hy; rw [hy]; have := few_join l hf; omega⟩) (ofAllU_star _ rfl)
  | pick f t h1 h2 h3 h4 => rw [sem_p]; exact appliesU_all _ (fun l => pieceL f t l) (by simp [allL]) (fun l hf => few_sub (piece_sub f t l).1 (piece_sub f t l).2 hf) (ofAllU_pick _ rfl h1 h2 h3 h4)
end Go.Proofs.YtpcpcfnmcfjomaaGreatDoor
