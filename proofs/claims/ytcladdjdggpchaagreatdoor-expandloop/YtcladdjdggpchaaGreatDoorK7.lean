/-
  Variables in a ring: what is asked for within itself is refused. ExpandLoop at every number and text.
-/
import Derived.Test.YtcladdjdggpchaaGreatDoorK5
namespace Go.Proofs.YtcladdjdggpchaaGreatDoor.Ex
open Go.RowKit Go.Shelf
open V (VS VSet)

def nm (i : Nat) : ByteArray := ⟨#[UInt8.ofNat (97 + i)]⟩
def linkL (s : List UInt8) (c : UInt8) : List UInt8 := s ++ [36, 123, c, 125]
theorem plain_scan (T : List UInt8) : ∀ (l : List UInt8) (p : Nat) (t : List UInt8), (∀ x ∈ l, x ≠ 36) → T.drop p = l ++ t → scanF T T.length ⟨p, [], []⟩ = scanF T T.length ⟨p + l.length, [], []⟩
  | [], p, t, _, _ => rfl
  | x :: r, p, t, h, hd => by
    have hx : x ≠ 36 := h x (by simp)
    obtain ⟨h1, h2, h3⟩ := drop_split hd
    rw [← scan_step T _ ⟨p, [], []⟩ h2 (by simp only; omega), step_out hd hx, plain_scan T r (p + 1) t (fun y hy => h y (by simp [hy])) h3]
    simp only [List.length_cons]
    rw [show p + 1 + r.length = p + (r.length + 1) by omega]
theorem link_scan (s : List UInt8) (c : UInt8) (hs : ∀ x ∈ s, x ≠ 36) (hc : c ≠ 36 ∧ c ≠ 58 ∧ c ≠ 123 ∧ c ≠ 125) : scanL (linkL s c) = [⟨s.length, s.length + 4, s.length + 2, s.length + 3, 0, 0⟩] := by
  obtain ⟨T, hT⟩ : ∃ T, T = linkL s c := ⟨_, rfl⟩
  have hl : T.length = s.length + 4 := by rw [hT]; simp [linkL]
  have h0 : T.drop s.length = [36, 123, c, 125] := by rw [hT]; unfold linkL; rw [List.drop_append_of_le_length (Nat.le_refl _), List.drop_length]; rfl
  unfold scanL scan0
  rw [← hT, plain_scan T s 0 [36, 123, c, 125] hs (by rw [hT]; rfl), Nat.zero_add]
  obtain ⟨g1, g2, g3⟩ := drop_split h0
  obtain ⟨g4, g5, g6⟩ := drop_split g3
  obtain ⟨g7, g8, g9⟩ := drop_split g6
  rw [← scan_step T _ ⟨s.length, [], []⟩ g2 (by simp only; omega), step_dollar h0, begin_br h0 (by decide)]
  rw [← scan_step T _ _ (by simp only; omega) (by simp only; omega)]
  rw [show ([] : List Br) ++ [⟨([] : List Dl).length, 123, clo 123, 0⟩] = [] ++ [⟨0, 123, 125, 0⟩] from rfl]
  rw [step_in (p := s.length + 2) g6 hc.1 ([] ++ [Dl.mk s.length 0 (s.length + 2) 0 0 0]) [] (Br.mk 0 123 125 0) (Dl.mk s.length 0 (s.length + 2) 0 0 0) rfl]
  have i1 : insideF c (s.length + 2) ([] ++ [⟨s.length, 0, s.length + 2, 0, 0, 0⟩]) [] ⟨0, 123, 125, 0⟩ ⟨s.length, 0, s.length + 2, 0, 0, 0⟩ = ([⟨s.length, 0, s.length + 2, 0, 0, 0⟩], [] ++ [⟨0, 123, 125, 0⟩]) := by
    unfold insideF
    rw [if_neg (fun e => hc.2.1 e.1), if_neg hc.2.2.1, if_neg hc.2.2.2]; rfl
  rw [i1]
  dsimp only
  rw [← scan_step T _ _ (by simp only; omega) (by simp only; omega)]
  rw [step_in (p := s.length + 2 + 1) g9 (by decide) [Dl.mk s.length 0 (s.length + 2) 0 0 0] [] (Br.mk 0 123 125 0) (Dl.mk s.length 0 (s.length + 2) 0 0 0) rfl]
  have i2 : insideF 125 (s.length + 2 + 1) [⟨s.length, 0, s.length + 2, 0, 0, 0⟩] [] ⟨0, 123, 125, 0⟩ ⟨s.length, 0, s.length + 2, 0, 0, 0⟩ = ([⟨s.length, s.length + 4, s.length + 2, s.length + 3, 0, 0⟩], []) := by
    unfold insideF
    rw [if_neg (fun e => absurd e.1 (by decide)), if_neg (by decide), if_pos rfl, if_neg (by simp)]
    rfl
  rw [i2]
  dsimp only
  rw [scan_end T _ _ (by simp only; omega)]

theorem ext00 (q : ByteArray) : q.extract 0 0 = E0 := by apply bl_inj; rw [bl_extract]; simp [bl]
/-- A text that ends with a use of one letter means nothing, if that use is refused. -/
theorem link_text (ev : Env) (k : Nat) (within : List ByteArray) (fuel : Nat) (s q : ByteArray) (c : UInt8) (hq : bl q = linkL (bl s) c) (hs : ∀ x ∈ bl s, x ≠ 36) (hc : c ≠ 36 ∧ c ≠ 58 ∧ c ≠ 123 ∧ c ≠ 125) (hsz : s.size ≤ 1000) (hf : 1 ≤ fuel)
    (hv : varF (textG ev k) within (fuel - 1) ⟨#[c]⟩ ((ev.get ⟨#[c]⟩).getD E0) = .err 11) : textG ev (k + 1) within fuel q = .err 11 := by
  have hql : q.size = s.size + 4 := by rw [← bl_length, hq]; simp [linkL, bl_length]
  unfold textG
  rw [hq, link_scan (bl s) c hs hc, bl_length]
  simp only [List.length_singleton]
  have e1 : q.extract (s.size + 2) (s.size + 3) = ⟨#[c]⟩ := by
    apply bl_inj
    rw [bl_extract, hq]
    unfold linkL
    rw [List.take_append, List.take_of_length_le (by rw [bl_length]; omega), show s.size + 3 - (bl s).length = 3 by rw [bl_length]; omega, List.drop_append, List.drop_of_length_le (by rw [bl_length]; omega), show s.size + 2 - (bl s).length = 2 by rw [bl_length]; omega]
    rfl
  have hp : (q.extract 0 s.size).size ≤ 1000 := by
    have := congrArg List.length (bl_extract q 0 s.size)
    rw [bl_length, List.length_drop, List.length_take, bl_length] at this; omega
  unfold meanG
  dsimp only
  rw [if_pos (by omega), if_pos ⟨Nat.zero_le _, by omega⟩]
  unfold addF
  rw [if_neg (by show ¬ 65536 < 0 + _; omega)]
  have hd : dollarF ev (textG ev k) within (fun a b l f => meanG ev (textG ev k) within q 1 E0 a b l f) ⟨s.size, s.size + 4, s.size + 2, s.size + 3, 0, 0⟩ [] fuel = .err 11 := by
    unfold dollarF
    rw [if_neg (by simp only; omega), if_neg (by simp only; omega), if_neg (by omega)]
    have m1 : meanG ev (textG ev k) within q 1 E0 (s.size + 2) (s.size + 3) [] (fuel - 1) = .ok ⟨#[c]⟩ [] (fuel - 1) := by
      unfold meanG endG addF
      dsimp only
      rw [if_pos ⟨by omega, by omega⟩, e1, if_neg (by show ¬ 65536 < 0 + 1; omega)]
      congr 1
    have m2 : meanG ev (textG ev k) within q 1 E0 0 0 [] (fuel - 1) = .ok E0 [] (fuel - 1) := by
      unfold meanG endG addF
      dsimp only
      rw [if_pos ⟨Nat.le_refl _, Nat.zero_le _⟩, ext00, if_neg (by show ¬ 65536 < 0 + 0; omega)]
      congr 1
    dsimp only
    rw [m1]
    dsimp only [Mes.and]
    rw [m2]
    dsimp only
    have hu : useF ev (textG ev k) within (fuel - 1) ⟨#[c]⟩ E0 = .err 11 := by
      unfold useF
      rw [if_neg (by decide), if_neg (by decide), hv]; rfl
    rw [hu]; rfl
  rw [hd]; rfl

/-- The letters from a to t. -/
theorem nm_facts (i : Nat) (hi : i < 20) : V.VS.ok 3 (nm i) = true ∧ (UInt8.ofNat (97 + i) ≠ 36 ∧ UInt8.ofNat (97 + i) ≠ 58 ∧ UInt8.ofNat (97 + i) ≠ 123 ∧ UInt8.ofNat (97 + i) ≠ 125) := by
  have : ∀ j : Fin 20, V.VS.ok 3 (nm j.val) = true ∧ (UInt8.ofNat (97 + j.val) ≠ 36 ∧ UInt8.ofNat (97 + j.val) ≠ 58 ∧ UInt8.ofNat (97 + j.val) ≠ 123 ∧ UInt8.ofNat (97 + j.val) ≠ 125) := by decide +kernel
  exact this ⟨i, hi⟩
theorem nm_inj {i j : Nat} (hi : i < 20) (hj : j < 20) (h : nm i = nm j) : i = j := by
  have : ∀ a b : Fin 20, nm a.val = nm b.val → a = b := by decide +kernel
  have := this ⟨i, hi⟩ ⟨j, hj⟩ h
  exact congrArg Fin.val this
def ringV (s : ByteArray) (n i : Nat) : ByteArray := ba (linkL (bl s) (UInt8.ofNat (97 + (i + 1) % n)))
def ring (s : ByteArray) (n : Nat) : Vr2 := (List.range n).map fun i => (nm i, ringV s n i)
theorem ringV_size (s : ByteArray) (n i : Nat) : (ringV s n i).size = s.size + 4 := by unfold ringV; rw [ba_size]; simp [linkL, bl_length]
theorem ring_has (s : ByteArray) (n : Nat) (hn : n ≤ 20) (hs : s.size ≤ 100) : ∀ k, k ≤ n → (∀ i, i < k → ((putsV VS.none_ ((ring s n).take k)) 3).look (nm i) = some (ringV s n i)) ∧ (∀ j, j ≠ 3 → (putsV VS.none_ ((ring s n).take k)) j = []) ∧ ((putsV VS.none_ ((ring s n).take k)) 3).length ≤ k := by
  intro k
  induction k with
  | zero => intro _; exact ⟨fun i hi => absurd hi (Nat.not_lt_zero _), fun j _ => by simp [putsV, V.VS.none_], by simp [putsV, V.VS.none_]⟩
  | succ k ih =>
    intro hk
    obtain ⟨h1, h2, h3⟩ := ih (by omega)
    have hl : k < (ring s n).length := by simp [ring]; omega
    rw [puts_snoc (ring s n) k hl]
    have hx : (ring s n)[k] = (nm k, ringV s n k) := by simp [ring]
    rw [hx]
    dsimp only
    have hok := (nm_facts k (by omega)).1
    have hsz := ringV_size s n k
    obtain ⟨S, hS⟩ : ∃ S, S = putsV VS.none_ ((ring s n).take k) := ⟨_, rfl⟩
    rw [← hS] at h1 h2 h3 ⊢
    have hp : S.put 3 (nm k) (ringV s n k) = (S.upd 3 ((S 3).set (nm k) (ringV s n k)), 0) := by
      unfold V.VS.put V.VS.give
      rw [hok, if_pos rfl, if_neg (by rintro (e | e); · omega
                                      · omega)]
    rw [hp]
    dsimp only
    refine ⟨fun i hi => ?_, fun j hj => ?_, ?_⟩
    · rw [V.VS.upd_same]
      by_cases hik : i = k
      · subst hik; exact V.Sc.look_set_same _ _ _
      · rw [V.Sc.look_set_other _ _ _ _ (fun e => hik (nm_inj (by omega) (by omega) e))]
        exact h1 i (by omega)
    · rw [V.VS.upd_other _ _ hj]; exact h2 j hj
    · rw [V.VS.upd_same, V.Sc.length_set]; split <;> omega
theorem ring_get (s : ByteArray) (n i : Nat) (hn : n ≤ 20) (hs : s.size ≤ 100) (hi : i < n) : (putsV VS.none_ (ring s n)).get (nm i) = some (ringV s n i) := by
  obtain ⟨h1, h2, _⟩ := ring_has s n hn hs n (Nat.le_refl _)
  have ht : (ring s n).take n = ring s n := List.take_of_length_le (by simp [ring])
  rw [ht] at h1 h2
  unfold V.VS.get
  rw [h2 1 (by decide), h2 2 (by decide), h1 i hi]
  rfl
theorem in_names {i m : Nat} (hm : m ≤ 20) (hi : i < 20) : isIn ((List.range m).map nm) (nm i) = decide (i < m) := by
  unfold isIn
  rw [Bool.eq_iff_iff, List.any_eq_true, decide_eq_true_eq]
  constructor
  · rintro ⟨y, h1, h2⟩
    obtain ⟨j, hj, rfl⟩ := List.mem_map.1 h1
    rw [List.mem_range] at hj
    have := nm_inj (by omega) hi (of_decide_eq_true h2)
    omega
  · intro h; exact ⟨nm i, List.mem_map.2 ⟨i, List.mem_range.2 h, rfl⟩, by simp⟩
theorem ar1 {r f z m : Nat} (h : 110 * (r + 1) + 110 ≤ f) (hz : z = m + 4) (hm : m ≤ 100) : 110 * r + 110 ≤ f - 1 - z := by omega
theorem ar2 {r f z m : Nat} (h : 110 * (r + 1) + 110 ≤ f) (hz : z = m + 4) (hm : m ≤ 100) : ¬ f - 1 < z := by omega
theorem ar3 {n z m : Nat} (h1 : 1 ≤ n) (h2 : n ≤ 20) (hz : z = m + 4) (hm : m ≤ 100) : 110 * (n - 1) + 110 ≤ 99999 - z := by omega
theorem ar4 {z m : Nat} (hz : z = m + 4) (hm : m ≤ 100) : ¬ 99999 < z := by omega
set_option maxHeartbeats 800000 in
/-- From each variable on the ring is refused. -/
theorem ring_err (s : ByteArray) (n : Nat) (hn1 : 1 ≤ n) (hn : n ≤ 20) (hs : s.size ≤ 100) (h36 : ∀ x ∈ bl s, x ≠ 36) : ∀ (r i k fuel : Nat), i + r + 1 = n → r < k → 110 * r + 110 ≤ fuel →
    textG (envOf (putsV VS.none_ (ring s n))) k ((List.range (i + 1)).map nm) fuel (ringV s n i) = .err 11 := by
  intro r
  induction r with
  | zero =>
    intro i k fuel hi hk hf
    obtain ⟨k, rfl⟩ : ∃ k', k = k' + 1 := ⟨k - 1, by omega⟩
    have hm : (i + 1) % n = 0 := by rw [show i + 1 = n by omega]; exact Nat.mod_self n
    refine link_text _ k _ fuel s _ _ (by unfold ringV; rw [bl_ba]) h36 (by rw [hm]; decide) (by omega) (by omega) ?_
    have hin : isIn ((List.range (i + 1)).map nm) ⟨#[UInt8.ofNat (97 + (i + 1) % n)]⟩ = true := by
      rw [hm]; exact (in_names (i := 0) (m := i + 1) (by omega) (by omega)).trans (by simp)
    unfold varF
    rw [if_pos (.inr hin)]
  | succ r ih =>
    intro i k fuel hi hk hf
    obtain ⟨k, rfl⟩ : ∃ k', k = k' + 1 := ⟨k - 1, by omega⟩
    have hm : (i + 1) % n = i + 1 := Nat.mod_eq_of_lt (by omega)
    refine link_text _ k _ fuel s _ _ (by unfold ringV; rw [bl_ba]) h36 (by rw [hm]; exact (nm_facts (i + 1) (by omega)).2) (by omega) (by omega) ?_
    rw [hm]
    have hg : (envOf (putsV VS.none_ (ring s n))).get ⟨#[UInt8.ofNat (97 + (i + 1))]⟩ = some (ringV s n (i + 1)) := ring_get s n (i + 1) hn hs (by omega)
    rw [hg]
    unfold varF
    have hin : isIn ((List.range (i + 1)).map nm) ⟨#[UInt8.ofNat (97 + (i + 1))]⟩ = false := (in_names (i := i + 1) (m := i + 1) (by omega) (by omega)).trans (by simp)
    have hz := ringV_size s n (i + 1)
    have hno : ¬ (((List.range (i + 1)).map nm).length = 32 ∨ isIn ((List.range (i + 1)).map nm) ⟨#[UInt8.ofNat (97 + (i + 1))]⟩ = true) := by
      rw [hin, List.length_map, List.length_range]
      rintro (e | e)
      · omega
      · cases e
    rw [if_neg hno]
    simp only [Option.getD_some]
    have hfz : ¬ fuel - 1 < (ringV s n (i + 1)).size := ar2 hf hz hs
    rw [if_neg hfz]
    have hw : (List.range (i + 1)).map nm ++ [⟨#[UInt8.ofNat (97 + (i + 1))]⟩] = (List.range (i + 1 + 1)).map nm := by
      rw [List.range_succ (n := i + 1), List.map_append]; rfl
    rw [hw]
    have hfi : 110 * r + 110 ≤ fuel - 1 - (ringV s n (i + 1)).size := ar1 hf hz hs
    exact ih (i + 1) k _ (by omega) (by omega) hfi
theorem loop_text (s : ByteArray) (n : Nat) (hn1 : 1 ≤ n) (hn : n ≤ 20) (hs : s.size ≤ 100) (h36 : ∀ x ∈ bl s, x ≠ 36) : textG (envOf (putsV VS.none_ (ring s n))) 34 [] 100000 ⟨#[36, 97]⟩ = .err 11 := by
  have hsc : scanL (bl ⟨#[36, 97]⟩) = [⟨0, 2, 1, 2, 0, 0⟩] := by kernel_rfl
  have hv : varF (textG (envOf (putsV VS.none_ (ring s n))) 33) [] 99999 ⟨#[97]⟩ (((envOf (putsV VS.none_ (ring s n))).get ⟨#[97]⟩).getD E0) = .err 11 := by
    have hg : (envOf (putsV VS.none_ (ring s n))).get ⟨#[97]⟩ = some (ringV s n 0) := ring_get s n 0 hn hs (by omega)
    rw [hg]
    unfold varF
    have hz := ringV_size s n 0
    rw [if_neg (by rintro (e | e); · simp at e
                   · simp [isIn] at e)]
    simp only [Option.getD_some]
    rw [if_neg (ar4 hz hs)]
    have hw0 : ([] : List ByteArray) ++ [⟨#[97]⟩] = (List.range (0 + 1)).map nm := by kernel_rfl
    rw [hw0]
    have hfz : 110 * (n - 1) + 110 ≤ 99999 - (ringV s n 0).size := ar3 hn1 hn hz hs
    exact ring_err s n hn1 hn hs h36 (n - 1) 0 33 _ (by omega) (by omega) hfz
  unfold textG
  rw [hsc]
  simp only [List.length_singleton]
  unfold meanG
  dsimp only
  rw [if_pos (by decide), if_pos ⟨Nat.le_refl _, by decide⟩]
  unfold addF
  rw [ext00, if_neg (by decide)]
  have hd : dollarF (envOf (putsV VS.none_ (ring s n))) (textG (envOf (putsV VS.none_ (ring s n))) 33) [] (fun a b l f => meanG (envOf (putsV VS.none_ (ring s n))) (textG (envOf (putsV VS.none_ (ring s n))) 33) [] ⟨#[36, 97]⟩ 1 E0 a b l f) ⟨0, 2, 1, 2, 0, 0⟩ [] 100000 = .err 11 := by
    unfold dollarF
    rw [if_neg (by decide), if_neg (by decide), if_neg (by decide)]
    have m1 : meanG (envOf (putsV VS.none_ (ring s n))) (textG (envOf (putsV VS.none_ (ring s n))) 33) [] ⟨#[36, 97]⟩ 1 E0 1 2 [] (100000 - 1) = .ok ⟨#[97]⟩ [] 99999 := by
      unfold meanG endG addF; kernel_rfl
    have m2 : meanG (envOf (putsV VS.none_ (ring s n))) (textG (envOf (putsV VS.none_ (ring s n))) 33) [] ⟨#[36, 97]⟩ 1 E0 0 0 [] 99999 = .ok E0 [] 99999 := by
      unfold meanG endG addF; kernel_rfl
    dsimp only
    rw [m1]
    dsimp only [Mes.and]
    rw [m2]
    dsimp only
    have hu : useF (envOf (putsV VS.none_ (ring s n))) (textG (envOf (putsV VS.none_ (ring s n))) 33) [] 99999 ⟨#[97]⟩ E0 = .err 11 := by
      unfold useF
      rw [if_neg (by decide), if_neg (by decide), hv]; rfl
    rw [hu]; rfl
  rw [hd]; rfl
end Go.Proofs.YtcladdjdggpchaaGreatDoor.Ex
namespace Go.Proofs.YtcladdjdggpchaaGreatDoor.Ex
open Go.RowKit Go.Shelf
open V (VS VSet)

theorem conv_any (x b : Nat) (w : World) (hblk : w.heap[b]? = some (.cells #[.int .u8 (97 + (x : Int))] 5)) (h1 : x ≤ 20) : (convert 46 9 (.slice (some ⟨b, 0, none⟩) 1 1)).run Tryz.prog w = .ok (.string ⟨#[UInt8.ofNat (97 + x)]⟩) w := by
  refine run_convert_bytes_back _ 46 9 5 ⟨b, 0, none⟩ 1 [UInt8.ofNat (97 + x)] Tryz.underlying46 Tryz.underlying5 Tryz.underlying9 fun i hi => ?_
  have hi3 : i = 0 := by have : i < 1 := hi; omega
  subst hi3
  rw [V.add_none, V.cell_in hblk 0 rfl]
  simp
  omega
theorem heap3 (w : World) (o1 o2 o3 : Obj) {q : Nat} (hq : q < w.heap.size) : (((w.alloc o1).alloc o2).alloc o3).drew.heap[q]? = w.heap[q]? := by
  show (((w.alloc o1).alloc o2).alloc o3).heap[q]? = _
  rw [Below.heap_alloc _ _ _ (by simp; omega), Below.heap_alloc _ _ _ (by simp; omega), Below.heap_alloc _ _ _ hq]
theorem cells3 (w : World) (o1 o2 : Obj) (x y : Value) : ∀ q u, [x, y][q]? = some u → (((w.alloc o1).alloc o2).alloc (.cells #[x, y] 48)).drew.cell? ((⟨w.heap.size + 1 + 1, 0, none⟩ : Addr).add q) = some u := by
  have hb : (((w.alloc o1).alloc o2).alloc (.cells #[x, y] 48)).drew.heap[w.heap.size + 1 + 1]? = some (.cells #[x, y] 48) := by
    have := heap_alloc_new ((w.alloc o1).alloc o2) (.cells #[x, y] 48)
    rw [show ((w.alloc o1).alloc o2).heap.size = w.heap.size + 1 + 1 by simp] at this
    exact this
  intro q u h
  match q, h with
  | 0, h => simp at h; subst h; rw [V.add_none]; exact V.cell_in hb 0 rfl
  | 1, h => simp at h; subst h; rw [V.add_none]; exact V.cell_in hb 1 rfl
def varsC (l : Vr2) : List Value := l.flatMap fun x => [.string x.1, .string x.2]
theorem ringV_eq (s : ByteArray) (n i : Nat) : ringV s n i = s ++ ⟨#[36, 123]⟩ ++ ⟨#[UInt8.ofNat (97 + (i + 1) % n)]⟩ ++ ⟨#[125]⟩ := by
  unfold ringV linkL
  rw [← ba_bl (s ++ ⟨#[36, 123]⟩ ++ ⟨#[UInt8.ofNat (97 + (i + 1) % n)]⟩ ++ ⟨#[125]⟩)]
  simp [bl, ByteArray.data_append]
theorem ring_next (s : ByteArray) (n i : Nat) (hi : i < n) : varsC ((ring s n).take (i + 1)) = varsC ((ring s n).take i) ++ [.string ⟨#[UInt8.ofNat (97 + i)]⟩, .string (s ++ ⟨#[36, 123]⟩ ++ ⟨#[UInt8.ofNat (97 + (i + 1) % n)]⟩ ++ ⟨#[125]⟩)] := by
  have h : (ring s n)[i]? = some (nm i, ringV s n i) := by simp [ring, hi]
  rw [List.take_add_one, h, ← ringV_eq]
  unfold varsC
  rw [List.flatMap_append]
  rfl
theorem varsC_at : ∀ (l : Vr2) (i : Nat) (h : i < l.length), (varsC l)[i * 2]? = some (.string l[i].1) ∧ (varsC l)[i * 2 + 1]? = some (.string l[i].2)
  | [], i, h => absurd h (Nat.not_lt_zero _)
  | x :: l, 0, h => ⟨rfl, rfl⟩
  | x :: l, i + 1, h => by
    have h2 := varsC_at l i (by simpa using h)
    rw [show (i + 1) * 2 = i * 2 + 1 + 1 by omega]
    exact h2
theorem varsAt_of {base : Nat} {w : World} {a : Option Addr} {n c : Nat} {l : Vr2} (hn : l.length = n) (h : w.ownsRow base 48 2 (.slice a n c) n (varsC l)) : VarsAt w.heap.size w (.slice a n c) l := by
  refine ⟨a, n, c, rfl, hn.symm, fun i hi => ?_⟩
  obtain ⟨hlen, hx⟩ := h
  rcases hx with ⟨_, h0⟩ | ⟨g, cap, cur, hv, hg, hb, hnc, hcm, hcs, ht⟩
  · omega
  · simp only [Value.slice.injEq] at hv
    obtain ⟨rfl, _, rfl⟩ := hv
    have hget : ∀ q u, (varsC l)[q]? = some u → w.cell? ⟨g, q, none⟩ = some u := fun q u hu => by
      rw [← ht, List.getElem?_take] at hu
      split at hu
      · exact V.cell_in hb q (by rw [← Array.getElem?_toList]; exact hu)
      · cases hu
    refine ⟨g, 0, rfl, (Array.getElem?_eq_some_iff.1 hb).1, ?_, ?_⟩
    · rw [Nat.zero_add]; exact hget _ _ (varsC_at l i hi).1
    · rw [Nat.zero_add]; exact hget _ _ (varsC_at l i hi).2
theorem ring_fine (s : ByteArray) (n : Nat) (hs : s.size ≤ 100) : ∀ x ∈ ring s n, x.1.size ≤ 140737488355328 ∧ x.2.size ≤ 140737488355328 := by
  intro x hx
  unfold ring at hx
  obtain ⟨q, hq, rfl⟩ := List.mem_map.1 hx
  exact ⟨by show 1 ≤ _; decide, by show (ringV s n q).size ≤ _; rw [ringV_size]; omega⟩
theorem infoVar : (Tryz.prog.info? 48).map (fun i => (i.zero, i.size, i.bytes)) = some (some (.agg #[.string ⟨#[]⟩, .string ⟨#[]⟩]), 2, 32) := by kernel_rfl
set_option maxRecDepth 20000 in
set_option maxHeartbeats 2000000 in
theorem loop_law (mn : Nat) (hmn : mn ≤ 255) (s : ByteArray) (w : World) (hs : s.size ≤ 140737488355328) (hmx : Mx w) :
    Calls Tryz.prog 7 #[.int .u8 (mn : Int), .string s] w fun e w' => e = .returned (.bool true) ∧ Below w.heap.size w w' := by
  obtain ⟨i0, hi0, hz0, hz1, hz2⟩ := info_of infoVar
  have HA : Hid (∀ W, Below w.heap.size w W → Calls Tryz.prog 8 #[] W fun e w' => e = .returned (.bool true) ∧ Below W.heap.size W w') := fun W hW => alive_any W (hmx.below hW hmx.pos)
  have HM : Hid (∀ W, Below w.heap.size w W → Mx W) := fun W hW => hmx.below hW hmx.pos
  obtain ⟨n, hn⟩ : ∃ n : Nat, n = mn % 20 + 1 := ⟨_, rfl⟩
  have hnt : (mn : Int) % 20 + 1 = (n : Int) := by rw [hn]; omega
  have hn1 : 1 ≤ n := by omega
  have hn2 : n ≤ 20 := by omega
  clear hn
  go_enter Tryz.func7, Tryz.ntmps7
  go_wp2_with fail
  go_loopw [6] (fun v6 wr => ∃ k : Nat, k ≤ s.size ∧ v6 = .int .i64 (k : Int) ∧ wr = w ∧ Hid (∀ j (h : j < s.size), j < k → s[j] ≠ 36)) (fun v6 _ => s.size - (intOf v6).toNat)
  case atStart => exact ⟨0, Nat.zero_le _, rfl, rfl, fun j _ h => absurd h (Nat.not_lt_zero _)⟩
  case round =>
    obtain ⟨k, hk, rfl, rfl, HK⟩ := hrel
    rename World => w
    by_cases hlt : k < s.size
    · have hil : (k : Int) < (s.size : Int) := by omega
      by_cases hx : s[k] = 36
      · have hxn : (s[k]).toNat = 36 := by rw [hx]; rfl
        clear hx
        go_wp2_with fail
        refine (HA.out _ (Below.refl _ _)).mono ?_
        rintro e w7 ⟨rfl, hb7⟩
        go_wp2
        go_ret
        exact ⟨rfl, hb7⟩
      · obtain ⟨xn, hxe⟩ : ∃ xn, xn = (s[k]).toNat := ⟨_, rfl⟩
        have hxp : (s[k]).toNat = xn := hxe.symm
        have hx1 : ¬ (xn : Int) = 36 := fun e => hx (UInt8.toNat_inj.mp (by rw [← hxe]; show xn = 36; omega))
        have hx2 : ((xn : Int) == 36) = false := by rw [beq_eq_false_iff_ne]; exact hx1
        have HK2 : Hid (∀ j (h : j < s.size), j < k + 1 → s[j] ≠ 36) := fun j h hj => by
          by_cases e : j = k
          · subst e; exact hx
          · exact HK.out j h (by omega)
        clear hx hxe
        go_wp2_with fail
        go_roundw
        case rel => exact ⟨k + 1, by omega, by go_num, by first | rfl | trivial, HK2⟩
        case measure => simp [intOf]; omega
    · have hil : ¬ (k : Int) < (s.size : Int) := by omega
      have H36 : Hid (∀ x ∈ bl s, x ≠ 36) := fun x hx => by
        obtain ⟨j, hj, rfl⟩ := List.getElem_of_mem hx
        rw [bl_length] at hj
        exact HK.out j hj (by omega)
      clear HK
      by_cases hlong : s.size ≤ 100
      · have hli : ¬ (100 : Int) < (s.size : Int) := by omega
        go_wp2_with fail
        go_loopw [7, 34] (fun v7 v34 WR => ∃ (i : Nat) (a7 : Option Addr) (c7 : Nat), i ≤ n ∧ v7 = .slice a7 i c7 ∧ v34 = .int .i64 (i : Int) ∧ Hid (WR.ownsRow w.heap.size 48 2 (.slice a7 i c7) i (varsC ((ring s n).take i)) ∧ Below w.heap.size w WR)) (fun _ v34 _ => n - (intOf v34).toNat)
        case atStart => exact ⟨0, none, 0, Nat.zero_le _, rfl, rfl, World.ownsRow_nil _ _ _ _, Below.refl _ _⟩
        case round =>
          obtain ⟨i, a7, c7, hi, rfl, rfl, HI⟩ := hrel
          rename World => w2
          by_cases hin : i < n
          · have hii : (i : Int) < (n : Int) := by omega
            obtain ⟨j, hj⟩ : ∃ j, j = (i + 1) % n := ⟨_, rfl⟩
            have hjn : j < n := by rw [hj]; exact Nat.mod_lt _ (by omega)
            have hmod : ((i : Int) + 1) % (n : Int) = (j : Int) := by rw [hj, Int.natCast_emod]; rfl
            have hn0 : ¬ (n : Int) = 0 := by omega
            have hu1 : IntKind.u8.wrap (97 + (i : Int)) = 97 + (i : Int) := by rw [IntKind.wrap_u8]; omega
            have hu2 : IntKind.u8.wrap (97 + (j : Int)) = 97 + (j : Int) := by rw [IntKind.wrap_u8]; omega
            have hv1 : IntKind.i64.wrap (97 + (i : Int)) = 97 + (i : Int) := by rw [IntKind.wrap_i64]; omega
            have hv2 : IntKind.i64.wrap (97 + (j : Int)) = 97 + (j : Int) := by rw [IntKind.wrap_i64]; omega
            have hv3 : IntKind.i64.wrap ((i : Int) + 1) = (i : Int) + 1 := by rw [IntKind.wrap_i64]; omega
            have hv4 : IntKind.i64.wrap (j : Int) = (j : Int) := by rw [IntKind.wrap_i64]; omega
            have htm : ((i : Int) + 1).tmod (n : Int) = (j : Int) := by rw [Int.tmod_eq_emod_of_nonneg (by omega)]; exact hmod
            have hn0' : ¬ n = 0 := by omega
            have hq1 : ¬ 9223372036854775807 < s.size + 2 := by omega
            have hq2 : ¬ 9223372036854775807 < s.size + 2 + 1 := by omega
            have hq3 : ¬ 9223372036854775807 < s.size + 3 := by omega
            have hq4 : ¬ 9223372036854775807 < s.size + 2 + 1 + 1 := by omega
            have hq5 : ¬ 9223372036854775807 < s.size + 4 := by omega
            obtain ⟨cA, hcA⟩ : ∃ c, c = UInt8.ofNat (97 + i) := ⟨_, rfl⟩
            obtain ⟨cB, hcB⟩ : ∃ c, c = UInt8.ofNat (97 + j) := ⟨_, rfl⟩
            have HJ : Hid (j = (i + 1) % n) := hj
            clear hj
            have HO : Hid (∀ o1 o2 o3, (((w2.alloc o1).alloc o2).alloc o3).drew.ownsRow w.heap.size 48 2 (.slice a7 i c7) i (varsC ((ring s n).take i))) := fun o1 o2 o3 => HI.out.1.kept (row := none) ⟨rfl, rfl, rfl, by simp; omega, fun q hq _ => heap3 w2 o1 o2 o3 hq⟩ (Classical.em _)
            have HN : Hid (∀ o1 o2 x y, ∀ q u, [x, y][q]? = some u → (((w2.alloc o1).alloc o2).alloc (.cells #[x, y] 48)).drew.cell? ((⟨w2.heap.size + 1 + 1, 0, none⟩ : Addr).add q) = some u) := fun o1 o2 x y => cells3 w2 o1 o2 x y
            have c1 : (convert 46 9 (.slice (some ⟨w2.heap.size, 0, none⟩) 1 1)).run Tryz.prog (w2.alloc (.cells #[.int .u8 (97 + (i : Int))] 5)).drew = .ok (.string ⟨#[UInt8.ofNat (97 + i)]⟩) (w2.alloc (.cells #[.int .u8 (97 + (i : Int))] 5)).drew := conv_any i _ _ (heap_alloc_new w2 _) (by omega)
            have c2 : (convert 46 9 (.slice (some ⟨w2.heap.size, 0, none⟩) 1 1)).run Tryz.prog (w2.alloc (.cells #[.int .u8 (97 + (j : Int))] 5)).drew = .ok (.string ⟨#[UInt8.ofNat (97 + j)]⟩) (w2.alloc (.cells #[.int .u8 (97 + (j : Int))] 5)).drew := conv_any j _ _ (heap_alloc_new w2 _) (by omega)
            have c3 : (convert 46 9 (.slice (some ⟨w2.heap.size, 0, none⟩) 1 1)).run Tryz.prog ((w2.alloc (.cells #[.int .u8 (97 + (i : Int))] 5)).alloc (.cells #[.int .u8 (97 + (j : Int))] 5)).drew = .ok (.string ⟨#[UInt8.ofNat (97 + i)]⟩) ((w2.alloc (.cells #[.int .u8 (97 + (i : Int))] 5)).alloc (.cells #[.int .u8 (97 + (j : Int))] 5)).drew := conv_any i _ _ ((Below.heap_alloc _ _ _ (by simp)).trans (heap_alloc_new w2 _)) (by omega)
            have c4 : (convert 46 9 (.slice (some ⟨w2.heap.size + 1, 0, none⟩) 1 1)).run Tryz.prog ((w2.alloc (.cells #[.int .u8 (97 + (i : Int))] 5)).alloc (.cells #[.int .u8 (97 + (j : Int))] 5)).drew = .ok (.string ⟨#[UInt8.ofNat (97 + j)]⟩) ((w2.alloc (.cells #[.int .u8 (97 + (i : Int))] 5)).alloc (.cells #[.int .u8 (97 + (j : Int))] 5)).drew := conv_any j _ _ (heap_alloc_new' (w := w2)) (by omega)
            have c5 : (convert 46 9 (.slice (some ⟨w2.heap.size, 0, none⟩) 1 1)).run Tryz.prog ((w2.alloc (.cells #[.int .u8 (97 + (j : Int))] 5)).alloc (.cells #[.int .u8 (97 + (i : Int))] 5)).drew = .ok (.string ⟨#[UInt8.ofNat (97 + j)]⟩) ((w2.alloc (.cells #[.int .u8 (97 + (j : Int))] 5)).alloc (.cells #[.int .u8 (97 + (i : Int))] 5)).drew := conv_any j _ _ ((Below.heap_alloc _ _ _ (by simp)).trans (heap_alloc_new w2 _)) (by omega)
            have c6 : (convert 46 9 (.slice (some ⟨w2.heap.size + 1, 0, none⟩) 1 1)).run Tryz.prog ((w2.alloc (.cells #[.int .u8 (97 + (j : Int))] 5)).alloc (.cells #[.int .u8 (97 + (i : Int))] 5)).drew = .ok (.string ⟨#[UInt8.ofNat (97 + i)]⟩) ((w2.alloc (.cells #[.int .u8 (97 + (j : Int))] 5)).alloc (.cells #[.int .u8 (97 + (i : Int))] 5)).drew := conv_any i _ _ (heap_alloc_new' (w := w2)) (by omega)
            rw [← hcA] at c1 c3 c6
            rw [← hcB] at c2 c4 c5
            have HC : Hid (cA = UInt8.ofNat (97 + i) ∧ cB = UInt8.ofNat (97 + j)) := ⟨hcA, hcB⟩
            clear hcA hcB
            have HX : Hid (∀ (o1 o2 o3 : Obj) (w3 : World) (a2 : Option Addr) (c2 : Nat), w3.ownsRow w.heap.size 48 2 (.slice a2 (i + 1) c2) (i + 1) (varsC ((ring s n).take i) ++ [.string ⟨#[cA]⟩, .string (s ++ ⟨#[36, 123]⟩ ++ ⟨#[cB]⟩ ++ ⟨#[125]⟩)]) → (((w2.alloc o1).alloc o2).alloc o3).drew.grownBy w3 (Value.slice a7 i c7).ownBlock → Hid (w3.ownsRow w.heap.size 48 2 (.slice a2 (i + 1) c2) (i + 1) (varsC ((ring s n).take (i + 1))) ∧ Below w.heap.size w w3)) := fun o1 o2 o3 w3 a2 c2 hown hgr => by
              refine ⟨?_, HI.out.2.trans ((((Fr.alloc w2 o1).trans (Fr.alloc _ o2)).trans ((Fr.alloc _ o3).trans ((Fr.drew _).trans (Fr.grown (D := fun q => w.heap.size ≤ q) hgr (fun g hg => ((HO.out o1 o2 o3).lt g hg).1))))).below HI.out.2.size (fun _ e => e))⟩
              rw [ring_next s n i hin, ← HJ.out, ← HC.out.1, ← HC.out.2]
              exact hown
            go_wp2_with fail
            go_region_law (first | (refine step_append_own _ (by rfl) (.tmp 37) (.tmp 56) 33 (by rfl) w.heap.size 48 i0 (.agg #[.string ⟨#[]⟩, .string ⟨#[]⟩]) 2 32 Tryz.underlying33 hi0 hz0 hz1 hz2 rfl (by decide) (.slice a7 i c7) i (varsC ((ring s n).take i)) (by rfl) (HO.out _ _ _) ⟨w2.heap.size + 1 + 1, 0, none⟩ 1 1 [.string ⟨#[cA]⟩, .string _] (by rfl) rfl (HN.out _ _ _ _) (by intro u hu; simp only [List.mem_cons, List.not_mem_nil, or_false] at hu; rcases hu with rfl | rfl <;> rfl) (by unfold maxLen; omega) (by omega) (by have := HI.out.2.size; simp; omega) ?_; intro v' w3 hown hgr; obtain ⟨a2, c2, hv2⟩ := V.owns_slice hown; subst hv2; have HW := HX.out _ _ _ _ _ _ hown hgr; clear hown hgr))
            all_goals
              go_wp2_with fail
              go_roundw
              case rel => exact ⟨i + 1, a2, c2, by omega, rfl, by go_num, HW⟩
              case measure => simp [intOf]; omega
          · have e : i = n := by omega
            subst e
            have HB : Hid (Calls Tryz.prog 16 #[.slice a7 i c7] w2 (BothPost (ring s i) w2)) := both_any a7 i c7 (ring s i) w2 (by omega) (varsAt_of (by simp [ring]) (by have := HI.out.1; rw [List.take_of_length_le (by simp [ring])] at this; exact this)) (ring_fine s i hlong)
            have HT : Hid (∀ (b base : Nat) (M : Int → Nat) (W : World), VSet base b M (putsV VS.none_ (ring s i)) W → Mx W → Calls Tryz.prog 17 #[.string ⟨#[36, 97]⟩, .pointer (some ⟨b, 0, none⟩), .int .i64 100000] W (TopPost (.err 11) W)) := fun b base M W h1 h2 => by
              have e0 := loop_text s i hn1 hn2 hlong H36.out
              have := top_any (ev := envOf (putsV VS.none_ (ring s i))) ⟨#[36, 97]⟩ 100000 100000 (by decide) W (cx_of h1 h2) (by decide) (by decide) 34 (by rw [e0]; exact fun e => by cases e)
              rw [e0] at this
              exact this
            clear hin
            go_wp2_with fail
            refine HB.out.mono ?_
            rintro e w3 ⟨B, br, M, rfl, hBw, hv3, hb3⟩
            have H3 : Hid (VSet B B M (putsV VS.none_ (ring s i)) w3 ∧ Below w.heap.size w w3) := ⟨hv3, HI.out.2.trans (hb3.mono HI.out.2.size)⟩
            clear hBw hv3 hb3 HB
            go_wp2_with fail
            refine (HT.out B B M w3 H3.out.1 (HM.out w3 H3.out.2)).mono ?_
            rintro e w4 ⟨hb4, rfl⟩
            have H4 : Hid (Below w.heap.size w w4) := H3.out.2.trans (hb4.mono H3.out.2.size)
            clear hb4 HT
            go_wp2_with fail
            refine (HA.out w4 H4.out).mono ?_
            rintro e w7 ⟨rfl, hb7⟩
            have H7 : Hid (Below w.heap.size w w7) := H4.out.trans (hb7.mono H4.out.size)
            clear hb7
            go_wp2
            go_ret
            exact ⟨rfl, H7.out⟩
      · have hli : (100 : Int) < (s.size : Int) := by omega
        go_wp2_with fail
        refine (HA.out _ (Below.refl _ _)).mono ?_
        rintro e w7 ⟨rfl, hb7⟩
        go_wp2
        go_ret
        exact ⟨rfl, hb7⟩
end Go.Proofs.YtcladdjdggpchaaGreatDoor.Ex
