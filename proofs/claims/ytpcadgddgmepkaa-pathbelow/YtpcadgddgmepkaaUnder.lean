/-
  What the program's Below and the document's own answer: the same.
-/
import Derived.Test.YtpcadgddgmepkaaRefB
import Derived.Test.YtpcadgddgmepkaaStays
namespace Go.Proofs.Ytpcadgddgmepkaa
open Go.RowKit Go.Shelf

def bel (a b : List ByteArray) : Bool := decide (b.length ≤ a.length ∧ a.take b.length = b ∧ Lib.containsS b ddB = false ∧ a[b.length]? ≠ some ddB)
def belowB (p d : ByteArray) : Bool := (G.rootedL (bl p) == G.rootedL (bl d)) && bel (parts p) (parts d)

theorem contains_own (v : Value) (xs : List ByteArray) (x : ByteArray) (base : Nat) (w : World) (h : w.ownsRow base 9 1 v xs.length (xs.map Value.string)) (hn : xs.length ≤ 2000000) :
    Calls Try.prog 36 #[v, .string x] w fun e w' => e = .returned (.bool (Lib.containsS xs x)) ∧ w' = w := by
  by_cases hne : xs = []
  · subst hne
    obtain ⟨a, cap, rfl⟩ := owns_slice h
    refine (Try.slices_Contains_string_empty a cap x w).mono ?_
    rintro e w' ⟨rfl, h⟩
    exact ⟨ret_bool rfl, h⟩
  · obtain ⟨g, cap, rfl, hb, hg, hcap, hc⟩ := owns_at h hne
    refine (Try.slices_Contains_string g 0 xs.length cap xs x w (Nat.le_refl _) (by omega) ?_).mono ?_
    · intro j hj
      rw [Nat.zero_add, hc j hj, List.getD_eq_getElem?_getD, List.getElem?_eq_getElem hj]; rfl
    · rintro e w' ⟨rfl, h⟩
      exact ⟨ret_bool (by rw [List.take_length]), h⟩
/-- The beginning of one list held against another one. -/
theorem equal_own (a1 : Option Addr) (c1 m : Nat) (v : Value) (xs ys : List ByteArray) (base : Nat) (w : World) (hm : m = ys.length) (hl : m ≤ xs.length) (h1 : 0 < m → ∃ g, a1 = some ⟨g, 0, none⟩ ∧ ∀ i (hi : i < xs.length), w.cell? ⟨g, i, none⟩ = some (.string xs[i]))
    (h : w.ownsRow base 9 1 v ys.length (ys.map Value.string)) (hn : ys.length ≤ 2000000) :
    Calls Try.prog 37 #[.slice a1 m c1, v] w fun e w' => e = .returned (.bool (decide (xs.take m = ys))) ∧ ∃ q, w' = w.drewN q := by
  by_cases hne : ys = []
  · subst hne
    subst hm
    obtain ⟨a, cap, rfl⟩ := owns_slice h
    refine (Try.slices_Equal_string_empty a1 a c1 0 cap w (by decide)).mono ?_
    rintro e w' ⟨rfl, rfl⟩
    exact ⟨ret_bool (by simp), 0, rfl⟩
  · obtain ⟨g, cap, rfl, hb, hg, hcap, hc⟩ := owns_at h hne
    obtain ⟨g1, rfl, hc1⟩ := h1 (by have := List.length_pos_iff.2 hne; omega)
    refine (Try.slices_Equal_string g1 0 m c1 g 0 ys.length cap xs ys w hl (Nat.le_refl _) (by omega) (by omega) ?_ ?_).mono ?_
    · intro j hj
      rw [Nat.zero_add, hc1 j hj, List.getD_eq_getElem?_getD, List.getElem?_eq_getElem hj]; rfl
    · intro j hj
      rw [Nat.zero_add, hc j hj, List.getD_eq_getElem?_getD, List.getElem?_eq_getElem hj]; rfl
    · rintro e w' ⟨rfl, q, h⟩
      exact ⟨ret_bool (by rw [List.take_length]), q, h⟩

theorem bel_in {a b : List ByteArray} (h : Lib.containsS b ddB = true) : bel a b = false := by
  unfold bel; exact decide_eq_false fun ⟨_, _, h3, _⟩ => by rw [h] at h3; cases h3
theorem bel_short {a b : List ByteArray} (h : a.length < b.length) : bel a b = false := by
  unfold bel; exact decide_eq_false fun ⟨h1, _⟩ => by omega
theorem bel_up {a b : List ByteArray} (h : b.length < a.length) (hx : a[b.length] = ddB) : bel a b = false := by
  unfold bel
  refine decide_eq_false fun ⟨_, _, _, h4⟩ => h4 ?_
  rw [List.getElem?_eq_getElem h, hx]
theorem bel_same {a b : List ByteArray} (h : b.length = a.length) (hd : Lib.containsS b ddB = false) : bel a b = decide (a.take b.length = b) := by
  unfold bel
  rw [decide_eq_decide]
  refine ⟨fun h1 => h1.2.1, fun h1 => ⟨by omega, h1, hd, ?_⟩⟩
  rw [List.getElem?_eq_none (by omega)]; simp
theorem bel_more {a b : List ByteArray} (h : b.length < a.length) (hd : Lib.containsS b ddB = false) (hx : a[b.length] ≠ ddB) : bel a b = decide (a.take b.length = b) := by
  unfold bel
  rw [decide_eq_decide]
  refine ⟨fun h1 => h1.2.1, fun h1 => ⟨by omega, h1, hd, ?_⟩⟩
  rw [List.getElem?_eq_getElem h]; simpa using hx

set_option maxHeartbeats 400000 in
theorem below_roots (p d : ByteArray) (w : World) (hr : G.rootedL (bl p) ≠ G.rootedL (bl d)) :
    Calls Try.prog 26 #[.string p, .string d] w fun e w' => e = .returned (.bool false) ∧ w' = w := by
  have HP : Hid (∀ W, Calls Try.prog 29 #[.string p] W fun e w' => e = .returned (.bool (G.rootedL (bl p))) ∧ W = w') := fun W => (atRoot_any p W).mono fun e w' h => ⟨h.1, h.2.symm⟩
  have HD : Hid (∀ W, Calls Try.prog 29 #[.string d] W fun e w' => e = .returned (.bool (G.rootedL (bl d))) ∧ W = w') := fun W => (atRoot_any d W).mono fun e w' h => ⟨h.1, h.2.symm⟩
  generalize G.rootedL (bl p) = rp at HP hr
  generalize G.rootedL (bl d) = rd at HD hr
  cases rp <;> cases rd
  all_goals first | exact absurd rfl hr | skip
  all_goals
    clear hr
    go_enter Try.func26, Try.ntmps26
    go_wp2_with fail
    refine (HP.out _).mono ?_
    rintro e w' ⟨rfl, rfl⟩
    go_wp2_with fail
    refine (HD.out _).mono ?_
    rintro e w' ⟨rfl, rfl⟩
    go_wp2
    go_ret
    exact ⟨rfl, rfl⟩

set_option maxHeartbeats 400000 in
theorem below_some (p d : ByteArray) (w : World) (hp : p.size ≤ 3000) (hd : d.size ≤ 3000) (hr : G.rootedL (bl p) = G.rootedL (bl d)) :
    Calls Try.prog 26 #[.string p, .string d] w fun e w' => e = .returned (.bool (bel (parts p) (parts d))) ∧ Below w.heap.size w w' := by
  have HP : Hid (∀ W, Calls Try.prog 29 #[.string p] W fun e w' => e = .returned (.bool (G.rootedL (bl p))) ∧ W = w') := fun W => (atRoot_any p W).mono fun e w' h => ⟨h.1, h.2.symm⟩
  have HD : Hid (∀ W, Calls Try.prog 29 #[.string d] W fun e w' => e = .returned (.bool (G.rootedL (bl p))) ∧ W = w') := by
    intro W; rw [hr]; exact (atRoot_any d W).mono fun e w' h => ⟨h.1, h.2.symm⟩
  generalize G.rootedL (bl p) = rp at HP HD
  have HA : Hid (∀ W, Calls Try.prog 14 #[.string p] W fun e w' => ∃ v, e = .returned v ∧ w'.ownsRow W.heap.size 9 1 v (parts p).length ((parts p).map Value.string) ∧ Below W.heap.size W w') := fun W => parts_any p W (by omega)
  have HB : Hid (∀ W, Calls Try.prog 14 #[.string d] W fun e w' => ∃ v, e = .returned v ∧ w'.ownsRow W.heap.size 9 1 v (parts d).length ((parts d).map Value.string) ∧ Below W.heap.size W w') := fun W => parts_any d W (by omega)
  have hal := parts_len p
  have hbl := parts_len d
  generalize parts p = a at HA hal
  generalize parts d = b at HB hbl
  clear hr
  go_enter Try.func26, Try.ntmps26
  go_wp2_with fail
  refine (HP.out _).mono ?_
  rintro e w' ⟨rfl, rfl⟩
  go_wp2_with fail
  refine (HD.out _).mono ?_
  rintro e w' ⟨rfl, rfl⟩
  go_wp2_with fail
  refine (HA.out _).mono ?_
  rintro e w1 ⟨v1, rfl, ho1, hb1⟩
  have s1 := hb1.size
  have HO1 : Hid (w1.ownsRow w.heap.size 9 1 v1 a.length (a.map Value.string)) := ho1
  clear ho1
  go_wp2_with fail
  refine (HB.out _).mono ?_
  rintro e w2 ⟨v2, rfl, ho2, hb2⟩
  have ho1 := owns_below HO1.out hb2
  have hb := hb1.trans (hb2.mono s1)
  have hbs := hb.size
  clear hb1 hb2 s1 HO1
  have HC : Hid (∀ W, W = w2 → Calls Try.prog 36 #[v2, .string ddB] W fun e w' => e = .returned (.bool (Lib.containsS b ddB)) ∧ W = w') := by
    intro W hW; rw [hW]; exact (contains_own v2 b ddB _ w2 ho2 (by omega)).mono fun e w' h => ⟨h.1, h.2.symm⟩
  obtain ⟨n, hn⟩ : ∃ n, n = a.length := ⟨_, rfl⟩
  obtain ⟨m, hm⟩ : ∃ m, m = b.length := ⟨_, rfl⟩
  obtain ⟨t, ht⟩ : ∃ t, t = decide (a.take b.length = b) := ⟨_, rfl⟩
  have HE : Hid (∀ W a1 c1, W = w2 → m ≤ n → (0 < m → ∃ g, a1 = some ⟨g, 0, none⟩ ∧ ∀ i (hi : i < a.length), w2.cell? ⟨g, i, none⟩ = some (.string a[i])) → Calls Try.prog 37 #[.slice a1 m c1, v2] W fun e w' => e = .returned (.bool t) ∧ ∃ q, w' = W.drewN q) := by
    intro W a1 c1 hW hmn h1
    rw [hW, ht]
    rw [hm] at h1 ⊢
    exact equal_own a1 c1 b.length v2 a b _ w2 rfl (by omega) h1 ho2 (by omega)
  have HL : Hid (n = a.length ∧ m = b.length) := ⟨hn, hm⟩
  have HF : Hid (∀ W q, W = w2.drewN q → Below w.heap.size w W) := fun W q h => by rw [h]; exact below_drewN hb q
  cases hct : Lib.containsS b ddB
  · -- no '..' in the directory
    rw [hct] at HC
    by_cases hnm : n < m
    · have HBE : Hid (false = bel a b) := (bel_short (by omega)).symm
      have hnmI : (n : Int) < (m : Int) := by omega
      obtain ⟨a1, c1, rfl⟩ := owns_slice ho1
      obtain ⟨a2, c2, rfl⟩ := owns_slice ho2
      rw [← hn] at ho1 hal ⊢
      rw [← hm] at ho2 hbl HC ⊢
      clear ho1 ho2 hct HE hn hm
      go_wp2_with fail
      refine (HC.out _ rfl).mono ?_
      rintro e w' ⟨rfl, rfl⟩
      go_wp2
      go_ret
      exact ⟨ret_bool HBE.out, hb⟩
    · have hmn : m ≤ n := by omega
      have hmnI : ¬ (n : Int) < (m : Int) := by omega
      have hmnJ : (m : Int) ≤ (n : Int) := by omega
      by_cases hn0 : n = 0
      · have hm0 : m = 0 := by omega
        have HBE : Hid (t = bel a b) := by rw [ht]; exact (bel_same (by omega) hct).symm
        obtain ⟨a2, c2, rfl⟩ := owns_slice ho2
        rw [← hm] at HC HE ⊢
        have h1 := ho1.2
        rw [← hn] at h1
        clear ht
        subst hm0
        subst hn0
        rcases h1 with ⟨rfl, -⟩ | ⟨g, cap, cur, rfl, -⟩
        · clear ho1 ho2 hct hn hm hal hbl hnm hmn hmnI hmnJ HL
          go_wp2_with fail
          refine (HC.out _ rfl).mono ?_
          rintro e w' ⟨rfl, rfl⟩
          go_wp2_with fail
          refine (HE.out _ _ _ rfl (by omega) (fun h => absurd h (by omega))).mono ?_
          rintro e w3 ⟨rfl, q, hw3⟩
          have hb3 := HF.out w3 q hw3
          clear hw3
          go_wp2
          go_ret
          exact ⟨ret_bool HBE.out, hb3⟩
        · clear ho1 ho2 hct hn hm hal hbl hnm hmn hmnI hmnJ HL
          go_wp2_with fail
          refine (HC.out _ rfl).mono ?_
          rintro e w' ⟨rfl, rfl⟩
          go_wp2_with fail
          refine (HE.out _ _ _ rfl (by omega) (fun h => absurd h (by omega))).mono ?_
          rintro e w3 ⟨rfl, q, hw3⟩
          have hb3 := HF.out w3 q hw3
          clear hw3
          go_wp2
          go_ret
          exact ⟨ret_bool HBE.out, hb3⟩
      · obtain ⟨g, cap, rfl, hbg, hgW, hcap, hcell⟩ := owns_at ho1 (fun e => hn0 (by rw [hn, e]; rfl))
        obtain ⟨a2, c2, rfl⟩ := owns_slice ho2
        have HG : Hid (∀ i (hi : i < a.length), w2.cell? ⟨g, i, none⟩ = some (.string a[i])) := hcell
        rw [← hn] at hcap ⊢
        rw [← hm] at HC HE ⊢
        by_cases hnm2 : m = n
        · have HBE : Hid (t = bel a b) := by rw [ht]; exact (bel_same (by omega) hct).symm
          have hn6 : n ≤ 3001 := by omega
          clear ho1 ho2 hct hm hal hbl hnm hcell ht
          subst hnm2
          clear hn HL
          go_wp2_with fail
          refine (HC.out _ rfl).mono ?_
          rintro e w' ⟨rfl, rfl⟩
          go_wp2_with fail
          all_goals
            refine (HE.out _ _ _ rfl (Nat.le_refl _) (fun _ => ⟨g, rfl, HG.out⟩)).mono ?_
            rintro e w3 ⟨rfl, q, hw3⟩
            have hb3 := HF.out w3 q hw3
            clear hw3
            go_wp2
            go_ret
            exact ⟨ret_bool HBE.out, hb3⟩
        · have hml : b.length < a.length := by omega
          have hn6 : n ≤ 3001 := by omega
          have hltI : (m : Int) < (n : Int) := by omega
          obtain ⟨y, hy⟩ : ∃ y, y = a[b.length] := ⟨_, rfl⟩
          have hcy : w2.cell? ⟨g, m, none⟩ = some (.string y) := by
            have := hcell b.length hml
            rw [← hy] at this
            rw [hm]; exact this
          by_cases hyd : y = ddB
          · have HBE : Hid (false = bel a b) := (bel_up hml (by rw [← hy]; exact hyd)).symm
            subst hyd
            clear ho1 ho2 hct hm hn hal hbl hnm hcell ht hy hml
            go_wp2_with fail
            refine (HC.out _ rfl).mono ?_
            rintro e w' ⟨rfl, rfl⟩
            go_wp2
            go_ret
            exact ⟨ret_bool HBE.out, hb⟩
          · have HBE : Hid (t = bel a b) := by rw [ht]; exact (bel_more hml hct (by rw [← hy]; exact hyd)).symm
            have t3 : (y.toList == [46, 46]) = false := by
              rw [Lib.toList_data, beq_eq_false_iff_ne]; exact fun e => hyd (bl_dd.1 e)
            have t3' : ¬ y.toList = [46, 46] := by simpa using t3
            clear ho1 ho2 hct hm hn hal hbl hnm hcell ht hy hml hyd
            go_wp2_with fail
            refine (HC.out _ rfl).mono ?_
            rintro e w' ⟨rfl, rfl⟩
            go_wp2_with fail
            refine (HE.out _ _ _ rfl hmn (fun _ => ⟨g, rfl, HG.out⟩)).mono ?_
            rintro e w3 ⟨rfl, q, hw3⟩
            have hb3 := HF.out w3 q hw3
            clear hw3
            go_wp2
            go_ret
            exact ⟨ret_bool HBE.out, hb3⟩
  · have HBE : Hid (false = bel a b) := (bel_in hct).symm
    rw [hct] at HC
    obtain ⟨a1, c1, rfl⟩ := owns_slice ho1
    obtain ⟨a2, c2, rfl⟩ := owns_slice ho2
    clear ho1 ho2 hct HE
    go_wp2_with fail
    refine (HC.out _ rfl).mono ?_
    rintro e w' ⟨rfl, rfl⟩
    go_wp2
    go_ret
    exact ⟨ret_bool HBE.out, hb⟩

/-! The document's own. -/
theorem bel_upto {a b : List ByteArray} {k : Nat} (hk : k < b.length) (hl : b.length ≤ a.length) (h1 : a.take k = b.take k) (h2 : Lib.containsS (b.take k) ddB = false) (hx : a[k]'(by omega) = b[k]) (hd : b[k] ≠ ddB) :
    a.take (k + 1) = b.take (k + 1) ∧ Lib.containsS (b.take (k + 1)) ddB = false := by
  refine ⟨by rw [List.take_succ_eq_append_getElem hk, List.take_succ_eq_append_getElem (by omega), h1, hx], ?_⟩
  rw [← Bool.not_eq_true, Lib.containsS_iff] at h2 ⊢
  rw [List.take_succ_eq_append_getElem hk]
  intro hm
  rcases List.mem_append.1 hm with hm | hm
  · exact h2 hm
  · simp at hm; exact hd hm.symm
theorem bel_parted {a b : List ByteArray} {k : Nat} (hk : k < b.length) (hl : b.length ≤ a.length) (hx : a[k]'(by omega) ≠ b[k]) : bel a b = false := by
  unfold bel
  refine decide_eq_false fun ⟨_, h2, _⟩ => hx ?_
  have : (a.take b.length)[k]? = b[k]? := by rw [h2]
  rw [List.getElem?_take_of_lt hk, List.getElem?_eq_getElem hk, List.getElem?_eq_getElem (by omega)] at this
  exact Option.some.inj this
theorem bel_dd {a b : List ByteArray} {k : Nat} (hk : k < b.length) (hx : b[k] = ddB) : bel a b = false := by
  refine bel_in ?_
  rw [Lib.containsS_iff, ← hx]; exact List.getElem_mem hk

set_option maxHeartbeats 400000 in
theorem rbelow_roots (p d : ByteArray) (w : World) (hp : p.size ≤ 3000) (hd : d.size ≤ 3000) (hr : G.rootedL (bl p) ≠ G.rootedL (bl d)) :
    Calls Try.prog 27 #[.string p, .string d] w fun e w' => e = .returned (.bool false) ∧ Below w.heap.size w w' := by
  have HP : Hid (∀ W, Calls Try.prog 31 #[.string p] W fun e w' => e = .returned (.bool (G.rootedL (bl p))) ∧ W = w') := fun W => (rooted_any p W).mono fun e w' h => ⟨h.1, h.2.symm⟩
  have HD : Hid (∀ W, Calls Try.prog 31 #[.string d] W fun e w' => e = .returned (.bool (G.rootedL (bl d))) ∧ W = w') := fun W => (rooted_any d W).mono fun e w' h => ⟨h.1, h.2.symm⟩
  have HA : Hid (∀ W, Calls Try.prog 15 #[.string p] W fun e w' => ∃ a n c, e = .returned (.slice a n c) ∧ Below W.heap.size W w') := by
    intro W
    refine (rparts_any p W (by omega)).mono ?_
    rintro e w' ⟨v, rfl, h, hb⟩
    obtain ⟨a, c, rfl⟩ := owns_slice h
    exact ⟨_, _, _, rfl, hb⟩
  have HB : Hid (∀ W, Calls Try.prog 15 #[.string d] W fun e w' => ∃ a n c, e = .returned (.slice a n c) ∧ Below W.heap.size W w') := by
    intro W
    refine (rparts_any d W (by omega)).mono ?_
    rintro e w' ⟨v, rfl, h, hb⟩
    obtain ⟨a, c, rfl⟩ := owns_slice h
    exact ⟨_, _, _, rfl, hb⟩
  generalize G.rootedL (bl p) = rp at HP hr
  generalize G.rootedL (bl d) = rd at HD hr
  cases rp <;> cases rd
  all_goals first | exact absurd rfl hr | skip
  all_goals
    clear hr
    go_enter Try.func27, Try.ntmps27
    go_wp2_with fail
    refine (HA.out _).mono ?_
    rintro e w1 ⟨a1, n1, c1, rfl, hb1⟩
    go_wp2_with fail
    refine (HB.out _).mono ?_
    rintro e w2 ⟨a2, n2, c2, rfl, hb2⟩
    have hb := hb1.trans (hb2.mono hb1.size)
    clear hb1 hb2
    go_wp2_with fail
    refine (HP.out _).mono ?_
    rintro e w' ⟨rfl, rfl⟩
    go_wp2_with fail
    refine (HD.out _).mono ?_
    rintro e w' ⟨rfl, rfl⟩
    go_wp2
    go_ret
    exact ⟨rfl, hb⟩

set_option maxHeartbeats 400000 in
set_option maxRecDepth 20000 in
theorem rbelow_some (p d : ByteArray) (w : World) (hp : p.size ≤ 3000) (hd : d.size ≤ 3000) (hr : G.rootedL (bl p) = G.rootedL (bl d)) :
    Calls Try.prog 27 #[.string p, .string d] w fun e w' => e = .returned (.bool (bel (parts p) (parts d))) ∧ Below w.heap.size w w' := by
  have HP : Hid (∀ W, Calls Try.prog 31 #[.string p] W fun e w' => e = .returned (.bool (G.rootedL (bl p))) ∧ W = w') := fun W => (rooted_any p W).mono fun e w' h => ⟨h.1, h.2.symm⟩
  have HD : Hid (∀ W, Calls Try.prog 31 #[.string d] W fun e w' => e = .returned (.bool (G.rootedL (bl p))) ∧ W = w') := by
    intro W; rw [hr]; exact (rooted_any d W).mono fun e w' h => ⟨h.1, h.2.symm⟩
  generalize G.rootedL (bl p) = rp at HP HD
  have HA : Hid (∀ W, Calls Try.prog 15 #[.string p] W fun e w' => ∃ v, e = .returned v ∧ Words w'.heap.size w' v (parts p) ∧ Below W.heap.size W w') := by
    intro W
    refine (rparts_any p W (by omega)).mono ?_
    rintro e w' ⟨v, rfl, h, hb⟩; exact ⟨v, rfl, words_of_owns h (Nat.le_refl _), hb⟩
  have HB : Hid (∀ W, Calls Try.prog 15 #[.string d] W fun e w' => ∃ v, e = .returned v ∧ Words w'.heap.size w' v (parts d) ∧ Below W.heap.size W w') := by
    intro W
    refine (rparts_any d W (by omega)).mono ?_
    rintro e w' ⟨v, rfl, h, hb⟩; exact ⟨v, rfl, words_of_owns h (Nat.le_refl _), hb⟩
  have hal := parts_len p
  have hbl := parts_len d
  generalize parts p = a at HA hal
  generalize parts d = b at HB hbl
  clear hr
  go_enter Try.func27, Try.ntmps27
  go_wp2_with fail
  refine (HA.out _).mono ?_
  rintro e w1 ⟨v1, rfl, ho1, hb1⟩
  have s1 := hb1.size
  have HO1 : Hid (Words w1.heap.size w1 v1 a) := ho1
  clear ho1
  go_wp2_with fail
  refine (HB.out _).mono ?_
  rintro e w2 ⟨v2, rfl, ho2, hb2⟩
  have ho1 := HO1.out.below hb2
  have hb := hb1.trans (hb2.mono s1)
  have hbs := hb.size
  clear hb1 hb2 HO1 s1
  have ho1' := ho1
  have ho2' := ho2
  obtain ⟨a1, n, c1, rfl, hn, -⟩ := ho1'
  obtain ⟨a2, m, c2, rfl, hm, -⟩ := ho2'
  have HW : Hid (n = a.length ∧ m = b.length ∧ Words w1.heap.size w2 (.slice a1 n c1) a ∧ Words w2.heap.size w2 (.slice a2 m c2) b) := ⟨hn, hm, ho1, ho2⟩
  have hn6 : n ≤ 3001 := by omega
  have hm6 : m ≤ 3001 := by omega
  clear ho1 ho2
  by_cases hnm : n < m
  · have HBE : Hid (false = bel a b) := (bel_short (by omega)).symm
    have hnmI : (n : Int) < (m : Int) := by omega
    clear hn hm
    go_wp2_with fail
    refine (HP.out _).mono ?_
    rintro e w' ⟨rfl, rfl⟩
    go_wp2_with fail
    refine (HD.out _).mono ?_
    rintro e w' ⟨rfl, rfl⟩
    go_wp2
    go_ret
    exact ⟨ret_bool HBE.out, hb⟩
  · have hmn : m ≤ n := by omega
    have hnmI : ¬ (n : Int) < (m : Int) := by omega
    clear hn hm
    go_wp2_with fail
    refine (HP.out _).mono ?_
    rintro e w' ⟨rfl, rfl⟩
    go_wp2_with fail
    refine (HD.out _).mono ?_
    rintro e w' ⟨rfl, rfl⟩
    go_wp2
    go_loopw [7] (fun vi wr => ∃ k q : Nat, k ≤ m ∧ vi = .int .i64 k ∧ wr = w2.drewN q ∧ Hid (a.take k = b.take k ∧ Lib.containsS (b.take k) ddB = false)) (fun vi _ => m - (intOf vi).toNat)
    case atStart => exact ⟨0, 0, Nat.zero_le _, rfl, rfl, rfl, rfl⟩
    case round =>
      obtain ⟨k, q, hk, rfl, rfl, HT⟩ := hrel
      by_cases hlt : k < m
      · have hkb : k < b.length := by rw [← HW.out.2.1]; exact hlt
        have hka : k < a.length := by rw [← HW.out.1]; omega
        have hlI : (k : Int) < (m : Int) := by omega
        have hlJ : (k : Int) < (n : Int) := by omega
        obtain ⟨b1, o1, rfl, -, hc1⟩ := HW.out.2.2.1.pick k hka
        obtain ⟨b2, o2, rfl, -, hc2⟩ := HW.out.2.2.2.pick k hkb
        have hlab : b.length ≤ a.length := by rw [← HW.out.1, ← HW.out.2.1]; exact hmn
        obtain ⟨x, hxe⟩ : ∃ x, x = a[k] := ⟨_, rfl⟩
        obtain ⟨y, hye⟩ : ∃ y, y = b[k] := ⟨_, rfl⟩
        rw [← hxe] at hc1
        rw [← hye] at hc2
        by_cases hxy : x = y
        · by_cases hyd : y = ddB
          · have HBE : Hid (false = bel a b) := (bel_dd hkb (by rw [← hye]; exact hyd)).symm
            subst hxy
            subst hyd
            clear hxe hye HT hkb hka hlab
            go_wp2
            go_quiet (fail)
            go_wp2
            go_ret
            exact ⟨ret_bool HBE.out, below_drewN (below_drewN hb _) _⟩
          · have HN : Hid (a.take (k + 1) = b.take (k + 1) ∧ Lib.containsS (b.take (k + 1)) ddB = false) := bel_upto hkb hlab HT.out.1 HT.out.2 (by rw [← hxe, ← hye]; exact hxy) (by rw [← hye]; exact hyd)
            have t3 : (y.toList == [46, 46]) = false := by
              rw [Lib.toList_data, beq_eq_false_iff_ne]; exact fun e => hyd (bl_dd.1 e)
            have t3' : ¬ y.toList = [46, 46] := by simpa using t3
            subst hxy
            clear hxe hye HT hkb hka hlab hyd
            go_wp2
            go_quiet (fail)
            go_wp2
            go_roundw
            case rel => exact ⟨k + 1, _, by omega, by go_num, rfl, HN⟩
            case measure => simp [intOf]; omega
        · have HBE : Hid (false = bel a b) := (bel_parted hkb hlab (by rw [← hxe, ← hye]; exact hxy)).symm
          have t4 : (x.toList == y.toList) = false := by
            rw [Lib.toList_data, Lib.toList_data, beq_eq_false_iff_ne]; exact fun e => hxy (bl_inj e)
          have t4' : ¬ x.toList = y.toList := by simpa using t4
          clear hxe hye HT hkb hka hlab hxy
          go_wp2
          go_quiet (fail)
          go_wp2
          go_ret
          exact ⟨ret_bool HBE.out, below_drewN (below_drewN hb _) _⟩
      · obtain rfl : k = m := by omega
        have HS : Hid (a.take b.length = b ∧ Lib.containsS b ddB = false) := by
          have := HT.out
          rw [HW.out.2.1, List.take_length] at this; exact this
        have hb3 := below_drewN hb q
        by_cases hnk : n = k
        · have HBE : Hid (true = bel a b) := by
            rw [bel_same (by rw [← HW.out.1, ← HW.out.2.1]; exact hnk.symm) HS.out.2, decide_eq_true HS.out.1]; rfl
          have hnI : (n : Int) = (k : Int) := by omega
          clear HT HS
          go_wp2
          go_ret
          exact ⟨ret_bool HBE.out, hb3⟩
        · have hml : b.length < a.length := by rw [← HW.out.1, ← HW.out.2.1]; omega
          have hnI : ¬ (n : Int) = (k : Int) := by omega
          have hltI : (k : Int) < (n : Int) := by omega
          obtain ⟨b1, o1, rfl, -, hc1⟩ := HW.out.2.2.1.pick b.length hml
          obtain ⟨x, hxe⟩ : ∃ x, x = a[b.length] := ⟨_, rfl⟩
          rw [← hxe, ← HW.out.2.1] at hc1
          by_cases hxd : x = ddB
          · have HBE : Hid (false = bel a b) := (bel_up hml (by rw [← hxe]; exact hxd)).symm
            have HNB : Hid (((n : Int) == (k : Int)) = false) := by rw [Hid, beq_eq_false_iff_ne]; exact hnI
            subst hxd
            clear HT HS hxe hml
            go_wp2
            go_ret
            exact ⟨ret_bool (by first | exact HBE.out | (rw [HNB.out]; exact HBE.out)), hb3⟩
          · have HBE : Hid (true = bel a b) := by
              rw [bel_more hml HS.out.2 (by rw [← hxe]; exact hxd), decide_eq_true HS.out.1]; rfl
            have t3 : (x.toList == [46, 46]) = false := by
              rw [Lib.toList_data, beq_eq_false_iff_ne]; exact fun e => hxd (bl_dd.1 e)
            have t3' : ¬ x.toList = [46, 46] := by simpa using t3
            clear HT HS hxe hml hxd
            go_wp2
            go_ret
            exact ⟨ret_bool HBE.out, hb3⟩

theorem under_any (p d : ByteArray) (w : World) (hp : p.size ≤ 3000) (hd : d.size ≤ 3000) :
    Calls Try.prog 26 #[.string p, .string d] w fun e w' => e = .returned (.bool (belowB p d)) ∧ Below w.heap.size w w' := by
  unfold belowB
  by_cases hr : G.rootedL (bl p) = G.rootedL (bl d)
  · refine (below_some p d w hp hd hr).mono ?_
    rintro e w' ⟨rfl, hb⟩
    exact ⟨ret_bool (by simp [hr]), hb⟩
  · refine (below_roots p d w hr).mono ?_
    rintro e w' ⟨rfl, rfl⟩
    exact ⟨ret_bool (by simp [hr]), Below.refl _ _⟩
theorem runder_any (p d : ByteArray) (w : World) (hp : p.size ≤ 3000) (hd : d.size ≤ 3000) :
    Calls Try.prog 27 #[.string p, .string d] w fun e w' => e = .returned (.bool (belowB p d)) ∧ Below w.heap.size w w' := by
  unfold belowB
  by_cases hr : G.rootedL (bl p) = G.rootedL (bl d)
  · refine (rbelow_some p d w hp hd hr).mono ?_
    rintro e w' ⟨rfl, hb⟩
    exact ⟨ret_bool (by simp [hr]), hb⟩
  · refine (rbelow_roots p d w hp hd hr).mono ?_
    rintro e w' ⟨rfl, hb⟩
    exact ⟨ret_bool (by simp [hr]), hb⟩

theorem far_two (p d : ByteArray) (W : World) : Calls Try.prog 9 #[.slice (some ⟨W.heap.size, 0, none⟩) 2 2] (W.alloc (.cells #[.string p, .string d] 9)) fun e w' => e = .returned (.bool (farL [p, d])) ∧ w' = W.alloc (.cells #[.string p, .string d] 9) :=
  far_any (some ⟨W.heap.size, 0, none⟩) 2 2 _ [p, d] _ (by decide) (words_alloc W [p, d] 2)

set_option maxHeartbeats 400000 in
theorem below_law (p d : ByteArray) (w : World) (_hp : p.size ≤ 140737488355328) (_hd : d.size ≤ 140737488355328) :
    Calls Try.prog 5 #[.string p, .string d] w fun e w' => e = .returned (.bool true) ∧ Below w.heap.size w w' := by
  cases hf : farL [p, d]
  · have HF : Hid (∀ W : World, Calls Try.prog 9 #[.slice (some ⟨W.heap.size, 0, none⟩) 2 2] (W.alloc (.cells #[.string p, .string d] 9)) fun e w' => e = .returned (.bool false) ∧ w' = W.alloc (.cells #[.string p, .string d] 9)) := by
      intro W; have := far_two p d W; rw [hf] at this; exact this
    have h1 : p.size ≤ 3000 := farL_no hf 0 (by simp)
    have h2 : d.size ≤ 3000 := farL_no hf 1 (by simp)
    have H1 : Hid (∀ W, Calls Try.prog 26 #[.string p, .string d] W fun e w' => e = .returned (.bool (belowB p d)) ∧ Below W.heap.size W w') := fun W => under_any p d W h1 h2
    have H2 : Hid (∀ W, Calls Try.prog 27 #[.string p, .string d] W fun e w' => e = .returned (.bool (belowB p d)) ∧ Below W.heap.size W w') := fun W => runder_any p d W h1 h2
    generalize belowB p d = t at H1 H2
    clear hf
    go_enter Try.func5, Try.ntmps5
    go_wp2_with fail
    refine (HF.out _).mono ?_
    rintro e w0 ⟨rfl, hw0⟩
    have hb0 : Below w.heap.size w w0 := by rw [hw0]; exact (Below.refl _ w).alloc (Nat.le_refl _) _
    have s0 := hb0.size
    clear hw0
    go_wp2_with fail
    refine (H1.out _).mono ?_
    rintro e w1 ⟨rfl, hb1⟩
    have hb := hb0.trans (hb1.mono s0)
    have s1 := hb.size
    clear hb0 hb1 s0
    go_wp2_with fail
    refine (H2.out _).mono ?_
    rintro e w2 ⟨rfl, hb2⟩
    have hb3 := hb.trans (hb2.mono s1)
    have s3 := hb3.size
    clear hb hb2 s1
    cases t
    all_goals
      go_wp2_with fail
      refine (alive_any _).mono ?_
      rintro e w4 ⟨rfl, hb4⟩
      go_wp2
      go_ret
      exact ⟨rfl, hb3.trans (hb4.mono s3)⟩
  · have HF : Hid (∀ W : World, Calls Try.prog 9 #[.slice (some ⟨W.heap.size, 0, none⟩) 2 2] (W.alloc (.cells #[.string p, .string d] 9)) fun e w' => e = .returned (.bool true) ∧ w' = W.alloc (.cells #[.string p, .string d] 9)) := by
      intro W; have := far_two p d W; rw [hf] at this; exact this
    clear hf
    go_enter Try.func5, Try.ntmps5
    go_wp2_with fail
    refine (HF.out _).mono ?_
    rintro e w0 ⟨rfl, hw0⟩
    have hb0 : Below w.heap.size w w0 := by rw [hw0]; exact (Below.refl _ w).alloc (Nat.le_refl _) _
    have s0 := hb0.size
    clear hw0
    go_wp2_with fail
    refine (alive_any _).mono ?_
    rintro e w1 ⟨rfl, hb1⟩
    go_wp2
    go_ret
    exact ⟨rfl, hb0.trans (hb1.mono s0)⟩
end Go.Proofs.Ytpcadgddgmepkaa
