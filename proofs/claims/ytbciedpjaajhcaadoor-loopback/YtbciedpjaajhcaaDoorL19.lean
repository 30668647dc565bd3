/-
  What Word answers, the program's and the document's.
-/
import Derived.Test.YtbciedpjaajhcaaDoorB1
import Derived.Test.YtbciedpjaajhcaaDoorLAny
import Derived.BigRegion
namespace Go.Proofs.YtbciedpjaajhcaaDoor
open Go.RowKit Go.Shelf

def ltrim (t : List UInt8) : List UInt8 := Lib.trimLeftS t [32, 9]
def wordA (s : List UInt8) : List UInt8 := (ltrim s).takeWhile fun c => !isB c
def wordB (s : List UInt8) : List UInt8 := ltrim ((ltrim s).dropWhile fun c => !isB c)
theorem ltrim_hit {c : UInt8} (t : List UInt8) (h : isB c = true) : ltrim (c :: t) = ltrim t := by
  unfold ltrim Lib.trimLeftS
  rw [List.dropWhile_cons_of_pos (by exact h)]
theorem ltrim_miss {c : UInt8} (t : List UInt8) (h : isB c = false) : ltrim (c :: t) = c :: t := by
  unfold ltrim Lib.trimLeftS
  rw [List.dropWhile_cons_of_neg (by show ¬ isB c = true; rw [h]; simp)]
theorem any_neg (t : List UInt8) (h : Lib.indexAny t [32, 9] < 0) : t.takeWhile (fun c => !isB c) = t ∧ t.dropWhile (fun c => !isB c) = [] := by
  induction t with
  | nil => exact ⟨rfl, rfl⟩
  | cons b l ih =>
    have hg := Lib.indexAny_ge [32, 9] l
    cases hb : isB b with
    | true =>
      have hc : [32, 9].contains b = true := hb
      rw [Lib.indexAny, if_pos hc] at h; omega
    | false =>
      have hc : [32, 9].contains b = false := hb
      rw [Lib.indexAny, if_neg (by rw [hc]; simp)] at h
      have h1 : Lib.indexAny l [32, 9] < 0 := by
        by_cases h2 : (Lib.indexAny l [32, 9] == -1) = true
        · have := beq_iff_eq.1 h2; omega
        · rw [if_neg h2] at h; omega
      obtain ⟨e1, e2⟩ := ih h1
      simp [hb, e1, e2]
theorem any_pos (t : List UInt8) : ∀ n : Nat, Lib.indexAny t [32, 9] = (n : Int) → t.takeWhile (fun c => !isB c) = t.take n ∧ t.dropWhile (fun c => !isB c) = t.drop n ∧ n < t.length := by
  induction t with
  | nil => intro n h; simp [Lib.indexAny] at h
  | cons b l ih =>
    intro n h
    have hg := Lib.indexAny_ge [32, 9] l
    cases hb : isB b with
    | true =>
      have hc : [32, 9].contains b = true := hb
      rw [Lib.indexAny, if_pos hc] at h
      have : n = 0 := by omega
      subst this
      simp [hb]
    | false =>
      have hc : [32, 9].contains b = false := hb
      rw [Lib.indexAny, if_neg (by rw [hc]; simp)] at h
      by_cases h2 : (Lib.indexAny l [32, 9] == -1) = true
      · rw [if_pos h2] at h; omega
      · rw [if_neg h2] at h
        have h4 : ¬ Lib.indexAny l [32, 9] = -1 := by simpa using h2
        obtain ⟨m, hm⟩ : ∃ m : Nat, n = m + 1 := ⟨n - 1, by omega⟩
        subst hm
        obtain ⟨e1, e2, e3⟩ := ih m (by omega)
        simp [hb, e1, e2, e3]

set_option maxRecDepth 20000 in
set_option maxHeartbeats 400000 in
theorem word_any (s : ByteArray) (w : World) (hs : s.size ≤ 1100000) :
    Calls Tryd.prog 64 #[.string s] w fun e w' => e = .returned (.tuple #[.string (ba (wordA (bl s))), .string (ba (wordB (bl s)))]) ∧ Below w.heap.size w w' := by
  have hll := left_le (bl s) [32, 9]
  rw [bl_length] at hll
  obtain ⟨t, ht⟩ : ∃ t, t = ba (ltrim (bl s)) := ⟨_, rfl⟩
  have htb : bl t = ltrim (bl s) := by rw [ht, bl_ba]
  have hts : t.size ≤ 1100000 := by rw [ht, ba_size]; unfold ltrim; omega
  have HT : Hid (∀ W, Calls Tryd.prog 26 #[.string s, .string ⟨#[32, 9]⟩] W fun e w' => e = .returned (.string t) ∧ Below W.heap.size W w') := fun W => by rw [ht]; exact trimL_blank s W
  have HI : Hid (∀ W, Calls Tryd.prog 72 #[.string t, .string ⟨#[32, 9]⟩] W fun e w' => e = .returned (.int .i64 (Lib.indexAny (bl t) [32, 9])) ∧ Below W.heap.size W w') := fun W => indexAny_any t W (by omega)
  have hge := Lib.indexAny_ge [32, 9] (bl t)
  by_cases hneg : Lib.indexAny (bl t) [32, 9] < 0
  · obtain ⟨e1, e2⟩ := any_neg _ hneg
    have HE : Hid (ba (wordA (bl s)) = t ∧ ba (wordB (bl s)) = ⟨#[]⟩) := by
      unfold Hid wordA wordB
      rw [← htb, e1, e2, ba_bl]; exact ⟨rfl, rfl⟩
    have hm1 : Lib.indexAny (bl t) [32, 9] = -1 := by omega
    rw [hm1] at HI
    rw [HE.out.1, HE.out.2]
    clear hneg hge hm1 e1 e2 htb ht
    go_enter Tryd.func64, Tryd.ntmps64
    go_wp2_with fail
    refine (HT.out _).mono ?_
    rintro e w1 ⟨rfl, h1⟩
    have H1 : Hid (Below w.heap.size w w1) := h1
    clear h1
    go_wp2_with fail
    refine (HI.out _).mono ?_
    rintro e w2 ⟨rfl, h2⟩
    have H2 : Hid (Below w.heap.size w w2) := below_trans H1.out h2 H1.out.size
    clear h2
    go_wp2_with fail
    go_ret2
    exact ⟨rfl, H2⟩
  · obtain ⟨n, hn⟩ : ∃ n : Nat, Lib.indexAny (bl t) [32, 9] = (n : Int) := ⟨(Lib.indexAny (bl t) [32, 9]).toNat, by omega⟩
    obtain ⟨e1, e2, e3⟩ := any_pos _ n hn
    rw [bl_length] at e3
    obtain ⟨x, hx⟩ : ∃ x, x = t.extract 0 n := ⟨_, rfl⟩
    obtain ⟨y, hy⟩ : ∃ y, y = t.extract n t.size := ⟨_, rfl⟩
    have hxb : bl x = (bl t).take n := by rw [hx, bl_extract, List.drop_zero]
    have hyb : bl y = (bl t).drop n := by rw [hy, bl_extract, take_all]
    obtain ⟨z, hz⟩ : ∃ z, z = ba (ltrim (bl y)) := ⟨_, rfl⟩
    have HTZ : Hid (∀ W, Calls Tryd.prog 26 #[.string y, .string ⟨#[32, 9]⟩] W fun e w' => e = .returned (.string z) ∧ Below W.heap.size W w') := fun W => by rw [hz]; exact trimL_blank y W
    have HE : Hid (ba (wordA (bl s)) = x ∧ ba (wordB (bl s)) = z) := by
      unfold Hid wordA wordB
      rw [← htb, e1, e2, hz, hyb, ← hxb, ba_bl]; exact ⟨rfl, rfl⟩
    rw [hn] at HI
    rw [HE.out.1, HE.out.2]
    have hni : (n : Int) < (t.size : Int) := by omega
    have hni2 : (n : Int) ≤ (t.size : Int) := by omega
    have hn0 : ¬ (n : Int) < 0 := by omega
    have hs1 : ∀ W, (Instr.slice 9 (.string t) none (some (.int .i64 (n : Int))) none).run Tryd.prog W = .ok (.string x) W := by
      intro W; rw [hx]; exact run_slice_string_h (P := Tryd.prog) W 9 t Tryd.underlying9 .i64 n (by omega) (by omega)
    have hs2 : ∀ W, (Instr.slice 9 (.string t) (some (.int .i64 (n : Int))) none none).run Tryd.prog W = .ok (.string y) W := by
      intro W; rw [hy]; exact run_slice_string_l (P := Tryd.prog) W 9 t Tryd.underlying9 .i64 n (by omega) (by omega)
    clear hneg hge hn e1 e2 htb ht hxb hyb hz
    go_enter Tryd.func64, Tryd.ntmps64
    go_wp2_with fail
    refine (HT.out _).mono ?_
    rintro e w1 ⟨rfl, h1⟩
    have H1 : Hid (Below w.heap.size w w1) := h1
    clear h1
    go_wp2_with fail
    refine (HI.out _).mono ?_
    rintro e w2 ⟨rfl, h2⟩
    have H2 : Hid (Below w.heap.size w w2) := below_trans H1.out h2 H1.out.size
    clear h2
    go_wp2_with fail
    clear hx hy
    go_region_with (go_at_call 26; refine (HTZ.out _).mono ?_; rintro e w3 ⟨rfl, h3⟩)
    all_goals
      go_wp2_with fail
      go_ret2
      exact ⟨rfl, below_trans H2.out.drew h3 H2.out.size⟩
end Go.Proofs.YtbciedpjaajhcaaDoor
