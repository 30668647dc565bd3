/-
  VarsApart at every script and call.
-/
import Derived.Test.YtjbmmeneejcpbaaVRefused
namespace Go.Proofs.Ytjbmmeneejcpbaa
open Go.RowKit Go.Shelf Go.Maps

theorem name_mem {s : VS} {n : Int} {x : ByteArray} (h : x ∈ s.names n) : x ∈ (s n).map (·.1) := by
  unfold VS.names VS.sorted at h
  obtain ⟨y, hy, rfl⟩ := List.mem_map.1 h
  obtain ⟨z, hz, rfl⟩ := List.mem_map.1 (List.mem_mergeSort.1 hy)
  rw [ba_bl]; exact hz
theorem name_size {s : VS} (h : s.Ok) {n : Int} {x : ByteArray} (hx : x ∈ s.names n) : x.size ≤ 64 := by
  obtain ⟨y, hy, rfl⟩ := List.mem_map.1 (name_mem hx)
  have := h.name n y hy
  unfold rightB at this
  simp only [Bool.and_eq_true, decide_eq_true_eq] at this
  exact this.1.2

/-- Names, as words. -/
theorem names_words {base b : Nat} {m : Int → Nat} {s : VS} (n : Int) (w : World) (h : VSet base b m s w) :
    Calls Try.prog 21 #[ptr b, .int .i64 n] w fun e w' => ∃ a c, e = .returned (.slice a (s.names n).length c) ∧ Words w'.heap.size w' (.slice a (s.names n).length c) (s.names n) ∧ Below w.heap.size w w' := by
  refine (names_any n w h).mono ?_
  rintro e w' ⟨v, rfl, hrow, hb⟩
  obtain ⟨a, c, rfl⟩ := owns_slice hrow
  exact ⟨a, c, rfl, words_of_owns hrow (Nat.le_refl _), hb⟩

/-- Two sets side by side. -/
structure Two (B b1 : Nat) (M1 : Int → Nat) (s1 : VS) (C : Nat) (MC : Int → Nat) (s2 : VS) (W0 W : World) : Prop where
  one : VSet B b1 M1 s1 W
  two : VSet C C MC s2 W
  low : Below B W0 W
theorem Two.below {B b1 : Nat} {M1 : Int → Nat} {s1 : VS} {C : Nat} {MC : Int → Nat} {s2 : VS} {W0 W W' : World} (h : Two B b1 M1 s1 C MC s2 W0 W) (hb : Below W.heap.size W W') : Two B b1 M1 s1 C MC s2 W0 W' :=
  ⟨h.one.below hb, h.two.below hb, h.low.trans (hb.mono (by have := h.one.lt; have := h.one.hb; omega))⟩

set_option maxRecDepth 20000 in
set_option maxHeartbeats 8000000 in
theorem apart_law (a : Option Addr) (n c : Nat) (l : List Act) (x : Act) (w : World) (hn : n ≤ 140737488355328) (hc : n ≤ c) (hw : Acts w.heap.size w (.slice a n c) l) (hf : Fine l) (hx : x.Fine) :
    Calls Try.prog 5 #[.slice a n c, actArg x] w fun e w' => e = .returned (.bool true) ∧ Below w.heap.size w w' := by
  have HA : Hid (∀ W, Calls Try.prog 12 #[] W fun e w' => e = .returned (.bool true) ∧ Below W.heap.size W w') := fun W => alive_any W
  have HS : Hid (∀ W, Calls Try.prog 13 #[.slice a n c] W fun e w' => e = .returned (.slice a (min n 1500) c) ∧ W = w') := fun W => short_any a n c W hn hc
  obtain ⟨k1, hk1⟩ : ∃ k1, k1 = min n 1500 := ⟨_, rfl⟩
  have hk15 : k1 ≤ 1500 := by omega
  have hwc := hw.cut k1 c (by omega)
  have hfc := fine_take hf k1
  obtain ⟨l1, hl1⟩ : ∃ l1, l1 = l.take k1 := ⟨_, rfl⟩
  rw [← hl1] at hwc hfc
  rw [← hk1] at HS
  clear hl1 hk1 hw hf hn hc
  have HW : Hid (k1 = l1.length ∧ Acts w.heap.size w (.slice a k1 c) l1) := ⟨hwc.len, hwc⟩
  obtain ⟨kd, sc, q, t⟩ := x
  obtain ⟨hq, ht⟩ := hx.2
  simp only at hq ht
  have hb0 : Below w.heap.size w (w.alloc (.cells #[.int .u8 kd, .int .i64 sc, .string q, .string t] 32)) := (Below.refl _ w).alloc (Nat.le_refl _) _
  obtain ⟨W0, hW0⟩ : ∃ W0, W0 = w.alloc (.cells #[.int .u8 kd, .int .i64 sc, .string q, .string t] 32) := ⟨_, rfl⟩
  have hs0 : W0.heap.size = w.heap.size + 1 := by rw [hW0]; simp
  have HC : Hid (∀ W, Below (w.heap.size + 1) W0 W → Below w.heap.size w W ∧ W.cell? ⟨w.heap.size, 0, none⟩ = some (.int .u8 kd) ∧ W.cell? ⟨w.heap.size, 1, none⟩ = some (.int .i64 sc) ∧ W.cell? ⟨w.heap.size, 2, none⟩ = some (.string q) ∧ W.cell? ⟨w.heap.size, 3, none⟩ = some (.string t)) := fun W hB => by
    have hk0 : W.heap[w.heap.size]? = some (.cells #[.int .u8 kd, .int .i64 sc, .string q, .string t] 32 (0, 0)) := by
      rw [hB.block w.heap.size (by omega), hW0]; exact heap_alloc_new w _
    exact ⟨(hW0 ▸ hb0).trans (hB.mono (by omega)), cell_in hk0 0 rfl, cell_in hk0 1 rfl, cell_in hk0 2 rfl, cell_in hk0 3 rfl⟩
  obtain ⟨M, hM⟩ : ∃ M, M = newM (w.heap.size + 1) := ⟨_, rfl⟩
  have HN0 : Hid (Calls Try.prog 9 #[] W0 fun e w' => e = .returned (ptr (w.heap.size + 1)) ∧ VSet (w.heap.size + 1) (w.heap.size + 1) M VS.none_ w' ∧ Below (w.heap.size + 1) W0 w') := by
    have := new_any W0
    rw [hs0, ← hM] at this
    exact this
  have HD : Hid (∀ j, (hj : j < l1.length) → ∀ W, VSet (w.heap.size + 1) (w.heap.size + 1) M (VS.none_.run (l1.take j)) W → Calls Try.prog 14 #[ptr (w.heap.size + 1), .agg #[.int .u8 l1[j].kind, .int .i64 l1[j].n, .string l1[j].q, .string l1[j].t]] W fun e w' => (∃ r, e = .returned (.int .i64 r)) ∧ VSet (w.heap.size + 1) (w.heap.size + 1) M (VS.none_.run (l1.take (j + 1))) w' ∧ Turn M W w') := fun j hj W hW => round_any hfc j hj W hW
  obtain ⟨s1, hs1⟩ : ∃ s1, s1 = VS.none_.run l1 := ⟨_, rfl⟩
  have HS1 : Hid (s1 = VS.none_.run l1) := hs1
  obtain ⟨s2, hs2⟩ : ∃ s2, s2 = (s1.act ⟨kd, sc, q, t⟩).1 := ⟨_, rfl⟩
  have HK : Hid (∀ W, VSet (w.heap.size + 1) (w.heap.size + 1) M s1 W → Calls Try.prog 14 #[ptr (w.heap.size + 1), .agg #[.int .u8 kd, .int .i64 sc, .string q, .string t]] W fun e w' => ∃ r, e = .returned (.int .i64 r) ∧ VSet (w.heap.size + 1) (w.heap.size + 1) M s2 w' ∧ Turn M W w') := fun W hW => by
    rw [hs2]; exact (does_any ⟨kd, sc, q, t⟩ W hW hx).mono fun _ _ h => ⟨_, h.1, h.2.1, h.2.2⟩
  have HR : Hid (∀ n, n ≠ sc → s2 n = s1 n) := fun n hn => by rw [hs2]; exact act_other s1 ⟨kd, sc, q, t⟩ hn
  have HCp : Hid (∀ W, VSet (w.heap.size + 1) (w.heap.size + 1) M s1 W → Calls Try.prog 25 #[ptr (w.heap.size + 1)] W fun e w' => ∃ (C : Nat) (MC : Int → Nat), e = .returned (ptr C) ∧ (VSet C C MC s1 w' ∧ (∀ n, isSc n = true → C ≠ M n) ∧ ∀ i k, isSc i = true → isSc k = true → MC i ≠ M k) ∧ Below W.heap.size W w') := fun W h => by
    refine (copy_any W h).mono ?_
    rintro e w' ⟨rfl, hv, hb⟩
    exact ⟨_, _, rfl, ⟨hv, fun n hn => by have := h.ltm hn; omega, fun i k hi hk => by have := h.ltm hk; unfold newM; omega⟩, hb⟩
  have HYtjbmmeneejcpbaa : Hid (∀ base b m s W n, VSet base b m s W → Calls Try.prog 21 #[ptr b, .int .i64 n] W fun e w' => ∃ a c, e = .returned (.slice a (s.names n).length c) ∧ Words w'.heap.size w' (.slice a (s.names n).length c) (s.names n) ∧ Below W.heap.size W w') := fun base b m s W n h => names_words n W h
  have HSm : Hid (∀ (l : List ByteArray) v1 v2 B1 B2 (W : World), l.length ≤ 2000000 → Words B1 W v1 l → Words B2 W v2 l → Calls Try.prog 20 #[v1, v2] W fun e w' => e = .returned (.bool true) ∧ ∃ n, w' = W.drewN n) := fun l v1 v2 B1 B2 W hl h1 h2 => same_any l v1 v2 B1 B2 W hl h1 h2
  have HIn : Hid (∀ base b m s W n x, VSet base b m s W → x.size ≤ 64 → Calls Try.prog 18 #[ptr b, .int .i64 n, .string x] W fun e w' => e = .returned (.tuple #[.string (((s n).look x).getD E), .bool ((s n).look x).isSome]) ∧ Below W.heap.size W w') := fun base b m s W n x h hx => in_any n x W h (by omega)
  clear hs2 hx hq ht
  clear hM hs1 hfc hwc hs0
  go_enter Try.func5, Try.ntmps5
  go_wp2_with fail
  rw [← hW0]
  refine HN0.out.mono ?_
  rintro e w1 ⟨rfl, hv1, hb1⟩
  go_wp2_with fail
  refine (HA.out _).mono ?_
  rintro e w2 ⟨rfl, hb2⟩
  have hv2 := hv1.below hb2
  have hb2' : Below (w.heap.size + 1) W0 w2 := hb1.trans (hb2.mono (Nat.le_of_lt hv1.lt))
  clear hv1 hb1 hb2 HA HN0
  go_wp2_with fail
  refine (HS.out _).mono ?_
  rintro e w3 ⟨rfl, rfl⟩
  have HT : Hid (VSet (w.heap.size + 1) (w.heap.size + 1) M VS.none_ w2) := hv2
  clear hv2 HS hb0
  go_wp2
  go_loopw [26] (fun vi wr => ∃ j : Nat, j ≤ k1 ∧ vi = .int .i64 j ∧ Hid (VSet (w.heap.size + 1) (w.heap.size + 1) M (VS.none_.run (l1.take j)) wr) ∧ Below (w.heap.size + 1) W0 wr)
    (fun vi _ => k1 - (intOf vi).toNat)
  case atStart => exact ⟨0, Nat.zero_le _, rfl, HT, hb2'⟩
  case round =>
    obtain ⟨j, hj, rfl, HT1, hb⟩ := hrel
    clear HT hb2'
    by_cases hlt : j < k1
    · have hjl : j < l1.length := by rw [← HW.out.1]; exact hlt
      have hil : (j : Int) < (k1 : Int) := by omega
      obtain ⟨g, o, rfl, x0, x1, x2, x3⟩ := acts_here HW.out.2 (HC.out _ hb).1 j hjl
      have HD1 := HD.out j hjl
      obtain ⟨x, hxe⟩ : ∃ x, x = l1[j] := ⟨_, rfl⟩
      rw [← hxe] at x0 x1 x2 x3 HD1
      obtain ⟨kd, nn, p, t⟩ := x
      simp only at x0 x1 x2 x3 HD1
      have HDX : Hid (∀ W, VSet (w.heap.size + 1) (w.heap.size + 1) M (VS.none_.run (l1.take j)) W → Calls Try.prog 14 #[ptr (w.heap.size + 1), .agg #[.int .u8 kd, .int .i64 nn, .string p, .string t]] W fun e w' => (∃ r, e = .returned (.int .i64 r)) ∧ VSet (w.heap.size + 1) (w.heap.size + 1) M (VS.none_.run (l1.take (j + 1))) w' ∧ Turn M W w') := HD1
      have HT2 : Hid (∀ o, VSet (w.heap.size + 1) (w.heap.size + 1) M (VS.none_.run (l1.take j)) (wr.alloc o)) := fun o => HT1.out.below ((Below.refl _ _).alloc (Nat.le_refl _) o)
      have HB2 : Hid (∀ o, Below (w.heap.size + 1) W0 (wr.alloc o)) := fun o => hb.alloc (Nat.le_of_lt HT1.out.lt) o
      clear hxe HD1 HT1 hb
      go_wp2_with fail
      refine (HDX.out _ (HT2.out _)).mono ?_
      rintro e w4 ⟨⟨r, rfl⟩, hv4, ht4⟩
      have HE : Hid (VSet (w.heap.size + 1) (w.heap.size + 1) M (VS.none_.run (l1.take (j + 1))) w4 ∧ Below (w.heap.size + 1) W0 w4) := ⟨hv4, (HB2.out _).trans ((HT2.out _).low ht4)⟩
      clear hv4 ht4 HT2 HB2 HDX
      go_wp2
      go_roundw
      case rel => exact ⟨j + 1, by omega, by go_num, HE.out.1, HE.out.2⟩
      case measure => simp [intOf]; omega
    · have hv3 : VSet (w.heap.size + 1) (w.heap.size + 1) M s1 wr := by
        have h1 := HT1.out
        rw [show l1.take j = l1 from List.take_of_length_le (by rw [← HW.out.1]; omega), ← HS1.out] at h1
        exact h1
      have hil : ¬ (j : Int) < (k1 : Int) := by omega
      clear HT1 HW HD HS1
      go_wp2_with fail
      refine (HCp.out _ hv3).mono ?_
      rintro e w4 ⟨C, MC, rfl, ⟨hc4, hne1, hne2⟩, hb4⟩
      have hv4 := hv3.below hb4
      have hb4' := hb.trans (hb4.mono (by have := hv3.lt; omega))
      clear hv3 hb hb4 HCp
      obtain ⟨-, y0, y1, y2, y3⟩ := HC.out w4 hb4'
      go_wp2_with fail
      refine (HK.out _ hv4).mono ?_
      rintro e w5 ⟨r5, rfl, hv5, ht5⟩
      have H2 : Hid (Two (w.heap.size + 1) (w.heap.size + 1) M s2 C MC s1 W0 w5) := ⟨hv5, hc4.other ht5 hne1 hne2, hb4'.trans (hv4.low ht5)⟩
      clear hv4 hv5 hc4 hne1 hne2 ht5 hb4' HK y0 y1 y2 y3
      go_wp2
      go_loopw [9] (fun vi wr => ∃ i : Nat, 1 ≤ i ∧ i ≤ 5 ∧ vi = .int .i64 i ∧ Hid (Two (w.heap.size + 1) (w.heap.size + 1) M s2 C MC s1 W0 wr))
        (fun vi _ => 5 - (intOf vi).toNat)
      case atStart => exact ⟨1, by omega, by omega, rfl, H2⟩
      case round =>
        obtain ⟨i, hi1, hi5, rfl, H3⟩ := hrel
        clear H2
        obtain ⟨hlow, y0, y1, y2, y3⟩ := HC.out _ H3.out.low
        by_cases h5 : i = 5
        · subst h5
          clear HC HR HYtjbmmeneejcpbaa HSm HIn H3
          go_wp2
          go_ret
          exact ⟨rfl, hlow⟩
        · have h4i : (i : Int) ≤ 4 := by omega
          clear hlow
          by_cases hsc : (i : Int) = sc
          · subst hsc
            clear HC HR HYtjbmmeneejcpbaa HSm HIn
            go_wp2
            go_roundw
            case rel => exact ⟨i + 1, by omega, by omega, by go_num, H3⟩
            case measure => simp [intOf]; omega
          · have hsb : ((i : Int) == sc) = false := by simpa using hsc
            have hsame := HR.out (i : Int) hsc
            have hnm : s2.names (i : Int) = s1.names (i : Int) := by unfold VS.names; rw [hsame]
            have hln : (s1.names (i : Int)).length ≤ 1024 := by rw [names_len]; exact H3.out.two.ok.len _
            have hsz : ∀ x ∈ s1.names (i : Int), x.size ≤ 64 := fun x hx => name_size H3.out.two.ok hx
            have HN1 : Hid (∀ W, Two (w.heap.size + 1) (w.heap.size + 1) M s2 C MC s1 W0 W → Calls Try.prog 21 #[ptr (w.heap.size + 1), .int .i64 (i : Int)] W fun e w' => ∃ a c, e = .returned (.slice a (s1.names (i : Int)).length c) ∧ Words w'.heap.size w' (.slice a (s1.names (i : Int)).length c) (s1.names (i : Int)) ∧ Below W.heap.size W w') := fun W h => by
              have := HYtjbmmeneejcpbaa.out _ _ _ _ W (i : Int) h.one
              rw [hnm] at this; exact this
            have HN2 : Hid (∀ W, Two (w.heap.size + 1) (w.heap.size + 1) M s2 C MC s1 W0 W → Calls Try.prog 21 #[ptr C, .int .i64 (i : Int)] W fun e w' => ∃ a c, e = .returned (.slice a (s1.names (i : Int)).length c) ∧ Words w'.heap.size w' (.slice a (s1.names (i : Int)).length c) (s1.names (i : Int)) ∧ Below W.heap.size W w') := fun W h => HYtjbmmeneejcpbaa.out _ _ _ _ W (i : Int) h.two
            obtain ⟨nl, hnl⟩ : ∃ nl, nl = s1.names (i : Int) := ⟨_, rfl⟩
            rw [← hnl] at HN1 HN2 hln hsz
            have HS2 : Hid (∀ v1 v2 B1 B2 (W : World), Words B1 W v1 nl → Words B2 W v2 nl → Calls Try.prog 20 #[v1, v2] W fun e w' => e = .returned (.bool true) ∧ ∃ n, w' = W.drewN n) := fun v1 v2 B1 B2 W h1 h2 => HSm.out nl v1 v2 B1 B2 W (by omega) h1 h2
            have HI1 : Hid (∀ x W, x ∈ nl → Two (w.heap.size + 1) (w.heap.size + 1) M s2 C MC s1 W0 W → Calls Try.prog 18 #[ptr (w.heap.size + 1), .int .i64 (i : Int), .string x] W fun e w' => e = .returned (.tuple #[.string (((s1 (i : Int)).look x).getD E), .bool ((s1 (i : Int)).look x).isSome]) ∧ Below W.heap.size W w') := fun x W hx h => by
              have := HIn.out _ _ _ _ W (i : Int) x h.one (hsz x hx)
              rw [hsame] at this; exact this
            have HI2 : Hid (∀ x W, x ∈ nl → Two (w.heap.size + 1) (w.heap.size + 1) M s2 C MC s1 W0 W → Calls Try.prog 18 #[ptr C, .int .i64 (i : Int), .string x] W fun e w' => e = .returned (.tuple #[.string (((s1 (i : Int)).look x).getD E), .bool ((s1 (i : Int)).look x).isSome]) ∧ Below W.heap.size W w') := fun x W hx h => HIn.out _ _ _ _ W (i : Int) x h.two (hsz x hx)
            obtain ⟨k, hk⟩ : ∃ k, k = nl.length := ⟨_, rfl⟩
            rw [← hk] at HN1 HN2 hln
            have HKL : Hid (k = nl.length) := hk
            clear hsc hsame hnm hsz hnl HYtjbmmeneejcpbaa HSm HIn HR hk
            go_wp2_with fail
            refine (HN1.out _ H3.out).mono ?_
            rintro e w6 ⟨a6, c6, rfl, hw6, hb6⟩
            have h6 := H3.out.below hb6
            clear hb6 H3 y0 y1 y2 y3
            go_wp2_with fail
            refine (HN2.out _ h6).mono ?_
            rintro e w7 ⟨a7, c7, rfl, hw7, hb7⟩
            have h7 := h6.below hb7
            have hw67 := hw6.below hb7
            clear hb7 h6 hw6
            go_wp2_with fail
            refine (HS2.out _ _ _ _ _ hw67 hw7).mono ?_
            rintro e w8 ⟨rfl, n8, hw8⟩
            have h8 : Two (w.heap.size + 1) (w.heap.size + 1) M s2 C MC s1 W0 w8 := by rw [hw8]; exact h7.below (below_drewN (Below.refl _ _) n8)
            clear h7 hw67 hw7 hw8
            go_wp2_with fail
            refine (HN2.out _ h8).mono ?_
            rintro e w9 ⟨a9, c9, rfl, hw9, hb9⟩
            have H9 : Hid (Two (w.heap.size + 1) (w.heap.size + 1) M s2 C MC s1 W0 w9) := h8.below hb9
            have HW9 : Hid (Words w9.heap.size w9 (.slice a9 k c9) nl) := hw9
            clear h8 hb9 hw9 HN1 HN2 HS2
            go_wp2
            go_loopw [61] (fun vi wr => ∃ z : Nat, z ≤ k ∧ vi = .int .i64 z ∧ Hid (Two (w.heap.size + 1) (w.heap.size + 1) M s2 C MC s1 W0 wr) ∧ Hid (Below w9.heap.size w9 wr))
              (fun vi _ => k - (intOf vi).toNat)
            case atStart => exact ⟨0, Nat.zero_le _, rfl, H9, Below.refl _ _⟩
            case round =>
              obtain ⟨z, hz, rfl, H10, HB10⟩ := hrel
              clear H9
              by_cases hzk : z < k
              · have hzi : (z : Int) < (k : Int) := by omega
                have hzl : z < nl.length := by rw [← HKL.out]; exact hzk
                obtain ⟨g, o, rfl, hcell⟩ := (HW9.out.below HB10.out).pick z hzl
                obtain ⟨x, hx⟩ : ∃ x, x = nl[z] := ⟨_, rfl⟩
                have HX : Hid (x ∈ nl) := by rw [hx]; exact List.getElem_mem hzl
                rw [← hx] at hcell
                clear hx
                go_wp2_with fail
                refine (HI1.out _ _ HX.out H10.out).mono ?_
                rintro e w11 ⟨rfl, hb11⟩
                have h11 := H10.out.below hb11
                have hB11 := HB10.out.trans (hb11.mono HB10.out.size)
                clear hb11 H10 HB10 hcell
                go_wp2_with fail
                refine (HI2.out _ _ HX.out h11).mono ?_
                rintro e w12 ⟨rfl, hb12⟩
                have H12 : Hid (Two (w.heap.size + 1) (w.heap.size + 1) M s2 C MC s1 W0 w12) := h11.below hb12
                have HB12 : Hid (Below w9.heap.size w9 w12) := hB11.trans (hb12.mono hB11.size)
                clear hb12 h11 hB11
                go_wp2
                go_roundw
                case rel => exact ⟨z + 1, by omega, by go_num, H12, HB12⟩
                case measure => simp [intOf]; omega
              · have hzi : ¬ (z : Int) < (k : Int) := by omega
                clear HW9 HB10
                go_wp2
                go_roundw
                case rel => exact ⟨i + 1, by omega, by omega, by go_num, H10⟩
                case measure => simp [intOf]; omega
end Go.Proofs.Ytjbmmeneejcpbaa
