/-
  VarsRefused at every script and call.
-/
import Derived.Test.YtjbmmeneejcpbaaVHides
namespace Go.Proofs.Ytjbmmeneejcpbaa
open Go.RowKit Go.Shelf Go.Maps

theorem cell_in {w : World} {b : Nat} {cs : Array Value} {T : TypeId} (h : w.heap[b]? = some (.cells cs T (0, 0))) (i : Nat) {u : Value} (hu : cs[i]? = some u) : w.cell? ⟨b, i, none⟩ = some u := by
  simp only [World.cell?, h]; exact hu
theorem names_len (s : VS) (n : Int) : (s.names n).length = (s n).length := by
  unfold VS.names VS.sorted
  rw [List.length_map, List.length_mergeSort, List.length_map, List.length_map]
theorem owns_slice {base n : Nat} {e : TypeId} {size : Nat} {W : World} {v : Value} {xs : List Value} (h : W.ownsRow base e size v n xs) : ∃ a cap, v = .slice a n cap := by
  rcases h.2 with ⟨rfl, rfl⟩ | ⟨g, cap, cur, rfl, _⟩
  · exact ⟨none, 0, rfl⟩
  · exact ⟨_, _, rfl⟩

/-- Names, as a slice of known length. -/
theorem names_len_any {base b : Nat} {m : Int → Nat} {s : VS} (n : Int) (w : World) (h : VSet base b m s w) :
    Calls Try.prog 21 #[ptr b, .int .i64 n] w fun e w' => ∃ a c, e = .returned (.slice a (s n).length c) ∧ Below w.heap.size w w' := by
  refine (names_any n w h).mono ?_
  rintro e w' ⟨v, rfl, hrow, hb⟩
  obtain ⟨a, c, rfl⟩ := owns_slice hrow
  exact ⟨a, c, by rw [names_len], hb⟩

set_option maxRecDepth 20000 in
set_option maxHeartbeats 4000000 in
theorem refused_law (a : Option Addr) (n c : Nat) (l : List Act) (x : Act) (w : World) (hn : n ≤ 140737488355328) (hc : n ≤ c) (hw : Acts w.heap.size w (.slice a n c) l) (hf : Fine l) (hx : x.Fine) :
    Calls Try.prog 6 #[.slice a n c, actArg x] w fun e w' => e = .returned (.bool true) ∧ Below w.heap.size w w' := by
  have HA : Hid (∀ W, Calls Try.prog 12 #[] W fun e w' => e = .returned (.bool true) ∧ Below W.heap.size W w') := fun W => alive_any W
  have HS : Hid (∀ W, Calls Try.prog 13 #[.slice a n c] W fun e w' => e = .returned (.slice a (min n 1500) c) ∧ W = w') := fun W => short_any a n c W hn hc
  obtain ⟨k1, hk1⟩ : ∃ k1, k1 = min n 1500 := ⟨_, rfl⟩
  have hk15 : k1 ≤ 1500 := by omega
  have hwc := hw.cut k1 c (by omega)
  have hfc := fine_take hf k1
  obtain ⟨l1, hl1⟩ : ∃ l1, l1 = l.take k1 := ⟨_, rfl⟩
  rw [← hl1] at hwc hfc
  rw [← hk1] at HS
  clear hl1 hk1 hw hf hn hc
  have HW : Hid (k1 = l1.length ∧ Acts w.heap.size w (.slice a k1 c) l1) := ⟨hwc.len, hwc⟩
  obtain ⟨kd, sc, q, t⟩ := x
  obtain ⟨hq, ht⟩ := hx.2
  simp only at hq ht
  have hb0 : Below w.heap.size w (w.alloc (.cells #[.int .u8 kd, .int .i64 sc, .string q, .string t] 32)) := (Below.refl _ w).alloc (Nat.le_refl _) _
  obtain ⟨W0, hW0⟩ : ∃ W0, W0 = w.alloc (.cells #[.int .u8 kd, .int .i64 sc, .string q, .string t] 32) := ⟨_, rfl⟩
  have hs0 : W0.heap.size = w.heap.size + 1 := by rw [hW0]; simp
  have HC : Hid (∀ W, Below (w.heap.size + 1) W0 W → Below w.heap.size w W ∧ W.cell? ⟨w.heap.size, 0, none⟩ = some (.int .u8 kd) ∧ W.cell? ⟨w.heap.size, 1, none⟩ = some (.int .i64 sc) ∧ W.cell? ⟨w.heap.size, 2, none⟩ = some (.string q) ∧ W.cell? ⟨w.heap.size, 3, none⟩ = some (.string t)) := fun W hB => by
    have hk0 : W.heap[w.heap.size]? = some (.cells #[.int .u8 kd, .int .i64 sc, .string q, .string t] 32 (0, 0)) := by
      rw [hB.block w.heap.size (by omega), hW0]; exact heap_alloc_new w _
    exact ⟨(hW0 ▸ hb0).trans (hB.mono (by omega)), cell_in hk0 0 rfl, cell_in hk0 1 rfl, cell_in hk0 2 rfl, cell_in hk0 3 rfl⟩
  obtain ⟨M, hM⟩ : ∃ M, M = newM (w.heap.size + 1) := ⟨_, rfl⟩
  have HN0 : Hid (Calls Try.prog 9 #[] W0 fun e w' => e = .returned (ptr (w.heap.size + 1)) ∧ VSet (w.heap.size + 1) (w.heap.size + 1) M VS.none_ w' ∧ Below (w.heap.size + 1) W0 w') := by
    have := new_any W0
    rw [hs0, ← hM] at this
    exact this
  have HD : Hid (∀ j, (hj : j < l1.length) → ∀ W, VSet (w.heap.size + 1) (w.heap.size + 1) M (VS.none_.run (l1.take j)) W → Calls Try.prog 14 #[ptr (w.heap.size + 1), .agg #[.int .u8 l1[j].kind, .int .i64 l1[j].n, .string l1[j].q, .string l1[j].t]] W fun e w' => (∃ r, e = .returned (.int .i64 r)) ∧ VSet (w.heap.size + 1) (w.heap.size + 1) M (VS.none_.run (l1.take (j + 1))) w' ∧ Turn M W w') := fun j hj W hW => round_any hfc j hj W hW
  obtain ⟨s1, hs1⟩ : ∃ s1, s1 = VS.none_.run l1 := ⟨_, rfl⟩
  have HS1 : Hid (s1 = VS.none_.run l1) := hs1
  obtain ⟨r0, hr0⟩ : ∃ r0, r0 = (s1.act ⟨kd, sc, q, t⟩).2 := ⟨_, rfl⟩
  obtain ⟨s2, hs2⟩ : ∃ s2, s2 = (s1.act ⟨kd, sc, q, t⟩).1 := ⟨_, rfl⟩
  have HK : Hid (∀ W, VSet (w.heap.size + 1) (w.heap.size + 1) M s1 W → Calls Try.prog 14 #[ptr (w.heap.size + 1), .agg #[.int .u8 kd, .int .i64 sc, .string q, .string t]] W fun e w' => e = .returned (.int .i64 r0) ∧ VSet (w.heap.size + 1) (w.heap.size + 1) M s2 w' ∧ Turn M W w') := fun W hW => by
    rw [hr0, hs2]; exact does_any ⟨kd, sc, q, t⟩ W hW hx
  have HR : Hid (r0 ≠ 0 ∨ (kd.tmod 5 = 2 ∧ (s1.get q).isSome = true) → s2 = s1) := fun h => by
    rw [hs2]; rw [hr0] at h; exact act_refused s1 ⟨kd, sc, q, t⟩ h
  have hkk : IntKind.u8.wrap (kd.tmod 5) = kd.tmod 5 := by
    have h0 := hx.1.k0
    simp only at h0
    have h1 := Int.tmod_eq_emod_of_nonneg (b := 5) h0
    have : kd.tmod 5 = 0 ∨ kd.tmod 5 = 1 ∨ kd.tmod 5 = 2 ∨ kd.tmod 5 = 3 ∨ kd.tmod 5 = 4 := by omega
    rcases this with e | e | e | e | e <;> rw [e] <;> decide
  obtain ⟨v1, hv1⟩ : ∃ v1, v1 = (s1.get q).getD E := ⟨_, rfl⟩
  obtain ⟨t1, ht1⟩ : ∃ t1, t1 = (s1.get q).isSome := ⟨_, rfl⟩
  obtain ⟨v3, hv3⟩ : ∃ v3, v3 = ((s1 sc).look q).getD E := ⟨_, rfl⟩
  obtain ⟨t3, ht3⟩ : ∃ t3, t3 = ((s1 sc).look q).isSome := ⟨_, rfl⟩
  obtain ⟨nl, hnl⟩ : ∃ nl, nl = (s1 sc).length := ⟨_, rfl⟩
  have HG : Hid (∀ W, VSet (w.heap.size + 1) (w.heap.size + 1) M s1 W → Calls Try.prog 16 #[ptr (w.heap.size + 1), .string q] W fun e w' => e = .returned (.tuple #[.string v1, .bool t1]) ∧ Below W.heap.size W w') := fun W h => by
    rw [hv1, ht1]; exact get_any q W h hq
  have HI : Hid (∀ W, VSet (w.heap.size + 1) (w.heap.size + 1) M s1 W → Calls Try.prog 18 #[ptr (w.heap.size + 1), .int .i64 sc, .string q] W fun e w' => e = .returned (.tuple #[.string v3, .bool t3]) ∧ Below W.heap.size W w') := fun W h => by
    rw [hv3, ht3]; exact in_any sc q W h hq
  have HL : Hid (∀ W, VSet (w.heap.size + 1) (w.heap.size + 1) M s1 W → Calls Try.prog 21 #[ptr (w.heap.size + 1), .int .i64 sc] W fun e w' => ∃ a c, e = .returned (.slice a nl c) ∧ Below W.heap.size W w') := fun W h => by
    rw [hnl]; exact names_len_any sc W h
  rw [← ht1] at HR
  clear hr0 hs2 hv1 ht1 hv3 ht3 hnl hx hq ht
  clear hM hs1 hfc hwc hs0
  go_enter Try.func6, Try.ntmps6
  go_wp2_with fail
  rw [← hW0]
  refine HN0.out.mono ?_
  rintro e w1 ⟨rfl, hv1, hb1⟩
  go_wp2_with fail
  refine (HA.out _).mono ?_
  rintro e w2 ⟨rfl, hb2⟩
  have hv2 := hv1.below hb2
  have hb2' : Below (w.heap.size + 1) W0 w2 := hb1.trans (hb2.mono (Nat.le_of_lt hv1.lt))
  clear hv1 hb1 hb2 HA HN0
  go_wp2_with fail
  refine (HS.out _).mono ?_
  rintro e w3 ⟨rfl, rfl⟩
  have HT : Hid (VSet (w.heap.size + 1) (w.heap.size + 1) M VS.none_ w2) := hv2
  clear hv2 HS hb0
  go_wp2
  go_loopw [27] (fun vi wr => ∃ j : Nat, j ≤ k1 ∧ vi = .int .i64 j ∧ Hid (VSet (w.heap.size + 1) (w.heap.size + 1) M (VS.none_.run (l1.take j)) wr) ∧ Below (w.heap.size + 1) W0 wr)
    (fun vi _ => k1 - (intOf vi).toNat)
  case atStart => exact ⟨0, Nat.zero_le _, rfl, HT, hb2'⟩
  case round =>
    obtain ⟨j, hj, rfl, HT1, hb⟩ := hrel
    clear HT hb2'
    by_cases hlt : j < k1
    · have hjl : j < l1.length := by rw [← HW.out.1]; exact hlt
      have hil : (j : Int) < (k1 : Int) := by omega
      obtain ⟨g, o, rfl, x0, x1, x2, x3⟩ := acts_here HW.out.2 (HC.out _ hb).1 j hjl
      have HD1 := HD.out j hjl
      obtain ⟨x, hxe⟩ : ∃ x, x = l1[j] := ⟨_, rfl⟩
      rw [← hxe] at x0 x1 x2 x3 HD1
      obtain ⟨kd, nn, p, t⟩ := x
      simp only at x0 x1 x2 x3 HD1
      have HDX : Hid (∀ W, VSet (w.heap.size + 1) (w.heap.size + 1) M (VS.none_.run (l1.take j)) W → Calls Try.prog 14 #[ptr (w.heap.size + 1), .agg #[.int .u8 kd, .int .i64 nn, .string p, .string t]] W fun e w' => (∃ r, e = .returned (.int .i64 r)) ∧ VSet (w.heap.size + 1) (w.heap.size + 1) M (VS.none_.run (l1.take (j + 1))) w' ∧ Turn M W w') := HD1
      have HT2 : Hid (∀ o, VSet (w.heap.size + 1) (w.heap.size + 1) M (VS.none_.run (l1.take j)) (wr.alloc o)) := fun o => HT1.out.below ((Below.refl _ _).alloc (Nat.le_refl _) o)
      have HB2 : Hid (∀ o, Below (w.heap.size + 1) W0 (wr.alloc o)) := fun o => hb.alloc (Nat.le_of_lt HT1.out.lt) o
      clear hxe HD1 HT1 hb
      go_wp2_with fail
      refine (HDX.out _ (HT2.out _)).mono ?_
      rintro e w4 ⟨⟨r, rfl⟩, hv4, ht4⟩
      have HE : Hid (VSet (w.heap.size + 1) (w.heap.size + 1) M (VS.none_.run (l1.take (j + 1))) w4 ∧ Below (w.heap.size + 1) W0 w4) := ⟨hv4, (HB2.out _).trans ((HT2.out _).low ht4)⟩
      clear hv4 ht4 HT2 HB2 HDX
      go_wp2
      go_roundw
      case rel => exact ⟨j + 1, by omega, by go_num, HE.out.1, HE.out.2⟩
      case measure => simp [intOf]; omega
    · have hv3 : VSet (w.heap.size + 1) (w.heap.size + 1) M s1 wr := by
        have h1 := HT1.out
        rw [show l1.take j = l1 from List.take_of_length_le (by rw [← HW.out.1]; omega), ← HS1.out] at h1
        exact h1
      have hil : ¬ (j : Int) < (k1 : Int) := by omega
      clear HT1 HW HD HS1
      obtain ⟨-, y0, y1, y2, y3⟩ := HC.out wr hb
      go_wp2_with fail
      refine (HG.out _ hv3).mono ?_
      rintro e w4 ⟨rfl, hb4⟩
      have hv4 := hv3.below hb4
      have hb4' := hb.trans (hb4.mono (by have := hv3.lt; omega))
      clear hv3 hb hb4 y0 y1 y2 y3
      obtain ⟨-, y0, y1, y2, y3⟩ := HC.out w4 hb4'
      go_wp2_with fail
      refine (HI.out _ hv4).mono ?_
      rintro e w5 ⟨rfl, hb5⟩
      have hv5 := hv4.below hb5
      have hb5' := hb4'.trans (hb5.mono (by have := hv4.lt; omega))
      clear hv4 hb4' hb5 y0 y1 y2 y3
      obtain ⟨-, y0, y1, y2, y3⟩ := HC.out w5 hb5'
      go_wp2_with fail
      refine (HL.out _ hv5).mono ?_
      rintro e w6 ⟨a6, c6, rfl, hb6⟩
      have hv6 := hv5.below hb6
      have hb6' := hb5'.trans (hb6.mono (by have := hv5.lt; omega))
      clear hv5 hb5' hb6 y0 y1 y2 y3
      obtain ⟨-, y0, y1, y2, y3⟩ := HC.out w6 hb6'
      go_wp2_with fail
      refine (HK.out _ hv6).mono ?_
      rintro e w7 ⟨rfl, hv7, ht7⟩
      have hb7 := hb6'.trans (hv6.low ht7)
      clear hv6 hb6' ht7 y0 y1 y2 y3
      obtain ⟨hlow, y0, y1, y2, y3⟩ := HC.out w7 hb7
      have hbe : ∀ (x y : Bool) (W : World), (Sem.run Try.prog (binOp .eql 4 (.bool x) (.bool y)) W) = .ok (.bool (x == y)) W := fun x y W => rfl
      by_cases hgo : r0 = 0 ∧ ¬ (kd.tmod 5 = 2 ∧ t1 = true)
      · obtain ⟨rfl, hgo⟩ := hgo
        clear HR HL HI HG HK HC hv7
        by_cases hk2 : kd.tmod 5 = 2
        · have ht1 : t1 = false := by cases t1; rfl; exact absurd ⟨hk2, rfl⟩ hgo
          subst ht1
          clear hgo
          go_wp2
          go_ret
          exact ⟨rfl, hlow⟩
        · have hk2b : (kd.tmod 5 == 2) = false := by simpa using hk2
          clear hgo
          go_wp2
          go_ret
          exact ⟨rfl, hlow⟩
      · have hs21 : s2 = s1 := HR.out (by
          by_cases h0 : r0 = 0
          · right
            by_cases h2 : kd.tmod 5 = 2 ∧ t1 = true
            · exact h2
            · exact absurd ⟨h0, h2⟩ hgo
          · exact .inl h0)
        rw [hs21] at hv7
        have HQ : Hid (r0 ≠ 0 ∨ (kd.tmod 5 = 2 ∧ t1 = true)) := by
          by_cases h0 : r0 = 0
          · right
            by_cases h2 : kd.tmod 5 = 2 ∧ t1 = true
            · exact h2
            · exact absurd ⟨h0, h2⟩ hgo
          · exact .inl h0
        clear hgo hs21 HR HK hlow
        rcases HQ.out with hr | ⟨hk2, rfl⟩
        · have hrb : (r0 == 0) = false := by simpa using hr
          clear HQ
          go_wp2_with fail
          refine (HG.out _ hv7).mono ?_
          rintro e w8 ⟨rfl, hb8⟩
          have hv8 := hv7.below hb8
          have hb8' := hb7.trans (hb8.mono (by have := hv7.lt; omega))
          clear hv7 hb7 hb8 y0 y1 y2 y3
          obtain ⟨-, y0, y1, y2, y3⟩ := HC.out w8 hb8'
          go_wp2_with fail
          refine (HI.out _ hv8).mono ?_
          rintro e w9 ⟨rfl, hb9⟩
          have hv9 := hv8.below hb9
          have hb9' := hb8'.trans (hb9.mono (by have := hv8.lt; omega))
          clear hv8 hb8' hb9 y0 y1 y2 y3
          obtain ⟨-, y0, y1, y2, y3⟩ := HC.out w9 hb9'
          go_wp2_with fail
          refine (HL.out _ hv9).mono ?_
          rintro e w10 ⟨a10, c10, rfl, hb10⟩
          have hb10' := hb9'.trans (hb10.mono (by have := hv9.lt; omega))
          have hlow := (HC.out w10 hb10').1
          clear hv9 hb9' hb10 hb10' y0 y1 y2 y3
          go_wp2
          go_ret
          exact ⟨ret_bool (by simp), hlow⟩
        · by_cases hr : r0 = 0
          · subst hr
            clear HQ
            go_wp2_with fail
            refine (HG.out _ hv7).mono ?_
            rintro e w8 ⟨rfl, hb8⟩
            have hv8 := hv7.below hb8
            have hb8' := hb7.trans (hb8.mono (by have := hv7.lt; omega))
            clear hv7 hb7 hb8 y0 y1 y2 y3
            obtain ⟨-, y0, y1, y2, y3⟩ := HC.out w8 hb8'
            go_wp2_with fail
            refine (HI.out _ hv8).mono ?_
            rintro e w9 ⟨rfl, hb9⟩
            have hv9 := hv8.below hb9
            have hb9' := hb8'.trans (hb9.mono (by have := hv8.lt; omega))
            clear hv8 hb8' hb9 y0 y1 y2 y3
            obtain ⟨-, y0, y1, y2, y3⟩ := HC.out w9 hb9'
            go_wp2_with fail
            refine (HL.out _ hv9).mono ?_
            rintro e w10 ⟨a10, c10, rfl, hb10⟩
            have hb10' := hb9'.trans (hb10.mono (by have := hv9.lt; omega))
            have hlow := (HC.out w10 hb10').1
            clear hv9 hb9' hb10 hb10' y0 y1 y2 y3
            go_wp2
            go_ret
            exact ⟨ret_bool (by simp), hlow⟩
          · have hrb : (r0 == 0) = false := by simpa using hr
            clear HQ
            go_wp2_with fail
            refine (HG.out _ hv7).mono ?_
            rintro e w8 ⟨rfl, hb8⟩
            have hv8 := hv7.below hb8
            have hb8' := hb7.trans (hb8.mono (by have := hv7.lt; omega))
            clear hv7 hb7 hb8 y0 y1 y2 y3
            obtain ⟨-, y0, y1, y2, y3⟩ := HC.out w8 hb8'
            go_wp2_with fail
            refine (HI.out _ hv8).mono ?_
            rintro e w9 ⟨rfl, hb9⟩
            have hv9 := hv8.below hb9
            have hb9' := hb8'.trans (hb9.mono (by have := hv8.lt; omega))
            clear hv8 hb8' hb9 y0 y1 y2 y3
            obtain ⟨-, y0, y1, y2, y3⟩ := HC.out w9 hb9'
            go_wp2_with fail
            refine (HL.out _ hv9).mono ?_
            rintro e w10 ⟨a10, c10, rfl, hb10⟩
            have hb10' := hb9'.trans (hb10.mono (by have := hv9.lt; omega))
            have hlow := (HC.out w10 hb10').1
            clear hv9 hb9' hb10 hb10' y0 y1 y2 y3
            go_wp2
            go_ret
            exact ⟨ret_bool (by simp), hlow⟩
end Go.Proofs.Ytjbmmeneejcpbaa
