/-
  VarsHides at every script, name and scope.
-/
import Derived.Test.YtjbmmeneejcpbaaVMath
namespace Go.Proofs.Ytjbmmeneejcpbaa
open Go.RowKit Go.Shelf Go.Maps

theorem acts_here {B : Nat} {W W' : World} {a : Option Addr} {n c : Nat} {l : List Act} (h : Acts B W (.slice a n c) l) (hb : Below B W W') (i : Nat) (hi : i < l.length) :
    ∃ b o, a = some ⟨b, o, none⟩ ∧ W'.cell? ⟨b, o + i * 4, none⟩ = some (.int .u8 l[i].kind) ∧ W'.cell? ⟨b, o + i * 4 + 1, none⟩ = some (.int .i64 l[i].n) ∧ W'.cell? ⟨b, o + i * 4 + 2, none⟩ = some (.string l[i].q) ∧
      W'.cell? ⟨b, o + i * 4 + 3, none⟩ = some (.string l[i].t) := by
  obtain ⟨b, o, e1, _, e2⟩ := (h.below hb).pick i hi
  exact ⟨b, o, e1, e2⟩
theorem fine_take {l : List Act} (h : Fine l) (k : Nat) : Fine (l.take k) := fun x hx => h x (List.mem_of_mem_take hx)

set_option maxRecDepth 20000 in
set_option maxHeartbeats 4000000 in
theorem hides_law (a : Option Addr) (n c : Nat) (l : List Act) (q : ByteArray) (sc : Int) (w : World) (hn : n ≤ 140737488355328) (hc : n ≤ c) (hw : Acts w.heap.size w (.slice a n c) l) (hf : Fine l) (hq : q.size ≤ 140737488355328) :
    Calls Try.prog 4 #[.slice a n c, .string q, .int .i64 sc] w fun e w' => e = .returned (.bool true) ∧ Below w.heap.size w w' := by
  have HA : Hid (∀ W, Calls Try.prog 12 #[] W fun e w' => e = .returned (.bool true) ∧ Below W.heap.size W w') := fun W => alive_any W
  have HS : Hid (∀ W, Calls Try.prog 13 #[.slice a n c] W fun e w' => e = .returned (.slice a (min n 1500) c) ∧ W = w') := fun W => short_any a n c W hn hc
  obtain ⟨k1, hk1⟩ : ∃ k1, k1 = min n 1500 := ⟨_, rfl⟩
  have hk15 : k1 ≤ 1500 := by omega
  have hwc := hw.cut k1 c (by omega)
  have hfc := fine_take hf k1
  obtain ⟨l1, hl1⟩ : ∃ l1, l1 = l.take k1 := ⟨_, rfl⟩
  rw [← hl1] at hwc hfc
  rw [← hk1] at HS
  clear hl1 hk1 hw hf hn hc
  have HW : Hid (k1 = l1.length ∧ Acts w.heap.size w (.slice a k1 c) l1) := ⟨hwc.len, hwc⟩
  have HN : Hid (∀ W : World, W = w → Calls Try.prog 9 #[] W fun e w' => e = .returned (ptr w.heap.size) ∧ VSet w.heap.size w.heap.size (newM w.heap.size) VS.none_ w' ∧ Below w.heap.size w w') := by
    rintro W rfl; exact new_any W
  obtain ⟨M, hM⟩ : ∃ M, M = newM w.heap.size := ⟨_, rfl⟩
  rw [← hM] at HN
  have HD : Hid (∀ j, (hj : j < l1.length) → ∀ W, VSet w.heap.size w.heap.size M (VS.none_.run (l1.take j)) W → Calls Try.prog 14 #[ptr w.heap.size, .agg #[.int .u8 l1[j].kind, .int .i64 l1[j].n, .string l1[j].q, .string l1[j].t]] W fun e w' => (∃ r, e = .returned (.int .i64 r)) ∧ VSet w.heap.size w.heap.size M (VS.none_.run (l1.take (j + 1))) w' ∧ Turn M W w') := fun j hj W hW => round_any hfc j hj W hW
  obtain ⟨s1, hs1⟩ : ∃ s1, s1 = VS.none_.run l1 := ⟨_, rfl⟩
  have HS1 : Hid (s1 = VS.none_.run l1) := hs1
  obtain ⟨s2, hs2⟩ : ∃ s2, s2 = (s1.drop sc q).1 := ⟨_, rfl⟩
  obtain ⟨r0, hr0⟩ : ∃ r0, r0 = (s1.drop sc q).2 := ⟨_, rfl⟩
  have H1 : Hid (∀ W, VSet w.heap.size w.heap.size M s1 W → Calls Try.prog 23 #[ptr w.heap.size, .int .i64 sc, .string q] W fun e w' => e = .returned (.int .i64 r0) ∧ VSet w.heap.size w.heap.size M s2 w' ∧ Turn M W w') := fun W h => by
    rw [hr0, hs2]; exact drop_any sc q W h hq
  obtain ⟨s3, hs3⟩ : ∃ s3, s3 = (s2.put sc q newT).1 := ⟨_, rfl⟩
  obtain ⟨r1, hr1⟩ : ∃ r1, r1 = (s2.put sc q newT).2 := ⟨_, rfl⟩
  have H2 : Hid (∀ W, VSet w.heap.size w.heap.size M s2 W → Calls Try.prog 24 #[ptr w.heap.size, .int .i64 sc, .string q, .string ⟨#[110, 101, 119]⟩] W fun e w' => e = .returned (.int .i64 r1) ∧ VSet w.heap.size w.heap.size M s3 w' ∧ Turn M W w') := fun W h => by
    rw [hr1, hs3]; exact put_any sc q newT W h (by decide)
  have HG : Hid (∀ s W, VSet w.heap.size w.heap.size M s W → Calls Try.prog 16 #[ptr w.heap.size, .string q] W fun e w' => e = .returned (.tuple #[.string ((s.get q).getD E), .bool (s.get q).isSome]) ∧ Below W.heap.size W w') := fun s W h => get_any q W h hq
  have HI : Hid (∀ i s W, VSet w.heap.size w.heap.size M s W → Calls Try.prog 18 #[ptr w.heap.size, .int .i64 i, .string q] W fun e w' => e = .returned (.tuple #[.string (((s i).look q).getD E), .bool ((s i).look q).isSome]) ∧ Below W.heap.size W w') := fun i s W h => in_any i q W h hq
  have HDr : Hid (∀ s W, VSet w.heap.size w.heap.size M s W → Calls Try.prog 23 #[ptr w.heap.size, .int .i64 sc, .string q] W fun e w' => e = .returned (.int .i64 (s.drop sc q).2) ∧ VSet w.heap.size w.heap.size M (s.drop sc q).1 w' ∧ Turn M W w') := fun s W h => drop_any sc q W h hq
  have HF : Hid (r1 = 0 → ∃ k : Nat, k ≤ 3 ∧ sc = ((k + 1 : Nat) : Int) ∧ isSc sc = true ∧ (s2 sc).look q = none ∧ s3 = s2.upd sc ((s2 sc).set q newT)) := by
    intro h0
    rw [hr1] at h0
    obtain ⟨p1, p2⟩ := put_zero h0
    obtain ⟨k, hk, e⟩ := sc_nat p1
    exact ⟨k, hk, e, p1, by rw [hs2]; exact dropped _ _ _ p1, by rw [hs3]; exact p2⟩
  obtain ⟨v2, hv2⟩ : ∃ v2, v2 = (s2.get q).getD E := ⟨_, rfl⟩
  obtain ⟨t2, ht2⟩ : ∃ t2, t2 = (s2.get q).isSome := ⟨_, rfl⟩
  have HG2 : Hid (∀ W, VSet w.heap.size w.heap.size M s2 W → Calls Try.prog 16 #[ptr w.heap.size, .string q] W fun e w' => e = .returned (.tuple #[.string v2, .bool t2]) ∧ Below W.heap.size W w') := fun W h => by
    rw [hv2, ht2]; exact HG.out s2 W h
  have HV2 : Hid (v2 = (s2.get q).getD E ∧ t2 = (s2.get q).isSome) := ⟨hv2, ht2⟩
  clear hM hs1 hs2 hr0 hs3 hr1 hv2 ht2 hfc hwc hq
  go_enter Try.func4, Try.ntmps4
  go_wp2_with fail
  refine (HN.out _ rfl).mono ?_
  rintro e w1 ⟨rfl, hv1, hb1⟩
  go_wp2_with fail
  refine (HA.out _).mono ?_
  rintro e w2 ⟨rfl, hb2⟩
  have hv2 := hv1.below hb2
  have hb2' : Below w.heap.size w w2 := hb1.trans (hb2.mono hb1.size)
  clear hv1 hb1 hb2 HA HN
  go_wp2_with fail
  refine (HS.out _).mono ?_
  rintro e w3 ⟨rfl, rfl⟩
  have HT : Hid (VSet w.heap.size w.heap.size M VS.none_ w2) := hv2
  clear hv2 HS
  go_wp2
  go_loopw [30] (fun vi wr => ∃ j : Nat, j ≤ k1 ∧ vi = .int .i64 j ∧ Hid (VSet w.heap.size w.heap.size M (VS.none_.run (l1.take j)) wr) ∧ Below w.heap.size w wr)
    (fun vi _ => k1 - (intOf vi).toNat)
  case atStart => exact ⟨0, Nat.zero_le _, rfl, HT, hb2'⟩
  case round =>
    obtain ⟨j, hj, rfl, HT1, hb⟩ := hrel
    clear HT hb2'
    by_cases hlt : j < k1
    · have hjl : j < l1.length := by rw [← HW.out.1]; exact hlt
      have hil : (j : Int) < (k1 : Int) := by omega
      obtain ⟨g, o, rfl, x0, x1, x2, x3⟩ := acts_here HW.out.2 hb j hjl
      have HD1 := HD.out j hjl
      obtain ⟨x, hxe⟩ : ∃ x, x = l1[j] := ⟨_, rfl⟩
      rw [← hxe] at x0 x1 x2 x3 HD1
      obtain ⟨kd, nn, p, t⟩ := x
      simp only at x0 x1 x2 x3 HD1
      have HDX : Hid (∀ W, VSet w.heap.size w.heap.size M (VS.none_.run (l1.take j)) W → Calls Try.prog 14 #[ptr w.heap.size, .agg #[.int .u8 kd, .int .i64 nn, .string p, .string t]] W fun e w' => (∃ r, e = .returned (.int .i64 r)) ∧ VSet w.heap.size w.heap.size M (VS.none_.run (l1.take (j + 1))) w' ∧ Turn M W w') := HD1
      have HT2 : Hid (∀ o, VSet w.heap.size w.heap.size M (VS.none_.run (l1.take j)) (wr.alloc o)) := fun o => HT1.out.below ((Below.refl _ _).alloc (Nat.le_refl _) o)
      have HB2 : Hid (∀ o, Below w.heap.size w (wr.alloc o)) := fun o => hb.alloc hb.size o
      clear hxe HD1 HT1 hb
      go_wp2_with fail
      refine (HDX.out _ (HT2.out _)).mono ?_
      rintro e w4 ⟨⟨r, rfl⟩, hv4, ht4⟩
      have HE : Hid (VSet w.heap.size w.heap.size M (VS.none_.run (l1.take (j + 1))) w4 ∧ Below w.heap.size w w4) := ⟨hv4, (HB2.out _).trans ((HT2.out _).low ht4)⟩
      clear hv4 ht4 HT2 HB2 HDX
      go_wp2
      go_roundw
      case rel => exact ⟨j + 1, by omega, by go_num, HE.out.1, HE.out.2⟩
      case measure => simp [intOf]; omega
    · have hv3 : VSet w.heap.size w.heap.size M s1 wr := by
        have h1 := HT1.out
        rw [show l1.take j = l1 from List.take_of_length_le (by rw [← HW.out.1]; omega), ← HS1.out] at h1
        exact h1
      have hil : ¬ (j : Int) < (k1 : Int) := by omega
      clear HT1 HW HD HS1
      go_wp2_with fail
      refine (H1.out _ hv3).mono ?_
      rintro e w4 ⟨rfl, hv4, ht4⟩
      have hb4 := hb.trans (hv3.low ht4)
      clear hv3 ht4 hb
      go_wp2_with fail
      refine (HG2.out _ hv4).mono ?_
      rintro e w5 ⟨rfl, hb5⟩
      have hv5 := hv4.below hb5
      have hb5' := hb4.trans (hb5.mono hb4.size)
      clear hv4 hb4 hb5
      go_wp2_with fail
      refine (H2.out _ hv5).mono ?_
      rintro e w6 ⟨rfl, hv6, ht6⟩
      have hb6 := hb5'.trans (hv5.low ht6)
      clear hv5 hb5' ht6
      by_cases hr : r1 = 0
      · obtain ⟨k, hk3, hsk, hsc, hnone, hs3⟩ := HF.out hr
        subst hr
        obtain ⟨hy, hno⟩ := hides_now hsk hk3 hs3
        obtain ⟨hd0, hback⟩ := hides_back hsc hnone hs3
        have HDr3 : Hid (∀ W, VSet w.heap.size w.heap.size M s3 W → Calls Try.prog 23 #[ptr w.heap.size, .int .i64 sc, .string q] W fun e w' => e = .returned (.int .i64 0) ∧ VSet w.heap.size w.heap.size M (s3.drop sc q).1 w' ∧ Turn M W w') := fun W h => by
          have := HDr.out s3 W h; rw [hd0] at this; exact this
        have HG4 : Hid (∀ W, VSet w.heap.size w.heap.size M (s3.drop sc q).1 W → Calls Try.prog 16 #[ptr w.heap.size, .string q] W fun e w' => e = .returned (.tuple #[.string v2, .bool t2]) ∧ Below W.heap.size W w') := fun W h => by
          have := HG.out _ W h; rw [hback, ← HV2.out.1, ← HV2.out.2] at this; exact this
        have HY : Hid (aheadB s3 q k = true → s3.get q = s2.get q ∧ (s3.get q).isSome = true) := hy
        have HNo : Hid (aheadB s3 q k = false → s3.get q = some newT) := hno
        have HT6 : Hid (VSet w.heap.size w.heap.size M s3 w6) := hv6
        have hb4' : ∀ (x y : Bool) (W : World), (Sem.run Try.prog (binOp .eql 4 (.bool x) (.bool y)) W) = .ok (.bool (x == y)) W := fun x y W => rfl
        have HSK : Hid (sc = ((k + 1 : Nat) : Int)) := hsk
        clear hsk hy hno hd0 hback hs3 hnone hsc hv6 HDr HF H1 H2 HG2
        go_wp2
        go_loopw [12, 13] (fun va vi wr => ∃ i : Nat, i ≤ k ∧ vi = .int .i64 ((i + 1 : Nat) : Int) ∧ va = .bool (aheadB s3 q i) ∧ Hid (VSet w.heap.size w.heap.size M s3 wr) ∧ Below w.heap.size w wr)
          (fun _ vi _ => k + 1 - (intOf vi).toNat)
        case atStart => exact ⟨0, Nat.zero_le _, rfl, rfl, HT6, hb6⟩
        case round =>
          obtain ⟨i, hi, rfl, rfl, HTr, hbr⟩ := hrel
          clear HT6 hb6
          by_cases hik : i < k
          · have hiki : ((i + 1 : Nat) : Int) < sc := by have := HSK.out; omega
            have HI1 := HI.out ((i + 1 : Nat) : Int) s3
            obtain ⟨x, hx⟩ : ∃ x, x = aheadB s3 q i := ⟨_, rfl⟩
            obtain ⟨y, hy⟩ : ∃ y, y = ((s3 ((i + 1 : Nat) : Int)).look q).isSome := ⟨_, rfl⟩
            obtain ⟨z, hz⟩ : ∃ z, z = ((s3 ((i + 1 : Nat) : Int)).look q).getD E := ⟨_, rfl⟩
            have HX : Hid (aheadB s3 q (i + 1) = (x || y)) := by rw [hx, hy]; rfl
            rw [← hy, ← hz] at HI1
            rw [← hx]
            have HI2 : Hid (∀ W, VSet w.heap.size w.heap.size M s3 W → Calls Try.prog 18 #[ptr w.heap.size, .int .i64 ((i + 1 : Nat) : Int), .string q] W fun e w' => e = .returned (.tuple #[.string z, .bool y]) ∧ Below W.heap.size W w') := HI1
            obtain ⟨ii, hii⟩ : ∃ ii : Int, ii = ((i + 1 : Nat) : Int) := ⟨_, rfl⟩
            have HII : Hid (ii = ((i + 1 : Nat) : Int)) := hii
            rw [← hii] at HI2 hiki ⊢
            have h0 : 0 ≤ ii := by omega
            have h5 : ii ≤ 5 := by omega
            clear hx hy hz HI1 HI hii
            cases x
            all_goals
              go_wp2_with fail
              refine (HI2.out _ HTr.out).mono ?_
              rintro e w7 ⟨rfl, hb7⟩
              have HE : Hid (VSet w.heap.size w.heap.size M s3 w7 ∧ Below w.heap.size w w7) := ⟨HTr.out.below hb7, hbr.trans (hb7.mono hbr.size)⟩
              clear hb7 hbr HTr
              go_wp2
              go_roundw
              case rel =>
                have := HII.out
                exact ⟨i + 1, by omega, by rw [this]; go_num, by rw [HX.out]; rfl, HE.out.1, HE.out.2⟩
              case measure => have := HII.out; simp [intOf]; omega
          · obtain rfl : i = k := by omega
            have hiki : ¬ ((i + 1 : Nat) : Int) < sc := by have := HSK.out; omega
            have HG3 : Hid (∀ W, VSet w.heap.size w.heap.size M s3 W → Calls Try.prog 16 #[ptr w.heap.size, .string q] W fun e w' => e = .returned (.tuple #[.string ((s3.get q).getD E), .bool (s3.get q).isSome]) ∧ Below W.heap.size W w') := HG.out s3
            obtain ⟨ii, hii⟩ : ∃ ii : Int, ii = ((i + 1 : Nat) : Int) := ⟨_, rfl⟩
            rw [← hii] at hiki ⊢
            clear HI HG hii
            cases hx : aheadB s3 q i
            · have hg := HNo.out hx
              rw [hg] at HG3
              simp only [Option.getD_some, Option.isSome_some] at HG3
              unfold newT at HG3
              clear HY HNo hx hg
              go_wp2_with fail
              refine (HG3.out _ HTr.out).mono ?_
              rintro e w7 ⟨rfl, hb7⟩
              have hv7 := HTr.out.below hb7
              have hb7' := hbr.trans (hb7.mono hbr.size)
              clear hb7 hbr HTr
              go_wp2_with fail
              refine (HDr3.out _ hv7).mono ?_
              rintro e w8 ⟨rfl, hv8, ht8⟩
              have hb8 := hb7'.trans (hv7.low ht8)
              clear hv7 hb7' ht8
              go_wp2_with fail
              refine (HG4.out _ hv8).mono ?_
              rintro e w9 ⟨rfl, hb9⟩
              have hb9' := hb8.trans (hb9.mono hb8.size)
              clear hv8 hb8 hb9
              go_wp2
              go_ret
              exact ⟨ret_bool (by simp), hb9'⟩
            · obtain ⟨hg1, hg2⟩ := HY.out hx
              rw [hg2, hg1, ← HV2.out.1] at HG3
              clear HY HNo hx hg1 hg2
              go_wp2_with fail
              refine (HG3.out _ HTr.out).mono ?_
              rintro e w7 ⟨rfl, hb7⟩
              have hv7 := HTr.out.below hb7
              have hb7' := hbr.trans (hb7.mono hbr.size)
              clear hb7 hbr HTr
              go_wp2_with fail
              refine (HDr3.out _ hv7).mono ?_
              rintro e w8 ⟨rfl, hv8, ht8⟩
              have hb8 := hb7'.trans (hv7.low ht8)
              clear hv7 hb7' ht8
              go_wp2_with fail
              refine (HG4.out _ hv8).mono ?_
              rintro e w9 ⟨rfl, hb9⟩
              have hb9' := hb8.trans (hb9.mono hb8.size)
              clear hv8 hb8 hb9
              go_wp2
              go_ret
              exact ⟨ret_bool (by simp), hb9'⟩
      · have hrb : (r1 == 0) = false := by simpa using hr
        clear hv6
        go_wp2
        go_ret
        exact ⟨rfl, hb6⟩
end Go.Proofs.Ytjbmmeneejcpbaa
