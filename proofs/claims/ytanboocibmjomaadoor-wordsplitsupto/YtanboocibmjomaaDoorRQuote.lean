/-
  What the document's Quote answers.
-/
import Derived.Test.YtanboocibmjomaaDoorRMean
namespace Go.Proofs.YtanboocibmjomaaDoor
open Go.RowKit Go.Shelf

def escAt (s : ByteArray) (k : Nat) : List UInt8 := ((bl s).take k).flatMap K.esc
theorem escAt_succ (s : ByteArray) (k : Nat) (h : k < s.size) : escAt s (k + 1) = escAt s k ++ K.esc s[k] := by
  unfold escAt; rw [take_snoc s k h, List.flatMap_append]; simp
theorem escAt_len (s : ByteArray) (k : Nat) : (escAt s k).length ≤ 4 * s.size := by
  have := K.esc_length ((bl s).take k)
  unfold escAt; rw [List.length_take, bl_length] at this; omega
def allAt (s : ByteArray) (k : Nat) : Bool := decide (0 < s.size) && ((bl s).take k).all K.plainC
theorem allAt_succ (s : ByteArray) (k : Nat) (h : k < s.size) : allAt s (k + 1) = (allAt s k && K.plainC s[k]) := by
  unfold allAt; rw [take_snoc s k h, List.all_append]; simp [Bool.and_assoc]
theorem allAt_end (s : ByteArray) : (allAt s s.size = true → K.quote (bl s) = bl s) ∧ (allAt s s.size = false → K.quote (bl s) = [39] ++ (bl s).flatMap K.esc ++ [39]) := by
  have hne : bl s ≠ [] ↔ 0 < s.size := by rw [← bl_length, List.length_pos_iff]
  unfold allAt K.quote
  rw [take_all]
  constructor
  · intro h
    simp only [Bool.and_eq_true, decide_eq_true_eq] at h
    rw [if_pos ⟨hne.2 h.1, h.2⟩]
  · intro h
    rw [if_neg]
    rintro ⟨h1, h2⟩
    rw [h2, Bool.and_true, decide_eq_false_iff_not] at h
    exact h (hne.1 h1)

set_option maxRecDepth 20000 in
set_option maxHeartbeats 2000000 in
theorem rquote_any (s : ByteArray) (w : World) (hs : s.size ≤ 2000000) :
    Calls Tryd.prog 16 #[.string s] w fun e w' => e = .returned (.string (ba (K.quote (bl s)))) ∧ Below w.heap.size w w' := by
  obtain ⟨i0, hi, hz0, hz1, hz2⟩ := info_parts info5
  have HBr : Hid (∀ (c : UInt8) W, Calls Tryd.prog 33 #[.int .u8 c.toNat] W fun e w' => e = .returned (.bool (K.plainC c)) ∧ W = w') := fun c W => bare_any c W
  obtain ⟨z, hz⟩ : ∃ z, z = ba (K.quote (bl s)) := ⟨_, rfl⟩
  rw [← hz]
  have HZ : Hid (z = ba (K.quote (bl s))) := hz
  clear hz
  have h00 : decide ((0 : Int) < (s.size : Int)) = allAt s 0 := by unfold allAt; simp
  have H00 : Hid (decide ((0 : Int) < (s.size : Int)) = allAt s 0) := h00
  clear h00
  go_enter Tryd.func16, Tryd.ntmps16
  go_wp2
  go_loopw [3, 4, 5] (fun va v vi wr => ∃ k : Nat, k ≤ s.size ∧ vi = .int .i64 k ∧ va = .bool (allAt s k) ∧ wr.ownsRow w.heap.size 5 1 v (escAt s k).length (Lib.byteCells (escAt s k)) ∧ Below w.heap.size w wr)
    (fun _ _ vi _ => s.size - (intOf vi).toNat)
  case atStart =>
    refine ⟨0, Nat.zero_le _, rfl, ?_, World.ownsRow_nil _ _ _ _, Below.refl _ _⟩
    rw [← H00.out]; simp
  case round =>
    obtain ⟨k, hk, rfl, rfl, hown, hb⟩ := hrel
    have hbs := hb.size
    have hel := escAt_len s k
    by_cases hlt : k < s.size
    · have hil : (k : Int) < (s.size : Int) := by omega
      have HE1 := escAt_succ s k hlt
      have HA1 : Hid (allAt s (k + 1) = (allAt s k && K.plainC s[k])) := allAt_succ s k hlt
      have HB1 := HBr.out s[k]
      obtain ⟨x, hx⟩ : ∃ x, x = escAt s k := ⟨_, rfl⟩
      rw [← hx] at HE1 hown hel
      clear hx
      obtain ⟨m, hll⟩ : ∃ m, x.length = m := ⟨_, rfl⟩
      rw [hll] at hown hel
      obtain ⟨A, hA⟩ : ∃ A, A = allAt s k := ⟨_, rfl⟩
      obtain ⟨p, hp⟩ : ∃ p, p = K.plainC s[k] := ⟨_, rfl⟩
      rw [← hA, ← hp] at HA1
      rw [← hA]
      rw [← hp] at HB1
      have HB2 : Hid (∀ W, Calls Tryd.prog 33 #[.int .u8 s[k].toNat] W fun e w' => e = .returned (.bool p) ∧ W = w') := HB1
      clear hA hp HB1
      by_cases hc : s[k].toNat = 39
      · have he : K.esc s[k] = [39, 92, 39, 39] := by unfold K.esc; rw [if_pos ((u8_eq_iff _ 39).2 hc)]
        rw [he] at HE1
        have HQ : Hid (escAt s (k + 1) = x ++ [39, 92, 39, 39]) := HE1
        clear he HE1
        cases A with
        | true =>
          have g1 : ((s[k].toNat : Int) == 39) = true := by simp; omega
          clear hc
          go_wp2_with (first | (at_builtin; refine wpList_append_own _ rfl _ _ 52 rfl w.heap.size 5 i0 (.int .u8 0) 1 1 Tryd.underlying52 hi hz0 hz1 hz2 rfl (by decide) _ _ _ rfl (hown.alloc _) ⟨wr.heap.size, 0, none⟩ 4 4 [.int .u8 39, .int .u8 92, .int .u8 39, .int .u8 39] rfl rfl (by intro j u hj; match j, hj with | 0, hj => simp at hj; subst hj; simp [Addr.add] | 1, hj => simp at hj; subst hj; simp [Addr.add] | 2, hj => simp at hj; subst hj; simp [Addr.add] | 3, hj => simp at hj; subst hj; simp [Addr.add]) (by intro u hu; simp only [List.mem_cons, List.not_mem_nil, or_false] at hu; rcases hu with rfl | rfl | rfl | rfl <;> rfl) (by unfold maxLen; omega) (by omega) (by simp; omega) ?_; intro v' w2 hown' hgrow _; have HG1 : Hid (Below w.heap.size w w2) := (hb.alloc hbs _).grown hgrow (by simp; omega) (fun k hk => (hown.lt k hk).1); have HG2 : Hid (w2.ownsRow w.heap.size 5 1 v' (escAt s (k + 1)).length (Lib.byteCells (escAt s (k + 1)))) := (by unfold Hid; rw [HQ.out]; simpa [Lib.byteCells, hll] using hown'); clear hown' hgrow hown hb) | (go_at_call 33; refine (HB2.out _).mono ?_; rintro e w' ⟨rfl, rfl⟩))
          go_roundw
          case rel => exact ⟨k + 1, by omega, by go_num, by rw [HA1.out]; simp, by assumption, by assumption⟩
          case measure => simp [intOf]; omega
        | false =>
          have g1 : ((s[k].toNat : Int) == 39) = true := by simp; omega
          clear hc
          go_wp2_with (at_builtin; refine wpList_append_own _ rfl _ _ 52 rfl w.heap.size 5 i0 (.int .u8 0) 1 1 Tryd.underlying52 hi hz0 hz1 hz2 rfl (by decide) _ _ _ rfl (hown.alloc _) ⟨wr.heap.size, 0, none⟩ 4 4 [.int .u8 39, .int .u8 92, .int .u8 39, .int .u8 39] rfl rfl (by intro j u hj; match j, hj with | 0, hj => simp at hj; subst hj; simp [Addr.add] | 1, hj => simp at hj; subst hj; simp [Addr.add] | 2, hj => simp at hj; subst hj; simp [Addr.add] | 3, hj => simp at hj; subst hj; simp [Addr.add]) (by intro u hu; simp only [List.mem_cons, List.not_mem_nil, or_false] at hu; rcases hu with rfl | rfl | rfl | rfl <;> rfl) (by unfold maxLen; omega) (by omega) (by simp; omega) ?_; intro v' w2 hown' hgrow _; have HG1 : Hid (Below w.heap.size w w2) := (hb.alloc hbs _).grown hgrow (by simp; omega) (fun k hk => (hown.lt k hk).1); have HG2 : Hid (w2.ownsRow w.heap.size 5 1 v' (escAt s (k + 1)).length (Lib.byteCells (escAt s (k + 1)))) := (by unfold Hid; rw [HQ.out]; simpa [Lib.byteCells, hll] using hown'); clear hown' hgrow hown hb)
          go_roundw
          case rel => exact ⟨k + 1, by omega, by go_num, by rw [HA1.out]; simp, by assumption, by assumption⟩
          case measure => simp [intOf]; omega
      · have he : K.esc s[k] = [s[k]] := by unfold K.esc; rw [if_neg (fun e => hc ((u8_eq_iff _ 39).1 e))]
        rw [he] at HE1
        have HQ : Hid (escAt s (k + 1) = x ++ [s[k]]) := HE1
        clear he HE1
        cases A with
        | true =>
          have g1 : ((s[k].toNat : Int) == 39) = false := by simp; omega
          clear hc
          go_wp2_with (first | (at_builtin; refine wpList_append_own _ rfl _ _ 52 rfl w.heap.size 5 i0 (.int .u8 0) 1 1 Tryd.underlying52 hi hz0 hz1 hz2 rfl (by decide) _ _ _ rfl (hown.alloc _) ⟨wr.heap.size, 0, none⟩ 1 1 [.int .u8 s[k].toNat] rfl rfl (by intro j u hj; match j, hj with | 0, hj => simp at hj; subst hj; simp [Addr.add]) (by intro u hu; simp at hu; subst hu; rfl) (by unfold maxLen; omega) (by omega) (by simp; omega) ?_; intro v' w2 hown' hgrow _; have HG1 : Hid (Below w.heap.size w w2) := (hb.alloc hbs _).grown hgrow (by simp; omega) (fun k hk => (hown.lt k hk).1); have HG2 : Hid (w2.ownsRow w.heap.size 5 1 v' (escAt s (k + 1)).length (Lib.byteCells (escAt s (k + 1)))) := (by unfold Hid; rw [HQ.out]; simpa [Lib.byteCells, hll] using hown'); clear hown' hgrow hown hb) | (go_at_call 33; refine (HB2.out _).mono ?_; rintro e w' ⟨rfl, rfl⟩))
          go_roundw
          case rel => exact ⟨k + 1, by omega, by go_num, by rw [HA1.out]; simp, by assumption, by assumption⟩
          case measure => simp [intOf]; omega
        | false =>
          have g1 : ((s[k].toNat : Int) == 39) = false := by simp; omega
          clear hc
          go_wp2_with (at_builtin; refine wpList_append_own _ rfl _ _ 52 rfl w.heap.size 5 i0 (.int .u8 0) 1 1 Tryd.underlying52 hi hz0 hz1 hz2 rfl (by decide) _ _ _ rfl (hown.alloc _) ⟨wr.heap.size, 0, none⟩ 1 1 [.int .u8 s[k].toNat] rfl rfl (by intro j u hj; match j, hj with | 0, hj => simp at hj; subst hj; simp [Addr.add]) (by intro u hu; simp at hu; subst hu; rfl) (by unfold maxLen; omega) (by omega) (by simp; omega) ?_; intro v' w2 hown' hgrow _; have HG1 : Hid (Below w.heap.size w w2) := (hb.alloc hbs _).grown hgrow (by simp; omega) (fun k hk => (hown.lt k hk).1); have HG2 : Hid (w2.ownsRow w.heap.size 5 1 v' (escAt s (k + 1)).length (Lib.byteCells (escAt s (k + 1)))) := (by unfold Hid; rw [HQ.out]; simpa [Lib.byteCells, hll] using hown'); clear hown' hgrow hown hb)
          go_roundw
          case rel => exact ⟨k + 1, by omega, by go_num, by rw [HA1.out]; simp, by assumption, by assumption⟩
          case measure => simp [intOf]; omega
    · obtain rfl : k = s.size := by omega
      have e2 : escAt s s.size = (bl s).flatMap K.esc := by unfold escAt; rw [take_all]
      rw [e2] at hown hel
      have hAe := allAt_end s
      cases hA : allAt s s.size with
      | true =>
        have HE : Hid (s = z) := by rw [HZ.out, hAe.1 hA, ba_bl]; rfl
        clear hown e2 hel hAe hA
        go_wp2
        go_ret
        exact ⟨ret_str HE.out, hb⟩
      | false =>
        obtain ⟨y, hy⟩ : ∃ y, y = ba ((bl s).flatMap K.esc) := ⟨_, rfl⟩
        have hcv : (convert 52 9 u4).run Tryd.prog wr = .ok (.string y) wr := by rw [hy]; exact run_conv hown
        obtain ⟨q1, ea, eb⟩ := quote_adds y z (by rw [hy, ba_size]; omega) (by
          rw [HZ.out, hy, hAe.2 hA]
          apply bl_inj
          rw [bl_app, bl_app, bl_ba, bl_ba, bl_one])
        obtain ⟨a, cap, hv⟩ := bytes_slice hown
        subst hv
        obtain ⟨m, hm⟩ : ∃ m, m = ((bl s).flatMap K.esc).length := ⟨_, rfl⟩
        rw [← hm] at hcv ⊢
        clear hown e2 hel hAe hA hy hm
        go_wp2
        go_ret
        exact ⟨rfl, hb⟩
end Go.Proofs.YtanboocibmjomaaDoor
