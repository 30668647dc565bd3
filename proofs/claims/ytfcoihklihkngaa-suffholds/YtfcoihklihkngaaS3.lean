/-
  Two ways compared; whether a way is among some: three functions; whether a way's two are unlike suffixes.
-/
import Derived.Test.YtfcoihklihkngaaS2
import Derived.ChangeKeysEq
namespace Go.Proofs.Ytfcoihklihkngaa
open Go.RowKit Go.Shelf

theorem below_drew {A : Nat} {w w' : World} (h : Below A w w') : Below A w w'.drew := ⟨h.os, h.tape, h.output, h.size, h.block⟩
theorem cells9 : Try.prog.cellsOf 9 = 1 := by kernel_rfl
theorem infoT9 : (Try.prog.info? 9).map (fun i => (i.zero, i.size, i.bytes)) = some (some (.string ⟨#[]⟩), 1, 16) := by kernel_rfl
set_option maxRecDepth 20000 in
theorem eqW (a b c d : ByteArray) (w : World) : Sem.run Try.prog (binOp .eql 48 (.agg #[.string a, .string b]) (.agg #[.string c, .string d])) w = .ok (.bool (a.toList == c.toList && b.toList == d.toList)) w := by
  obtain ⟨i0, hi, _⟩ := info_of infoT9
  rw [run_eql_struct, run_equalIn_array w 9999 (e := 9) (n := 2) _ _ Try.underlying48 hi, cells9]
  have p1 : ∀ (x y : ByteArray) (w : World), (part 9 #[.string x, .string y] (0 * 1)).run Try.prog w = .ok (.string x) w := fun x y w => by kernel_rfl
  have p3 : ∀ (x y : ByteArray) (w : World), (part 9 #[.string x, .string y] (1 * 1)).run Try.prog w = .ok (.string y) w := fun x y w => by kernel_rfl
  have q1 := run_equalIn_string (P := Try.prog) w 9998 9 a c Try.underlying9
  have q3 := run_equalIn_string (P := Try.prog) w 9998 9 b d Try.underlying9
  generalize (a.toList == c.toList) = u at q1 ⊢
  generalize (b.toList == d.toList) = v at q3 ⊢
  rw [show List.range 2 = [0, 1] from rfl]
  simp only [Op.eqItems, Sem.run_bind, Sem.run_ite, p1, p3, Result.andThen_ok, q1, q3]
  cases u <;> cases v <;> simp
def wv (x : S.Way) : Value := .agg #[.string (ba x.1), .string (ba x.2)]
theorem eqWv (x y : S.Way) (w : World) : Sem.run Try.prog (binOp .eql 48 (.agg #[.string (ba x.1), .string (ba x.2)]) (.agg #[.string (ba y.1), .string (ba y.2)])) w = .ok (.bool (x == y)) w := by
  rw [eqW, eq_text, eq_text, bl_ba', bl_ba', bl_ba', bl_ba']
  rfl
theorem conW_step (l : List S.Way) (x : S.Way) (k : Nat) (h : k < l.length) : (l.take (k + 1)).contains x = ((l.take k).contains x || l[k] == x) := by
  rw [List.take_succ_eq_append_getElem h]
  rw [Bool.eq_iff_iff]
  simp only [List.contains_iff_mem, List.mem_append, List.mem_singleton, Bool.or_eq_true, beq_iff_eq]
  exact or_congr Iff.rfl eq_comm

set_option maxRecDepth 20000 in
set_option maxHeartbeats 800000 in
theorem way_any (v : Value) (x : S.Way) (l : List S.Way) (B : Nat) (w : World) (hl : Wy B w v l) (hB : B ≤ w.heap.size) (hn : l.length ≤ 100000000000000) :
    Calls Try.prog 23 #[v, .agg #[.string (ba x.1), .string (ba x.2)]] w fun e w' => e = .returned (.bool (l.contains x)) ∧ Below w.heap.size w w' := by
  obtain ⟨a, c, rfl⟩ := hl.slice
  have hcap := hl.len.2
  obtain ⟨n, hnn⟩ : ∃ n, n = l.length := ⟨_, rfl⟩
  rw [← hnn] at hl hcap hn
  have HW : Hid (n = l.length ∧ Wy B w (.slice a n c) l ∧ B ≤ w.heap.size) := ⟨hnn, hl, hB⟩
  rw [← hnn]
  clear hnn hl hB
  obtain ⟨r, hr⟩ : ∃ r, r = l.contains x := ⟨_, rfl⟩
  rw [← hr]
  have HR : Hid (r = l.contains x) := hr
  clear hr
  obtain ⟨u1, hu1⟩ : ∃ u, u = ba x.1 := ⟨_, rfl⟩
  obtain ⟨u2, hu2⟩ : ∃ u, u = ba x.2 := ⟨_, rfl⟩
  rw [← hu1, ← hu2]
  have HU : Hid (u1 = ba x.1 ∧ u2 = ba x.2) := ⟨hu1, hu2⟩
  clear hu1 hu2
  have HB0 : Hid (Below w.heap.size w (w.alloc (.cells #[.string u1, .string u2] 48)) ∧ (w.alloc (.cells #[.string u1, .string u2] 48)).heap[w.heap.size]? = some (.cells #[.string u1, .string u2] 48 (0, 0))) := ⟨below_alloc1 _ _, alloc_b rfl⟩
  go_enter Try.func23, Try.ntmps23
  go_wp2
  go_loopw [5] (fun vi wr => ∃ k : Nat, k ≤ n ∧ vi = .int .i64 (k : Int) ∧ Hid (Below w.heap.size w wr ∧ wr.heap[w.heap.size]? = some (.cells #[.string u1, .string u2] 48 (0, 0))) ∧ Hid ((l.take k).contains x = false)) (fun vi _ => n - (intOf vi).toNat)
  case atStart => exact ⟨0, Nat.zero_le _, rfl, HB0.out, rfl⟩
  case round =>
    obtain ⟨k, hk, rfl, HX, HT⟩ := hrel
    by_cases hlt : k < n
    · have hil : (k : Int) < (n : Int) := by omega
      have hkl : k < l.length := by rw [← HW.out.1]; exact hlt
      obtain ⟨b, o, rfl, hb, hc0, hc1⟩ := HW.out.2.1.pick (List.getElem?_eq_getElem hkl)
      have hbw : b < w.heap.size := Nat.lt_of_lt_of_le hb HW.out.2.2
      have d0 := (HX.out.1.cell (p := ⟨b, o + k * 2, none⟩) hbw).trans hc0
      have d1 := (HX.out.1.cell (p := ⟨b, o + k * 2 + 1, none⟩) hbw).trans hc1
      have z0 := cell_in HX.out.2 0 rfl
      have z1 := cell_in HX.out.2 1 rfl
      have HS : Hid ((l.take (k + 1)).contains x = (l[k] == x)) := by
        unfold Hid; rw [conW_step l _ k hkl, HT.out, Bool.false_or]
      have hcmp : ∀ W, Sem.run Try.prog (binOp .eql 48 (.agg #[.string (ba l[k].1), .string (ba l[k].2)]) (.agg #[.string u1, .string u2])) W = .ok (.bool (l[k] == x)) W := fun W => by
        rw [HU.out.1, HU.out.2, eqWv]; try rw [Bool.beq_comm]
      obtain ⟨y1, hy1⟩ : ∃ y, y = ba l[k].1 := ⟨_, rfl⟩
      obtain ⟨y2, hy2⟩ : ∃ y, y = ba l[k].2 := ⟨_, rfl⟩
      rw [← hy1] at d0 hcmp
      rw [← hy2] at d1 hcmp
      clear hc0 hc1 hy1 hy2
      cases he : (l[k] == x) with
      | true =>
        have HE : Hid (r = true) := by
          have h1 := HS.out
          rw [he, List.contains_iff_mem] at h1
          unfold Hid
          rw [HR.out, List.contains_iff_mem]
          exact List.mem_of_mem_take h1
        rw [he] at hcmp
        clear HS he
        go_wp2
        go_region
        all_goals
          go_wp2
          go_ret
          exact ⟨ret_bool HE.out.symm, below_drew HX.out.1⟩
      | false =>
        have HN : Hid ((l.take (k + 1)).contains x = false) := by unfold Hid; rw [HS.out, he]
        rw [he] at hcmp
        clear HS he
        go_wp2
        go_region
        all_goals
          go_wp2
          go_roundw
          case rel => exact ⟨k + 1, by omega, by go_num, ⟨below_drew HX.out.1, HX.out.2⟩, HN⟩
          case measure => simp [intOf]; omega
    · have HE : Hid (r = false) := by
        have h1 := HT.out
        rw [List.take_of_length_le (by rw [← HW.out.1]; omega)] at h1
        unfold Hid; rw [HR.out, h1]
      go_wp2
      go_ret
      exact ⟨ret_bool HE.out.symm, HX.out.1⟩

set_option maxRecDepth 20000 in
set_option maxHeartbeats 800000 in
theorem indexW_any (v : Value) (x : S.Way) (l : List S.Way) (B : Nat) (w : World) (hl : Wy B w v l) (hB : B ≤ w.heap.size) (hn : l.length ≤ 100000000000000) :
    Calls Try.prog 25 #[v, .agg #[.string (ba x.1), .string (ba x.2)]] w fun e w' => ∃ i : Int, e = .returned (.int .i64 i) ∧ (l.contains x = decide (0 ≤ i)) ∧ Below w.heap.size w w' := by
  obtain ⟨a, c, rfl⟩ := hl.slice
  have hcap := hl.len.2
  obtain ⟨n, hnn⟩ : ∃ n, n = l.length := ⟨_, rfl⟩
  rw [← hnn] at hl hcap hn
  have HW : Hid (n = l.length ∧ Wy B w (.slice a n c) l ∧ B ≤ w.heap.size) := ⟨hnn, hl, hB⟩
  rw [← hnn]
  clear hnn hl hB
  obtain ⟨r, hr⟩ : ∃ r, r = l.contains x := ⟨_, rfl⟩
  rw [← hr]
  have HR : Hid (r = l.contains x) := hr
  clear hr
  obtain ⟨u1, hu1⟩ : ∃ u, u = ba x.1 := ⟨_, rfl⟩
  obtain ⟨u2, hu2⟩ : ∃ u, u = ba x.2 := ⟨_, rfl⟩
  rw [← hu1, ← hu2]
  have HU : Hid (u1 = ba x.1 ∧ u2 = ba x.2) := ⟨hu1, hu2⟩
  clear hu1 hu2
  have HB0 : Hid (Below w.heap.size w (w.alloc (.cells #[.string u1, .string u2] 48)) ∧ (w.alloc (.cells #[.string u1, .string u2] 48)).heap[w.heap.size]? = some (.cells #[.string u1, .string u2] 48 (0, 0))) := ⟨below_alloc1 _ _, alloc_b rfl⟩
  go_enter Try.func25, Try.ntmps25
  go_wp2
  go_loopw [8] (fun vi wr => ∃ k : Nat, k ≤ n ∧ vi = .int .i64 (k : Int) ∧ Hid (Below w.heap.size w wr ∧ wr.heap[w.heap.size]? = some (.cells #[.string u1, .string u2] 48 (0, 0))) ∧ Hid ((l.take k).contains x = false)) (fun vi _ => n - (intOf vi).toNat)
  case atStart => exact ⟨0, Nat.zero_le _, rfl, HB0.out, rfl⟩
  case round =>
    obtain ⟨k, hk, rfl, HX, HT⟩ := hrel
    by_cases hlt : k < n
    · have hil : (k : Int) < (n : Int) := by omega
      have hkl : k < l.length := by rw [← HW.out.1]; exact hlt
      obtain ⟨b, o, rfl, hb, hc0, hc1⟩ := HW.out.2.1.pick (List.getElem?_eq_getElem hkl)
      have hbw : b < w.heap.size := Nat.lt_of_lt_of_le hb HW.out.2.2
      have d0 := (HX.out.1.cell (p := ⟨b, o + k * 2, none⟩) hbw).trans hc0
      have d1 := (HX.out.1.cell (p := ⟨b, o + k * 2 + 1, none⟩) hbw).trans hc1
      have z0 := cell_in HX.out.2 0 rfl
      have z1 := cell_in HX.out.2 1 rfl
      have HS : Hid ((l.take (k + 1)).contains x = (l[k] == x)) := by
        unfold Hid; rw [conW_step l _ k hkl, HT.out, Bool.false_or]
      have hcmp : ∀ W, Sem.run Try.prog (binOp .eql 48 (.agg #[.string u1, .string u2]) (.agg #[.string (ba l[k].1), .string (ba l[k].2)])) W = .ok (.bool (l[k] == x)) W := fun W => by
        rw [HU.out.1, HU.out.2, eqWv]; try rw [Bool.beq_comm]
      obtain ⟨y1, hy1⟩ : ∃ y, y = ba l[k].1 := ⟨_, rfl⟩
      obtain ⟨y2, hy2⟩ : ∃ y, y = ba l[k].2 := ⟨_, rfl⟩
      rw [← hy1] at d0 hcmp
      rw [← hy2] at d1 hcmp
      clear hc0 hc1 hy1 hy2
      cases he : (l[k] == x) with
      | true =>
        have HE : Hid (r = true) := by
          have h1 := HS.out
          rw [he, List.contains_iff_mem] at h1
          unfold Hid
          rw [HR.out, List.contains_iff_mem]
          exact List.mem_of_mem_take h1
        rw [he] at hcmp
        clear HS he
        go_wp2
        go_region
        all_goals
          go_wp2
          go_ret
          exact ⟨(k : Int), rfl, by rw [HE.out]; simp, below_drew HX.out.1⟩
      | false =>
        have HN : Hid ((l.take (k + 1)).contains x = false) := by unfold Hid; rw [HS.out, he]
        rw [he] at hcmp
        clear HS he
        go_wp2
        go_region
        all_goals
          go_wp2
          go_roundw
          case rel => exact ⟨k + 1, by omega, by go_num, ⟨below_drew HX.out.1, HX.out.2⟩, HN⟩
          case measure => simp [intOf]; omega
    · have HE : Hid (r = false) := by
        have h1 := HT.out
        rw [List.take_of_length_le (by rw [← HW.out.1]; omega)] at h1
        unfold Hid; rw [HR.out, h1]
      go_wp2
      go_ret
      exact ⟨-1, rfl, by rw [HE.out]; rfl, HX.out.1⟩

set_option maxRecDepth 20000 in
set_option maxHeartbeats 800000 in
theorem containsW_any (v : Value) (x : S.Way) (l : List S.Way) (B : Nat) (w : World) (hl : Wy B w v l) (hB : B ≤ w.heap.size) (hn : l.length ≤ 100000000000000) :
    Calls Try.prog 20 #[v, .agg #[.string (ba x.1), .string (ba x.2)]] w fun e w' => e = .returned (.bool (l.contains x)) ∧ Below w.heap.size w w' := by
  have HI : Hid (∀ W, Below w.heap.size w W → Calls Try.prog 25 #[v, .agg #[.string (ba x.1), .string (ba x.2)]] W fun e w' => ∃ i : Int, e = .returned (.int .i64 i) ∧ (l.contains x = decide (0 ≤ i)) ∧ Below W.heap.size W w') := fun W hW => indexW_any v x l B W (hl.below (hW.mono hB)) (Nat.le_trans hB hW.size) hn
  obtain ⟨a, c, rfl⟩ := hl.slice
  obtain ⟨r, hr⟩ : ∃ r, r = l.contains x := ⟨_, rfl⟩
  rw [← hr] at HI ⊢
  clear hr hl
  have HB0 : Hid (Below w.heap.size w (w.alloc (.cells #[.string (ba x.1), .string (ba x.2)] 48))) := below_alloc1 _ _
  go_enter Try.func20, Try.ntmps20
  go_wp2_with fail
  refine (HI.out _ HB0.out).mono ?_
  rintro e w' ⟨i, rfl, HE, hb⟩
  have HE : Hid (r = decide (0 ≤ i)) := HE
  have H1 : Hid (Below w.heap.size w w') := below_trans HB0.out hb HB0.out.size
  clear hb
  go_wp2
  go_ret
  exact ⟨ret_bool HE.out.symm, H1.out⟩
end Go.Proofs.Ytfcoihklihkngaa
