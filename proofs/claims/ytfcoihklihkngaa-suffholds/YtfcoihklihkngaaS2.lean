/-
  Whether a text is among some: four functions.
-/
import Derived.Test.YtfcoihklihkngaaS1
namespace Go.Proofs.Ytfcoihklihkngaa
open Go.RowKit Go.Shelf

theorem con_step (l : List S.Tx) (x : S.Tx) (k : Nat) (h : k < l.length) : (l.take (k + 1)).contains x = ((l.take k).contains x || l[k] == x) := by
  rw [List.take_succ_eq_append_getElem h]
  rw [Bool.eq_iff_iff]
  simp only [List.contains_iff_mem, List.mem_append, List.mem_singleton, Bool.or_eq_true, beq_iff_eq]
  exact or_congr Iff.rfl eq_comm
theorem eq_text (x y : ByteArray) : (x.toList == y.toList) = (bl x == bl y) := by
  rw [Lib.toList_data, Lib.toList_data]; rfl

set_option maxRecDepth 20000 in
set_option maxHeartbeats 800000 in
theorem in_any (v : Value) (x : ByteArray) (l : List S.Tx) (B : Nat) (w : World) (hl : Words B w v (l.map ba)) (hn : l.length ≤ 100000000000000) :
    Calls Try.prog 10 #[v, .string x] w fun e w' => e = .returned (.bool (l.contains (bl x))) ∧ w' = w := by
  obtain ⟨a, c, rfl⟩ := hl.slice
  have hcap := hl.len.2
  obtain ⟨n, hnn⟩ : ∃ n, n = l.length := ⟨_, rfl⟩
  rw [← hnn] at hl hcap hn
  have HW : Hid (n = l.length ∧ Words B w (.slice a n c) (l.map ba)) := ⟨hnn, hl⟩
  rw [← hnn]
  clear hnn hl
  obtain ⟨r, hr⟩ : ∃ r, r = l.contains (bl x) := ⟨_, rfl⟩
  rw [← hr]
  have HR : Hid (r = l.contains (bl x)) := hr
  clear hr
  go_enter Try.func10, Try.ntmps10
  go_wp2
  go_loopw [9] (fun vi wr => ∃ k : Nat, k ≤ n ∧ vi = .int .i64 (k : Int) ∧ wr = w ∧ Hid ((l.take k).contains (bl x) = false)) (fun vi _ => n - (intOf vi).toNat)
  case atStart => exact ⟨0, Nat.zero_le _, rfl, rfl, rfl⟩
  case round =>
    obtain ⟨k, hk, rfl, rfl, HT⟩ := hrel
    by_cases hlt : k < n
    · have hil : (k : Int) < (n : Int) := by omega
      have hkl : k < l.length := by rw [← HW.out.1]; exact hlt
      obtain ⟨b, o, rfl, hb, hc⟩ := HW.out.2.pick k (by rw [List.length_map]; exact hkl)
      obtain ⟨y, hy⟩ : ∃ y, y = (l.map ba)[k]'(by rw [List.length_map]; exact hkl) := ⟨_, rfl⟩
      rw [← hy] at hc
      have hyb : bl y = l[k] := by rw [hy, List.getElem_map, bl_ba']
      have HS : Hid ((l.take (k + 1)).contains (bl x) = (bl y == bl x)) := by
        unfold Hid; rw [con_step l _ k hkl, HT.out, Bool.false_or, hyb]
      clear hy
      cases he : (bl y == bl x) with
      | true =>
        have HE : Hid (r = true) := by
          have h1 := HS.out
          rw [he, List.contains_iff_mem] at h1
          unfold Hid
          rw [HR.out, List.contains_iff_mem]
          exact List.mem_of_mem_take h1
        have he2 : (y.toList == x.toList) = true := by rw [eq_text]; first | exact he | (rw [Bool.beq_comm]; exact he)
        clear HS hyb
        go_wp2
        go_ret
        exact ⟨ret_bool HE.out.symm, rfl⟩
      | false =>
        have HN : Hid ((l.take (k + 1)).contains (bl x) = false) := by unfold Hid; rw [HS.out, he]
        have he2 : (y.toList == x.toList) = false := by rw [eq_text]; first | exact he | (rw [Bool.beq_comm]; exact he)
        clear HS hyb
        go_wp2
        go_roundw
        case rel => exact ⟨k + 1, by omega, by go_num, by trivial, HN⟩
        case measure => simp [intOf]; omega
    · have HE : Hid (r = false) := by
        have h1 := HT.out
        rw [List.take_of_length_le (by rw [← HW.out.1]; omega)] at h1
        unfold Hid; rw [HR.out, h1]
      go_wp2
      go_ret
      exact ⟨ret_bool HE.out.symm, rfl⟩

set_option maxRecDepth 20000 in
set_option maxHeartbeats 800000 in
theorem has_any (v : Value) (x : ByteArray) (l : List S.Tx) (B : Nat) (w : World) (hl : Words B w v (l.map ba)) (hn : l.length ≤ 100000000000000) :
    Calls Try.prog 22 #[v, .string x] w fun e w' => e = .returned (.bool (l.contains (bl x))) ∧ w' = w := by
  obtain ⟨a, c, rfl⟩ := hl.slice
  have hcap := hl.len.2
  obtain ⟨n, hnn⟩ : ∃ n, n = l.length := ⟨_, rfl⟩
  rw [← hnn] at hl hcap hn
  have HW : Hid (n = l.length ∧ Words B w (.slice a n c) (l.map ba)) := ⟨hnn, hl⟩
  rw [← hnn]
  clear hnn hl
  obtain ⟨r, hr⟩ : ∃ r, r = l.contains (bl x) := ⟨_, rfl⟩
  rw [← hr]
  have HR : Hid (r = l.contains (bl x)) := hr
  clear hr
  go_enter Try.func22, Try.ntmps22
  go_wp2
  go_loopw [5] (fun vi wr => ∃ k : Nat, k ≤ n ∧ vi = .int .i64 (k : Int) ∧ wr = w ∧ Hid ((l.take k).contains (bl x) = false)) (fun vi _ => n - (intOf vi).toNat)
  case atStart => exact ⟨0, Nat.zero_le _, rfl, rfl, rfl⟩
  case round =>
    obtain ⟨k, hk, rfl, rfl, HT⟩ := hrel
    by_cases hlt : k < n
    · have hil : (k : Int) < (n : Int) := by omega
      have hkl : k < l.length := by rw [← HW.out.1]; exact hlt
      obtain ⟨b, o, rfl, hb, hc⟩ := HW.out.2.pick k (by rw [List.length_map]; exact hkl)
      obtain ⟨y, hy⟩ : ∃ y, y = (l.map ba)[k]'(by rw [List.length_map]; exact hkl) := ⟨_, rfl⟩
      rw [← hy] at hc
      have hyb : bl y = l[k] := by rw [hy, List.getElem_map, bl_ba']
      have HS : Hid ((l.take (k + 1)).contains (bl x) = (bl y == bl x)) := by
        unfold Hid; rw [con_step l _ k hkl, HT.out, Bool.false_or, hyb]
      clear hy
      cases he : (bl y == bl x) with
      | true =>
        have HE : Hid (r = true) := by
          have h1 := HS.out
          rw [he, List.contains_iff_mem] at h1
          unfold Hid
          rw [HR.out, List.contains_iff_mem]
          exact List.mem_of_mem_take h1
        have he2 : (y.toList == x.toList) = true := by rw [eq_text]; first | exact he | (rw [Bool.beq_comm]; exact he)
        clear HS hyb
        go_wp2
        go_ret
        exact ⟨ret_bool HE.out.symm, rfl⟩
      | false =>
        have HN : Hid ((l.take (k + 1)).contains (bl x) = false) := by unfold Hid; rw [HS.out, he]
        have he2 : (y.toList == x.toList) = false := by rw [eq_text]; first | exact he | (rw [Bool.beq_comm]; exact he)
        clear HS hyb
        go_wp2
        go_roundw
        case rel => exact ⟨k + 1, by omega, by go_num, by trivial, HN⟩
        case measure => simp [intOf]; omega
    · have HE : Hid (r = false) := by
        have h1 := HT.out
        rw [List.take_of_length_le (by rw [← HW.out.1]; omega)] at h1
        unfold Hid; rw [HR.out, h1]
      go_wp2
      go_ret
      exact ⟨ret_bool HE.out.symm, rfl⟩

set_option maxRecDepth 20000 in
set_option maxHeartbeats 800000 in
theorem index_any (v : Value) (x : ByteArray) (l : List S.Tx) (B : Nat) (w : World) (hl : Words B w v (l.map ba)) (hn : l.length ≤ 100000000000000) :
    Calls Try.prog 24 #[v, .string x] w fun e w' => ∃ i : Int, e = .returned (.int .i64 i) ∧ (l.contains (bl x) = decide (0 ≤ i)) ∧ w' = w := by
  obtain ⟨a, c, rfl⟩ := hl.slice
  have hcap := hl.len.2
  obtain ⟨n, hnn⟩ : ∃ n, n = l.length := ⟨_, rfl⟩
  rw [← hnn] at hl hcap hn
  have HW : Hid (n = l.length ∧ Words B w (.slice a n c) (l.map ba)) := ⟨hnn, hl⟩
  rw [← hnn]
  clear hnn hl
  obtain ⟨r, hr⟩ : ∃ r, r = l.contains (bl x) := ⟨_, rfl⟩
  rw [← hr]
  have HR : Hid (r = l.contains (bl x)) := hr
  clear hr
  go_enter Try.func24, Try.ntmps24
  go_wp2
  go_loopw [8] (fun vi wr => ∃ k : Nat, k ≤ n ∧ vi = .int .i64 (k : Int) ∧ wr = w ∧ Hid ((l.take k).contains (bl x) = false)) (fun vi _ => n - (intOf vi).toNat)
  case atStart => exact ⟨0, Nat.zero_le _, rfl, rfl, rfl⟩
  case round =>
    obtain ⟨k, hk, rfl, rfl, HT⟩ := hrel
    by_cases hlt : k < n
    · have hil : (k : Int) < (n : Int) := by omega
      have hkl : k < l.length := by rw [← HW.out.1]; exact hlt
      obtain ⟨b, o, rfl, hb, hc⟩ := HW.out.2.pick k (by rw [List.length_map]; exact hkl)
      obtain ⟨y, hy⟩ : ∃ y, y = (l.map ba)[k]'(by rw [List.length_map]; exact hkl) := ⟨_, rfl⟩
      rw [← hy] at hc
      have hyb : bl y = l[k] := by rw [hy, List.getElem_map, bl_ba']
      have HS : Hid ((l.take (k + 1)).contains (bl x) = (bl y == bl x)) := by
        unfold Hid; rw [con_step l _ k hkl, HT.out, Bool.false_or, hyb]
      clear hy
      cases he : (bl y == bl x) with
      | true =>
        have HE : Hid (r = true) := by
          have h1 := HS.out
          rw [he, List.contains_iff_mem] at h1
          unfold Hid
          rw [HR.out, List.contains_iff_mem]
          exact List.mem_of_mem_take h1
        have he2 : (x.toList == y.toList) = true := by rw [eq_text]; first | exact he | (rw [Bool.beq_comm]; exact he)
        clear HS hyb
        go_wp2
        go_ret
        exact ⟨(k : Int), rfl, by rw [HE.out]; simp, rfl⟩
      | false =>
        have HN : Hid ((l.take (k + 1)).contains (bl x) = false) := by unfold Hid; rw [HS.out, he]
        have he2 : (x.toList == y.toList) = false := by rw [eq_text]; first | exact he | (rw [Bool.beq_comm]; exact he)
        clear HS hyb
        go_wp2
        go_roundw
        case rel => exact ⟨k + 1, by omega, by go_num, by trivial, HN⟩
        case measure => simp [intOf]; omega
    · have HE : Hid (r = false) := by
        have h1 := HT.out
        rw [List.take_of_length_le (by rw [← HW.out.1]; omega)] at h1
        unfold Hid; rw [HR.out, h1]
      go_wp2
      go_ret
      exact ⟨-1, rfl, by rw [HE.out]; rfl, rfl⟩

set_option maxRecDepth 20000 in
set_option maxHeartbeats 800000 in
theorem contains_any (v : Value) (x : ByteArray) (l : List S.Tx) (B : Nat) (w : World) (hl : Words B w v (l.map ba)) (hn : l.length ≤ 100000000000000) :
    Calls Try.prog 18 #[v, .string x] w fun e w' => e = .returned (.bool (l.contains (bl x))) ∧ w' = w := by
  have HI : Hid (Calls Try.prog 24 #[v, .string x] w fun e w' => ∃ i : Int, e = .returned (.int .i64 i) ∧ (l.contains (bl x) = decide (0 ≤ i)) ∧ w' = w) := index_any v x l B w hl hn
  obtain ⟨a, c, rfl⟩ := hl.slice
  obtain ⟨r, hr⟩ : ∃ r, r = l.contains (bl x) := ⟨_, rfl⟩
  rw [← hr] at HI ⊢
  clear hr hl
  go_enter Try.func18, Try.ntmps18
  go_wp2_with fail
  refine HI.out.mono ?_
  rintro e w' ⟨i, rfl, HE, rfl⟩
  have HE : Hid (r = decide (0 ≤ i)) := HE
  go_wp2
  go_ret
  exact ⟨ret_bool HE.out.symm, rfl⟩
end Go.Proofs.Ytfcoihklihkngaa
