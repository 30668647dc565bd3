/-
  What together and rawLines answer.
-/
import Derived.Test.YtefhpoklehmlhaaDoorL1
namespace Go.Proofs.YtefhpoklehmlhaaDoor
open Go.RowKit Go.Shelf

theorem tog_last (R : List (List UInt8)) (k : Nat) (h : k + 1 = R.length) : Ln.tog (R.drop k) = 1 := by
  rw [List.drop_eq_getElem_cons (by omega), List.drop_of_length_le (by omega)]; rfl
theorem tog_more (R : List (List UInt8)) (k : Nat) (h : k + 1 < R.length) : Ln.tog (R.drop k) = if Ln.takes R[k] then 1 + Ln.tog (R.drop (k + 1)) else 1 := by
  have e1 := List.drop_eq_getElem_cons (l := R) (i := k) (by omega)
  have e2 := List.drop_eq_getElem_cons (l := R) (i := k + 1) h
  rw [e1, e2, Ln.tog]

set_option maxRecDepth 20000 in
set_option maxHeartbeats 400000 in
theorem together_any (R : List (List UInt8)) (v : Value) (w : World) (hne : R ≠ []) (hl : R.length ≤ 1000000) (hz : ∀ r ∈ R, r.length ≤ 1000000) (hW : Words w.heap.size w v (R.map ba)) :
    Calls Tryd.prog 23 #[v] w fun e w' => e = .returned (.int .i64 (Ln.tog R : Nat)) ∧ w = w' := by
  obtain ⟨b, o, c, rfl, hb, hc, hcell⟩ := hW.at (by simpa using hne)
  have hcell2 : ∀ i (h : i < R.length), w.cell? ⟨b, o + i, none⟩ = some (.string (ba R[i])) := fun i h => by have := hcell i (by simpa using h); rwa [List.getElem_map] at this
  rw [List.length_map] at hc ⊢
  obtain ⟨n, hn⟩ : ∃ n, n = R.length := ⟨_, rfl⟩
  have hn1 : 1 ≤ n := by rw [hn]; exact List.length_pos_iff.2 hne
  have HC : Hid (n = R.length ∧ (∀ i (h : i < R.length), w.cell? ⟨b, o + i, none⟩ = some (.string (ba R[i]))) ∧ ∀ r ∈ R, r.length ≤ 1000000) := ⟨hn, hcell2, hz⟩
  rw [← hn] at hc hl ⊢
  clear hn hcell hcell2 hz hW hne
  go_enter Tryd.func23, Tryd.ntmps23
  go_wp2
  go_loopw [3] (fun vi wr => ∃ k : Nat, k + 1 ≤ n ∧ vi = .int .i64 ((k : Int) + 1) ∧ w = wr ∧ Hid (Ln.tog R = k + Ln.tog (R.drop k))) (fun vi _ => n - (intOf vi).toNat)
  case atStart => exact ⟨0, by omega, rfl, rfl, by simp [Hid]⟩
  case round =>
    obtain ⟨k, hk, rfl, rfl, HA⟩ := hrel
    by_cases hlt : k + 1 < n
    · have hil : (k : Int) + 1 < (n : Int) := by omega
      have hkl : k < R.length := by rw [← HC.out.1]; omega
      have hcx := HC.out.2.1 k hkl
      have hzx := HC.out.2.2 R[k] (List.getElem_mem hkl)
      have htm := tog_more R k (by rw [← HC.out.1]; exact hlt)
      obtain ⟨x, hxe⟩ : ∃ x, x = ba R[k] := ⟨_, rfl⟩
      have hxr : bl x = R[k] := by rw [hxe, bl_ba]
      have hxs : x.size ≤ 1000000 := by rw [← bl_length, hxr]; exact hzx
      rw [← hxe] at hcx
      rw [← hxr] at htm
      have HT : Hid (∀ W, Calls Tryd.prog 22 #[.string x] W fun e w' => e = .returned (.bool (Ln.takes (bl x))) ∧ W = w') := fun W => takes_any x W hxs
      have htn : ((k : Int) + 1 - 1).toNat = k := by omega
      clear hxe hxr hzx
      cases ht : Ln.takes (bl x) with
      | true =>
        rw [ht, if_pos rfl] at htm
        have HA1 : Hid (Ln.tog R = (k + 1) + Ln.tog (R.drop (k + 1))) := by
          unfold Hid; rw [HA.out, htm]; omega
        rw [ht] at HT
        clear ht htm
        go_wp2_with (go_at_call 22; refine (HT.out _).mono ?_; rintro e w' ⟨rfl, rfl⟩)
        go_roundw
        case rel => exact ⟨k + 1, by omega, by go_num, trivial, HA1⟩
        case measure => simp [intOf]; omega
      | false =>
        rw [ht, if_neg (by simp)] at htm
        have HA1 : Hid (Ln.tog R = k + 1) := by
          unfold Hid; rw [HA.out, htm]
        rw [ht] at HT
        clear ht htm
        go_wp2_with (go_at_call 22; refine (HT.out _).mono ?_; rintro e w' ⟨rfl, rfl⟩)
        go_ret
        exact ⟨ret_int (by rw [HA1.out]; rfl), rfl⟩
    · have hke : ¬ (k : Int) + 1 < (n : Int) := by omega
      have HA1 : Hid (Ln.tog R = k + 1) := by
        unfold Hid; rw [HA.out, tog_last R k (by have := HC.out.1; omega)]
      go_wp2
      go_ret
      exact ⟨ret_int (by rw [HA1.out]; rfl), rfl⟩

/-- What Split finds at the byte 10. -/
theorem split_list (s : ByteArray) : (Lib.splitB ⟨#[10]⟩ 0 (Lib.countB s ⟨#[10]⟩) s).map bl = Ln.cut (bl s) := by
  have h := Lib.splitB_data ⟨#[10]⟩ 0 (Lib.countB s ⟨#[10]⟩) s
  have e : Lib.countB s ⟨#[10]⟩ = (bl s).count 10 := Lib.count_one 10 (bl s)
  show (Lib.splitB ⟨#[10]⟩ 0 (Lib.countB s ⟨#[10]⟩) s).map (·.data.toList) = _
  rw [h]
  exact Ln.split_cut (bl s) _ (by rw [e]; exact Nat.le_refl _)

set_option maxRecDepth 20000 in
set_option maxHeartbeats 400000 in
theorem raws_any (s : ByteArray) (w : World) (hs : s.size ≤ 1000000) (hm : Mx w) :
    Calls Tryd.prog 21 #[.string s] w fun e w' => ∃ v, e = .returned v ∧ Below w.heap.size w w' ∧ Words w'.heap.size w' v ((Ln.raws (bl s)).map ba) := by
  obtain ⟨m, hm⟩ := hm
  obtain ⟨L, hL⟩ : ∃ L, L = Lib.splitB ⟨#[10]⟩ 0 (Lib.countB s ⟨#[10]⟩) s := ⟨_, rfl⟩
  have hLl : L.length = Lib.countB s ⟨#[10]⟩ + 1 := by rw [hL]; exact Lib.splitB_all ⟨#[10]⟩ (by decide) 0 _ s rfl
  have hcut := split_list s
  rw [← hL] at hcut
  have hcl := Lib.countB_le ⟨#[10]⟩ (by decide) s.size s (Nat.le_refl _)
  obtain ⟨N, hN⟩ : ∃ N, N = Lib.countB s ⟨#[10]⟩ := ⟨_, rfl⟩
  rw [← hN] at hLl hcl
  have HS : Hid (Calls Tryd.prog 38 #[.string s, .string ⟨#[10]⟩] w fun e w' => e = .returned (.slice (some ⟨w.heap.size, 0, none⟩) (N + 1) (N + 1)) ∧ w.alloc (.cells (L.map Value.string).toArray 9) = w') := by
    rw [hL, hN]
    exact (Tryd.strings_Split s ⟨#[10]⟩ m w (by omega) hm (by decide)).mono fun e w' h => ⟨h.1, h.2.symm⟩
  have hN63 : N ≤ 1000000 := by omega
  have hrc := Ln.raws_cut (bl s)
  rw [← hcut] at hrc
  have hNl : N < L.length := by omega
  have hlast : (L.map bl).getLast? = some (bl L[N]) := by
    rw [List.getLast?_eq_getElem?, List.length_map, hLl, List.getElem?_map, Nat.add_sub_cancel, List.getElem?_eq_getElem hNl]; rfl
  rw [hlast] at hrc
  obtain ⟨x, hx⟩ : ∃ x, x = L[N] := ⟨_, rfl⟩
  rw [← hx] at hrc
  have HL : Hid (L.length = N + 1 ∧ ∀ i (h : i < L.length), (w.alloc (.cells (L.map Value.string).toArray 9)).cell? ⟨w.heap.size, i, none⟩ = some (.string L[i])) := ⟨hLl, fun i h =>
    cell_in (cs := (L.map Value.string).toArray) (T := 9) (by show (w.heap.push _)[w.heap.size]? = _; simp) i (by simp [h])⟩
  have hcx : (w.alloc (.cells (L.map Value.string).toArray 9)).cell? ⟨w.heap.size, N, none⟩ = some (.string x) := by
    rw [hx]; exact HL.out.2 N hNl
  have HB : Hid (Below w.heap.size w (w.alloc (.cells (L.map Value.string).toArray 9))) := (Below.refl _ _).alloc (Nat.le_refl _) _
  have HZ : Hid ((w.alloc (.cells (L.map Value.string).toArray 9)).heap.size = w.heap.size + 1) := by simp [Hid]
  obtain ⟨w1, hw1⟩ : ∃ w1, w1 = w.alloc (.cells (L.map Value.string).toArray 9) := ⟨_, rfl⟩
  rw [← hw1] at HS HL hcx HB HZ
  have hto : ((N : Int) + 1 - 1).toNat = N := by omega
  by_cases hxe : bl x = []
  · rw [hxe, if_pos rfl, ← List.map_dropLast] at hrc
    have HR : Hid (Ln.raws (bl s) = L.dropLast.map bl) := hrc
    have hx0 : x = ⟨#[]⟩ := bl_inj hxe
    rw [hx0] at hcx
    clear hw1 hx hlast hrc hcut hL hLl hN hcl hm hx0 hNl hxe
    go_enter Tryd.func21, Tryd.ntmps21
    go_wp2_with fail
    refine HS.out.mono ?_
    rintro e w' ⟨rfl, rfl⟩
    go_wp2
    go_ret
    refine ⟨_, rfl, HB.out, some ⟨w.heap.size, 0, none⟩, N, N + 1, rfl, ?_, by omega, fun i hi => ⟨w.heap.size, 0, rfl, by rw [HZ.out]; omega, ?_⟩⟩
    · rw [HR.out]; simp [HL.out.1]
    · have hil : i < L.length := by rw [HR.out] at hi; simp at hi; omega
      rw [Nat.zero_add, HL.out.2 i hil]
      simp [HR.out, ba_bl]
  · rw [if_neg (by simpa using hxe)] at hrc
    have HR : Hid (Ln.raws (bl s) = L.map bl) := hrc
    have t1 : ¬ x.toList = [] := by rw [Lib.toList_data]; exact hxe
    have t2 : x.toList.isEmpty = false := nonempty hxe
    clear hw1 hx hlast hrc hcut hL hLl hN hcl hm hNl hxe
    go_enter Tryd.func21, Tryd.ntmps21
    go_wp2_with fail
    refine HS.out.mono ?_
    rintro e w' ⟨rfl, rfl⟩
    go_wp2
    go_ret
    refine ⟨_, rfl, HB.out, some ⟨w.heap.size, 0, none⟩, N + 1, N + 1, rfl, ?_, by omega, fun i hi => ⟨w.heap.size, 0, rfl, by rw [HZ.out]; omega, ?_⟩⟩
    · rw [HR.out]; simp [HL.out.1]
    · have hil : i < L.length := by rw [HR.out] at hi; simp at hi; omega
      rw [Nat.zero_add, HL.out.2 i hil]
      simp [HR.out, ba_bl]
end Go.Proofs.YtefhpoklehmlhaaDoor
