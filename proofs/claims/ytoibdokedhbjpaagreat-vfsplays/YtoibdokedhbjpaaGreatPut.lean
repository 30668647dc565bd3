/-
  A file is written: what a call that puts a text at a place answers and leaves.
-/
import Derived.Test.YtoibdokedhbjpaaGreatMay
namespace Go.Proofs.YtoibdokedhbjpaaGreat
open Go.RowKit Go.Shelf Go.Maps

theorem tick_st {base b m : Nat} {v : Value} {s : St} (w : World) (h : Store base b m v s w) (hn : s.now ≤ 2000000000000000000) :
    Calls Tryz.prog 52 #[ptr b] w fun e w' => e = .returned (.int .i64 (s.now + 1)) ∧ Store base b m v { s with now := s.now + 1 } w' ∧ Turn b m v v w w' := by
  refine (tick_any w h hn).mono ?_
  rintro e w' ⟨rfl, rfl⟩
  exact ⟨rfl, h.clock _ (by omega), Turn.set _ _ _ _ _ _⟩

theorem put_ok {s : St} (o : s.Ok) {q x : ByteArray} (hw : wh q = some q) (hs : q.size ≤ 1100000) (h0 : s.mayPut q x.size = 0) (d : Bool) : St.Ok { s with now := s.now + 1, L := s.L.set q ⟨x, s.now + 1, d⟩ } := by
  have hu := Fs.used_set s.L q ⟨x, s.now + 1, d⟩
  refine ok_set (ok_now o (x := s.now + 1) (by omega)) hw hs (Int.le_refl _) ?_ ?_
  · show (s.L.look q).isSome = true ∨ s.L.length < 512
    unfold St.mayPut at h0
    split at h0
    · contradiction
    · cases hl : s.L.look q with
      | some o => exact .inl rfl
      | none =>
        rw [hl] at h0
        simp only at h0
        right
        split at h0
        · cases h0
        · split at h0
          · cases h0
          · split at h0
            · cases h0
            · omega
  · show ((s.L.set q ⟨x, s.now + 1, d⟩).used : Int) ≤ s.room
    unfold St.mayPut at h0
    split at h0
    · contradiction
    · cases hl : s.L.look q with
      | some o =>
        rw [hl] at h0 hu
        simp only at h0 hu
        split at h0
        · cases h0
        · split at h0
          · cases h0
          · split at h0
            · cases h0
            · omega
      | none =>
        rw [hl] at h0 hu
        simp only at h0 hu
        split at h0
        · cases h0
        · split at h0
          · cases h0
          · omega

set_option maxRecDepth 20000 in
set_option maxHeartbeats 1000000 in
theorem put_any {base b m : Nat} {v : Value} {s : St} (q x y : ByteArray) (w : World) (h : Store base b m v s w) (hw : wh q = some q) (hq : q.size ≤ 1100000) (hx : x.size ≤ 2000000) (hy : y.size ≤ 140737488355328) (hn : s.now ≤ 2000000000000000000) :
    Calls Tryz.prog 51 #[ptr b, .string q, .string x, .string y] w fun e w' => e = .returned (.int .i64 (s.put q (x ++ y)).2) ∧ ∃ v', Store base b m v' (s.put q (x ++ y)).1 w' ∧ Turn b m v v' w w' := by
  have hxy : (x ++ y).size = x.size + y.size := ByteArray.size_append
  obtain ⟨r, hr⟩ : ∃ r, r = s.mayPut q (x ++ y).size := ⟨_, rfl⟩
  have HM : Hid (Calls Tryz.prog 70 #[ptr b, .string q, .int .i64 ((x.size : Int) + (y.size : Int))] w fun e w' => e = .returned (.int .i64 r) ∧ Below w.heap.size w w') := by
    have := mayPut_any q (x.size + y.size) w h hq (by omega)
    rw [← hxy, ← hr] at this
    rw [hxy, Int.natCast_add] at this
    exact this
  by_cases h0 : r = 0
  · have hok := put_ok h.ok hw hq (x := x ++ y) (hr.symm.trans h0) false
    have HP : Hid (s.put q (x ++ y) = ({ s with now := s.now + 1, L := s.L.set q ⟨x ++ y, s.now + 1, false⟩ }.note 2 q, 0)) := by
      unfold Hid St.put; rw [← hr, h0]; simp
    subst h0
    have hadd : ∀ W, (Op.stringOp .add x y).run Tryz.prog W = .ok (.string (x ++ y)) W := fun W => run_string_add_sum W x y (by omega)
    have HT : Hid (∀ W, Store base b m v s W → Calls Tryz.prog 52 #[ptr b] W fun e w' => e = .returned (.int .i64 (s.now + 1)) ∧ Store base b m v { s with now := s.now + 1 } w' ∧ Turn b m v v W w') := fun W h => tick_st W h hn
    have HU : Hid (∀ W, Store base b m v { s with now := s.now + 1 } W → ∃ W', (Instr.mapUpdate 61 (.map (some m)) (.string q) (.agg #[.string (x ++ y), .int .i64 (s.now + 1), .bool false])).run Tryz.prog W = .ok () W' ∧ Store base b m v { s with now := s.now + 1, L := s.L.set q ⟨x ++ y, s.now + 1, false⟩ } W' ∧ Turn b m v v W W') :=
      fun W hW => hW.put (by omega) ⟨x ++ y, s.now + 1, false⟩ hok
    have HN : Hid (∀ W, Store base b m v { s with now := s.now + 1, L := s.L.set q ⟨x ++ y, s.now + 1, false⟩ } W → Calls Tryz.prog 49 #[ptr b, .int .i64 2, .string q] W fun e w' => e = .returned (.tuple #[]) ∧ ∃ v', Store base b m v' (St.note { s with now := s.now + 1, L := s.L.set q ⟨x ++ y, s.now + 1, false⟩ } 2 q) w' ∧ Turn b m v v' W w') := fun W hW => note_any 2 q W hW
    obtain ⟨z, hz⟩ : ∃ z, z = x ++ y := ⟨_, rfl⟩
    obtain ⟨t1, ht1⟩ : ∃ t1, t1 = s.now + 1 := ⟨_, rfl⟩
    obtain ⟨s1, hs1⟩ : ∃ s1 : St, s1 = { s with now := s.now + 1 } := ⟨_, rfl⟩
    obtain ⟨s2, hs2⟩ : ∃ s2 : St, s2 = { s with now := s.now + 1, L := s.L.set q ⟨x ++ y, s.now + 1, false⟩ } := ⟨_, rfl⟩
    rw [← hs1, ← hs2, ← hz] at HU
    rw [← hs1, ← ht1] at HT
    rw [← ht1] at HU
    rw [← hs2] at HN HP
    rw [← hz] at hadd HP ⊢
    clear hok hxy hr hs1 hs2 hz ht1
    have HS : Hid (∀ W, Below w.heap.size w W → Store base b m v s W) := fun W hB => h.below hB
    clear h
    go_enter Tryz.func51, Tryz.ntmps51
    go_wp2_with fail
    refine HM.out.mono ?_
    rintro e w1 ⟨rfl, hb1⟩
    have hst1 := HS.out w1 hb1
    have c3 := hst1.c3
    have HS1 : Hid (Store base b m v s w1.drew ∧ Turn b m v v w w1) := ⟨hst1.drew, Turn.of_below hb1⟩
    clear hst1 hb1 HM
    go_wp2_with fail
    go_region_held3 (fun W => W.cell? ⟨b, 3, none⟩ = some (.map (some m)))
      (first | exact HS1.out.1.c3 | exact Store.c3 (by assumption))
      (first | (go_at_call 52; refine (HT.out _ HS1.out.1).mono ?_; rintro e w3 ⟨rfl, hst3, htn3⟩; obtain ⟨w4, hup, hst4, htn4⟩ := HU.out w3 hst3))
    have HT4 : Hid (Turn b m v v w w4) := HS1.out.2.trans ((Turn.of_below (Below.refl _ w1).drew).trans (htn3.trans htn4))
    have HS4 : Hid (Store base b m v s2 w4) := hst4
    clear hup hst3 htn3 hst4 htn4 HS1 c3
    go_wp2_with fail
    refine (HN.out w4 HS4.out).mono ?_
    rintro e w5 ⟨rfl, v', hst5, ht5⟩
    have HS5 : Hid (Store base b m v' (s2.note 2 q) w5 ∧ Turn b m v v' w w5) := ⟨hst5, HT4.out.trans ht5⟩
    clear hst5 ht5
    go_wp2
    go_ret
    rw [HP.out]
    exact ⟨rfl, v', HS5.out.1, HS5.out.2⟩
  · have HP : Hid (s.put q (x ++ y) = (s, r)) := by
      unfold Hid St.put; rw [← hr, if_pos h0]
    have h0' : (r == 0) = false := by simpa using h0
    have HS : Hid (Store base b m v s w) := h
    clear h hr
    go_enter Tryz.func51, Tryz.ntmps51
    go_wp2_with fail
    refine HM.out.mono ?_
    rintro e w1 ⟨rfl, hb1⟩
    go_wp2
    go_ret
    rw [HP.out]
    exact ⟨rfl, v, HS.out.below hb1, Turn.of_below hb1⟩
end Go.Proofs.YtoibdokedhbjpaaGreat
