/-
  What Remove and List answer and leave, and why a file may not be moved.
-/
import Derived.Test.YtoibdokedhbjpaaGreatMethC
namespace Go.Proofs.YtoibdokedhbjpaaGreat
open Go.RowKit Go.Shelf Go.Maps

section
variable {base b m : Nat} {v : Value} {s : St}

/-- A list's answer in memory. -/
def Told (base : Nat) (w : World) (u : Value) (l : List ByteArray) : Prop := w.ownsRow base 9 1 u l.length (l.map Value.string)
def listV (u : Value) (e : Int) : Value := .tuple #[u, .int .i64 e]

set_option maxRecDepth 20000 in
set_option maxHeartbeats 400000 in
theorem list_any (p : ByteArray) (w : World) (h : Store base b m v s w) (hp : p.size ≤ 1100000) :
    Calls Tryz.prog 18 #[ptr b, .string p] w fun e w' => ∃ u, e = .returned (listV u (s.list p).2) ∧ Told w.heap.size w' u (s.list p).1 ∧ Below w.heap.size w w' := by
  have HP : Hid (Calls Tryz.prog 40 #[ptr b, .string p] w fun e w' => e = .returned (placeV (wh p)) ∧ Below w.heap.size w w') := place_any p w h (by omega)
  have HS : Hid (∀ W, Below w.heap.size w W → Store base b m v s W) := fun W hB => h.below hB
  unfold St.list
  cases hw : wh p with
  | none =>
    rw [hw] at HP
    unfold placeV at HP
    clear hw h
    go_enter Tryz.func18, Tryz.ntmps18
    go_wp2_with fail
    refine HP.out.mono ?_
    rintro e w1 ⟨rfl, hb1⟩
    go_wp2
    go_ret2
    exact ⟨_, rfl, World.ownsRow_nil _ _ _ _, hb1⟩
  | some q =>
    rw [hw] at HP
    unfold placeV at HP
    have hqs := wh_size hw
    have HQ : Hid (∀ W, Below w.heap.size w W → (Instr.lookup 61 (.map (some m)) (.string q) true).run Tryz.prog W = .ok (.tuple #[.agg #[.string (gotE s.L q).text, .int .i64 (gotE s.L q).time, .bool (gotE s.L q).dir], .bool (s.L.look q).isSome]) W) := fun W hB => h.map.see (by omega) W (hB.block m h.ltm)
    have HN : Hid (∀ W, Below w.heap.size w W → Calls Tryz.prog 44 #[ptr b, .string q] W fun e w' => ∃ (u : Value) (ss : List ByteArray), e = .returned u ∧ w'.ownsRow W.heap.size 9 1 u ss.length (ss.map Value.string) ∧ ss.Perm (s.kids q) ∧ Below W.heap.size W w') := fun W hB => names_any q W (h.below hB)
    have hkl : (s.kids q).length ≤ 512 := by
      unfold St.kids
      rw [List.length_map]
      exact Nat.le_trans (List.length_filter_le _ _) h.ok.len
    unfold gotE at HQ
    clear hw h
    dsimp only
    cases hl : s.L.look q with
    | none =>
      rw [hl] at HQ
      simp only [Option.getD_none, noE, Option.isSome_none] at HQ ⊢
      clear hl
      go_enter Tryz.func18, Tryz.ntmps18
      go_wp2_with fail
      refine HP.out.mono ?_
      rintro e w1 ⟨rfl, hb1⟩
      have c3 := (HS.out w1 hb1).c3
      have hlk := HQ.out w1 hb1
      go_wp2
      go_ret2
      exact ⟨_, rfl, World.ownsRow_nil _ _ _ _, hb1.alloc hb1.size _⟩
    | some o =>
      rw [hl] at HQ
      simp only [Option.getD_some, Option.isSome_some] at HQ ⊢
      obtain ⟨tx, tm, td⟩ := o
      simp only at HQ ⊢
      clear hl
      cases td with
      | false =>
        try simp only [Bool.false_eq_true, if_false]
        go_enter Tryz.func18, Tryz.ntmps18
        go_wp2_with fail
        refine HP.out.mono ?_
        rintro e w1 ⟨rfl, hb1⟩
        have c3 := (HS.out w1 hb1).c3
        have hlk := HQ.out w1 hb1
        go_wp2
        go_ret2
        exact ⟨_, rfl, World.ownsRow_nil _ _ _ _, hb1.alloc hb1.size _⟩
      | true =>
        try simp only [if_true]
        go_enter Tryz.func18, Tryz.ntmps18
        go_wp2_with fail
        refine HP.out.mono ?_
        rintro e w1 ⟨rfl, hb1⟩
        have c3 := (HS.out w1 hb1).c3
        have hlk := HQ.out w1 hb1
        have HB1 : Hid (Below w.heap.size w (w1.alloc (.cells #[.string tx, .int .i64 tm, .bool true] 60))) := hb1.alloc hb1.size _
        clear hb1
        go_wp2_with fail
        refine (HN.out _ HB1.out).mono ?_
        rintro e w2 ⟨u, ss, rfl, hrow, hperm, hb2⟩
        have hbb : Below w.heap.size w w2 := HB1.out.trans (hb2.mono HB1.out.size)
        have hrow' : w2.ownsRow w.heap.size 9 1 u ss.length (ss.map Value.string) := owns_base hrow HB1.out.size
        have hsl : ss.length ≤ 1000000 := by rw [hperm.length_eq]; omega
        have HA : Hid (St.sorted (s.kids q) = St.sorted ss) := (sorted_of_perm hperm).symm
        have HT : Hid (Calls Tryz.prog 45 #[u] w2 fun e w' => e = .returned (.tuple #[]) ∧ w'.ownsRow w.heap.size 9 1 u ss.length ((St.sorted ss).map Value.string) ∧ w2.grownBy w' u.ownBlock) := sort_own u ss _ w2 hrow' hsl
        have hlow := hrow'.lt
        have hbs := hbb.size
        clear hrow hrow' hperm hb2 HB1 c3 hlk
        go_wp2_with fail
        refine HT.out.mono ?_
        rintro e w3 ⟨rfl, hrow3, hg3⟩
        have HE : Hid (w3.ownsRow w.heap.size 9 1 u ss.length ((St.sorted ss).map Value.string) ∧ Below w.heap.size w w3) := ⟨hrow3, hbb.grown hg3 hbs (fun k hk => (hlow k hk).1)⟩
        clear hrow3 hg3 hlow
        go_wp2
        go_ret2
        exact ⟨_, rfl, by unfold Told; rw [HA.out, sorted_length]; exact HE.out.1, HE.out.2⟩

set_option maxRecDepth 20000 in
set_option maxHeartbeats 1000000 in
theorem remove_any (p : ByteArray) (w : World) (h : Store base b m v s w) (hp : p.size ≤ 1048577) (hn : s.now ≤ 2000000000000000000) :
    Calls Tryz.prog 29 #[ptr b, .string p] w fun e w' => e = .returned (.int .i64 (s.remove p).2) ∧ ∃ v', Store base b m v' (s.remove p).1 w' ∧ Turn b m v v' w w' := by
  have HP : Hid (Calls Tryz.prog 40 #[ptr b, .string p] w fun e w' => e = .returned (placeV (wh p)) ∧ Below w.heap.size w w') := place_any p w h (by omega)
  have HS : Hid (∀ W, Below w.heap.size w W → Store base b m v s W) := fun W hB => h.below hB
  unfold St.remove
  cases hw : wh p with
  | none =>
    rw [hw] at HP
    unfold placeV at HP
    clear hw h
    go_enter Tryz.func29, Tryz.ntmps29
    go_wp2_with fail
    refine HP.out.mono ?_
    rintro e w1 ⟨rfl, hb1⟩
    go_wp2
    go_ret
    exact ⟨rfl, v, HS.out _ hb1, Turn.of_below hb1⟩
  | some q =>
    rw [hw] at HP
    unfold placeV at HP
    have hqs := wh_size hw
    have HQ : Hid (∀ W, Below w.heap.size w W → (Instr.lookup 61 (.map (some m)) (.string q) true).run Tryz.prog W = .ok (.tuple #[.agg #[.string (gotE s.L q).text, .int .i64 (gotE s.L q).time, .bool (gotE s.L q).dir], .bool (s.L.look q).isSome]) W) := fun W hB => h.map.see (by omega) W (hB.block m h.ltm)
    have HN : Hid (∀ W, Below w.heap.size w W → Calls Tryz.prog 44 #[ptr b, .string q] W fun e w' => ∃ (u : Value) (ss : List ByteArray), e = .returned u ∧ w'.ownsRow W.heap.size 9 1 u ss.length (ss.map Value.string) ∧ ss.Perm (s.kids q) ∧ Below W.heap.size W w') := fun W hB => names_any q W (h.below hB)
    have hkl : (s.kids q).length ≤ 512 := by
      unfold St.kids
      rw [List.length_map]
      exact Nat.le_trans (List.length_filter_le _ _) h.ok.len
    have HD : Hid (∀ W, Store base b m v s W → ∃ W', (∀ ty, (Builtin.delete_ #[61, 9] ty #[.map (some m), .string q]).run Tryz.prog W = .ok (.tuple #[]) W') ∧ Store base b m v { s with L := s.L.del q } W' ∧ Turn b m v v W W') := fun W hW => by
      obtain ⟨W', h1, h2, h3⟩ := hW.del (q := q) (by omega) (ok_del h.ok q) 0
      exact ⟨W', fun ty => h1, h2, h3⟩
    have HT : Hid (∀ W, Store base b m v { s with L := s.L.del q } W → Calls Tryz.prog 52 #[ptr b] W fun e w' => e = .returned (.int .i64 (s.now + 1)) ∧ Store base b m v { s with now := s.now + 1, L := s.L.del q } w' ∧ Turn b m v v W w') := fun W h => tick_st W h hn
    have HNo : Hid (∀ W, Store base b m v { s with now := s.now + 1, L := s.L.del q } W → Calls Tryz.prog 49 #[ptr b, .int .i64 3, .string q] W fun e w' => e = .returned (.tuple #[]) ∧ ∃ v', Store base b m v' (St.note { s with now := s.now + 1, L := s.L.del q } 3 q) w' ∧ Turn b m v v' W w') := fun W hW => note_any 3 q W hW
    obtain ⟨s1, hs1⟩ : ∃ s1 : St, s1 = { s with L := s.L.del q } := ⟨_, rfl⟩
    obtain ⟨s2, hs2⟩ : ∃ s2 : St, s2 = { s with now := s.now + 1, L := s.L.del q } := ⟨_, rfl⟩
    rw [← hs1] at HD
    rw [← hs1, ← hs2] at HT
    rw [← hs2] at HNo
    unfold gotE at HQ
    clear hw h
    dsimp only
    rw [← hs2]
    clear hs1 hs2
    cases hl : s.L.look q with
    | none =>
      rw [hl] at HQ
      simp only [Option.getD_none, noE, Option.isSome_none] at HQ ⊢
      clear hl
      go_enter Tryz.func29, Tryz.ntmps29
      go_wp2_with fail
      refine HP.out.mono ?_
      rintro e w1 ⟨rfl, hb1⟩
      have c3 := (HS.out w1 hb1).c3
      have hlk := HQ.out w1 hb1
      go_wp2
      go_ret
      exact ⟨rfl, v, HS.out _ (hb1.alloc hb1.size _), Turn.of_below (hb1.alloc hb1.size _)⟩
    | some o =>
      rw [hl] at HQ
      simp only [Option.getD_some, Option.isSome_some] at HQ ⊢
      obtain ⟨tx, tm, td⟩ := o
      simp only at HQ ⊢
      clear hl
      by_cases hqt : q = topB
      · rw [if_pos (.inl hqt)]
        subst hqt
        go_enter Tryz.func29, Tryz.ntmps29
        go_wp2_with fail
        refine HP.out.mono ?_
        rintro e w1 ⟨rfl, hb1⟩
        have c3 := (HS.out w1 hb1).c3
        have hlk := HQ.out w1 hb1
        go_wp2
        go_ret
        exact ⟨rfl, v, HS.out _ (hb1.alloc hb1.size _), Turn.of_below (hb1.alloc hb1.size _)⟩
      · have t1 : ¬ q.toList = [47] := by rw [Lib.toList_data]; exact fun e => hqt (bl_inj e)
        have t1' : (q.toList == [47]) = false := by simpa using t1
        cases td with
        | false =>
          rw [if_neg (by simp [hqt])]
          try simp only [Bool.false_eq_true, if_false]
          clear hqt
          go_enter Tryz.func29, Tryz.ntmps29
          go_wp2_with fail
          refine HP.out.mono ?_
          rintro e w1 ⟨rfl, hb1⟩
          have hst1 := HS.out _ (hb1.alloc hb1.size (.cells #[.string tx, .int .i64 tm, .bool false] 60))
          have c3 := (HS.out w1 hb1).c3
          have d3 := hst1.c3
          have hlk := HQ.out w1 hb1
          obtain ⟨w2, hdel, hst2, ht2⟩ := HD.out _ hst1
          have hc : w2.cell? ⟨w1.heap.size, 2, none⟩ = some (.bool false) := by
            have h1 := (HS.out w1 hb1).lt
            have h2 := (HS.out w1 hb1).ltm
            have hblk := ht2.block w1.heap.size (by simp) (by omega) (by omega) (fun e => by have := ((HS.out w1 hb1).ltv _ e).2; omega)
            rw [World.cell?_of_block (a := ⟨w1.heap.size, 2, none⟩) hblk]; simp
          have HE : Hid (Store base b m v s1 w2 ∧ Turn b m v v w w2 ∧ w1.heap.size < w2.heap.size ∧ b ≠ w1.heap.size ∧ m ≠ w1.heap.size ∧ (∀ g, v.ownBlock = some g → g ≠ w1.heap.size)) := by
            have h0 := HS.out w1 hb1
            have h1 := h0.lt
            have h2 := h0.ltm
            refine ⟨hst2, (Turn.of_below (hb1.alloc hb1.size _)).trans ht2, ?_, by omega, by omega, fun g hg => ?_⟩
            · have := ht2.size; simp at this; omega
            · have := (h0.ltv g hg).2; omega
          clear hst1 hst2 ht2 hb1
          go_wp2_with fail
          refine (HT.out _ HE.out.1).mono ?_
          rintro e w3 ⟨rfl, hst3, ht3⟩
          have hc3 : w3.cell? ⟨w1.heap.size, 2, none⟩ = some (.bool false) := by
            have hblk := ht3.block w1.heap.size HE.out.2.2.1 (Ne.symm HE.out.2.2.2.1) (Ne.symm HE.out.2.2.2.2.1) (fun e => HE.out.2.2.2.2.2 _ e rfl)
            rw [World.cell?_of_block (a := ⟨w1.heap.size, 2, none⟩) hblk]; exact hc
          have HE3 : Hid (Store base b m v s2 w3 ∧ Turn b m v v w w3) := ⟨hst3, HE.out.2.1.trans ht3⟩
          clear hst3 ht3 hc HE c3 d3 hlk hdel
          go_wp2_with fail
          refine (HNo.out _ HE3.out.1).mono ?_
          rintro e w4 ⟨rfl, v', hst4, ht4⟩
          have HE4 : Hid (Store base b m v' (s2.note 3 q) w4 ∧ Turn b m v v' w w4) := ⟨hst4, HE3.out.2.trans ht4⟩
          clear hst4 ht4 HE3
          go_wp2
          go_ret
          exact ⟨rfl, v', HE4.out.1, HE4.out.2⟩
        | true =>
          by_cases hk : s.kids q = []
          · rw [if_neg (by simp [hqt, hk])]
            try simp only [if_true]
            clear hqt
            go_enter Tryz.func29, Tryz.ntmps29
            go_wp2_with fail
            refine HP.out.mono ?_
            rintro e w1 ⟨rfl, hb1⟩
            have c3 := (HS.out w1 hb1).c3
            have hlk := HQ.out w1 hb1
            have HB1 : Hid (Below w.heap.size w (w1.alloc (.cells #[.string tx, .int .i64 tm, .bool true] 60)) ∧ Below w.heap.size w w1) := ⟨hb1.alloc hb1.size _, hb1⟩
            clear hb1
            go_wp2_with fail
            refine (HN.out _ HB1.out.1).mono ?_
            rintro e w2 ⟨u, ss, rfl, hrow, hperm, hb2⟩
            have hss : ss = [] := by rw [hk] at hperm; exact hperm.eq_nil
            subst hss
            obtain ⟨au, capu, rfl⟩ := owns_slice hrow
            simp only [List.length_nil]
            have hbb : Below w.heap.size w w2 := HB1.out.1.trans (hb2.mono HB1.out.1.size)
            have hst2 := HS.out w2 hbb
            have d3 := hst2.c3
            have hcc : w2.cell? ⟨w1.heap.size, 2, none⟩ = some (.bool true) := by
              rw [hb2.cell (p := ⟨w1.heap.size, 2, none⟩) (by simp)]; simp
            obtain ⟨w5, hdel, hst5, ht5⟩ := HD.out _ hst2
            have HE : Hid (Store base b m v s1 w5 ∧ Turn b m v v w w5 ∧ b ≠ w1.heap.size ∧ m ≠ w1.heap.size ∧ (∀ g, v.ownBlock = some g → g ≠ w1.heap.size) ∧ w1.heap.size < w2.heap.size ∧ Turn b m v v w2 w5) := by
              have h0 := HS.out w1 HB1.out.2
              have h1 := h0.lt
              have h2 := h0.ltm
              refine ⟨hst5, (Turn.of_below hbb).trans ht5, by omega, by omega, fun g hg => ?_, ?_, ht5⟩
              · have := (h0.ltv g hg).2; omega
              · have := hb2.size; simp at this; omega
            clear hst2 hst5 ht5 hrow hperm hb2 c3 hlk
            go_wp2_with fail
            refine (HT.out _ HE.out.1).mono ?_
            rintro e w6 ⟨rfl, hst6, ht6⟩
            have hc6 : w6.cell? ⟨w1.heap.size, 2, none⟩ = some (.bool true) := by
              have hne := HE.out.2.2
              have hb5 := hne.2.2.2.2.block w1.heap.size hne.2.2.2.1 (Ne.symm hne.1) (Ne.symm hne.2.1) (fun e => hne.2.2.1 _ e rfl)
              have hb6 := ht6.block w1.heap.size (Nat.lt_of_lt_of_le hne.2.2.2.1 hne.2.2.2.2.size) (Ne.symm hne.1) (Ne.symm hne.2.1) (fun e => hne.2.2.1 _ e rfl)
              rw [World.cell?_of_block (a := ⟨w1.heap.size, 2, none⟩) (hb6.trans hb5)]; exact hcc
            have HE6 : Hid (Store base b m v s2 w6 ∧ Turn b m v v w w6) := ⟨hst6, HE.out.2.1.trans ht6⟩
            clear hst6 ht6 hcc HE d3 hdel
            go_wp2
            go_ret
            exact ⟨rfl, v, HE6.out.1, HE6.out.2⟩
          · rw [if_pos (.inr ⟨rfl, hk⟩)]
            clear hqt
            go_enter Tryz.func29, Tryz.ntmps29
            go_wp2_with fail
            refine HP.out.mono ?_
            rintro e w1 ⟨rfl, hb1⟩
            have c3 := (HS.out w1 hb1).c3
            have hlk := HQ.out w1 hb1
            have HB1 : Hid (Below w.heap.size w (w1.alloc (.cells #[.string tx, .int .i64 tm, .bool true] 60))) := hb1.alloc hb1.size _
            clear hb1
            go_wp2_with fail
            refine (HN.out _ HB1.out).mono ?_
            rintro e w2 ⟨u, ss, rfl, hrow, hperm, hb2⟩
            have hbb : Below w.heap.size w w2 := HB1.out.trans (hb2.mono HB1.out.size)
            obtain ⟨n, hn2⟩ : ∃ n, ss.length = n + 1 := ⟨ss.length - 1, by have := List.length_pos_iff.2 hk; have := hperm.length_eq; omega⟩
            have hn5 : n ≤ 512 := by have := hperm.length_eq; omega
            obtain ⟨au, capu, rfl⟩ := owns_slice hrow
            rw [hn2]
            have hni : (0 : Int) < ((n + 1 : Nat) : Int) := by omega
            clear hrow hperm hb2 c3 hlk
            go_wp2
            go_ret
            exact ⟨rfl, v, HS.out _ hbb, Turn.of_below hbb⟩
end
end Go.Proofs.YtoibdokedhbjpaaGreat
