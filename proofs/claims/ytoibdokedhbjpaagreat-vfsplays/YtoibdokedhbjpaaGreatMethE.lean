/-
  What Move answers and leaves.
-/
import Derived.Test.YtoibdokedhbjpaaGreatMethD
namespace Go.Proofs.YtoibdokedhbjpaaGreat
open Go.RowKit Go.Shelf Go.Maps

section
variable {base b m : Nat} {v : Value} {s : St}

def mayM (ho : Int) (t d1 d2 : Bool) : Int := if t = false then 6 else if ho = 6 then 6 else if d1 || d2 then 8 else ho
theorem may_move (s : St) (a c : ByteArray) : s.mayMove a c = mayM (s.home c) (s.L.look a).isSome (gotE s.L a).dir (gotE s.L c).dir := by
  unfold St.mayMove mayM gotE Fs.isDir
  cases s.L.look a with
  | none => rfl
  | some o => cases s.L.look c <;> rfl
theorem home_cases (s : St) (q : ByteArray) : s.home q = 0 ∨ s.home q = 6 ∨ s.home q = 8 := by
  unfold St.home
  cases s.L.look (dirB q) with
  | none => exact .inr (.inl rfl)
  | some d => cases hd : d.dir <;> simp [hd]

set_option maxRecDepth 20000 in
set_option maxHeartbeats 1000000 in
theorem mayMove_any (a c : ByteArray) (w : World) (h : Store base b m v s w) (ha : a.size ≤ 1100000) (hc : c.size ≤ 1100000) :
    Calls Tryz.prog 53 #[ptr b, .string a, .string c] w fun e w' => e = .returned (.int .i64 (s.mayMove a c)) ∧ Below w.heap.size w w' := by
  have HL : Hid (∀ W, Below w.heap.size w W → Calls Tryz.prog 54 #[ptr b, .string c] W fun e w' => e = .returned (.int .i64 (s.home c)) ∧ Below W.heap.size W w') := fun W hB => mayLie_any c W (h.below hB) hc
  have HM : Hid (s.mayMove a c = mayM (s.home c) (s.L.look a).isSome (gotE s.L a).dir (gotE s.L c).dir) := may_move s a c
  have HS : Hid (∀ W, Below w.heap.size w W → Store base b m v s W) := fun W hB => h.below hB
  have HQ : Hid (∀ W, Below w.heap.size w W → (Instr.lookup 61 (.map (some m)) (.string a) true).run Tryz.prog W = .ok (.tuple #[.agg #[.string (gotE s.L a).text, .int .i64 (gotE s.L a).time, .bool (gotE s.L a).dir], .bool (s.L.look a).isSome]) W) := fun W hB => h.map.see (by omega) W (hB.block m h.ltm)
  have HR : Hid (∀ W, Below w.heap.size w W → (Instr.lookup 61 (.map (some m)) (.string c) false).run Tryz.prog W = .ok (.agg #[.string (gotE s.L c).text, .int .i64 (gotE s.L c).time, .bool (gotE s.L c).dir]) W) := fun W hB => h.map.see1 (by omega) W (hB.block m h.ltm)
  have hcas := home_cases s c
  obtain ⟨ho, hho⟩ : ∃ ho, ho = s.home c := ⟨_, rfl⟩
  obtain ⟨t0, ht0⟩ : ∃ t0, t0 = (s.L.look a).isSome := ⟨_, rfl⟩
  obtain ⟨e1, he1⟩ : ∃ e1, e1 = gotE s.L a := ⟨_, rfl⟩
  obtain ⟨e2, he2⟩ : ∃ e2, e2 = gotE s.L c := ⟨_, rfl⟩
  rw [← hho] at HL hcas
  rw [← hho, ← ht0, ← he1, ← he2] at HM
  rw [← ht0, ← he1] at HQ
  rw [← he2] at HR
  obtain ⟨tx, tm, td⟩ := e1
  obtain ⟨ux, um, ud⟩ := e2
  simp only at HM HQ HR
  clear hho ht0 he1 he2 h
  unfold mayM at HM
  have key : ∀ r : Int, (s.mayMove a c = r) → (t0 = false ∧ r = 6 ∨ t0 = true ∧ ho = 6 ∧ r = 6 ∨ t0 = true ∧ ho ≠ 6 ∧ td = true ∧ r = 8 ∨ t0 = true ∧ ho ≠ 6 ∧ td = false ∧ ud = true ∧ r = 8 ∨ t0 = true ∧ ho ≠ 6 ∧ td = false ∧ ud = false ∧ r = ho) → Calls Tryz.prog 53 #[ptr b, .string a, .string c] w fun e w' => e = .returned (.int .i64 r) ∧ Below w.heap.size w w' := by
    intro r _ hr
    clear HM
    rcases hr with ⟨rfl, rfl⟩ | ⟨rfl, rfl, rfl⟩ | ⟨rfl, h6, rfl, rfl⟩ | ⟨rfl, h6, rfl, rfl, rfl⟩ | ⟨rfl, h6, rfl, rfl, rfl⟩
    · go_enter Tryz.func53, Tryz.ntmps53
      have c3 := (HS.out w (Below.refl _ _)).c3
      have hlk := HQ.out w (Below.refl _ _)
      have hb0 : Below w.heap.size w (w.alloc (.cells #[.string tx, .int .i64 tm, .bool td] 60)) := (Below.refl _ w).alloc (Nat.le_refl _) _
      go_wp2_with fail
      refine (HL.out _ hb0).mono ?_
      rintro e w2 ⟨rfl, hb2⟩
      have hbb : Below w.heap.size w w2 := hb0.trans (hb2.mono (by simp))
      clear hb2 hb0 c3 hlk
      go_wp2
      go_ret
      exact ⟨rfl, hbb⟩
    · go_enter Tryz.func53, Tryz.ntmps53
      have c3 := (HS.out w (Below.refl _ _)).c3
      have hlk := HQ.out w (Below.refl _ _)
      have hb0 : Below w.heap.size w (w.alloc (.cells #[.string tx, .int .i64 tm, .bool td] 60)) := (Below.refl _ w).alloc (Nat.le_refl _) _
      go_wp2_with fail
      refine (HL.out _ hb0).mono ?_
      rintro e w2 ⟨rfl, hb2⟩
      have hbb : Below w.heap.size w w2 := hb0.trans (hb2.mono (by simp))
      clear hb2 hb0 c3 hlk
      go_wp2
      go_ret
      exact ⟨rfl, hbb⟩
    · have h6' : (ho == 6) = false := by simpa using h6
      go_enter Tryz.func53, Tryz.ntmps53
      have c3 := (HS.out w (Below.refl _ _)).c3
      have hlk := HQ.out w (Below.refl _ _)
      have hb0 : Below w.heap.size w (w.alloc (.cells #[.string tx, .int .i64 tm, .bool true] 60)) := (Below.refl _ w).alloc (Nat.le_refl _) _
      go_wp2_with fail
      refine (HL.out _ hb0).mono ?_
      rintro e w2 ⟨rfl, hb2⟩
      have hbb : Below w.heap.size w w2 := hb0.trans (hb2.mono (by simp))
      have hc2 : w2.cell? ⟨w.heap.size, 2, none⟩ = some (.bool true) := by
        rw [hb2.cell (p := ⟨w.heap.size, 2, none⟩) (by simp)]; simp
      clear hb2 hb0 c3 hlk
      go_wp2
      go_ret
      exact ⟨rfl, hbb⟩
    · have h6' : (ho == 6) = false := by simpa using h6
      go_enter Tryz.func53, Tryz.ntmps53
      have c3 := (HS.out w (Below.refl _ _)).c3
      have hlk := HQ.out w (Below.refl _ _)
      have hb0 : Below w.heap.size w (w.alloc (.cells #[.string tx, .int .i64 tm, .bool false] 60)) := (Below.refl _ w).alloc (Nat.le_refl _) _
      go_wp2_with fail
      refine (HL.out _ hb0).mono ?_
      rintro e w2 ⟨rfl, hb2⟩
      have hbb : Below w.heap.size w w2 := hb0.trans (hb2.mono (by simp))
      have hc2 : w2.cell? ⟨w.heap.size, 2, none⟩ = some (.bool false) := by
        rw [hb2.cell (p := ⟨w.heap.size, 2, none⟩) (by simp)]; simp
      have d3 := (HS.out w2 hbb).c3
      have hl2 := HR.out w2 hbb
      have hf2 := field2 ux um true w2
      clear hb2 hb0 c3 hlk
      go_wp2
      go_ret
      exact ⟨rfl, hbb⟩
    · have h6' : (r == 6) = false := by simpa using h6
      go_enter Tryz.func53, Tryz.ntmps53
      have c3 := (HS.out w (Below.refl _ _)).c3
      have hlk := HQ.out w (Below.refl _ _)
      have hb0 : Below w.heap.size w (w.alloc (.cells #[.string tx, .int .i64 tm, .bool false] 60)) := (Below.refl _ w).alloc (Nat.le_refl _) _
      go_wp2_with fail
      refine (HL.out _ hb0).mono ?_
      rintro e w2 ⟨rfl, hb2⟩
      have hbb : Below w.heap.size w w2 := hb0.trans (hb2.mono (by simp))
      have hc2 : w2.cell? ⟨w.heap.size, 2, none⟩ = some (.bool false) := by
        rw [hb2.cell (p := ⟨w.heap.size, 2, none⟩) (by simp)]; simp
      have d3 := (HS.out w2 hbb).c3
      have hl2 := HR.out w2 hbb
      have hf2 := field2 ux um false w2
      clear hb2 hb0 c3 hlk
      go_wp2
      go_ret
      exact ⟨rfl, hbb⟩
  refine key _ rfl ?_
  rw [HM.out]
  cases t0
  · simp
  · by_cases h6 : ho = 6
    · simp [h6]
    · cases td <;> cases ud <;> simp [h6]

theorem move_ok {s : St} (o : s.Ok) {a c : ByteArray} (hw : wh c = some c) (hs : c.size ≤ 1100000) (hne : a ≠ c) (hl : (s.L.look a).isSome = true) : St.Ok { s with now := s.now + 1, L := (s.L.set c ⟨s.text a, s.now + 1, false⟩).del a } := by
  obtain ⟨oa, hoa⟩ := Option.isSome_iff_exists.1 hl
  have hq := Fs.uniq_set o.uniq c ⟨s.text a, s.now + 1, false⟩
  have hu := Fs.used_set s.L c ⟨s.text a, s.now + 1, false⟩
  have hu2 := Fs.used_del hq a
  have hd := Fs.length_del hq a
  have hls := Fs.length_set s.L c ⟨s.text a, s.now + 1, false⟩
  have hla : (s.L.set c ⟨s.text a, s.now + 1, false⟩).look a = some oa := by rw [Fs.look_set_other _ _ _ _ hne]; exact hoa
  have hta : s.text a = oa.text := by unfold St.text; rw [hoa]
  rw [hla] at hu2 hd
  simp only [Option.isSome_some, if_true] at hu2 hd
  rw [hta] at hu hu2 hd hls ⊢
  have h1 := o.used
  have h5 := o.len
  refine ⟨o.room0, o.room1, by have := o.now0; show 0 ≤ s.now + 1; omega, Fs.uniq_del (Fs.uniq_set o.uniq _ _) a, ?_, ?_, fun x hx => ?_, fun x hx => ?_, o.note⟩
  · show ((s.L.set c ⟨oa.text, s.now + 1, false⟩).del a).length ≤ 512
    split at hls <;> omega
  · show (((s.L.set c ⟨oa.text, s.now + 1, false⟩).del a).used : Int) ≤ s.room
    simp only at hu
    omega
  · rcases Fs.mem_set (Fs.mem_del hx).1 with rfl | hx
    · exact ⟨hw, hs⟩
    · exact o.path x hx
  · rcases Fs.mem_set (Fs.mem_del hx).1 with rfl | hx
    · exact Int.le_refl _
    · have := o.time x hx; show x.2.time ≤ s.now + 1; omega

/-- An entry is set, and then another one struck. -/
theorem Store.carry {w : World} (h : Store base b m v s w) {a c : ByteArray} (ha : a.size ≤ 140737488355328) (hc : c.size ≤ 140737488355328) (e : Ent) (hok : St.Ok { s with L := (s.L.set c e).del a }) :
    ∃ w1 w2, (Instr.mapUpdate 61 (.map (some m)) (.string c) (entV e)).run Tryz.prog w = .ok () w1 ∧ w1.cell? ⟨b, 3, none⟩ = some (.map (some m)) ∧ (∀ ty, (Builtin.delete_ #[61, 9] ty #[.map (some m), .string a]).run Tryz.prog w1 = .ok (.tuple #[]) w2) ∧
      Store base b m v { s with L := (s.L.set c e).del a } w2 ∧ Turn b m v v w w2 := by
  obtain ⟨D, hown, hR⟩ := h.map
  have hl := h.ok.len
  obtain ⟨w1, hrun, hown', ht⟩ := hown.store keyed9 Tryz.underlying61 (by unfold maxLen; omega) (WideMaps.keyOf_string_mk (P := Tryz.prog) Tryz.underlying9 (s := c) (by unfold maxLen; omega)) (entR_mk e)
  have hg := ht.grown
  have hR' := hR.put (hown.tidy keyed9) c e
  obtain ⟨w2, hrun2, hown2, ht2⟩ := hown'.drop keyed9 Tryz.underlying61 (WideMaps.keyOf_string_mk (P := Tryz.prog) Tryz.underlying9 (s := a) (by unfold maxLen; omega)) 0
  have hg2 := ht2.grown
  have hR2 := hR'.del (hown'.tidy keyed9) a
  have hb1 : w1.heap[b]? = w.heap[b]? := hg.block b h.lt (fun e => h.bm (Option.some.inj e))
  have hb2 : w2.heap[b]? = w1.heap[b]? := hg2.block b (Nat.lt_of_lt_of_le h.lt hg.size) (fun e => h.bm (Option.some.inj e))
  refine ⟨w1, w2, hrun, ?_, fun ty => hrun2, ⟨(hb2.trans hb1).trans h.blk, ⟨_, ownsMap_exact hown2 hR2.size, hR2⟩, ?_, h.hb, h.hm, hok⟩, (Turn.map hg).trans (Turn.map hg2)⟩
  · rw [World.cell?_of_block (a := ⟨b, 3, none⟩) hb1]; exact h.c3
  · exact (h.row.kept hg (.inr h.vm)).kept hg2 (.inr h.vm)

set_option maxRecDepth 20000 in
set_option maxHeartbeats 1000000 in
theorem move_any (f t : ByteArray) (w : World) (h : Store base b m v s w) (hf : f.size ≤ 1048577) (ht : t.size ≤ 1048577) (hn : s.now ≤ 2000000000000000000) :
    Calls Tryz.prog 30 #[ptr b, .string f, .string t] w fun e w' => e = .returned (.int .i64 (s.move f t).2) ∧ ∃ v', Store base b m v' (s.move f t).1 w' ∧ Turn b m v v' w w' := by
  have HP : Hid (Calls Tryz.prog 40 #[ptr b, .string f] w fun e w' => e = .returned (placeV (wh f)) ∧ Below w.heap.size w w') := place_any f w h (by omega)
  have HP2 : Hid (∀ W, Below w.heap.size w W → Calls Tryz.prog 40 #[ptr b, .string t] W fun e w' => e = .returned (placeV (wh t)) ∧ Below W.heap.size W w') := fun W hB => place_any t W (h.below hB) (by omega)
  have HS : Hid (∀ W, Below w.heap.size w W → Store base b m v s W) := fun W hB => h.below hB
  unfold St.move
  cases hw : wh f with
  | none =>
    rw [hw] at HP
    unfold placeV at HP
    clear hw h
    go_enter Tryz.func30, Tryz.ntmps30
    go_wp2_with fail
    refine HP.out.mono ?_
    rintro e w1 ⟨rfl, hb1⟩
    go_wp2
    go_ret
    exact ⟨rfl, v, HS.out _ hb1, Turn.of_below hb1⟩
  | some a =>
    rw [hw] at HP
    unfold placeV at HP
    have has := wh_size hw
    dsimp only
    cases hw2 : wh t with
    | none =>
      rw [hw2] at HP2
      unfold placeV at HP2
      clear hw hw2 h
      go_enter Tryz.func30, Tryz.ntmps30
      go_wp2_with fail
      refine HP.out.mono ?_
      rintro e w1 ⟨rfl, hb1⟩
      go_wp2_with fail
      refine (HP2.out w1 hb1).mono ?_
      rintro e w2 ⟨rfl, hb2⟩
      have hbb := hb1.trans (hb2.mono hb1.size)
      clear hb1 hb2
      go_wp2
      go_ret
      exact ⟨rfl, v, HS.out _ hbb, Turn.of_below hbb⟩
    | some c =>
      rw [hw2] at HP2
      unfold placeV at HP2
      have hcs := wh_size hw2
      dsimp only
      have HM : Hid (∀ W, Below w.heap.size w W → Calls Tryz.prog 53 #[ptr b, .string a, .string c] W fun e w' => e = .returned (.int .i64 (s.mayMove a c)) ∧ Below W.heap.size W w') := fun W hB => mayMove_any a c W (h.below hB) (by omega) (by omega)
      obtain ⟨r, hr⟩ : ∃ r, r = s.mayMove a c := ⟨_, rfl⟩
      rw [← hr] at HM ⊢
      by_cases h0 : r = 0
      · have hla : (s.L.look a).isSome = true := by
          rw [h0] at hr
          unfold St.mayMove at hr
          cases hl : s.L.look a with
          | none => rw [hl] at hr; cases hr
          | some o => rfl
        have hok : a ≠ c → St.Ok { s with now := s.now + 1, L := (s.L.set c ⟨s.text a, s.now + 1, false⟩).del a } := fun hne => move_ok h.ok (wh_wh hw2) (by omega) hne hla
        have HT : Hid (∀ W, Store base b m v s W → Calls Tryz.prog 52 #[ptr b] W fun e w' => e = .returned (.int .i64 (s.now + 1)) ∧ Store base b m v { s with now := s.now + 1 } w' ∧ Turn b m v v W w') := fun W h => tick_st W h hn
        subst h0
        rw [if_neg (by simp)]
        clear hr hla
        by_cases hac : a = c
        · rw [if_pos hac]
          subst hac
          obtain ⟨t1, ht1⟩ : ∃ t1, t1 = s.now + 1 := ⟨_, rfl⟩
          obtain ⟨s1, hs1⟩ : ∃ s1 : St, s1 = { s with now := s.now + 1 } := ⟨_, rfl⟩
          rw [← hs1, ← ht1] at HT
          rw [← hs1]
          clear hok hw hw2 h hs1 ht1
          go_enter Tryz.func30, Tryz.ntmps30
          go_wp2_with fail
          refine HP.out.mono ?_
          rintro e w1 ⟨rfl, hb1⟩
          go_wp2_with fail
          refine (HP2.out w1 hb1).mono ?_
          rintro e w2 ⟨rfl, hb2⟩
          have hbb := hb1.trans (hb2.mono hb1.size)
          clear hb1 hb2
          go_wp2_with fail
          refine (HM.out w2 hbb).mono ?_
          rintro e w3 ⟨rfl, hb3⟩
          have hbb3 := hbb.trans (hb3.mono hbb.size)
          clear hb3 hbb
          go_wp2_with fail
          refine (HT.out w3 (HS.out w3 hbb3)).mono ?_
          rintro e w4 ⟨rfl, hst4, ht4⟩
          have HE : Hid (Store base b m v s1 w4 ∧ Turn b m v v w w4) := ⟨hst4, (Turn.of_below hbb3).trans ht4⟩
          clear hst4 ht4 hbb3
          go_wp2
          go_ret
          exact ⟨rfl, v, HE.out.1, HE.out.2⟩
        · rw [if_neg hac]
          have hokk := hok hac
          have HQ : Hid (∀ W, Store base b m v { s with now := s.now + 1 } W → (Instr.lookup 61 (.map (some m)) (.string a) false).run Tryz.prog W = .ok (.agg #[.string (s.text a), .int .i64 (gotE s.L a).time, .bool (gotE s.L a).dir]) W) := fun W hW => by
            have := hW.map.see1 (q := a) (by omega) W rfl
            rw [← got_text]
            exact this
          have HU : Hid (∀ W, Store base b m v { s with now := s.now + 1 } W → ∃ W1 W2, (Instr.mapUpdate 61 (.map (some m)) (.string c) (.agg #[.string (s.text a), .int .i64 (s.now + 1), .bool false])).run Tryz.prog W = .ok () W1 ∧ W1.cell? ⟨b, 3, none⟩ = some (.map (some m)) ∧ (∀ ty, (Builtin.delete_ #[61, 9] ty #[.map (some m), .string a]).run Tryz.prog W1 = .ok (.tuple #[]) W2) ∧ Store base b m v { s with now := s.now + 1, L := (s.L.set c ⟨s.text a, s.now + 1, false⟩).del a } W2 ∧ Turn b m v v W W2) :=
            fun W hW => hW.carry (by omega) (by omega) ⟨s.text a, s.now + 1, false⟩ hokk
          have HN : Hid (∀ W, Store base b m v { s with now := s.now + 1, L := (s.L.set c ⟨s.text a, s.now + 1, false⟩).del a } W → Calls Tryz.prog 49 #[ptr b, .int .i64 3, .string a] W fun e w' => e = .returned (.tuple #[]) ∧ ∃ v', Store base b m v' (St.note { s with now := s.now + 1, L := (s.L.set c ⟨s.text a, s.now + 1, false⟩).del a } 3 a) w' ∧ Turn b m v v' W w') := fun W hW => note_any 3 a W hW
          have t1 : ¬ a.toList = c.toList := by rw [Lib.toList_data, Lib.toList_data]; exact fun e => hac (bl_inj e)
          have t1' : (a.toList == c.toList) = false := by simpa using t1
          obtain ⟨tx, htx⟩ : ∃ tx, tx = s.text a := ⟨_, rfl⟩
          obtain ⟨tm, htm⟩ : ∃ tm, tm = (gotE s.L a).time := ⟨_, rfl⟩
          obtain ⟨td, htd⟩ : ∃ td, td = (gotE s.L a).dir := ⟨_, rfl⟩
          obtain ⟨n1, hn1⟩ : ∃ n1, n1 = s.now + 1 := ⟨_, rfl⟩
          obtain ⟨s1, hs1⟩ : ∃ s1 : St, s1 = { s with now := s.now + 1 } := ⟨_, rfl⟩
          obtain ⟨s2, hs2⟩ : ∃ s2 : St, s2 = { s with now := s.now + 1, L := (s.L.set c ⟨s.text a, s.now + 1, false⟩).del a } := ⟨_, rfl⟩
          rw [← hs1, ← hs2, ← htx, ← hn1] at HU
          rw [← hs1, ← htx, ← htm, ← htd] at HQ
          rw [← hs1, ← hn1] at HT
          rw [← hs2] at HN ⊢
          have HN2 : Hid (∀ v' W, Store base b m v' (s2.note 3 a) W → Calls Tryz.prog 49 #[ptr b, .int .i64 2, .string c] W fun e w' => e = .returned (.tuple #[]) ∧ ∃ v'', Store base b m v'' ((s2.note 3 a).note 2 c) w' ∧ Turn b m v' v'' W w') := fun v' W hW => note_any 2 c W hW
          clear hok hokk hw hw2 h hs1 hs2 htx htm htd hn1 hac
          go_enter Tryz.func30, Tryz.ntmps30
          go_wp2_with fail
          refine HP.out.mono ?_
          rintro e w1 ⟨rfl, hb1⟩
          go_wp2_with fail
          refine (HP2.out w1 hb1).mono ?_
          rintro e w2 ⟨rfl, hb2⟩
          have hbb := hb1.trans (hb2.mono hb1.size)
          clear hb1 hb2
          go_wp2_with fail
          refine (HM.out w2 hbb).mono ?_
          rintro e w3 ⟨rfl, hb3⟩
          have hbb3 := hbb.trans (hb3.mono hbb.size)
          clear hb3 hbb
          go_wp2_with fail
          refine (HT.out w3 (HS.out w3 hbb3)).mono ?_
          rintro e w4 ⟨rfl, hst4, ht4⟩
          have c3 := hst4.c3
          have HE : Hid (Store base b m v s1 w4.drew ∧ Turn b m v v w w4) := ⟨hst4.drew, (Turn.of_below hbb3).trans ht4⟩
          obtain ⟨w5, w6, hup, hc5, hdel, hst6, ht6⟩ := HU.out w4.drew HE.out.1
          have hlk := HQ.out w4.drew HE.out.1
          have hf0 := fun W => field0 tx tm td W
          have HE6 : Hid (Store base b m v s2 w6 ∧ Turn b m v v w w6) := ⟨hst6, HE.out.2.trans ((Turn.of_below (Below.refl _ _).drew).trans ht6)⟩
          have HC : Hid (w5.cell? ⟨b, 3, none⟩ = some (.map (some m)) ∧ w4.drew.cell? ⟨b, 3, none⟩ = some (.map (some m))) := ⟨hc5, HE.out.1.c3⟩
          clear hst4 ht4 hbb3 hst6 ht6 HE
          go_wp2
          go_region_held3 (fun W => W.cell? ⟨b, 3, none⟩ = some (.map (some m)))
            (first | exact HC.out.2 | exact HC.out.1) (fail)
          go_wp2_with fail
          refine (HN.out w6 HE6.out.1).mono ?_
          rintro e w7 ⟨rfl, v7, hst7, ht7⟩
          have HE7 : Hid (Store base b m v7 (s2.note 3 a) w7 ∧ Turn b m v v7 w w7) := ⟨hst7, HE6.out.2.trans ht7⟩
          clear hst7 ht7 HE6 hup hc5 hdel hlk c3
          go_wp2_with fail
          refine (HN2.out v7 w7 HE7.out.1).mono ?_
          rintro e w8 ⟨rfl, v8, hst8, ht8⟩
          have HE8 : Hid (Store base b m v8 ((s2.note 3 a).note 2 c) w8 ∧ Turn b m v v8 w w8) := ⟨hst8, HE7.out.2.trans ht8⟩
          clear hst8 ht8 HE7
          go_wp2
          go_ret
          exact ⟨rfl, v8, HE8.out.1, HE8.out.2⟩
      · rw [if_pos h0]
        have h0' : (r == 0) = false := by simpa using h0
        clear hr hw hw2 h
        go_enter Tryz.func30, Tryz.ntmps30
        go_wp2_with fail
        refine HP.out.mono ?_
        rintro e w1 ⟨rfl, hb1⟩
        go_wp2_with fail
        refine (HP2.out w1 hb1).mono ?_
        rintro e w2 ⟨rfl, hb2⟩
        have hbb := hb1.trans (hb2.mono hb1.size)
        clear hb1 hb2
        go_wp2_with fail
        refine (HM.out w2 hbb).mono ?_
        rintro e w3 ⟨rfl, hb3⟩
        have hbb3 := hbb.trans (hb3.mono hbb.size)
        clear hb3 hbb
        go_wp2
        go_ret
        exact ⟨rfl, v, HS.out _ hbb3, Turn.of_below hbb3⟩
end
end Go.Proofs.YtoibdokedhbjpaaGreat
