/-
  What Write, Append, Touch, Stat and Read answer and leave.
-/
import Derived.Test.YtoibdokedhbjpaaGreatPut
namespace Go.Proofs.YtoibdokedhbjpaaGreat
open Go.RowKit Go.Shelf Go.Maps

theorem Files.see1 {w : World} {m : Nat} {L : Fs} (h : Files w m L) {q : ByteArray} (hq : q.size ≤ 140737488355328) (W : World) (hW : W.heap[m]? = w.heap[m]?) :
    (Instr.lookup 61 (.map (some m)) (.string q) false).run Tryz.prog W = .ok (entV (gotE L q)) W := by
  obtain ⟨D, hown, hR⟩ := h.of_block hW
  obtain ⟨v, ps, hrun, hv⟩ := hown.lookup keyed9 Tryz.underlying61 (zeroEnt W) (entR_mk noE) (WideMaps.keyOf_string_mk (P := Tryz.prog) Tryz.underlying9 (s := q) (by unfold maxLen; omega))
  obtain ⟨e, rfl, he⟩ := entR_inv hv
  have h2 : D.atKey (keyL q) (entD noE) = entD e := congrArg Prod.fst he
  rw [hR.got] at h2
  rw [hrun, ← entD_inj h2]
theorem field0 (tx : ByteArray) (tm : Int) (td : Bool) (W : World) : (Instr.field 60 (.agg #[.string tx, .int .i64 tm, .bool td]) 0).run Tryz.prog W = .ok (.string tx) W := by kernel_rfl
theorem field2 (tx : ByteArray) (tm : Int) (td : Bool) (W : World) : (Instr.field 60 (.agg #[.string tx, .int .i64 tm, .bool td]) 2).run Tryz.prog W = .ok (.bool td) W := by kernel_rfl
theorem wh_size {p q : ByteArray} (h : wh p = some q) : q.size ≤ p.size + 1 := by
  obtain ⟨rfl, _⟩ := wh_some h
  exact cl_size p
theorem got_text (s : St) (q : ByteArray) : (gotE s.L q).text = s.text q := by
  unfold gotE St.text
  cases s.L.look q <;> rfl
theorem E_app (x : ByteArray) : E ++ x = x := by
  apply bl_inj; simp [bl]
theorem app_E (x : ByteArray) : x ++ E = x := by
  apply bl_inj; simp [bl]

section
variable {base b m : Nat} {v : Value} {s : St}

set_option maxRecDepth 20000 in
set_option maxHeartbeats 400000 in
theorem write_any (p x : ByteArray) (w : World) (h : Store base b m v s w) (hp : p.size ≤ 1048577) (hx : x.size ≤ 140737488355328) (hn : s.now ≤ 2000000000000000000) :
    Calls Tryz.prog 25 #[ptr b, .string p, .string x] w fun e w' => e = .returned (.int .i64 (s.write p x).2) ∧ ∃ v', Store base b m v' (s.write p x).1 w' ∧ Turn b m v v' w w' := by
  have HP : Hid (Calls Tryz.prog 40 #[ptr b, .string p] w fun e w' => e = .returned (placeV (wh p)) ∧ Below w.heap.size w w') := place_any p w h (by omega)
  have HS : Hid (∀ W, Below w.heap.size w W → Store base b m v s W) := fun W hB => h.below hB
  clear h
  unfold St.write
  cases hw : wh p with
  | none =>
    rw [hw] at HP
    unfold placeV at HP
    clear hw
    go_enter Tryz.func25, Tryz.ntmps25
    go_wp2_with fail
    refine HP.out.mono ?_
    rintro e w1 ⟨rfl, hb1⟩
    go_wp2
    go_ret
    exact ⟨rfl, v, HS.out _ hb1, Turn.of_below hb1⟩
  | some q =>
    rw [hw] at HP
    unfold placeV at HP
    have hqs := wh_size hw
    have HU : Hid (∀ W, Store base b m v s W → Calls Tryz.prog 51 #[ptr b, .string q, .string ⟨#[]⟩, .string x] W fun e w' => e = .returned (.int .i64 (s.put q x).2) ∧ ∃ v', Store base b m v' (s.put q x).1 w' ∧ Turn b m v v' W w') := fun W hW => by
      have := put_any q E x W hW (wh_wh hw) (by omega) (by decide) hx hn
      rw [E_app] at this
      exact this
    clear hw
    go_enter Tryz.func25, Tryz.ntmps25
    go_wp2_with fail
    refine HP.out.mono ?_
    rintro e w1 ⟨rfl, hb1⟩
    go_wp2_with fail
    refine (HU.out w1 (HS.out w1 hb1)).mono ?_
    rintro e w2 ⟨rfl, v', hst2, ht2⟩
    have HE : Hid (Store base b m v' (s.put q x).1 w2 ∧ Turn b m v v' w w2) := ⟨hst2, (Turn.of_below hb1).trans ht2⟩
    clear hst2 ht2
    go_wp2
    go_ret
    exact ⟨rfl, v', HE.out.1, HE.out.2⟩

set_option maxRecDepth 20000 in
set_option maxHeartbeats 400000 in
theorem append_any (p x : ByteArray) (w : World) (h : Store base b m v s w) (hp : p.size ≤ 1048577) (hx : x.size ≤ 140737488355328) (hn : s.now ≤ 2000000000000000000) :
    Calls Tryz.prog 28 #[ptr b, .string p, .string x] w fun e w' => e = .returned (.int .i64 (s.append p x).2) ∧ ∃ v', Store base b m v' (s.append p x).1 w' ∧ Turn b m v v' w w' := by
  have HP : Hid (Calls Tryz.prog 40 #[ptr b, .string p] w fun e w' => e = .returned (placeV (wh p)) ∧ Below w.heap.size w w') := place_any p w h (by omega)
  have HS : Hid (∀ W, Below w.heap.size w W → Store base b m v s W) := fun W hB => h.below hB
  unfold St.append
  cases hw : wh p with
  | none =>
    rw [hw] at HP
    unfold placeV at HP
    clear hw h
    go_enter Tryz.func28, Tryz.ntmps28
    go_wp2_with fail
    refine HP.out.mono ?_
    rintro e w1 ⟨rfl, hb1⟩
    go_wp2
    go_ret
    exact ⟨rfl, v, HS.out _ hb1, Turn.of_below hb1⟩
  | some q =>
    rw [hw] at HP
    unfold placeV at HP
    have hqs := wh_size hw
    have hts : (gotE s.L q).text.size ≤ 1048576 := by have h1 := got_size s.L q; have h2 := h.ok.used; have h3 := h.ok.room1; omega
    have HU : Hid (∀ W, Store base b m v s W → Calls Tryz.prog 51 #[ptr b, .string q, .string (gotE s.L q).text, .string x] W fun e w' => e = .returned (.int .i64 (s.put q (s.text q ++ x)).2) ∧ ∃ v', Store base b m v' (s.put q (s.text q ++ x)).1 w' ∧ Turn b m v v' W w') := fun W hW => by
      have := put_any q (gotE s.L q).text x W hW (wh_wh hw) (by omega) (by omega) hx hn
      rw [got_text] at this ⊢
      exact this
    have HQ : Hid (∀ W, Below w.heap.size w W → (Instr.lookup 61 (.map (some m)) (.string q) false).run Tryz.prog W = .ok (.agg #[.string (gotE s.L q).text, .int .i64 (gotE s.L q).time, .bool (gotE s.L q).dir]) W) := fun W hB => h.map.see1 (by omega) W (hB.block m h.ltm)
    obtain ⟨e0, he0⟩ : ∃ e0, e0 = gotE s.L q := ⟨_, rfl⟩
    rw [← he0] at HU HQ
    obtain ⟨tx, tm, td⟩ := e0
    simp only at HU HQ
    clear hw he0 h hts
    go_enter Tryz.func28, Tryz.ntmps28
    go_wp2_with fail
    refine HP.out.mono ?_
    rintro e w1 ⟨rfl, hb1⟩
    have c3 := (HS.out w1 hb1).c3
    have hlk := HQ.out w1 hb1
    have hf0 := field0 tx tm td w1
    go_wp2_with fail
    refine (HU.out w1 (HS.out w1 hb1)).mono ?_
    rintro e w2 ⟨rfl, v', hst2, ht2⟩
    have HE : Hid (Store base b m v' (s.put q (s.text q ++ x)).1 w2 ∧ Turn b m v v' w w2) := ⟨hst2, (Turn.of_below hb1).trans ht2⟩
    clear hst2 ht2 c3 hlk hf0
    go_wp2
    go_ret
    exact ⟨rfl, v', HE.out.1, HE.out.2⟩

def statV (r : Int × Bool × Int) : Value := .tuple #[.int .i64 r.1, .bool r.2.1, .int .i64 r.2.2]
def readV (r : ByteArray × Int) : Value := .tuple #[.string r.1, .int .i64 r.2]

set_option maxRecDepth 20000 in
set_option maxHeartbeats 400000 in
theorem stat_any (p : ByteArray) (w : World) (h : Store base b m v s w) (hp : p.size ≤ 1100000) :
    Calls Tryz.prog 13 #[ptr b, .string p] w fun e w' => e = .returned (statV (s.stat p)) ∧ Below w.heap.size w w' := by
  have HP : Hid (Calls Tryz.prog 40 #[ptr b, .string p] w fun e w' => e = .returned (placeV (wh p)) ∧ Below w.heap.size w w') := place_any p w h (by omega)
  have HS : Hid (∀ W, Below w.heap.size w W → Store base b m v s W) := fun W hB => h.below hB
  unfold St.stat
  cases hw : wh p with
  | none =>
    rw [hw] at HP
    unfold placeV at HP
    clear hw h
    go_enter Tryz.func13, Tryz.ntmps13
    go_wp2_with fail
    refine HP.out.mono ?_
    rintro e w1 ⟨rfl, hb1⟩
    go_wp2
    go_ret3
    exact ⟨rfl, hb1⟩
  | some q =>
    rw [hw] at HP
    unfold placeV at HP
    have hqs := wh_size hw
    have HQ : Hid (∀ W, Below w.heap.size w W → (Instr.lookup 61 (.map (some m)) (.string q) true).run Tryz.prog W = .ok (.tuple #[.agg #[.string (gotE s.L q).text, .int .i64 (gotE s.L q).time, .bool (gotE s.L q).dir], .bool (s.L.look q).isSome]) W) := fun W hB => h.map.see (by omega) W (hB.block m h.ltm)
    unfold gotE at HQ
    clear hw h
    dsimp only
    cases hl : s.L.look q with
    | none =>
      rw [hl] at HQ
      simp only [Option.getD_none, noE, Option.isSome_none] at HQ ⊢
      clear hl
      go_enter Tryz.func13, Tryz.ntmps13
      go_wp2_with fail
      refine HP.out.mono ?_
      rintro e w1 ⟨rfl, hb1⟩
      have c3 := (HS.out w1 hb1).c3
      have hlk := HQ.out w1 hb1
      go_wp2
      go_ret3
      exact ⟨rfl, hb1.alloc hb1.size _⟩
    | some o =>
      rw [hl] at HQ
      simp only [Option.getD_some, Option.isSome_some] at HQ ⊢
      obtain ⟨tx, tm, td⟩ := o
      simp only at HQ ⊢
      clear hl
      go_enter Tryz.func13, Tryz.ntmps13
      go_wp2_with fail
      refine HP.out.mono ?_
      rintro e w1 ⟨rfl, hb1⟩
      have c3 := (HS.out w1 hb1).c3
      have hlk := HQ.out w1 hb1
      go_wp2
      go_quiet (fail)
      go_wp2
      go_ret3
      exact ⟨rfl, below_drewN (hb1.alloc hb1.size _) _⟩

set_option maxRecDepth 20000 in
set_option maxHeartbeats 400000 in
theorem read_any (p : ByteArray) (w : World) (h : Store base b m v s w) (hp : p.size ≤ 1100000) :
    Calls Tryz.prog 23 #[ptr b, .string p] w fun e w' => e = .returned (readV (s.read p).2) ∧ ∃ v', Store base b m v' (s.read p).1 w' ∧ Turn b m v v' w w' := by
  have HP : Hid (Calls Tryz.prog 40 #[ptr b, .string p] w fun e w' => e = .returned (placeV (wh p)) ∧ Below w.heap.size w w') := place_any p w h (by omega)
  have HS : Hid (∀ W, Below w.heap.size w W → Store base b m v s W) := fun W hB => h.below hB
  unfold St.read
  cases hw : wh p with
  | none =>
    rw [hw] at HP
    unfold placeV at HP
    clear hw h
    go_enter Tryz.func23, Tryz.ntmps23
    go_wp2_with fail
    refine HP.out.mono ?_
    rintro e w1 ⟨rfl, hb1⟩
    go_wp2
    go_ret2
    exact ⟨rfl, v, HS.out _ hb1, Turn.of_below hb1⟩
  | some q =>
    rw [hw] at HP
    unfold placeV at HP
    have hqs := wh_size hw
    have HQ : Hid (∀ W, Below w.heap.size w W → (Instr.lookup 61 (.map (some m)) (.string q) true).run Tryz.prog W = .ok (.tuple #[.agg #[.string (gotE s.L q).text, .int .i64 (gotE s.L q).time, .bool (gotE s.L q).dir], .bool (s.L.look q).isSome]) W) := fun W hB => h.map.see (by omega) W (hB.block m h.ltm)
    unfold gotE at HQ
    clear hw h
    dsimp only
    cases hl : s.L.look q with
    | none =>
      rw [hl] at HQ
      simp only [Option.getD_none, noE, Option.isSome_none] at HQ ⊢
      clear hl
      go_enter Tryz.func23, Tryz.ntmps23
      go_wp2_with fail
      refine HP.out.mono ?_
      rintro e w1 ⟨rfl, hb1⟩
      have c3 := (HS.out w1 hb1).c3
      have hlk := HQ.out w1 hb1
      go_wp2
      go_ret2
      exact ⟨rfl, v, HS.out _ (hb1.alloc hb1.size _), Turn.of_below (hb1.alloc hb1.size _)⟩
    | some o =>
      rw [hl] at HQ
      simp only [Option.getD_some, Option.isSome_some] at HQ ⊢
      obtain ⟨tx, tm, td⟩ := o
      simp only at HQ ⊢
      clear hl
      cases td with
      | true =>
        try simp only [if_true]
        go_enter Tryz.func23, Tryz.ntmps23
        go_wp2_with fail
        refine HP.out.mono ?_
        rintro e w1 ⟨rfl, hb1⟩
        have c3 := (HS.out w1 hb1).c3
        have hlk := HQ.out w1 hb1
        go_wp2
        go_ret2
        exact ⟨rfl, v, HS.out _ (hb1.alloc hb1.size _), Turn.of_below (hb1.alloc hb1.size _)⟩
      | false =>
        try simp only [Bool.false_eq_true, if_false]
        have HN : Hid (∀ W, Store base b m v s W → Calls Tryz.prog 49 #[ptr b, .int .i64 1, .string q] W fun e w' => e = .returned (.tuple #[]) ∧ ∃ v', Store base b m v' (s.note 1 q) w' ∧ Turn b m v v' W w') := fun W hW => note_any 1 q W hW
        go_enter Tryz.func23, Tryz.ntmps23
        go_wp2_with fail
        refine HP.out.mono ?_
        rintro e w1 ⟨rfl, hb1⟩
        have hst1 := HS.out w1 hb1
        have c3 := hst1.c3
        have hlk := HQ.out w1 hb1
        have HS1 : Hid (Store base b m v s w1 ∧ Below w.heap.size w w1) := ⟨hst1, hb1⟩
        clear hst1 hb1
        go_wp2_with fail
        refine (HN.out _ (HS1.out.1.below ((Below.refl _ _).alloc (Nat.le_refl _) _))).mono ?_
        rintro e w2 ⟨rfl, v', hst2, ht2⟩
        have hc : w2.cell? ⟨w1.heap.size, 0, none⟩ = some (.string tx) := by
          have h1 := HS1.out.1.lt
          have h2 := HS1.out.1.ltm
          have hblk := ht2.block w1.heap.size (by simp) (by omega) (by omega) (fun e => by have := (HS1.out.1.ltv _ e).2; omega)
          rw [World.cell?_of_block (a := ⟨w1.heap.size, 0, none⟩) hblk]; simp
        have HE : Hid (Store base b m v' (s.note 1 q) w2 ∧ Turn b m v v' w w2) := ⟨hst2, (Turn.of_below (HS1.out.2.alloc HS1.out.2.size _)).trans ht2⟩
        clear hst2 ht2 c3 hlk HS1
        go_wp2
        go_ret2
        exact ⟨rfl, v', HE.out.1, HE.out.2⟩
end
end Go.Proofs.YtoibdokedhbjpaaGreat
