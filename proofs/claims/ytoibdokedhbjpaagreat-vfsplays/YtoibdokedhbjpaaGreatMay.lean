/-
  Why a file of so many bytes may not be written.
-/
import Derived.Test.YtoibdokedhbjpaaGreatNote
import Derived.Test.YtoibdokedhbjpaaGreatNames
namespace Go.Proofs.YtoibdokedhbjpaaGreat
open Go.RowKit Go.Shelf Go.Maps

theorem Files.count {w : World} {m : Nat} {L : Fs} (h : Files w m L) (W : World) (hW : W.heap[m]? = w.heap[m]?) (ty : TypeId) :
    (Builtin.len_ #[61] ty #[.map (some m)]).run Tryz.prog W = .ok (.int .i64 L.length) W := by
  obtain ⟨D, hown, hR⟩ := h.of_block hW
  rw [hown.len Tryz.underlying61 ty, hR.size]
theorem got_size (L : Fs) (q : ByteArray) : (gotE L q).text.size ≤ L.used := by
  unfold gotE
  cases h : L.look q with
  | none => exact Nat.zero_le _
  | some e => exact Fs.used_mem (Fs.look_mem h)
theorem below_in {w1 w3 : World} {o : Obj} (h : Below (w1.alloc o).drew.heap.size (w1.alloc o).drew w3) : Below (w1.heap.size + 1) (w1.alloc o) w3 := by
  have h2 : Below (w1.heap.size + 1) (w1.alloc o) (w1.alloc o).drew := (Below.refl _ _).drew
  exact h2.trans (h.mono (by simp))
theorem below_of {w1 w3 : World} {o : Obj} (h : Below (w1.heap.size + 1) (w1.alloc o) w3) : Below w1.heap.size w1 w3 :=
  ((Below.refl _ w1).alloc (Nat.le_refl _) o).trans (h.mono (by omega))

theorem wrapI {x : Int} (h0 : -9223372036854775808 ≤ x) (h1 : x < 9223372036854775808) : IntKind.i64.wrap x = x := by
  simp only [IntKind.wrap_i64]; omega

/-- The program's word of the same. -/
def may (home : Int) (t dir : Bool) (room : Int) (U os n len : Nat) : Int :=
  if home ≠ 0 then home else if dir then 8 else if 65536 < n then 5 else if room < (U : Int) - os + n then 9 else if t = false ∧ 512 ≤ len then 9 else 0
theorem may_put (s : St) (q : ByteArray) (n : Nat) : s.mayPut q n = may (s.home q) (s.L.look q).isSome (gotE s.L q).dir s.room s.L.used (gotE s.L q).text.size n s.L.length := by
  unfold St.mayPut may gotE
  cases h : s.L.look q with
  | none =>
    simp only [Option.getD_none, noE, Option.isSome_none, true_and]
    split
    · rfl
    · have e0 : (E : ByteArray).size = 0 := rfl
      rw [e0]
      simp
  | some o =>
    simp only [Option.getD_some, Option.isSome_some]
    split
    · rfl
    · simp

set_option maxRecDepth 20000 in
set_option maxHeartbeats 1000000 in
theorem mayPut_any {base b m : Nat} {v : Value} {s : St} (q : ByteArray) (n : Nat) (w : World) (h : Store base b m v s w) (hq : q.size ≤ 1100000) (hn : n ≤ 1000000000000000) :
    Calls Tryz.prog 70 #[ptr b, .string q, .int .i64 n] w fun e w' => e = .returned (.int .i64 (s.mayPut q n)) ∧ Below w.heap.size w w' := by
  have HL : Hid (Calls Tryz.prog 54 #[ptr b, .string q] w fun e w' => e = .returned (.int .i64 (s.home q)) ∧ Below w.heap.size w w') := mayLie_any q w h hq
  obtain ⟨ho, hho⟩ : ∃ ho, ho = s.home q := ⟨_, rfl⟩
  obtain ⟨e0, he0⟩ : ∃ e0, e0 = gotE s.L q := ⟨_, rfl⟩
  obtain ⟨t0, ht0⟩ : ∃ t0, t0 = (s.L.look q).isSome := ⟨_, rfl⟩
  obtain ⟨U, hU⟩ : ∃ U, U = s.L.used := ⟨_, rfl⟩
  obtain ⟨len, hlen⟩ : ∃ len, len = s.L.length := ⟨_, rfl⟩
  have hos := got_size s.L q
  have HM : Hid (s.mayPut q n = may ho t0 e0.dir s.room U e0.text.size n len) := by rw [hho, he0, ht0, hU, hlen]; exact may_put s q n
  have HS : Hid (∀ W, Below w.heap.size w W → Store base b m v s W) := fun W hB => h.below hB
  have HQ : Hid (∀ W, Below w.heap.size w W → (Instr.lookup 61 (.map (some m)) (.string q) true).run Tryz.prog W = .ok (.tuple #[.agg #[.string e0.text, .int .i64 e0.time, .bool e0.dir], .bool t0]) W) :=
    fun W hB => (sees h (by omega) (by rw [he0, ht0]; rfl) W hB).2.2
  have hU2 : U ≤ 1048576 := by have h1 := h.ok.used; have h2 := h.ok.room1; omega
  have hr0 := h.ok.room0
  have hr1 := h.ok.room1
  have hl5 := h.ok.len
  have HUs : Hid (∀ W, Below w.heap.size w W → Calls Tryz.prog 15 #[ptr b] W fun e w' => e = .returned (.int .i64 U) ∧ Below W.heap.size W w') := fun W hB => by rw [hU]; exact used_any W (h.below hB)
  have HCt : Hid (∀ W, Below w.heap.size w W → ∀ ty, (Builtin.len_ #[61] ty #[.map (some m)]).run Tryz.prog W = .ok (.int .i64 len) W) := fun W hB ty => by rw [hlen]; exact h.map.count W (hB.block m h.ltm) ty
  rw [← hho] at HL
  rw [← he0, ← hU] at hos
  rw [← hlen] at hl5
  obtain ⟨room, hroom⟩ : ∃ room, room = s.room := ⟨_, rfl⟩
  rw [← hroom] at HM hr0 hr1
  have HC1 : Hid (∀ W, Below w.heap.size w W → W.cell? ⟨b, 1, none⟩ = some (.int .i64 room)) := fun W hB => by rw [hroom]; exact (h.below hB).c1
  obtain ⟨tx, tm, td⟩ := e0
  simp only at HM HQ hos
  clear hho he0 ht0 hU hlen h hroom
  unfold may at HM
  by_cases h0 : ho = 0
  · subst h0
    rw [if_neg (by simp)] at HM
    cases td with
    | true =>
      rw [if_pos rfl] at HM
      go_enter Tryz.func70, Tryz.ntmps70
      go_wp2_with fail
      refine HL.out.mono ?_
      rintro e w1 ⟨rfl, hb1⟩
      have c3 := (HS.out w1 hb1).c3
      have hlk := HQ.out w1 hb1
      go_wp2
      go_ret
      exact ⟨ret_int HM.out.symm, hb1.alloc hb1.size _⟩
    | false =>
      rw [if_neg (by simp)] at HM
      by_cases hbig : 65536 < n
      · rw [if_pos hbig] at HM
        have hbi : (65536 : Int) < (n : Int) := by omega
        go_enter Tryz.func70, Tryz.ntmps70
        go_wp2_with fail
        refine HL.out.mono ?_
        rintro e w1 ⟨rfl, hb1⟩
        have c3 := (HS.out w1 hb1).c3
        have hlk := HQ.out w1 hb1
        go_wp2
        go_ret
        exact ⟨ret_int HM.out.symm, hb1.alloc hb1.size _⟩
      · rw [if_neg hbig] at HM
        have hbi : ¬ (65536 : Int) < (n : Int) := by omega
        have hn2 : n ≤ 65536 := by omega
        clear hbig hn
        obtain ⟨os, hose⟩ : ∃ os, os = tx.size := ⟨_, rfl⟩
        go_enter Tryz.func70, Tryz.ntmps70
        go_wp2_with fail
        refine HL.out.mono ?_
        rintro e w1 ⟨rfl, hb1⟩
        have c3 := (HS.out w1 hb1).c3
        have hlk := HQ.out w1 hb1
        have HSW : Hid (∀ W, Below (w1.heap.size + 1) (w1.alloc (.cells #[.string tx, .int .i64 tm, .bool false] 60)) W → Below (w1.heap.size + 1) (w1.alloc (.cells #[.string tx, .int .i64 tm, .bool false] 60)) W ∧ W.cell? ⟨w1.heap.size, 0, none⟩ = some (.string tx) ∧ W.cell? ⟨b, 1, none⟩ = some (.int .i64 room)) := fun W hB =>
          ⟨hB, by rw [hB.cell (p := ⟨w1.heap.size, 0, none⟩) (by simp)]; simp, HC1.out W (hb1.trans ((below_of hB).mono hb1.size))⟩
        go_wp2
        go_region_held3 (fun W => Below (w1.heap.size + 1) (w1.alloc (.cells #[.string tx, .int .i64 tm, .bool false] 60)) W ∧ W.cell? ⟨w1.heap.size, 0, none⟩ = some (.string tx) ∧ W.cell? ⟨b, 1, none⟩ = some (.int .i64 room))
          (first | exact HSW.out _ (Below.refl _ _).drew | exact HSW.out _ (below_in (by assumption)))
          (first | (go_at_call 15; refine (HUs.out _ (hb1.trans ((below_of (Below.refl _ _).drew).mono hb1.size))).mono ?_; rintro e w3 ⟨rfl, hb3⟩))
        have hbb : Below w.heap.size w w3 := hb1.trans ((below_of (below_in hb3)).mono hb1.size)
        have e1 := wrapI (x := (U : Int) - tx.size) (by omega) (by omega)
        have e2 := wrapI (x := (U : Int) - tx.size + n) (by omega) (by omega)
        rw [e1, e2]
        have d3 := (HS.out w3 hbb).c3
        have hct := HCt.out w3 hbb
        clear e1 e2 hb3 HSW hlk c3
        by_cases hroom : room < (U : Int) - tx.size + n
        · rw [if_pos hroom] at HM
          go_wp2
          go_ret
          exact ⟨ret_int HM.out.symm, hbb⟩
        · rw [if_neg hroom] at HM
          have hroom' : decide (room < (U : Int) - tx.size + n) = false := by simpa using hroom
          rw [hroom']
          cases t0 with
          | true =>
            rw [if_neg (by simp)] at HM
            go_wp2
            go_ret
            exact ⟨ret_int HM.out.symm, hbb⟩
          | false =>
            by_cases hfull : 512 ≤ len
            · rw [if_pos ⟨rfl, hfull⟩] at HM
              have hfi : (512 : Int) ≤ (len : Int) := by omega
              go_wp2
              go_ret
              exact ⟨ret_int HM.out.symm, hbb⟩
            · rw [if_neg (by simp [hfull])] at HM
              have hfi : ¬ (512 : Int) ≤ (len : Int) := by omega
              go_wp2
              go_ret
              exact ⟨ret_int HM.out.symm, hbb⟩
  · rw [if_pos h0] at HM
    have h0' : (ho == 0) = false := by simpa using h0
    go_enter Tryz.func70, Tryz.ntmps70
    go_wp2_with fail
    refine HL.out.mono ?_
    rintro e w1 ⟨rfl, hb1⟩
    go_wp2
    go_ret
    exact ⟨ret_int HM.out.symm, hb1⟩
end Go.Proofs.YtoibdokedhbjpaaGreat
