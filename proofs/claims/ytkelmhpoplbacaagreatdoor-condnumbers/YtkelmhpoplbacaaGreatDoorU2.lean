/-
  What Get answers and give leaves.
-/
import Derived.Test.YtkelmhpoplbacaaGreatDoorU1
import Derived.Deep.RegionHeld3
namespace Go.Proofs.YtkelmhpoplbacaaGreatDoor.V
open Go.RowKit Go.Shelf Go.Maps

set_option maxHeartbeats 400000 in
theorem ready_any {base b : Nat} {m : Int → Nat} {s : VS} (w : World) (h : VSet base b m s w) :
    Calls Tryz.prog 39 #[ptr b] w fun e w' => e = .returned (.bool true) ∧ w = w' := by
  have c0 := h.c0
  clear h
  go_enter Tryz.func39, Tryz.ntmps39
  go_wp2
  go_ret
  exact ⟨rfl, rfl⟩

set_option maxHeartbeats 400000 in
theorem isScope_any (n : Int) (w : World) :
    Calls Tryz.prog 40 #[.int .i64 n] w fun e w' => e = .returned (.bool (isSc n)) ∧ w = w' := by
  by_cases h1 : 1 ≤ n
  · by_cases h2 : n ≤ 4
    · have HR : Hid (isSc n = true) := by unfold Hid isSc; simp [h1, h2]
      go_enter Tryz.func40, Tryz.ntmps40
      go_wp2
      go_ret
      exact ⟨ret_bool HR.out.symm, rfl⟩
    · have HR : Hid (isSc n = false) := by unfold Hid isSc; simp [h2]
      go_enter Tryz.func40, Tryz.ntmps40
      go_wp2
      go_ret
      exact ⟨ret_bool HR.out.symm, rfl⟩
  · have HR : Hid (isSc n = false) := by unfold Hid isSc; simp [h1]
    go_enter Tryz.func40, Tryz.ntmps40
    go_wp2
    go_ret
    exact ⟨ret_bool HR.out.symm, rfl⟩

theorem ret_map {a b : Option Nat} (h : a = b) : Ending.returned (.map a) = .returned (.map b) := by rw [h]
theorem ret_int {a b : Int} (h : a = b) : Ending.returned (.int .i64 a) = .returned (.int .i64 b) := by rw [h]
def mapAt (m : Int → Nat) (n : Int) : Option Nat := if isSc n then some (m n) else none

set_option maxHeartbeats 400000 in
theorem all_any {base b : Nat} {m : Int → Nat} {s : VS} (n : Int) (w : World) (h : VSet base b m s w) :
    Calls Tryz.prog 42 #[ptr b, .int .i64 n] w fun e w' => e = .returned (.map (mapAt m n)) ∧ w = w' := by
  have HR : Hid (Calls Tryz.prog 39 #[ptr b] w fun e w' => e = .returned (.bool true) ∧ w = w') := ready_any w h
  have HS : Hid (Calls Tryz.prog 40 #[.int .i64 n] w fun e w' => e = .returned (.bool (isSc n)) ∧ w = w') := isScope_any n w
  have c1 := h.c1
  have c2 := h.c2
  have c3 := h.c3
  have c4 := h.c4
  clear h
  cases hn : isSc n
  · have HM : Hid (mapAt m n = none) := by unfold Hid mapAt; rw [hn]; rfl
    rw [hn] at HS
    clear hn
    go_enter Tryz.func42, Tryz.ntmps42
    go_wp2_with fail
    refine HR.out.mono ?_
    rintro e w' ⟨rfl, rfl⟩
    go_wp2_with fail
    refine HS.out.mono ?_
    rintro e w' ⟨rfl, rfl⟩
    go_wp2
    go_ret
    exact ⟨ret_map HM.out.symm, rfl⟩
  · have HM : Hid (mapAt m n = some (m n)) := by unfold Hid mapAt; rw [hn]; rfl
    rw [hn] at HS
    rcases isSc_cases hn with rfl | rfl | rfl | rfl
    all_goals
      clear hn
      go_enter Tryz.func42, Tryz.ntmps42
      go_wp2_with fail
      refine HR.out.mono ?_
      rintro e w' ⟨rfl, rfl⟩
      go_wp2_with fail
      refine HS.out.mono ?_
      rintro e w' ⟨rfl, rfl⟩
      go_wp2
      go_ret
      exact ⟨ret_map HM.out.symm, rfl⟩


/-- A name's value, and whether it has one. -/
def optV (o : Option ByteArray) : Value := .tuple #[.string (o.getD E), .bool o.isSome]
theorem sees {base b : Nat} {m : Int → Nat} {s : VS} {w : World} (h : VSet base b m s w) (n : Int) {q : ByteArray} (hq : q.size ≤ 140737488355328) (W : World) (hB : Below w.heap.size w W) :
    (Instr.lookup 71 (.map (mapAt m n)) (.string q) true).run Tryz.prog W = .ok (.tuple #[entV (((s n).look q).getD E), .bool ((s n).look q).isSome]) W := by
  unfold mapAt
  cases hn : isSc n
  · rw [if_neg (by simp), see_nil hq, h.ok.out n hn]; rfl
  · rw [if_pos rfl]; exact (h.map n hn).see hq W (hB.block _ (h.ltm hn))

set_option maxHeartbeats 400000 in
theorem in_any {base b : Nat} {m : Int → Nat} {s : VS} (n : Int) (q : ByteArray) (w : World) (h : VSet base b m s w) (hq : q.size ≤ 140737488355328) :
    Calls Tryz.prog 84 #[ptr b, .int .i64 n, .string q] w fun e w' => e = .returned (optV ((s n).look q)) ∧ Below w.heap.size w w' := by
  have HA : Hid (Calls Tryz.prog 42 #[ptr b, .int .i64 n] w fun e w' => e = .returned (.map (mapAt m n)) ∧ w = w') := all_any n w h
  have HL := sees h n hq w (Below.refl _ _)
  obtain ⟨M, hM⟩ : ∃ M, M = mapAt m n := ⟨_, rfl⟩
  rw [← hM] at HA HL
  unfold optV
  obtain ⟨v, hv⟩ : ∃ v, v = ((s n).look q).getD E := ⟨_, rfl⟩
  obtain ⟨t, ht⟩ : ∃ t, t = ((s n).look q).isSome := ⟨_, rfl⟩
  rw [← hv, ← ht] at HL ⊢
  clear hM hv ht h
  go_enter Tryz.func84, Tryz.ntmps84
  go_wp2_with fail
  refine HA.out.mono ?_
  rintro e w' ⟨rfl, rfl⟩
  go_wp2
  go_ret2
  exact ⟨rfl, (Below.refl _ _).alloc (Nat.le_refl _) _⟩
end Go.Proofs.YtkelmhpoplbacaaGreatDoor.V
namespace Go.Proofs.YtkelmhpoplbacaaGreatDoor.V
open Go.RowKit Go.Shelf Go.Maps

/-- The first value from a scope on. -/
def getFrom (s : VS) (q : ByteArray) : Nat → Int → Option ByteArray
  | 0, _ => none
  | k + 1, n => match (s n).look q with | some v => some v | none => getFrom s q k (n + 1)
theorem getFrom_none {s : VS} {q : ByteArray} {k : Nat} {n : Int} (h : (s n).look q = none) : getFrom s q (k + 1) n = getFrom s q k (n + 1) := by
  show (match (s n).look q with | some v => some v | none => getFrom s q k (n + 1)) = _
  rw [h]
theorem get_from (s : VS) (q : ByteArray) : s.get q = getFrom s q 4 1 := by
  unfold VS.get getFrom
  cases (s 1).look q with
  | some v => rfl
  | none =>
    dsimp only
    unfold getFrom
    show _ = match (s 2).look q with | some v => some v | none => _
    cases (s 2).look q with
    | some v => rfl
    | none =>
      dsimp only
      unfold getFrom
      show _ = match (s 3).look q with | some v => some v | none => _
      cases (s 3).look q with
      | some v => rfl
      | none =>
        dsimp only
        unfold getFrom
        show _ = match (s 4).look q with | some v => some v | none => _
        cases (s 4).look q <;> rfl

set_option maxHeartbeats 800000 in
theorem get_any {base b : Nat} {m : Int → Nat} {s : VS} (q : ByteArray) (w : World) (h : VSet base b m s w) (hq : q.size ≤ 140737488355328) :
    Calls Tryz.prog 57 #[ptr b, .string q] w fun e w' => e = .returned (optV (s.get q)) ∧ Below w.heap.size w w' := by
  have HI : Hid (∀ n W, Below w.heap.size w W → Calls Tryz.prog 84 #[ptr b, .int .i64 n, .string q] W fun e w' => e = .returned (optV ((s n).look q)) ∧ Below W.heap.size W w') := fun n W hB => in_any n q W (h.below hB) hq
  have HG : Hid (s.get q = getFrom s q 4 1) := get_from s q
  clear h hq
  go_enter Tryz.func57, Tryz.ntmps57
  go_wp2
  go_loopw [6] (fun v wr => ∃ k : Nat, k ≤ 4 ∧ v = .int .i64 (5 - (k : Int)) ∧ Hid (s.get q = getFrom s q k (5 - (k : Int))) ∧ Below w.heap.size w wr)
    (fun v _ => (5 - intOf v).toNat)
  case atStart => exact ⟨4, Nat.le_refl _, rfl, HG, Below.refl _ _⟩
  case round =>
    obtain ⟨k, hk, rfl, HK, hb⟩ := hrel
    cases k with
    | zero =>
      have HE : Hid (s.get q = none) := by rw [HK.out]; rfl
      clear HK HG
      go_wp2
      go_ret2
      exact ⟨by rw [HE.out]; rfl, hb⟩
    | succ k =>
      obtain ⟨n, hn⟩ : ∃ n : Int, n = 5 - ((k + 1 : Nat) : Int) := ⟨_, rfl⟩
      rw [← hn] at HK ⊢
      have h1 : 1 ≤ n := by omega
      have h4 : n ≤ 4 := by omega
      have HN : Hid (n = 5 - ((k + 1 : Nat) : Int)) := hn
      clear hn
      have HC : Hid (Calls Tryz.prog 84 #[ptr b, .int .i64 n, .string q] wr fun e w' => e = .returned (optV ((s n).look q)) ∧ Below wr.heap.size wr w') := HI.out n wr hb
      cases hl : (s n).look q with
      | some v =>
        have HE : Hid (s.get q = some v) := by rw [HK.out]; unfold getFrom; rw [hl]; rfl
        rw [hl] at HC
        unfold optV at HC
        simp only [Option.getD_some, Option.isSome_some] at HC
        clear hl HK HG
        go_wp2_with fail
        refine HC.out.mono ?_
        rintro e w2 ⟨rfl, hb2⟩
        go_wp2
        go_ret2
        exact ⟨by rw [HE.out]; rfl, hb.trans (hb2.mono hb.size)⟩
      | none =>
        have HE : Hid (s.get q = getFrom s q k (n + 1)) := by rw [HK.out]; exact getFrom_none hl
        rw [hl] at HC
        unfold optV at HC
        simp only [Option.getD_none, Option.isSome_none] at HC
        clear hl HK HG
        go_wp2_with fail
        refine HC.out.mono ?_
        rintro e w2 ⟨rfl, hb2⟩
        have hb3 : Below w.heap.size w w2 := hb.trans (hb2.mono hb.size)
        go_wp2
        go_roundw
        case rel =>
          have := HN.out
          have e1 : n + 1 = 5 - (k : Int) := by omega
          exact ⟨k, by omega, by rw [← e1], by rw [← e1]; exact HE, hb3⟩
        case measure => simp [intOf]; omega
end Go.Proofs.YtkelmhpoplbacaaGreatDoor.V
namespace Go.Proofs.YtkelmhpoplbacaaGreatDoor.V
open Go.RowKit Go.Shelf Go.Maps

theorem sized_add (a c : ByteArray) : (a ++ c).size = a.size + c.size := by simp

set_option maxRecDepth 20000 in
set_option maxHeartbeats 800000 in
theorem give_any {base b : Nat} {m : Int → Nat} {s : VS} (n : Int) (q hd tl : ByteArray) (w : World) (h : VSet base b m s w) (hk : VS.ok n q = true) (hh : hd.size ≤ 1000000) (ht : tl.size ≤ 140737488355328) :
    Calls Tryz.prog 19 #[ptr b, .int .i64 n, .string q, .string hd, .string tl] w fun e w' => e = .returned (.int .i64 (s.give n q (hd ++ tl)).2) ∧ VSet base b m (s.give n q (hd ++ tl)).1 w' ∧ Turn m w w' := by
  have hn : isSc n = true := by unfold VS.ok at hk; rw [Bool.and_eq_true] at hk; exact hk.1
  have hq : q.size ≤ 140737488355328 := by
    unfold VS.ok rightB at hk; simp only [Bool.and_eq_true, decide_eq_true_eq] at hk; omega
  have HA : Hid (Calls Tryz.prog 42 #[ptr b, .int .i64 n] w fun e w' => e = .returned (.map (mapAt m n)) ∧ w = w') := all_any n w h
  rw [show mapAt m n = some (m n) by unfold mapAt; rw [hn]; rfl] at HA
  have hs := sees h n hq w (Below.refl _ _)
  rw [show mapAt m n = some (m n) by unfold mapAt; rw [hn]; rfl] at hs
  have HG : Hid (VSet base b m (s.give n q (hd ++ tl)).1 w → True) := fun _ => trivial
  have hok := h.ok
  have hgk := VS.give_ok hok hk (hd ++ tl)
  have hlen := hok.len n
  have hml := h.ltm hn
  by_cases h1 : 65536 < (hd ++ tl).size
  · have HR : Hid (s.give n q (hd ++ tl) = (s, 5)) := by unfold Hid VS.give; rw [if_pos (.inl h1)]
    have h1i : (65536 : Int) < (hd.size : Int) + (tl.size : Int) := by rw [sized_add] at h1; omega
    have HV : Hid (∀ o, VSet base b m s (w.alloc o)) := fun o => h.below ((Below.refl _ _).alloc (Nat.le_refl _) _)
    clear h hgk hok h1 HG hk
    go_enter Tryz.func19, Tryz.ntmps19
    go_wp2_with fail
    refine HA.out.mono ?_
    rintro e w' ⟨rfl, rfl⟩
    go_wp2
    go_ret
    exact ⟨ret_int (by rw [HR.out]), by rw [HR.out]; exact HV.out _, Turn.of_below ((Below.refl _ _).alloc (Nat.le_refl _) _)⟩
  · have h1i : ¬ (65536 : Int) < (hd.size : Int) + (tl.size : Int) := by rw [sized_add] at h1; omega
    have htl : tl.size ≤ 1000000 := by rw [sized_add] at h1; omega
    have HL : Hid (∀ ty W, W.heap[m n]? = w.heap[m n]? → (Builtin.len_ #[71] ty #[.map (some (m n))]).run Tryz.prog W = .ok (.int .i64 (s n).length) W) := fun ty W hW => (h.map n hn).count ty W hW
    have HV : Hid (∀ o, VSet base b m s (w.alloc o)) := fun o => h.below ((Below.refl _ _).alloc (Nat.le_refl _) _)
    by_cases h2 : ((s n).look q).isSome = false ∧ 1024 ≤ (s n).length
    · have HR : Hid (s.give n q (hd ++ tl) = (s, 5)) := by unfold Hid VS.give; rw [if_pos (.inr h2)]
      have h2i : (1024 : Int) ≤ ((s n).length : Int) := by omega
      rw [h2.1] at hs
      have HLa : Hid (∀ ty o, (Builtin.len_ #[71] ty #[.map (some (m n))]).run Tryz.prog (w.alloc o) = .ok (.int .i64 (s n).length) (w.alloc o)) := fun ty o => HL.out ty _ (Below.heap_alloc w o _ hml)
      have hla := HLa.out
      obtain ⟨k, hkk⟩ : ∃ k, k = (s n).length := ⟨_, rfl⟩
      rw [← hkk] at hla h2i hlen
      clear h hgk hok h1 h2 HG hk hkk HL HLa ht
      go_enter Tryz.func19, Tryz.ntmps19
      go_wp2_with fail
      refine HA.out.mono ?_
      rintro e w' ⟨rfl, rfl⟩
      go_wp2
      go_ret
      exact ⟨ret_int (by rw [HR.out]), by rw [HR.out]; exact HV.out _, Turn.of_below ((Below.refl _ _).alloc (Nat.le_refl _) _)⟩
    · have HR : Hid (s.give n q (hd ++ tl) = (s.upd n ((s n).set q (hd ++ tl)), 0)) := by unfold Hid VS.give; rw [if_neg (by rintro (e | e); exact h1 e; exact h2 e)]
      have HU : Hid (∀ o, ∃ w', (Instr.mapUpdate 71 (.map (some (m n))) (.string q) (entV (hd ++ tl))).run Tryz.prog (w.alloc o) = .ok () w' ∧ VSet base b m (s.upd n ((s n).set q (hd ++ tl))) w' ∧ Turn m w w') := by
        intro o
        have hv := HV.out o
        obtain ⟨w', hrun, hf, htn⟩ := (hv.map n hn).put (q := q) (e := hd ++ tl) (by omega) hq
        rw [HR.out] at hgk
        exact ⟨w', hrun, hv.upd hn hgk hf htn, (Turn.of_below ((Below.refl _ _).alloc (Nat.le_refl _) o)).trans (Turn.of_turned hn htn)⟩
      have HLa : Hid (∀ ty o, (Builtin.len_ #[71] ty #[.map (some (m n))]).run Tryz.prog (w.alloc o) = .ok (.int .i64 (s n).length) (w.alloc o)) := fun ty o => HL.out ty _ (Below.heap_alloc w o _ hml)
      have hla := HLa.out
      cases ht0 : ((s n).look q).isSome
      · have h2i : ¬ (1024 : Int) ≤ ((s n).length : Int) := fun e => h2 ⟨ht0, by omega⟩
        rw [ht0] at hs
        obtain ⟨k, hkk⟩ : ∃ k, k = (s n).length := ⟨_, rfl⟩
        rw [← hkk] at hla h2i hlen
        obtain ⟨w9, hup, hv9, ht9⟩ := HU.out (.cells #[.string (((s n).look q).getD E)] 131)
        clear h hgk hok h1 h2 HG hk hkk HL HLa ht ht0 HV HU
        go_enter Tryz.func19, Tryz.ntmps19
        go_wp2_with fail
        refine HA.out.mono ?_
        rintro e w' ⟨rfl, rfl⟩
        go_wp2
        go_ret
        exact ⟨ret_int (by rw [HR.out]), by rw [HR.out]; exact hv9, ht9⟩
      · rw [ht0] at hs
        obtain ⟨w9, hup, hv9, ht9⟩ := HU.out (.cells #[.string (((s n).look q).getD E)] 131)
        clear h hgk hok h1 h2 HG hk HL HLa hla ht ht0 HV HU
        go_enter Tryz.func19, Tryz.ntmps19
        go_wp2_with fail
        refine HA.out.mono ?_
        rintro e w' ⟨rfl, rfl⟩
        go_wp2
        go_ret
        exact ⟨ret_int (by rw [HR.out]), by rw [HR.out]; exact hv9, ht9⟩
end Go.Proofs.YtkelmhpoplbacaaGreatDoor.V
