/-
  What Get answers.
-/
import Derived.Test.YtjbmmeneejcpbaaVSmall
namespace Go.Proofs.Ytjbmmeneejcpbaa
open Go.RowKit Go.Shelf Go.Maps

/-- The first value from a scope on. -/
def getFrom (s : VS) (q : ByteArray) : Nat → Int → Option ByteArray
  | 0, _ => none
  | k + 1, n => match (s n).look q with | some v => some v | none => getFrom s q k (n + 1)
theorem getFrom_none {s : VS} {q : ByteArray} {k : Nat} {n : Int} (h : (s n).look q = none) : getFrom s q (k + 1) n = getFrom s q k (n + 1) := by
  show (match (s n).look q with | some v => some v | none => getFrom s q k (n + 1)) = _
  rw [h]
theorem get_from (s : VS) (q : ByteArray) : s.get q = getFrom s q 4 1 := by
  unfold VS.get getFrom
  cases (s 1).look q with
  | some v => rfl
  | none =>
    dsimp only
    unfold getFrom
    show _ = match (s 2).look q with | some v => some v | none => _
    cases (s 2).look q with
    | some v => rfl
    | none =>
      dsimp only
      unfold getFrom
      show _ = match (s 3).look q with | some v => some v | none => _
      cases (s 3).look q with
      | some v => rfl
      | none =>
        dsimp only
        unfold getFrom
        show _ = match (s 4).look q with | some v => some v | none => _
        cases (s 4).look q <;> rfl

set_option maxHeartbeats 800000 in
theorem get_any {base b : Nat} {m : Int → Nat} {s : VS} (q : ByteArray) (w : World) (h : VSet base b m s w) (hq : q.size ≤ 140737488355328) :
    Calls Try.prog 16 #[ptr b, .string q] w fun e w' => e = .returned (optV (s.get q)) ∧ Below w.heap.size w w' := by
  have HI : Hid (∀ n W, Below w.heap.size w W → Calls Try.prog 18 #[ptr b, .int .i64 n, .string q] W fun e w' => e = .returned (optV ((s n).look q)) ∧ Below W.heap.size W w') := fun n W hB => in_any n q W (h.below hB) hq
  have HG : Hid (s.get q = getFrom s q 4 1) := get_from s q
  clear h hq
  go_enter Try.func16, Try.ntmps16
  go_wp2
  go_loopw [6] (fun v wr => ∃ k : Nat, k ≤ 4 ∧ v = .int .i64 (5 - (k : Int)) ∧ Hid (s.get q = getFrom s q k (5 - (k : Int))) ∧ Below w.heap.size w wr)
    (fun v _ => (5 - intOf v).toNat)
  case atStart => exact ⟨4, Nat.le_refl _, rfl, HG, Below.refl _ _⟩
  case round =>
    obtain ⟨k, hk, rfl, HK, hb⟩ := hrel
    cases k with
    | zero =>
      have HE : Hid (s.get q = none) := by rw [HK.out]; rfl
      clear HK HG
      go_wp2
      go_ret2
      exact ⟨by rw [HE.out]; rfl, hb⟩
    | succ k =>
      obtain ⟨n, hn⟩ : ∃ n : Int, n = 5 - ((k + 1 : Nat) : Int) := ⟨_, rfl⟩
      rw [← hn] at HK ⊢
      have h1 : 1 ≤ n := by omega
      have h4 : n ≤ 4 := by omega
      have HN : Hid (n = 5 - ((k + 1 : Nat) : Int)) := hn
      clear hn
      have HC : Hid (Calls Try.prog 18 #[ptr b, .int .i64 n, .string q] wr fun e w' => e = .returned (optV ((s n).look q)) ∧ Below wr.heap.size wr w') := HI.out n wr hb
      cases hl : (s n).look q with
      | some v =>
        have HE : Hid (s.get q = some v) := by rw [HK.out]; unfold getFrom; rw [hl]; rfl
        rw [hl] at HC
        unfold optV at HC
        simp only [Option.getD_some, Option.isSome_some] at HC
        clear hl HK HG
        go_wp2_with fail
        refine HC.out.mono ?_
        rintro e w2 ⟨rfl, hb2⟩
        go_wp2
        go_ret2
        exact ⟨by rw [HE.out]; rfl, hb.trans (hb2.mono hb.size)⟩
      | none =>
        have HE : Hid (s.get q = getFrom s q k (n + 1)) := by rw [HK.out]; exact getFrom_none hl
        rw [hl] at HC
        unfold optV at HC
        simp only [Option.getD_none, Option.isSome_none] at HC
        clear hl HK HG
        go_wp2_with fail
        refine HC.out.mono ?_
        rintro e w2 ⟨rfl, hb2⟩
        have hb3 : Below w.heap.size w w2 := hb.trans (hb2.mono hb.size)
        go_wp2
        go_roundw
        case rel =>
          have := HN.out
          have e1 : n + 1 = 5 - (k : Int) := by omega
          exact ⟨k, by omega, by rw [← e1], by rw [← e1]; exact HE, hb3⟩
        case measure => simp [intOf]; omega
end Go.Proofs.Ytjbmmeneejcpbaa
