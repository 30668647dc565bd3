/-
  What give leaves and answers.
-/
import Derived.Test.YtjbmmeneejcpbaaVGet
namespace Go.Proofs.Ytjbmmeneejcpbaa
open Go.RowKit Go.Shelf Go.Maps

theorem sized_add (a c : ByteArray) : (a ++ c).size = a.size + c.size := by simp

set_option maxRecDepth 20000 in
set_option maxHeartbeats 800000 in
theorem give_any {base b : Nat} {m : Int → Nat} {s : VS} (n : Int) (q hd tl : ByteArray) (w : World) (h : VSet base b m s w) (hk : VS.ok n q = true) (hh : hd.size ≤ 1000000) (ht : tl.size ≤ 140737488355328) :
    Calls Try.prog 43 #[ptr b, .int .i64 n, .string q, .string hd, .string tl] w fun e w' => e = .returned (.int .i64 (s.give n q (hd ++ tl)).2) ∧ VSet base b m (s.give n q (hd ++ tl)).1 w' ∧ Turn m w w' := by
  have hn : isSc n = true := by unfold VS.ok at hk; rw [Bool.and_eq_true] at hk; exact hk.1
  have hq : q.size ≤ 140737488355328 := by
    unfold VS.ok rightB at hk; simp only [Bool.and_eq_true, decide_eq_true_eq] at hk; omega
  have HA : Hid (Calls Try.prog 36 #[ptr b, .int .i64 n] w fun e w' => e = .returned (.map (mapAt m n)) ∧ w = w') := all_any n w h
  rw [show mapAt m n = some (m n) by unfold mapAt; rw [hn]; rfl] at HA
  have hs := sees h n hq w (Below.refl _ _)
  rw [show mapAt m n = some (m n) by unfold mapAt; rw [hn]; rfl] at hs
  have HG : Hid (VSet base b m (s.give n q (hd ++ tl)).1 w → True) := fun _ => trivial
  have hok := h.ok
  have hgk := VS.give_ok hok hk (hd ++ tl)
  have hlen := hok.len n
  have hml := h.ltm hn
  by_cases h1 : 65536 < (hd ++ tl).size
  · have HR : Hid (s.give n q (hd ++ tl) = (s, 5)) := by unfold Hid VS.give; rw [if_pos (.inl h1)]
    have h1i : (65536 : Int) < (hd.size : Int) + (tl.size : Int) := by rw [sized_add] at h1; omega
    have HV : Hid (∀ o, VSet base b m s (w.alloc o)) := fun o => h.below ((Below.refl _ _).alloc (Nat.le_refl _) _)
    clear h hgk hok h1 HG hk
    go_enter Try.func43, Try.ntmps43
    go_wp2_with fail
    refine HA.out.mono ?_
    rintro e w' ⟨rfl, rfl⟩
    go_wp2
    go_ret
    exact ⟨ret_int (by rw [HR.out]), by rw [HR.out]; exact HV.out _, Turn.of_below ((Below.refl _ _).alloc (Nat.le_refl _) _)⟩
  · have h1i : ¬ (65536 : Int) < (hd.size : Int) + (tl.size : Int) := by rw [sized_add] at h1; omega
    have htl : tl.size ≤ 1000000 := by rw [sized_add] at h1; omega
    have HL : Hid (∀ ty W, W.heap[m n]? = w.heap[m n]? → (Builtin.len_ #[52] ty #[.map (some (m n))]).run Try.prog W = .ok (.int .i64 (s n).length) W) := fun ty W hW => (h.map n hn).count ty W hW
    have HV : Hid (∀ o, VSet base b m s (w.alloc o)) := fun o => h.below ((Below.refl _ _).alloc (Nat.le_refl _) _)
    by_cases h2 : ((s n).look q).isSome = false ∧ 1024 ≤ (s n).length
    · have HR : Hid (s.give n q (hd ++ tl) = (s, 5)) := by unfold Hid VS.give; rw [if_pos (.inr h2)]
      have h2i : (1024 : Int) ≤ ((s n).length : Int) := by omega
      rw [h2.1] at hs
      have HLa : Hid (∀ ty o, (Builtin.len_ #[52] ty #[.map (some (m n))]).run Try.prog (w.alloc o) = .ok (.int .i64 (s n).length) (w.alloc o)) := fun ty o => HL.out ty _ (Below.heap_alloc w o _ hml)
      have hla := HLa.out
      obtain ⟨k, hkk⟩ : ∃ k, k = (s n).length := ⟨_, rfl⟩
      rw [← hkk] at hla h2i hlen
      clear h hgk hok h1 h2 HG hk hkk HL HLa ht
      go_enter Try.func43, Try.ntmps43
      go_wp2_with fail
      refine HA.out.mono ?_
      rintro e w' ⟨rfl, rfl⟩
      go_wp2
      go_ret
      exact ⟨ret_int (by rw [HR.out]), by rw [HR.out]; exact HV.out _, Turn.of_below ((Below.refl _ _).alloc (Nat.le_refl _) _)⟩
    · have HR : Hid (s.give n q (hd ++ tl) = (s.upd n ((s n).set q (hd ++ tl)), 0)) := by unfold Hid VS.give; rw [if_neg (by rintro (e | e); exact h1 e; exact h2 e)]
      have HU : Hid (∀ o, ∃ w', (Instr.mapUpdate 52 (.map (some (m n))) (.string q) (entV (hd ++ tl))).run Try.prog (w.alloc o) = .ok () w' ∧ VSet base b m (s.upd n ((s n).set q (hd ++ tl))) w' ∧ Turn m w w') := by
        intro o
        have hv := HV.out o
        obtain ⟨w', hrun, hf, htn⟩ := (hv.map n hn).put (q := q) (e := hd ++ tl) (by omega) hq
        rw [HR.out] at hgk
        exact ⟨w', hrun, hv.upd hn hgk hf htn, (Turn.of_below ((Below.refl _ _).alloc (Nat.le_refl _) o)).trans (Turn.of_turned hn htn)⟩
      have HLa : Hid (∀ ty o, (Builtin.len_ #[52] ty #[.map (some (m n))]).run Try.prog (w.alloc o) = .ok (.int .i64 (s n).length) (w.alloc o)) := fun ty o => HL.out ty _ (Below.heap_alloc w o _ hml)
      have hla := HLa.out
      cases ht0 : ((s n).look q).isSome
      · have h2i : ¬ (1024 : Int) ≤ ((s n).length : Int) := fun e => h2 ⟨ht0, by omega⟩
        rw [ht0] at hs
        obtain ⟨k, hkk⟩ : ∃ k, k = (s n).length := ⟨_, rfl⟩
        rw [← hkk] at hla h2i hlen
        obtain ⟨w9, hup, hv9, ht9⟩ := HU.out (.cells #[.string (((s n).look q).getD E)] 64)
        clear h hgk hok h1 h2 HG hk hkk HL HLa ht ht0 HV HU
        go_enter Try.func43, Try.ntmps43
        go_wp2_with fail
        refine HA.out.mono ?_
        rintro e w' ⟨rfl, rfl⟩
        go_wp2
        go_ret
        exact ⟨ret_int (by rw [HR.out]), by rw [HR.out]; exact hv9, ht9⟩
      · rw [ht0] at hs
        obtain ⟨w9, hup, hv9, ht9⟩ := HU.out (.cells #[.string (((s n).look q).getD E)] 64)
        clear h hgk hok h1 h2 HG hk HL HLa hla ht ht0 HV HU
        go_enter Try.func43, Try.ntmps43
        go_wp2_with fail
        refine HA.out.mono ?_
        rintro e w' ⟨rfl, rfl⟩
        go_wp2
        go_ret
        exact ⟨ret_int (by rw [HR.out]), by rw [HR.out]; exact hv9, ht9⟩
end Go.Proofs.Ytjbmmeneejcpbaa
