/-
  Find, Is and Text.
-/
import Derived.Test.YtmmhajlfbjjocaaGreatPEachF
namespace Go.Proofs.YtmmhajlfbjjocaaGreat
open Go.RowKit Go.Shelf RxSem

theorem below_drewN {B : Nat} {w0 w : World} (h : Below B w0 w) (n : Nat) : Below B w0 (w.drewN n) := ⟨h.os, h.tape, h.output, h.size, h.block⟩
theorem Steps.made {b gs cap : Nat} {SL : List SV} {t : ByteArray} {k : List Nd} {w : World} (h : Steps b gs cap SL t k w) : Made b t k w := .found gs cap SL h
set_option maxRecDepth 20000 in
set_option maxHeartbeats 400000 in
theorem each_neg (b : Nat) (t s : ByteArray) (k : List Nd) (f : Int) (fv : Value) (w : World) (h : Made b t k w) (hf : f < 0) : Calls Tryz.prog 27 #[.pointer (some ⟨b, 0, none⟩), .string s, .int .i64 f, fv] w fun e w' => e = .returned (.tuple #[]) ∧ w' = w := by
  have c0 : w.cell? ⟨b, 0, none⟩ = some (.bool true) := by
    cases h with
    | fresh v base L hb => simp only [World.cell?, hb]; rfl
    | found gs cap SL h => simp only [World.cell?, h.blk]; rfl
  have hnot : ∀ (x : Bool) (w : World), (Op.unary .not (.bool x)).run Tryz.prog w = .ok (.bool (!x)) w := fun _ _ => rfl
  clear h
  go_enter Tryz.func27, Tryz.ntmps27
  go_wp2_with fail
  first | go_end0 | (simp only [Exit.inBlock, Exit.then]; refine bodyPost_ret (results_none rfl _ _ _) rfl ?_) | refine bodyPost_ret (results_none rfl _ _ _) rfl ?_
  exact ⟨rfl, rfl⟩
/-- What Find answers. -/
def findV (x : Nat × Nat × Bool) : Value := .tuple #[.int .i64 (x.1 : Int), .int .i64 (x.2.1 : Int), .bool x.2.2]
set_option maxRecDepth 20000 in
set_option maxHeartbeats 400000 in
theorem find_any (hst : StepsC) (b : Nat) (t s : ByteArray) (k : List Nd) (f : Nat) (w : World) (h : Made b t k w) (hs : s.size ≤ 90000) (hf : f ≤ 9223372036854775807) : Calls Tryz.prog 12 #[.pointer (some ⟨b, 0, none⟩), .string s, .int .i64 (f : Int)] w fun e w' => ∃ K, e = .returned (findV (headOf K)) ∧ (f ≤ s.size → LM (bl s) (.alt k) f K) ∧ (s.size < f → K = []) ∧ Made b t k w' ∧ Wrote b w w' := by
  obtain ⟨W0, hW, hB, hS, k1, k2⟩ := two w (.cells #[.int .i64 0, .int .i64 0] 77) (.cells #[.bool false] 4)
  have hbl := h.lt
  have HE : Hid (Calls Tryz.prog 27 #[.pointer (some ⟨b, 0, none⟩), .string s, .int .i64 (f : Int), .func (.func 28) #[] #[.pointer (some ⟨w.heap.size, 0, none⟩), .pointer (some ⟨w.heap.size + 1, 0, none⟩)]] W0 (EachPost b w.heap.size (w.heap.size + 1) t s k f W0)) := each_find hst b _ _ t s k f W0 (h.below hB) hs hf ⟨k1, k2⟩
  have hmf : ∀ (fn : Fn) (first cap : Array Value) (w : World), (Instr.makeFunc fn first cap).run Tryz.prog w = .ok (.func fn first cap) w := fun _ _ _ _ => rfl
  have HX : Hid (Below w.heap.size w W0 ∧ W0.heap.size = w.heap.size + 2) := ⟨hB, hS⟩
  clear h hB hS k1 k2 hst
  go_enter Tryz.func12, Tryz.ntmps12
  go_wp2_with fail
  rw [← hW]
  clear hW
  refine HE.out.mono ?_
  rintro e w1 ⟨rfl, K, h1, h2, h3, ⟨gs, cap, SL, h4⟩, h5⟩
  obtain ⟨⟨p, e, o⟩, hx⟩ : ∃ x, x = headOf K := ⟨_, rfl⟩
  rw [← hx] at h3
  have c0 : w1.cell? ⟨w.heap.size, 0, none⟩ = some (.int .i64 (p : Int)) := by simp only [World.cell?, h3.m]; rfl
  have c1 : w1.cell? ⟨w.heap.size, 1, none⟩ = some (.int .i64 (e : Int)) := by simp only [World.cell?, h3.m]; rfl
  have c2 : w1.cell? ⟨w.heap.size + 1, 0, none⟩ = some (.bool o) := by simp only [World.cell?, h3.o]; rfl
  have HQ : Hid ((f ≤ s.size → LM (bl s) (.alt k) f K) ∧ (s.size < f → K = []) ∧ Made b t k w1 ∧ Fr (fun j => j = b ∨ j = w.heap.size ∨ j = w.heap.size + 1) W0 w1 ∧ (p, e, o) = headOf K) := ⟨h1, h2, h4.made, h5, hx⟩
  clear h1 h2 h3 h4 h5 hx HE
  go_wp2_with fail
  go_quiet (fail)
  go_wp2_with fail
  refine bodyPost_ret (by simp [results, Tryz.results12, go_sem]; try rfl) rfl ?_
  obtain ⟨h1, h2, h3, h4, h5⟩ := HQ.out
  refine ⟨K, by rw [← h5]; rfl, h1, h2, h3.below (below_drewN (Below.refl _ _) _), ?_⟩
  have hs0 := HX.out.2
  exact ⟨h4.os.trans HX.out.1.os, h4.tape.trans HX.out.1.tape, h4.output.trans HX.out.1.output, Nat.le_trans HX.out.1.size h4.size, fun j hj hb => (h4.block j (by omega) (by rintro (h | h | h); exact hb h; omega; omega)).trans (HX.out.1.block j hj)⟩
set_option maxRecDepth 20000 in
set_option maxHeartbeats 400000 in
theorem find_neg (b : Nat) (t s : ByteArray) (k : List Nd) (f : Int) (w : World) (h : Made b t k w) (hf : f < 0) : Calls Tryz.prog 12 #[.pointer (some ⟨b, 0, none⟩), .string s, .int .i64 f] w fun e w' => e = .returned (findV (0, 0, false)) ∧ Below w.heap.size w w' := by
  obtain ⟨W0, hW, hB, hS, k1, k2⟩ := two w (.cells #[.int .i64 0, .int .i64 0] 77) (.cells #[.bool false] 4)
  have HE : Hid (∀ fv, Calls Tryz.prog 27 #[.pointer (some ⟨b, 0, none⟩), .string s, .int .i64 f, fv] W0 fun e w' => e = .returned (.tuple #[]) ∧ w' = W0) := fun fv => each_neg b t s k f fv W0 (h.below hB) hf
  have hmf : ∀ (fn : Fn) (first cap : Array Value) (w : World), (Instr.makeFunc fn first cap).run Tryz.prog w = .ok (.func fn first cap) w := fun _ _ _ _ => rfl
  have c0 : W0.cell? ⟨w.heap.size, 0, none⟩ = some (.int .i64 0) := by simp only [World.cell?, k1]; rfl
  have c1 : W0.cell? ⟨w.heap.size, 1, none⟩ = some (.int .i64 0) := by simp only [World.cell?, k1]; rfl
  have c2 : W0.cell? ⟨w.heap.size + 1, 0, none⟩ = some (.bool false) := by simp only [World.cell?, k2]; rfl
  have HX : Hid (Below w.heap.size w W0) := hB
  clear h hB hS k1 k2 hf
  go_enter Tryz.func12, Tryz.ntmps12
  go_wp2_with fail
  rw [← hW]
  clear hW
  refine (HE.out _).mono ?_
  rintro e w1 ⟨rfl, rfl⟩
  go_wp2_with fail
  go_quiet (fail)
  go_wp2_with fail
  refine bodyPost_ret (by simp [results, Tryz.results12, go_sem]; try rfl) rfl ?_
  exact ⟨rfl, below_drewN HX.out _⟩
set_option maxRecDepth 20000 in
set_option maxHeartbeats 400000 in
theorem is_any (hst : StepsC) (b : Nat) (t s : ByteArray) (k : List Nd) (w : World) (h : Made b t k w) (hs : s.size ≤ 90000) : Calls Tryz.prog 13 #[.pointer (some ⟨b, 0, none⟩), .string s] w fun e w' => (∃ o, e = .returned (.bool o) ∧ (o = true ↔ M (bl s) (.alt k) 0 (bl s).length)) ∧ Made b t k w' ∧ Wrote b w w' := by
  have HF : Hid (Calls Tryz.prog 12 #[.pointer (some ⟨b, 0, none⟩), .string s, .int .i64 0] w fun e w' => ∃ K, e = .returned (findV (headOf K)) ∧ (0 ≤ s.size → LM (bl s) (.alt k) 0 K) ∧ (s.size < 0 → K = []) ∧ Made b t k w' ∧ Wrote b w w') := find_any hst b t s k 0 w h hs (by omega)
  clear h hst
  go_enter Tryz.func13, Tryz.ntmps13
  go_wp2_with fail
  refine HF.out.mono ?_
  rintro e w1 ⟨K, rfl, h1, _, h3, h4⟩
  have hL := h1 (Nat.zero_le _)
  have HQ : Hid (Made b t k w1 ∧ Wrote b w w1) := ⟨h3, h4⟩
  clear h1 h3 h4 HF
  cases K with
  | nil =>
    have HA : Hid (_) := hL.all
    clear hL
    unfold findV headOf
    dsimp only
    go_wp2_with fail
    go_ret
    refine ⟨.inl ⟨rfl, ?_⟩, HQ.out⟩
    rw [← HA.out]; simp
  | cons x K =>
    obtain ⟨p, e⟩ := x
    have he : e ≤ s.size := by have h9 := hL.first; have := M_top _ _ _ _ h9.2.2.1 h9.2.1; rw [bl_length] at this; exact this
    have HA : Hid (((p, e) :: K).head? = some (0, (bl s).length) ↔ M (bl s) (.alt k) 0 (bl s).length) := hL.all
    clear hL
    unfold findV headOf
    dsimp only
    by_cases hp : p = 0
    · subst hp
      by_cases hes : e = s.size
      · subst hes
        go_wp2_with fail
        go_ret
        refine ⟨⟨true, rfl, ?_⟩, HQ.out⟩
        rw [← HA.out, bl_length]; simp
      · have h7 : ¬ (e : Int) = (s.size : Int) := by omega
        have h8 : ((e : Int) == (s.size : Int)) = false := by simp; omega
        go_wp2_with fail
        go_ret
        refine ⟨⟨false, by first | rfl | simp [h8] | simp [h7], ?_⟩, HQ.out⟩
        rw [← HA.out, bl_length]; simp [hes]
    · have h7 : ¬ (p : Int) = 0 := by omega
      go_wp2_with fail
      go_ret
      refine ⟨⟨false, by first | rfl | simp [h7], ?_⟩, HQ.out⟩
      rw [← HA.out]; simp [hp]
set_option maxRecDepth 20000 in
set_option maxHeartbeats 400000 in
theorem text_any (b : Nat) (t : ByteArray) (k : List Nd) (w : World) (h : Made b t k w) : Calls Tryz.prog 14 #[.pointer (some ⟨b, 0, none⟩)] w fun e w' => e = .returned (.string t) ∧ w' = w := by
  have c1 : w.cell? ⟨b, 1, none⟩ = some (.string t) := by
    cases h with
    | fresh v base L hb => simp only [World.cell?, hb]; rfl
    | found gs cap SL h => simp only [World.cell?, h.blk]; rfl
  clear h
  go_enter Tryz.func14, Tryz.ntmps14
  go_wp2_with fail
  go_ret
  exact ⟨rfl, rfl⟩
end Go.Proofs.YtmmhajlfbjjocaaGreat
