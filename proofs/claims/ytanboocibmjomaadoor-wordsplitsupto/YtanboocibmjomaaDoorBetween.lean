/-
  What between does: each byte is asked for once, and what stands between those that part is handed on, in order; of any two function values.
-/
import Derived.Test.YtanboocibmjomaaDoorBase
namespace Go.Proofs.YtanboocibmjomaaDoor
open Go.RowKit Go.Shelf

section
variable {σ : Type} (st : σ → UInt8 → σ) (f : σ → UInt8 → Bool) (s0 : σ)
def pcs (s : ByteArray) : List ByteArray := (K.cut st f s0 [] (bl s)).map ba
def At (s : ByteArray) (k bg : Nat) (x : σ) (ws : List ByteArray) : Prop := pcs st f s0 s = ws ++ (K.cut st f x (((bl s).take k).drop bg) ((bl s).drop k)).map ba ∧ x = ((bl s).take k).foldl st s0
variable {st f s0}
theorem At.start (s : ByteArray) : At st f s0 s 0 0 s0 [] := by
  constructor
  · simp [pcs]
  · simp
theorem At.state {s : ByteArray} {k bg : Nat} {x : σ} {ws : List ByteArray} (h : At st f s0 s k bg x ws) (hk : k < s.size) : st x s[k] = ((bl s).take (k + 1)).foldl st s0 := by
  rw [take_snoc s k hk, List.foldl_append, ← h.2]; rfl
theorem At.on {s : ByteArray} {k bg : Nat} {x : σ} {ws : List ByteArray} (h : At st f s0 s k bg x ws) (hk : k < s.size) (hb : bg ≤ k) (hf : f x s[k] = false) : At st f s0 s (k + 1) bg (st x s[k]) ws := by
  refine ⟨?_, h.state hk⟩
  rw [h.1, drop_ba s k hk, K.cut_cons, if_neg (by rw [hf]; simp), take_snoc s k hk, List.drop_append_of_le_length (by simp [bl_length]; omega)]
theorem At.skip {s : ByteArray} {k bg : Nat} {x : σ} {ws : List ByteArray} (h : At st f s0 s k bg x ws) (hk : k < s.size) (hb : ¬ bg < k) (hf : f x s[k] = true) : At st f s0 s (k + 1) (k + 1) (st x s[k]) ws := by
  refine ⟨?_, h.state hk⟩
  have e : ((bl s).take k).drop bg = [] := List.drop_of_length_le (by simp; omega)
  have e2 : ((bl s).take (k + 1)).drop (k + 1) = [] := List.drop_of_length_le (by simp; omega)
  rw [h.1, drop_ba s k hk, K.cut_cons, if_pos hf, e, if_pos rfl, e2, List.nil_append]
theorem At.cutoff {s : ByteArray} {k bg : Nat} {x : σ} {ws : List ByteArray} (h : At st f s0 s k bg x ws) (hk : k < s.size) (hb : bg < k) (hf : f x s[k] = true) : At st f s0 s (k + 1) (k + 1) (st x s[k]) (ws ++ [s.extract bg k]) := by
  refine ⟨?_, h.state hk⟩
  have e : ¬ ((bl s).take k).drop bg = [] := by
    rw [← List.length_eq_zero_iff]; simp [bl_length]; omega
  have e2 : ((bl s).take (k + 1)).drop (k + 1) = [] := List.drop_of_length_le (by simp; omega)
  rw [h.1, drop_ba s k hk, K.cut_cons, if_pos hf, if_neg e, e2, ← bl_extract, List.map_append, List.map_singleton, ba_bl, List.append_assoc]
theorem At.last {s : ByteArray} {bg : Nat} {x : σ} {ws : List ByteArray} (h : At st f s0 s s.size bg x ws) (hb : bg < s.size) : pcs st f s0 s = ws ++ [s.extract bg s.size] ∧ x = (bl s).foldl st s0 := by
  have e : ¬ ((bl s).take s.size).drop bg = [] := by
    rw [← List.length_eq_zero_iff]; simp [bl_length]; omega
  refine ⟨?_, by rw [h.2, take_all]⟩
  rw [h.1, drop_all, K.cut_nil, if_neg e, ← bl_extract, List.map_singleton, ba_bl]
theorem At.done {s : ByteArray} {bg : Nat} {x : σ} {ws : List ByteArray} (h : At st f s0 s s.size bg x ws) (hb : ¬ bg < s.size) : pcs st f s0 s = ws ∧ x = (bl s).foldl st s0 := by
  have e : ((bl s).take s.size).drop bg = [] := List.drop_of_length_le (by simp [bl_length]; omega)
  refine ⟨?_, by rw [h.2, take_all]⟩
  rw [h.1, drop_all, K.cut_nil, e, if_pos rfl]; simp
theorem At.pre {s : ByteArray} {k bg : Nat} {x : σ} {ws : List ByteArray} (h : At st f s0 s k bg x ws) : ws <+: pcs st f s0 s := by rw [h.1]; exact List.prefix_append _ _
end

set_option maxRecDepth 20000 in
set_option maxHeartbeats 400000 in
theorem between_any {σ : Type} (st : σ → UInt8 → σ) (f : σ → UInt8 → Bool) (s0 : σ) (kb kd : Nat) (cb cd : Array Value) (J : σ → List ByteArray → World → Prop) (s : ByteArray) (w : World) (hs : s.size ≤ 140737488355328)
    (eb : ∀ args w, (callFunc kb args).run Tryd.prog w = .ok (.enter kb args) w) (ed : ∀ args w, (callFunc kd args).run Tryd.prog w = .ok (.enter kd args) w)
    (hB : ∀ x ws (c : UInt8) W, J x ws W → Calls Tryd.prog kb (#[.int .u8 c.toNat] ++ cb) W fun e w' => e = .returned (.bool (f x c)) ∧ J (st x c) ws w')
    (hD : ∀ x ws t W, J x ws W → (ws ++ [t]) <+: pcs st f s0 s → Calls Tryd.prog kd (#[.string t] ++ cd) W fun e w' => e = .returned (.tuple #[]) ∧ J x (ws ++ [t]) w')
    (h0 : J s0 [] w) :
    Calls Tryd.prog 25 #[.string s, .func (.func kb) #[] cb, .func (.func kd) #[] cd] w fun e w' => e = .returned (.tuple #[]) ∧ J ((bl s).foldl st s0) (pcs st f s0 s) w' := by
  have HB : Hid (∀ x ws (c : UInt8) W, J x ws W → Calls Tryd.prog kb (#[.int .u8 c.toNat] ++ cb) W fun e w' => e = .returned (.bool (f x c)) ∧ J (st x c) ws w') := hB
  have HD : Hid (∀ x ws t W, J x ws W → (ws ++ [t]) <+: pcs st f s0 s → Calls Tryd.prog kd (#[.string t] ++ cd) W fun e w' => e = .returned (.tuple #[]) ∧ J x (ws ++ [t]) w') := hD
  clear hB hD
  go_enter Tryd.func25, Tryd.ntmps25
  go_wp2
  go_loopw [6, 10] (fun v6 v10 wr => ∃ (k bg : Nat) (x : σ) (ws : List ByteArray), k ≤ s.size ∧ bg ≤ k ∧ v6 = .int .i64 bg ∧ v10 = .int .i64 k ∧ Hid (At st f s0 s k bg x ws) ∧ Hid (J x ws wr))
    (fun _ v10 _ => s.size - (intOf v10).toNat)
  case atStart => exact ⟨0, 0, s0, [], Nat.zero_le _, Nat.le_refl _, rfl, rfl, At.start s, h0⟩
  case round =>
    obtain ⟨k, bg, x, ws, hk, hbg, rfl, rfl, HA, HJ⟩ := hrel
    by_cases hlt : k < s.size
    · have hil : (k : Int) < (s.size : Int) := by omega
      cases hf : f x s[k] with
      | false =>
        have HC : Hid (∀ W, J x ws W → Calls Tryd.prog kb (#[.int .u8 s[k].toNat] ++ cb) W fun e w' => e = .returned (.bool false) ∧ J (st x s[k]) ws w') := fun W h => by
          have := HB.out x ws s[k] W h
          rw [hf] at this; exact this
        have HA1 : Hid (At st f s0 s (k + 1) bg (st x s[k]) ws) := HA.out.on hlt hbg hf
        clear hf
        go_wp2_with (go_at_fn kb; refine (HC.out _ HJ.out).mono ?_; rintro e w1 ⟨rfl, hJ1⟩)
        go_roundw
        case rel => exact ⟨k + 1, bg, _, ws, by omega, by omega, rfl, by go_num, HA1, by assumption⟩
        case measure => simp [intOf]; omega
      | true =>
        have HC : Hid (∀ W, J x ws W → Calls Tryd.prog kb (#[.int .u8 s[k].toNat] ++ cb) W fun e w' => e = .returned (.bool true) ∧ J (st x s[k]) ws w') := fun W h => by
          have := HB.out x ws s[k] W h
          rw [hf] at this; exact this
        by_cases hb : bg < k
        · have hib : (bg : Int) < (k : Int) := by omega
          have hi1 : (bg : Int) ≤ (k : Int) := by omega
          have hi2 : (k : Int) ≤ (s.size : Int) := by omega
          have HA1 : Hid (At st f s0 s (k + 1) (k + 1) (st x s[k]) (ws ++ [s.extract bg k])) := HA.out.cutoff hlt hb hf
          clear hf
          go_wp2_with (first | (go_at_fn kb; refine (HC.out _ HJ.out).mono ?_; rintro e w1 ⟨rfl, hJ1⟩; have HJ1 : Hid _ := hJ1; clear hJ1) | (go_at_fn kd; refine (HD.out (st x s[k]) ws (s.extract bg k) _ (Hid.out ‹_›) (HA1.out.pre)).mono ?_; rintro e w2 ⟨rfl, hJ2⟩; have HJ2 : Hid _ := hJ2; clear hJ2))
          go_roundw
          case rel => exact ⟨k + 1, k + 1, _, _, by omega, Nat.le_refl _, by go_num, by go_num, HA1, by assumption⟩
          case measure => simp [intOf]; omega
        · have hib : ¬ (bg : Int) < (k : Int) := by omega
          have HA1 : Hid (At st f s0 s (k + 1) (k + 1) (st x s[k]) ws) := HA.out.skip hlt hb hf
          clear hf
          go_wp2_with (go_at_fn kb; refine (HC.out _ HJ.out).mono ?_; rintro e w1 ⟨rfl, hJ1⟩)
          go_roundw
          case rel => exact ⟨k + 1, k + 1, _, ws, by omega, Nat.le_refl _, by go_num, by go_num, HA1, by assumption⟩
          case measure => simp [intOf]; omega
    · obtain rfl : k = s.size := by omega
      by_cases hb : bg < s.size
      · have hib : (bg : Int) < (s.size : Int) := by omega
        have hi1 : (bg : Int) ≤ (s.size : Int) := by omega
        have HL : Hid (pcs st f s0 s = ws ++ [s.extract bg s.size] ∧ x = (bl s).foldl st s0) := HA.out.last hb
        have HC : Hid (∀ W, J x ws W → Calls Tryd.prog kd (#[.string (s.extract bg s.size)] ++ cd) W fun e w' => e = .returned (.tuple #[]) ∧ J ((bl s).foldl st s0) (pcs st f s0 s) w') := fun W h => by
          have := HD.out x ws (s.extract bg s.size) W h (by rw [HL.out.1]; exact List.prefix_refl _)
          rw [HL.out.1, ← HL.out.2]; exact this
        go_wp2_with (go_at_fn kd; refine (HC.out _ HJ.out).mono ?_; rintro e w1 ⟨rfl, hJ1⟩)
        go_end0
        exact ⟨rfl, by assumption⟩
      · have hib : ¬ (bg : Int) < (s.size : Int) := by omega
        have HL : Hid (pcs st f s0 s = ws ∧ x = (bl s).foldl st s0) := HA.out.done hb
        go_wp2
        go_end0
        refine ⟨rfl, ?_⟩
        rw [HL.out.1, ← HL.out.2]; exact HJ.out
end Go.Proofs.YtanboocibmjomaaDoor
