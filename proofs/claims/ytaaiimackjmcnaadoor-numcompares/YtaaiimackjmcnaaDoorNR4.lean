/-
  What the document's own Format answers: the digits.
-/
import Derived.Test.YtaaiimackjmcnaaDoorNR1
namespace Go.Proofs.YtaaiimackjmcnaaDoor.N
open Go.RowKit Go.Shelf Go.Sort

theorem add_none (b i j : Nat) : (⟨b, i, none⟩ : Addr).add j = ⟨b, i + j, none⟩ := by
  simp [Addr.add]
theorem heap_alloc_new (w : World) (o : Obj) : (w.alloc o).heap[w.heap.size]? = some o := by
  show (w.heap.push o)[w.heap.size]? = _
  simp
theorem conv_dig (x : Int) (h0 : 0 ≤ x) (h1 : x ≤ 255) (b : Nat) (w : World) (hblk : w.heap[b]? = some (.cells #[.int .u8 x] 5)) : (convert 53 9 (.slice (some ⟨b, 0, none⟩) 1 1)).run Tryd.prog w = .ok (.string ⟨#[UInt8.ofNat x.toNat]⟩) w := by
  refine run_convert_bytes_back _ 53 9 5 ⟨b, 0, none⟩ 1 [UInt8.ofNat x.toNat] Tryd.underlying53 Tryd.underlying5 Tryd.underlying9 fun i hi => ?_
  have hi3 : i = 0 := by have : i < 1 := hi; omega
  subst hi3
  rw [add_none]
  simp [World.cell?, hblk]
  omega

/-- What stands behind some rounds: the digits that are written, and those that are to come. -/
structure Fo (N : Nat) (first : Bool) (u : Nat) (l : List UInt8) : Prop where
  todo : first = true ∨ 0 < u → Lib.decDigits N = Lib.decDigits u ++ l
  done : ¬ (first = true ∨ 0 < u) → Lib.decDigits N = l
theorem Fo.start (N : Nat) : Fo N true N [] := ⟨fun _ => by simp, fun h => absurd (.inl rfl) h⟩
theorem dec_big {u : Nat} (h : ¬ u < 10) : Lib.decDigits u = Lib.decDigits (u / 10) ++ [UInt8.ofNat (48 + u % 10)] := by
  rw [Lib.decDigits, dif_neg h]
theorem Fo.step {N : Nat} {first : Bool} {u : Nat} {l : List UInt8} (h : Fo N first u l) (hf : first = true ∨ 0 < u) : Fo N false (u / 10) (UInt8.ofNat (48 + u % 10) :: l) := by
  have e := h.todo hf
  refine ⟨fun h1 => ?_, fun h1 => ?_⟩
  · have hu : ¬ u < 10 := by
      rcases h1 with h1 | h1
      · cases h1
      · omega
    rw [e, dec_big hu]
    simp
  · have hu : u < 10 := by
      have : ¬ 0 < u / 10 := fun h2 => h1 (.inr h2)
      omega
    rw [e, Lib.decDigits_one hu, Nat.mod_eq_of_lt hu]
    rfl

theorem Fo.len {N : Nat} {first : Bool} {u : Nat} {l : List UInt8} (h : Fo N first u l) (hN : N < 18446744073709551616) : l.length ≤ 20 := by
  have h2 : (Lib.decDigits N).length ≤ 20 := by rw [Lib.decDigits_length]; exact Lib.nDigits_le20 N hN
  by_cases hf : first = true ∨ 0 < u
  · have := h.todo hf
    rw [this, List.length_append] at h2
    omega
  · have := h.done hf
    rw [← this]; exact h2
def boolN : Value → Nat
  | .bool true => 1
  | _ => 0
/-- All that a round's head says. -/
def FoAt (N : Nat) (f : Bool) (x : Int) (s : ByteArray) : Prop := ∃ u : Nat, x = (u : Int) ∧ u ≤ 9223372036854775808 ∧ Fo N f u (bl s)
theorem FoAt.step {N : Nat} {f : Bool} {x : Int} {s : ByteArray} (h : FoAt N f x s) (hf : f = true ∨ 0 < x) : FoAt N false (x / 10) ((⟨#[UInt8.ofNat (48 + x % 10).toNat]⟩ : ByteArray) ++ s) := by
  obtain ⟨u, rfl, hu, hF⟩ := h
  refine ⟨u / 10, by omega, by omega, ?_⟩
  rw [bl_app]
  have e : (48 + (u : Int) % 10).toNat = 48 + u % 10 := by omega
  rw [e]
  exact hF.step (hf.imp id (fun h => by omega))
theorem FoAt.lo {N : Nat} {f : Bool} {x : Int} {s : ByteArray} (h : FoAt N f x s) : 0 ≤ x ∧ x ≤ 9223372036854775808 := by
  obtain ⟨u, rfl, hu, _⟩ := h
  omega
theorem FoAt.len {N : Nat} {f : Bool} {x : Int} {s : ByteArray} (h : FoAt N f x s) (hN : N ≤ 9223372036854775808) : s.size ≤ 20 := by
  obtain ⟨u, rfl, hu, hF⟩ := h
  rw [← bl_length]
  exact hF.len (by omega)
theorem FoAt.done {N : Nat} {s : ByteArray} (h : FoAt N false 0 s) : s = ba (Lib.decDigits N) := by
  obtain ⟨u, hu0, hu, hF⟩ := h
  apply bl_inj
  rw [bl_ba, hF.done (by rintro (h | h); cases h; omega)]

set_option maxHeartbeats 1000000 in
set_option maxRecDepth 20000 in
theorem rformat_pos (n : Nat) (hn : n ≤ 9223372036854775807) (w : World) :
    Calls Tryd.prog 13 #[.int .i64 ((n : Int))] w fun e w' => e = .returned (.string (ba (Lib.decDigits n))) ∧ Below w.heap.size w w' := by
  obtain ⟨a0, ha0⟩ : ∃ a0 : Int, a0 = (n : Int) := ⟨_, rfl⟩
  rw [← ha0]
  have h0 : ¬ a0 < 0 := by omega
  have h00 : 0 ≤ a0 := by omega
  have h1 : a0 ≤ 9223372036854775807 := by omega
  have HS : Hid (FoAt n true a0 ⟨#[]⟩) := ⟨n, by omega, by omega, Fo.start n⟩
  have HN : Hid (n ≤ 9223372036854775808) := by unfold Hid; omega
  clear ha0 hn
  go_enter Tryd.func13, Tryd.ntmps13
  go_wp2
  go_loopw [3, 4, 5] (fun vu vs vf wr => ∃ (x : Int) (s : ByteArray) (f : Bool), vu = .int .u64 x ∧ vs = .string s ∧ vf = .bool f ∧ Hid (FoAt n f x s) ∧ Hid (Below w.heap.size w wr)) (fun vu _ vf _ => 2 * (intOf vu).toNat + boolN vf)
  case atStart => exact ⟨_, _, true, rfl, rfl, rfl, HS, Below.refl _ _⟩
  case round =>
    obtain ⟨x, s, f, rfl, rfl, rfl, HF, HB⟩ := hrel
    obtain ⟨hx0, hx1⟩ := HF.out.lo
    have hsz := HF.out.len HN.out
    clear HS
    have hgo : ∀ (hf : f = true ∨ 0 < x), Hid (FoAt n false (x / 10) ((⟨#[UInt8.ofNat (48 + x % 10).toNat]⟩ : ByteArray) ++ s)) := fun hf => HF.out.step hf
    have hcv := conv_dig (48 + x % 10) (by omega) (by omega) wr.heap.size (wr.alloc (.cells #[.int .u8 (48 + x % 10)] 5)) (heap_alloc_new wr _)
    have HB1 : Hid (Below w.heap.size w (wr.alloc (.cells #[.int .u8 (48 + x % 10)] 5))) := HB.out.alloc HB.out.size _
    have hz : ¬ 9223372036854775807 < (⟨#[UInt8.ofNat (48 + x % 10).toNat]⟩ : ByteArray).size + s.size := by
      have : (⟨#[UInt8.ofNat (48 + x % 10).toNat]⟩ : ByteArray).size = 1 := rfl
      omega
    cases f
    · by_cases h : 0 < x
      · have HG := hgo (.inr h)
        clear hgo HF
        go_wp2
        exact ⟨⟨_, _, false, rfl, rfl, rfl, HG, HB1⟩, by simp [intOf, boolN]; omega⟩
      · obtain rfl : x = 0 := by omega
        have HD : Hid (s = ba (Lib.decDigits n)) := HF.out.done
        clear hgo HF hcv HB1 hz
        go_wp2
        go_ret
        exact ⟨by rw [HD.out]; rfl, HB.out⟩
    · have HG := hgo (.inl rfl)
      clear hgo HF
      go_wp2
      exact ⟨⟨_, _, false, rfl, rfl, rfl, HG, HB1⟩, by simp [intOf, boolN]; omega⟩

set_option maxHeartbeats 1000000 in
set_option maxRecDepth 20000 in
theorem rformat_neg (n : Nat) (hn0 : 0 < n) (hn : n ≤ 9223372036854775808) (w : World) :
    Calls Tryd.prog 13 #[.int .i64 (-(n : Int))] w fun e w' => e = .returned (.string (ba (45 :: Lib.decDigits n))) ∧ Below w.heap.size w w' := by
  obtain ⟨a0, ha0⟩ : ∃ a0 : Int, a0 = -(n : Int) := ⟨_, rfl⟩
  rw [← ha0]
  have h0 : a0 < 0 := by omega
  have h1 : -9223372036854775808 ≤ a0 := by omega
  have hw1 : IntKind.u64.wrap a0 = a0 + 18446744073709551616 := by rw [IntKind.wrap_u64]; omega
  have hw2 : IntKind.u64.wrap (-(a0 + 18446744073709551616)) = -a0 := by rw [IntKind.wrap_u64]; omega
  have HS : Hid (FoAt n true (-a0) ⟨#[]⟩) := ⟨n, by omega, by omega, Fo.start n⟩
  have HN : Hid (n ≤ 9223372036854775808) := by unfold Hid; omega
  clear ha0 hn hn0
  go_enter Tryd.func13, Tryd.ntmps13
  go_wp2
  go_loopw [3, 4, 5] (fun vu vs vf wr => ∃ (x : Int) (s : ByteArray) (f : Bool), vu = .int .u64 x ∧ vs = .string s ∧ vf = .bool f ∧ Hid (FoAt n f x s) ∧ Hid (Below w.heap.size w wr)) (fun vu _ vf _ => 2 * (intOf vu).toNat + boolN vf)
  case atStart => exact ⟨_, _, true, rfl, rfl, rfl, HS, Below.refl _ _⟩
  case round =>
    obtain ⟨x, s, f, rfl, rfl, rfl, HF, HB⟩ := hrel
    obtain ⟨hx0, hx1⟩ := HF.out.lo
    have hsz := HF.out.len HN.out
    clear HS
    have hgo : ∀ (hf : f = true ∨ 0 < x), Hid (FoAt n false (x / 10) ((⟨#[UInt8.ofNat (48 + x % 10).toNat]⟩ : ByteArray) ++ s)) := fun hf => HF.out.step hf
    have hcv := conv_dig (48 + x % 10) (by omega) (by omega) wr.heap.size (wr.alloc (.cells #[.int .u8 (48 + x % 10)] 5)) (heap_alloc_new wr _)
    have HB1 : Hid (Below w.heap.size w (wr.alloc (.cells #[.int .u8 (48 + x % 10)] 5))) := HB.out.alloc HB.out.size _
    have hz : ¬ 9223372036854775807 < (⟨#[UInt8.ofNat (48 + x % 10).toNat]⟩ : ByteArray).size + s.size := by
      have : (⟨#[UInt8.ofNat (48 + x % 10).toNat]⟩ : ByteArray).size = 1 := rfl
      omega
    cases f
    · by_cases h : 0 < x
      · have HG := hgo (.inr h)
        clear hgo HF
        go_wp2
        exact ⟨⟨_, _, false, rfl, rfl, rfl, HG, HB1⟩, by simp [intOf, boolN]; omega⟩
      · obtain rfl : x = 0 := by omega
        have HD : Hid (s = ba (Lib.decDigits n)) := HF.out.done
        have hz2 : ¬ 9223372036854775807 < (⟨#[45]⟩ : ByteArray).size + s.size := by
          have : (⟨#[45]⟩ : ByteArray).size = 1 := rfl
          omega
        clear hgo HF hcv HB1 hz
        go_wp2
        go_ret
        exact ⟨by rw [show ba (45 :: Lib.decDigits n) = (⟨#[45]⟩ : ByteArray) ++ s from by rw [HD.out]; apply bl_inj; rw [bl_app, bl_ba, bl_ba]; rfl]; rfl, HB.out⟩
    · have HG := hgo (.inl rfl)
      clear hgo HF
      go_wp2
      exact ⟨⟨_, _, false, rfl, rfl, rfl, HG, HB1⟩, by simp [intOf, boolN]; omega⟩


theorem rformat_any (n : Int) (h0 : -9223372036854775808 ≤ n) (h1 : n ≤ 9223372036854775807) (w : World) :
    Calls Tryd.prog 13 #[.int .i64 n] w fun e w' => e = .returned (.string (ba (Lib.itoa n))) ∧ Below w.heap.size w w' := by
  unfold Lib.itoa
  by_cases h : n < 0
  · rw [if_pos h]
    have := rformat_neg n.natAbs (by omega) (by omega) w
    rw [show (-(n.natAbs : Int)) = n by omega] at this
    exact this
  · rw [if_neg h]
    have := rformat_pos n.toNat (by omega) w
    rw [show ((n.toNat : Nat) : Int) = n by omega] at this
    exact this
end Go.Proofs.YtaaiimackjmcnaaDoor.N
