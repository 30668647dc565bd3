/-
  What burn, add, either, ends and isUse do.
-/
import Derived.Test.YtkelmhpoplbacaaGreatDoorX5
namespace Go.Proofs.YtkelmhpoplbacaaGreatDoor.Ex
open Go.RowKit Go.Shelf

def pan (e : Int) : Ending := .panicked [{ v := .iface 41 (.int .i64 e), recovered := false }]
def pV (b : Nat) : Value := .pointer (some ⟨b, 0, none⟩)

set_option maxHeartbeats 400000 in
theorem either_any (t : Bool) (a c : ByteArray) (w : World) :
    Calls Tryz.prog 181 #[.bool t, .string a, .string c] w fun e w' => e = .returned (.string (if t then a else c)) ∧ w = w' := by
  cases t
  all_goals
    go_enter Tryz.func181, Tryz.ntmps181
    go_wp2
    go_ret
    exact ⟨rfl, rfl⟩

set_option maxHeartbeats 400000 in
theorem burn_ok (b : Nat) (x z : Value) (n f : Nat) (w : World) (hb : w.heap[b]? = some (.cells #[x, .int .i64 (f : Int), z] 203 (0, 0))) (hn : n ≤ f) (hf : f ≤ 10000000) :
    Calls Tryz.prog 173 #[pV b, .int .i64 (n : Int)] w fun e w' => e = .returned (.tuple #[]) ∧ w.setCell ⟨b, 1, none⟩ (.int .i64 ((f - n : Nat) : Int)) = w' := by
  have c1 : w.cell? ⟨b, 1, none⟩ = some (.int .i64 (f : Int)) := V.cell_in hb 1 rfl
  have f1 : w.frozen? ⟨b, 1, none⟩ = false := by simp [World.frozen?, hb]
  have h1 : ¬ (f : Int) < (n : Int) := by omega
  have HE : Hid (((f - n : Nat) : Int) = (f : Int) - (n : Int)) := by unfold Hid; omega
  unfold pV
  clear hb
  go_enter Tryz.func173, Tryz.ntmps173
  go_wp2
  go_end0
  exact ⟨rfl, by rw [HE.out]⟩
set_option maxHeartbeats 400000 in
theorem burn_err (b : Nat) (x z : Value) (n f : Nat) (w : World) (hb : w.heap[b]? = some (.cells #[x, .int .i64 (f : Int), z] 203 (0, 0))) (hn : f < n) :
    Calls Tryz.prog 173 #[pV b, .int .i64 (n : Int)] w fun e w' => e = pan 10 ∧ w = w' := by
  have c1 : w.cell? ⟨b, 1, none⟩ = some (.int .i64 (f : Int)) := V.cell_in hb 1 rfl
  have h1 : (f : Int) < (n : Int) := by omega
  unfold pV pan
  clear hb
  go_enter Tryz.func173, Tryz.ntmps173
  go_wp2
  exact ⟨rfl, rfl, rfl⟩

abbrev IsB (B b : Nat) (o : List UInt8) (w : World) : Prop := Lib.IsBuilderF 186 5 B b (Lib.byteCells o) w
set_option maxHeartbeats 400000 in
theorem add_ok (B b : Nat) (o : List UInt8) (s : ByteArray) (w : World) (h : IsB B b o w) (hB : B ≤ w.heap.size) (hs : s.size ≤ 10000000) (ho : o.length ≤ 10000000) (hl : o.length + s.size ≤ 65536) :
    Calls Tryz.prog 158 #[pV b, .string s] w fun e w' => e = .returned (.tuple #[]) ∧ IsB B b (o ++ bl s) w' ∧ Below B w w' ∧ Lib.OthersKept 5 (some b) w w' := by
  have HL : Hid (Calls Tryz.prog 170 #[.pointer (some ⟨b, 0, none⟩)] w fun e w' => e = .returned (.int .i64 (o.length : Int)) ∧ w = w') := (Tryz.Builder_Len_f B b (Lib.byteCells o) w h).mono fun e w' h => ⟨by rw [h.1, Lib.byteCells_length], h.2.symm⟩
  have HW : Hid (Calls Tryz.prog 99 #[.pointer (some ⟨b, 0, none⟩), .string s] w fun e w' => e = .returned (.tuple #[.int .i64 s.size, .nilIface]) ∧ IsB B b (o ++ bl s) w' ∧ Below B w w' ∧ Lib.OthersKept 5 (some b) w w') :=
    (Tryz.Builder_WriteString_k B b (Lib.byteCells o) s w h (by rw [Lib.byteCells_length]; omega) hB).mono fun e w' h => ⟨h.1, .inr (by rw [Lib.byteCells_append, ← show Lib.strCells s = Lib.byteCells (bl s) from rfl]; exact h.2.1), h.2.2⟩
  have hl2 : ¬ (65536 : Int) < (o.length : Int) + (s.size : Int) := by omega
  obtain ⟨n, hn⟩ : ∃ n, n = o.length := ⟨_, rfl⟩
  rw [← hn] at HL hl2 ho
  unfold pV
  clear h hl hn
  go_enter Tryz.func158, Tryz.ntmps158
  go_wp2_with fail
  refine HL.out.mono ?_
  rintro e w' ⟨rfl, rfl⟩
  go_wp2_with fail
  refine HW.out.mono ?_
  rintro e w' ⟨rfl, h1, h2, h3⟩
  have H1 : Hid (IsB B b (o ++ bl s) w' ∧ Below B w w' ∧ Lib.OthersKept 5 (some b) w w') := ⟨h1, h2, h3⟩
  clear h1 h2 h3
  go_wp2
  go_end0
  exact ⟨rfl, H1.out⟩
set_option maxHeartbeats 400000 in
theorem add_err (B b : Nat) (o : List UInt8) (s : ByteArray) (w : World) (h : IsB B b o w) (hs : s.size ≤ 10000000) (ho : o.length ≤ 10000000) (hl : 65536 < o.length + s.size) :
    Calls Tryz.prog 158 #[pV b, .string s] w fun e w' => e = pan 5 ∧ w = w' := by
  have HL : Hid (Calls Tryz.prog 170 #[.pointer (some ⟨b, 0, none⟩)] w fun e w' => e = .returned (.int .i64 (o.length : Int)) ∧ w = w') := (Tryz.Builder_Len_f B b (Lib.byteCells o) w h).mono fun e w' h => ⟨by rw [h.1, Lib.byteCells_length], h.2.symm⟩
  have hl2 : (65536 : Int) < (o.length : Int) + (s.size : Int) := by omega
  obtain ⟨n, hn⟩ : ∃ n, n = o.length := ⟨_, rfl⟩
  rw [← hn] at HL hl2 ho
  unfold pV pan
  clear h hl hn
  go_enter Tryz.func158, Tryz.ntmps158
  go_wp2_with fail
  refine HL.out.mono ?_
  rintro e w' ⟨rfl, rfl⟩
  go_wp2
  exact ⟨rfl, rfl, rfl⟩

set_option maxHeartbeats 400000 in
theorem ends_any (d : Dl) (w : World) :
    Calls Tryz.prog 171 #[.agg (dlC d).toArray] w fun e w' => e = .returned (.bool (!decide (d.en = 0))) ∧ Below w.heap.size w w' := by
  obtain ⟨fr, en, nf, nt, mf, mt⟩ := d
  by_cases h : en = 0
  · subst h
    unfold dlC
    go_enter Tryz.func171, Tryz.ntmps171
    go_wp2
    go_ret
    exact ⟨rfl, (Below.refl _ _).alloc (Nat.le_refl _) _⟩
  · have h1 : (0 : Int) < (en : Int) := by omega
    have HE : Hid ((!decide (en = 0)) = true) := by unfold Hid; simp [h]
    unfold dlC
    clear h
    go_enter Tryz.func171, Tryz.ntmps171
    go_wp2
    go_ret
    exact ⟨ret_bool (by rw [HE.out]; simp; omega), (Below.refl _ _).alloc (Nat.le_refl _) _⟩
set_option maxHeartbeats 400000 in
theorem isUse_any (d : Dl) (w : World) :
    Calls Tryz.prog 172 #[.agg (dlC d).toArray] w fun e w' => e = .returned (.bool (!decide (d.nf = 0))) ∧ Below w.heap.size w w' := by
  obtain ⟨fr, en, nf, nt, mf, mt⟩ := d
  by_cases h : nf = 0
  · subst h
    unfold dlC
    go_enter Tryz.func172, Tryz.ntmps172
    go_wp2
    go_ret
    exact ⟨rfl, (Below.refl _ _).alloc (Nat.le_refl _) _⟩
  · have h1 : (0 : Int) < (nf : Int) := by omega
    have HE : Hid ((!decide (nf = 0)) = true) := by unfold Hid; simp [h]
    unfold dlC
    clear h
    go_enter Tryz.func172, Tryz.ntmps172
    go_wp2
    go_ret
    exact ⟨ret_bool (by rw [HE.out]; simp; omega), (Below.refl _ _).alloc (Nat.le_refl _) _⟩
end Go.Proofs.YtkelmhpoplbacaaGreatDoor.Ex
