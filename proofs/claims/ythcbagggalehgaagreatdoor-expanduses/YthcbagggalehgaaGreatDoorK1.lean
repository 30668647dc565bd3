/-
  What a text means, told as the program does it; where a piece would not lie in the text nothing is told. What burn, add, either, ends and isUse do. More of the library's contracts that this seat uses, laid at this program. A work in memory, and what variable does, given what text does. What variable and use do, given what text does. What variable and use do, as the plain functions tell. What a use does, as the plain function tells.
-/
import Derived.Test.YthcbagggalehgaaGreatDoorE3
import Derived.Test.YthcbagggalehgaaGreatDoorX5
import Derived.Shelf.Slices.Turned
import Derived.Test.YthcbagggalehgaaGreatDoorProg
namespace Go.Proofs.YthcbagggalehgaaGreatDoor.Ex
open Go.RowKit Go.Shelf

def endG (s made : ByteArray) (at_ en : Nat) (left : List Dl) (fuel : Nat) : Mes :=
  if at_ ≤ en ∧ en ≤ s.size then addF made (s.extract at_ en) fun r => .ok r left fuel else .bad
def meanG (ev : Env) (tx : List ByteArray → Nat → ByteArray → Res) (within : List ByteArray) (s : ByteArray) : Nat → ByteArray → Nat → Nat → List Dl → Nat → Mes
  | 0, _, _, _, _, _ => .bad
  | n + 1, made, at_, en, left, fuel =>
    match left with
    | [] => endG s made at_ en [] fuel
    | d :: rest =>
      if d.fr < en then
        if at_ ≤ d.fr ∧ d.fr ≤ s.size then
          addF made (s.extract at_ d.fr) fun m1 =>
            (dollarF ev tx within (fun a b l f => meanG ev tx within s n E0 a b l f) d rest fuel).and fun r l2 f2 =>
              addF m1 r fun m2 => meanG ev tx within s n m2 d.en en l2 f2
        else .bad
      else endG s made at_ en (d :: rest) fuel
def textG (ev : Env) : Nat → List ByteArray → Nat → ByteArray → Res
  | 0, _, _, _ => .bad
  | k + 1, within, fuel, s => (meanG ev (textG ev k) within s ((scanL (bl s)).length + 1) E0 0 s.size (scanL (bl s)) fuel).res

theorem end_len {s made : ByteArray} {at_ en : Nat} {left l : List Dl} {fuel f : Nat} {r : ByteArray} (h : endG s made at_ en left fuel = .ok r l f) : l = left := by
  unfold endG addF at h
  split at h
  · split at h
    · cases h
    · cases h; rfl
  · cases h
theorem mean_len (ev : Env) (tx : List ByteArray → Nat → ByteArray → Res) (within : List ByteArray) (s : ByteArray) : ∀ (n : Nat) (made : ByteArray) (at_ en : Nat) (left : List Dl) (fuel : Nat) (r : ByteArray) (l : List Dl) (f : Nat), meanG ev tx within s n made at_ en left fuel = .ok r l f → l.length ≤ left.length := by
  intro n
  induction n with
  | zero => intro made at_ en left fuel r l f h; cases h
  | succ n ih =>
    intro made at_ en left fuel r l f h
    unfold meanG at h
    cases left with
    | nil => rw [end_len h]; exact Nat.le_refl _
    | cons d rest =>
      dsimp only at h
      by_cases h1 : d.fr < en
      · rw [if_pos h1] at h
        by_cases h2 : at_ ≤ d.fr ∧ d.fr ≤ s.size
        · rw [if_pos h2] at h
          unfold addF at h
          split at h
          · cases h
          · cases hd : dollarF ev tx within (fun a b l f => meanG ev tx within s n E0 a b l f) d rest fuel with
            | err e => rw [hd] at h; cases h
            | bad => rw [hd] at h; cases h
            | ok r2 l2 f2 =>
              rw [hd] at h
              dsimp only [Mes.and] at h
              split at h
              · cases h
              · have h3 := ih _ _ _ _ _ _ _ _ h
                have h4 : l2.length ≤ rest.length := by
                  unfold dollarF at hd
                  split at hd
                  · cases hd
                  · split at hd
                    · cases hd; exact Nat.le_refl _
                    · split at hd
                      · cases hd
                      · dsimp only at hd
                        cases hm1 : meanG ev tx within s n E0 d.nf d.nt rest (fuel - 1) with
                        | err e => rw [hm1] at hd; cases hd
                        | bad => rw [hm1] at hd; cases hd
                        | ok a1 b1 c1 =>
                          rw [hm1] at hd
                          dsimp only [Mes.and] at hd
                          have e1 := ih _ _ _ _ _ _ _ _ hm1
                          cases hm2 : meanG ev tx within s n E0 d.mf d.mt b1 c1 with
                          | err e => rw [hm2] at hd; cases hd
                          | bad => rw [hm2] at hd; cases hd
                          | ok a2 b2 c2 =>
                            rw [hm2] at hd
                            dsimp only at hd
                            have e2 := ih _ _ _ _ _ _ _ _ hm2
                            cases hu : useF ev tx within c2 a1 a2 with
                            | err e => rw [hu] at hd; cases hd
                            | bad => rw [hu] at hd; cases hd
                            | ok a3 c3 => rw [hu] at hd; cases hd; omega
                rw [List.length_cons]; omega
        · rw [if_neg h2] at h; cases h
      · rw [if_neg h1] at h
        rw [end_len h]; exact Nat.le_refl _
end Go.Proofs.YthcbagggalehgaaGreatDoor.Ex
namespace Go.Proofs.YthcbagggalehgaaGreatDoor.Ex
open Go.RowKit Go.Shelf

def pan (e : Int) : Ending := .panicked [{ v := .iface 24 (.int .i64 e), recovered := false }]
def pV (b : Nat) : Value := .pointer (some ⟨b, 0, none⟩)

set_option maxHeartbeats 400000 in
theorem either_any (t : Bool) (a c : ByteArray) (w : World) :
    Calls Tryz.prog 79 #[.bool t, .string a, .string c] w fun e w' => e = .returned (.string (if t then a else c)) ∧ w = w' := by
  cases t
  all_goals
    go_enter Tryz.func79, Tryz.ntmps79
    go_wp2
    go_ret
    exact ⟨rfl, rfl⟩

set_option maxHeartbeats 400000 in
theorem burn_ok (b : Nat) (x z : Value) (n f : Nat) (w : World) (hb : w.heap[b]? = some (.cells #[x, .int .i64 (f : Int), z] 71 (0, 0))) (hn : n ≤ f) (hf : f ≤ 10000000) :
    Calls Tryz.prog 68 #[pV b, .int .i64 (n : Int)] w fun e w' => e = .returned (.tuple #[]) ∧ w.setCell ⟨b, 1, none⟩ (.int .i64 ((f - n : Nat) : Int)) = w' := by
  have c1 : w.cell? ⟨b, 1, none⟩ = some (.int .i64 (f : Int)) := V.cell_in hb 1 rfl
  have f1 : w.frozen? ⟨b, 1, none⟩ = false := by simp [World.frozen?, hb]
  have h1 : ¬ (f : Int) < (n : Int) := by omega
  have HE : Hid (((f - n : Nat) : Int) = (f : Int) - (n : Int)) := by unfold Hid; omega
  unfold pV
  clear hb
  go_enter Tryz.func68, Tryz.ntmps68
  go_wp2
  go_end0
  exact ⟨rfl, by rw [HE.out]⟩
set_option maxHeartbeats 400000 in
theorem burn_err (b : Nat) (x z : Value) (n f : Nat) (w : World) (hb : w.heap[b]? = some (.cells #[x, .int .i64 (f : Int), z] 71 (0, 0))) (hn : f < n) :
    Calls Tryz.prog 68 #[pV b, .int .i64 (n : Int)] w fun e w' => e = pan 10 ∧ w = w' := by
  have c1 : w.cell? ⟨b, 1, none⟩ = some (.int .i64 (f : Int)) := V.cell_in hb 1 rfl
  have h1 : (f : Int) < (n : Int) := by omega
  unfold pV pan
  clear hb
  go_enter Tryz.func68, Tryz.ntmps68
  go_wp2
  exact ⟨rfl, rfl, rfl⟩

abbrev IsB (B b : Nat) (o : List UInt8) (w : World) : Prop := Lib.IsBuilderF 92 5 B b (Lib.byteCells o) w
set_option maxHeartbeats 400000 in
theorem add_ok (B b : Nat) (o : List UInt8) (s : ByteArray) (w : World) (h : IsB B b o w) (hB : B ≤ w.heap.size) (hs : s.size ≤ 10000000) (ho : o.length ≤ 10000000) (hl : o.length + s.size ≤ 65536) :
    Calls Tryz.prog 58 #[pV b, .string s] w fun e w' => e = .returned (.tuple #[]) ∧ IsB B b (o ++ bl s) w' ∧ Below B w w' ∧ Lib.OthersKept 5 (some b) w w' := by
  have HL : Hid (Calls Tryz.prog 67 #[.pointer (some ⟨b, 0, none⟩)] w fun e w' => e = .returned (.int .i64 (o.length : Int)) ∧ w = w') := (Tryz.Builder_Len_f B b (Lib.byteCells o) w h).mono fun e w' h => ⟨by rw [h.1, Lib.byteCells_length], h.2.symm⟩
  have HW : Hid (Calls Tryz.prog 48 #[.pointer (some ⟨b, 0, none⟩), .string s] w fun e w' => e = .returned (.tuple #[.int .i64 s.size, .nilIface]) ∧ IsB B b (o ++ bl s) w' ∧ Below B w w' ∧ Lib.OthersKept 5 (some b) w w') :=
    (Tryz.Builder_WriteString_k B b (Lib.byteCells o) s w h (by rw [Lib.byteCells_length]; omega) hB).mono fun e w' h => ⟨h.1, .inr (by rw [Lib.byteCells_append, ← show Lib.strCells s = Lib.byteCells (bl s) from rfl]; exact h.2.1), h.2.2⟩
  have hl2 : ¬ (65536 : Int) < (o.length : Int) + (s.size : Int) := by omega
  obtain ⟨n, hn⟩ : ∃ n, n = o.length := ⟨_, rfl⟩
  rw [← hn] at HL hl2 ho
  unfold pV
  clear h hl hn
  go_enter Tryz.func58, Tryz.ntmps58
  go_wp2_with fail
  refine HL.out.mono ?_
  rintro e w' ⟨rfl, rfl⟩
  go_wp2_with fail
  refine HW.out.mono ?_
  rintro e w' ⟨rfl, h1, h2, h3⟩
  have H1 : Hid (IsB B b (o ++ bl s) w' ∧ Below B w w' ∧ Lib.OthersKept 5 (some b) w w') := ⟨h1, h2, h3⟩
  clear h1 h2 h3
  go_wp2
  go_end0
  exact ⟨rfl, H1.out⟩
set_option maxHeartbeats 400000 in
theorem add_err (B b : Nat) (o : List UInt8) (s : ByteArray) (w : World) (h : IsB B b o w) (hs : s.size ≤ 10000000) (ho : o.length ≤ 10000000) (hl : 65536 < o.length + s.size) :
    Calls Tryz.prog 58 #[pV b, .string s] w fun e w' => e = pan 5 ∧ w = w' := by
  have HL : Hid (Calls Tryz.prog 67 #[.pointer (some ⟨b, 0, none⟩)] w fun e w' => e = .returned (.int .i64 (o.length : Int)) ∧ w = w') := (Tryz.Builder_Len_f B b (Lib.byteCells o) w h).mono fun e w' h => ⟨by rw [h.1, Lib.byteCells_length], h.2.symm⟩
  have hl2 : (65536 : Int) < (o.length : Int) + (s.size : Int) := by omega
  obtain ⟨n, hn⟩ : ∃ n, n = o.length := ⟨_, rfl⟩
  rw [← hn] at HL hl2 ho
  unfold pV pan
  clear h hl hn
  go_enter Tryz.func58, Tryz.ntmps58
  go_wp2_with fail
  refine HL.out.mono ?_
  rintro e w' ⟨rfl, rfl⟩
  go_wp2
  exact ⟨rfl, rfl, rfl⟩

set_option maxHeartbeats 400000 in
theorem ends_any (d : Dl) (w : World) :
    Calls Tryz.prog 21 #[.agg (dlC d).toArray] w fun e w' => e = .returned (.bool (!decide (d.en = 0))) ∧ Below w.heap.size w w' := by
  obtain ⟨fr, en, nf, nt, mf, mt⟩ := d
  by_cases h : en = 0
  · subst h
    unfold dlC
    go_enter Tryz.func21, Tryz.ntmps21
    go_wp2
    go_ret
    exact ⟨rfl, (Below.refl _ _).alloc (Nat.le_refl _) _⟩
  · have h1 : (0 : Int) < (en : Int) := by omega
    have HE : Hid ((!decide (en = 0)) = true) := by unfold Hid; simp [h]
    unfold dlC
    clear h
    go_enter Tryz.func21, Tryz.ntmps21
    go_wp2
    go_ret
    exact ⟨ret_bool (by rw [HE.out]; simp; omega), (Below.refl _ _).alloc (Nat.le_refl _) _⟩
set_option maxHeartbeats 400000 in
theorem isUse_any (d : Dl) (w : World) :
    Calls Tryz.prog 22 #[.agg (dlC d).toArray] w fun e w' => e = .returned (.bool (!decide (d.nf = 0))) ∧ Below w.heap.size w w' := by
  obtain ⟨fr, en, nf, nt, mf, mt⟩ := d
  by_cases h : nf = 0
  · subst h
    unfold dlC
    go_enter Tryz.func22, Tryz.ntmps22
    go_wp2
    go_ret
    exact ⟨rfl, (Below.refl _ _).alloc (Nat.le_refl _) _⟩
  · have h1 : (0 : Int) < (nf : Int) := by omega
    have HE : Hid ((!decide (nf = 0)) = true) := by unfold Hid; simp [h]
    unfold dlC
    clear h
    go_enter Tryz.func22, Tryz.ntmps22
    go_wp2
    go_ret
    exact ⟨ret_bool (by rw [HE.out]; simp; omega), (Below.refl _ _).alloc (Nat.le_refl _) _⟩
end Go.Proofs.YthcbagggalehgaaGreatDoor.Ex
namespace Go.Proofs
open Go.Shelf
def Tryz.lays109_ren : Go.Shelf.Ren := ⟨fun | 109 => 100 | n => n, fun | 31 => 23 | 9 => 9 | 3 => 3 | 0 => 0 | 4 => 4 | n => n, fun | n => n⟩
theorem Tryz.lays109 : Go.Proofs.Lays.n109 Tryz.prog Tryz.lays109_ren := {
  mixed := by kernel_rfl
  f109 := Tryz.func100.trans (congrArg some (by kernel_rfl))
  t0 := Tryz.underlying0
  a0 := Tryz.isAgg0
  z0 := Tryz.sizeOf0
  v0 := Tryz.zeroValue0
  t3 := Tryz.underlying3
  a3 := Tryz.isAgg3
  z3 := Tryz.sizeOf3
  v3 := Tryz.zeroValue3
  t4 := Tryz.underlying4
  a4 := Tryz.isAgg4
  z4 := Tryz.sizeOf4
  v4 := Tryz.zeroValue4
  t9 := Tryz.underlying9
  a9 := Tryz.isAgg9
  z9 := Tryz.sizeOf9
  v9 := Tryz.zeroValue9
  t31 := Tryz.underlying23
  a31 := Tryz.isAgg23
  z31 := Tryz.sizeOf23
  v31 := Tryz.zeroValue23 }
open Go.Lib in
theorem Tryz.slices_Index_string (b off n c : Nat) (zs : List ByteArray) (x : ByteArray) (w : World) (hz : n ≤ zs.length) (hbig : n ≤ 9223372036854775807) (hc : ∀ j, j < zs.length → w.cell? ⟨b, off + j, none⟩ = some (.string (zs.getD j ByteArray.empty))) :
    Calls Tryz.prog 100 #[.slice (some ⟨b, off, none⟩) n c, .string x] w fun e w' => e = .returned (.int .i64 (Lib.idxOfS (zs.take n) x)) ∧ w' = w := Any.slices_Index_string Tryz.lays109 b off n c zs x w hz hbig hc
open Go.Lib in
theorem Tryz.slices_Index_string_empty (a : Option Addr) (c : Nat) (x : ByteArray) (w : World) :
    Calls Tryz.prog 100 #[.slice a 0 c, .string x] w fun e w' => e = .returned (.int .i64 (Lib.idxOfS [] x)) ∧ w' = w := Any.slices_Index_string_empty Tryz.lays109 a c x w
def Tryz.lays110_ren : Go.Shelf.Ren := ⟨fun | 110 => 92 | 109 => 100 | n => n, fun | 31 => 23 | 9 => 9 | 4 => 4 | 3 => 3 | 0 => 0 | n => n, fun | n => n⟩
theorem Tryz.lays110 : Go.Proofs.Lays.n110 Tryz.prog Tryz.lays110_ren := {
  mixed := by kernel_rfl
  f109 := Tryz.func100.trans (congrArg some (by kernel_rfl))
  f110 := Tryz.func92.trans (congrArg some (by kernel_rfl))
  t0 := Tryz.underlying0
  a0 := Tryz.isAgg0
  z0 := Tryz.sizeOf0
  v0 := Tryz.zeroValue0
  t3 := Tryz.underlying3
  a3 := Tryz.isAgg3
  z3 := Tryz.sizeOf3
  v3 := Tryz.zeroValue3
  t4 := Tryz.underlying4
  a4 := Tryz.isAgg4
  z4 := Tryz.sizeOf4
  v4 := Tryz.zeroValue4
  t9 := Tryz.underlying9
  a9 := Tryz.isAgg9
  z9 := Tryz.sizeOf9
  v9 := Tryz.zeroValue9
  t31 := Tryz.underlying23
  a31 := Tryz.isAgg23
  z31 := Tryz.sizeOf23
  v31 := Tryz.zeroValue23 }
open Go.Lib in
theorem Tryz.slices_Contains_string (b off n c : Nat) (zs : List ByteArray) (x : ByteArray) (w : World) (hz : n ≤ zs.length) (hbig : n ≤ 9223372036854775807) (hc : ∀ j, j < zs.length → w.cell? ⟨b, off + j, none⟩ = some (.string (zs.getD j ByteArray.empty))) :
    Calls Tryz.prog 92 #[.slice (some ⟨b, off, none⟩) n c, .string x] w fun e w' => e = .returned (.bool (Lib.containsS (zs.take n) x)) ∧ w' = w := Any.slices_Contains_string Tryz.lays110 b off n c zs x w hz hbig hc
open Go.Lib in
theorem Tryz.slices_Contains_string_empty (a : Option Addr) (c : Nat) (x : ByteArray) (w : World) :
    Calls Tryz.prog 92 #[.slice a 0 c, .string x] w fun e w' => e = .returned (.bool false) ∧ w' = w := Any.slices_Contains_string_empty Tryz.lays110 a c x w
end Go.Proofs
namespace Go.Proofs.YthcbagggalehgaaGreatDoor.Ex
open Go.RowKit Go.Shelf

structure WkAt (B bw : Nat) (pv : Value) (fuel : Nat) (vw : Value) (within : List ByteArray) (w : World) : Prop where
  blk : w.heap[bw]? = some (.cells #[pv, .int .i64 (fuel : Int), vw] 71 (0, 0))
  row : w.ownsRow B 9 1 vw within.length (within.map Value.string)
  hb : B ≤ bw
def FD (bw : Nat) (vw : Value) : Nat → Prop := fun j => j = bw ∨ vw.ownBlock = some j
def Moved (vw vw' : Value) (w : World) : Prop := ∀ g, vw'.ownBlock = some g → vw.ownBlock = some g ∨ w.heap.size ≤ g
def ResPost (B bw : Nat) (pv : Value) (within : List ByteArray) (vw : Value) (w : World) (r : Res) (e : Ending) (w' : World) : Prop :=
  match r with
  | .ok u f => e = .returned (.string u) ∧ u.size ≤ 1000000 ∧ f ≤ 10000000 ∧ ∃ vw', WkAt B bw pv f vw' within w' ∧ Fr (FD bw vw) w w' ∧ Moved vw vw' w
  | .err x => e = pan x ∧ Below B w w'
  | .bad => True
section
variable {B bw : Nat} {pv : Value} {fuel : Nat} {vw : Value} {within : List ByteArray} {w w' : World}
theorem WkAt.lt (h : WkAt B bw pv fuel vw within w) : bw < w.heap.size := (Array.getElem?_eq_some_iff.1 h.blk).1
theorem WkAt.low (h : WkAt B bw pv fuel vw within w) : B ≤ w.heap.size := by have := h.lt; have := h.hb; omega
theorem WkAt.nw (h : WkAt B bw pv fuel vw within w) : vw.ownBlock ≠ some bw := row_ne' h.row h.blk (by decide)
theorem WkAt.fd (h : WkAt B bw pv fuel vw within w) : ∀ j, FD bw vw j → B ≤ j := fun j e => by
  rcases e with e | e
  · rw [e]; exact h.hb
  · exact (h.row.lt j e).1
theorem WkAt.below (h : WkAt B bw pv fuel vw within w) (hb : Below w.heap.size w w') : WkAt B bw pv fuel vw within w' :=
  ⟨(hb.block bw h.lt).trans h.blk, owns_below h.row hb, h.hb⟩
theorem WkAt.burn (h : WkAt B bw pv fuel vw within w) (f : Nat) : WkAt B bw pv f vw within (w.setCell ⟨bw, 1, none⟩ (.int .i64 (f : Int))) :=
  ⟨heap_set h.blk _, row_set h.row h.nw _, h.hb⟩
theorem WkAt.fr_low (h : WkAt B bw pv fuel vw within w) (hf : Fr (FD bw vw) w w') : Below B w w' := hf.below h.low h.fd
theorem Moved.refl (vw : Value) (w : World) : Moved vw vw w := fun _ h => .inl h
/-- Two turns, one behind the other. -/
theorem Fr.next {v1 : Value} {w1 w2 : World} (h1 : Fr (FD bw vw) w w1) (hm : Moved vw v1 w) (h2 : Fr (FD bw v1) w1 w2) : Fr (FD bw vw) w w2 :=
  ⟨h2.os.trans h1.os, h2.tape.trans h1.tape, h2.output.trans h1.output, Nat.le_trans h1.size h2.size, fun j hj hD => (h2.block j (Nat.lt_of_lt_of_le hj h1.size) (fun e => hD (by
    rcases e with e | e
    · exact .inl e
    · rcases hm j e with e | e
      · exact .inr e
      · omega))).trans (h1.block j hj hD)⟩
theorem Moved.next {v1 v2 : Value} {w1 : World} (h1 : Moved vw v1 w) (hs : w.heap.size ≤ w1.heap.size) (h2 : Moved v1 v2 w1) : Moved vw v2 w := fun g hg => by
  rcases h2 g hg with h | h
  · exact h1 g h
  · exact .inr (Nat.le_trans hs h)
end
/-- What text does, where it is known. -/
def TextC (B : Nat) (w0 : World) (bw : Nat) (pv : Value) (tx : List ByteArray → Nat → ByteArray → Res) : Prop :=
  ∀ (within : List ByteArray) (fuel : Nat) (s : ByteArray) (vw : Value) (W : World), WkAt B bw pv fuel vw within W → Below B w0 W → s.size ≤ 1000000 → fuel ≤ 10000000 → within.length ≤ 32 → tx within fuel s ≠ .bad →
    Calls Tryz.prog 33 #[pV bw, .string s] W (ResPost B bw pv within vw W (tx within fuel s))
theorem infoS : (Tryz.prog.info? 9).map (fun i => (i.zero, i.size, i.bytes)) = some (some (.string ⟨#[]⟩), 1, 16) := by kernel_rfl
theorem isIn_lib (l : List ByteArray) (x : ByteArray) : Lib.containsS l x = isIn l x := by
  rw [Bool.eq_iff_iff, Lib.containsS_iff]
  unfold isIn
  rw [List.any_eq_true]
  constructor
  · intro h; exact ⟨x, h, by simp⟩
  · rintro ⟨y, h1, h2⟩; simp at h2; subst h2; exact h1
theorem contains_any {B : Nat} {vw : Value} {l : List ByteArray} {w : World} (h : w.ownsRow B 9 1 vw l.length (l.map Value.string)) (x : ByteArray) (hl : l.length ≤ 1000) : Calls Tryz.prog 92 #[vw, .string x] w fun e w' => e = .returned (.bool (isIn l x)) ∧ w = w' := by
  rcases V.row_src h with ⟨h1, h2, _⟩ | ⟨g, cap, hv, _, _, hxl, hc⟩
  · have : l = [] := List.length_eq_zero_iff.1 h2
    subst this h1
    refine (Tryz.slices_Contains_string_empty none 0 x w).mono fun e w' h => ⟨?_, h.2.symm⟩
    rw [h.1]; rfl
  · subst hv
    refine (Tryz.slices_Contains_string g 0 l.length cap l x w (Nat.le_refl _) (by omega) (fun j hj => ?_)).mono fun e w' h => ⟨?_, h.2.symm⟩
    · have := hc j (.string l[j]) (by simp [hj])
      rw [V.add_none] at this
      rw [this]
      simp [List.getD_eq_getElem?_getD, hj]
    · rw [h.1, List.take_of_length_le (Nat.le_refl _), isIn_lib]

/-- A name more. -/
theorem WkAt.push {B bw : Nat} {pv : Value} {fuel : Nat} {vw v2 : Value} {within : List ByteArray} {name : ByteArray} {w w2 : World} (h : WkAt B bw pv fuel vw within w) (hf : Fr (fun j => vw.ownBlock = some j) w w2) (hown : w2.ownsRow B 9 1 v2 (within.length + 1) (within.map Value.string ++ [.string name])) (hm : Moved vw v2 w) :
    WkAt B bw pv fuel v2 (within ++ [name]) (w2.setCell ⟨bw, 2, none⟩ v2) ∧ Fr (FD bw vw) w (w2.setCell ⟨bw, 2, none⟩ v2) ∧ Moved vw v2 w := by
  have hblk := (hf.block bw h.lt h.nw).trans h.blk
  refine ⟨⟨heap_set hblk _, row_set ?_ (row_ne' hown hblk (by decide)) _, h.hb⟩, (hf.mono (fun j _ e => .inr e)).trans (Fr.set bw 2 _ _ (.inl rfl)), hm⟩
  rw [List.length_append, List.length_singleton, List.map_append]; exact hown
/-- A name less. -/
theorem WkAt.pop {B bw : Nat} {pv : Value} {fuel : Nat} {within : List ByteArray} {name : ByteArray} {g cap : Nat} {w : World} (h : WkAt B bw pv fuel (.slice (some ⟨g, 0, none⟩) (within.length + 1) cap) (within ++ [name]) w) : WkAt B bw pv fuel (.slice (some ⟨g, 0, none⟩) within.length cap) within (w.setCell ⟨bw, 2, none⟩ (.slice (some ⟨g, 0, none⟩) within.length cap)) := by
  have hrow := h.row
  rw [List.length_append, List.length_singleton, List.map_append] at hrow
  have := owns_pop hrow (by simp)
  exact ⟨heap_set h.blk _, row_set this h.nw _, h.hb⟩

section
variable {B : Nat} {w0 : World} {bw : Nat} {pv : Value} {tx : List ByteArray → Nat → ByteArray → Res}
set_option maxHeartbeats 800000 in
theorem var_deep (within : List ByteArray) (fuel : Nat) (name v : ByteArray) (vw : Value) (W : World) (h : WkAt B bw pv fuel vw within W) (hl : within.length = 32) :
    Calls Tryz.prog 80 #[pV bw, .string name, .string v] W fun e w' => e = pan 11 ∧ W = w' := by
  obtain ⟨a, c, hv⟩ := V.owns_slice h.row
  rw [hl] at hv
  subst hv
  have c2 : W.cell? ⟨bw, 2, none⟩ = some (.slice a 32 c) := V.cell_in h.blk 2 rfl
  unfold pV pan
  clear h hl
  go_enter Tryz.func80, Tryz.ntmps80
  go_wp2
  exact ⟨rfl, rfl, rfl⟩
set_option maxHeartbeats 800000 in
theorem var_loop (within : List ByteArray) (fuel : Nat) (name v : ByteArray) (vw : Value) (W : World) (h : WkAt B bw pv fuel vw within W) (hl : within.length < 32) (hi : isIn within name = true) :
    Calls Tryz.prog 80 #[pV bw, .string name, .string v] W fun e w' => e = pan 11 ∧ W = w' := by
  have HC : Hid (Calls Tryz.prog 92 #[vw, .string name] W fun e w' => e = .returned (.bool true) ∧ W = w') := by
    have := contains_any h.row name (by omega); rw [hi] at this; exact this
  obtain ⟨a, c, hv⟩ := V.owns_slice h.row
  have c2 : W.cell? ⟨bw, 2, none⟩ = some vw := V.cell_in h.blk 2 rfl
  subst hv
  obtain ⟨n, hn⟩ : ∃ n, n = within.length := ⟨_, rfl⟩
  rw [← hn] at HC c2 hl
  have h1 : ¬ (n : Int) = 32 := by omega
  have h1b : ((n : Int) == 32) = false := by rw [beq_eq_false_iff_ne]; exact h1
  unfold pV pan
  clear h hn hi hl
  go_enter Tryz.func80, Tryz.ntmps80
  go_wp2_with fail
  refine HC.out.mono ?_
  rintro e w' ⟨rfl, rfl⟩
  go_wp2
  exact ⟨rfl, rfl, rfl⟩
set_option maxHeartbeats 800000 in
theorem var_fuel (within : List ByteArray) (fuel : Nat) (name v : ByteArray) (vw : Value) (W : World) (h : WkAt B bw pv fuel vw within W) (hl : within.length < 32) (hi : isIn within name = false) (hf : fuel < v.size) :
    Calls Tryz.prog 80 #[pV bw, .string name, .string v] W fun e w' => e = pan 10 ∧ W = w' := by
  have HC : Hid (Calls Tryz.prog 92 #[vw, .string name] W fun e w' => e = .returned (.bool false) ∧ W = w') := by
    have := contains_any h.row name (by omega); rw [hi] at this; exact this
  have HB : Hid (Calls Tryz.prog 68 #[pV bw, .int .i64 (v.size : Int)] W fun e w' => e = pan 10 ∧ W = w') := burn_err bw _ _ v.size fuel W h.blk hf
  obtain ⟨a, c, hv⟩ := V.owns_slice h.row
  have c2 : W.cell? ⟨bw, 2, none⟩ = some vw := V.cell_in h.blk 2 rfl
  subst hv
  obtain ⟨n, hn⟩ : ∃ n, n = within.length := ⟨_, rfl⟩
  rw [← hn] at HC c2 hl
  have h1 : ¬ (n : Int) = 32 := by omega
  have h1b : ((n : Int) == 32) = false := by rw [beq_eq_false_iff_ne]; exact h1
  unfold pV at HB ⊢
  unfold pan at HB ⊢
  clear h hn hi hl
  go_enter Tryz.func80, Tryz.ntmps80
  go_wp2_with fail
  refine HC.out.mono ?_
  rintro e w' ⟨rfl, rfl⟩
  go_wp2_with fail
  refine HB.out.mono ?_
  rintro e w' ⟨rfl, rfl⟩
  go_wp2
  exact ⟨rfl, rfl, rfl⟩
end
end Go.Proofs.YthcbagggalehgaaGreatDoor.Ex
namespace Go.Proofs.YthcbagggalehgaaGreatDoor.Ex
open Go.RowKit Go.Shelf

section
variable {B : Nat} {w0 : World} {bw : Nat} {pv : Value} {tx : List ByteArray → Nat → ByteArray → Res}
theorem cell_one (w : World) (T : TypeId) (x : ByteArray) : ∀ j u, ([.string x] : List Value)[j]? = some u → (w.alloc (.cells #[.string x] T)).cell? ((⟨w.heap.size, 0, none⟩ : Addr).add j) = some u := by
  intro j u hj
  match j, hj with
  | 0, hj => simp at hj; subst hj; simp [Addr.add]
set_option maxRecDepth 20000 in
set_option maxHeartbeats 1600000 in
theorem var_go (hT : TextC B w0 bw pv tx) (within : List ByteArray) (fuel : Nat) (name v : ByteArray) (vw : Value) (W : World) (h : WkAt B bw pv fuel vw within W) (hW : Below B w0 W) (hl : within.length < 32) (hi : isIn within name = false) (hf : v.size ≤ fuel) (hfu : fuel ≤ 10000000) (hv : v.size ≤ 1000000) (r : Res) (hr : r = tx (within ++ [name]) (fuel - v.size) v) (hbad : r ≠ .bad) :
    Calls Tryz.prog 80 #[pV bw, .string name, .string v] W (ResPost B bw pv within vw W r) := by
  obtain ⟨i0, hi0, hz0, hz1, hz2⟩ := info_of infoS
  have HC : Hid (Calls Tryz.prog 92 #[vw, .string name] W fun e w' => e = .returned (.bool false) ∧ W = w') := by
    have := contains_any h.row name (by omega); rw [hi] at this; exact this
  obtain ⟨f2, hf2⟩ : ∃ f2, f2 = fuel - v.size := ⟨_, rfl⟩
  have HB : Hid (Calls Tryz.prog 68 #[pV bw, .int .i64 (v.size : Int)] W fun e w' => e = .returned (.tuple #[]) ∧ W.setCell ⟨bw, 1, none⟩ (.int .i64 (f2 : Int)) = w') := by rw [hf2]; exact burn_ok bw _ _ v.size fuel W h.blk hf hfu
  obtain ⟨a, c, hvw⟩ := V.owns_slice h.row
  have c2 : W.cell? ⟨bw, 2, none⟩ = some vw := V.cell_in h.blk 2 rfl
  obtain ⟨w1, hw1⟩ : ∃ w1, w1 = W.setCell ⟨bw, 1, none⟩ (.int .i64 (f2 : Int)) := ⟨_, rfl⟩
  have H1 : Hid (WkAt B bw pv f2 vw within w1 ∧ Fr (FD bw vw) W w1 ∧ Below B w0 w1) := by
    have h1 := h.burn f2
    rw [← hw1] at h1
    have h2 : Fr (FD bw vw) W w1 := by rw [hw1]; exact Fr.set bw 1 W _ (.inl rfl)
    exact ⟨h1, h2, hW.trans (h.fr_low h2)⟩
  rw [← hw1] at HB
  have d2 : w1.cell? ⟨bw, 2, none⟩ = some vw := V.cell_in H1.out.1.blk 2 rfl
  have hbl := H1.out.1.lt
  have hlow := H1.out.1.low
  have hrow := H1.out.1.row
  obtain ⟨n, hn⟩ : ∃ n, n = within.length := ⟨_, rfl⟩
  have HN : Hid (n = within.length) := hn
  rw [← hn] at hvw hl hrow
  subst hvw
  have h1 : ¬ (n : Int) = 32 := by omega
  have h1b : ((n : Int) == 32) = false := by rw [beq_eq_false_iff_ne]; exact h1
  have HT : Hid (∀ vw2 W2, WkAt B bw pv f2 vw2 (within ++ [name]) W2 → Below B w0 W2 → Calls Tryz.prog 33 #[pV bw, .string v] W2 (ResPost B bw pv (within ++ [name]) vw2 W2 r)) := fun vw2 W2 h1 h2 => by
    rw [hr]
    rw [← hf2] at hr ⊢
    exact hT (within ++ [name]) f2 v vw2 W2 h1 h2 hv (by omega) (by simp; omega) (by rw [← hr]; exact hbad)
  have HG : Hid (∀ (w2 : World) (o2 : Obj) (v2 : Value), (w1.alloc o2).grownBy w2 (Value.slice a n c).ownBlock → w2.ownsRow B 9 1 v2 (n + 1) (within.map Value.string ++ [.string name]) → (v2.ownBlock = (Value.slice a n c).ownBlock ∨ v2.ownBlock = some (w1.heap.size + 1)) → w2.cell? ⟨bw, 2, none⟩ = some (.slice a n c) ∧ w2.frozen? ⟨bw, 2, none⟩ = false ∧ WkAt B bw pv f2 v2 (within ++ [name]) (w2.setCell ⟨bw, 2, none⟩ v2) ∧ Fr (FD bw (.slice a n c)) W (w2.setCell ⟨bw, 2, none⟩ v2) ∧ Moved (.slice a n c) v2 W ∧ Below B w0 (w2.setCell ⟨bw, 2, none⟩ v2)) := by
    intro w2 o2 v2 hgr hown hloc
    obtain ⟨q1, q2, q3⟩ := H1.out
    have hf : Fr (fun j => (Value.slice a n c).ownBlock = some j) w1 w2 := (Fr.alloc _ o2).trans (Fr.grown hgr (fun g hg => hg))
    have hb2 := (hf.block bw hbl q1.nw).trans q1.blk
    have hm : Moved (.slice a n c) v2 w1 := fun g hg => by
      rcases hloc with e | e
      · exact .inl (e ▸ hg)
      · rw [e] at hg; have := Option.some.inj hg; exact .inr (by omega)
    obtain ⟨p1, p2, p3⟩ := q1.push (name := name) hf (by rw [← HN.out]; exact hown) hm
    have hmW : Moved (.slice a n c) v2 W := fun g hg => by
      rcases hm g hg with e | e
      · exact .inl e
      · exact .inr (Nat.le_trans q2.size e)
    have hfr := q2.next (Moved.refl _ _) p2
    exact ⟨V.cell_in hb2 2 rfl, by simp [World.frozen?, hb2], p1, hfr, hmW, hW.trans (h.fr_low hfr)⟩
  unfold pV at HB ⊢
  have HH : Hid (WkAt B bw pv fuel (.slice a n c) within W) := h
  clear h hi hf2 hr hn hW hT hw1
  go_enter Tryz.func80, Tryz.ntmps80
  go_wp2_with fail
  refine HC.out.mono ?_
  rintro e w' ⟨rfl, rfl⟩
  go_wp2_with fail
  refine HB.out.mono ?_
  rintro e w' ⟨rfl, rfl⟩
  clear c2 HC HB
  go_wp2_with (at_builtin; refine wpList_append_own_at _ rfl _ _ 23 rfl B 9 i0 (.string ⟨#[]⟩) 1 16 Tryz.underlying23 hi0 hz0 hz1 hz2 rfl (by decide) _ _ _ rfl (hrow.alloc _) ⟨w1.heap.size, 0, none⟩ 1 1 [.string name] rfl rfl (cell_one _ _ _) (by intro u hu; simp at hu; subst hu; rfl) (by unfold maxLen; omega) (by omega) (by simp; omega) ?_)
  intro v2 w2 hown hgrow _ hloc
  obtain ⟨k2, g2, hw3, hfr3, hmv3, hlow3⟩ := HG.out w2 _ v2 hgrow hown hloc
  obtain ⟨a2, cp2, hv2⟩ := V.owns_slice hown
  subst hv2
  have H3 : Hid (WkAt B bw pv f2 (.slice a2 (n + 1) cp2) (within ++ [name]) (w2.setCell ⟨bw, 2, none⟩ (.slice a2 (n + 1) cp2)) ∧ Fr (FD bw (.slice a n c)) W (w2.setCell ⟨bw, 2, none⟩ (.slice a2 (n + 1) cp2)) ∧ Moved (.slice a n c) (.slice a2 (n + 1) cp2) W ∧ Below B w0 (w2.setCell ⟨bw, 2, none⟩ (.slice a2 (n + 1) cp2))) := ⟨hw3, hfr3, hmv3, hlow3⟩
  clear hown hgrow hloc hw3 hfr3 hmv3 hlow3 d2 hrow
  go_wp2_with fail
  refine (HT.out _ _ H3.out.1 H3.out.2.2.2).mono ?_
  intro e w4 hpost
  cases r with
  | bad => exact absurd rfl hbad
  | err x =>
    obtain ⟨rfl, hb4⟩ := hpost
    have H4 : Hid (Below B w0 w0 → True) := fun _ => trivial
    have H5 : Hid (Below B (w2.setCell ⟨bw, 2, none⟩ (.slice a2 (n + 1) cp2)) w4) := hb4
    clear hb4 k2 g2
    unfold pan
    go_wp2
    exact ⟨rfl, rfl, (HH.out.fr_low H3.out.2.1).trans H5.out⟩
  | ok u f =>
    obtain ⟨rfl, hu, hf5, vw5, hk5, hfr5, hmv5⟩ := hpost
    have hr5 := hk5.row
    rw [List.length_append, List.length_singleton] at hr5
    rcases V.row_src hr5 with ⟨_, e0, _⟩ | ⟨g5, cap5, hv5, _, hcap5, _, _⟩
    · omega
    · rw [← HN.out] at hv5 hcap5
      subst hv5
      have hk5' : WkAt B bw pv f (.slice (some ⟨g5, 0, none⟩) (within.length + 1) cap5) (within ++ [name]) w4 := by rw [← HN.out]; exact hk5
      have H5 : Hid (WkAt B bw pv f (.slice (some ⟨g5, 0, none⟩) (within.length + 1) cap5) (within ++ [name]) w4 ∧ Fr (FD bw (.slice a n c)) W w4 ∧ Moved (.slice a n c) (.slice (some ⟨g5, 0, none⟩) (n + 1) cap5) W ∧ u.size ≤ 1000000 ∧ f ≤ 10000000) := ⟨hk5', H3.out.2.1.next H3.out.2.2.1 hfr5, H3.out.2.2.1.next H3.out.2.1.size hmv5, hu, hf5⟩
      have k5 : w4.cell? ⟨bw, 2, none⟩ = some (.slice (some ⟨g5, 0, none⟩) (n + 1) cap5) := V.cell_in hk5.blk 2 rfl
      have f5 : w4.frozen? ⟨bw, 2, none⟩ = false := by simp [World.frozen?, hk5.blk]
      have hci : (n : Int) ≤ (cap5 : Int) := by omega
      clear hk5 hk5' hfr5 hmv5 hr5 k2 g2 hu hf5
      have hwr : IntKind.i64.wrap ((n : Int) + 1 - 1) = (n : Int) := by rw [IntKind.wrap_i64]; omega
      have hwr2 : IntKind.i64.wrap (n : Int) = (n : Int) := by rw [IntKind.wrap_i64]; omega
      have hn0 : ¬ (n : Int) < 0 := by omega
      go_wp2_with fail
      go_region_with (fail)
      all_goals
        go_wp2
        go_ret
        obtain ⟨q1, q2, q3, q4, q5⟩ := H5.out
        have hp := WkAt.pop (w := w4.drew) ⟨q1.blk, q1.row.kept (row := none) ⟨rfl, rfl, rfl, Nat.le_refl _, fun _ _ _ => rfl⟩ (Classical.em _), q1.hb⟩
        rw [← HN.out] at hp
        exact ⟨rfl, q4, q5, _, hp, (q2.trans (Fr.drew _)).trans (Fr.set bw 2 _ _ (.inl rfl)), fun g hg => q3 g hg⟩
end
end Go.Proofs.YthcbagggalehgaaGreatDoor.Ex
namespace Go.Proofs.YthcbagggalehgaaGreatDoor.Ex
open Go.RowKit Go.Shelf

/-- What a use asks for: a variable's value; and what modifiers make of a meaning. -/
structure Cx (B : Nat) (w0 : World) (pv : Value) (ev : Env) : Prop where
  get : ∀ W q, Below B w0 W → q.size ≤ 10000000 → Calls Tryz.prog 77 #[pv, .string q] W fun e w' => e = .returned (.tuple #[.string ((ev.get q).getD E0), .bool (ev.get q).isSome]) ∧ Below W.heap.size W w'
  val : ∀ q v, ev.get q = some v → v.size ≤ 65536
  err : ∀ m t x, ev.all m t = some (.error x) → x ≠ 0 ∧ ∃ l, (∀ W, Below B w0 W → Calls Tryz.prog 82 #[.string t] W fun e w' => ∃ a n c, e = .returned (.slice a n c) ∧ Words w'.heap.size w' (.slice a n c) l ∧ Below W.heap.size W w') ∧
    (∀ W a n c, Below B w0 W → Words W.heap.size W (.slice a n c) l → Calls Tryz.prog 81 #[.string m, .slice a n c] W fun e w' => ∃ a' n' c', e = .returned (.tuple #[.slice a' n' c', .int .i64 x]) ∧ Below W.heap.size W w')
  yes : ∀ m t u, ev.all m t = some (.ok u) → u.size ≤ 1000000 ∧ ∃ l l', (∀ W, Below B w0 W → Calls Tryz.prog 82 #[.string t] W fun e w' => ∃ a n c, e = .returned (.slice a n c) ∧ Words w'.heap.size w' (.slice a n c) l ∧ Below W.heap.size W w') ∧
    (∀ W a n c, Below B w0 W → Words W.heap.size W (.slice a n c) l → Calls Tryz.prog 81 #[.string m, .slice a n c] W fun e w' => ∃ a' n' c', e = .returned (.tuple #[.slice a' n' c', .int .i64 0]) ∧ Words w'.heap.size w' (.slice a' n' c') l' ∧ Below W.heap.size W w') ∧
    (∀ W a n c, Below B w0 W → Words W.heap.size W (.slice a n c) l' → Calls Tryz.prog 83 #[.slice a n c] W fun e w' => e = .returned (.string u) ∧ Below W.heap.size W w')

theorem pre_opens (m : ByteArray) (x : UInt8) : Lib.hasPrefix m.data.toList [x] = opens m x := by
  unfold Lib.hasPrefix opens bl
  cases m.data.toList with
  | nil => rfl
  | cons a r => simp [List.isPrefixOf]; rw [Bool.eq_iff_iff]; simp; exact ⟨fun h => h.symm, fun h => h.symm⟩
theorem pre_cut (m : ByteArray) (x : UInt8) (h : opens m x = true) : (⟨(Lib.trimPrefix m.data.toList [x]).toArray⟩ : ByteArray) = m.extract 1 m.size := by
  apply bl_inj
  unfold Lib.trimPrefix
  rw [pre_opens, h, if_pos rfl, bl_extract, List.take_of_length_le (by rw [bl_length]; exact Nat.le_refl _)]
  simp [bl]
theorem cutp_any (m : ByteArray) (x : UInt8) (w : World) : Calls Tryz.prog 78 #[.string m, .string ⟨#[x]⟩] w fun e w' => ∃ u, e = .returned (.tuple #[.string u, .bool (opens m x)]) ∧ (opens m x = true → u = m.extract 1 m.size) ∧ w = w' :=
  (Tryz.strings_CutPrefix m ⟨#[x]⟩ w).mono fun e w' h => ⟨_, by rw [h.1]; show _ = Ending.returned (.tuple #[.string _, .bool _]); rw [← pre_opens], fun ho => pre_cut m x ho, h.2.symm⟩

theorem ext_le (m : ByteArray) : (m.extract 1 m.size).size ≤ m.size := by rw [← bl_length, ← bl_length, bl_extract, List.length_drop, List.length_take]; omega
section
variable {B : Nat} {w0 : World} {bw : Nat} {pv : Value} {tx : List ByteArray → Nat → ByteArray → Res} {ev : Env}
theorem variable_any (hT : TextC B w0 bw pv tx) (within : List ByteArray) (fuel : Nat) (name v : ByteArray) (vw : Value) (W : World) (h : WkAt B bw pv fuel vw within W) (hW : Below B w0 W) (hl : within.length ≤ 32) (hfu : fuel ≤ 10000000) (hv : v.size ≤ 1000000) (hbad : varF tx within fuel name v ≠ .bad) :
    Calls Tryz.prog 80 #[pV bw, .string name, .string v] W (ResPost B bw pv within vw W (varF tx within fuel name v)) := by
  unfold varF at hbad ⊢
  by_cases h1 : within.length = 32 ∨ isIn within name = true
  · rw [if_pos h1]
    by_cases h2 : within.length = 32
    · exact (var_deep within fuel name v vw W h h2).mono fun e w' hx => ⟨hx.1, by rw [← hx.2]; exact Below.refl _ _⟩
    · rcases h1 with h1 | h1
      · exact absurd h1 h2
      · exact (var_loop within fuel name v vw W h (by omega) h1).mono fun e w' hx => ⟨hx.1, by rw [← hx.2]; exact Below.refl _ _⟩
  · rw [if_neg h1] at hbad ⊢
    have h2 : within.length < 32 := by have : ¬ within.length = 32 := fun e => h1 (.inl e); omega
    have h3 : isIn within name = false := by rw [← Bool.not_eq_true]; exact fun e => h1 (.inr e)
    by_cases h4 : fuel < v.size
    · rw [if_pos h4]
      exact (var_fuel within fuel name v vw W h h2 h3 h4).mono fun e w' hx => ⟨hx.1, by rw [← hx.2]; exact Below.refl _ _⟩
    · rw [if_neg h4] at hbad ⊢
      exact var_go hT within fuel name v vw W h hW h2 h3 (by omega) hfu hv _ rfl hbad

/-- What stays of a work while others make memory. -/
theorem res_quiet {within : List ByteArray} {fuel : Nat} {vw : Value} {W w1 : World} (h : WkAt B bw pv fuel vw within W) (hb : Below W.heap.size W w1) {u : ByteArray} (hu : u.size ≤ 1000000) (hf : fuel ≤ 10000000) : ResPost B bw pv within vw W (.ok u fuel) (.returned (.string u)) w1 :=
  ⟨rfl, hu, hf, vw, h.below hb, .of_below hb, Moved.refl _ _⟩

set_option maxRecDepth 20000 in
set_option maxHeartbeats 1600000 in
theorem use_D (hC : Cx B w0 pv ev) (within : List ByteArray) (fuel : Nat) (name mods : ByteArray) (vw : Value) (W : World) (h : WkAt B bw pv fuel vw within W) (hW : Below B w0 W) (hfu : fuel ≤ 10000000) (hn : name.size ≤ 1000000) (hm : mods.size ≤ 1000000) (ho : opens mods 68 = true) :
    Calls Tryz.prog 69 #[pV bw, .string name, .string mods] W (ResPost B bw pv within vw W (.ok (if (ev.get name).isSome then mods.extract 1 mods.size else E0) fuel)) := by
  have HG : Hid (Calls Tryz.prog 77 #[pv, .string name] W fun e w' => e = .returned (.tuple #[.string ((ev.get name).getD E0), .bool (ev.get name).isSome]) ∧ Below W.heap.size W w') := hC.get W name hW (by omega)
  have HD : Hid (∀ W1, Calls Tryz.prog 78 #[.string mods, .string ⟨#[68]⟩] W1 fun e w' => e = .returned (.tuple #[.string (mods.extract 1 mods.size), .bool true]) ∧ W1 = w') := fun W1 => (cutp_any mods 68 W1).mono fun e w' ⟨u, h1, h2, h3⟩ => ⟨by rw [h1, ho, h2 ho], h3⟩
  have HE : Hid (∀ (t : Bool) (a c : ByteArray) W1, Calls Tryz.prog 79 #[.bool t, .string a, .string c] W1 fun e w' => e = .returned (.string (if t then a else c)) ∧ W1 = w') := fun t a c W1 => either_any t a c W1
  have c0 : W.cell? ⟨bw, 0, none⟩ = some pv := V.cell_in h.blk 0 rfl
  have HQ : Hid (∀ (t : Bool) (w1 : World), Below W.heap.size W w1 → ResPost B bw pv within vw W (.ok (if t then mods.extract 1 mods.size else E0) fuel) (.returned (.string (if t then mods.extract 1 mods.size else E0))) w1) := fun t w1 hb => res_quiet h hb (by have := ext_le mods; cases t <;> (first | (show (mods.extract 1 mods.size).size ≤ 1000000; omega) | (show (0 : Nat) ≤ 1000000; omega))) hfu
  obtain ⟨vv, hvv⟩ : ∃ vv, vv = (ev.get name).getD E0 := ⟨_, rfl⟩
  obtain ⟨t, ht⟩ : ∃ t, t = (ev.get name).isSome := ⟨_, rfl⟩
  rw [← hvv, ← ht] at HG
  rw [← ht]
  obtain ⟨u, hu⟩ : ∃ u, u = mods.extract 1 mods.size := ⟨_, rfl⟩
  rw [← hu] at HD HQ ⊢
  obtain ⟨y, hy⟩ : ∃ y, y = if t then u else E0 := ⟨_, rfl⟩
  have HE2 : Hid (∀ W1, Calls Tryz.prog 79 #[.bool t, .string u, .string E0] W1 fun e w' => e = .returned (.string y) ∧ W1 = w') := fun W1 => by rw [hy]; exact HE.out t u E0 W1
  have HQ2 : Hid (∀ (w1 : World), Below W.heap.size W w1 → ResPost B bw pv within vw W (.ok y fuel) (.returned (.string y)) w1) := fun w1 hb => by rw [hy]; exact HQ.out t w1 hb
  rw [← hy]
  unfold pV
  clear h hvv ht hu hm hn ho hy HE HQ
  go_enter Tryz.func69, Tryz.ntmps69
  go_wp2_with fail
  refine HG.out.mono ?_
  rintro e w1 ⟨rfl, hb1⟩
  have HB : Hid (Below W.heap.size W w1) := hb1
  clear hb1 c0
  go_wp2_with fail
  refine (HD.out _).mono ?_
  rintro e w2 ⟨rfl, rfl⟩
  go_wp2_with fail
  refine (HE2.out _).mono ?_
  rintro e w2 ⟨rfl, rfl⟩
  go_wp2
  go_ret
  exact HQ2.out _ HB.out
set_option maxRecDepth 20000 in
set_option maxHeartbeats 1600000 in
theorem use_U (hC : Cx B w0 pv ev) (within : List ByteArray) (fuel : Nat) (name mods : ByteArray) (vw : Value) (W : World) (h : WkAt B bw pv fuel vw within W) (hW : Below B w0 W) (hfu : fuel ≤ 10000000) (hn : name.size ≤ 1000000) (hm : mods.size ≤ 1000000) (ho : opens mods 68 = false) (ho2 : opens mods 85 = true) :
    Calls Tryz.prog 69 #[pV bw, .string name, .string mods] W (ResPost B bw pv within vw W (.ok (match ev.get name with | some v => v | none => mods.extract 1 mods.size) fuel)) := by
  have HG : Hid (Calls Tryz.prog 77 #[pv, .string name] W fun e w' => e = .returned (.tuple #[.string ((ev.get name).getD E0), .bool (ev.get name).isSome]) ∧ Below W.heap.size W w') := hC.get W name hW (by omega)
  have HD : Hid (∀ W1, Calls Tryz.prog 78 #[.string mods, .string ⟨#[68]⟩] W1 fun e w' => ∃ u, e = .returned (.tuple #[.string u, .bool false]) ∧ W1 = w') := fun W1 => (cutp_any mods 68 W1).mono fun e w' ⟨u, h1, h2, h3⟩ => ⟨u, by rw [h1, ho], h3⟩
  have HU : Hid (∀ W1, Calls Tryz.prog 78 #[.string mods, .string ⟨#[85]⟩] W1 fun e w' => e = .returned (.tuple #[.string (mods.extract 1 mods.size), .bool true]) ∧ W1 = w') := fun W1 => (cutp_any mods 85 W1).mono fun e w' ⟨u, h1, h2, h3⟩ => ⟨by rw [h1, ho2, h2 ho2], h3⟩
  have HE : Hid (∀ (t : Bool) (a c : ByteArray) W1, Calls Tryz.prog 79 #[.bool t, .string a, .string c] W1 fun e w' => e = .returned (.string (if t then a else c)) ∧ W1 = w') := fun t a c W1 => either_any t a c W1
  have c0 : W.cell? ⟨bw, 0, none⟩ = some pv := V.cell_in h.blk 0 rfl
  have hval := hC.val name
  have HQ : Hid (∀ (w1 : World), Below W.heap.size W w1 → ResPost B bw pv within vw W (.ok (match ev.get name with | some v => v | none => mods.extract 1 mods.size) fuel) (.returned (.string (if (ev.get name).isSome then (ev.get name).getD E0 else mods.extract 1 mods.size))) w1) := fun w1 hb => by
    cases hg : ev.get name with
    | none => exact res_quiet h hb (by have := ext_le mods; show (mods.extract 1 mods.size).size ≤ 1000000; omega) hfu
    | some v => exact res_quiet h hb (by have := hval v hg; show v.size ≤ 1000000; omega) hfu
  obtain ⟨R, hR⟩ : ∃ R : Res, R = .ok (match ev.get name with | some v => v | none => mods.extract 1 mods.size) fuel := ⟨_, rfl⟩
  rw [← hR] at HQ ⊢
  obtain ⟨vv, hvv⟩ : ∃ vv, vv = (ev.get name).getD E0 := ⟨_, rfl⟩
  obtain ⟨t, ht⟩ : ∃ t, t = (ev.get name).isSome := ⟨_, rfl⟩
  rw [← hvv, ← ht] at HG HQ
  obtain ⟨u, hu⟩ : ∃ u, u = mods.extract 1 mods.size := ⟨_, rfl⟩
  rw [← hu] at HU HQ
  obtain ⟨y, hy⟩ : ∃ y, y = if t then vv else u := ⟨_, rfl⟩
  have HE2 : Hid (∀ W1, Calls Tryz.prog 79 #[.bool t, .string vv, .string u] W1 fun e w' => e = .returned (.string y) ∧ W1 = w') := fun W1 => by rw [hy]; exact HE.out t vv u W1
  have HQ2 : Hid (∀ (w1 : World), Below W.heap.size W w1 → ResPost B bw pv within vw W R (.returned (.string y)) w1) := fun w1 hb => by rw [hy]; exact HQ.out w1 hb
  unfold pV
  clear h hvv ht hu hm hn ho ho2 hval hR hy HE HQ
  go_enter Tryz.func69, Tryz.ntmps69
  go_wp2_with fail
  refine HG.out.mono ?_
  rintro e w1 ⟨rfl, hb1⟩
  have HB : Hid (Below W.heap.size W w1) := hb1
  clear hb1 c0
  go_wp2_with fail
  refine (HD.out _).mono ?_
  rintro e w2 ⟨u2, rfl, rfl⟩
  go_wp2_with fail
  refine (HU.out _).mono ?_
  rintro e w2 ⟨rfl, rfl⟩
  go_wp2_with fail
  refine (HE2.out _).mono ?_
  rintro e w2 ⟨rfl, rfl⟩
  go_wp2
  go_ret
  exact HQ2.out _ HB.out
end
end Go.Proofs.YthcbagggalehgaaGreatDoor.Ex
namespace Go.Proofs.YthcbagggalehgaaGreatDoor.Ex
open Go.RowKit Go.Shelf

section
variable {B : Nat} {w0 : World} {bw : Nat} {pv : Value} {tx : List ByteArray → Nat → ByteArray → Res} {ev : Env}
/-- A work behind a turn, and then behind new memory. -/
theorem res_then {within : List ByteArray} {fuel : Nat} {vw vw2 : Value} {W w2 w3 : World} (hk : WkAt B bw pv fuel vw2 within w2) (hf : Fr (FD bw vw) W w2) (hm : Moved vw vw2 W) (hb : Below w2.heap.size w2 w3) {u : ByteArray} (hu : u.size ≤ 1000000) (hfu : fuel ≤ 10000000) : ResPost B bw pv within vw W (.ok u fuel) (.returned (.string u)) w3 :=
  ⟨rfl, hu, hfu, vw2, hk.below hb, hf.trans (.of_below hb), hm⟩

set_option maxRecDepth 20000 in
set_option maxHeartbeats 3200000 in
theorem use_V (hT : TextC B w0 bw pv tx) (hC : Cx B w0 pv ev) (within : List ByteArray) (fuel : Nat) (name mods : ByteArray) (vw : Value) (W : World) (h : WkAt B bw pv fuel vw within W) (hW : Below B w0 W) (hl : within.length ≤ 32) (hfu : fuel ≤ 10000000) (hn : name.size ≤ 1000000) (ho : opens mods 68 = false) (ho2 : opens mods 85 = false) (hbad : allF ev mods (varF tx within fuel name ((ev.get name).getD E0)) ≠ .bad) :
    Calls Tryz.prog 69 #[pV bw, .string name, .string mods] W (ResPost B bw pv within vw W (allF ev mods (varF tx within fuel name ((ev.get name).getD E0)))) := by
  have HG : Hid (Calls Tryz.prog 77 #[pv, .string name] W fun e w' => e = .returned (.tuple #[.string ((ev.get name).getD E0), .bool (ev.get name).isSome]) ∧ Below W.heap.size W w') := hC.get W name hW (by omega)
  have HD : Hid (∀ W1, Calls Tryz.prog 78 #[.string mods, .string ⟨#[68]⟩] W1 fun e w' => ∃ u, e = .returned (.tuple #[.string u, .bool false]) ∧ W1 = w') := fun W1 => (cutp_any mods 68 W1).mono fun e w' ⟨u, h1, h2, h3⟩ => ⟨u, by rw [h1, ho], h3⟩
  have HU : Hid (∀ W1, Calls Tryz.prog 78 #[.string mods, .string ⟨#[85]⟩] W1 fun e w' => ∃ u, e = .returned (.tuple #[.string u, .bool false]) ∧ W1 = w') := fun W1 => (cutp_any mods 85 W1).mono fun e w' ⟨u, h1, h2, h3⟩ => ⟨u, by rw [h1, ho2], h3⟩
  have c0 : W.cell? ⟨bw, 0, none⟩ = some pv := V.cell_in h.blk 0 rfl
  have hvs : ((ev.get name).getD E0).size ≤ 1000000 := by
    cases hg : ev.get name with
    | none => show (0 : Nat) ≤ 1000000; omega
    | some v => have := hC.val name v hg; show v.size ≤ 1000000; omega
  obtain ⟨r1, hr1⟩ : ∃ r1, r1 = varF tx within fuel name ((ev.get name).getD E0) := ⟨_, rfl⟩
  have hb1 : r1 ≠ .bad := fun e => hbad (by rw [← hr1, e]; rfl)
  have HV : Hid (∀ W1, Below W.heap.size W W1 → Calls Tryz.prog 80 #[pV bw, .string name, .string ((ev.get name).getD E0)] W1 (ResPost B bw pv within vw W1 r1)) := fun W1 hb => by
    rw [hr1]
    exact variable_any hT within fuel name _ vw W1 (h.below hb) (hW.trans (hb.mono h.low)) hl hfu hvs (by rw [← hr1]; exact hb1)
  rw [← hr1] at hbad ⊢
  have HH : Hid (WkAt B bw pv fuel vw within W ∧ Below B w0 W ∧ Cx B w0 pv ev) := ⟨h, hW, hC⟩
  obtain ⟨vv, hvv⟩ : ∃ vv, vv = (ev.get name).getD E0 := ⟨_, rfl⟩
  obtain ⟨t0, ht0⟩ : ∃ t, t = (ev.get name).isSome := ⟨_, rfl⟩
  rw [← hvv, ← ht0] at HG
  rw [← hvv] at HV
  obtain ⟨R, hR⟩ : ∃ R, R = allF ev mods r1 := ⟨_, rfl⟩
  rw [← hR] at hbad ⊢
  have HR : Hid (R = allF ev mods r1) := hR
  unfold pV at HV ⊢
  clear h hvv ht0 hn ho ho2 hvs hr1 hR hC hW hT
  go_enter Tryz.func69, Tryz.ntmps69
  go_wp2_with fail
  refine HG.out.mono ?_
  rintro e w1 ⟨rfl, hbb⟩
  have HB : Hid (Below W.heap.size W w1) := hbb
  clear hbb c0
  go_wp2_with fail
  refine (HD.out _).mono ?_
  rintro e w2 ⟨u2, rfl, rfl⟩
  go_wp2_with fail
  refine (HU.out _).mono ?_
  rintro e w2 ⟨u3, rfl, rfl⟩
  go_wp2_with fail
  refine (HV.out _ HB.out).mono ?_
  clear HG HD HU HV
  intro e w2 hpost
  cases r1 with
  | bad => exact absurd rfl hb1
  | err x =>
    obtain ⟨rfl, hb4⟩ := hpost
    have hRx : R = .err x := HR.out
    subst hRx
    have H5 : Hid (Below B w1 w2) := hb4
    clear hb4 hb1 hbad
    unfold pan
    go_wp2
    exact ⟨rfl, rfl, (HB.out.mono HH.out.1.low).trans H5.out⟩
  | ok t f =>
    obtain ⟨rfl, hu, hf5, vw5, hk5, hfr5, hmv5⟩ := hpost
    have H5 : Hid (WkAt B bw pv f vw5 within w2 ∧ Fr (FD bw vw) W w2 ∧ Moved vw vw5 W ∧ t.size ≤ 1000000 ∧ f ≤ 10000000 ∧ Below B w0 w2) := by
      have hfr : Fr (FD bw vw) W w2 := (Fr.of_below HB.out).trans hfr5
      exact ⟨hk5, hfr, fun g hg => (hmv5 g hg).imp id (fun e => Nat.le_trans HB.out.size e), hu, hf5, HH.out.2.1.trans (HH.out.1.fr_low hfr)⟩
    clear hk5 hfr5 hmv5 hu hf5 hb1
    by_cases hm0 : mods.size = 0
    · have hme : mods = E0 := by apply bl_inj; apply List.length_eq_zero_iff.1; rw [bl_length]; exact hm0
      have hRx : R = .ok t f := by rw [HR.out]; show (if mods.size = 0 then _ else _) = _; rw [if_pos hm0]
      subst hme hRx
      clear hbad hm0
      go_wp2
      go_ret
      obtain ⟨q1, q2, q3, q4, q5, q6⟩ := H5.out
      exact res_then q1 q2 q3 (Below.refl _ _) q4 q5
    · have hml : ¬ mods.toList = [] := fun e => hm0 (by rw [← bl_length]; unfold bl; rw [← Lib.toList_data, e]; rfl)
      have hmb : mods.toList.isEmpty = false := by cases hl0 : mods.toList with | nil => exact absurd hl0 hml | cons _ _ => rfl
      have hall : R = (match ev.all mods t with | none => .bad | some (.error e) => .err e | some (.ok u) => .ok u f) := by rw [HR.out]; show (if mods.size = 0 then _ else _) = _; rw [if_neg hm0]; cases ev.all mods t with | none => rfl | some ra => cases ra <;> rfl
      clear hm0
      cases ha : ev.all mods t with
      | none => rw [ha] at hall; exact absurd hall hbad
      | some ra =>
        rw [ha] at hall
        cases ra with
        | error x =>
          dsimp only at hall
          subst hall
          obtain ⟨hx0, l, hF, hA⟩ := HH.out.2.2.err mods t x ha
          have HF : Hid (Calls Tryz.prog 82 #[.string t] w2 fun e w' => ∃ a n c, e = .returned (.slice a n c) ∧ Words w'.heap.size w' (.slice a n c) l ∧ Below w2.heap.size w2 w') := hF w2 H5.out.2.2.2.2.2
          have HA : Hid (∀ W a n c, Below B w0 W → Words W.heap.size W (.slice a n c) l → Calls Tryz.prog 81 #[.string mods, .slice a n c] W fun e w' => ∃ a' n' c', e = .returned (.tuple #[.slice a' n' c', .int .i64 x]) ∧ Below W.heap.size W w') := hA
          have hx1 : (x == 0) = false := by rw [beq_eq_false_iff_ne]; exact hx0
          clear hF hA hbad ha HR
          go_wp2_with fail
          refine HF.out.mono ?_
          rintro e w3 ⟨a3, n3, c3, rfl, hw3, hb3⟩
          have hlow3 : Below B w0 w3 := H5.out.2.2.2.2.2.trans (hb3.mono H5.out.1.low)
          have H6 : Hid (Below w2.heap.size w2 w3) := hb3
          have HA2 : Hid (Calls Tryz.prog 81 #[.string mods, .slice a3 n3 c3] w3 fun e w' => ∃ a' n' c', e = .returned (.tuple #[.slice a' n' c', .int .i64 x]) ∧ Below w3.heap.size w3 w') := HA.out w3 a3 n3 c3 hlow3 hw3
          clear hw3 hb3 hlow3 HA HF
          go_wp2_with fail
          refine HA2.out.mono ?_
          rintro e w4 ⟨a4, n4, c4, rfl, hb4⟩
          have H7 : Hid (Below w2.heap.size w2 w4) := H6.out.trans (hb4.mono H6.out.size)
          clear hb4 HA2
          go_wp2
          exact ⟨rfl, rfl, (HH.out.1.fr_low H5.out.2.1).trans (H7.out.mono H5.out.1.low)⟩
        | ok u =>
          dsimp only at hall
          subst hall
          obtain ⟨hus, l, l', hF, hA, hJ⟩ := HH.out.2.2.yes mods t u ha
          have HF : Hid (Calls Tryz.prog 82 #[.string t] w2 fun e w' => ∃ a n c, e = .returned (.slice a n c) ∧ Words w'.heap.size w' (.slice a n c) l ∧ Below w2.heap.size w2 w') := hF w2 H5.out.2.2.2.2.2
          have HA : Hid (∀ W a n c, Below B w0 W → Words W.heap.size W (.slice a n c) l → Calls Tryz.prog 81 #[.string mods, .slice a n c] W fun e w' => ∃ a' n' c', e = .returned (.tuple #[.slice a' n' c', .int .i64 0]) ∧ Words w'.heap.size w' (.slice a' n' c') l' ∧ Below W.heap.size W w') := hA
          have HJ : Hid (∀ W a n c, Below B w0 W → Words W.heap.size W (.slice a n c) l' → Calls Tryz.prog 83 #[.slice a n c] W fun e w' => e = .returned (.string u) ∧ Below W.heap.size W w') := hJ
          have HUS : Hid (u.size ≤ 1000000) := hus
          clear hF hA hJ hbad ha HR hus
          go_wp2_with fail
          refine HF.out.mono ?_
          rintro e w3 ⟨a3, n3, c3, rfl, hw3, hb3⟩
          have hlow3 : Below B w0 w3 := H5.out.2.2.2.2.2.trans (hb3.mono H5.out.1.low)
          have H6 : Hid (Below w2.heap.size w2 w3) := hb3
          have HA2 : Hid (Calls Tryz.prog 81 #[.string mods, .slice a3 n3 c3] w3 fun e w' => ∃ a' n' c', e = .returned (.tuple #[.slice a' n' c', .int .i64 0]) ∧ Words w'.heap.size w' (.slice a' n' c') l' ∧ Below w3.heap.size w3 w') := HA.out w3 a3 n3 c3 hlow3 hw3
          clear hw3 hb3 hlow3 HA HF
          go_wp2_with fail
          refine HA2.out.mono ?_
          rintro e w4 ⟨a4, n4, c4, rfl, hw4, hb4⟩
          have hb24 : Below w2.heap.size w2 w4 := H6.out.trans (hb4.mono H6.out.size)
          have H7 : Hid (Below w2.heap.size w2 w4) := hb24
          have HJ2 : Hid (Calls Tryz.prog 83 #[.slice a4 n4 c4] w4 fun e w' => e = .returned (.string u) ∧ Below w4.heap.size w4 w') := HJ.out w4 a4 n4 c4 (H5.out.2.2.2.2.2.trans (hb24.mono H5.out.1.low)) hw4
          clear hb4 hw4 hb24 HA2 HJ
          go_wp2_with fail
          refine HJ2.out.mono ?_
          rintro e w5 ⟨rfl, hb5⟩
          have H8 : Hid (Below w2.heap.size w2 w5) := H7.out.trans (hb5.mono H7.out.size)
          clear hb5 HJ2
          go_wp2
          go_ret
          obtain ⟨q1, q2, q3, q4, q5, q6⟩ := H5.out
          exact res_then q1 q2 q3 H8.out HUS.out q5
theorem use_any (hT : TextC B w0 bw pv tx) (hC : Cx B w0 pv ev) (within : List ByteArray) (fuel : Nat) (name mods : ByteArray) (vw : Value) (W : World) (h : WkAt B bw pv fuel vw within W) (hW : Below B w0 W) (hl : within.length ≤ 32) (hfu : fuel ≤ 10000000) (hn : name.size ≤ 1000000) (hm : mods.size ≤ 1000000) (hbad : useF ev tx within fuel name mods ≠ .bad) :
    Calls Tryz.prog 69 #[pV bw, .string name, .string mods] W (ResPost B bw pv within vw W (useF ev tx within fuel name mods)) := by
  unfold useF at hbad ⊢
  cases ho : opens mods 68
  · rw [ho] at hbad
    simp only [Bool.false_eq_true, if_false] at hbad ⊢
    cases ho2 : opens mods 85
    · rw [ho2] at hbad
      simp only [Bool.false_eq_true, if_false] at hbad ⊢
      exact use_V hT hC within fuel name mods vw W h hW hl hfu hn ho ho2 hbad
    · simp only [if_true]
      exact use_U hC within fuel name mods vw W h hW hfu hn hm ho ho2
  · simp only [if_true]
    exact use_D hC within fuel name mods vw W h hW hfu hn hm ho
end
end Go.Proofs.YthcbagggalehgaaGreatDoor.Ex
