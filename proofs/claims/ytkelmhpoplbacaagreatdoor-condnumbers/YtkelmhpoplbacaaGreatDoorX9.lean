/-
  What variable and use do, as the plain functions tell.
-/
import Derived.Test.YtkelmhpoplbacaaGreatDoorX8
namespace Go.Proofs.YtkelmhpoplbacaaGreatDoor.Ex
open Go.RowKit Go.Shelf

/-- What a use asks for: a variable's value; and what modifiers make of a meaning. -/
structure Cx (B : Nat) (w0 : World) (pv : Value) (ev : Env) : Prop where
  get : ∀ W q, Below B w0 W → q.size ≤ 10000000 → Calls Tryz.prog 57 #[pv, .string q] W fun e w' => e = .returned (.tuple #[.string ((ev.get q).getD E0), .bool (ev.get q).isSome]) ∧ Below W.heap.size W w'
  val : ∀ q v, ev.get q = some v → v.size ≤ 65536
  err : ∀ m t x, ev.all m t = some (.error x) → x ≠ 0 ∧ ∃ l, (∀ W, Below B w0 W → Calls Tryz.prog 184 #[.string t] W fun e w' => ∃ a n c, e = .returned (.slice a n c) ∧ Words w'.heap.size w' (.slice a n c) l ∧ Below W.heap.size W w') ∧
    (∀ W a n c, Below B w0 W → Words W.heap.size W (.slice a n c) l → Calls Tryz.prog 183 #[.string m, .slice a n c] W fun e w' => ∃ a' n' c', e = .returned (.tuple #[.slice a' n' c', .int .i64 x]) ∧ Below W.heap.size W w')
  yes : ∀ m t u, ev.all m t = some (.ok u) → u.size ≤ 1000000 ∧ ∃ l l', (∀ W, Below B w0 W → Calls Tryz.prog 184 #[.string t] W fun e w' => ∃ a n c, e = .returned (.slice a n c) ∧ Words w'.heap.size w' (.slice a n c) l ∧ Below W.heap.size W w') ∧
    (∀ W a n c, Below B w0 W → Words W.heap.size W (.slice a n c) l → Calls Tryz.prog 183 #[.string m, .slice a n c] W fun e w' => ∃ a' n' c', e = .returned (.tuple #[.slice a' n' c', .int .i64 0]) ∧ Words w'.heap.size w' (.slice a' n' c') l' ∧ Below W.heap.size W w') ∧
    (∀ W a n c, Below B w0 W → Words W.heap.size W (.slice a n c) l' → Calls Tryz.prog 185 #[.slice a n c] W fun e w' => e = .returned (.string u) ∧ Below W.heap.size W w')

theorem pre_opens (m : ByteArray) (x : UInt8) : Lib.hasPrefix m.data.toList [x] = opens m x := by
  unfold Lib.hasPrefix opens bl
  cases m.data.toList with
  | nil => rfl
  | cons a r => simp [List.isPrefixOf]; rw [Bool.eq_iff_iff]; simp; exact ⟨fun h => h.symm, fun h => h.symm⟩
theorem pre_cut (m : ByteArray) (x : UInt8) (h : opens m x = true) : (⟨(Lib.trimPrefix m.data.toList [x]).toArray⟩ : ByteArray) = m.extract 1 m.size := by
  apply bl_inj
  unfold Lib.trimPrefix
  rw [pre_opens, h, if_pos rfl, bl_extract, List.take_of_length_le (by rw [bl_length]; exact Nat.le_refl _)]
  simp [bl]
theorem cutp_any (m : ByteArray) (x : UInt8) (w : World) : Calls Tryz.prog 118 #[.string m, .string ⟨#[x]⟩] w fun e w' => ∃ u, e = .returned (.tuple #[.string u, .bool (opens m x)]) ∧ (opens m x = true → u = m.extract 1 m.size) ∧ w = w' :=
  (Tryz.strings_CutPrefix m ⟨#[x]⟩ w).mono fun e w' h => ⟨_, by rw [h.1]; show _ = Ending.returned (.tuple #[.string _, .bool _]); rw [← pre_opens], fun ho => pre_cut m x ho, h.2.symm⟩

theorem ext_le (m : ByteArray) : (m.extract 1 m.size).size ≤ m.size := by rw [← bl_length, ← bl_length, bl_extract, List.length_drop, List.length_take]; omega
section
variable {B : Nat} {w0 : World} {bw : Nat} {pv : Value} {tx : List ByteArray → Nat → ByteArray → Res} {ev : Env}
theorem variable_any (hT : TextC B w0 bw pv tx) (within : List ByteArray) (fuel : Nat) (name v : ByteArray) (vw : Value) (W : World) (h : WkAt B bw pv fuel vw within W) (hW : Below B w0 W) (hl : within.length ≤ 32) (hfu : fuel ≤ 10000000) (hv : v.size ≤ 1000000) (hbad : varF tx within fuel name v ≠ .bad) :
    Calls Tryz.prog 182 #[pV bw, .string name, .string v] W (ResPost B bw pv within vw W (varF tx within fuel name v)) := by
  unfold varF at hbad ⊢
  by_cases h1 : within.length = 32 ∨ isIn within name = true
  · rw [if_pos h1]
    by_cases h2 : within.length = 32
    · exact (var_deep within fuel name v vw W h h2).mono fun e w' hx => ⟨hx.1, by rw [← hx.2]; exact Below.refl _ _⟩
    · rcases h1 with h1 | h1
      · exact absurd h1 h2
      · exact (var_loop within fuel name v vw W h (by omega) h1).mono fun e w' hx => ⟨hx.1, by rw [← hx.2]; exact Below.refl _ _⟩
  · rw [if_neg h1] at hbad ⊢
    have h2 : within.length < 32 := by have : ¬ within.length = 32 := fun e => h1 (.inl e); omega
    have h3 : isIn within name = false := by rw [← Bool.not_eq_true]; exact fun e => h1 (.inr e)
    by_cases h4 : fuel < v.size
    · rw [if_pos h4]
      exact (var_fuel within fuel name v vw W h h2 h3 h4).mono fun e w' hx => ⟨hx.1, by rw [← hx.2]; exact Below.refl _ _⟩
    · rw [if_neg h4] at hbad ⊢
      exact var_go hT within fuel name v vw W h hW h2 h3 (by omega) hfu hv _ rfl hbad

/-- What stays of a work while others make memory. -/
theorem res_quiet {within : List ByteArray} {fuel : Nat} {vw : Value} {W w1 : World} (h : WkAt B bw pv fuel vw within W) (hb : Below W.heap.size W w1) {u : ByteArray} (hu : u.size ≤ 1000000) (hf : fuel ≤ 10000000) : ResPost B bw pv within vw W (.ok u fuel) (.returned (.string u)) w1 :=
  ⟨rfl, hu, hf, vw, h.below hb, .of_below hb, Moved.refl _ _⟩

set_option maxRecDepth 20000 in
set_option maxHeartbeats 1600000 in
theorem use_D (hC : Cx B w0 pv ev) (within : List ByteArray) (fuel : Nat) (name mods : ByteArray) (vw : Value) (W : World) (h : WkAt B bw pv fuel vw within W) (hW : Below B w0 W) (hfu : fuel ≤ 10000000) (hn : name.size ≤ 1000000) (hm : mods.size ≤ 1000000) (ho : opens mods 68 = true) :
    Calls Tryz.prog 174 #[pV bw, .string name, .string mods] W (ResPost B bw pv within vw W (.ok (if (ev.get name).isSome then mods.extract 1 mods.size else E0) fuel)) := by
  have HG : Hid (Calls Tryz.prog 57 #[pv, .string name] W fun e w' => e = .returned (.tuple #[.string ((ev.get name).getD E0), .bool (ev.get name).isSome]) ∧ Below W.heap.size W w') := hC.get W name hW (by omega)
  have HD : Hid (∀ W1, Calls Tryz.prog 118 #[.string mods, .string ⟨#[68]⟩] W1 fun e w' => e = .returned (.tuple #[.string (mods.extract 1 mods.size), .bool true]) ∧ W1 = w') := fun W1 => (cutp_any mods 68 W1).mono fun e w' ⟨u, h1, h2, h3⟩ => ⟨by rw [h1, ho, h2 ho], h3⟩
  have HE : Hid (∀ (t : Bool) (a c : ByteArray) W1, Calls Tryz.prog 181 #[.bool t, .string a, .string c] W1 fun e w' => e = .returned (.string (if t then a else c)) ∧ W1 = w') := fun t a c W1 => either_any t a c W1
  have c0 : W.cell? ⟨bw, 0, none⟩ = some pv := V.cell_in h.blk 0 rfl
  have HQ : Hid (∀ (t : Bool) (w1 : World), Below W.heap.size W w1 → ResPost B bw pv within vw W (.ok (if t then mods.extract 1 mods.size else E0) fuel) (.returned (.string (if t then mods.extract 1 mods.size else E0))) w1) := fun t w1 hb => res_quiet h hb (by have := ext_le mods; cases t <;> (first | (show (mods.extract 1 mods.size).size ≤ 1000000; omega) | (show (0 : Nat) ≤ 1000000; omega))) hfu
  obtain ⟨vv, hvv⟩ : ∃ vv, vv = (ev.get name).getD E0 := ⟨_, rfl⟩
  obtain ⟨t, ht⟩ : ∃ t, t = (ev.get name).isSome := ⟨_, rfl⟩
  rw [← hvv, ← ht] at HG
  rw [← ht]
  obtain ⟨u, hu⟩ : ∃ u, u = mods.extract 1 mods.size := ⟨_, rfl⟩
  rw [← hu] at HD HQ ⊢
  obtain ⟨y, hy⟩ : ∃ y, y = if t then u else E0 := ⟨_, rfl⟩
  have HE2 : Hid (∀ W1, Calls Tryz.prog 181 #[.bool t, .string u, .string E0] W1 fun e w' => e = .returned (.string y) ∧ W1 = w') := fun W1 => by rw [hy]; exact HE.out t u E0 W1
  have HQ2 : Hid (∀ (w1 : World), Below W.heap.size W w1 → ResPost B bw pv within vw W (.ok y fuel) (.returned (.string y)) w1) := fun w1 hb => by rw [hy]; exact HQ.out t w1 hb
  rw [← hy]
  unfold pV
  clear h hvv ht hu hm hn ho hy HE HQ
  go_enter Tryz.func174, Tryz.ntmps174
  go_wp2_with fail
  refine HG.out.mono ?_
  rintro e w1 ⟨rfl, hb1⟩
  have HB : Hid (Below W.heap.size W w1) := hb1
  clear hb1 c0
  go_wp2_with fail
  refine (HD.out _).mono ?_
  rintro e w2 ⟨rfl, rfl⟩
  go_wp2_with fail
  refine (HE2.out _).mono ?_
  rintro e w2 ⟨rfl, rfl⟩
  go_wp2
  go_ret
  exact HQ2.out _ HB.out
set_option maxRecDepth 20000 in
set_option maxHeartbeats 1600000 in
theorem use_U (hC : Cx B w0 pv ev) (within : List ByteArray) (fuel : Nat) (name mods : ByteArray) (vw : Value) (W : World) (h : WkAt B bw pv fuel vw within W) (hW : Below B w0 W) (hfu : fuel ≤ 10000000) (hn : name.size ≤ 1000000) (hm : mods.size ≤ 1000000) (ho : opens mods 68 = false) (ho2 : opens mods 85 = true) :
    Calls Tryz.prog 174 #[pV bw, .string name, .string mods] W (ResPost B bw pv within vw W (.ok (match ev.get name with | some v => v | none => mods.extract 1 mods.size) fuel)) := by
  have HG : Hid (Calls Tryz.prog 57 #[pv, .string name] W fun e w' => e = .returned (.tuple #[.string ((ev.get name).getD E0), .bool (ev.get name).isSome]) ∧ Below W.heap.size W w') := hC.get W name hW (by omega)
  have HD : Hid (∀ W1, Calls Tryz.prog 118 #[.string mods, .string ⟨#[68]⟩] W1 fun e w' => ∃ u, e = .returned (.tuple #[.string u, .bool false]) ∧ W1 = w') := fun W1 => (cutp_any mods 68 W1).mono fun e w' ⟨u, h1, h2, h3⟩ => ⟨u, by rw [h1, ho], h3⟩
  have HU : Hid (∀ W1, Calls Tryz.prog 118 #[.string mods, .string ⟨#[85]⟩] W1 fun e w' => e = .returned (.tuple #[.string (mods.extract 1 mods.size), .bool true]) ∧ W1 = w') := fun W1 => (cutp_any mods 85 W1).mono fun e w' ⟨u, h1, h2, h3⟩ => ⟨by rw [h1, ho2, h2 ho2], h3⟩
  have HE : Hid (∀ (t : Bool) (a c : ByteArray) W1, Calls Tryz.prog 181 #[.bool t, .string a, .string c] W1 fun e w' => e = .returned (.string (if t then a else c)) ∧ W1 = w') := fun t a c W1 => either_any t a c W1
  have c0 : W.cell? ⟨bw, 0, none⟩ = some pv := V.cell_in h.blk 0 rfl
  have hval := hC.val name
  have HQ : Hid (∀ (w1 : World), Below W.heap.size W w1 → ResPost B bw pv within vw W (.ok (match ev.get name with | some v => v | none => mods.extract 1 mods.size) fuel) (.returned (.string (if (ev.get name).isSome then (ev.get name).getD E0 else mods.extract 1 mods.size))) w1) := fun w1 hb => by
    cases hg : ev.get name with
    | none => exact res_quiet h hb (by have := ext_le mods; show (mods.extract 1 mods.size).size ≤ 1000000; omega) hfu
    | some v => exact res_quiet h hb (by have := hval v hg; show v.size ≤ 1000000; omega) hfu
  obtain ⟨R, hR⟩ : ∃ R : Res, R = .ok (match ev.get name with | some v => v | none => mods.extract 1 mods.size) fuel := ⟨_, rfl⟩
  rw [← hR] at HQ ⊢
  obtain ⟨vv, hvv⟩ : ∃ vv, vv = (ev.get name).getD E0 := ⟨_, rfl⟩
  obtain ⟨t, ht⟩ : ∃ t, t = (ev.get name).isSome := ⟨_, rfl⟩
  rw [← hvv, ← ht] at HG HQ
  obtain ⟨u, hu⟩ : ∃ u, u = mods.extract 1 mods.size := ⟨_, rfl⟩
  rw [← hu] at HU HQ
  obtain ⟨y, hy⟩ : ∃ y, y = if t then vv else u := ⟨_, rfl⟩
  have HE2 : Hid (∀ W1, Calls Tryz.prog 181 #[.bool t, .string vv, .string u] W1 fun e w' => e = .returned (.string y) ∧ W1 = w') := fun W1 => by rw [hy]; exact HE.out t vv u W1
  have HQ2 : Hid (∀ (w1 : World), Below W.heap.size W w1 → ResPost B bw pv within vw W R (.returned (.string y)) w1) := fun w1 hb => by rw [hy]; exact HQ.out w1 hb
  unfold pV
  clear h hvv ht hu hm hn ho ho2 hval hR hy HE HQ
  go_enter Tryz.func174, Tryz.ntmps174
  go_wp2_with fail
  refine HG.out.mono ?_
  rintro e w1 ⟨rfl, hb1⟩
  have HB : Hid (Below W.heap.size W w1) := hb1
  clear hb1 c0
  go_wp2_with fail
  refine (HD.out _).mono ?_
  rintro e w2 ⟨u2, rfl, rfl⟩
  go_wp2_with fail
  refine (HU.out _).mono ?_
  rintro e w2 ⟨rfl, rfl⟩
  go_wp2_with fail
  refine (HE2.out _).mono ?_
  rintro e w2 ⟨rfl, rfl⟩
  go_wp2
  go_ret
  exact HQ2.out _ HB.out
end
end Go.Proofs.YtkelmhpoplbacaaGreatDoor.Ex
