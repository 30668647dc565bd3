/-
  What the program's Fields answers.
-/
import Derived.Test.YtbgnmchnfaknkaaDoorB0
import Derived.Test.YtbgnmchnfaknkaaDoorShelf
import Derived.Maps.AppendAt
import Derived.Test.YtbgnmchnfaknkaaDoorWMath
namespace Go.Proofs.YtbgnmchnfaknkaaDoor.WD
open Go.RowKit Go.Shelf

theorem infoS : (Tryd.prog.info? 9).map (fun i => (i.zero, i.size, i.bytes)) = some (some (.string ⟨#[]⟩), 1, 16) := by kernel_rfl
theorem drop_ba (m : ByteArray) (k : Nat) (h : k < m.size) : (bl m).drop k = m[k] :: (bl m).drop (k + 1) := drop_bl m k h
section
variable {σ : Type} (st : σ → UInt8 → σ) (f : σ → UInt8 → Bool) (s0 : σ)
def pcs (s : ByteArray) : List ByteArray := (K.cut st f s0 [] (bl s)).map ba
def At (s : ByteArray) (k bg : Nat) (x : σ) (ws : List ByteArray) : Prop := pcs st f s0 s = ws ++ (K.cut st f x (((bl s).take k).drop bg) ((bl s).drop k)).map ba ∧ x = ((bl s).take k).foldl st s0
variable {st f s0}
theorem At.start (s : ByteArray) : At st f s0 s 0 0 s0 [] := by
  constructor
  · simp [pcs]
  · simp
theorem At.state {s : ByteArray} {k bg : Nat} {x : σ} {ws : List ByteArray} (h : At st f s0 s k bg x ws) (hk : k < s.size) : st x s[k] = ((bl s).take (k + 1)).foldl st s0 := by
  rw [take_snoc s k hk, List.foldl_append, ← h.2]; rfl
theorem At.on {s : ByteArray} {k bg : Nat} {x : σ} {ws : List ByteArray} (h : At st f s0 s k bg x ws) (hk : k < s.size) (hb : bg ≤ k) (hf : f x s[k] = false) : At st f s0 s (k + 1) bg (st x s[k]) ws := by
  refine ⟨?_, h.state hk⟩
  rw [h.1, drop_ba s k hk, K.cut_cons, if_neg (by rw [hf]; simp), take_snoc s k hk, List.drop_append_of_le_length (by simp [bl_length]; omega)]
theorem At.skip {s : ByteArray} {k bg : Nat} {x : σ} {ws : List ByteArray} (h : At st f s0 s k bg x ws) (hk : k < s.size) (hb : ¬ bg < k) (hf : f x s[k] = true) : At st f s0 s (k + 1) (k + 1) (st x s[k]) ws := by
  refine ⟨?_, h.state hk⟩
  have e : ((bl s).take k).drop bg = [] := List.drop_of_length_le (by simp; omega)
  have e2 : ((bl s).take (k + 1)).drop (k + 1) = [] := List.drop_of_length_le (by simp; omega)
  rw [h.1, drop_ba s k hk, K.cut_cons, if_pos hf, e, if_pos rfl, e2, List.nil_append]
theorem At.cutoff {s : ByteArray} {k bg : Nat} {x : σ} {ws : List ByteArray} (h : At st f s0 s k bg x ws) (hk : k < s.size) (hb : bg < k) (hf : f x s[k] = true) : At st f s0 s (k + 1) (k + 1) (st x s[k]) (ws ++ [s.extract bg k]) := by
  refine ⟨?_, h.state hk⟩
  have e : ¬ ((bl s).take k).drop bg = [] := by
    rw [← List.length_eq_zero_iff]; simp [bl_length]; omega
  have e2 : ((bl s).take (k + 1)).drop (k + 1) = [] := List.drop_of_length_le (by simp; omega)
  rw [h.1, drop_ba s k hk, K.cut_cons, if_pos hf, if_neg e, e2, ← bl_extract, List.map_append, List.map_singleton, ba_bl, List.append_assoc]
theorem At.last {s : ByteArray} {bg : Nat} {x : σ} {ws : List ByteArray} (h : At st f s0 s s.size bg x ws) (hb : bg < s.size) : pcs st f s0 s = ws ++ [s.extract bg s.size] ∧ x = (bl s).foldl st s0 := by
  have e : ¬ ((bl s).take s.size).drop bg = [] := by
    rw [← List.length_eq_zero_iff]; simp [bl_length]; omega
  refine ⟨?_, by rw [h.2, take_all]⟩
  rw [h.1, drop_all, K.cut_nil, if_neg e, ← bl_extract, List.map_singleton, ba_bl]
theorem At.done {s : ByteArray} {bg : Nat} {x : σ} {ws : List ByteArray} (h : At st f s0 s s.size bg x ws) (hb : ¬ bg < s.size) : pcs st f s0 s = ws ∧ x = (bl s).foldl st s0 := by
  have e : ((bl s).take s.size).drop bg = [] := List.drop_of_length_le (by simp [bl_length]; omega)
  refine ⟨?_, by rw [h.2, take_all]⟩
  rw [h.1, drop_all, K.cut_nil, e, if_pos rfl]; simp
theorem At.pre {s : ByteArray} {k bg : Nat} {x : σ} {ws : List ByteArray} (h : At st f s0 s k bg x ws) : ws <+: pcs st f s0 s := by rw [h.1]; exact List.prefix_append _ _
end

set_option maxRecDepth 20000 in
set_option maxHeartbeats 400000 in
theorem between_any {σ : Type} (st : σ → UInt8 → σ) (f : σ → UInt8 → Bool) (s0 : σ) (kb kd : Nat) (cb cd : Array Value) (J : σ → List ByteArray → World → Prop) (s : ByteArray) (w : World) (hs : s.size ≤ 140737488355328)
    (eb : ∀ args w, (callFunc kb args).run Tryd.prog w = .ok (.enter kb args) w) (ed : ∀ args w, (callFunc kd args).run Tryd.prog w = .ok (.enter kd args) w)
    (hB : ∀ x ws (c : UInt8) W, J x ws W → Calls Tryd.prog kb (#[.int .u8 c.toNat] ++ cb) W fun e w' => e = .returned (.bool (f x c)) ∧ J (st x c) ws w')
    (hD : ∀ x ws t W, J x ws W → (ws ++ [t]) <+: pcs st f s0 s → Calls Tryd.prog kd (#[.string t] ++ cd) W fun e w' => e = .returned (.tuple #[]) ∧ J x (ws ++ [t]) w')
    (h0 : J s0 [] w) :
    Calls Tryd.prog 55 #[.string s, .func (.func kb) #[] cb, .func (.func kd) #[] cd] w fun e w' => e = .returned (.tuple #[]) ∧ J ((bl s).foldl st s0) (pcs st f s0 s) w' := by
  have HB : Hid (∀ x ws (c : UInt8) W, J x ws W → Calls Tryd.prog kb (#[.int .u8 c.toNat] ++ cb) W fun e w' => e = .returned (.bool (f x c)) ∧ J (st x c) ws w') := hB
  have HD : Hid (∀ x ws t W, J x ws W → (ws ++ [t]) <+: pcs st f s0 s → Calls Tryd.prog kd (#[.string t] ++ cd) W fun e w' => e = .returned (.tuple #[]) ∧ J x (ws ++ [t]) w') := hD
  clear hB hD
  go_enter Tryd.func55, Tryd.ntmps55
  go_wp2
  go_loopw [6, 10] (fun v6 v10 wr => ∃ (k bg : Nat) (x : σ) (ws : List ByteArray), k ≤ s.size ∧ bg ≤ k ∧ v6 = .int .i64 bg ∧ v10 = .int .i64 k ∧ Hid (At st f s0 s k bg x ws) ∧ Hid (J x ws wr))
    (fun _ v10 _ => s.size - (intOf v10).toNat)
  case atStart => exact ⟨0, 0, s0, [], Nat.zero_le _, Nat.le_refl _, rfl, rfl, At.start s, h0⟩
  case round =>
    obtain ⟨k, bg, x, ws, hk, hbg, rfl, rfl, HA, HJ⟩ := hrel
    by_cases hlt : k < s.size
    · have hil : (k : Int) < (s.size : Int) := by omega
      cases hf : f x s[k] with
      | false =>
        have HC : Hid (∀ W, J x ws W → Calls Tryd.prog kb (#[.int .u8 s[k].toNat] ++ cb) W fun e w' => e = .returned (.bool false) ∧ J (st x s[k]) ws w') := fun W h => by
          have := HB.out x ws s[k] W h
          rw [hf] at this; exact this
        have HA1 : Hid (At st f s0 s (k + 1) bg (st x s[k]) ws) := HA.out.on hlt hbg hf
        clear hf
        go_wp2_with (go_at_fn kb; refine (HC.out _ HJ.out).mono ?_; rintro e w1 ⟨rfl, hJ1⟩)
        go_roundw
        case rel => exact ⟨k + 1, bg, _, ws, by omega, by omega, rfl, by go_num, HA1, by assumption⟩
        case measure => simp [intOf]; omega
      | true =>
        have HC : Hid (∀ W, J x ws W → Calls Tryd.prog kb (#[.int .u8 s[k].toNat] ++ cb) W fun e w' => e = .returned (.bool true) ∧ J (st x s[k]) ws w') := fun W h => by
          have := HB.out x ws s[k] W h
          rw [hf] at this; exact this
        by_cases hb : bg < k
        · have hib : (bg : Int) < (k : Int) := by omega
          have hi1 : (bg : Int) ≤ (k : Int) := by omega
          have hi2 : (k : Int) ≤ (s.size : Int) := by omega
          have HA1 : Hid (At st f s0 s (k + 1) (k + 1) (st x s[k]) (ws ++ [s.extract bg k])) := HA.out.cutoff hlt hb hf
          clear hf
          go_wp2_with (first | (go_at_fn kb; refine (HC.out _ HJ.out).mono ?_; rintro e w1 ⟨rfl, hJ1⟩; have HJ1 : Hid _ := hJ1; clear hJ1) | (go_at_fn kd; refine (HD.out (st x s[k]) ws (s.extract bg k) _ (Hid.out ‹_›) (HA1.out.pre)).mono ?_; rintro e w2 ⟨rfl, hJ2⟩; have HJ2 : Hid _ := hJ2; clear hJ2))
          go_roundw
          case rel => exact ⟨k + 1, k + 1, _, _, by omega, Nat.le_refl _, by go_num, by go_num, HA1, by assumption⟩
          case measure => simp [intOf]; omega
        · have hib : ¬ (bg : Int) < (k : Int) := by omega
          have HA1 : Hid (At st f s0 s (k + 1) (k + 1) (st x s[k]) ws) := HA.out.skip hlt hb hf
          clear hf
          go_wp2_with (go_at_fn kb; refine (HC.out _ HJ.out).mono ?_; rintro e w1 ⟨rfl, hJ1⟩)
          go_roundw
          case rel => exact ⟨k + 1, k + 1, _, ws, by omega, Nat.le_refl _, by go_num, by go_num, HA1, by assumption⟩
          case measure => simp [intOf]; omega
    · obtain rfl : k = s.size := by omega
      by_cases hb : bg < s.size
      · have hib : (bg : Int) < (s.size : Int) := by omega
        have hi1 : (bg : Int) ≤ (s.size : Int) := by omega
        have HL : Hid (pcs st f s0 s = ws ++ [s.extract bg s.size] ∧ x = (bl s).foldl st s0) := HA.out.last hb
        have HC : Hid (∀ W, J x ws W → Calls Tryd.prog kd (#[.string (s.extract bg s.size)] ++ cd) W fun e w' => e = .returned (.tuple #[]) ∧ J ((bl s).foldl st s0) (pcs st f s0 s) w') := fun W h => by
          have := HD.out x ws (s.extract bg s.size) W h (by rw [HL.out.1]; exact List.prefix_refl _)
          rw [HL.out.1, ← HL.out.2]; exact this
        go_wp2_with (go_at_fn kd; refine (HC.out _ HJ.out).mono ?_; rintro e w1 ⟨rfl, hJ1⟩)
        go_end0
        exact ⟨rfl, by assumption⟩
      · have hib : ¬ (bg : Int) < (s.size : Int) := by omega
        have HL : Hid (pcs st f s0 s = ws ∧ x = (bl s).foldl st s0) := HA.out.done hb
        go_wp2
        go_end0
        refine ⟨rfl, ?_⟩
        rw [HL.out.1, ← HL.out.2]; exact HJ.out
theorem index_blank (c : UInt8) : ∃ X : Int, Lib.indexByte [32, 9] c = X ∧ (0 ≤ X ↔ K.isB c = true) := by
  refine ⟨_, rfl, ?_⟩
  unfold K.isB
  by_cases h1 : c = 32
  · subst h1; decide
  by_cases h2 : c = 9
  · subst h2; decide
  have g : ∀ x : UInt8, c ≠ x → (x == c) = false := fun x h => by simpa using fun e => h e.symm
  have g' : ∀ x : UInt8, c ≠ x → (c == x) = false := fun x h => by simpa using h
  simp [Lib.indexByte, g 32 h1, g 9 h2, g' 32 h1, g' 9 h2]

/-- What is a blank, asked of a byte alone. -/
theorem blank0_any (c : UInt8) (w : World) :
    Calls Tryd.prog 56 #[.int .u8 c.toNat] w fun e w' => e = .returned (.bool (K.isB c)) ∧ w = w' := by
  obtain ⟨X, hX, hX0⟩ := index_blank c
  have HO : Hid (∀ W, Calls Tryd.prog 57 #[.string ⟨#[32, 9]⟩, .int .u8 c.toNat] W fun e w' => e = .returned (.int .i64 X) ∧ W = w') := by
    intro W
    have h := Tryd.strings_IndexByte ⟨#[32, 9]⟩ c.toNat W
    rw [u8_back] at h
    rw [← hX]; exact h.mono fun e w' h => ⟨h.1, h.2.symm⟩
  clear hX
  cases hb : K.isB c
  · have hx : ¬ 0 ≤ X := by rw [hX0, hb]; simp
    clear hX0 hb
    go_enter Tryd.func56, Tryd.ntmps56
    go_wp2_with fail
    refine (HO.out _).mono ?_
    rintro e w' ⟨rfl, rfl⟩
    go_wp2
    go_ret
    exact ⟨ret_bool (by simpa using hx), rfl⟩
  · have hx : 0 ≤ X := by rw [hX0, hb]
    clear hX0 hb
    go_enter Tryd.func56, Tryd.ntmps56
    go_wp2_with fail
    refine (HO.out _).mono ?_
    rintro e w' ⟨rfl, rfl⟩
    go_wp2
    go_ret
    exact ⟨ret_bool (by simp), rfl⟩
/-- A box that holds a list of texts. -/
structure Lst (base b : Nat) (ws : List ByteArray) (w : World) : Prop where
  ex : ∃ v, w.heap[b]? = some (.cells #[v] 22 (0, 0)) ∧ w.ownsRow base 9 1 v ws.length (ws.map Value.string) ∧ v.ownBlock ≠ some b
/-- One block is written, and memory is made. -/
structure Some1 (b : Nat) (g : Option Nat) (w w' : World) : Prop where
  os : w'.os = w.os
  tape : w'.tape = w.tape
  output : w'.output = w.output
  size : w.heap.size ≤ w'.heap.size
  block : ∀ j, j < w.heap.size → j ≠ b → g ≠ some j → w'.heap[j]? = w.heap[j]?
set_option maxRecDepth 20000 in
set_option maxHeartbeats 400000 in
theorem push_any {base b : Nat} {ws : List ByteArray} {v : Value} (x : ByteArray) (w : World) (hbb : base ≤ w.heap.size) (hlen : ws.length ≤ 4000000) (hblk : w.heap[b]? = some (.cells #[v] 22 (0, 0))) (hrow : w.ownsRow base 9 1 v ws.length (ws.map Value.string)) (hvb : v.ownBlock ≠ some b) :
    Calls Tryd.prog 34 #[.string x, .pointer (some ⟨b, 0, none⟩)] w fun e w' => e = .returned (.tuple #[]) ∧ Lst base b (ws ++ [x]) w' ∧ Some1 b v.ownBlock w w' := by
  obtain ⟨i0, hi, hz0, hz1, hz2⟩ := info_of infoS
  obtain ⟨n, hn⟩ : ∃ n, n = ws.length := ⟨_, rfl⟩
  have hbl : b < w.heap.size := (Array.getElem?_eq_some_iff.1 hblk).1
  have hsl : ∃ a cap, v = .slice a n cap := by
    rw [hn]
    rcases hrow.2 with ⟨h1, h2⟩ | ⟨g, cap, cur, rfl, _⟩
    · exact ⟨none, 0, by rw [h1, h2]⟩
    · exact ⟨_, _, rfl⟩
  obtain ⟨a, cap, rfl⟩ := hsl
  rw [← hn] at hrow hlen
  have HW : Hid (n = ws.length ∧ w.heap[b]? = some (.cells #[.slice a n cap] 22 (0, 0))) := ⟨hn, hblk⟩
  have c0 : w.cell? ⟨b, 0, none⟩ = some (.slice a n cap) := by simp only [World.cell?, hblk]; rfl
  clear hn hblk
  go_enter Tryd.func34, Tryd.ntmps34
  go_wp2_with (at_builtin; refine wpList_append_own_at _ rfl _ _ 22 rfl base 9 i0 (.string ⟨#[]⟩) 1 16 Tryd.underlying22 hi hz0 hz1 hz2 rfl (by decide) _ _ _ rfl (hrow.alloc _) ⟨w.heap.size, 0, none⟩ 1 1 [.string x] rfl rfl ?c1 ?c2 ?c3 ?c4 ?c5 ?_)
  case c1 =>
    intro j u hj
    match j, hj with
    | 0, hj => simp at hj; subst hj; simp [Addr.add]
  case c2 => intro u hu; simp at hu; subst hu; rfl
  case c3 => unfold maxLen; omega
  case c4 => omega
  case c5 => simp; omega
  intro v0 w3 hown' hgrow _ hloc
  obtain ⟨g', cap', hv0⟩ : ∃ g' cap', v0 = .slice (some ⟨g', 0, none⟩) (n + 1) cap' := by
    rcases hown'.2 with ⟨_, h0⟩ | ⟨g', cap', cur', hv', _⟩
    · omega
    · exact ⟨g', cap', hv'⟩
  subst hv0
  have hb3 : w3.heap[b]? = some (.cells #[.slice a n cap] 22 (0, 0)) := by
    rw [hgrow.block b (by simp; omega) (fun e => hvb e.symm)]; exact (Below.heap_alloc _ _ _ hbl).trans HW.out.2
  have d5 : w3.cell? ⟨b, 0, none⟩ = some (.slice a n cap) := by simp only [World.cell?, hb3]; rfl
  have f5 : w3.frozen? ⟨b, 0, none⟩ = false := by simp [World.frozen?, hb3]
  have hs3 := hgrow.size
  have HT : Hid (Some1 b (Value.slice a n cap).ownBlock w w3) := by
    refine ⟨hgrow.os, hgrow.tape, hgrow.output, by simp at hs3; omega, fun j hj _ hv => ?_⟩
    rw [hgrow.block j (by simp; omega) (fun e => hv e.symm)]; exact Below.heap_alloc _ _ _ hj
  have HO : Hid (w3.ownsRow base 9 1 (.slice (some ⟨g', 0, none⟩) (n + 1) cap') (ws ++ [x]).length ((ws ++ [x]).map Value.string)) := by
    unfold Hid
    rw [List.map_append, List.length_append, ← HW.out.1]
    exact hown'
  have HB : Hid (w3.heap[b]? = some (.cells #[.slice a n cap] 22 (0, 0))) := hb3
  clear hown' hgrow hloc hb3 hs3 hrow c0
  go_wp2
  go_end0
  have hv : (Value.slice (some ⟨g', 0, none⟩) (n + 1) cap').ownBlock ≠ some b := fun e => by
    obtain ⟨cur, hc⟩ := row_type HO.out e
    have := HB.out
    rw [hc] at this; simp at this
  refine ⟨rfl, ⟨_, heap_set HB.out _, row_set HO.out hv _, hv⟩, ⟨HT.out.os, HT.out.tape, HT.out.output, by rw [size_set]; exact HT.out.size, fun j hj hb hg => ?_⟩⟩
  rw [Below.heap_setCell _ _ _ _ hb]; exact HT.out.block j hj hb hg
theorem Some1.below {b n0 : Nat} {g : Option Nat} {w0 w w' : World} (h : Some1 b g w w') (h0 : Below n0 w0 w) (hn : n0 ≤ w.heap.size) (hb : n0 ≤ b) (hg : ∀ j, g = some j → n0 ≤ j) : Below n0 w0 w' :=
  ⟨h.os.trans h0.os, h.tape.trans h0.tape, h.output.trans h0.output, Nat.le_trans h0.size h.size, fun j hj => (h.block j (by omega) (by omega) (fun e => by have := hg j e; omega)).trans (h0.block j hj)⟩
theorem alloc_at (w : World) (o : Obj) : (w.alloc o).heap[w.heap.size]? = some o := by
  unfold World.alloc; exact Array.getElem?_push_size
theorem ef1 : ∀ args w, (callFunc 56 args).run Tryd.prog w = .ok (.enter 56 args) w := enters_of Tryd.func56 (by kernel_rfl) rfl
theorem eF1 : ∀ args w, (callFunc 34 args).run Tryd.prog w = .ok (.enter 34 args) w := enters_of Tryd.func34 (by kernel_rfl) rfl
/-- The fields, as texts. -/
def flds (s : ByteArray) : List ByteArray := (K.fields (bl s)).map ba
theorem pcs_flds (s : ByteArray) : pcs K.stU K.fU () s = flds s := rfl
theorem flds_len (s : ByteArray) : (flds s).length ≤ s.size := by
  have := K.cut_length (st := K.stU) (f := K.fU) () [] (bl s)
  rw [bl_length] at this
  unfold flds K.fields
  simpa using this
set_option maxHeartbeats 400000 in
theorem fields0_any (kd : Nat) (cd : Array Value) (J : List ByteArray → World → Prop) (s : ByteArray) (w : World) (hs : s.size ≤ 140737488355328) (ed : ∀ args w, (callFunc kd args).run Tryd.prog w = .ok (.enter kd args) w)
    (hD : ∀ ws t W, J ws W → (ws ++ [t]) <+: flds s → Calls Tryd.prog kd (#[.string t] ++ cd) W fun e w' => e = .returned (.tuple #[]) ∧ J (ws ++ [t]) w') (h0 : J [] w) :
    Calls Tryd.prog 33 #[.string s, .func (.func kd) #[] cd] w fun e w' => e = .returned (.tuple #[]) ∧ J (flds s) w' := by
  have HB : Hid (Calls Tryd.prog 55 #[.string s, .func (.func 56) #[] #[], .func (.func kd) #[] cd] w fun e w' => e = .returned (.tuple #[]) ∧ J (flds s) w') := by
    refine between_any K.stU K.fU () 56 kd #[] cd (fun _ ws W => J ws W) s w hs ef1 ed ?_ (fun _ ws t W hJ hp => hD ws t W hJ hp) h0
    intro _ ws c W hJ
    exact (blank0_any c W).mono fun e w' ⟨he, hw⟩ => ⟨he, hw ▸ hJ⟩
  clear hD h0
  go_enter Tryd.func33, Tryd.ntmps33
  go_wp2_with (go_at_call 55; refine HB.out.mono ?_; rintro e w1 ⟨rfl, hJ⟩)
  go_end0
  exact ⟨rfl, by assumption⟩
def FJ (n0 : Nat) (w0 : World) (ws : List ByteArray) (W : World) : Prop := Lst (n0 + 1) n0 ws W ∧ Below n0 w0 W ∧ n0 < W.heap.size
theorem fj_push {n0 : Nat} {w0 : World} {ws : List ByteArray} {W : World} (x : ByteArray) (hl : ws.length ≤ 4000000) (h : FJ n0 w0 ws W) :
    Calls Tryd.prog 34 #[.string x, .pointer (some ⟨n0, 0, none⟩)] W fun e w' => e = .returned (.tuple #[]) ∧ FJ n0 w0 (ws ++ [x]) w' := by
  obtain ⟨⟨v, h1, h2, h3⟩, hb, hn⟩ := h
  refine (push_any x W (by omega) hl h1 h2 h3).mono fun e w' ⟨he, hL, hS⟩ => ⟨he, hL, hS.below hb (by omega) (Nat.le_refl _) (fun j hj => ?_), Nat.lt_of_lt_of_le hn hS.size⟩
  have := (h2.lt j hj).1; omega
set_option maxHeartbeats 400000 in
theorem fields_any (s : ByteArray) (w : World) (hs : s.size ≤ 4000000) :
    Calls Tryd.prog 18 #[.string s] w fun e w' => ∃ v, e = .returned v ∧ Words w'.heap.size w' v (flds s) ∧ Below w.heap.size w w' := by
  have HF : Hid (Calls Tryd.prog 33 #[.string s, .func (.func 34) #[] #[.pointer (some ⟨w.heap.size, 0, none⟩)]] (w.alloc (.cells #[.slice none 0 0] 22)) fun e w' => e = .returned (.tuple #[]) ∧ FJ w.heap.size w (flds s) w') := by
    refine fields0_any 34 _ (FJ w.heap.size w) s _ (by omega) eF1 (fun ws t W hJ hp => ?_) ?_
    · have h1 := hp.length_le
      have h2 := flds_len s
      rw [List.length_append] at h1
      exact fj_push t (by omega) hJ
    · refine ⟨⟨.slice none 0 0, ?_, World.ownsRow_nil _ _ _ _, by simp [Value.ownBlock]⟩, (Below.refl _ _).alloc (Nat.le_refl _) _, by simp⟩
      exact alloc_at _ _
  go_enter Tryd.func18, Tryd.ntmps18
  go_wp2_with fail
  refine HF.out.mono ?_
  rintro e w1 ⟨rfl, ⟨v, h1, h2, h3⟩, hb, hn⟩
  have c0 : w1.cell? ⟨w.heap.size, 0, none⟩ = some v := by simp only [World.cell?, h1]; rfl
  have HW : Hid (Words w1.heap.size w1 v (flds s)) := words_of_owns h2 (Nat.le_refl _)
  clear h1 h2 h3
  go_wp2
  go_ret
  exact ⟨_, rfl, HW.out, hb⟩
end Go.Proofs.YtbgnmchnfaknkaaDoor.WD
