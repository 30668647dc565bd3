/-
  MB5
-/
import Derived.Test.YtedepknbaakkhabGreatDoorK41
set_option maxRecDepth 20000
namespace Go.Proofs.YtedepknbaakkhabGreatDoor
open Go.RowKit Go.Shelf Go.Sort
set_option maxHeartbeats 1600000 in
theorem far_big (s : ByteArray) (a : Option Addr) (n c : Nat) (w : World) (hs : 300 < s.size) : Calls Tryz.prog 4 #[.string s, .slice a n c] w fun e w' => e = .returned (.bool true) ∧ w = w' := by
  have t1 : (300 : Int) < (s.size : Int) := by omega
  have t3 : decide ((300 : Int) < (s.size : Int)) = true := by simp; omega
  go_enter Tryz.func4, Tryz.ntmps4
  go_wp2
  go_ret
  exact ⟨rfl, rfl⟩
def farB (s : ByteArray) (l : List ByteArray) : Bool := decide (300 < s.size) || (decide (200 < l.length) || longL l)
theorem far_any (s : ByteArray) (a : Option Addr) (n c : Nat) (l : List ByteArray) (w : World) (hw : Words w.heap.size w (.slice a n c) l) : Calls Tryz.prog 4 #[.string s, .slice a n c] w fun e w' => e = .returned (.bool (farB s l)) ∧ w = w' := by
  have hn := hw.len
  by_cases h1 : 300 < s.size
  · have := far_big s a n c w h1
    unfold farB; rw [decide_eq_true h1]; exact this
  · by_cases h2 : 200 < n
    · have := far_long s a n c w (by omega) h2
      unfold farB; rw [decide_eq_true (show 200 < l.length by omega), Bool.true_or, Bool.or_true]; exact this
    · have := far_short s a n c l w hw (by omega) (by omega)
      unfold farB; rw [decide_eq_false h1, decide_eq_false (show ¬ 200 < l.length by omega)]; exact this
theorem farB_not {s : ByteArray} {l : List ByteArray} (h : farB s l = false) : s.size ≤ 300 ∧ l.length ≤ 200 ∧ longL l = false := by
  unfold farB at h
  simp only [Bool.or_eq_false_iff, decide_eq_false_iff_not] at h
  exact ⟨by omega, by omega, h.2.2⟩
theorem OwnW.fr {base lo : Nat} {W W' : World} {v : Value} {l : List ByteArray} {ms : List Md} {us : List Um} (h : OwnW base W v l) (hh : Held lo W ms us) (hf : X.Fr (DD ms) W W') : OwnW base W' v l := by
  rcases h with h | ⟨g, o, c, cur, h1, hg, hcur, rest⟩
  · exact .inl h
  · refine .inr ⟨g, o, c, cur, h1, hg, (hf.block g (Array.getElem?_eq_some_iff.1 hcur).1 (fun hd => ?_)).trans hcur, rest⟩
    obtain ⟨_, t, k, hk⟩ := hh.rx hd
    obtain ⟨cs, hc⟩ := hk.cells
    rw [hc] at hcur
    simp at hcur
structure Inv (w : World) (am : Option Addr) (ms : List Md) (us : List Um) (vs : List (Value × List ByteArray)) (W : World) : Prop where
  low : Below w.heap.size w W
  held : Held w.heap.size W ms us
  row : ModsT W am ms
  own : ∀ p ∈ vs, OwnW w.heap.size W p.1 p.2
theorem Inv.below {w : World} {am : Option Addr} {ms : List Md} {us : List Um} {vs : List (Value × List ByteArray)} {W W' : World} (h : Inv w am ms us vs W) (hb : Below W.heap.size W W') : Inv w am ms us vs W' :=
  ⟨h.low.trans (hb.mono h.low.size), h.held.below hb, h.row.below hb, fun p hp => (h.own p hp).below hb⟩
theorem Inv.fr {w : World} {am : Option Addr} {ms : List Md} {us : List Um} {vs : List (Value × List ByteArray)} {W W' : World} (h : Inv w am ms us vs W) (hf : X.Fr (DD ms) W W') (hh : Held w.heap.size W' ms us) : Inv w am ms us vs W' := by
  refine ⟨⟨hf.os.trans h.low.os, hf.tape.trans h.low.tape, hf.output.trans h.low.output, Nat.le_trans h.low.size hf.size, fun j hj => ?_⟩, hh, h.row.fr h.held hf, fun p hp => (h.own p hp).fr h.held hf⟩
  refine (hf.block j (Nat.lt_of_lt_of_le hj h.low.size) (fun hd => ?_)).trans (h.low.block j hj)
  have := (h.held.rx hd).1
  omega
theorem Inv.add {w : World} {am : Option Addr} {ms : List Md} {us : List Um} {vs : List (Value × List ByteArray)} {W : World} {v : Value} {r : List ByteArray} (h : Inv w am ms us vs W) (ho : OwnW w.heap.size W v r) : Inv w am ms us ((v, r) :: vs) W :=
  ⟨h.low, h.held, h.row, fun p hp => by
    rcases List.mem_cons.1 hp with rfl | hp
    · exact ho
    · exact h.own p hp⟩
theorem Inv.sub {w : World} {am : Option Addr} {ms : List Md} {us : List Um} {vs vs' : List (Value × List ByteArray)} {W : World} (h : Inv w am ms us vs W) (hs : ∀ p ∈ vs', p ∈ vs) : Inv w am ms us vs' W := ⟨h.low, h.held, h.row, fun p hp => h.own p (hs p hp)⟩
theorem Held.one {lo : Nat} {w : World} {ms : List Md} {us : List Um} (h : Held lo w ms us) (k : Nat) (hk : k < ms.length) (hku : k < us.length) : Held lo w [ms[k]] [us[k]] := by
  refine ⟨rfl, fun i h1 h2 => ?_, fun i j h1 h2 hij => ?_, fun u hu => ?_⟩
  · obtain rfl : i = 0 := by simp at h1; exact h1
    exact h.fit k hk hku
  · simp at h1 h2; omega
  · obtain rfl : u = us[k] := by simpa using hu
    exact h.non _ (List.getElem_mem _)
theorem Held.up {lo : Nat} {w w' : World} {ms : List Md} {us : List Um} (h : Held lo w ms us) (k : Nat) (hk : k < ms.length) (hku : k < us.length) (hf : X.Fr (DD [ms[k]]) w w') (h1 : Held lo w' [ms[k]] [us[k]]) : Held lo w' ms us := by
  refine ⟨h.len, fun i g1 g2 => ?_, h.own, h.non⟩
  by_cases hik : i = k
  · subst hik; exact h1.fit 0 (by simp) (by simp)
  · have hfi := h.fit i g1 g2
    have hown := h.own k i hk g1 (Ne.symm hik)
    have hrx := fun (j : Nat) (hj : ms[k].ex = some ⟨j, 0, none⟩) => h.rx (j := j) ⟨ms[k], List.getElem_mem _, hj⟩
    generalize us[i] = u at hfi
    obtain ⟨md, rx⟩ := u
    cases rx with
    | none => exact hfi
    | some p =>
      obtain ⟨t, kx⟩ := p
      obtain ⟨r, q1, q2, q3⟩ := hfi
      refine ⟨r, q1, q2, made_fr q3 hf fun j hd => ?_⟩
      obtain ⟨m, hm, hd⟩ := hd
      obtain rfl : m = ms[k] := by simpa using hm
      obtain ⟨_, t2, k2, hm2⟩ := hrx j hd
      obtain ⟨cs, hc⟩ := hm2.cells
      refine ⟨cs, _, hc, by decide, by decide, fun _ e => ?_⟩
      have h3 := hown (by rw [hd]; simp)
      rw [hd, q2, e] at h3
      exact h3 rfl
theorem fr_one {ms : List Md} {k : Nat} {w w' : World} (hk : k < ms.length) (hf : X.Fr (DD [ms[k]]) w w') : X.Fr (DD ms) w w' :=
  ⟨hf.os, hf.tape, hf.output, hf.size, fun j hj hd => hf.block j hj (fun hd2 => by
    obtain ⟨m, hm, he⟩ := hd2
    obtain rfl : m = ms[k] := by simpa using hm
    exact hd ⟨_, List.getElem_mem _, he⟩)⟩
def codeN (R : Option (List ByteArray)) : Int := if R.isSome then 0 else 5
theorem apU_out {R : Option (List ByteArray)} {ms : List Md} {us : List Um} {lo : Nat} {w : World} {e : Ending} {w' : World} (h : ApplyU R ms us lo w e w') : X.Fr (DD ms) w w' ∧ Held lo w' ms us ∧ ∃ a' n' c', e = .returned (.tuple #[.slice a' n' c', .int .i64 (codeN R)]) ∧ OwnW w.heap.size w' (.slice a' n' c') (R.getD []) := by
  obtain ⟨h1, h2, h3⟩ := h
  refine ⟨h1, h2, ?_⟩
  cases R with
  | none => exact ⟨none, 0, 0, h3, .nil⟩
  | some r =>
    obtain ⟨v', rfl, ho⟩ := h3
    obtain ⟨a', c', rfl⟩ := ho.slice
    exact ⟨a', _, c', rfl, ho⟩
theorem apply_i (w : World) (am : Option Addr) (ms : List Md) (us : List Um) (vs : List (Value × List ByteArray)) (hgd : ∀ u ∈ us, AppliesU u (semU u)) (hm : ms.length ≤ 100) (nm cm : Nat) (hnm : nm = ms.length) (a : Option Addr) (n c : Nat) (l : List ByteArray) (hw : Words w.heap.size w (.slice a n c) l) (hfew : Few l) (hG : Gz w) (R : Option (List ByteArray)) (hR : appL us l = R) (W : World) (hI : Inv w am ms us vs W) :
    Calls Tryz.prog 8 #[.slice am nm cm, .slice a n c] W fun e W' => ∃ a' n' c', e = .returned (.tuple #[.slice a' n' c', .int .i64 (codeN R)]) ∧ Inv w am ms us ((.slice a' n' c', R.getD []) :: vs) W' := by
  refine (apply_u ms us hgd am nm cm a n c l w.heap.size W hnm hI.row hI.held ((hw.below hI.low).mono hI.low.size) (by have := hw.len; have := hfew.1; omega) (few_all hfew).2 (by omega) (hG.below hI.low)).mono ?_
  intro e W' h
  rw [hR] at h
  obtain ⟨h1, h2, a', n', c', he, ho⟩ := apU_out h
  exact ⟨a', n', c', he, (hI.fr h1 h2).add (ho.base hI.low.size)⟩
theorem apply_k (w : World) (am : Option Addr) (ms : List Md) (us : List Um) (vs : List (Value × List ByteArray)) (hgd : ∀ u ∈ us, AppliesU u (semU u)) (k : Nat) (hk : k < ms.length) (hku : k < us.length) (g o : Nat) (ham : am = some ⟨g, o, none⟩) (cm : Nat) (a : Option Addr) (n c : Nat) (r : List ByteArray) (hfew : Few r) (hG : Gz w) (R : Option (List ByteArray)) (hR : semU us[k] r = R) (W : World) (hI : Inv w am ms us vs W) (hin : (Value.slice a n c, r) ∈ vs) :
    Calls Tryz.prog 8 #[.slice (some ⟨g, o + k * 12, none⟩) 1 cm, .slice a n c] W fun e W' => ∃ a' n' c', e = .returned (.tuple #[.slice a' n' c', .int .i64 (codeN R)]) ∧ Inv w am ms us ((.slice a' n' c', R.getD []) :: vs) W' := by
  have hrow : ModsT W (some ⟨g, o + k * 12, none⟩) [ms[k]] := fun i hi => by
    obtain rfl : i = 0 := by simp at hi; exact hi
    obtain ⟨g', o', cur, e1, e2, e3⟩ := hI.row k hk
    rw [ham] at e1
    simp only [Option.some.injEq, Addr.mk.injEq, and_true] at e1
    obtain ⟨rfl, rfl⟩ := e1
    refine ⟨g, o + k * 12, cur, rfl, e2, fun i u hu => ?_⟩
    rw [Nat.zero_mul, Nat.add_zero]
    exact e3 i u hu
  have hw : Words W.heap.size W (.slice a n c) r := (hI.own _ hin).words
  have happ : appL [us[k]] r = R := by
    unfold appL
    rw [if_pos hfew]
    show (semU us[k] r).bind (foldG []) = R
    rw [hR]
    cases R <;> rfl
  refine (apply_u [ms[k]] [us[k]] (fun u hu => by obtain rfl : u = us[k] := by simpa using hu
                                                  exact hgd _ (List.getElem_mem _)) _ 1 cm a n c r w.heap.size W rfl hrow (hI.held.one k hk hku) hw (by have := hw.len; have := hfew.1; omega) (few_all hfew).2 (by omega) (hG.below hI.low)).mono ?_
  intro e W' h
  rw [happ] at h
  obtain ⟨h1, h2, a', n', c', he, ho⟩ := apU_out h
  exact ⟨a', n', c', he, (hI.fr (fr_one hk h1) (hI.held.up k hk hku h1 h2)).add (ho.base hI.low.size)⟩
theorem all_i (w : World) (am : Option Addr) (ms : List Md) (us : List Um) (vs : List (Value × List ByteArray)) (s : ByteArray) (hsz : s.size ≤ 1000) (hp : allU (bl s) = .inl us) (a : Option Addr) (n c : Nat) (l : List ByteArray) (hw : Words w.heap.size w (.slice a n c) l) (hfew : Few l) (hG : Gz w) (hE : Ey w) (R : Option (List ByteArray)) (hR : appL us l = R) (W : World) (hI : Inv w am ms us vs W) :
    Calls Tryz.prog 7 #[.string s, .slice a n c] W fun e W' => ∃ a' n' c', e = .returned (.tuple #[.slice a' n' c', .int .i64 (codeN R)]) ∧ Inv w am ms us ((.slice a' n' c', R.getD []) :: vs) W' ∧ Below W.heap.size W W' := by
  refine (all_un s a n c l W hsz ((hw.below hI.low).mono hI.low.size) (by have := hw.len; have := hfew.1; omega) (few_all hfew).2 (hG.below hI.low) (hE.below hI.low hE.pos)).mono ?_
  rintro e W' ⟨hb, h⟩
  rw [hp] at h
  dsimp only at h
  rw [hR] at h
  cases R with
  | none => exact ⟨none, 0, 0, h, (hI.below hb).add .nil, hb⟩
  | some r =>
    obtain ⟨v', rfl, ho⟩ := h
    obtain ⟨a', c', rfl⟩ := ho.slice
    exact ⟨a', _, c', rfl, (hI.below hb).add (ho.base hI.low.size), hb⟩
end Go.Proofs.YtedepknbaakkhabGreatDoor
