/-
  MA9 MB1 MB2 M25 M26
-/
import Derived.Test.YtedepknbaakkhabGreatDoorK38
import Derived.Test.YtedepknbaakkhabGreatDoorK39
import Derived.Test.YtedepknbaakkhabGreatDoorK40
import Derived.Test.YtedepknbaakkhabGreatDoorK10
import Derived.Lib.ItoaLen
set_option maxRecDepth 20000
namespace Go.Proofs.YtedepknbaakkhabGreatDoor
open Go.RowKit Go.Shelf Go.Sort
theorem few_all {r : List ByteArray} (h : Few r) : r.length ≤ 1000000 ∧ ∀ y ∈ r, y.size ≤ 1000000 :=
  ⟨by have := h.1; omega, fun y hy => by have := size_mem hy; have := h.2; omega⟩
theorem few_sub {l r : List ByteArray} (hl : r.length ≤ l.length) (h : ∀ y ∈ r, y ∈ l) (hf : Few l) : r.length ≤ 1000000 ∧ ∀ y ∈ r, y.size ≤ 1000000 :=
  ⟨by have := hf.1; omega, fun y hy => (few_all hf).2 y (h y hy)⟩
theorem piece_sub (f t : Int) (l : List ByteArray) : (pieceL f t l).length ≤ l.length ∧ ∀ y ∈ pieceL f t l, y ∈ l := by
  unfold pieceL
  split
  · exact ⟨Nat.zero_le _, fun y hy => by simp at hy⟩
  · split
    · exact ⟨by simp; omega, fun y hy => List.mem_of_mem_drop (List.mem_of_mem_take hy)⟩
    · exact ⟨by simp; omega, fun y hy => List.mem_of_mem_drop (List.mem_of_mem_take (List.mem_reverse.1 hy))⟩
theorem itoa_size (n : Nat) (hn : n ≤ 4096) : (ba (Lib.itoa n)).size ≤ 1000000 := by
  have := Lib.itoa_length_le n (by omega) (by omega)
  rw [ba_size]; omega
theorem good_applies {N : Nat} (hN : N ≤ 1000) {u : Um} (h : GoodU N u) : ∃ g, AppliesU u g := by
  cases h with
  | m p hp => exact ⟨_, appliesU_of rfl fun a n c l w h1 h2 h3 h4 => apply_matching _ (actM _) (by simp [fnL]) (does_m _ (by show p.size ≤ _; omega)) a n c l w h1 h2 h3 h4⟩
  | n p hp => exact ⟨_, appliesU_of rfl fun a n c l w h1 h2 h3 h4 => apply_other _ (actN _) (by simp [fnL]) (does_n _ (by show p.size ≤ _; omega)) a n c l w h1 h2 h3 h4⟩
  | s a b bg en al on mks ots ha hb h1 h2 =>
    by_cases ha1 : 1 ≤ a.size
    · exact ⟨_, appliesU_of rfl fun a' n c l w h1 h2 h3 h4 => apply_replaced _ (actS _ mks ots) (by simp [fnL]) (does_s _ mks ots ha1 (by show a.size ≤ _; omega) (by show b.size ≤ _; omega) rfl rfl (by omega) (by omega)) a' n c l w h1 h2 h3 h4⟩
    · have ha0 : a = E := bl_inj (by have := bl_length a; exact List.length_eq_zero_iff.1 (by omega))
      exact ⟨_, appliesU_of rfl fun a' n c l w h1 h2 h3 h4 => apply_replaced _ (actS0 _ ots) (by simp [fnL]) (does_s0 _ mks ots ha0 (by show b.size ≤ _; omega) rfl rfl (by omega) (by omega)) a' n c l w h1 h2 h3 h4⟩
  | c t k b al on mks ots hb h1 h2 => exact ⟨_, appliesU_c _ t k mks ots rfl (by show b.size ≤ _; omega) rfl rfl (by omega) (by omega)⟩
  | word t ht =>
    unfold wordsL at ht
    simp only [List.mem_cons, List.not_mem_nil, or_false] at ht
    rcases ht with rfl | rfl | rfl | rfl | rfl | rfl | rfl | rfl | rfl | rfl | rfl
    · exact ⟨_, appliesU_of rfl fun a n c l w h1 h2 h3 h4 => apply_name _ _ (by simp [fnL]) (does_name _) a n c l w h1 h2 h3 h4⟩
    · exact ⟨_, appliesU_of rfl fun a n c l w h1 h2 h3 h4 => apply_dir _ _ (by simp [fnL]) (does_dir _) a n c l w h1 h2 h3 h4⟩
    · exact ⟨_, appliesU_of rfl fun a n c l w h1 h2 h3 h4 => apply_suffix _ _ (by simp [fnL]) (does_suffix _) a n c l w h1 h2 h3 h4⟩
    · exact ⟨_, appliesU_of rfl fun a n c l w h1 h2 h3 h4 => apply_root _ _ (by simp [fnL]) (does_root _) a n c l w h1 h2 h3 h4⟩
    · exact ⟨_, appliesU_all _ _ rfl (by simp [allL]) (fun l hf => few_all (few_sorted l hf)) (ofAllU_o _ rfl)⟩
    · exact ⟨_, appliesU_all _ _ rfl (by simp [allL]) (fun l hf => few_all (few_rev _ (few_sorted l hf))) (ofAllU_or _ rfl)⟩
    · exact ⟨_, appliesU_all _ _ rfl (by simp [allL]) (fun l hf => few_all (few_compact l hf)) (ofAllU_u _ rfl)⟩
    · exact ⟨_, appliesU_all _ _ rfl (by simp [allL]) (fun l hf => few_all (few_rev l hf)) (ofAllU_r _ rfl)⟩
    · exact ⟨_, appliesU_of rfl fun a n c l w h1 h2 h3 h4 => apply_small _ _ (by simp [fnL]) (does_small _) a n c l w h1 h2 h3 h4⟩
    · exact ⟨_, appliesU_of rfl fun a n c l w h1 h2 h3 h4 => apply_large _ _ (by simp [fnL]) (does_large _) a n c l w h1 h2 h3 h4⟩
    · exact ⟨_, appliesU_all _ _ rfl (by simp [allL]) (fun l hf => ⟨by simp, fun y hy => by simp at hy; rw [hy]; exact quote_few l hf⟩) (ofAllU_q _ rfl)⟩
  | eq a b ha hb => exact ⟨_, appliesU_of rfl fun a' n c l w h1 h2 h3 h4 => apply_endedSo _ (actE _) (by simp [fnL]) (does_e _ (by show a.size ≤ _; omega) (by show b.size ≤ _; omega)) a' n c l w h1 h2 h3 h4⟩
  | count => exact ⟨_, appliesU_all _ _ rfl (by simp [allL]) (fun l hf => ⟨by simp, fun y hy => by simp at hy; rw [hy]; exact itoa_size _ hf.1⟩) (ofAllU_hash _ rfl)⟩
  | join => exact ⟨_, appliesU_all _ _ rfl (by simp [allL]) (fun l hf => by
      split
      · exact ⟨by simp, fun y hy => by simp at hy⟩
      · exact ⟨by simp, fun y hy => by simp at hy; rw [hy]; have := few_join l hf; omega⟩) (ofAllU_star _ rfl)⟩
  | pick f t h1 h2 h3 h4 => exact ⟨_, appliesU_all _ _ rfl (by simp [allL]) (fun l hf => few_sub (piece_sub f t l).1 (piece_sub f t l).2 hf) (ofAllU_pick _ rfl h1 h2 h3 h4)⟩
open Classical in
noncomputable def semU (u : Um) : List ByteArray → Option (List ByteArray) := if h : ∃ g, AppliesU u g then Classical.choose h else fun _ => none
theorem semU_is {N : Nat} (hN : N ≤ 1000) {u : Um} (h : GoodU N u) : AppliesU u (semU u) := by
  unfold semU
  rw [dif_pos (good_applies hN h)]
  exact Classical.choose_spec (good_applies hN h)
end Go.Proofs.YtedepknbaakkhabGreatDoor
namespace Go.Proofs.YtedepknbaakkhabGreatDoor
open Go.RowKit Go.Shelf Go.Sort
open RxSem (Nd)
theorem made_fr {r : Nat} {t : ByteArray} {k : List Nd} {D : Nat → Prop} {w w' : World} (h : X.Made r t k w) (hf : X.Fr D w w') (hD : ∀ j, D j → ∃ cs T, w.heap[j]? = some (.cells cs T (0, 0)) ∧ ¬ T = 148 ∧ ¬ T = 146 ∧ (T = 113 → j ≠ r)) : X.Made r t k w' := by
  have hn : ∀ {j : Nat} {cs : Array Value} {T : TypeId}, w.heap[j]? = some (.cells cs T (0, 0)) → (T = 148 ∨ T = 146 ∨ (T = 113 ∧ j = r)) → w'.heap[j]? = w.heap[j]? := fun {j cs T} hj hT => by
    refine hf.block j (Array.getElem?_eq_some_iff.1 hj).1 (fun hd => ?_)
    obtain ⟨cs', T', h1, h2, h3, h4⟩ := hD j hd
    rw [hj] at h1
    simp at h1
    rcases hT with hT | hT | ⟨hT, hr⟩
    · exact h2 (h1.2.symm.trans hT)
    · exact h3 (h1.2.symm.trans hT)
    · exact h4 (h1.2.symm.trans hT) hr
  have hrow : ∀ {base' n z : Nat} {v' : Value} {xs : List Value}, w.ownsRow base' 148 z v' n xs → w'.ownsRow base' 148 z v' n xs := fun {base' n z v' xs} hr => by
    refine ⟨hr.1, ?_⟩
    rcases hr.2 with h0 | ⟨g, cap, cur, hv, hg, hgg, rest⟩
    · exact .inl h0
    · exact .inr ⟨g, cap, cur, hv, hg, (hn hgg (.inl rfl)).trans hgg, rest⟩
  cases h with
  | fresh v0 base0 L hb0 hr hok hsp hL => exact .fresh v0 base0 L ((hn hb0 (.inr (.inr ⟨rfl, rfl⟩))).trans hb0) (hrow hr) hok hsp hL
  | found gs cap SL h0 =>
    obtain ⟨cur, h2, h3⟩ := h0.stp
    exact .found gs cap SL ⟨(hn h0.blk (.inr (.inr ⟨rfl, rfl⟩))).trans h0.blk, ⟨cur, (hn h2 (.inr (.inl rfl))).trans h2, h3⟩, h0.abs, h0.oks, h0.few⟩
theorem made_first {r : Nat} {t : ByteArray} {k : List Nd} {w : World} (h : X.Made r t k w) : w.cell? ⟨r, 0, none⟩ = some (.bool true) := by
  cases h with
  | fresh v base L hb => simp only [World.cell?, hb]; rfl
  | found gs cap SL h => simp only [World.cell?, h.blk]; rfl
def DD (ms : List Md) (j : Nat) : Prop := ∃ m ∈ ms, m.ex = some ⟨j, 0, none⟩
theorem Held.rx {lo : Nat} {w : World} {ms : List Md} {us : List Um} (h : Held lo w ms us) {j : Nat} (hd : DD ms j) : lo ≤ j ∧ ∃ t k, X.Made j t k w := by
  obtain ⟨m, hm, he⟩ := hd
  obtain ⟨i, hi, rfl⟩ := List.mem_iff_getElem.1 hm
  have hf := h.fit i hi (by have := h.len; omega)
  have hn := h.non _ (List.getElem_mem (by have := h.len; omega : i < us.length))
  generalize us[i]'(by have := h.len; omega) = u at hf hn
  obtain ⟨md, rx⟩ := u
  cases rx with
  | none =>
    rw [show ms[i] = md from hf] at he
    rw [hn rfl] at he
    cases he
  | some p =>
    obtain ⟨t, k⟩ := p
    obtain ⟨r, h1, h2, h3⟩ := hf
    rw [h2] at he
    simp at he
    subst he
    exact ⟨h1, t, k, h3⟩
theorem Held.gz {lo : Nat} {w w' : World} {ms : List Md} {us : List Um} (h : Held lo w ms us) (hf : X.Fr (DD ms) w w') (hg : Gz w) : Gz w' := by
  refine ⟨?_, ?_⟩
  · obtain ⟨m, hm⟩ := hg.1
    refine ⟨m, ?_⟩
    have h0 : w'.heap[0]? = w.heap[0]? := hf.block 0 hg.1.pos (fun hd => by
      obtain ⟨_, t, k, hk⟩ := h.rx hd
      have := made_first hk
      rw [hm] at this
      cases this)
    simp only [World.cell?, h0] at hm ⊢
    exact hm
  · have h0 : w'.heap[3]? = w.heap[3]? := hf.block 3 hg.2.pos (fun hd => by
      obtain ⟨_, t, k, hk⟩ := h.rx hd
      have h1 := made_first hk
      have h2 := hg.2
      unfold Tz Lib.TabIs World.var? at h2
      rw [glob3] at h2
      simp only [Option.bind_some] at h2
      cases hb : w.heap[(3 : Nat)]? with
      | none => rw [hb] at h2; simp at h2
      | some o =>
        rw [hb] at h2
        cases o with
        | cells cs T fz =>
          simp only [Option.some.injEq] at h2
          simp only [World.cell?, hb] at h1
          rw [h2] at h1
          simp [Lib.pow10Tab] at h1
        | _ => simp at h2)
    have h2 := hg.2
    unfold Tz Lib.TabIs World.var? at h2 ⊢
    rw [glob3] at h2 ⊢
    simp only [Option.bind_some] at h2 ⊢
    rw [h0]; exact h2
theorem Held.ey {lo : Nat} {w w' : World} {ms : List Md} {us : List Um} (h : Held lo w ms us) (hf : X.Fr (DD ms) w w') (hg : Ey w) : Ey w' := by
  have hp := hg.pos
  obtain ⟨m, hm, h2⟩ := hg
  refine ⟨m, ?_, h2⟩
  have h0 : w'.heap[4]? = w.heap[4]? := hf.block 4 hp (fun hd => by
    obtain ⟨_, t, k, hk⟩ := h.rx hd
    have := made_first hk
    rw [hm] at this
    rcases h2 with rfl | ⟨te, pe, rfl⟩ <;> cases this)
  simp only [World.cell?, h0] at hm ⊢
  exact hm
def ModsT (w : World) (am : Option Addr) (ms : List Md) : Prop := ∀ k (h : k < ms.length), ∃ g o cur, am = some ⟨g, o, none⟩ ∧ w.heap[g]? = some (.cells cur 37 (0, 0)) ∧ ∀ i u, (ms[k].cells)[i]? = some u → cur[o + k * 12 + i]? = some u
theorem modsTof {base : Nat} {W : World} {a : Option Addr} {n c : Nat} {ms : List Md} (h : W.ownsRow base 37 12 (.slice a n c) ms.length (modsV ms)) : ModsT W a ms := by
  intro k hk
  obtain ⟨hxl, ⟨hv, hn⟩ | ⟨g, cap, cur, hv, hg, hcur, hcap, hcm, hcs, hct⟩⟩ := h
  · omega
  · simp only [Value.slice.injEq] at hv
    refine ⟨g, 0, cur, hv.1, hcur, fun i u hu => ?_⟩
    have hi12 : i < 12 := (Array.getElem?_eq_some_iff.1 hu).1
    have hmv : (modsV ms)[k * 12 + i]? = some u := modsV_get ms k i hk hi12 u hu
    have hlt : k * 12 + i < ms.length * 12 := by
      have : (k + 1) * 12 ≤ ms.length * 12 := Nat.mul_le_mul_right _ hk
      omega
    rw [← hct, List.getElem?_take_of_lt hlt] at hmv
    rw [Nat.zero_add, ← Array.getElem?_toList]; exact hmv
theorem ModsT.fr {w w' : World} {am : Option Addr} {ms ms' : List Md} {lo : Nat} {us : List Um} (h : ModsT w am ms) (hh : Held lo w ms' us) (hf : X.Fr (DD ms') w w') : ModsT w' am ms := by
  intro k hk
  obtain ⟨g, o, cur, h1, h2, h3⟩ := h k hk
  refine ⟨g, o, cur, h1, (hf.block g (Array.getElem?_eq_some_iff.1 h2).1 (fun hd => ?_)).trans h2, h3⟩
  obtain ⟨_, t, kx, hk⟩ := hh.rx hd
  obtain ⟨cs, hc⟩ := hk.cells
  rw [hc] at h2
  simp at h2
theorem ModsT.below {w w' : World} {am : Option Addr} {ms : List Md} (h : ModsT w am ms) (hb : Below w.heap.size w w') : ModsT w' am ms := by
  intro k hk
  obtain ⟨g, o, cur, h1, h2, h3⟩ := h k hk
  exact ⟨g, o, cur, h1, (hb.block g (Array.getElem?_eq_some_iff.1 h2).1).trans h2, h3⟩
theorem Held.ap {lo base : Nat} {w w' : World} {ms : List Md} {us : List Um} {v : Value} {l : List ByteArray} (h : Held lo w ms us) (k : Nat) (hk : k < ms.length) (hku : k < us.length) (ho : OwnW base w v l) (hf : X.Fr (ApD v ms[k]) w w') (hfit : Fits ms[k] us[k] lo w') : Held lo w' ms us := by
  refine ⟨h.len, fun i h1 h2 => ?_, h.own, h.non⟩
  by_cases hik : i = k
  · subst hik; exact hfit
  · have hfi := h.fit i h1 h2
    have hown := h.own k i hk h1 (Ne.symm hik)
    have hrx := fun (j : Nat) (hj : ms[k].ex = some ⟨j, 0, none⟩) => h.rx (j := j) ⟨ms[k], List.getElem_mem _, hj⟩
    generalize us[i] = u at hfi
    obtain ⟨md, rx⟩ := u
    cases rx with
    | none => exact hfi
    | some p =>
      obtain ⟨t, kx⟩ := p
      obtain ⟨r, g1, g2, g3⟩ := hfi
      refine ⟨r, g1, g2, made_fr g3 hf fun j hd => ?_⟩
      rcases hd with hd | hd
      · obtain ⟨_, cur, hc⟩ := ho.own hd
        exact ⟨cur, 9, hc, by decide, by decide, fun e => absurd e (by decide)⟩
      · obtain ⟨_, t2, k2, hm⟩ := hrx j hd
        obtain ⟨cs, hc⟩ := hm.cells
        refine ⟨cs, _, hc, by decide, by decide, fun _ e => ?_⟩
        have h3 := hown (by rw [hd]; simp)
        rw [hd, g2, e] at h3
        exact h3 rfl
end Go.Proofs.YtedepknbaakkhabGreatDoor
namespace Go.Proofs.YtedepknbaakkhabGreatDoor
open Go.RowKit Go.Shelf Go.Sort
def ApplyU (R : Option (List ByteArray)) (ms : List Md) (us : List Um) (lo : Nat) (w : World) (e : Ending) (w' : World) : Prop := X.Fr (DD ms) w w' ∧ Held lo w' ms us ∧ match R with
  | none => e = .returned (.tuple #[.slice none 0 0, .int .i64 5])
  | some r => ∃ v', e = .returned (.tuple #[v', .int .i64 0]) ∧ OwnW w.heap.size w' v' r
open Classical in
noncomputable def appL (us : List Um) (l : List ByteArray) : Option (List ByteArray) := if Few l then foldG (us.map semU) l else none
theorem clone_any (a : Option Addr) (n c : Nat) (l : List ByteArray) (w : World) (hw : Words w.heap.size w (.slice a n c) l) (hfew : Few l) : Calls Tryz.prog 12 #[.slice a n c] w fun e w' => ∃ v', e = .returned v' ∧ OwnW w.heap.size w' v' l ∧ Below w.heap.size w w' := by
  have hnl := hw.len
  cases a with
  | none =>
    refine (Tryz.slices_Clone_string_nil n c w).mono ?_
    rintro e w' ⟨rfl, rfl⟩
    have hl0 : l = [] := by
      by_cases hne : l = []
      · exact hne
      · obtain ⟨b, o, _, e, _⟩ := hw.at hne; cases e
    exact ⟨_, rfl, .inl ⟨rfl, hl0⟩, Below.refl _ _⟩
  | some ad =>
    by_cases hne : l = []
    · subst hne
      obtain rfl : n = 0 := by simpa using hnl
      refine (Tryz.slices_Clone_string_zero ad c w).mono ?_
      rintro e w' ⟨v', rfl, h1, _, h3⟩
      exact ⟨v', rfl, OwnW.of_owns (l := []) h1, h3⟩
    · obtain ⟨b, o, c', e, hb, hc⟩ := hw.at hne
      simp only [Value.slice.injEq, Option.some.injEq] at e
      obtain ⟨rfl, rfl, rfl⟩ := e
      refine (Tryz.slices_Clone_string b o l.length c l w (Nat.le_refl _) (by have := hfew.1; omega) (fun j hj => ?_)).mono ?_
      · rw [hc j hj, List.getD_eq_getElem?_getD, List.getElem?_eq_getElem hj]; rfl
      · rintro e w' ⟨v', rfl, h1, _, h3⟩
        rw [List.take_length] at h1
        exact ⟨v', rfl, OwnW.of_owns h1, h3⟩
theorem few_is (a : Option Addr) (n c : Nat) (l : List ByteArray) (B : Nat) (w : World) (h : Words B w (.slice a n c) l) (hn : n ≤ 1000000) (hs : ∀ y ∈ l, y.size ≤ 1000000) (b : Bool) (hb : b = true ↔ Few l) : Calls Tryz.prog 11 #[.slice a n c] w fun e w' => e = .returned (.bool b) ∧ w = w' := by
  have := few_any a n c l B w h hn hs
  have hnl := h.len
  have e : decide (n ≤ 4096 ∧ sizeL l ≤ 65536) = b := by
    rw [Bool.eq_iff_iff, hb, decide_eq_true_eq, hnl]; rfl
  rw [e] at this
  exact this
set_option maxHeartbeats 800000 in
theorem apply_over (v0 : Value) (a : Option Addr) (n c : Nat) (l : List ByteArray) (w : World) (hw : Words w.heap.size w (.slice a n c) l) (hn : n ≤ 1000000) (hs : ∀ y ∈ l, y.size ≤ 1000000) (hfew : ¬ Few l) :
    Calls Tryz.prog 8 #[v0, .slice a n c] w fun e w' => e = .returned (.tuple #[.slice none 0 0, .int .i64 5]) ∧ w = w' := by
  have HFw : Hid (Calls Tryz.prog 11 #[.slice a n c] w fun e w' => e = .returned (.bool false) ∧ w = w') := few_is a n c l _ w hw hn hs false ⟨(fun h => nomatch h), fun h => absurd h hfew⟩
  clear hw hn hs hfew
  go_enter Tryz.func8, Tryz.ntmps8
  go_wp2_with fail
  refine HFw.out.mono ?_
  rintro e w' ⟨rfl, rfl⟩
  go_wp2
  go_ret2
  exact ⟨rfl, rfl⟩
set_option maxHeartbeats 3200000 in
theorem apply_few (ms : List Md) (us : List Um) (hgood : ∀ u ∈ us, AppliesU u (semU u)) (am : Option Addr) (nm cm : Nat) (a : Option Addr) (n c : Nat) (l : List ByteArray) (lo : Nat) (w : World) (hnm : nm = ms.length) (hmr : ModsT w am ms) (hh : Held lo w ms us) (hw : Words w.heap.size w (.slice a n c) l) (hfew : Few l) (hnb : nm ≤ 100000) (hG : Gz w) :
    Calls Tryz.prog 8 #[.slice am nm cm, .slice a n c] w (ApplyU (foldG (us.map semU) l) ms us lo w) := by
  have HFw : Hid (Calls Tryz.prog 11 #[.slice a n c] w fun e w' => e = .returned (.bool true) ∧ w = w') := few_is a n c l _ w hw (by have := hfew.1; have := hw.len; omega) (few_all hfew).2 true ⟨fun _ => hfew, fun _ => rfl⟩
  have HCl : Hid (Calls Tryz.prog 12 #[.slice a n c] w fun e w' => ∃ v', e = .returned v' ∧ OwnW w.heap.size w' v' l ∧ Below w.heap.size w w') := clone_any a n c l w hw hfew
  have HP0 : Hid (0 < w.heap.size) := hG.1.pos
  have HGz : Hid (∀ W, X.Fr (DD ms) w W → Gz W) := fun W hf => hh.gz hf hG
  have HMT : Hid (∀ W, X.Fr (DD ms) w W → ModsT W am ms) := fun W hf => hmr.fr hh hf
  have HGd : Hid (∀ u ∈ us, AppliesU u (semU u)) := hgood
  have HF0 : Hid (Few l) := hfew
  have HH0 : Hid (Held lo w ms us) := hh
  obtain ⟨R, hR⟩ : ∃ R, R = foldG (us.map semU) l := ⟨_, rfl⟩
  rw [← hR]
  have HR : Hid (R = foldG (us.map semU) l) := hR
  have HN : Hid (nm = ms.length ∧ ms.length = us.length) := ⟨hnm, hh.len⟩
  clear hnm hw hfew hR hmr hh hG hgood
  go_enter Tryz.func8, Tryz.ntmps8
  go_wp2_with fail
  refine HFw.out.mono ?_
  rintro e w' ⟨rfl, rfl⟩
  go_wp2_with fail
  refine HCl.out.mono ?_
  rintro e w1 ⟨v1, rfl, ho1, hb1⟩
  have H1 : Hid (OwnW w.heap.size w1 v1 l ∧ X.Fr (DD ms) w w1 ∧ Held lo w1 ms us) := ⟨ho1, .of_below hb1, HH0.out.below hb1⟩
  clear ho1 hb1
  go_wp2
  go_loopw [6, 17] (fun v6 vi wr => ∃ (k : Nat) (r : List ByteArray), k ≤ nm ∧ vi = .int .i64 k ∧ Hid (R = foldG ((us.map semU).drop k) r ∧ Few r) ∧ Hid (OwnW w.heap.size wr v6 r) ∧ Hid (X.Fr (DD ms) w wr ∧ Held lo wr ms us)) (fun _ vi _ => nm - (intOf vi).toNat)
  case atStart => exact ⟨0, l, Nat.zero_le _, rfl, ⟨HR.out, HF0.out⟩, H1.out.1, H1.out.2⟩
  case round =>
    obtain ⟨k, r, hk, rfl, HRk, HO, HB⟩ := hrel
    obtain ⟨a6, c6, hv6⟩ := HO.out.slice
    subst hv6
    by_cases hlt : k < nm
    · have hil : (k : Int) < (nm : Int) := by omega
      have hkl : k < ms.length := by rw [← HN.out.1]; exact hlt
      have hku : k < us.length := by rw [← HN.out.2]; exact hkl
      obtain ⟨g, o, cur, e1, e2, e3⟩ := HMT.out _ HB.out.1 k hkl
      subst e1
      have HAp := HGd.out us[k] (List.getElem_mem _)
      have HRn : Hid (R = (semU us[k] r).bind (foldG ((us.map semU).drop (k + 1)))) := by
        unfold Hid
        rw [HRk.out.1, List.drop_eq_getElem_cons (by rw [List.length_map]; exact hku), List.getElem_map]; rfl
      have HC : Hid (∀ W, Below wr.heap.size wr W → Calls Tryz.prog 13 #[.agg ms[k].cells, .slice a6 r.length c6] W fun e w' => ApPost (semU us[k] r) w.heap.size (.slice a6 r.length c6) ms[k] us[k] lo W e w') := fun W hB =>
        HAp.2 w.heap.size (.slice a6 r.length c6) r W ms[k] lo (HO.out.below hB) HRk.out.2 ((HGz.out _ HB.out.1).below hB) HP0.out (Nat.le_trans HB.out.1.size hB.size) (fits_below (HB.out.2.fit k hkl hku) hB)
      have HNx : Hid (∀ W w2, Below wr.heap.size wr W → X.Fr (ApD (.slice a6 r.length c6) ms[k]) W w2 → Fits ms[k] us[k] lo w2 → X.Fr (DD ms) w w2 ∧ Held lo w2 ms us) := fun W w2 hB hf hfit => by
        have hH := (HB.out.2.below hB).ap k hkl hku (HO.out.below hB) hf hfit
        refine ⟨⟨hf.os.trans (hB.os.trans HB.out.1.os), hf.tape.trans (hB.tape.trans HB.out.1.tape), hf.output.trans (hB.output.trans HB.out.1.output), Nat.le_trans HB.out.1.size (Nat.le_trans hB.size hf.size), fun j hj hd => ?_⟩, hH⟩
        have hj1 : j < wr.heap.size := Nat.lt_of_lt_of_le hj HB.out.1.size
        refine (hf.block j (Nat.lt_of_lt_of_le hj1 hB.size) (fun ha => ?_)).trans ((hB.block j hj1).trans (HB.out.1.block j hj hd))
        rcases ha with ha | ha
        · have := (HO.out.own ha).1; omega
        · exact hd ⟨ms[k], List.getElem_mem _, ha⟩
      have HFs : Hid (∀ r2, semU us[k] r = some r2 → Few r2) := fun r2 h2 => HAp.1 r r2 HRk.out.2 h2
      obtain ⟨m, hm⟩ : ∃ m, m = ms[k] := ⟨_, rfl⟩
      obtain ⟨u, hu⟩ : ∃ u, u = us[k] := ⟨_, rfl⟩
      rw [← hm] at e3 HC HNx
      rw [← hu] at HC HNx HRn HFs
      obtain ⟨Q, hQ⟩ : ∃ Q, Q = semU u r := ⟨_, rfl⟩
      rw [← hQ] at HC HRn HFs
      clear HAp hm hu hkl hku hQ
      obtain ⟨kind, ma, mb, bg, en, ex, al, on, mks, ots, frm, upto⟩ := m
      dsimp only [Md.cells] at e3 HC
      have hcl : ∀ i u, (mdV kind ma mb bg en ex al on mks ots frm upto)[i]? = some u → wr.cell? ⟨g, o + k * 12 + i, none⟩ = some u := fun i u hu => by
        have := e3 i u hu
        simp only [World.cell?, e2]
        simpa using this
      have q0 := hcl 0 _ rfl
      have q1 := hcl 1 _ rfl
      have q2 := hcl 2 _ rfl
      have q3 := hcl 3 _ rfl
      have q4 := hcl 4 _ rfl
      have q5 := hcl 5 _ rfl
      have q6 := hcl 6 _ rfl
      have q7 := hcl 7 _ rfl
      have q8 := hcl 8 _ rfl
      have q9 := hcl 9 _ rfl
      have q10 := hcl 10 _ rfl
      have q11 := hcl 11 _ rfl
      clear e2 e3 hcl
      rw [Nat.add_zero] at q0
      go_wp2_with fail
      refine (HC.out _ ((Below.refl _ wr).alloc (Nat.le_refl _) _)).mono ?_
      rintro e w2 ⟨hf2, hfit2, hm2⟩
      have HB2 : Hid (X.Fr (DD ms) w w2 ∧ Held lo w2 ms us) := HNx.out _ w2 ((Below.refl _ wr).alloc (Nat.le_refl _) _) hf2 hfit2
      clear hf2 hfit2
      cases Q with
      | none =>
        obtain ⟨v2, rfl⟩ := hm2
        have HRN : Hid (R = none) := by unfold Hid; rw [HRn.out]; rfl
        clear HRn
        go_wp2
        go_ret2
        refine ⟨HB2.out.1, HB2.out.2, ?_⟩
        rw [HRN.out]; rfl
      | some r2 =>
        obtain ⟨v2, rfl, ho2⟩ := hm2
        have HR2 : Hid (R = foldG ((us.map semU).drop (k + 1)) r2 ∧ Few r2) := ⟨by rw [HRn.out]; rfl, HFs.out r2 rfl⟩
        have HO2 : Hid (OwnW w.heap.size w2 v2 r2) := ho2
        clear ho2 HRn
        go_wp2
        go_roundw
        case rel => exact ⟨k + 1, r2, by omega, by go_num, HR2, HO2, HB2⟩
        case measure => simp [intOf]; omega
    · obtain rfl : k = nm := by omega
      have hil : ¬ (k : Int) < (k : Int) := by omega
      have HRS : Hid (R = some r) := by unfold Hid; rw [HRk.out.1, List.drop_of_length_le (by rw [List.length_map, ← HN.out.2, ← HN.out.1]; exact Nat.le_refl _)]; rfl
      go_wp2
      go_ret2
      refine ⟨HB.out.1, HB.out.2, ?_⟩
      rw [HRS.out]
      exact ⟨_, rfl, HO.out⟩
theorem apply_u (ms : List Md) (us : List Um) (hgood : ∀ u ∈ us, AppliesU u (semU u)) (am : Option Addr) (nm cm : Nat) (a : Option Addr) (n c : Nat) (l : List ByteArray) (lo : Nat) (w : World) (hnm : nm = ms.length) (hmr : ModsT w am ms) (hh : Held lo w ms us) (hw : Words w.heap.size w (.slice a n c) l) (hn : n ≤ 1000000) (hs : ∀ y ∈ l, y.size ≤ 1000000) (hnb : nm ≤ 100000) (hG : Gz w) :
    Calls Tryz.prog 8 #[.slice am nm cm, .slice a n c] w (ApplyU (appL us l) ms us lo w) := by
  unfold appL
  by_cases hf : Few l
  · rw [if_pos hf]
    exact apply_few ms us hgood am nm cm a n c l lo w hnm hmr hh hw hf hnb hG
  · rw [if_neg hf]
    refine (apply_over _ a n c l w hw hn hs hf).mono ?_
    rintro e w' ⟨rfl, rfl⟩
    exact ⟨.refl _ _, hh, rfl⟩
def AllPost (p : List Um ⊕ (Nat × Nat)) (l : List ByteArray) (w : World) (e : Ending) (w' : World) : Prop := Below w.heap.size w w' ∧ match p with
  | .inr f => e = .returned (.tuple #[.slice none 0 0, .int .i64 (f.1 : Int)])
  | .inl us => match appL us l with
    | none => e = .returned (.tuple #[.slice none 0 0, .int .i64 5])
    | some r => ∃ v', e = .returned (.tuple #[v', .int .i64 0]) ∧ OwnW w.heap.size w' v' r
theorem all_good {s : List UInt8} {us : List Um} {N : Nat} (h : allU s = .inl us) (hN : s.length ≤ N) : (∀ u ∈ us, GoodU N u) ∧ us.length ≤ 32 := by
  unfold allU at h
  split at h
  · cases h; exact ⟨fun u hu => by simp at hu, by simp⟩
  · have := parse_good s N hN (s.length + 1) 0 0 us (by omega) h
    exact ⟨this.1, by have := this.2 (by omega); omega⟩
theorem parse_why (s : List UInt8) : ∀ (i k c : Nat) (f : Nat × Nat), s.length + 1 - k ≤ i → parseU s k c = .inr f → f.1 ≠ 0
  | 0, k, c, f, hi, h => by rw [parse_end (by omega)] at h; cases h
  | i + 1, k, c, f, hi, h => by
    by_cases hk : s.length < k
    · rw [parse_end hk] at h; cases h
    · cases hr : readU (s.drop k) with
      | bad why =>
        rw [parse_bad (by omega) hr] at h
        cases h
        rcases readU_bad hr with e | e <;> (rw [e]; simp)
      | ok u n =>
        by_cases hc : c = 32
        · rw [hc, parse_many (by omega) hr] at h
          cases h; simp
        · rw [parse_next (by omega) hr hc] at h
          cases hp : parseU s (k + n + 1) (c + 1) with
          | inl us => rw [hp] at h; cases h
          | inr f' =>
            rw [hp] at h
            cases h
            exact parse_why s i (k + n + 1) (c + 1) f (by omega) hp
theorem all_why {s : List UInt8} {f : Nat × Nat} (h : allU s = .inr f) : f.1 ≠ 0 := by
  unfold allU at h
  split at h
  · cases h
  · exact parse_why s (s.length + 1) 0 0 f (by omega) h
set_option maxHeartbeats 3200000 in
theorem all_bad (s : ByteArray) (v : Value) (f : Nat × Nat) (w : World) (hf : f.1 ≠ 0) (hP : Calls Tryz.prog 6 #[.string s] w (ParsePost (.inr f) w)) :
    Calls Tryz.prog 7 #[.string s, v] w fun e w' => e = .returned (.tuple #[.slice none 0 0, .int .i64 (f.1 : Int)]) ∧ Below w.heap.size w w' := by
  have HP : Hid (Calls Tryz.prog 6 #[.string s] w (ParsePost (.inr f) w)) := hP
  obtain ⟨f1, f2⟩ := f
  dsimp only at hf ⊢
  have h0 : ((f1 : Int) == 0) = false := by rw [beq_eq_false_iff_ne]; omega
  have h0' : ¬ (f1 : Int) = 0 := by omega
  clear hP hf
  go_enter Tryz.func7, Tryz.ntmps7
  go_wp2_with fail
  refine HP.out.mono ?_
  rintro e w1 ⟨hb, he⟩
  dsimp only at he
  subst he
  have HB : Hid (Below w.heap.size w (w1.alloc (.cells #[.int .i64 (f1 : Int), .int .i64 (f2 : Int)] 28))) := hb.alloc hb.size _
  clear hb
  go_wp2_with fail
  go_quiet (fail)
  go_wp2
  go_ret2
  exact ⟨rfl, by first | exact HB.out | exact below_drewN HB.out _ | exact HB.out.drew⟩
set_option maxHeartbeats 3200000 in
theorem all_un (s : ByteArray) (a : Option Addr) (n c : Nat) (l : List ByteArray) (w : World) (hsz : s.size ≤ 1000) (hw : Words w.heap.size w (.slice a n c) l) (hn : n ≤ 1000000) (hs : ∀ y ∈ l, y.size ≤ 1000000) (hG : Gz w) (hE : Ey w) :
    Calls Tryz.prog 7 #[.string s, .slice a n c] w (AllPost (allU (bl s)) l w) := by
  have hP := parse_all s w (by omega) hG.1 hE
  cases hp : allU (bl s) with
  | inr f =>
    rw [hp] at hP
    refine (all_bad s _ f w (all_why hp) hP).mono ?_
    rintro e w' ⟨rfl, hb⟩
    exact ⟨hb, rfl⟩
  | inl us =>
    rw [hp] at hP
    have HP : Hid (Calls Tryz.prog 6 #[.string s] w (ParsePost (.inl us) w)) := hP
    have hgd := all_good (N := 1000) hp (by rw [bl_length]; exact hsz)
    have HA : Hid (∀ am nm cm ms W, nm = ms.length → ModsT W am ms → Held w.heap.size W ms us → Below w.heap.size w W → Calls Tryz.prog 8 #[.slice am nm cm, .slice a n c] W fun e w' => ApplyU (appL us l) ms us w.heap.size W e w') := fun am nm cm ms W h1 h2 h3 h4 =>
      apply_u ms us (fun u hu => semU_is (Nat.le_refl _) (hgd.1 u hu)) am nm cm a n c l w.heap.size W h1 h2 h3 ((hw.below h4).mono h4.size) hn hs (by rw [h1, h3.len]; omega) (hG.below h4)
    obtain ⟨R, hR⟩ : ∃ R, R = appL us l := ⟨_, rfl⟩
    have HPost : Hid (∀ e w', (Below w.heap.size w w' ∧ match R with
      | none => e = .returned (.tuple #[.slice none 0 0, .int .i64 5])
      | some r => ∃ v', e = .returned (.tuple #[v', .int .i64 0]) ∧ OwnW w.heap.size w' v' r) → AllPost (.inl us) l w e w') := fun e w' h => by
      unfold AllPost; dsimp only; rw [← hR]; exact h
    rw [← hR] at HA
    obtain ⟨nm, hnm⟩ : ∃ nm, nm = us.length := ⟨_, rfl⟩
    have HN : Hid (nm = us.length) := hnm
    clear hP hgd hR hw hn hs hG hE hp hnm
    go_enter Tryz.func7, Tryz.ntmps7
    go_wp2_with fail
    refine HP.out.mono ?_
    rintro e w1 ⟨hb, v, ms, rfl, ho, hh⟩
    rw [← HN.out] at ho
    obtain ⟨am, cm, rfl⟩ := owns_slice ho
    have HM : Hid (∀ W, Below w1.heap.size w1 W → ModsT W am ms ∧ Held w.heap.size W ms us ∧ Below w.heap.size w W ∧ nm = ms.length) := fun W hB => by
      have hl : nm = ms.length := by rw [HN.out, hh.len]
      exact ⟨(modsTof (by rw [hl] at ho; exact ho)).below hB, hh.below hB, hb.trans (hB.mono hb.size), hl⟩
    have HA2 : Hid (∀ W, Below w1.heap.size w1 W → Calls Tryz.prog 8 #[.slice am nm cm, .slice a n c] W (ApplyU R ms us w.heap.size W)) := fun W hB => HA.out am nm cm ms W (HM.out W hB).2.2.2 (HM.out W hB).1 (HM.out W hB).2.1 (HM.out W hB).2.2.1
    clear ho hb hh
    go_wp2_with fail
    refine (HA2.out _ ((Below.refl _ w1).alloc (Nat.le_refl _) _)).mono ?_
    rintro e w2 ⟨hf2, hh2, hm2⟩
    have HB2 : Hid (Below w.heap.size w w2 ∧ w.heap.size ≤ (w1.alloc (.cells #[.int .i64 0, .int .i64 0] 28)).heap.size) := by
      obtain ⟨_, g2, g3, _⟩ := HM.out _ ((Below.refl _ w1).alloc (Nat.le_refl _) (.cells #[.int .i64 0, .int .i64 0] 28))
      refine ⟨⟨hf2.os.trans g3.os, hf2.tape.trans g3.tape, hf2.output.trans g3.output, Nat.le_trans g3.size hf2.size, fun j hj => ?_⟩, g3.size⟩
      refine (hf2.block j (Nat.lt_of_lt_of_le hj g3.size) (fun hd => ?_)).trans (g3.block j hj)
      have := (g2.rx hd).1
      omega
    clear hf2 hh2
    cases R with
    | none =>
      dsimp only at hm2
      subst hm2
      go_wp2
      go_ret2
      exact HPost.out _ _ ⟨HB2.out.1, rfl⟩
    | some r =>
      obtain ⟨v2, rfl, ho2⟩ := hm2
      have HO : Hid (OwnW w.heap.size w2 v2 r) := ho2.base HB2.out.2
      clear ho2
      go_wp2
      go_ret2
      exact HPost.out _ _ ⟨HB2.out.1, v2, rfl, HO.out⟩
end Go.Proofs.YtedepknbaakkhabGreatDoor
namespace Go.Proofs.YtedepknbaakkhabGreatDoor
open Go.RowKit Go.Shelf Go.Sort
end Go.Proofs.YtedepknbaakkhabGreatDoor
namespace Go.Proofs.YtedepknbaakkhabGreatDoor
open Go.RowKit Go.Shelf Go.Sort
def longL (l : List ByteArray) : Bool := l.any fun y => decide (60 < y.size)
set_option maxHeartbeats 1600000 in
theorem far_long (s : ByteArray) (a : Option Addr) (n c : Nat) (w : World) (hs : s.size ≤ 300) (hn : 200 < n) : Calls Tryz.prog 4 #[.string s, .slice a n c] w fun e w' => e = .returned (.bool true) ∧ w = w' := by
  have t1 : ¬ (300 : Int) < (s.size : Int) := by omega
  have t2 : (200 : Int) < (n : Int) := by omega
  have t3 : decide ((300 : Int) < (s.size : Int)) = false := by simp; omega
  have t4 : decide ((200 : Int) < (n : Int)) = true := by simp; omega
  go_enter Tryz.func4, Tryz.ntmps4
  go_wp2
  go_ret
  exact ⟨rfl, rfl⟩
set_option maxHeartbeats 1600000 in
theorem far_short (s : ByteArray) (a : Option Addr) (n c : Nat) (l : List ByteArray) (w : World) (hw : Words w.heap.size w (.slice a n c) l) (hs : s.size ≤ 300) (hn : n ≤ 200) : Calls Tryz.prog 4 #[.string s, .slice a n c] w fun e w' => e = .returned (.bool (longL l)) ∧ w = w' := by
  have t1 : ¬ (300 : Int) < (s.size : Int) := by omega
  have t2 : ¬ (200 : Int) < (n : Int) := by omega
  have t3 : decide ((300 : Int) < (s.size : Int)) = false := by simp; omega
  have t4 : decide ((200 : Int) < (n : Int)) = false := by simp; omega
  obtain ⟨R, hR⟩ : ∃ R, R = longL l := ⟨_, rfl⟩
  rw [← hR]
  have HR : Hid (R = longL l) := hR
  have HW : Hid (Words w.heap.size w (.slice a n c) l ∧ n = l.length) := ⟨hw, hw.len⟩
  clear hw hR
  go_enter Tryz.func4, Tryz.ntmps4
  go_wp2
  go_loopw [17] (fun vi wr => ∃ k : Nat, k ≤ n ∧ vi = .int .i64 k ∧ Hid (R = longL (l.drop k)) ∧ w = wr) (fun vi _ => n - (intOf vi).toNat)
  case atStart => exact ⟨0, Nat.zero_le _, rfl, HR, rfl⟩
  case round =>
    obtain ⟨k, hk, rfl, HZ, rfl⟩ := hrel
    by_cases hlt : k < n
    · have hil : (k : Int) < (n : Int) := by omega
      have hkl : k < l.length := by rw [← HW.out.2]; exact hlt
      obtain ⟨b0, o0, ha, _, e1⟩ := HW.out.1.pick k hkl
      subst ha
      obtain ⟨x, hx⟩ : ∃ x, x = l[k] := ⟨_, rfl⟩
      rw [← hx] at e1
      have HZ2 : Hid (R = (decide (60 < x.size) || longL (l.drop (k + 1)))) := by
        unfold Hid; rw [HZ.out, List.drop_eq_getElem_cons hkl, ← hx]; rfl
      clear hx hkl HZ
      by_cases h60 : 60 < x.size
      · have u1 : (60 : Int) < (x.size : Int) := by omega
        have HR2 : Hid (R = true) := by unfold Hid; rw [HZ2.out, decide_eq_true h60]; rfl
        clear HZ2
        go_wp2
        go_ret
        exact ⟨by rw [HR2.out]; rfl, rfl⟩
      · have u1 : ¬ (60 : Int) < (x.size : Int) := by omega
        have HR2 : Hid (R = longL (l.drop (k + 1))) := by unfold Hid; rw [HZ2.out, decide_eq_false h60]; rfl
        clear HZ2
        go_wp2
        go_roundw
        case rel => exact ⟨k + 1, by omega, by go_num, HR2, trivial⟩
        case measure => simp [intOf]; omega
    · obtain rfl : k = n := by omega
      have HR2 : Hid (R = false) := by unfold Hid; rw [HZ.out, HW.out.2, List.drop_length]; rfl
      clear HZ
      go_wp2
      go_ret
      exact ⟨by rw [HR2.out]; rfl, rfl⟩
theorem few_of {l : List ByteArray} (h1 : l.length ≤ 200) (h2 : longL l = false) : Few l := by
  have h3 : ∀ y ∈ l, y.size ≤ 60 := fun y hy => by
    unfold longL at h2
    rw [List.any_eq_false] at h2
    have := h2 y hy
    simp at this; omega
  have h4 := sizeL_le l 60 h3
  have h5 := Nat.mul_le_mul_right 60 h1
  exact ⟨by omega, by omega⟩
end Go.Proofs.YtedepknbaakkhabGreatDoor
