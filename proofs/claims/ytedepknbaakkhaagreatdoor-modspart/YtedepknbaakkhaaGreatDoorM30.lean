/-
  M and N of a pattern without : and strokes, over words that are few: the words that match, and the others.
-/
import Derived.Test.YtedepknbaakkhaaGreatDoorM27
import Derived.Test.YtedepknbaakkhaaGreatDoorMgRefMatch
namespace Go.Proofs.YtedepknbaakkhaaGreatDoor
open Go.RowKit Go.Shelf Go.Sort

def hitB (p x : ByteArray) : Bool := G.matchB (bl p) (bl x)
theorem sizeL_cons (x : ByteArray) (t : List ByteArray) : sizeL (x :: t) = x.size + sizeL t := by simp [sizeL]
theorem foldA_m (m : Md) : ∀ (l made : List ByteArray) (d : Bool), sizeL made + sizeL l ≤ 65536 → foldA (actM m) made d l = some (made ++ l.filter fun x => hitB m.a x)
  | [], made, d, _ => by simp [foldA]
  | x :: t, made, d, h => by
    rw [sizeL_cons] at h
    rw [foldA]
    cases hm : G.matchB (bl m.a) (bl x) with
    | true =>
      have ha : actM m d x made = some (d, some x) := by unfold actM; rw [if_pos hm]
      rw [ha]
      dsimp only
      rw [if_pos (by omega), foldA_m m t _ d (by rw [sizeL_snoc]; omega), List.filter_cons_of_pos (by exact hm), List.append_assoc]; rfl
    | false =>
      have ha : actM m d x made = some (d, none) := by unfold actM; rw [if_neg (by rw [hm]; decide)]
      rw [ha]
      dsimp only
      rw [foldA_m m t _ d (by omega), List.filter_cons_of_neg (by unfold hitB; rw [hm]; decide)]
theorem foldA_n (m : Md) : ∀ (l made : List ByteArray) (d : Bool), sizeL made + sizeL l ≤ 65536 → foldA (actN m) made d l = some (made ++ l.filter fun x => !hitB m.a x)
  | [], made, d, _ => by simp [foldA]
  | x :: t, made, d, h => by
    rw [sizeL_cons] at h
    rw [foldA]
    cases hm : G.matchB (bl m.a) (bl x) with
    | false =>
      have ha : actN m d x made = some (d, some x) := by unfold actN; rw [if_neg (by rw [hm]; decide)]
      rw [ha]
      dsimp only
      rw [if_pos (by omega), foldA_n m t _ d (by rw [sizeL_snoc]; omega), List.filter_cons_of_pos (by unfold hitB; rw [hm]; rfl), List.append_assoc]; rfl
    | true =>
      have ha : actN m d x made = some (d, none) := by unfold actN; rw [if_pos hm]
      rw [ha]
      dsimp only
      rw [foldA_n m t _ d (by omega), List.filter_cons_of_neg (by unfold hitB; rw [hm]; decide)]
theorem until_plain (e : UInt8) : ∀ l : List UInt8, (∀ x ∈ l, x ≠ e ∧ x ≠ 92) → untilL e l = (l, l.length, false)
  | [], _ => rfl
  | c :: t, h => by
    have hc := h c (List.mem_cons_self ..)
    rw [until_go (fun x => hc.2 x.1) hc.1, until_plain e t (fun x hx => h x (List.mem_cons_of_mem _ hx))]
    rfl
/-- What All answers, with room behind it told. -/
def AllC (s : ByteArray) (l r : List ByteArray) : Prop := ∀ (a : Option Addr) (n c : Nat) (w : World), Words w.heap.size w (.slice a n c) l → Few l → Mx w →
  Calls Tryz.prog 11 #[.string s, .slice a n c] w fun e w' => ∃ a' c', e = .returned (.tuple #[.slice a' r.length c', .int .i64 0]) ∧ r.length ≤ c' ∧ Words w'.heap.size w' (.slice a' r.length c') r ∧ Below w.heap.size w w'
theorem owns_cap {base n : Nat} {e : TypeId} {W : World} {a : Option Addr} {m c : Nat} {xs : List Value} {z : Nat} (h : W.ownsRow base e z (.slice a m c) n xs) : m ≤ c := by
  obtain ⟨_, ⟨hv, hn⟩ | ⟨g, cap, cur, hv, hg, hcur, hcap, hcm, hcs, hct⟩⟩ := h
  · simp only [Value.slice.injEq] at hv; omega
  · simp only [Value.slice.injEq] at hv; omega
theorem allC_of {s : ByteArray} {ms : List Md} {gs : List (List ByteArray → Option (List ByteArray))} (hg : AllApply ms gs) (hs : s.size ≤ 1000000) (h1 : 1 ≤ s.size) (hc : Chain s 0 ms) (hl : ms.length ≤ 32) {l r : List ByteArray} (hr : foldG gs l = some r) : AllC s l r := fun a n c w hw hf hm => by
  refine (All_ok s ms gs hg hs h1 hc hl a n c l w hw hf hm).mono ?_
  rintro e w' ⟨h1, h2⟩
  rw [hr] at h2
  obtain ⟨v', rfl, ho⟩ := h2
  obtain ⟨a', c', rfl⟩ := owns_slice ho
  exact ⟨a', c', rfl, owns_cap ho, words_of_owns ho (Nat.le_refl _), h1⟩
theorem bl_put (c : UInt8) (p : ByteArray) : bl (⟨#[c]⟩ ++ p) = c :: bl p := by simp [bl]
theorem all_m (p : ByteArray) (l : List ByteArray) (hp : p.size ≤ 300) (hpl : ∀ x ∈ bl p, x ≠ 58 ∧ x ≠ 92) (hf : Few l) : AllC (⟨#[77]⟩ ++ p) l (l.filter fun x => hitB p x) := by
  have hb := bl_put 77 p
  have hsz : (⟨#[77]⟩ ++ p : ByteArray).size = p.size + 1 := by rw [← bl_length, hb]; simp [bl_length]
  refine allC_of (ms := [{ kind := ⟨#[77]⟩, a := p }]) (gs := [foldA (actM { kind := ⟨#[77]⟩, a := p }) [] false]) ⟨rfl, fun k h h2 => ?_⟩ (by omega) (by omega) ?_ (by simp) ?_
  · match k, h with
    | 0, _ => exact applies_m _ rfl (by show p.size ≤ _; omega)
  · refine .step (n := p.size + 1) (by omega) (by omega) ?_ (.done (by omega))
    have e0 : (⟨#[77]⟩ ++ p : ByteArray).extract 0 (⟨#[77]⟩ ++ p : ByteArray).size = ⟨#[77]⟩ ++ p := bl_inj (by rw [bl_rest]; rfl)
    rw [e0]
    have hu := until_plain 58 _ hpl
    refine reads_m (by omega) (by omega) (by simp [headIs, hb]) ?_ ?_
    · rw [hb]; show _ = ({ kind := _, a := ba (untilL 58 (bl p)).1 } : Md); rw [hu, ba_bl]
    · rw [hb]; show _ = (untilL 58 (bl p)).2.1 + 1; rw [hu, bl_length]
  · simp only [foldG]; rw [foldA_m _ l [] false (by have := hf.2; simp [sizeL] at this ⊢; omega)]; rfl
theorem all_n (p : ByteArray) (l : List ByteArray) (hp : p.size ≤ 300) (hpl : ∀ x ∈ bl p, x ≠ 58 ∧ x ≠ 92) (hf : Few l) : AllC (⟨#[78]⟩ ++ p) l (l.filter fun x => !hitB p x) := by
  have hb := bl_put 78 p
  have hsz : (⟨#[78]⟩ ++ p : ByteArray).size = p.size + 1 := by rw [← bl_length, hb]; simp [bl_length]
  refine allC_of (ms := [{ kind := ⟨#[78]⟩, a := p }]) (gs := [foldA (actN { kind := ⟨#[78]⟩, a := p }) [] false]) ⟨rfl, fun k h h2 => ?_⟩ (by omega) (by omega) ?_ (by simp) ?_
  · match k, h with
    | 0, _ => exact applies_n _ rfl (by show p.size ≤ _; omega)
  · refine .step (n := p.size + 1) (by omega) (by omega) ?_ (.done (by omega))
    have e0 : (⟨#[78]⟩ ++ p : ByteArray).extract 0 (⟨#[78]⟩ ++ p : ByteArray).size = ⟨#[78]⟩ ++ p := bl_inj (by rw [bl_rest]; rfl)
    rw [e0]
    have hu := until_plain 58 _ hpl
    refine reads_n (by omega) (by omega) (by simp [headIs, hb]) ?_ ?_
    · rw [hb]; show _ = ({ kind := _, a := ba (untilL 58 (bl p)).1 } : Md); rw [hu, ba_bl]
    · rw [hb]; show _ = (untilL 58 (bl p)).2.1 + 1; rw [hu, bl_length]
  · simp only [foldG]; rw [foldA_n _ l [] false (by have := hf.2; simp [sizeL] at this ⊢; omega)]; rfl
theorem part_len (f : ByteArray → Bool) : ∀ l : List ByteArray, (l.filter f).length + (l.filter fun x => !f x).length = l.length
  | [] => rfl
  | x :: t => by
    have := part_len f t
    cases h : f x with
    | true => rw [List.filter_cons_of_pos h, List.filter_cons_of_neg (by rw [h]; decide)]; simp; omega
    | false => rw [List.filter_cons_of_neg (by rw [h]; decide), List.filter_cons_of_pos (by rw [h]; rfl)]; simp; omega
/-- A list's rest. -/
theorem words_tail {B : Nat} {W : World} {a : Option Addr} {n c : Nat} {x : ByteArray} {t : List ByteArray} (h : Words B W (.slice a n c) (x :: t)) :
    n = t.length + 1 ∧ ∃ b o, a = some ⟨b, o, none⟩ ∧ W.cell? ⟨b, o, none⟩ = some (.string x) ∧ ∀ a' c', (t = [] ∨ a' = some ⟨b, o + 1, none⟩) → Words B W (.slice a' (n - 1) c') t := by
  have hn := h.len
  simp only [List.length_cons] at hn
  obtain ⟨b, o, ha, hb, hc⟩ := h.pick 0 (by simp)
  refine ⟨hn, b, o, ha, by simpa using hc, fun a' c' ht => ?_⟩
  refine ⟨a', n - 1, c', rfl, by omega, fun i hi => ?_⟩
  rcases ht with rfl | rfl
  · simp at hi
  · obtain ⟨b2, o2, ha2, hb2, hc2⟩ := h.pick (i + 1) (by simp; omega)
    rw [ha] at ha2
    simp only [Option.some.injEq, Addr.mk.injEq, and_true] at ha2
    obtain ⟨rfl, rfl⟩ := ha2
    refine ⟨b, o + 1, rfl, hb2, ?_⟩
    rw [show o + 1 + i = o + (i + 1) by omega]
    simpa using hc2
set_option maxRecDepth 20000 in
set_option maxHeartbeats 1600000 in
theorem far_big (s : ByteArray) (a : Option Addr) (n c : Nat) (w : World) (hs : 300 < s.size) : Calls Tryz.prog 9 #[.string s, .slice a n c] w fun e w' => e = .returned (.bool true) ∧ w = w' := by
  have t1 : (300 : Int) < (s.size : Int) := by omega
  have t3 : decide ((300 : Int) < (s.size : Int)) = true := by simp; omega
  go_enter Tryz.func9, Tryz.ntmps9
  go_wp2
  go_ret
  exact ⟨rfl, rfl⟩
/-- far, by one word. -/
def farB (s : ByteArray) (l : List ByteArray) : Bool := decide (300 < s.size) || (decide (200 < l.length) || longL l)
theorem far_any (s : ByteArray) (a : Option Addr) (n c : Nat) (l : List ByteArray) (w : World) (hw : Words w.heap.size w (.slice a n c) l) : Calls Tryz.prog 9 #[.string s, .slice a n c] w fun e w' => e = .returned (.bool (farB s l)) ∧ w = w' := by
  have hn := hw.len
  by_cases h1 : 300 < s.size
  · have := far_big s a n c w h1
    unfold farB; rw [decide_eq_true h1]; exact this
  · by_cases h2 : 200 < n
    · have := far_long s a n c w (by omega) h2
      unfold farB; rw [decide_eq_true (show 200 < l.length by omega), Bool.true_or, Bool.or_true]; exact this
    · have := far_short s a n c l w hw (by omega) (by omega)
      unfold farB; rw [decide_eq_false h1, decide_eq_false (show ¬ 200 < l.length by omega)]; exact this
theorem farB_not {s : ByteArray} {l : List ByteArray} (h : farB s l = false) : s.size ≤ 300 ∧ l.length ≤ 200 ∧ longL l = false := by
  unfold farB at h
  simp only [Bool.or_eq_false_iff, decide_eq_false_iff_not] at h
  exact ⟨by omega, by omega, h.2.2⟩
end Go.Proofs.YtedepknbaakkhaaGreatDoor
