/-
  All, of O, Or:r, r:r, u, u:u.
-/
import Derived.Test.YtedepknbaakkhaaGreatDoorM24
namespace Go.Proofs.YtedepknbaakkhaaGreatDoor
open Go.RowKit Go.Shelf Go.Sort

theorem reads_word {s t : ByteArray} {n : Nat} {f : Bool} (hs : s.size ≤ 1000000) (hk : Plain s) (hu : untilL 58 (bl s) = (bl t, n, f)) (ht : t ∈ wordsL) : Reads s (.ok { kind := t } n) := fun w _ => read_word s t n f w hs hk hu ht
/-- What All answers. -/
def AllR (s : ByteArray) (l r : List ByteArray) : Prop := ∀ (a : Option Addr) (n c : Nat) (w : World), Words w.heap.size w (.slice a n c) l → Few l → Mx w →
  Calls Tryz.prog 11 #[.string s, .slice a n c] w fun e w' => ∃ a' c', e = .returned (.tuple #[.slice a' r.length c', .int .i64 0]) ∧ Words w'.heap.size w' (.slice a' r.length c') r ∧ Below w.heap.size w w'
theorem allR_of {s : ByteArray} {ms : List Md} {gs : List (List ByteArray → Option (List ByteArray))} (hg : AllApply ms gs) (hs : s.size ≤ 1000000) (h1 : 1 ≤ s.size) (hc : Chain s 0 ms) (hl : ms.length ≤ 32) {l r : List ByteArray} (hr : foldG gs l = some r) : AllR s l r := fun a n c w hw hf hm => by
  refine (All_ok s ms gs hg hs h1 hc hl a n c l w hw hf hm).mono ?_
  rintro e w' ⟨h1, h2⟩
  rw [hr] at h2
  obtain ⟨v', rfl, ho⟩ := h2
  obtain ⟨a', c', rfl⟩ := owns_slice ho
  exact ⟨a', c', rfl, words_of_owns ho (Nat.le_refl _), h1⟩
theorem chain_one {s : ByteArray} {t : ByteArray} (h0 : 1 ≤ s.size) (h1 : s.size ≤ 1000000) (hk : Plain s) (hu : untilL 58 (bl s) = (bl t, s.size, false)) (ht : t ∈ wordsL) : Chain s 0 [{ kind := t }] := by
  have e0 : s.extract 0 s.size = s := bl_inj (by rw [bl_rest]; rfl)
  exact .step (by omega) (Nat.le_refl _) (by rw [e0]; exact reads_word h1 hk hu ht) (.done (by omega))
theorem chain_two {s t1 t2 : ByteArray} {n1 : Nat} (hs : s.size ≤ 1000000) (hn : n1 + 1 ≤ s.size) (hk : Plain s) (hu : untilL 58 (bl s) = (bl t1, n1, true)) (ht : t1 ∈ wordsL) (h2 : s.extract (n1 + 1) s.size = t2) (hsz : n1 + 1 + t2.size = s.size) (hk2 : Plain t2) (hu2 : untilL 58 (bl t2) = (bl t2, t2.size, false)) (ht2 : t2 ∈ wordsL) : Chain s 0 [{ kind := t1 }, { kind := t2 }] := by
  have e0 : s.extract 0 s.size = s := bl_inj (by rw [bl_rest]; rfl)
  exact .step (n := n1) (by omega) (by omega) (by rw [e0]; exact reads_word hs hk hu ht) (.step (n := t2.size) (by omega) (by omega) (by rw [Nat.zero_add, h2]; exact reads_word (by omega) hk2 hu2 ht2) (.done (by omega)))
theorem all_O (l : List ByteArray) : AllR ⟨#[79]⟩ l (sortedL l) :=
  allR_of (ms := [{ kind := ⟨#[79]⟩ }]) (gs := [fun l => some (sortedL l)]) ⟨rfl, fun k h h2 => by
    match k, h with
    | 0, _ => exact applies_all _ _ (by simp [allL]) (ofAll_o _ rfl few_sorted)⟩ (by decide) (by decide) (chain_one (by decide) (by decide) ⟨by kernel_rfl, by kernel_rfl, by kernel_rfl, by kernel_rfl, by kernel_rfl⟩ (by kernel_rfl) (by simp [wordsL])) (by decide) rfl
theorem all_u (l : List ByteArray) : AllR ⟨#[117]⟩ l (compactL l) :=
  allR_of (ms := [{ kind := ⟨#[117]⟩ }]) (gs := [fun l => some (compactL l)]) ⟨rfl, fun k h h2 => by
    match k, h with
    | 0, _ => exact applies_all _ _ (by simp [allL]) (ofAll_u _ rfl few_compact)⟩ (by decide) (by decide) (chain_one (by decide) (by decide) ⟨by kernel_rfl, by kernel_rfl, by kernel_rfl, by kernel_rfl, by kernel_rfl⟩ (by kernel_rfl) (by simp [wordsL])) (by decide) rfl
theorem all_uu (l : List ByteArray) : AllR ⟨#[117, 58, 117]⟩ l (compactL l) :=
  allR_of (ms := [{ kind := ⟨#[117]⟩ }, { kind := ⟨#[117]⟩ }]) (gs := [fun l => some (compactL l), fun l => some (compactL l)]) ⟨rfl, fun k h h2 => by
    match k, h with
    | 0, _ => exact applies_all _ _ (by simp [allL]) (ofAll_u _ rfl few_compact)
    | 1, _ => exact applies_all _ _ (by simp [allL]) (ofAll_u _ rfl few_compact)⟩ (by decide) (by decide) (chain_two (n1 := 1) (by decide) (by decide) ⟨by kernel_rfl, by kernel_rfl, by kernel_rfl, by kernel_rfl, by kernel_rfl⟩ (by kernel_rfl) (by simp [wordsL]) (by kernel_rfl) (by decide) ⟨by kernel_rfl, by kernel_rfl, by kernel_rfl, by kernel_rfl, by kernel_rfl⟩ (by kernel_rfl) (by simp [wordsL])) (by decide) (by simp only [foldG, Option.bind_some]; rw [compactL_twice])
theorem all_rr (l : List ByteArray) : AllR ⟨#[114, 58, 114]⟩ l l :=
  allR_of (ms := [{ kind := ⟨#[114]⟩ }, { kind := ⟨#[114]⟩ }]) (gs := [fun l => some (List.reverse l), fun l => some (List.reverse l)]) ⟨rfl, fun k h h2 => by
    match k, h with
    | 0, _ => exact applies_all _ _ (by simp [allL]) (ofAll_r _ rfl few_rev)
    | 1, _ => exact applies_all _ _ (by simp [allL]) (ofAll_r _ rfl few_rev)⟩ (by decide) (by decide) (chain_two (n1 := 1) (by decide) (by decide) ⟨by kernel_rfl, by kernel_rfl, by kernel_rfl, by kernel_rfl, by kernel_rfl⟩ (by kernel_rfl) (by simp [wordsL]) (by kernel_rfl) (by decide) ⟨by kernel_rfl, by kernel_rfl, by kernel_rfl, by kernel_rfl, by kernel_rfl⟩ (by kernel_rfl) (by simp [wordsL])) (by decide) (by simp [foldG])
theorem all_Orr (l : List ByteArray) : AllR ⟨#[79, 114, 58, 114]⟩ l (sortedL l) :=
  allR_of (ms := [{ kind := ⟨#[79, 114]⟩ }, { kind := ⟨#[114]⟩ }]) (gs := [fun l => some (sortedL l).reverse, fun l => some (List.reverse l)]) ⟨rfl, fun k h h2 => by
    match k, h with
    | 0, _ => exact applies_all _ _ (by simp [allL]) (ofAll_or _ rfl fun l h => few_rev _ (few_sorted l h))
    | 1, _ => exact applies_all _ _ (by simp [allL]) (ofAll_r _ rfl few_rev)⟩ (by decide) (by decide) (chain_two (n1 := 2) (by decide) (by decide) ⟨by kernel_rfl, by kernel_rfl, by kernel_rfl, by kernel_rfl, by kernel_rfl⟩ (by kernel_rfl) (by simp [wordsL]) (by kernel_rfl) (by decide) ⟨by kernel_rfl, by kernel_rfl, by kernel_rfl, by kernel_rfl, by kernel_rfl⟩ (by kernel_rfl) (by simp [wordsL])) (by decide) (by simp [foldG])
end Go.Proofs.YtedepknbaakkhaaGreatDoor
