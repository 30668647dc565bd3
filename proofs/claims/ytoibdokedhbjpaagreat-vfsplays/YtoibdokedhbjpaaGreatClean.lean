/-
  What the program's Clean and Join answer: the path, clean; the texts that are not empty, joined, clean.
-/
import Derived.Test.YtoibdokedhbjpaaGreatParts
namespace Go.Proofs.YtoibdokedhbjpaaGreat
open Go.RowKit Go.Shelf

namespace G
theorem splitL_mem_length (s : Bs) : ∀ x ∈ splitL s, x.length ≤ s.length := by
  induction s with
  | nil => intro x hx; simp [splitL] at hx; simp [hx]
  | cons c s ih =>
    by_cases hc : c = 47
    · subst hc; rw [splitL_cons_eq]
      intro x hx
      rcases List.mem_cons.1 hx with rfl | hx
      · simp
      · have := ih x hx; simp; omega
    · obtain ⟨h, t, h1, h2⟩ := splitL_cons_ne hc s
      rw [h2]; rw [h1] at ih
      intro x hx
      rcases List.mem_cons.1 hx with rfl | hx
      · have := ih h (by simp); simp; exact this
      · have := ih x (by simp [hx]); simp; omega
theorem lib_join (l : List Bs) : Lib.join l [47] = joinL l := by
  induction l with
  | nil => rfl
  | cons x t ih =>
    by_cases ht : t = []
    · subst ht; exact Lib.join_one x [47]
    · rw [joinL_cons_ne x ht, ← ih]
      cases t with
      | nil => exact absurd rfl ht
      | cons y t => rw [Lib.join_cons, Lib.join_cons]; simp [Lib.joinTail]
theorem parts_length (p : Bs) : (partsL p).length ≤ p.length + 1 := Nat.le_trans (foldP_length _ _) (splitL_length p)
theorem parts_mem_length {p x : Bs} (h : x ∈ partsL p) : x.length ≤ p.length := splitL_mem_length p x (foldP_mem _ _ x h).1
theorem join_parts_length (p : Bs) (hp : p.length ≤ 2000000) : (joinL (partsL p)).length ≤ 8000000000000 := by
  have h1 := joinL_size (m := 2000000) (partsL p) (fun x hx => Nat.le_trans (parts_mem_length hx) hp)
  have h2 := parts_length p
  have h3 : (partsL p).length * (2000000 + 1) ≤ 2000001 * (2000000 + 1) := Nat.mul_le_mul_right _ (by omega)
  omega
end G

theorem map_bl_parts (p : ByteArray) : (parts p).map bl = G.partsL (bl p) := by
  unfold parts; rw [List.map_map, show (bl ∘ ba) = id from funext bl_ba, List.map_id]

theorem join_own (v : Value) (xs : List ByteArray) (base : Nat) (w : World) (h : w.ownsRow base 9 1 v xs.length (xs.map Value.string)) (hn : xs.length ≤ 3000000) (hl : (G.joinL (xs.map bl)).length ≤ 100000000000000) :
    Calls Tryz.prog 73 #[v, .string ⟨#[47]⟩] w fun e w' => e = .returned (.string (ba (G.joinL (xs.map bl)))) ∧ Below w.heap.size w w' := by
  have hj : Lib.join (xs.map (·.data.toList)) (⟨#[47]⟩ : ByteArray).data.toList = G.joinL (xs.map bl) := G.lib_join (xs.map bl)
  by_cases hne : xs = []
  · subst hne
    obtain ⟨a, cap, rfl⟩ := owns_slice h
    refine (Tryz.strings_Join_none a cap ⟨#[47]⟩ w).mono ?_
    rintro e w' ⟨rfl, rfl⟩
    exact ⟨rfl, Below.refl _ _⟩
  · obtain ⟨g, cap, rfl, hb, hg, hcap, hc⟩ := owns_at h hne
    refine (Tryz.strings_Join g 0 cap xs ⟨#[47]⟩ w ?_ hg (by omega) hcap (by rw [hj]; omega)).mono ?_
    · intro j x hx
      obtain ⟨hjl, rfl⟩ := List.getElem?_eq_some_iff.1 hx
      rw [Nat.zero_add]; exact hc j hjl
    · rintro e w' ⟨rfl, hb⟩
      exact ⟨by rw [hj]; rfl, hb⟩

theorem ba_cons (c : UInt8) (l : List UInt8) : (⟨#[c]⟩ : ByteArray) ++ ba l = ba (c :: l) := by
  apply bl_inj; simp [bl, ba]
theorem ba_nil : ba [] = E := rfl
theorem toList_ba (l : List UInt8) : (ba l).toList = l := by rw [Lib.toList_data]; exact bl_ba l

set_option maxHeartbeats 400000 in
theorem clean_any (p : ByteArray) (w : World) (hp : p.size ≤ 2000000) :
    Calls Tryz.prog 72 #[.string p] w fun e w' => e = .returned (.string (ba (G.cleanL (bl p)))) ∧ Below w.heap.size w w' := by
  have HP : Hid (∀ W, Calls Tryz.prog 61 #[.string p] W fun e w' => ∃ v, e = .returned v ∧ w'.ownsRow W.heap.size 9 1 v (parts p).length ((parts p).map Value.string) ∧ Below W.heap.size W w') := fun W => parts_any p W hp
  obtain ⟨j, hj⟩ : ∃ j, j = ba (G.joinL (G.partsL (bl p))) := ⟨_, rfl⟩
  have HJ : Hid (∀ v W base, W.ownsRow base 9 1 v (parts p).length ((parts p).map Value.string) → Calls Tryz.prog 73 #[v, .string ⟨#[47]⟩] W fun e w' => e = .returned (.string j) ∧ Below W.heap.size W w') := by
    intro v W base h
    have h1 := parts_len p
    have h2 := G.join_parts_length (bl p) (by rw [bl_length]; exact hp)
    have := join_own v (parts p) base W h (by omega) (by rw [map_bl_parts]; omega)
    rw [map_bl_parts, ← hj] at this
    exact this
  obtain ⟨r, hr⟩ : ∃ r, r = G.rootedL (bl p) := ⟨_, rfl⟩
  have HR : Hid (∀ W, Calls Tryz.prog 75 #[.string p] W fun e w' => e = .returned (.bool r) ∧ W = w') := by
    intro W; rw [hr]; exact (atRoot_any p W).mono fun e w' h => ⟨h.1, h.2.symm⟩
  have HC : Hid (ba (G.cleanL (bl p)) = if r then ⟨#[47]⟩ ++ j else if j = E then dotB else j) := by
    unfold Hid G.cleanL G.cleanOf
    rw [← hr, hj, ba_cons]
    cases r
    · by_cases he : G.joinL (G.partsL (bl p)) = []
      · rw [he]; rfl
      · have hb : ba (G.joinL (G.partsL (bl p))) ≠ E := fun e => he (ba_inj (e.trans ba_nil.symm))
        simp [he, hb]
    · rfl
  have hjs : j.size ≤ 8000000000000 := by
    have h2 := G.join_parts_length (bl p) (by rw [bl_length]; exact hp)
    rw [← bl_length, hj, bl_ba]; exact h2
  clear hj hr
  cases r
  · by_cases he : j = E
    · subst he
      go_enter Tryz.func72, Tryz.ntmps72
      go_wp2_with fail
      refine (HP.out _).mono ?_
      rintro e w1 ⟨v, rfl, hown, hb1⟩
      have HO : Hid (w1.ownsRow w.heap.size 9 1 v (parts p).length ((parts p).map Value.string)) := hown
      clear hown
      go_wp2_with fail
      refine (HJ.out _ _ _ HO.out).mono ?_
      rintro e w2 ⟨rfl, hb2⟩
      have hb := hb1.trans (hb2.mono hb1.size)
      clear hb1 hb2 HO
      go_wp2_with fail
      refine (HR.out _).mono ?_
      rintro e w' ⟨rfl, rfl⟩
      go_wp2
      go_ret
      exact ⟨ret_str (by rw [HC.out]; rfl), hb⟩
    · have t1 : ¬ j.toList = [] := by rw [Lib.toList_data]; exact fun e => he (bl_E.1 e)
      have t1' : j.toList.isEmpty = false := by simpa using t1
      go_enter Tryz.func72, Tryz.ntmps72
      go_wp2_with fail
      refine (HP.out _).mono ?_
      rintro e w1 ⟨v, rfl, hown, hb1⟩
      have HO : Hid (w1.ownsRow w.heap.size 9 1 v (parts p).length ((parts p).map Value.string)) := hown
      clear hown
      go_wp2_with fail
      refine (HJ.out _ _ _ HO.out).mono ?_
      rintro e w2 ⟨rfl, hb2⟩
      have hb := hb1.trans (hb2.mono hb1.size)
      clear hb1 hb2 HO
      go_wp2_with fail
      refine (HR.out _).mono ?_
      rintro e w' ⟨rfl, rfl⟩
      go_wp2
      go_ret
      exact ⟨ret_str (by rw [HC.out, if_neg (by simp), if_neg he]), hb⟩
  · go_enter Tryz.func72, Tryz.ntmps72
    go_wp2_with fail
    refine (HP.out _).mono ?_
    rintro e w1 ⟨v, rfl, hown, hb1⟩
    have HO : Hid (w1.ownsRow w.heap.size 9 1 v (parts p).length ((parts p).map Value.string)) := hown
    clear hown
    go_wp2_with fail
    refine (HJ.out _ _ _ HO.out).mono ?_
    rintro e w2 ⟨rfl, hb2⟩
    have hb := hb1.trans (hb2.mono hb1.size)
    clear hb1 hb2 HO
    go_wp2_with fail
    refine (HR.out _).mono ?_
    rintro e w' ⟨rfl, rfl⟩
    go_wp2
    go_ret
    exact ⟨ret_str (by rw [HC.out]; rfl), hb⟩
end Go.Proofs.YtoibdokedhbjpaaGreat
