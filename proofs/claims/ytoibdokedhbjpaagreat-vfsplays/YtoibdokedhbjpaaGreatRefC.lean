/-
  What the document's own Clean and Join answer: as the program's.
-/
import Derived.Test.YtoibdokedhbjpaaGreatRefB
namespace Go.Proofs.YtoibdokedhbjpaaGreat
open Go.RowKit Go.Shelf

theorem parts_elem (p : ByteArray) (i : Nat) (h : i < (parts p).length) : ((parts p)[i]).size ≤ p.size := by
  have hm : (parts p)[i] ∈ parts p := List.getElem_mem h
  generalize (parts p)[i] = x at hm ⊢
  unfold parts at hm
  obtain ⟨y, hy, rfl⟩ := List.mem_map.1 hm
  have := G.parts_mem_length hy
  rw [← bl_length, bl_ba, ← bl_length p]; exact this

theorem rjoin_own (v : Value) (xs : List ByteArray) (base : Nat) (w : World) (h : w.ownsRow base 9 1 v xs.length (xs.map Value.string)) (hn : xs.length ≤ 1100001) (hx : ∀ i (h : i < xs.length), (xs[i]).size ≤ 1100000) :
    Calls Tryz.prog 76 #[v, .string ⟨#[47]⟩] w fun e w' => e = .returned (.string (ba (G.joinL (xs.map bl)))) ∧ w' = w := by
  obtain ⟨a, cap, rfl⟩ := owns_slice h
  exact rjoin_any a xs.length cap _ xs w hn hx (words_of_owns h (Nat.le_refl _))

set_option maxHeartbeats 400000 in
theorem rclean_any (p : ByteArray) (w : World) (hp : p.size ≤ 1100000) :
    Calls Tryz.prog 62 #[.string p] w fun e w' => e = .returned (.string (ba (G.cleanL (bl p)))) ∧ Below w.heap.size w w' := by
  have HP : Hid (∀ W, Calls Tryz.prog 63 #[.string p] W fun e w' => ∃ v, e = .returned v ∧ w'.ownsRow W.heap.size 9 1 v (parts p).length ((parts p).map Value.string) ∧ Below W.heap.size W w') := fun W => rparts_any p W hp
  obtain ⟨j, hj⟩ : ∃ j, j = ba (G.joinL (G.partsL (bl p))) := ⟨_, rfl⟩
  have HJ : Hid (∀ v W base, W.ownsRow base 9 1 v (parts p).length ((parts p).map Value.string) → Calls Tryz.prog 76 #[v, .string ⟨#[47]⟩] W fun e w' => e = .returned (.string j) ∧ W = w') := by
    intro v W base h
    have h1 := parts_len p
    have := rjoin_own v (parts p) base W h (by omega) (fun i hi => Nat.le_trans (parts_elem p i hi) hp)
    rw [map_bl_parts, ← hj] at this
    exact this.mono fun e w' h => ⟨h.1, h.2.symm⟩
  obtain ⟨r, hr⟩ : ∃ r, r = G.rootedL (bl p) := ⟨_, rfl⟩
  have HR : Hid (∀ W, Calls Tryz.prog 77 #[.string p] W fun e w' => e = .returned (.bool r) ∧ W = w') := by
    intro W; rw [hr]; exact (rooted_any p W).mono fun e w' h => ⟨h.1, h.2.symm⟩
  have HC : Hid (ba (G.cleanL (bl p)) = if r then ⟨#[47]⟩ ++ j else if j = E then dotB else j) := by
    unfold Hid G.cleanL G.cleanOf
    rw [← hr, hj, ba_cons]
    cases r
    · by_cases he : G.joinL (G.partsL (bl p)) = []
      · rw [he]; rfl
      · have hb : ba (G.joinL (G.partsL (bl p))) ≠ E := fun e => he (ba_inj (e.trans ba_nil.symm))
        simp [he, hb]
    · rfl
  have hjs : j.size ≤ 8000000000000 := by
    have h2 := G.join_parts_length (bl p) (by rw [bl_length]; omega)
    rw [← bl_length, hj, bl_ba]; exact h2
  clear hj hr
  cases r
  · by_cases he : j = E
    · subst he
      go_enter Tryz.func62, Tryz.ntmps62
      go_wp2_with fail
      refine (HP.out _).mono ?_
      rintro e w1 ⟨v, rfl, hown, hb⟩
      have HO : Hid (w1.ownsRow w.heap.size 9 1 v (parts p).length ((parts p).map Value.string)) := hown
      clear hown
      go_wp2_with fail
      refine (HJ.out _ _ _ HO.out).mono ?_
      rintro e w' ⟨rfl, rfl⟩
      clear HO
      go_wp2_with fail
      refine (HR.out _).mono ?_
      rintro e w' ⟨rfl, rfl⟩
      go_wp2
      go_ret
      exact ⟨ret_str (by rw [HC.out]; rfl), hb⟩
    · have t1 : ¬ j.toList = [] := by rw [Lib.toList_data]; exact fun e => he (bl_E.1 e)
      have t1' : j.toList.isEmpty = false := by simpa using t1
      go_enter Tryz.func62, Tryz.ntmps62
      go_wp2_with fail
      refine (HP.out _).mono ?_
      rintro e w1 ⟨v, rfl, hown, hb⟩
      have HO : Hid (w1.ownsRow w.heap.size 9 1 v (parts p).length ((parts p).map Value.string)) := hown
      clear hown
      go_wp2_with fail
      refine (HJ.out _ _ _ HO.out).mono ?_
      rintro e w' ⟨rfl, rfl⟩
      clear HO
      go_wp2_with fail
      refine (HR.out _).mono ?_
      rintro e w' ⟨rfl, rfl⟩
      go_wp2
      go_ret
      exact ⟨ret_str (by rw [HC.out, if_neg (by simp), if_neg he]), hb⟩
  · go_enter Tryz.func62, Tryz.ntmps62
    go_wp2_with fail
    refine (HP.out _).mono ?_
    rintro e w1 ⟨v, rfl, hown, hb⟩
    have HO : Hid (w1.ownsRow w.heap.size 9 1 v (parts p).length ((parts p).map Value.string)) := hown
    clear hown
    go_wp2_with fail
    refine (HJ.out _ _ _ HO.out).mono ?_
    rintro e w' ⟨rfl, rfl⟩
    clear HO
    go_wp2_with fail
    refine (HR.out _).mono ?_
    rintro e w' ⟨rfl, rfl⟩
    go_wp2
    go_ret
    exact ⟨ret_str (by rw [HC.out]; rfl), hb⟩
end Go.Proofs.YtoibdokedhbjpaaGreat
