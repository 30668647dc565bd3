/-
  What the program's Split answers: the words, or the error.
-/
import Derived.Test.YtanboocibmjomaaDoorSpl2
namespace Go.Proofs.YtanboocibmjomaaDoor
open Go.RowKit Go.Shelf

theorem words_empty (B : Nat) (W : World) : Words B W (.slice none 0 0) [] := ⟨none, 0, 0, rfl, rfl, fun i hi => by simp at hi⟩

set_option maxRecDepth 20000 in
set_option maxHeartbeats 400000 in
theorem split_any (s : ByteArray) (w : World) (hs : s.size ≤ 140737488355328) :
    Calls Tryd.prog 9 #[.string s] w fun e w' => ∃ v, e = .returned (.tuple #[v, .int .i64 (splitE s : Nat)]) ∧ Words w'.heap.size w' v (splitW s) ∧ Below w.heap.size w w' := by
  have HF : Hid (∀ W, SJ w.heap.size w K.Rd.r0 [] W → Calls Tryd.prog 25 #[.string s, .func (.func 22) #[] #[.pointer (some ⟨w.heap.size, 0, none⟩)], .func (.func 26) #[] #[.pointer (some ⟨w.heap.size + 1, 0, none⟩)]] W fun e w' => e = .returned (.tuple #[]) ∧ SJ w.heap.size w (K.ends (bl s)) (wds s) w') := by
    intro W h
    exact between_any K.Rd.step K.Rd.blank K.Rd.r0 22 26 _ _ (SJ w.heap.size w) s W hs eb1 eb2 (fun x ws c W hJ => sj_blank c hJ) (fun x ws t W hJ _ => sj_push t hJ) h
  have HS : Hid (SJ w.heap.size w K.Rd.r0 [] ((w.alloc (.cells #[.int .u8 0, .bool false] 43)).alloc (.cells #[.slice none 0 0] 22))) := by
    have e1 := alloc_at w (.cells #[.int .u8 0, .bool false] 43)
    have hsz : (w.alloc (.cells #[.int .u8 0, .bool false] 43)).heap.size = w.heap.size + 1 := by simp
    have e2 := alloc_at (w.alloc (.cells #[.int .u8 0, .bool false] 43)) (.cells #[.slice none 0 0] 22)
    rw [hsz] at e2
    refine ⟨?_, ⟨.slice none 0 0, e2, World.ownsRow_nil _ _ _ _, by simp [Value.ownBlock]⟩, ((Below.refl _ _).alloc (Nat.le_refl _) _).alloc (by simp) _, by simp⟩
    exact (Below.heap_alloc _ _ _ (by simp)).trans e1
  cases ho : (K.ends (bl s)).opened with
  | true =>
    have HE : Hid (splitE s = 4 ∧ splitW s = []) := by
      have : splitE s = 4 := by unfold splitE; rw [ho]; rfl
      exact ⟨this, by unfold splitW; rw [this]; rfl⟩
    rw [HE.out.1, HE.out.2]
    have HO : Hid (∀ W, Box w.heap.size (K.ends (bl s)) W → Calls Tryd.prog 27 #[.pointer (some ⟨w.heap.size, 0, none⟩)] W fun e w' => e = .returned (.bool true) ∧ W = w') := by
      intro W h; have := open_any _ _ W h; rw [ho] at this; exact this
    clear ho
    go_enter Tryd.func9, Tryd.ntmps9
    go_wp2_with fail
    refine (HF.out _ HS.out).mono ?_
    rintro e w1 ⟨rfl, h1, h2, h3, h4⟩
    have HB : Hid _ := h1
    clear h1 h2 h4
    go_wp2_with fail
    refine (HO.out _ HB.out).mono ?_
    rintro e w2 ⟨rfl, rfl⟩
    go_wp2
    go_ret2
    exact ⟨_, rfl, words_empty _ _, h3⟩
  | false =>
    have HO : Hid (∀ W, Box w.heap.size (K.ends (bl s)) W → Calls Tryd.prog 27 #[.pointer (some ⟨w.heap.size, 0, none⟩)] W fun e w' => e = .returned (.bool false) ∧ W = w') := by
      intro W h; have := open_any _ _ W h; rw [ho] at this; exact this
    by_cases hl : 4096 < (wds s).length
    · have HE : Hid (splitE s = 5 ∧ splitW s = []) := by
        have : splitE s = 5 := by unfold splitE; rw [ho, if_neg (by simp), if_pos hl]
        exact ⟨this, by unfold splitW; rw [this]; rfl⟩
      rw [HE.out.1, HE.out.2]
      have HL : Hid (4096 < (wds s).length) := hl
      clear ho hl
      go_enter Tryd.func9, Tryd.ntmps9
      go_wp2_with fail
      refine (HF.out _ HS.out).mono ?_
      rintro e w1 ⟨rfl, h1, ⟨v, h21, h22, h23⟩, h3, h4⟩
      have hsl : ∃ a n cap, v = .slice a n cap ∧ 4096 < n := by
        have : 4096 < ((wds s).take 4097).length := by have := HL.out; rw [List.length_take]; omega
        rcases h22.2 with ⟨h1, h2⟩ | ⟨g, cap, cur, rfl, _⟩
        · omega
        · exact ⟨_, _, _, rfl, this⟩
      obtain ⟨a, n, cap, rfl, hn⟩ := hsl
      have hni : (4096 : Int) < n := by omega
      have c0 : w1.cell? ⟨w.heap.size + 1, 0, none⟩ = some (.slice a n cap) := by simp only [World.cell?, h21]; rfl
      have HB : Hid _ := h1
      clear h1 h21 h22 h23 h4
      go_wp2_with fail
      refine (HO.out _ HB.out).mono ?_
      rintro e w2 ⟨rfl, rfl⟩
      go_wp2
      go_ret2
      exact ⟨_, rfl, words_empty _ _, h3⟩
    · have HE : Hid (splitE s = 0 ∧ splitW s = wds s) := by
        have : splitE s = 0 := by unfold splitE; rw [ho, if_neg (by simp), if_neg hl]
        exact ⟨this, by unfold splitW; rw [this]; rfl⟩
      rw [HE.out.1, HE.out.2]
      have HL : Hid (¬ 4096 < (wds s).length) := hl
      clear ho hl
      go_enter Tryd.func9, Tryd.ntmps9
      go_wp2_with fail
      refine (HF.out _ HS.out).mono ?_
      rintro e w1 ⟨rfl, h1, ⟨v, h21, h22, h23⟩, h3, h4⟩
      rw [List.take_of_length_le (by have := HL.out; omega)] at h22
      have HW : Hid (Words w1.heap.size w1 v (wds s)) := words_of_owns h22 (Nat.le_refl _)
      have hsl : ∃ a n cap, v = .slice a n cap ∧ n ≤ 4096 := by
        have : (wds s).length ≤ 4096 := by have := HL.out; omega
        rcases h22.2 with ⟨h1, h2⟩ | ⟨g, cap, cur, rfl, _⟩
        · exact ⟨_, _, _, h1, by omega⟩
        · exact ⟨_, _, _, rfl, this⟩
      obtain ⟨a, n, cap, rfl, hn⟩ := hsl
      have hni : ¬ (4096 : Int) < n := by omega
      have c0 : w1.cell? ⟨w.heap.size + 1, 0, none⟩ = some (.slice a n cap) := by simp only [World.cell?, h21]; rfl
      have HB : Hid _ := h1
      clear h1 h21 h22 h23 h4
      go_wp2_with fail
      refine (HO.out _ HB.out).mono ?_
      rintro e w2 ⟨rfl, rfl⟩
      go_wp2
      go_ret2
      exact ⟨_, rfl, HW.out, h3⟩
end Go.Proofs.YtanboocibmjomaaDoor
