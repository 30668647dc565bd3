/-
  ModsPart, at any pattern and any words.
-/
import Derived.Test.YtedepknbaakkhaaGreatDoorM30
namespace Go.Proofs.YtedepknbaakkhaaGreatDoor
open Go.RowKit Go.Shelf Go.Sort

set_option maxRecDepth 20000 in
set_option maxHeartbeats 4000000 in
theorem part_law (p : ByteArray) (a : Option Addr) (n c : Nat) (l : List ByteArray) (w : World) (hw : Words w.heap.size w (.slice a n c) l) (hmx : Mx w) :
    Calls Tryz.prog 6 #[.string p, .slice a n c] w fun e w' => e = .returned (.bool true) ∧ Below w.heap.size w w' := by
  have hnl := hw.len
  have HAl : Hid (∀ W, Below w.heap.size w W → Calls Tryz.prog 10 #[] W fun e w' => e = .returned (.bool true) ∧ Below W.heap.size W w') := fun W hB => alive_any W (hmx.below hB hmx.pos)
  have hF0 := far_any p a n c l w hw
  cases hfar : farB p l with
  | true =>
    rw [hfar] at hF0
    have HF : Hid (Calls Tryz.prog 9 #[.string p, .slice a n c] w fun e w' => e = .returned (.bool true) ∧ w = w') := hF0
    clear hw hmx hfar hnl hF0
    go_enter Tryz.func6, Tryz.ntmps6
    go_wp2_with fail
    refine HF.out.mono ?_
    rintro e w' ⟨rfl, rfl⟩
    go_wp2_with fail
    refine (HAl.out _ (Below.refl _ _)).mono ?_
    rintro e w1 ⟨rfl, hb⟩
    go_wp2
    go_ret
    exact ⟨rfl, hb⟩
  | false =>
    rw [hfar] at hF0
    have HF : Hid (Calls Tryz.prog 9 #[.string p, .slice a n c] w fun e w' => e = .returned (.bool false) ∧ w = w') := hF0
    obtain ⟨hp, hn, hlg⟩ := farB_not hfar
    have hfew := few_of hn hlg
    obtain ⟨A, hA⟩ : ∃ A, A = l.filter fun x => hitB p x := ⟨_, rfl⟩
    obtain ⟨D, hD⟩ : ∃ D, D = l.filter fun x => !hitB p x := ⟨_, rfl⟩
    obtain ⟨an, han⟩ : ∃ an, an = A.length := ⟨_, rfl⟩
    obtain ⟨dn, hdn⟩ : ∃ dn, dn = D.length := ⟨_, rfl⟩
    have hsum : an + dn = n := by rw [han, hdn, hA, hD, part_len, hnl]
    obtain ⟨p1, hp1⟩ : ∃ p1, p1 = (⟨#[77]⟩ ++ p : ByteArray) := ⟨_, rfl⟩
    obtain ⟨p2, hp2⟩ : ∃ p2, p2 = (⟨#[78]⟩ ++ p : ByteArray) := ⟨_, rfl⟩
    have HC1 : Hid ((∀ x ∈ bl p, x ≠ 58 ∧ x ≠ 92) → ∀ W, Below w.heap.size w W → Calls Tryz.prog 11 #[.string (⟨#[77]⟩ ++ p), .slice a n c] W fun e w' => ∃ a' c', e = .returned (.tuple #[.slice a' an c', .int .i64 0]) ∧ an ≤ c' ∧ Words w'.heap.size w' (.slice a' an c') A ∧ Below W.heap.size W w') := fun hpl W hB => by
      have := all_m p l hp hpl hfew a n c W (words_up hw hB) hfew (hmx.below hB hmx.pos)
      rw [← hA, ← han] at this; exact this
    have HC2 : Hid ((∀ x ∈ bl p, x ≠ 58 ∧ x ≠ 92) → ∀ W, Below w.heap.size w W → Calls Tryz.prog 11 #[.string (⟨#[78]⟩ ++ p), .slice a n c] W fun e w' => ∃ a' c', e = .returned (.tuple #[.slice a' dn c', .int .i64 0]) ∧ dn ≤ c' ∧ Words w'.heap.size w' (.slice a' dn c') D ∧ Below W.heap.size W w') := fun hpl W hB => by
      have := all_n p l hp hpl hfew a n c W (words_up hw hB) hfew (hmx.below hB hmx.pos)
      rw [← hD, ← hdn] at this; exact this
    have HG : Hid (∀ x ∈ l, ∀ W, Calls Tryz.prog 16 #[.string p, .string x] W fun e w' => e = .returned (.bool (hitB p x)) ∧ Below W.heap.size W w') := fun x hx W => by
      have hx2 := size_mem hx
      have := hfew.2
      exact GR.refmatch_any p x W (by omega) (by omega)
    have HW : Hid (∀ W, Below w.heap.size w W → Words W.heap.size W (.slice a n c) l) := fun W hB => words_up hw hB
    have HL : Hid (n = l.length ∧ A = (l.filter fun x => hitB p x) ∧ D = l.filter fun x => !hitB p x) := ⟨hnl, hA, hD⟩
    have hn200 : n ≤ 200 := by omega
    clear hw hmx hfar hnl hF0 hA hD han hdn hfew hlg hn hp1 hp2
    go_enter Tryz.func6, Tryz.ntmps6
    go_wp2_with fail
    refine HF.out.mono ?_
    rintro e w' ⟨rfl, rfl⟩
    go_wp2
    go_loopw [5] (fun vi wr => ∃ k : Nat, k ≤ p.size ∧ vi = .int .i64 k ∧ Hid (∀ x ∈ (bl p).take k, x ≠ 58 ∧ x ≠ 92) ∧ w = wr) (fun vi _ => p.size - (intOf vi).toNat)
    case atStart => exact ⟨0, Nat.zero_le _, rfl, fun x hx => by simp at hx, rfl⟩
    case round =>
      obtain ⟨k, hk, rfl, HZ, rfl⟩ := hrel
      by_cases hlt : k < p.size
      · have hil : (k : Int) < (p.size : Int) := by omega
        cases h58 : ((p[k].toNat : Int) == 58) with
        | true =>
          go_wp2_with fail
          refine (HAl.out _ (Below.refl _ _)).mono ?_
          rintro e w1 ⟨rfl, hb⟩
          go_wp2
          go_ret
          exact ⟨rfl, hb⟩
        | false =>
          cases h92 : ((p[k].toNat : Int) == 92) with
          | true =>
            go_wp2_with fail
            refine (HAl.out _ (Below.refl _ _)).mono ?_
            rintro e w1 ⟨rfl, hb⟩
            go_wp2
            go_ret
            exact ⟨rfl, hb⟩
          | false =>
            have HZ2 : Hid (∀ x ∈ (bl p).take (k + 1), x ≠ 58 ∧ x ≠ 92) := fun x hx => by
              rw [take_snoc p k hlt] at hx
              rcases List.mem_append.1 hx with h | h
              · exact HZ.out x h
              · obtain rfl : x = p[k] := by simpa using h
                rw [beq_eq_false_iff_ne] at h58 h92
                exact ⟨fun e => h58 (by rw [e]; rfl), fun e => h92 (by rw [e]; rfl)⟩
            go_wp2
            go_roundw
            case rel => exact ⟨k + 1, by omega, by go_num, HZ2, trivial⟩
            case measure => simp [intOf]; omega
      · obtain rfl : k = p.size := by omega
        have hpl : ∀ x ∈ bl p, x ≠ 58 ∧ x ≠ 92 := by have := HZ.out; rw [take_all] at this; exact this
        have HD1 : Hid (∀ W, Below w.heap.size w W → Calls Tryz.prog 11 #[.string (⟨#[77]⟩ ++ p), .slice a n c] W fun e w' => ∃ a' c', e = .returned (.tuple #[.slice a' an c', .int .i64 0]) ∧ an ≤ c' ∧ Words w'.heap.size w' (.slice a' an c') A ∧ Below W.heap.size W w') := HC1.out hpl
        have HD2 : Hid (∀ W, Below w.heap.size w W → Calls Tryz.prog 11 #[.string (⟨#[78]⟩ ++ p), .slice a n c] W fun e w' => ∃ a' c', e = .returned (.tuple #[.slice a' dn c', .int .i64 0]) ∧ dn ≤ c' ∧ Words w'.heap.size w' (.slice a' dn c') D ∧ Below W.heap.size W w') := HC2.out hpl
        clear HC1 HC2 hpl HZ
        have hs1 : ¬ 9223372036854775807 < (⟨#[77]⟩ : ByteArray).size + p.size := by show ¬ _ < 1 + p.size; omega
        have hsi : (an : Int) + (dn : Int) = (n : Int) := by omega
        have hsi2 : ((an : Int) + (dn : Int) != (n : Int)) = false := by simp; omega
        go_wp2_with fail
        refine (HD1.out _ (Below.refl _ _)).mono ?_
        rintro e w1 ⟨a1, c1, rfl, hc1, hw1, hb1⟩
        have B1 : Hid (Below w.heap.size w w1) := hb1
        clear hb1
        go_wp2_with fail
        refine (HD2.out _ B1.out).mono ?_
        rintro e w2 ⟨a2, c2, rfl, hc2, hw2, hb2⟩
        have B2 : Hid (Below w.heap.size w w2) := B1.out.trans (hb2.mono B1.out.size)
        have HV1 : Hid (Words w2.heap.size w2 (.slice a1 an c1) A) := words_up hw1 hb2
        have HV2 : Hid (Words w2.heap.size w2 (.slice a2 dn c2) D) := hw2
        clear hb2 hw1 hw2
        go_wp2
        clear hs1 hsi hsi2 HD1 HD2 HF
        go_loopw [6, 8, 66] (fun v6 v8 vi wr => ∃ (k n6 c6 n8 c8 : Nat) (a6 a8 : Option Addr), k ≤ n ∧ vi = .int .i64 k ∧ v6 = .slice a6 n6 c6 ∧ v8 = .slice a8 n8 c8 ∧ n6 ≤ c6 ∧ n8 ≤ c8 ∧ n6 ≤ 200 ∧ n8 ≤ 200 ∧ Hid (Words wr.heap.size wr (.slice a6 n6 c6) ((l.drop k).filter fun x => hitB p x)) ∧ Hid (Words wr.heap.size wr (.slice a8 n8 c8) ((l.drop k).filter fun x => !hitB p x)) ∧ Hid (Below w.heap.size w wr)) (fun _ _ vi _ => n - (intOf vi).toNat)
        case atStart => exact ⟨0, an, c1, dn, c2, a1, a2, Nat.zero_le _, rfl, rfl, rfl, hc1, hc2, by omega, by omega, by unfold Hid; rw [List.drop_zero, ← HL.out.2.1]; exact HV1.out, by unfold Hid; rw [List.drop_zero, ← HL.out.2.2]; exact HV2.out, B2⟩
        case round =>
          obtain ⟨k, n6, c6, n8, c8, a6, a8, hk, rfl, rfl, rfl, hc6, hc8, hs6, hs8, H6, H8, HB⟩ := hrel
          by_cases hlt : k < n
          · have hil : (k : Int) < (n : Int) := by omega
            have hkl : k < l.length := by rw [← HL.out.1]; exact hlt
            obtain ⟨b0, o0, ha, _, e1⟩ := (HW.out _ HB.out).pick k hkl
            subst ha
            obtain ⟨x, hx⟩ : ∃ x, x = l[k] := ⟨_, rfl⟩
            have hd := List.drop_eq_getElem_cons hkl
            have HG1 : Hid (∀ W, Calls Tryz.prog 16 #[.string p, .string x] W fun e w' => e = .returned (.bool (hitB p x)) ∧ Below W.heap.size W w') := HG.out x (by rw [hx]; exact List.getElem_mem _)
            rw [← hx] at e1 hd
            clear hx hkl
            have H6' := H6.out
            have H8' := H8.out
            rw [hd] at H6' H8'
            clear hd
            cases hh : hitB p x with
            | true =>
              rw [hh] at HG1
              rw [List.filter_cons_of_pos (by exact hh)] at H6'
              rw [List.filter_cons_of_neg (by rw [hh]; decide)] at H8'
              obtain ⟨hn6, b6, o6, rfl, y6, htl⟩ := words_tail H6'
              have HT : Hid (∀ a' c', (n6 = 1 ∨ a' = some ⟨b6, o6 + 1, none⟩) → Words wr.heap.size wr (.slice a' (n6 - 1) c') ((l.drop (k + 1)).filter fun x => hitB p x)) := fun a' c' h => htl a' c' (h.imp (fun h => List.length_eq_zero_iff.1 (by omega)) id)
              have H8n : Hid (Words wr.heap.size wr (.slice a8 n8 c8) ((l.drop (k + 1)).filter fun x => !hitB p x)) := H8'
              have hp6 : (0 : Int) < (n6 : Int) := by omega
              have hle6 : (1 : Int) ≤ (n6 : Int) := by omega
              clear hn6 htl H6' H8' H6 H8 hh
              by_cases hcc : c6 = 1
              · subst hcc
                obtain rfl : n6 = 1 := by omega
                go_wp2_with fail
                refine (HG1.out _).mono ?_
                rintro e w5 ⟨rfl, hb5⟩
                have H5 : Hid (Below wr.heap.size wr w5) := hb5
                clear hb5
                go_wp2
                go_roundw
                case rel => exact ⟨k + 1, 0, 0, n8, c8, _, a8, by omega, by go_num, rfl, rfl, by omega, hc8, by omega, hs8, words_up (HT.out _ _ (.inl (by trivial))) H5.out, words_up H8n.out H5.out, HB.out.trans (H5.out.mono HB.out.size)⟩
                case measure => simp [intOf]; omega
              · go_wp2_with fail
                refine (HG1.out _).mono ?_
                rintro e w5 ⟨rfl, hb5⟩
                have H5 : Hid (Below wr.heap.size wr w5) := hb5
                clear hb5
                go_wp2
                go_roundw
                case rel => exact ⟨k + 1, n6 - 1, c6 - 1, n8, c8, _, a8, by omega, by go_num, rfl, rfl, by omega, hc8, by omega, hs8, words_up (HT.out _ _ (.inr rfl)) H5.out, words_up H8n.out H5.out, HB.out.trans (H5.out.mono HB.out.size)⟩
                case measure => simp [intOf]; omega
            | false =>
              clear HG1
              rw [List.filter_cons_of_neg (by rw [hh]; decide)] at H6'
              rw [List.filter_cons_of_pos (by rw [hh]; rfl)] at H8'
              obtain ⟨hn8, b8, o8, rfl, y8, htl⟩ := words_tail H8'
              have HT : Hid (∀ a' c', (n8 = 1 ∨ a' = some ⟨b8, o8 + 1, none⟩) → Words wr.heap.size wr (.slice a' (n8 - 1) c') ((l.drop (k + 1)).filter fun x => !hitB p x)) := fun a' c' h => htl a' c' (h.imp (fun h => List.length_eq_zero_iff.1 (by omega)) id)
              have H6n : Hid (Words wr.heap.size wr (.slice a6 n6 c6) ((l.drop (k + 1)).filter fun x => hitB p x)) := H6'
              have hp8 : (0 : Int) < (n8 : Int) := by omega
              have hle8 : (1 : Int) ≤ (n8 : Int) := by omega
              clear hn8 htl H8' H6 H8
              by_cases h0 : n6 = 0
              · subst h0
                clear H6' hh
                by_cases hcc : c8 = 1
                · subst hcc
                  obtain rfl : n8 = 1 := by omega
                  go_wp2
                  go_roundw
                  case rel => exact ⟨k + 1, 0, c6, 0, 0, a6, _, by omega, by go_num, rfl, rfl, hc6, by omega, hs6, by omega, H6n.out, HT.out _ _ (.inl (by trivial)), HB⟩
                  case measure => simp [intOf]; omega
                · go_wp2
                  go_roundw
                  case rel => exact ⟨k + 1, 0, c6, n8 - 1, c8 - 1, a6, _, by omega, by go_num, rfl, rfl, hc6, by omega, hs6, by omega, H6n.out, HT.out _ _ (.inr rfl), HB⟩
                  case measure => simp [intOf]; omega
              · obtain ⟨y, t6, hy⟩ : ∃ y t6, ((l.drop (k + 1)).filter fun x => hitB p x) = y :: t6 := by
                  cases hf : (l.drop (k + 1)).filter fun x => hitB p x with
                  | nil => have := H6'.len; rw [hf] at this; simp at this; omega
                  | cons y t6 => exact ⟨y, t6, rfl⟩
                have hyh : hitB p y = true := by
                  have : y ∈ (l.drop (k + 1)).filter fun x => hitB p x := by rw [hy]; exact List.mem_cons_self
                  exact (List.mem_filter.1 this).2
                rw [hy] at H6'
                obtain ⟨hn6, b6, o6, rfl, y6, _⟩ := words_tail H6'
                have hne : ¬ y = x := fun e => by rw [e, hh] at hyh; cases hyh
                have u1 : ¬ y.toList = x.toList := by rw [Lib.toList_data, Lib.toList_data]; exact fun e => hne (bl_inj e)
                have u2 : (y.toList == x.toList) = false := beq_eq_false_iff_ne.2 u1
                have hp6 : (0 : Int) < (n6 : Int) := by omega
                clear H6' hh hyh hy hne hn6
                by_cases hcc : c8 = 1
                · subst hcc
                  obtain rfl : n8 = 1 := by omega
                  go_wp2
                  go_roundw
                  case rel => exact ⟨k + 1, n6, c6, 0, 0, some ⟨b6, o6, none⟩, _, by omega, by go_num, rfl, rfl, hc6, by omega, hs6, by omega, H6n.out, HT.out _ _ (.inl (by trivial)), HB⟩
                  case measure => simp [intOf]; omega
                · go_wp2
                  go_roundw
                  case rel => exact ⟨k + 1, n6, c6, n8 - 1, c8 - 1, some ⟨b6, o6, none⟩, _, by omega, by go_num, rfl, rfl, hc6, by omega, hs6, by omega, H6n.out, HT.out _ _ (.inr rfl), HB⟩
                  case measure => simp [intOf]; omega
          · obtain rfl : k = n := by omega
            have h6 := H6.out.len
            have h8 := H8.out.len
            rw [HL.out.1, List.drop_length] at h6 h8
            obtain rfl : n6 = 0 := h6
            obtain rfl : n8 = 0 := h8
            clear H6 H8
            go_wp2_with fail
            refine (HAl.out _ HB.out).mono ?_
            rintro e w5 ⟨rfl, hb5⟩
            have HE : Hid (Below w.heap.size w w5) := HB.out.trans (hb5.mono HB.out.size)
            clear hb5
            go_wp2
            go_ret
            exact ⟨rfl, HE.out⟩
end Go.Proofs.YtedepknbaakkhaaGreatDoor
