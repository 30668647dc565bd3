/-
  What the document's own Quote answers: the text with a stroke ahead of each special byte, as the plain mathematics has it.
-/
import Derived.Test.YtpelefbddbghaaaDoorPlainFn
import Derived.Test.YtpelefbddbghaaaDoorParts
import Derived.Lib.BufferRead
namespace Go.Proofs.YtpelefbddbghaaaDoor
open Go.RowKit

theorem one_sp (s : ByteArray) (k : Nat) (h : k < s.size) : anySp (s.extract k (k + 1)).data.toList = G.special s[k] := by
  have e : (s.extract k (k + 1)).data.toList = [s[k]] := by
    rw [Lib.extract_data, drop_ba s k h, show k + 1 - k = 1 by omega]; rfl
  rw [e]; simp [anySp]

theorem qt_snoc_t' (s : ByteArray) (k : Nat) (h : k < s.size) (hc : G.special s[k] = true) : G.qt (s.data.toList.take (k + 1)) = G.qt (s.data.toList.take k) ++ [92] ++ [s[k]] := by
  rw [take_snoc s k h, qt_append]; simp [G.qt, hc]
theorem qt_snoc_f' (s : ByteArray) (k : Nat) (h : k < s.size) (hc : G.special s[k] = false) : G.qt (s.data.toList.take (k + 1)) = G.qt (s.data.toList.take k) ++ [s[k]] := by
  rw [take_snoc s k h, qt_append]; simp [G.qt, hc]

set_option maxHeartbeats 1600000 in
theorem refquote_any (s : ByteArray) (w : World) (hs : s.size ≤ 100000) :
    Calls Tryd.prog 19 #[.string s] w fun e w' => e = .returned (.string ⟨(G.qt s.data.toList).toArray⟩) ∧ Below w.heap.size w w' := by
  obtain ⟨i0, hi, hz0, hz1, hz2⟩ := info_parts Tryd.info5
  obtain ⟨sb, hsb0⟩ : ∃ sb : ByteArray, sb = ⟨(G.qt s.data.toList).toArray⟩ := ⟨_, rfl⟩
  rw [← hsb0]
  have HSB : Hid (sb = ⟨(G.qt s.data.toList).toArray⟩) := hsb0
  clear hsb0
  go_enter Tryd.func19, Tryd.ntmps19
  go_wp2
  go_loopw [3, 4] (fun v vi wr => ∃ k : Nat, k ≤ s.size ∧ vi = .int .i64 k ∧ wr.ownsRow w.heap.size 5 1 v (G.qt (s.data.toList.take k)).length (Lib.byteCells (G.qt (s.data.toList.take k))) ∧ Below w.heap.size w wr)
    (fun _ vi _ => s.size - (intOf vi).toNat)
  case atStart => exact ⟨0, Nat.zero_le _, rfl, World.ownsRow_nil _ _ _ _, Below.refl _ _⟩
  case round =>
    obtain ⟨k, hk, rfl, hown, hb⟩ := hrel
    have hbs := hb.size
    have hql : (G.qt (s.data.toList.take k)).length ≤ 200000 := by have := qt_len (s.data.toList.take k); simp at this; omega
    by_cases hlt : k < s.size
    · have hil : (k : Int) < (s.size : Int) := by omega
      have hil2 : (k : Int) + 1 ≤ (s.size : Int) := by omega
      have HP : Hid (∀ W, Calls Tryd.prog 14 #[.string (s.extract k (k + 1))] W fun e w' => e = .returned (.bool (!G.special s[k])) ∧ W = w') := by
        intro W; rw [← one_sp s k hlt]; exact (refplain_any _ W (by simp; omega)).mono fun e w' h => ⟨h.1, h.2.symm⟩
      cases hsp : G.special s[k]
      · have HQ : Hid (G.qt (s.data.toList.take (k + 1)) = G.qt (s.data.toList.take k) ++ [s[k]]) := qt_snoc_f' s k hlt hsp
        rw [hsp] at HP
        clear hsp
        go_wp2_with (first | (go_at_call 14; refine (HP.out _).mono ?_; rintro e w' ⟨rfl, rfl⟩) | (at_builtin; refine wpList_append_own _ rfl _ _ 32 rfl w.heap.size 5 i0 (.int .u8 0) 1 1 Tryd.underlying32 hi hz0 hz1 hz2 rfl (by decide) _ _ _ rfl (hown.alloc _) ⟨wr.heap.size, 0, none⟩ 1 1 [.int .u8 s[k].toNat] rfl rfl ?c1 ?c2 ?c3 ?c4 ?c5 ?_))
        case c1 =>
          intro j u hj
          match j, hj with
          | 0, hj => simp at hj; subst hj; simp [Addr.add]
        case c2 => intro u hu; simp at hu; subst hu; rfl
        case c3 => unfold maxLen; omega
        case c4 => omega
        case c5 => simp; omega
        intro v' w1 hown' hgrow _
        have hb1 : Below w.heap.size w w1 := (hb.alloc hbs _).grown hgrow (by simp; omega) (fun k hk => (hown.lt k hk).1)
        have hown1 : w1.ownsRow w.heap.size 5 1 v' (G.qt (s.data.toList.take (k + 1))).length (Lib.byteCells (G.qt (s.data.toList.take (k + 1)))) := by
          rw [HQ.out]; simpa [Lib.byteCells] using hown'
        clear hown' hgrow hown hb
        go_wp2
        go_roundw
        case rel => exact ⟨k + 1, by omega, by go_num, hown1, hb1⟩
        case measure => simp [intOf]; omega
      · have HQ : Hid (G.qt (s.data.toList.take (k + 1)) = G.qt (s.data.toList.take k) ++ [92] ++ [s[k]]) := qt_snoc_t' s k hlt hsp
        rw [hsp] at HP
        clear hsp
        go_wp2_with (first | (go_at_call 14; refine (HP.out _).mono ?_; rintro e w' ⟨rfl, rfl⟩) | (at_builtin; refine wpList_append_own _ rfl (.tmp 18) (.tmp 19) 32 rfl w.heap.size 5 i0 (.int .u8 0) 1 1 Tryd.underlying32 hi hz0 hz1 hz2 rfl (by decide) _ _ _ rfl (hown.alloc _) ⟨wr.heap.size, 0, none⟩ 1 1 [.int .u8 92] rfl rfl ?c1 ?c2 ?c3 ?c4 ?c5 ?_))
        case c1 =>
          intro j u hj
          match j, hj with
          | 0, hj => simp at hj; subst hj; simp [Addr.add]
        case c2 => intro u hu; simp at hu; subst hu; rfl
        case c3 => unfold maxLen; omega
        case c4 => omega
        case c5 => simp; omega
        intro v' w1 hown' hgrow _
        have hb1 : Below w.heap.size w w1 := (hb.alloc hbs _).grown hgrow (by simp; omega) (fun k hk => (hown.lt k hk).1)
        have hown1 : w1.ownsRow w.heap.size 5 1 v' (G.qt (s.data.toList.take k) ++ [92]).length (Lib.byteCells (G.qt (s.data.toList.take k) ++ [92])) := by
          simpa [Lib.byteCells] using hown'
        have hbs1 := hb1.size
        have hql1 : (G.qt (s.data.toList.take k) ++ [92]).length ≤ 200001 := by simp; omega
        clear hown' hgrow hown hb
        go_wp2_with (at_builtin; refine wpList_append_own _ rfl (.tmp 21) (.tmp 25) 32 rfl w.heap.size 5 i0 (.int .u8 0) 1 1 Tryd.underlying32 hi hz0 hz1 hz2 rfl (by decide) _ _ _ rfl (hown1.alloc _) ⟨w1.heap.size, 0, none⟩ 1 1 [.int .u8 s[k].toNat] rfl rfl ?d1 ?d2 ?d3 ?d4 ?d5 ?_)
        case d1 =>
          intro j u hj
          match j, hj with
          | 0, hj => simp at hj; subst hj; simp [Addr.add]
        case d2 => intro u hu; simp at hu; subst hu; rfl
        case d3 => unfold maxLen; omega
        case d4 => omega
        case d5 => simp; omega
        intro v2 w2 hown2' hgrow2 _
        have hb2 : Below w.heap.size w w2 := (hb1.alloc hbs1 _).grown hgrow2 (by simp; omega) (fun k hk => (hown1.lt k hk).1)
        have hown2 : w2.ownsRow w.heap.size 5 1 v2 (G.qt (s.data.toList.take (k + 1))).length (Lib.byteCells (G.qt (s.data.toList.take (k + 1)))) := by
          rw [HQ.out]; simpa [Lib.byteCells] using hown2'
        clear hown2' hgrow2 hown1 hb1
        go_wp2
        go_roundw
        case rel => exact ⟨k + 1, by omega, by go_num, hown2, hb2⟩
        case measure => simp [intOf]; omega
    · obtain rfl : k = s.size := by omega
      have htk : s.data.toList.take s.size = s.data.toList := List.take_of_length_le (by simp)
      rw [htk] at hown
      obtain ⟨q, hq⟩ : ∃ q, q = G.qt s.data.toList := ⟨_, rfl⟩
      rw [← hq] at hown
      have hsb : sb = ⟨q.toArray⟩ := by rw [HSB.out, hq]
      obtain ⟨hxl, ⟨hv, hn0⟩ | ⟨g, cap, cur, hv, hg, hcur, hcap, hcm, hcs, hct⟩⟩ := hown
      · subst hv
        have hcv : (convert 32 9 (.slice none 0 0)).run Tryd.prog wr = .ok (.string sb) wr := by
          have hqn : q = [] := List.length_eq_zero_iff.mp hn0
          rw [hsb, hqn]
          exact Lib.run_convert_nil_bytes wr 32 9 5 0 Tryd.underlying32 Tryd.underlying5 Tryd.underlying9
        clear hsb hq hn0 hxl htk
        go_wp2
        go_ret
        exact ⟨rfl, hb⟩
      · subst hv
        have hcv : (convert 32 9 (.slice (some ⟨g, 0, none⟩) q.length cap)).run Tryd.prog wr = .ok (.string sb) wr := by
          rw [hsb]
          refine conv_row cap ?_
          intro j hj
          have hjc : cur.toList[j]? = some (.int .u8 (q[j].toNat : Int)) := by
            have h2 : (cur.toList.take (q.length * 1))[j]? = (Lib.byteCells q)[j]? := by rw [hct]
            rw [List.getElem?_take_of_lt (by omega)] at h2
            rw [h2]; simp [Lib.byteCells, List.getElem?_map, List.getElem?_eq_getElem hj]
          simp only [World.cell?, hcur]
          simpa using hjc
        clear hsb hq hxl htk hcur hcap hcm hcs hct
        go_wp2
        go_ret
        exact ⟨rfl, hb⟩
end Go.Proofs.YtpelefbddbghaaaDoor
