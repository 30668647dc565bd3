/-
  What the law's far, theirs, ours, one answer; whether two lists of lines are the same.
-/
import Derived.Test.YtbciedpjaajhcaaDoorBA
namespace Go.Proofs.YtbciedpjaajhcaaDoor
open Go.RowKit Go.Shelf

/-- Are lines too many, or too long? -/
def farZ (l : List Lz) : Bool := l.any (fun x => decide (2000 < x.text.size)) || decide (400 < l.length)
set_option maxRecDepth 20000 in
set_option maxHeartbeats 400000 in
theorem far_any (v : Value) (l : List Lz) (w : World) (hl : l.length ≤ 9223372036854775807) (hs : ∀ x ∈ l, x.text.size ≤ 9223372036854775807) (hW : LZ w.heap.size w v l) :
    Calls Tryd.prog 5 #[v] w fun e w' => e = .returned (.bool (farZ l)) ∧ Below w.heap.size w w' := by
  obtain ⟨a, c, rfl, hc⟩ := hW.slice
  obtain ⟨n, hn⟩ : ∃ n, n = l.length := ⟨_, rfl⟩
  rw [← hn] at hl hc hW
  have HW : Hid (n = l.length ∧ LZ w.heap.size w (.slice a n c) l ∧ ∀ x ∈ l, x.text.size ≤ 9223372036854775807) := ⟨hn, hW, hs⟩
  rw [← hn]
  clear hn hW hs
  go_enter Tryd.func5, Tryd.ntmps5
  go_wp2
  go_loopw [7] (fun vi wr => ∃ k : Nat, k ≤ n ∧ vi = .int .i64 (k : Int) ∧ Hid (Below w.heap.size w wr ∧ (l.any (fun x => decide (2000 < x.text.size)) = (l.drop k).any (fun x => decide (2000 < x.text.size))))) (fun vi _ => n - (intOf vi).toNat)
  case atStart => exact ⟨0, Nat.zero_le _, rfl, Below.refl _ _, by simp⟩
  case round =>
    obtain ⟨k, hk, rfl, HI⟩ := hrel
    by_cases hlt : k < n
    · have hil : (k : Int) < (n : Int) := by omega
      have hkl : k < l.length := by rw [← HW.out.1]; exact hlt
      obtain ⟨x, hx⟩ : ∃ x, l[k]? = some x := ⟨_, List.getElem?_eq_getElem hkl⟩
      obtain ⟨bb, oo, rfl, hbB, d0, d1, d2⟩ := HW.out.2.1.pick hx
      have hxs := HW.out.2.2 x (List.mem_of_getElem? hx)
      have c0 := (HI.out.1.cell (p := ⟨bb, oo + k * 3, none⟩) hbB).trans d0
      have c1 := (HI.out.1.cell (p := ⟨bb, oo + k * 3 + 1, none⟩) hbB).trans d1
      have c2 := (HI.out.1.cell (p := ⟨bb, oo + k * 3 + 2, none⟩) hbB).trans d2
      have hdr : (l.drop k).any (fun x => decide (2000 < x.text.size)) = (decide (2000 < x.text.size) || (l.drop (k + 1)).any (fun x => decide (2000 < x.text.size))) := by
        rw [List.drop_eq_getElem_cons hkl]
        rw [List.getElem?_eq_getElem hkl] at hx
        simp at hx; rw [hx, List.any_cons]
      have HD : Hid _ := hdr
      have hwb := HI.out.1
      have HWB : Hid (Below w.heap.size w (wr.alloc (.cells #[.string x.text, .int .i64 x.at_, .bool x.cmd] 38))) := hwb.alloc hwb.size _
      clear d0 d1 d2 hx hdr hwb hbB
      obtain ⟨xt, xa, xc⟩ := x
      simp only at c0 c1 c2 hxs HD HWB
      by_cases h2 : 2000 < xt.size
      · have h2i : (2000 : Int) < (xt.size : Int) := by omega
        have HF : Hid (farZ l = true) := by unfold Hid farZ; rw [HI.out.2, HD.out]; simp [h2]
        go_wp2
        go_ret
        exact ⟨ret_bool HF.out.symm, HWB.out⟩
      · have h2i : ¬ (2000 : Int) < (xt.size : Int) := by omega
        have HF : Hid (l.any (fun x => decide (2000 < x.text.size)) = (l.drop (k + 1)).any (fun x => decide (2000 < x.text.size))) := by unfold Hid; rw [HI.out.2, HD.out]; simp [h2]
        go_wp2
        go_roundw
        case rel => exact ⟨k + 1, by omega, by go_num, HWB.out, HF.out⟩
        case measure => simp [intOf]; omega
    · have hil : ¬ (k : Int) < (n : Int) := by omega
      have HF : Hid (farZ l = decide (400 < n)) := by
        unfold Hid farZ
        rw [HI.out.2, List.drop_of_length_le (by have := HW.out.1; omega), ← HW.out.1]; rfl
      by_cases h4 : 400 < n
      · have h4i : (400 : Int) < (n : Int) := by omega
        have HF2 : Hid (farZ l = true) := by unfold Hid; rw [HF.out]; simp [h4]
        go_wp2
        go_ret
        exact ⟨ret_bool HF2.out.symm, HI.out.1⟩
      · have h4i : ¬ (400 : Int) < (n : Int) := by omega
        have HF2 : Hid (farZ l = false) := by unfold Hid; rw [HF.out]; simp [h4]
        go_wp2
        go_ret
        exact ⟨ret_bool HF2.out.symm, HI.out.1⟩
theorem far_no {l : List Lz} (h : farZ l = false) : l.length ≤ 400 ∧ ∀ x ∈ l, x.text.size ≤ 2000 := by
  unfold farZ at h
  rw [Bool.or_eq_false_iff] at h
  refine ⟨by simpa using h.2, fun x hx => ?_⟩
  have := (List.any_eq_false.1 h.1) x hx
  simpa using this
set_option maxRecDepth 20000 in
set_option maxHeartbeats 800000 in
theorem theirs_any (v : Value) (l : List Lz) (w : World) (hl : l.length ≤ 4000000) (hW : LZ w.heap.size w v l) :
    Calls Tryd.prog 8 #[v] w fun e w' => ∃ v', e = .returned v' ∧ w'.ownsRow w.heap.size 43 3 v' l.length (lzsV l) ∧ Below w.heap.size w w' := by
  obtain ⟨i0, hi, hz0, hz1, hz2⟩ := info_of infoL
  obtain ⟨a, c, rfl, hc⟩ := hW.slice
  obtain ⟨n, hn⟩ : ∃ n, n = l.length := ⟨_, rfl⟩
  rw [← hn] at hl hc hW
  have HW : Hid (n = l.length ∧ LZ w.heap.size w (.slice a n c) l) := ⟨hn, hW⟩
  rw [← hn]
  clear hn hW
  go_enter Tryd.func8, Tryd.ntmps8
  go_wp2
  go_loopw [3, 8] (fun v vi wr => ∃ k : Nat, k ≤ n ∧ vi = .int .i64 (k : Int) ∧ wr.ownsRow w.heap.size 43 3 v k (lzsV (l.take k)) ∧ Below w.heap.size w wr) (fun _ vi _ => n - (intOf vi).toNat)
  case atStart => exact ⟨0, Nat.zero_le _, rfl, owns_nil _ _ _ _, Below.refl _ _⟩
  case round =>
    obtain ⟨k, hk, rfl, hown, hb⟩ := hrel
    have hbs := hb.size
    by_cases hlt : k < n
    · have hil : (k : Int) < (n : Int) := by omega
      have hkl : k < l.length := by rw [← HW.out.1]; exact hlt
      obtain ⟨x, hx⟩ : ∃ x, l[k]? = some x := ⟨l[k], List.getElem?_eq_getElem hkl⟩
      obtain ⟨b, o, rfl, hbB, d0, d1, d2⟩ := HW.out.2.pick hx
      have c0 : wr.cell? ⟨b, o + k * 3, none⟩ = some (.string x.text) := by rw [hb.cell (p := ⟨b, _, none⟩) hbB]; exact d0
      have c1 : wr.cell? ⟨b, o + k * 3 + 1, none⟩ = some (.int .i64 x.at_) := by rw [hb.cell (p := ⟨b, _, none⟩) hbB]; exact d1
      have c2 : wr.cell? ⟨b, o + k * 3 + 2, none⟩ = some (.bool x.cmd) := by rw [hb.cell (p := ⟨b, _, none⟩) hbB]; exact d2
      have HT : Hid (l.take (k + 1) = l.take k ++ [x]) := by
        unfold Hid
        rw [List.take_succ_eq_append_getElem hkl]
        rw [List.getElem?_eq_getElem hkl] at hx
        simp at hx; rw [hx]
      obtain ⟨xt, xa, xc⟩ := x
      simp only at c0 c1 c2
      have HZ : Hid (lzC ⟨xt, xa, xc⟩ = [.string xt, .int .i64 xa, .bool xc]) := rfl
      obtain ⟨wa, hwa⟩ : ∃ wa, wa = wr.alloc (.cells #[.string xt, .int .i64 xa, .bool xc] 38) := ⟨_, rfl⟩
      clear d0 d1 d2 hx
      go_wp2_with (at_builtin; refine wpList_append_own _ rfl _ _ 31 rfl w.heap.size 43 i0 (.agg #[.string ⟨#[]⟩, .int .i64 0, .bool false]) 3 32 Tryd.underlying31 hi hz0 hz1 hz2 rfl (by decide) _ _ _ rfl ((hown.alloc _).alloc _) ⟨wr.heap.size + 1, 0, none⟩ 1 1 [.string xt, .int .i64 xa, .bool xc] rfl rfl ?c1 ?c2 ?c3 ?c4 ?c5 ?_)
      case c1 =>
        intro j u hj
        rw [add_none, Nat.zero_add]
        refine cell_in (cs := #[.string xt, .int .i64 xa, .bool xc]) (T := 43) ?_ j (by simpa using hj)
        have hsz : (wr.alloc (.cells #[.string xt, .int .i64 xa, .bool xc] 38)).heap.size = wr.heap.size + 1 := by simp
        rw [← hsz]
        exact alloc_last _ _
      case c2 => exact fun u hu => lz_one ⟨xt, xa, xc⟩ u hu
      case c3 => unfold maxLen; omega
      case c4 => omega
      case c5 => simp; omega
      intro v' w2 hown' hgrow _
      have hb3 : Below w.heap.size w w2 := ((hb.alloc hbs _).alloc (by simp; omega) _).grown hgrow (by simp; omega) (fun k hk => (hown.lt k hk).1)
      have hown2 : w2.ownsRow w.heap.size 43 3 v' (k + 1) (lzsV (l.take (k + 1))) := by
        rw [HT.out, lzsV_snoc, HZ.out]; exact hown'
      clear hown' hgrow hown hb hwa c0 c1 c2
      go_wp2
      go_roundw
      case rel => exact ⟨k + 1, by omega, by go_num, hown2, hb3⟩
      case measure => simp [intOf]; omega
    · obtain rfl : k = n := by omega
      have HO : Hid (wr.ownsRow w.heap.size 43 3 u3 k (lzsV l)) := by
        have h := hown
        rw [HW.out.1, List.take_length] at h
        rw [HW.out.1]; exact h
      clear hown
      go_wp2
      go_ret
      exact ⟨_, rfl, HO, hb⟩
end Go.Proofs.YtbciedpjaajhcaaDoor
