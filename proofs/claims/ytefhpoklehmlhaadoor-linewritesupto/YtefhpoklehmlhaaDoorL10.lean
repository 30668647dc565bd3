/-
  What Same and theirs answer.
-/
import Derived.Test.YtefhpoklehmlhaaDoorL6
namespace Go.Proofs.YtefhpoklehmlhaaDoor
open Go.RowKit Go.Shelf

set_option maxRecDepth 20000 in
set_option maxHeartbeats 800000 in
theorem equal_any (v1 v2 : Value) (l m : List Lz) (B : Nat) (w : World) (hl : l.length ≤ 4000000) (hm : m.length ≤ 4000000) (h1 : LZ B w v1 l) (h2 : LZ B w v2 m) :
    Calls Tryd.prog 30 #[v1, v2] w (SamePost l m w) := by
  obtain ⟨a1, c1, rfl, hc1⟩ := h1.slice
  obtain ⟨a2, c2, rfl, hc2⟩ := h2.slice
  obtain ⟨n, hn⟩ : ∃ n, n = l.length := ⟨_, rfl⟩
  obtain ⟨n2, hn2⟩ : ∃ n, n = m.length := ⟨_, rfl⟩
  rw [← hn] at hl hc1 h1
  rw [← hn2] at hm hc2 h2
  have HW : Hid (n = l.length ∧ n2 = m.length ∧ LZ B w (.slice a1 n c1) l ∧ LZ B w (.slice a2 n2 c2) m) := ⟨hn, hn2, h1, h2⟩
  rw [← hn, ← hn2]
  clear hn hn2 h1 h2
  by_cases hne : n = n2
  · subst hne
    go_enter Tryd.func30, Tryd.ntmps30
    go_wp2
    go_loopw [13] (fun vi wr => ∃ k q : Nat, k ≤ n ∧ vi = .int .i64 (k : Int) ∧ wr = w.drewN q ∧ Hid (l.take k = m.take k)) (fun vi _ => n - (intOf vi).toNat)
    case atStart => exact ⟨0, 0, Nat.zero_le _, rfl, rfl, by simp [Hid]⟩
    case round =>
      obtain ⟨k, q, hk, rfl, rfl, HT⟩ := hrel
      by_cases hlt : k < n
      · have hil : (k : Int) < (n : Int) := by omega
        have hkl : k < l.length := by rw [← HW.out.1]; exact hlt
        have hkm : k < m.length := by rw [← HW.out.2.1]; exact hlt
        obtain ⟨b, o, rfl, hbB, d0, d1, d2⟩ := HW.out.2.2.1.pick (List.getElem?_eq_getElem hkl)
        obtain ⟨b', o', rfl, hbB', d0', d1', d2'⟩ := HW.out.2.2.2.pick (List.getElem?_eq_getElem hkm)
        have hne := neq30 l[k].text m[k].text l[k].at_ m[k].at_ l[k].cmd m[k].cmd
        have HS : Hid (sameZ l[k] m[k] = (l[k].text == m[k].text && (l[k].at_ == m[k].at_ && l[k].cmd == m[k].cmd))) := rfl
        have HTl : Hid (l.take (k + 1) = l.take k ++ [l[k]]) := List.take_succ_eq_append_getElem hkl
        have HTm : Hid (m.take (k + 1) = m.take k ++ [m[k]]) := List.take_succ_eq_append_getElem hkm
        have HL : Hid (l[k]? = some l[k] ∧ m[k]? = some m[k]) := ⟨List.getElem?_eq_getElem hkl, List.getElem?_eq_getElem hkm⟩
        obtain ⟨x, hx⟩ : ∃ x, x = l[k] := ⟨_, rfl⟩
        obtain ⟨y, hy⟩ : ∃ y, y = m[k] := ⟨_, rfl⟩
        rw [← hx] at d0 d1 d2 HTl HL
        rw [← hy] at d0' d1' d2' HTm HL
        rw [← hx, ← hy] at hne HS
        clear hx hy
        obtain ⟨xt, xa, xc⟩ := x
        obtain ⟨yt, ya, yc⟩ := y
        simp only at d0 d1 d2 d0' d1' d2' hne
        cases hs : sameZ ⟨xt, xa, xc⟩ ⟨yt, ya, yc⟩ with
        | true =>
          have HT1 : Hid (l.take (k + 1) = m.take (k + 1)) := by unfold Hid; rw [HTl.out, HTm.out, HT.out, (sameZ_iff _ _).1 hs]
          have hse := HS.out
          rw [hs] at hse
          simp only at hse
          rw [← hse] at hne
          clear hse hs HS HTl HTm HL
          simp only [Bool.not_true] at hne
          go_wp2
          go_quiet (fail)
          go_wp2
          go_roundw
          case rel => exact ⟨k + 1, _, by omega, by go_num, rfl, HT1⟩
          case measure => simp [intOf]; omega
        | false =>
          have HNE : Hid (¬ l = m) := fun e => by
            have h := HL.out
            rw [e] at h
            have := h.1.symm.trans h.2
            have h3 := (sameZ_iff ⟨xt, xa, xc⟩ ⟨yt, ya, yc⟩).2 (Option.some.inj this)
            rw [hs] at h3; cases h3
          have hse := HS.out
          rw [hs] at hse
          simp only at hse
          rw [← hse] at hne
          clear hse hs HS HTl HTm HL
          simp only [Bool.not_false] at hne
          go_wp2
          go_quiet (fail)
          go_wp2
          go_ret
          exact ⟨false, rfl, ⟨fun h => (by cases h), fun h => absurd h HNE.out⟩, below_drewN (below_drewN (Below.refl _ _) _) _⟩
      · have HE : Hid (l = m) := by
          have h := HT.out
          have h1 := HW.out.1
          have h2 := HW.out.2.1
          rw [List.take_of_length_le (by omega), List.take_of_length_le (by omega)] at h
          exact h
        go_wp2
        go_ret
        exact ⟨true, rfl, ⟨fun _ => HE.out, fun _ => rfl⟩, below_drewN (Below.refl _ _) _⟩
  · have hni : ¬ (n : Int) = (n2 : Int) := by omega
    have hnb : ((n : Int) == (n2 : Int)) = false := by simpa using hni
    go_enter Tryd.func30, Tryd.ntmps30
    go_wp2
    go_ret
    refine ⟨false, rfl, ⟨fun h => (by cases h), fun h => ?_⟩, Below.refl _ _⟩
    have h1 := HW.out.1
    have h2 := HW.out.2.1
    rw [h] at h1
    exact absurd (h1.trans h2.symm) hne

set_option maxRecDepth 20000 in
set_option maxHeartbeats 400000 in
theorem same_any (v1 v2 : Value) (l m : List Lz) (B : Nat) (w : World) (hl : l.length ≤ 4000000) (hm : m.length ≤ 4000000) (h1 : LZ B w v1 l) (h2 : LZ B w v2 m) :
    Calls Tryd.prog 13 #[v1, v2] w (SamePost l m w) := by
  have HE : Hid (Calls Tryd.prog 30 #[v1, v2] w (SamePost l m w)) := equal_any v1 v2 l m B w hl hm h1 h2
  clear h1 h2
  go_enter Tryd.func13, Tryd.ntmps13
  go_wp2_with fail
  refine HE.out.mono ?_
  rintro e w1 ⟨b, rfl, h1, h2⟩
  have H1 : Hid ((b = true ↔ l = m) ∧ Below w.heap.size w w1) := ⟨h1, h2⟩
  clear h1 h2
  go_wp2_with fail
  go_ret
  exact ⟨b, rfl, H1.out.1, H1.out.2⟩

set_option maxRecDepth 20000 in
set_option maxHeartbeats 800000 in
theorem theirs_any (v : Value) (l : List Lz) (w : World) (hl : l.length ≤ 4000000) (hW : LZ w.heap.size w v l) :
    Calls Tryd.prog 19 #[v] w fun e w' => ∃ v', e = .returned v' ∧ w'.ownsRow w.heap.size 30 3 v' l.length (lzsV l) ∧ Below w.heap.size w w' := by
  obtain ⟨i0, hi, hz0, hz1, hz2⟩ := info_parts infoL
  obtain ⟨a, c, rfl, hc⟩ := hW.slice
  obtain ⟨n, hn⟩ : ∃ n, n = l.length := ⟨_, rfl⟩
  rw [← hn] at hl hc hW
  have HW : Hid (n = l.length ∧ LZ w.heap.size w (.slice a n c) l) := ⟨hn, hW⟩
  rw [← hn]
  clear hn hW
  go_enter Tryd.func19, Tryd.ntmps19
  go_wp2
  go_loopw [3, 8] (fun v vi wr => ∃ k : Nat, k ≤ n ∧ vi = .int .i64 (k : Int) ∧ wr.ownsRow w.heap.size 30 3 v k (lzsV (l.take k)) ∧ Below w.heap.size w wr) (fun _ vi _ => n - (intOf vi).toNat)
  case atStart => exact ⟨0, Nat.zero_le _, rfl, owns_nil _ _ _ _, Below.refl _ _⟩
  case round =>
    obtain ⟨k, hk, rfl, hown, hb⟩ := hrel
    have hbs := hb.size
    by_cases hlt : k < n
    · have hil : (k : Int) < (n : Int) := by omega
      have hkl : k < l.length := by rw [← HW.out.1]; exact hlt
      obtain ⟨x, hx⟩ : ∃ x, l[k]? = some x := ⟨l[k], List.getElem?_eq_getElem hkl⟩
      obtain ⟨b, o, rfl, hbB, d0, d1, d2⟩ := HW.out.2.pick hx
      have c0 : wr.cell? ⟨b, o + k * 3, none⟩ = some (.string x.text) := by rw [hb.cell (p := ⟨b, _, none⟩) hbB]; exact d0
      have c1 : wr.cell? ⟨b, o + k * 3 + 1, none⟩ = some (.int .i64 x.at_) := by rw [hb.cell (p := ⟨b, _, none⟩) hbB]; exact d1
      have c2 : wr.cell? ⟨b, o + k * 3 + 2, none⟩ = some (.bool x.cmd) := by rw [hb.cell (p := ⟨b, _, none⟩) hbB]; exact d2
      have HT : Hid (l.take (k + 1) = l.take k ++ [x]) := by
        unfold Hid
        rw [List.take_succ_eq_append_getElem hkl]
        rw [List.getElem?_eq_getElem hkl] at hx
        simp at hx; rw [hx]
      obtain ⟨xt, xa, xc⟩ := x
      simp only at c0 c1 c2
      have HZ : Hid (lzC ⟨xt, xa, xc⟩ = [.string xt, .int .i64 xa, .bool xc]) := rfl
      obtain ⟨wa, hwa⟩ : ∃ wa, wa = wr.alloc (.cells #[.string xt, .int .i64 xa, .bool xc] 52) := ⟨_, rfl⟩
      clear d0 d1 d2 hx
      go_wp2_with (at_builtin; refine wpList_append_own _ rfl _ _ 22 rfl w.heap.size 30 i0 (.agg #[.string ⟨#[]⟩, .int .i64 0, .bool false]) 3 32 Tryd.underlying22 hi hz0 hz1 hz2 rfl (by decide) _ _ _ rfl ((hown.alloc _).alloc _) ⟨wr.heap.size + 1, 0, none⟩ 1 1 [.string xt, .int .i64 xa, .bool xc] rfl rfl ?c1 ?c2 ?c3 ?c4 ?c5 ?_)
      case c1 =>
        intro j u hj
        rw [add_none, Nat.zero_add]
        refine cell_in (cs := #[.string xt, .int .i64 xa, .bool xc]) (T := 30) ?_ j (by simpa using hj)
        have hsz : (wr.alloc (.cells #[.string xt, .int .i64 xa, .bool xc] 52)).heap.size = wr.heap.size + 1 := by simp
        rw [← hsz]
        exact alloc_last _ _
      case c2 => exact fun u hu => lz_one ⟨xt, xa, xc⟩ u hu
      case c3 => unfold maxLen; omega
      case c4 => omega
      case c5 => simp; omega
      intro v' w2 hown' hgrow _
      have hb3 : Below w.heap.size w w2 := ((hb.alloc hbs _).alloc (by simp; omega) _).grown hgrow (by simp; omega) (fun k hk => (hown.lt k hk).1)
      have hown2 : w2.ownsRow w.heap.size 30 3 v' (k + 1) (lzsV (l.take (k + 1))) := by
        rw [HT.out, lzsV_snoc, HZ.out]; exact hown'
      clear hown' hgrow hown hb hwa c0 c1 c2
      go_wp2
      go_roundw
      case rel => exact ⟨k + 1, by omega, by go_num, hown2, hb3⟩
      case measure => simp [intOf]; omega
    · obtain rfl : k = n := by omega
      have HO : Hid (wr.ownsRow w.heap.size 30 3 u3 k (lzsV l)) := by
        have h := hown
        rw [HW.out.1, List.take_length] at h
        rw [HW.out.1]; exact h
      clear hown
      go_wp2
      go_ret
      exact ⟨_, rfl, HO, hb⟩
end Go.Proofs.YtefhpoklehmlhaaDoor
