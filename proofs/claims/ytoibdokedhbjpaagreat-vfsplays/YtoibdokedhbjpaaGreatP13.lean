/-
  The document's own store: Move.
-/
import Derived.Test.YtoibdokedhbjpaaGreatP12
namespace Go.Proofs.YtoibdokedhbjpaaGreat
open Go.RowKit Go.Shelf Go.Maps

theorem set_del (L : Fs) (a c : ByteArray) (e : Ent) (h : a ≠ c) : (L.set c e).del a = (L.del a).set c e := by
  induction L with
  | nil => unfold Fs.set Fs.del; simp [Ne.symm h]
  | cons x t ih =>
    unfold Fs.del at ih ⊢
    rw [List.filter_cons]
    by_cases hx : x.1 = c
    · have hxa : x.1 ≠ a := fun e => h (e.symm.trans hx)
      rw [if_pos (by simp [hxa])]
      unfold Fs.set
      rw [if_pos hx, if_pos hx, List.filter_cons, if_pos (by simp [Ne.symm h])]
    · by_cases hxa : x.1 = a
      · rw [if_neg (by simp [hxa])]
        conv => lhs; unfold Fs.set
        rw [if_neg hx, List.filter_cons, if_neg (by simp [hxa]), ih]
      · rw [if_pos (by simp [hxa])]
        conv => lhs; unfold Fs.set
        conv => rhs; unfold Fs.set
        rw [if_neg hx, if_neg hx, List.filter_cons, if_pos (by simp [hxa]), ih]
theorem home_cases3 (s : St) (c : ByteArray) : (s.home c = 6) ∨ (s.home c = 8) ∨ (s.home c = 0 ∧ ∃ d, s.L.look (dirB c) = some d ∧ d.dir = true) := by
  unfold St.home
  cases h : s.L.look (dirB c) with
  | none => exact .inl rfl
  | some d =>
    cases hd : d.dir with
    | true => exact .inr (.inr ⟨by simp [hd], d, rfl, hd⟩)
    | false => exact .inr (.inl (by simp [hd]))
theorem isDir_none {L : Fs} {c : ByteArray} (h : L.look c = none) : L.isDir c = false := by unfold Fs.isDir; rw [h]
theorem isDir_some {L : Fs} {c : ByteArray} {e : Ent} (h : L.look c = some e) : L.isDir c = e.dir := by unfold Fs.isDir; rw [h]
theorem move_two {s : St} {f t a c : ByteArray} (h1 : wh f = some a) (h2 : wh t = some c) : s.move f t = if s.mayMove a c ≠ 0 then (s, s.mayMove a c) else if a = c then ({ s with now := s.now + 1 }, 0)
      else ((St.note (St.note { s with now := s.now + 1, L := (s.L.set c ⟨s.text a, s.now + 1, false⟩).del a } 3 a) 2 c), 0) := by
  unfold St.move; rw [h1]; dsimp only; rw [h2]
theorem note_le4 {s : St} (h : s.notes.length ≤ 4096) (k : Int) (q : ByteArray) : (s.note k q).notes.length ≤ 4096 := by
  unfold St.note
  split
  · rename_i h1
    simp only [Bool.and_eq_true, decide_eq_true_eq] at h1
    simp only [List.length_append, List.length_cons, List.length_nil]; omega
  · exact h
theorem fresh_trans {n : Nat} {a b c : Value} (h : Fresh n a b) (k : Fresh n b c) : Fresh n a c := by
  rcases k with k | k
  · rw [k]; exact h
  · exact .inr k
section
variable {base br : Nat} {vL vN : Value} {s : St}
set_option maxRecDepth 20000 in
set_option maxHeartbeats 4000000 in
theorem rmove_any (f t : ByteArray) (w : World) (h : RSt base br vL vN s w) (ok : s.Ok) (tr : Tree s) (h1 : s.now ≤ 1152921504606846976) (hf : f.size ≤ 1048577) (ht : t.size ≤ 1048577) :
    Calls Tryz.prog 36 #[rptr br, .string f, .string t] w fun e w' => e = .returned (.int .i64 (s.move f t).2) ∧ ∃ vL' vN', RSt base br vL' vN' (s.move f t).1 w' ∧ RTurn br w w' ∧ Fresh w.heap.size vN vN' := by
  have hlen := ok.len
  have hn0 := ok.now0
  have HWf : Hid (Calls Tryz.prog 41 #[.string f] w fun e w' => e = .returned (.tuple #[.string ((wh f).getD E), .bool (wh f).isSome]) ∧ Below w.heap.size w w') := by
    have := where_any f w (by omega)
    rw [where_t] at this; exact this
  have HWt : Hid (∀ W, Below w.heap.size w W → Calls Tryz.prog 41 #[.string t] W fun e w' => e = .returned (.tuple #[.string ((wh t).getD E), .bool (wh t).isSome]) ∧ Below w.heap.size w w') := fun W hB => by
    have := where_any t W (by omega)
    rw [where_t] at this; exact this.mono fun e w' h => ⟨h.1, hB.trans (h.2.mono hB.size)⟩
  have HA : Hid (∀ q W, Below w.heap.size w W → Calls Tryz.prog 42 #[rptr br, .string q] W fun e w' => ∃ r, e = .returned (.int .i64 r) ∧ AtIs s.L q r ∧ W = w') := fun q W hB => rat_any q W (h.below hB) (by omega)
  have HS : Hid (∀ W, Below w.heap.size w W → RSt base br vL vN s W) := fun W hB => h.below hB
  have HK : Hid (s.Ok ∧ Tree s) := ⟨ok, tr⟩
  cases hwf : wh f with
  | none =>
    have HD2 : Hid (s.move f t = (s, 1)) := by unfold Hid St.move; rw [hwf]
    obtain ⟨st, hst⟩ : ∃ st, st = s.move f t := ⟨_, rfl⟩
    rw [← hst] at HD2 ⊢
    rw [hwf] at HWf
    generalize wh t = wt at HWt
    cases wt with
    | none =>
      clear hwf hst h ok tr
      go_enter Tryz.func36, Tryz.ntmps36
      go_wp2_with fail
      refine HWf.out.mono ?_
      rintro e w1 ⟨rfl, hb1⟩
      go_wp2_with fail
      refine (HWt.out w1 hb1).mono ?_
      rintro e w2 ⟨rfl, hb2⟩
      go_wp2
      go_ret
      rw [HD2.out]
      exact ⟨rfl, vL, vN, HS.out _ hb2, RTurn.of_below hb2, .inl rfl⟩
    | some c =>
      clear hwf hst h ok tr
      go_enter Tryz.func36, Tryz.ntmps36
      go_wp2_with fail
      refine HWf.out.mono ?_
      rintro e w1 ⟨rfl, hb1⟩
      go_wp2_with fail
      refine (HWt.out w1 hb1).mono ?_
      rintro e w2 ⟨rfl, hb2⟩
      go_wp2
      go_ret
      rw [HD2.out]
      exact ⟨rfl, vL, vN, HS.out _ hb2, RTurn.of_below hb2, .inl rfl⟩
  | some a =>
    cases hwt : wh t with
    | none =>
      have HD2 : Hid (s.move f t = (s, 1)) := by unfold Hid St.move; rw [hwf]; dsimp only; rw [hwt]
      obtain ⟨st, hst⟩ : ∃ st, st = s.move f t := ⟨_, rfl⟩
      rw [← hst] at HD2 ⊢
      rw [hwf] at HWf
      rw [hwt] at HWt
      clear hwf hwt hst h ok tr
      go_enter Tryz.func36, Tryz.ntmps36
      go_wp2_with fail
      refine HWf.out.mono ?_
      rintro e w1 ⟨rfl, hb1⟩
      go_wp2_with fail
      refine (HWt.out w1 hb1).mono ?_
      rintro e w2 ⟨rfl, hb2⟩
      go_wp2
      go_ret
      rw [HD2.out]
      exact ⟨rfl, vL, vN, HS.out _ hb2, RTurn.of_below hb2, .inl rfl⟩
    | some c =>
      have hcs : c.size ≤ 1048578 := by have := (wh_some hwt).1; rw [this]; have := cl_size t; omega
      have HD : Hid (s.move f t = if s.mayMove a c ≠ 0 then (s, s.mayMove a c) else if a = c then ({ s with now := s.now + 1 }, 0)
      else ((St.note (St.note { s with now := s.now + 1, L := (s.L.set c ⟨s.text a, s.now + 1, false⟩).del a } 3 a) 2 c), 0)) := move_two hwf hwt
      obtain ⟨st, hst⟩ : ∃ st, st = s.move f t := ⟨_, rfl⟩
      rw [← hst] at HD ⊢
      rw [hwf] at HWf
      rw [hwt] at HWt
      dsimp only [Option.getD_some, Option.isSome_some] at HWf HWt
      obtain ⟨ho, hho⟩ : ∃ ho, ho = s.home c := ⟨_, rfl⟩
      have HH : Hid (∀ W, Below w.heap.size w W → Calls Tryz.prog 56 #[rptr br, .string c] W fun e w' => e = .returned (.int .i64 ho) ∧ W = w') := fun W hB => by rw [hho]; exact rhome_any c W (h.below hB) (by omega) (by omega)
      have HHo : Hid (ho = s.home c) := hho
      have HC : Hid (ho = 6 ∨ ho = 8 ∨ (ho = 0 ∧ ∃ d, s.L.look (dirB c) = some d ∧ d.dir = true)) := by have := home_cases3 s c; rw [← hho] at this; exact this
      clear hwf hwt hst h ok tr hho
      go_enter Tryz.func36, Tryz.ntmps36
      go_wp2_with fail
      refine HWf.out.mono ?_
      rintro e w1 ⟨rfl, hb1⟩
      go_wp2_with fail
      refine (HWt.out w1 hb1).mono ?_
      rintro e w2 ⟨rfl, hb2⟩
      have HB2 : Hid (Below w.heap.size w w2) := hb2
      clear hb1 hb2
      go_wp2_with fail
      refine (HA.out a w2 HB2.out).mono ?_
      rintro e w' ⟨r, rfl, hata, rfl⟩
      have HTa : Hid (AtIs s.L a r) := hata
      clear hata
      go_wp2_with fail
      refine (HA.out c w2 HB2.out).mono ?_
      rintro e w' ⟨r2, rfl, hatc, rfl⟩
      have HTc : Hid (AtIs s.L c r2) := hatc
      clear hatc
      go_wp2_with fail
      refine (HH.out w2 HB2.out).mono ?_
      rintro e w' ⟨rfl, rfl⟩
      have c2 := (HS.out w2 HB2.out).c2
      rcases HTa.out with ⟨rfl, hla⟩ | ⟨i, x, rfl, hxa, hla, _⟩
      · have HD2 : Hid (st = (s, 6)) := by
          have hm : s.mayMove a c = 6 := by unfold St.mayMove; rw [hla]
          have := HD.out; rw [hm, if_pos (by decide)] at this; exact this
        clear hla HTa HTc
        go_wp2
        go_ret
        rw [HD2.out]
        exact ⟨rfl, vL, vN, HS.out _ HB2.out, RTurn.of_below HB2.out, .inl rfl⟩
      · have hi0 : ¬ (i : Int) < 0 := by omega
        have hm : s.mayMove a c = if ho = 6 then 6 else if (x.dir || s.L.isDir c) = true then 8 else ho := by unfold St.mayMove; rw [hla, HHo.out]
        by_cases h6 : ho = 6
        · have HD2 : Hid (st = (s, 6)) := by
            rw [if_pos h6] at hm
            have := HD.out; rw [hm, if_pos (by decide)] at this; exact this
          subst h6
          clear hla hxa hm HTa HTc
          go_wp2
          go_ret
          rw [HD2.out]
          exact ⟨rfl, vL, vN, HS.out _ HB2.out, RTurn.of_below HB2.out, .inl rfl⟩
        · have HC8 : Hid (ho = 8 ∨ (ho = 0 ∧ ∃ d, s.L.look (dirB c) = some d ∧ d.dir = true)) := by
            rcases HC.out with h | h
            · exact absurd h h6
            · exact h
          rw [if_neg h6] at hm
          obtain ⟨g, cap, hv, hil, hg, y0, y1, y2, y3⟩ := (HS.out w2 HB2.out).cellsAt hxa
          obtain ⟨n, hn⟩ : ∃ n, n = s.L.length := ⟨_, rfl⟩
          rw [← hn] at hil hv hlen
          have HNn : Hid (n = s.L.length) := hn
          have HXa : Hid (s.L[i]? = some (a, x) ∧ s.L.look a = some x) := ⟨hxa, hla⟩
          have hii : (i : Int) < (n : Int) := by omega
          clear hn h6 HC
          obtain ⟨xt, xm, xd⟩ := x
          dsimp only at y0 y1 y2 y3 hm
          rcases HTc.out with ⟨rfl, hlc⟩ | ⟨k, y, rfl, hyc, hlc, _⟩
          · have hdirc := isDir_none hlc
            subst hv
            clear hlc
            cases xd with
            | true =>
              rcases HC8.out with rfl | ⟨rfl, hdd⟩
              · have HD2 : Hid (st = (s, 8)) := by
                  have hm8 : s.mayMove a c = 8 := by rw [hm]; simp [hdirc]
                  have := HD.out; rw [hm8, if_pos (by decide)] at this; exact this

                clear hm hla hxa HTa HTc
                go_wp2
                go_ret
                rw [HD2.out]
                exact ⟨rfl, _, vN, HS.out _ HB2.out, RTurn.of_below HB2.out, .inl rfl⟩
              · have HD2 : Hid (st = (s, 8)) := by
                  have hm8 : s.mayMove a c = 8 := by rw [hm]; simp [hdirc]
                  have := HD.out; rw [hm8, if_pos (by decide)] at this; exact this

                clear hm hla hxa HTa HTc
                go_wp2
                go_ret
                rw [HD2.out]
                exact ⟨rfl, _, vN, HS.out _ HB2.out, RTurn.of_below HB2.out, .inl rfl⟩
            | false =>
              rcases HC8.out with rfl | ⟨rfl, hdd⟩
              · have HD2 : Hid (st = (s, 8)) := by
                  have hm8 : s.mayMove a c = 8 := by rw [hm]; simp [hdirc]
                  have := HD.out; rw [hm8, if_pos (by decide)] at this; exact this

                clear hm hla hxa HTa HTc
                go_wp2
                go_ret
                rw [HD2.out]
                exact ⟨rfl, _, vN, HS.out _ HB2.out, RTurn.of_below HB2.out, .inl rfl⟩
              · have hm0 : s.mayMove a c = 0 := by rw [hm]; simp [hdirc]
                have HD0 : Hid (st = if a = c then ({ s with now := s.now + 1 }, 0) else ((St.note (St.note { s with now := s.now + 1, L := (s.L.set c ⟨s.text a, s.now + 1, false⟩).del a } 3 a) 2 c), 0)) := by
                  have := HD.out; rw [hm0, if_neg (by simp)] at this; exact this
                by_cases hac : a = c
                · have HD2 : Hid (st = ({ s with now := s.now + 1 }, 0)) := by have := HD0.out; rw [if_pos hac] at this; exact this
                  have c1 := (HS.out w2 HB2.out).c1
                  have f1 := (HS.out w2 HB2.out).fr 1
                  have HE : Hid (RSt base br (.slice (some ⟨g, 0, none⟩) n cap) vN { s with now := s.now + 1 } (w2.setCell ⟨br, 1, none⟩ (.int .i64 (s.now + 1))) ∧ RTurn br w (w2.setCell ⟨br, 1, none⟩ (.int .i64 (s.now + 1)))) := ⟨(HS.out w2 HB2.out).putNow _, (RTurn.of_below HB2.out).trans (RTurn.set _ _ _ _)⟩
                  subst hac
                  clear hm hm0 hla hxa HTa HTc HD HD0 hdd hdirc
                  go_wp2
                  go_ret
                  rw [HD2.out]
                  exact ⟨rfl, _, vN, HE.out.1, HE.out.2, .inl rfl⟩
                · have HD2 : Hid (st = ((St.note (St.note { s with now := s.now + 1, L := Fs.set (s.L.take i ++ s.L.drop (i + 1)) c ⟨xt, s.now + 1, false⟩ } 3 a) 2 c), 0)) := by
                    have := HD0.out; rw [if_neg hac, set_del _ _ _ _ hac, del_at HK.out.1.uniq HXa.out.1, show s.text a = xt by unfold St.text; rw [HXa.out.2]] at this; exact this
                  have HNE : Hid ((s.L.take i ++ s.L.drop (i + 1)) ≠ [] ∧ (s.L.take i ++ s.L.drop (i + 1)).length ≤ 1000) := by
                    obtain ⟨d, hd1, hd2⟩ := hdd
                    rw [← del_at HK.out.1.uniq HXa.out.1]
                    constructor
                    · intro e
                      have hne : dirB c ≠ a := fun e2 => by rw [e2, HXa.out.2] at hd1; cases hd1; cases hd2
                      have := Fs.look_del_other s.L a (dirB c) hne
                      rw [hd1, e] at this; cases this
                    · exact Nat.le_trans (List.length_filter_le _ _) (by rw [← HNn.out]; omega)
                  have HIL : Hid (i < s.L.length ∧ s.L.length ≤ 1000) := ⟨(List.getElem?_eq_some_iff.1 HXa.out.1).1, by rw [← HNn.out]; omega⟩
                  have HNo : Hid (s.notes.length ≤ 4096) := HK.out.1.note
                  have t0 := ba_ne_list hac
                  have t1 : (a.toList == c.toList) = false := by simpa using t0
                  clear hm hm0 hla hxa HTa HTc HD HD0 hdd hdirc hac HC8
                  go_wp2_with fail
                  refine (rout_any i w2 (HS.out w2 HB2.out) HIL.out.2 HIL.out.1).mono ?_
                  rintro e w3 ⟨rfl, vL3, hR3, hT3⟩
                  have HR3 : Hid (RSt base br vL3 vN { s with L := s.L.take i ++ s.L.drop (i + 1) } w3 ∧ RTurn br w w3) := ⟨hR3, (RTurn.of_below HB2.out).trans hT3⟩
                  clear hR3 hT3 c2 y0 y1 y2 y3
                  go_wp2_with fail
                  refine (rset_any c xt 0 false w3 HR3.out.1 HNE.out.2 HNE.out.1 hn0 (by show s.now ≤ _; omega)).mono ?_
                  rintro e w4 ⟨rfl, vL4, hR4, hT4⟩
                  have HR4 : Hid (RSt base br vL4 vN { s with now := s.now + 1, L := Fs.set (s.L.take i ++ s.L.drop (i + 1)) c ⟨xt, s.now + 1, false⟩ } w4 ∧ RTurn br w w4) := ⟨hR4, HR3.out.2.trans hT4⟩
                  clear hR4 hT4
                  go_wp2_with fail
                  refine (rnote_any 3 a w4 HR4.out.1 HNo.out).mono ?_
                  rintro e w5 ⟨rfl, vN5, hR5, hT5, hF5⟩
                  have HR5 : Hid (RSt base br vL4 vN5 (St.note { s with now := s.now + 1, L := Fs.set (s.L.take i ++ s.L.drop (i + 1)) c ⟨xt, s.now + 1, false⟩ } 3 a) w5 ∧ RTurn br w w5 ∧ Fresh w.heap.size vN vN5) := ⟨hR5, HR4.out.2.trans hT5, hF5.of_le HR4.out.2.size⟩
                  clear hR5 hT5 hF5
                  go_wp2_with fail
                  refine (rnote_any 2 c w5 HR5.out.1 (by refine note_le4 ?_ _ _; exact HNo.out)).mono ?_
                  rintro e w6 ⟨rfl, vN6, hR6, hT6, hF6⟩
                  have HR6 : Hid (RSt base br vL4 vN6 (St.note (St.note { s with now := s.now + 1, L := Fs.set (s.L.take i ++ s.L.drop (i + 1)) c ⟨xt, s.now + 1, false⟩ } 3 a) 2 c) w6 ∧ RTurn br w w6 ∧ Fresh w.heap.size vN vN6) := ⟨hR6, HR5.out.2.1.trans hT6, fresh_trans HR5.out.2.2 (hF6.of_le HR5.out.2.1.size)⟩
                  clear hR6 hT6 hF6
                  go_wp2
                  go_ret
                  rw [HD2.out]
                  exact ⟨rfl, vL4, vN6, HR6.out.1, HR6.out.2.1, HR6.out.2.2⟩

          · have hdirc := isDir_some hlc
            obtain ⟨g', cap', hv', hkl, hg', z0, z1, z2, z3⟩ := (HS.out w2 HB2.out).cellsAt hyc
            rw [hv] at hv'
            simp only [Value.slice.injEq, Option.some.injEq, Addr.mk.injEq] at hv'
            obtain ⟨⟨rfl, -, -⟩, -, -⟩ := hv'
            rw [← HNn.out] at hkl
            have hki : (k : Int) < (n : Int) := by omega
            have hk0 : (0 : Int) ≤ (k : Int) := by omega
            obtain ⟨yt, ym, yd⟩ := y
            dsimp only at z0 z1 z2 z3 hdirc
            subst hv
            clear hlc hyc
            cases yd with
            | true =>
              cases xd with
              | true =>
                rcases HC8.out with rfl | ⟨rfl, hdd⟩
                · have HD2 : Hid (st = (s, 8)) := by
                    have hm8 : s.mayMove a c = 8 := by rw [hm]; simp [hdirc]
                    have := HD.out; rw [hm8, if_pos (by decide)] at this; exact this

                  clear hm hla hxa HTa HTc
                  go_wp2
                  go_ret
                  rw [HD2.out]
                  exact ⟨rfl, _, vN, HS.out _ HB2.out, RTurn.of_below HB2.out, .inl rfl⟩
                · have HD2 : Hid (st = (s, 8)) := by
                    have hm8 : s.mayMove a c = 8 := by rw [hm]; simp [hdirc]
                    have := HD.out; rw [hm8, if_pos (by decide)] at this; exact this

                  clear hm hla hxa HTa HTc
                  go_wp2
                  go_ret
                  rw [HD2.out]
                  exact ⟨rfl, _, vN, HS.out _ HB2.out, RTurn.of_below HB2.out, .inl rfl⟩
              | false =>
                rcases HC8.out with rfl | ⟨rfl, hdd⟩
                · have HD2 : Hid (st = (s, 8)) := by
                    have hm8 : s.mayMove a c = 8 := by rw [hm]; simp [hdirc]
                    have := HD.out; rw [hm8, if_pos (by decide)] at this; exact this

                  clear hm hla hxa HTa HTc
                  go_wp2
                  go_ret
                  rw [HD2.out]
                  exact ⟨rfl, _, vN, HS.out _ HB2.out, RTurn.of_below HB2.out, .inl rfl⟩
                · have HD2 : Hid (st = (s, 8)) := by
                    have hm8 : s.mayMove a c = 8 := by rw [hm]; simp [hdirc]
                    have := HD.out; rw [hm8, if_pos (by decide)] at this; exact this

                  clear hm hla hxa HTa HTc
                  go_wp2
                  go_ret
                  rw [HD2.out]
                  exact ⟨rfl, _, vN, HS.out _ HB2.out, RTurn.of_below HB2.out, .inl rfl⟩

            | false =>
              cases xd with
              | true =>
                rcases HC8.out with rfl | ⟨rfl, hdd⟩
                · have HD2 : Hid (st = (s, 8)) := by
                    have hm8 : s.mayMove a c = 8 := by rw [hm]; simp [hdirc]
                    have := HD.out; rw [hm8, if_pos (by decide)] at this; exact this

                  clear hm hla hxa HTa HTc
                  go_wp2
                  go_ret
                  rw [HD2.out]
                  exact ⟨rfl, _, vN, HS.out _ HB2.out, RTurn.of_below HB2.out, .inl rfl⟩
                · have HD2 : Hid (st = (s, 8)) := by
                    have hm8 : s.mayMove a c = 8 := by rw [hm]; simp [hdirc]
                    have := HD.out; rw [hm8, if_pos (by decide)] at this; exact this

                  clear hm hla hxa HTa HTc
                  go_wp2
                  go_ret
                  rw [HD2.out]
                  exact ⟨rfl, _, vN, HS.out _ HB2.out, RTurn.of_below HB2.out, .inl rfl⟩
              | false =>
                rcases HC8.out with rfl | ⟨rfl, hdd⟩
                · have HD2 : Hid (st = (s, 8)) := by
                    have hm8 : s.mayMove a c = 8 := by rw [hm]; simp [hdirc]
                    have := HD.out; rw [hm8, if_pos (by decide)] at this; exact this

                  clear hm hla hxa HTa HTc
                  go_wp2
                  go_ret
                  rw [HD2.out]
                  exact ⟨rfl, _, vN, HS.out _ HB2.out, RTurn.of_below HB2.out, .inl rfl⟩
                · have hm0 : s.mayMove a c = 0 := by rw [hm]; simp [hdirc]
                  have HD0 : Hid (st = if a = c then ({ s with now := s.now + 1 }, 0) else ((St.note (St.note { s with now := s.now + 1, L := (s.L.set c ⟨s.text a, s.now + 1, false⟩).del a } 3 a) 2 c), 0)) := by
                    have := HD.out; rw [hm0, if_neg (by simp)] at this; exact this
                  by_cases hac : a = c
                  · have HD2 : Hid (st = ({ s with now := s.now + 1 }, 0)) := by have := HD0.out; rw [if_pos hac] at this; exact this
                    have c1 := (HS.out w2 HB2.out).c1
                    have f1 := (HS.out w2 HB2.out).fr 1
                    have HE : Hid (RSt base br (.slice (some ⟨g, 0, none⟩) n cap) vN { s with now := s.now + 1 } (w2.setCell ⟨br, 1, none⟩ (.int .i64 (s.now + 1))) ∧ RTurn br w (w2.setCell ⟨br, 1, none⟩ (.int .i64 (s.now + 1)))) := ⟨(HS.out w2 HB2.out).putNow _, (RTurn.of_below HB2.out).trans (RTurn.set _ _ _ _)⟩
                    subst hac
                    clear hm hm0 hla hxa HTa HTc HD HD0 hdd hdirc
                    go_wp2
                    go_ret
                    rw [HD2.out]
                    exact ⟨rfl, _, vN, HE.out.1, HE.out.2, .inl rfl⟩
                  · have HD2 : Hid (st = ((St.note (St.note { s with now := s.now + 1, L := Fs.set (s.L.take i ++ s.L.drop (i + 1)) c ⟨xt, s.now + 1, false⟩ } 3 a) 2 c), 0)) := by
                      have := HD0.out; rw [if_neg hac, set_del _ _ _ _ hac, del_at HK.out.1.uniq HXa.out.1, show s.text a = xt by unfold St.text; rw [HXa.out.2]] at this; exact this
                    have HNE : Hid ((s.L.take i ++ s.L.drop (i + 1)) ≠ [] ∧ (s.L.take i ++ s.L.drop (i + 1)).length ≤ 1000) := by
                      obtain ⟨d, hd1, hd2⟩ := hdd
                      rw [← del_at HK.out.1.uniq HXa.out.1]
                      constructor
                      · intro e
                        have hne : dirB c ≠ a := fun e2 => by rw [e2, HXa.out.2] at hd1; cases hd1; cases hd2
                        have := Fs.look_del_other s.L a (dirB c) hne
                        rw [hd1, e] at this; cases this
                      · exact Nat.le_trans (List.length_filter_le _ _) (by rw [← HNn.out]; omega)
                    have HIL : Hid (i < s.L.length ∧ s.L.length ≤ 1000) := ⟨(List.getElem?_eq_some_iff.1 HXa.out.1).1, by rw [← HNn.out]; omega⟩
                    have HNo : Hid (s.notes.length ≤ 4096) := HK.out.1.note
                    have t0 := ba_ne_list hac
                    have t1 : (a.toList == c.toList) = false := by simpa using t0
                    clear hm hm0 hla hxa HTa HTc HD HD0 hdd hdirc hac HC8
                    go_wp2_with fail
                    refine (rout_any i w2 (HS.out w2 HB2.out) HIL.out.2 HIL.out.1).mono ?_
                    rintro e w3 ⟨rfl, vL3, hR3, hT3⟩
                    have HR3 : Hid (RSt base br vL3 vN { s with L := s.L.take i ++ s.L.drop (i + 1) } w3 ∧ RTurn br w w3) := ⟨hR3, (RTurn.of_below HB2.out).trans hT3⟩
                    clear hR3 hT3 c2 y0 y1 y2 y3
                    go_wp2_with fail
                    refine (rset_any c xt 0 false w3 HR3.out.1 HNE.out.2 HNE.out.1 hn0 (by show s.now ≤ _; omega)).mono ?_
                    rintro e w4 ⟨rfl, vL4, hR4, hT4⟩
                    have HR4 : Hid (RSt base br vL4 vN { s with now := s.now + 1, L := Fs.set (s.L.take i ++ s.L.drop (i + 1)) c ⟨xt, s.now + 1, false⟩ } w4 ∧ RTurn br w w4) := ⟨hR4, HR3.out.2.trans hT4⟩
                    clear hR4 hT4
                    go_wp2_with fail
                    refine (rnote_any 3 a w4 HR4.out.1 HNo.out).mono ?_
                    rintro e w5 ⟨rfl, vN5, hR5, hT5, hF5⟩
                    have HR5 : Hid (RSt base br vL4 vN5 (St.note { s with now := s.now + 1, L := Fs.set (s.L.take i ++ s.L.drop (i + 1)) c ⟨xt, s.now + 1, false⟩ } 3 a) w5 ∧ RTurn br w w5 ∧ Fresh w.heap.size vN vN5) := ⟨hR5, HR4.out.2.trans hT5, hF5.of_le HR4.out.2.size⟩
                    clear hR5 hT5 hF5
                    go_wp2_with fail
                    refine (rnote_any 2 c w5 HR5.out.1 (by refine note_le4 ?_ _ _; exact HNo.out)).mono ?_
                    rintro e w6 ⟨rfl, vN6, hR6, hT6, hF6⟩
                    have HR6 : Hid (RSt base br vL4 vN6 (St.note (St.note { s with now := s.now + 1, L := Fs.set (s.L.take i ++ s.L.drop (i + 1)) c ⟨xt, s.now + 1, false⟩ } 3 a) 2 c) w6 ∧ RTurn br w w6 ∧ Fresh w.heap.size vN vN6) := ⟨hR6, HR5.out.2.1.trans hT6, fresh_trans HR5.out.2.2 (hF6.of_le HR5.out.2.1.size)⟩
                    clear hR6 hT6 hF6
                    go_wp2
                    go_ret
                    rw [HD2.out]
                    exact ⟨rfl, vL4, vN6, HR6.out.1, HR6.out.2.1, HR6.out.2.2⟩
end
end Go.Proofs.YtoibdokedhbjpaaGreat
