/-
  The document's own store: Write.
-/
import Derived.Test.YtoibdokedhbjpaaGreatP4
import Derived.Test.YtoibdokedhbjpaaGreatMay
import Derived.Deep.RegionHeld3
namespace Go.Proofs.YtoibdokedhbjpaaGreat
open Go.RowKit Go.Shelf Go.Maps

/-- What the document's store keeps besides: a directory for all that is there, and no text in directories. -/
structure Tree (s : St) : Prop where
  home : ∀ x ∈ s.L, s.home x.1 = 0
  text : ∀ x ∈ s.L, x.2.dir = true → x.2.text = E
  top : s.L ≠ []
theorem Tree.home0 {s : St} (h : Tree s) {q : ByteArray} {o : Ent} (hl : s.L.look q = some o) : s.home q = 0 := h.home _ (Fs.look_mem hl)

theorem put_err {s : St} {q x : ByteArray} {k : Int} (h : s.mayPut q x.size = k) (hk : k ≠ 0) : s.put q x = (s, k) := by unfold St.put; rw [h, if_pos hk]
theorem put_good {s : St} {q x : ByteArray} (h : s.mayPut q x.size = 0) : s.put q x = (St.note { s with now := s.now + 1, L := s.L.set q ⟨x, s.now + 1, false⟩ } 2 q, 0) := by unfold St.put; rw [h, if_neg (by simp)]
theorem may_new {s : St} {q : ByteArray} (n : Nat) (h0 : s.home q = 0) (hl : s.L.look q = none) : s.mayPut q n = if 65536 < n then 5 else if s.room < (s.L.used : Int) + n then 9 else if 512 ≤ s.L.length then 9 else 0 := by
  unfold St.mayPut; rw [h0, hl]; simp
theorem may_old {s : St} {q : ByteArray} {o : Ent} (n : Nat) (h0 : s.home q = 0) (hl : s.L.look q = some o) : s.mayPut q n = if o.dir then 8 else if 65536 < n then 5 else if s.room < (s.L.used : Int) - o.text.size + n then 9 else 0 := by
  unfold St.mayPut; rw [h0, hl]; simp
section
variable {base br : Nat} {vL vN : Value} {s : St}
set_option maxRecDepth 20000 in
set_option maxHeartbeats 1000000 in
theorem rwrite_any (p x : ByteArray) (w : World) (h : RSt base br vL vN s w) (ok : s.Ok) (tr : Tree s) (h1 : s.now ≤ 1152921504606846976) (hp : p.size ≤ 1048577) (hx : x.size ≤ 1000000000000000) :
    Calls Tryz.prog 33 #[rptr br, .string p, .string x] w fun e w' => e = .returned (.int .i64 (s.write p x).2) ∧ ∃ vL' vN', RSt base br vL' vN' (s.write p x).1 w' ∧ RTurn br w w' ∧ Fresh w.heap.size vN vN' := by
  have HW : Hid (Calls Tryz.prog 41 #[.string p] w fun e w' => e = .returned (.tuple #[.string ((wh p).getD E), .bool (wh p).isSome]) ∧ Below w.heap.size w w') := by
    have := where_any p w (by omega)
    rw [where_t] at this; exact this
  have hlen := ok.len
  have hr0 := ok.room0
  have hr1 := ok.room1
  have hus := ok.used
  have hn0 := ok.now0
  have HS : Hid (∀ W, Below w.heap.size w W → RSt base br vL vN s W) := fun W hB => h.below hB
  have HA : Hid (∀ q W, Below w.heap.size w W → Calls Tryz.prog 42 #[rptr br, .string q] W fun e w' => ∃ r, e = .returned (.int .i64 r) ∧ AtIs s.L q r ∧ W = w') := fun q W hB => rat_any q W (h.below hB) (by omega)
  have HH : Hid (∀ q W, q.size ≤ 1100000 → Below w.heap.size w W → Calls Tryz.prog 56 #[rptr br, .string q] W fun e w' => e = .returned (.int .i64 (s.home q)) ∧ W = w') := fun q W hq hB => rhome_any q W (h.below hB) (by omega) (by omega)
  have HU : Hid (∀ W, Below w.heap.size w W → Calls Tryz.prog 16 #[rptr br] W fun e w' => e = .returned (.int .i64 (s.L.used : Nat)) ∧ W = w') := fun W hB => rused_any W (h.below hB) (by omega) (by omega)
  have HP : Hid (∀ q W, Below w.heap.size w W → Calls Tryz.prog 57 #[rptr br, .agg #[.string q, .string x, .int .i64 0, .bool false]] W fun e w' => e = .returned (.tuple #[]) ∧ ∃ vL', RSt base br vL' vN { s with now := s.now + 1, L := s.L.set q ⟨x, s.now + 1, false⟩ } w' ∧ RTurn br W w') := fun q W hB => rset_any q x 0 false W (h.below hB) (by omega) tr.top hn0 (by omega)
  have HN : Hid (∀ q vL' W, RSt base br vL' vN { s with now := s.now + 1, L := s.L.set q ⟨x, s.now + 1, false⟩ } W → Calls Tryz.prog 50 #[rptr br, .int .i64 2, .string q] W fun e w' => e = .returned (.tuple #[]) ∧ ∃ vN', RSt base br vL' vN' (St.note { s with now := s.now + 1, L := s.L.set q ⟨x, s.now + 1, false⟩ } 2 q) w' ∧ RTurn br W w' ∧ Fresh W.heap.size vN vN') := fun q vL' W hS => rnote_any 2 q W hS ok.note
  have HQ : Hid (∀ q, wh p = some q → q.size ≤ 1100000) := fun q hq => by
    have := (wh_some hq).1; rw [this]; have := cl_size p; omega
  obtain ⟨U, hU⟩ : ∃ U, U = s.L.used := ⟨_, rfl⟩
  rw [← hU] at HU hus
  have HUU : Hid (U = s.L.used) := hU
  have HTr : Hid (Tree s) := tr
  obtain ⟨room, hroom⟩ : ∃ room, room = s.room := ⟨_, rfl⟩
  rw [← hroom] at hr0 hr1 hus
  have HRm : Hid (room = s.room) := hroom
  obtain ⟨n, hn⟩ : ∃ n, n = x.size := ⟨_, rfl⟩
  have HD : Hid (s.write p x = match wh p with | none => (s, 1) | some q => s.put q x) := rfl
  obtain ⟨res, hres⟩ : ∃ res, res = s.write p x := ⟨_, rfl⟩
  rw [← hres] at HD ⊢
  clear h ok tr hU hroom hres
  cases hw : wh p with
  | none =>
    rw [hw] at HW HD
    have HD2 : Hid (res = (s, 1)) := HD
    clear hw HD
    go_enter Tryz.func33, Tryz.ntmps33
    go_wp2_with fail
    refine HW.out.mono ?_
    rintro e w1 ⟨rfl, hb1⟩
    go_wp2
    go_ret
    rw [HD2.out]
    exact ⟨rfl, vL, vN, HS.out _ hb1, RTurn.of_below hb1, .inl rfl⟩
  | some q =>
    have hqs := HQ.out q hw
    rw [hw] at HW HD
    have HD1 : Hid (res = s.put q x) := HD
    dsimp only [Option.getD_some, Option.isSome_some] at HW
    clear hw HD HQ
    obtain ⟨ho, hho⟩ : ∃ ho, ho = s.home q := ⟨_, rfl⟩
    have HHo : Hid (ho = s.home q) := hho
    have HHq : Hid (∀ W, Below w.heap.size w W → Calls Tryz.prog 56 #[rptr br, .string q] W fun e w' => e = .returned (.int .i64 ho) ∧ W = w') := fun W hB => by rw [hho]; exact HH.out q W hqs hB
    clear hho
    go_enter Tryz.func33, Tryz.ntmps33
    go_wp2_with fail
    refine HW.out.mono ?_
    rintro e w1 ⟨rfl, hb1⟩
    have HB1 : Hid (Below w.heap.size w w1) := hb1
    clear hb1
    go_wp2_with fail
    refine (HHq.out w1 HB1.out).mono ?_
    rintro e w' ⟨rfl, rfl⟩
    go_wp2_with fail
    refine (HA.out q w1 HB1.out).mono ?_
    rintro e w' ⟨r, rfl, hat, rfl⟩
    have c2 := (HS.out w1 HB1.out).c2
    have c0 := (HS.out w1 HB1.out).c0
    rw [← HRm.out] at c0
    rcases hat with ⟨rfl, hlk⟩ | ⟨i, y, rfl, hy, hlk, _⟩
    · by_cases hh0 : ho = 0
      · subst hh0
        by_cases hbig : 65536 < x.size
        · have hbi : (65536 : Int) < (x.size : Int) := by omega
          have HD2 : Hid (res = (s, 5)) := by
            rw [HD1.out]; exact put_err (by rw [may_new _ HHo.out.symm hlk, if_pos hbig]) (by decide)
          clear hlk
          go_wp2
          go_ret
          rw [HD2.out]
          exact ⟨rfl, vL, vN, HS.out _ HB1.out, RTurn.of_below HB1.out, .inl rfl⟩
        · have hbi : ¬ (65536 : Int) < (x.size : Int) := by omega
          have HSW : Hid (∀ W, Below w1.heap.size w1 W → Below w1.heap.size w1 W ∧ W.cell? ⟨br, 0, none⟩ = some (.int .i64 room) ∧ W.cell? ⟨br, 2, none⟩ = some vL) := fun W hB => by
            have hS := HS.out W (HB1.out.trans (hB.mono HB1.out.size))
            exact ⟨hB, by rw [HRm.out]; exact hS.c0, hS.c2⟩
          have hln : ∃ a ll cap, vL = .slice a ll cap ∧ ll = s.L.length := by
            rcases (HS.out w1 HB1.out).row.2 with ⟨h1, h2⟩ | ⟨g, cap, cur, h1, _⟩
            · exact ⟨_, _, _, h1, h2.symm⟩
            · exact ⟨_, _, _, h1, rfl⟩
          obtain ⟨a, ll, cap, hvl, hll⟩ := hln
          subst hvl
          have HUq : Hid (∀ k, Calls Tryz.prog 16 #[rptr br] (w1.drewN k) fun e w' => e = .returned (.int .i64 (U : Nat)) ∧ w' = w1.drewN k) := fun k => (HU.out _ (below_drewN HB1.out k)).mono fun e w' h => ⟨h.1, h.2.symm⟩
          have hxi : (x.size : Int) ≤ 65536 := by omega
          have hUi : (U : Int) ≤ 1048576 := by omega
          by_cases hrm : room - (x.size : Int) < (U : Int)
          · have hrm2 : decide (room - (x.size : Int) < (U : Int)) = true := by simpa using hrm
            have HD2 : Hid (res = (s, 9)) := by
              rw [HD1.out]; exact put_err (by rw [may_new _ HHo.out.symm hlk, if_neg hbig, if_pos (by rw [← HRm.out, ← HUU.out]; omega)]) (by decide)
            clear hlk
            go_wp2
            go_quiet ((go_at_call 16; exact Calls.quiet_of_same (HUq.out _)))
            go_wp2
            go_ret
            rw [HD2.out]
            exact ⟨rfl, _, vN, HS.out _ (below_drewN HB1.out _), RTurn.of_below (below_drewN HB1.out _), .inl rfl⟩
          · have hrm2 : decide (room - (x.size : Int) < (U : Int)) = false := by simpa using hrm
            by_cases hfull : 512 ≤ ll
            · have hf2 : (512 : Int) ≤ (ll : Int) := by omega
              have HD2 : Hid (res = (s, 9)) := by
                rw [HD1.out]; exact put_err (by rw [may_new _ HHo.out.symm hlk, if_neg hbig, if_neg (by rw [← HRm.out, ← HUU.out]; omega), if_pos (by rw [← hll]; exact hfull)]) (by decide)
              clear hlk hll
              go_wp2
              go_quiet ((go_at_call 16; exact Calls.quiet_of_same (HUq.out _)))
              go_wp2
              go_ret
              rw [HD2.out]
              exact ⟨rfl, _, vN, HS.out _ (below_drewN HB1.out _), RTurn.of_below (below_drewN HB1.out _), .inl rfl⟩
            · have hf2 : decide ((512 : Int) ≤ (ll : Int)) = false := by simp; omega
              have HD2 : Hid (res = (St.note { s with now := s.now + 1, L := s.L.set q ⟨x, s.now + 1, false⟩ } 2 q, 0)) := by
                rw [HD1.out]; exact put_good (by rw [may_new _ HHo.out.symm hlk, if_neg hbig, if_neg (by rw [← HRm.out, ← HUU.out]; omega), if_neg (by rw [← hll]; exact hfull)])
              clear hlk hll
              have HPn : Hid (∀ k, Calls Tryz.prog 57 #[rptr br, .agg #[.string q, .string x, .int .i64 0, .bool false]] (w1.drewN k) fun e w' => e = .returned (.tuple #[]) ∧ ∃ vL', RSt base br vL' vN { s with now := s.now + 1, L := s.L.set q ⟨x, s.now + 1, false⟩ } w' ∧ RTurn br w w') := fun k => by
                refine (HP.out q _ (below_drewN HB1.out k)).mono ?_
                rintro e w' ⟨rfl, vL', hR, hT⟩
                exact ⟨rfl, vL', hR, (RTurn.of_below (below_drewN HB1.out k)).trans hT⟩
              go_wp2
              go_quiet ((go_at_call 16; exact Calls.quiet_of_same (HUq.out _)))
              go_wp2_with fail
              refine (HPn.out _).mono ?_
              rintro e w3 ⟨rfl, vL3, hR3, hT3⟩
              have HR3 : Hid (RSt base br vL3 vN { s with now := s.now + 1, L := s.L.set q ⟨x, s.now + 1, false⟩ } w3 ∧ RTurn br w w3) := ⟨hR3, hT3⟩
              clear hR3 hT3
              go_wp2_with fail
              refine (HN.out q vL3 w3 HR3.out.1).mono ?_
              rintro e w4 ⟨rfl, vN4, hR4, hT4, hF4⟩
              have HR4 : Hid (RSt base br vL3 vN4 (St.note { s with now := s.now + 1, L := s.L.set q ⟨x, s.now + 1, false⟩ } 2 q) w4 ∧ RTurn br w w4 ∧ Fresh w.heap.size vN vN4) := ⟨hR4, HR3.out.2.trans hT4, by
                rcases hF4 with e | e
                · exact .inl e
                · exact .inr fun k hk => Nat.le_trans HR3.out.2.size (e k hk)⟩
              clear hR4 hT4 hF4
              go_wp2
              go_ret
              rw [HD2.out]
              exact ⟨rfl, vL3, vN4, HR4.out.1, HR4.out.2.1, HR4.out.2.2⟩
      · have hh1 : (ho == 0) = false := by simpa using hh0
        have hh2 : (ho != 0) = true := by simpa using hh0
        have HD2 : Hid (res = (s, ho)) := by
          rw [HD1.out]; exact put_err (by unfold St.mayPut; rw [← HHo.out, if_pos hh0]) hh0
        clear hlk
        go_wp2
        go_ret
        rw [HD2.out]
        exact ⟨rfl, vL, vN, HS.out _ HB1.out, RTurn.of_below HB1.out, .inl rfl⟩
    · have hh0 : ho = 0 := by rw [HHo.out]; exact HTr.out.home0 hlk
      subst hh0
      obtain ⟨g, cap, hv, hil, hg, y0, y1, y2, y3⟩ := (HS.out w1 HB1.out).cellsAt hy
      obtain ⟨ll, hll⟩ : ∃ ll, ll = s.L.length := ⟨_, rfl⟩
      rw [← hll] at hil hv
      subst hv
      have hii : (i : Int) < (ll : Int) := by omega
      have hi0 : ¬ (i : Int) < 0 := by omega
      have hi1 : decide ((i : Int) < 0) = false := by simp
      have hi2 : (0 : Int) ≤ i := by omega
      have HM := may_old x.size HHo.out.symm hlk
      have hux := Fs.used_mem (Fs.look_mem hlk)
      rw [← HUU.out] at hux
      obtain ⟨yt, ym, yd⟩ := y
      dsimp only at y0 y1 y2 y3 HM hux
      clear hy hlk hll
      cases yd with
      | true =>
        have HD2 : Hid (res = (s, 8)) := by rw [HD1.out]; exact put_err (by rw [HM]; rfl) (by decide)
        clear HM
        go_wp2
        go_ret
        rw [HD2.out]
        exact ⟨rfl, _, vN, HS.out _ HB1.out, RTurn.of_below HB1.out, .inl rfl⟩
      | false =>
        rw [if_neg (by simp)] at HM
        by_cases hbig : 65536 < x.size
        · have hbi : (65536 : Int) < (x.size : Int) := by omega
          have HD2 : Hid (res = (s, 5)) := by rw [HD1.out]; exact put_err (by rw [HM, if_pos hbig]) (by decide)
          clear HM
          go_wp2
          go_ret
          rw [HD2.out]
          exact ⟨rfl, _, vN, HS.out _ HB1.out, RTurn.of_below HB1.out, .inl rfl⟩
        · have hbi : ¬ (65536 : Int) < (x.size : Int) := by omega
          rw [if_neg hbig] at HM
          have HUq : Hid (∀ k, Calls Tryz.prog 16 #[rptr br] (w1.drewN k) fun e w' => e = .returned (.int .i64 (U : Nat)) ∧ w' = w1.drewN k) := fun k => (HU.out _ (below_drewN HB1.out k)).mono fun e w' h => ⟨h.1, h.2.symm⟩
          have hxi : (x.size : Int) ≤ 65536 := by omega
          have hUi : (U : Int) ≤ 1048576 := by omega
          have hui : (yt.size : Int) ≤ (U : Int) := by omega
          by_cases hrm : room - (x.size : Int) < (U : Int) - (yt.size : Int)
          · have hrm2 : decide (room - (x.size : Int) < (U : Int) - (yt.size : Int)) = true := by simpa using hrm
            have HD2 : Hid (res = (s, 9)) := by
              rw [HD1.out]; exact put_err (by rw [HM, if_pos (by rw [← HRm.out, ← HUU.out]; omega)]) (by decide)
            clear HM
            go_wp2
            go_quiet ((go_at_call 16; exact Calls.quiet_of_same (HUq.out _)))
            go_wp2
            go_ret
            rw [HD2.out]
            exact ⟨rfl, _, vN, HS.out _ (below_drewN HB1.out _), RTurn.of_below (below_drewN HB1.out _), .inl rfl⟩
          · have hrm2 : decide (room - (x.size : Int) < (U : Int) - (yt.size : Int)) = false := by simpa using hrm
            have HD2 : Hid (res = (St.note { s with now := s.now + 1, L := s.L.set q ⟨x, s.now + 1, false⟩ } 2 q, 0)) := by
              rw [HD1.out]; exact put_good (by rw [HM, if_neg (by rw [← HRm.out, ← HUU.out]; omega)])
            clear HM
            have HPn : Hid (∀ k, Calls Tryz.prog 57 #[rptr br, .agg #[.string q, .string x, .int .i64 0, .bool false]] (w1.drewN k) fun e w' => e = .returned (.tuple #[]) ∧ ∃ vL', RSt base br vL' vN { s with now := s.now + 1, L := s.L.set q ⟨x, s.now + 1, false⟩ } w' ∧ RTurn br w w') := fun k => by
              refine (HP.out q _ (below_drewN HB1.out k)).mono ?_
              rintro e w' ⟨rfl, vL', hR, hT⟩
              exact ⟨rfl, vL', hR, (RTurn.of_below (below_drewN HB1.out k)).trans hT⟩
            go_wp2
            go_quiet ((go_at_call 16; exact Calls.quiet_of_same (HUq.out _)))
            go_wp2_with fail
            refine (HPn.out _).mono ?_
            rintro e w3 ⟨rfl, vL3, hR3, hT3⟩
            have HR3 : Hid (RSt base br vL3 vN { s with now := s.now + 1, L := s.L.set q ⟨x, s.now + 1, false⟩ } w3 ∧ RTurn br w w3) := ⟨hR3, hT3⟩
            clear hR3 hT3
            go_wp2_with fail
            refine (HN.out q vL3 w3 HR3.out.1).mono ?_
            rintro e w4 ⟨rfl, vN4, hR4, hT4, hF4⟩
            have HR4 : Hid (RSt base br vL3 vN4 (St.note { s with now := s.now + 1, L := s.L.set q ⟨x, s.now + 1, false⟩ } 2 q) w4 ∧ RTurn br w w4 ∧ Fresh w.heap.size vN vN4) := ⟨hR4, HR3.out.2.trans hT4, by
              rcases hF4 with e | e
              · exact .inl e
              · exact .inr fun k hk => Nat.le_trans HR3.out.2.size (e k hk)⟩
            clear hR4 hT4 hF4
            go_wp2
            go_ret
            rw [HD2.out]
            exact ⟨rfl, vL3, vN4, HR4.out.1, HR4.out.2.1, HR4.out.2.2⟩
end
end Go.Proofs.YtoibdokedhbjpaaGreat
