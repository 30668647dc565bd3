/-
  The document's own store: home, Stat, Read, text.
-/
import Derived.Test.YtoibdokedhbjpaaGreatP2
namespace Go.Proofs.YtoibdokedhbjpaaGreat
open Go.RowKit Go.Shelf Go.Maps

theorem where_t (o : Option ByteArray) : whereV o = .tuple #[.string (o.getD E), .bool o.isSome] := by cases o <;> rfl
section
variable {base br : Nat} {vL vN : Value} {s : St}
/-- What stands at a place: its cells, wherever memory has only been made. -/
theorem RSt.cellsAt {w : World} (h : RSt base br vL vN s w) {i : Nat} {x : ByteArray × Ent} (hi : s.L[i]? = some x) :
    ∃ g cap, vL = .slice (some ⟨g, 0, none⟩) s.L.length cap ∧ i < s.L.length ∧ g < w.heap.size ∧ w.cell? ⟨g, i * 4, none⟩ = some (.string x.1) ∧ w.cell? ⟨g, i * 4 + 1, none⟩ = some (.string x.2.text) ∧ w.cell? ⟨g, i * 4 + 2, none⟩ = some (.int .i64 x.2.time) ∧ w.cell? ⟨g, i * 4 + 3, none⟩ = some (.bool x.2.dir) := by
  obtain ⟨a, cap, hv, hcap, hc⟩ := files_slice h.row
  obtain ⟨hil, hx⟩ := List.getElem?_eq_some_iff.1 hi
  obtain ⟨g, rfl, hg, hcg⟩ := hc i hil
  rw [hx] at hcg
  exact ⟨g, cap, hv, hil, hg, hcg 0 (by omega), hcg 1 (by omega), hcg 2 (by omega), hcg 3 (by omega)⟩

set_option maxRecDepth 20000 in
set_option maxHeartbeats 400000 in
theorem rhome_any (q : ByteArray) (w : World) (h : RSt base br vL vN s w) (hl : s.L.length ≤ 1000) (hq : q.size ≤ 2000000) :
    Calls Tryz.prog 56 #[rptr br, .string q] w fun e w' => e = .returned (.int .i64 (s.home q)) ∧ w = w' := by
  have HD : Hid (∀ W, Calls Tryz.prog 46 #[.string q] W fun e w' => e = .returned (.string (dirB q)) ∧ W = w') := fun W => (rdir_any q W (by omega)).mono fun e w' h => ⟨h.1, h.2.symm⟩
  have HA : Hid (Calls Tryz.prog 42 #[rptr br, .string (dirB q)] w fun e w' => ∃ r, e = .returned (.int .i64 r) ∧ AtIs s.L (dirB q) r ∧ w = w') := rat_any (dirB q) w h hl
  have HS : Hid (RSt base br vL vN s w) := h
  have c2 := h.c2
  obtain ⟨d, hd⟩ : ∃ d, d = dirB q := ⟨_, rfl⟩
  have HH : Hid (∀ r, AtIs s.L d r → (r = -1 ∧ s.home q = 6) ∨ ∃ (i : Nat) (x : ByteArray × Ent), r = i ∧ s.L[i]? = some x ∧ s.home q = if x.2.dir then 0 else 8) := by
    intro r hr
    rcases hr with ⟨h1, h2⟩ | ⟨i, e, h1, h2, h3, _⟩
    · exact .inl ⟨h1, by unfold St.home; rw [← hd, h2]⟩
    · exact .inr ⟨i, _, h1, h2, by unfold St.home; rw [← hd, h3]⟩
  obtain ⟨ho, hho⟩ : ∃ ho, ho = s.home q := ⟨_, rfl⟩
  rw [← hho] at HH ⊢
  rw [← hd] at HD HA
  clear hd hho h
  go_enter Tryz.func56, Tryz.ntmps56
  go_wp2_with fail
  refine (HD.out _).mono ?_
  rintro e w' ⟨rfl, rfl⟩
  go_wp2_with fail
  refine HA.out.mono ?_
  rintro e w' ⟨r, rfl, hat, rfl⟩
  rcases HH.out r hat with ⟨rfl, rfl⟩ | ⟨i, x, rfl, hx, hh⟩
  · clear hat
    go_wp2
    go_ret
    exact ⟨rfl, rfl⟩
  · obtain ⟨g, cap, hv, hil, hg, y0, y1, y2, y3⟩ := HS.out.cellsAt hx
    subst hv
    obtain ⟨n, hn⟩ : ∃ n, n = s.L.length := ⟨_, rfl⟩
    rw [← hn] at hil c2
    have hii : (i : Int) < (n : Int) := by omega
    obtain ⟨xp, xt, xm, xd⟩ := x
    dsimp only at y0 y1 y2 y3 hh
    have HI : Hid (ho = if xd = true then 0 else 8) := hh
    clear hat hx hh hn
    cases xd with
    | true =>
      go_wp2
      go_ret
      exact ⟨by rw [HI.out]; rfl, rfl⟩
    | false =>
      go_wp2
      go_ret
      exact ⟨by rw [HI.out]; rfl, rfl⟩

set_option maxRecDepth 20000 in
set_option maxHeartbeats 400000 in
theorem rstat_any (p : ByteArray) (w : World) (h : RSt base br vL vN s w) (hl : s.L.length ≤ 1000) (hp : p.size ≤ 1050000) :
    Calls Tryz.prog 14 #[rptr br, .string p] w fun e w' => e = .returned (statV (s.stat p)) ∧ Below w.heap.size w w' := by
  have HW : Hid (Calls Tryz.prog 41 #[.string p] w fun e w' => e = .returned (.tuple #[.string ((wh p).getD E), .bool (wh p).isSome]) ∧ Below w.heap.size w w') := by
    have := where_any p w (by omega)
    rw [where_t] at this; exact this
  have HA : Hid (∀ q W, Below w.heap.size w W → Calls Tryz.prog 42 #[rptr br, .string q] W fun e w' => ∃ r, e = .returned (.int .i64 r) ∧ AtIs s.L q r ∧ W = w') := fun q W hB => rat_any q W (h.below hB) hl
  have HS : Hid (∀ W, Below w.heap.size w W → RSt base br vL vN s W) := fun W hB => h.below hB
  have HD : Hid (s.stat p = match wh p with | none => (0, false, 1) | some q => match s.L.look q with | none => (0, false, 6) | some o => (o.time, o.dir, 0)) := rfl
  obtain ⟨st, hst⟩ : ∃ st, st = s.stat p := ⟨_, rfl⟩
  rw [← hst] at HD ⊢
  clear h hst
  cases hw : wh p with
  | none =>
    rw [hw] at HW HD
    have HD2 : Hid (st = (0, false, 1)) := HD
    clear hw HD
    go_enter Tryz.func14, Tryz.ntmps14
    go_wp2_with fail
    refine HW.out.mono ?_
    rintro e w1 ⟨rfl, hb1⟩
    go_wp2
    go_ret3
    exact ⟨by rw [HD2.out]; rfl, hb1⟩
  | some q =>
    rw [hw] at HW HD
    dsimp only [Option.getD_some, Option.isSome_some] at HW HD
    clear hw
    go_enter Tryz.func14, Tryz.ntmps14
    go_wp2_with fail
    refine HW.out.mono ?_
    rintro e w1 ⟨rfl, hb1⟩
    have HB1 : Hid (Below w.heap.size w w1) := hb1
    clear hb1
    go_wp2_with fail
    refine (HA.out q w1 HB1.out).mono ?_
    rintro e w' ⟨r, rfl, hat, rfl⟩
    have c2 := (HS.out w1 HB1.out).c2
    rcases hat with ⟨rfl, h2⟩ | ⟨i, x, rfl, h2, h3, _⟩
    · have HD2 : Hid (st = (0, false, 6)) := by have := HD.out; rw [h2] at this; exact this
      clear h2 HD
      go_wp2
      go_ret3
      exact ⟨by rw [HD2.out]; rfl, HB1.out⟩
    · have HD2 : Hid (st = (x.time, x.dir, 0)) := by have := HD.out; rw [h3] at this; exact this
      obtain ⟨g, cap, hv, hil, hg, y0, y1, y2, y3⟩ := (HS.out w1 HB1.out).cellsAt h2
      subst hv
      obtain ⟨n, hn⟩ : ∃ n, n = s.L.length := ⟨_, rfl⟩
      rw [← hn] at hil c2
      have hii : (i : Int) < (n : Int) := by omega
      obtain ⟨xt, xm, xd⟩ := x
      dsimp only at y0 y1 y2 y3
      have hi0 : ¬ (i : Int) < 0 := by omega
      clear h2 h3 hn HD
      go_wp2
      go_quiet (fail)
      go_wp2
      go_ret3
      exact ⟨by rw [HD2.out]; rfl, below_drewN HB1.out _⟩

set_option maxRecDepth 20000 in
set_option maxHeartbeats 400000 in
theorem rtext_any (p : ByteArray) (w : World) (h : RSt base br vL vN s w) (hl : s.L.length ≤ 1000) (hp : p.size ≤ 1050000) :
    Calls Tryz.prog 58 #[rptr br, .string p] w fun e w' => e = .returned (.string (match wh p with | none => E | some q => s.text q)) ∧ Below w.heap.size w w' := by
  have HW : Hid (Calls Tryz.prog 41 #[.string p] w fun e w' => e = .returned (.tuple #[.string ((wh p).getD E), .bool (wh p).isSome]) ∧ Below w.heap.size w w') := by
    have := where_any p w (by omega)
    rw [where_t] at this; exact this
  have HA : Hid (∀ q W, Below w.heap.size w W → Calls Tryz.prog 42 #[rptr br, .string q] W fun e w' => ∃ r, e = .returned (.int .i64 r) ∧ AtIs s.L q r ∧ W = w') := fun q W hB => rat_any q W (h.below hB) hl
  have HS : Hid (∀ W, Below w.heap.size w W → RSt base br vL vN s W) := fun W hB => h.below hB
  clear h
  cases hw : wh p with
  | none =>
    rw [hw] at HW
    dsimp only [Option.getD_none, Option.isSome_none] at HW ⊢
    clear hw
    go_enter Tryz.func58, Tryz.ntmps58
    go_wp2_with fail
    refine HW.out.mono ?_
    rintro e w1 ⟨rfl, hb1⟩
    have HB1 : Hid (Below w.heap.size w w1) := hb1
    clear hb1
    go_wp2_with fail
    refine (HA.out _ w1 HB1.out).mono ?_
    rintro e w' ⟨r, rfl, hat, rfl⟩
    clear hat
    go_wp2
    go_ret
    exact ⟨rfl, HB1.out⟩
  | some q =>
    rw [hw] at HW
    dsimp only [Option.getD_some, Option.isSome_some] at HW ⊢
    obtain ⟨tx, htx⟩ : ∃ tx, tx = s.text q := ⟨_, rfl⟩
    rw [← htx]
    have HT : Hid (tx = match s.L.look q with | some e => e.text | none => E) := htx
    clear hw htx
    go_enter Tryz.func58, Tryz.ntmps58
    go_wp2_with fail
    refine HW.out.mono ?_
    rintro e w1 ⟨rfl, hb1⟩
    have HB1 : Hid (Below w.heap.size w w1) := hb1
    clear hb1
    go_wp2_with fail
    refine (HA.out q w1 HB1.out).mono ?_
    rintro e w' ⟨r, rfl, hat, rfl⟩
    have c2 := (HS.out w1 HB1.out).c2
    rcases hat with ⟨rfl, h2⟩ | ⟨i, x, rfl, h2, h3, _⟩
    · have HD2 : Hid (tx = E) := by have := HT.out; rw [h2] at this; exact this
      clear h2 HT
      go_wp2
      go_ret
      exact ⟨by rw [HD2.out]; rfl, HB1.out⟩
    · have HD2 : Hid (tx = x.text) := by have := HT.out; rw [h3] at this; exact this
      obtain ⟨g, cap, hv, hil, hg, y0, y1, y2, y3⟩ := (HS.out w1 HB1.out).cellsAt h2
      subst hv
      obtain ⟨n, hn⟩ : ∃ n, n = s.L.length := ⟨_, rfl⟩
      rw [← hn] at hil c2
      have hii : (i : Int) < (n : Int) := by omega
      obtain ⟨xt, xm, xd⟩ := x
      dsimp only at y0 y1 y2 y3
      have hi0 : ¬ (i : Int) < 0 := by omega
      clear h2 h3 hn HT
      go_wp2
      go_ret
      exact ⟨by rw [HD2.out]; rfl, HB1.out⟩

set_option maxRecDepth 20000 in
set_option maxHeartbeats 400000 in
theorem rread_any (p : ByteArray) (w : World) (h : RSt base br vL vN s w) (hl : s.L.length ≤ 1000) (hn4 : s.notes.length ≤ 4096) (hp : p.size ≤ 1050000) :
    Calls Tryz.prog 24 #[rptr br, .string p] w fun e w' => e = .returned (readV (s.read p).2) ∧ ∃ vN', RSt base br vL vN' (s.read p).1 w' ∧ RTurn br w w' ∧ Fresh w.heap.size vN vN' := by
  have HW : Hid (Calls Tryz.prog 41 #[.string p] w fun e w' => e = .returned (.tuple #[.string ((wh p).getD E), .bool (wh p).isSome]) ∧ Below w.heap.size w w') := by
    have := where_any p w (by omega)
    rw [where_t] at this; exact this
  have HA : Hid (∀ q W, Below w.heap.size w W → Calls Tryz.prog 42 #[rptr br, .string q] W fun e w' => ∃ r, e = .returned (.int .i64 r) ∧ AtIs s.L q r ∧ W = w') := fun q W hB => rat_any q W (h.below hB) hl
  have HN : Hid (∀ q W, Below w.heap.size w W → Calls Tryz.prog 50 #[rptr br, .int .i64 1, .string q] W fun e w' => e = .returned (.tuple #[]) ∧ ∃ vN', RSt base br vL vN' (s.note 1 q) w' ∧ RTurn br W w' ∧ Fresh W.heap.size vN vN') := fun q W hB => rnote_any 1 q W (h.below hB) hn4
  have HS : Hid (∀ W, Below w.heap.size w W → RSt base br vL vN s W) := fun W hB => h.below hB
  have HD : Hid (s.read p = match wh p with | none => (s, E, 1) | some q => match s.L.look q with | none => (s, E, 6) | some o => if o.dir then (s, E, 8) else (s.note 1 q, o.text, 0)) := rfl
  obtain ⟨st, hst⟩ : ∃ st, st = s.read p := ⟨_, rfl⟩
  rw [← hst] at HD ⊢
  clear h hst
  cases hw : wh p with
  | none =>
    rw [hw] at HW HD
    have HD2 : Hid (st = (s, E, 1)) := HD
    clear hw HD
    go_enter Tryz.func24, Tryz.ntmps24
    go_wp2_with fail
    refine HW.out.mono ?_
    rintro e w1 ⟨rfl, hb1⟩
    go_wp2
    go_ret2
    rw [HD2.out]
    exact ⟨rfl, vN, HS.out _ hb1, RTurn.of_below hb1, .inl rfl⟩
  | some q =>
    rw [hw] at HW HD
    dsimp only [Option.getD_some, Option.isSome_some] at HW HD
    clear hw
    go_enter Tryz.func24, Tryz.ntmps24
    go_wp2_with fail
    refine HW.out.mono ?_
    rintro e w1 ⟨rfl, hb1⟩
    have HB1 : Hid (Below w.heap.size w w1) := hb1
    clear hb1
    go_wp2_with fail
    refine (HA.out q w1 HB1.out).mono ?_
    rintro e w' ⟨r, rfl, hat, rfl⟩
    have c2 := (HS.out w1 HB1.out).c2
    rcases hat with ⟨rfl, h2⟩ | ⟨i, x, rfl, h2, h3, _⟩
    · have HD2 : Hid (st = (s, E, 6)) := by have := HD.out; rw [h2] at this; exact this
      clear h2 HD
      go_wp2
      go_ret2
      rw [HD2.out]
      exact ⟨rfl, vN, HS.out _ HB1.out, RTurn.of_below HB1.out, .inl rfl⟩
    · have HD2 : Hid (st = if x.dir = true then (s, E, 8) else (s.note 1 q, x.text, 0)) := by have := HD.out; rw [h3] at this; exact this
      obtain ⟨g, cap, hv, hil, hg, y0, y1, y2, y3⟩ := (HS.out w1 HB1.out).cellsAt h2
      obtain ⟨n, hn⟩ : ∃ n, n = s.L.length := ⟨_, rfl⟩
      have HX : Hid (s.L[i]? = some (q, x)) := h2
      rw [← hn] at hil hv
      have hii : (i : Int) < (n : Int) := by omega
      have hi0 : ¬ (i : Int) < 0 := by omega
      obtain ⟨xt, xm, xd⟩ := x
      dsimp only at y0 y1 y2 y3 HD2
      have HV : Hid (vL = .slice (some ⟨g, 0, none⟩) n cap) := hv
      subst hv
      clear h2 h3 HD
      cases xd with
      | true =>
        clear hn
        go_wp2
        go_ret2
        rw [HD2.out]
        exact ⟨rfl, vN, HS.out _ HB1.out, RTurn.of_below HB1.out, .inl rfl⟩
      | false =>
        have HN2 : Hid (Calls Tryz.prog 50 #[rptr br, .int .i64 1, .string q] w1 fun e w' => e = .returned (.tuple #[]) ∧ w'.cell? ⟨br, 2, none⟩ = some (.slice (some ⟨g, 0, none⟩) n cap) ∧ w'.cell? ⟨g, i * 4 + 1, none⟩ = some (.string xt) ∧ ∃ vN', RSt base br (.slice (some ⟨g, 0, none⟩) n cap) vN' (s.note 1 q) w' ∧ RTurn br w w' ∧ Fresh w.heap.size vN vN') := by
          refine (HN.out q w1 HB1.out).mono ?_
          rintro e w' ⟨rfl, vN', hR, hT, hF⟩
          have hL : (s.note 1 q).L = s.L := note_L s 1 q
          have hx : (s.note 1 q).L[i]? = some (q, ⟨xt, xm, false⟩) := by rw [hL]; exact HX.out
          obtain ⟨g2, cap2, hv2, _, _, _, z1, _, _⟩ := hR.cellsAt hx
          simp only [Value.slice.injEq, Option.some.injEq, Addr.mk.injEq, and_true] at hv2
          have hg2 : g2 = g := hv2.1.symm
          subst hg2
          refine ⟨rfl, hR.c2, z1, vN', hR, (RTurn.of_below HB1.out).trans hT, ?_⟩
          rcases hF with e | e
          · exact .inl e
          · exact .inr fun k hk => Nat.le_trans HB1.out.size (e k hk)
        clear hn c2 y0 y1 y2
        have c2 := (HS.out w1 HB1.out).c2
        go_wp2_with fail
        refine HN2.out.mono ?_
        rintro e w2 ⟨rfl, d2, d1, vN', hR, hT, hF⟩
        have HR : Hid (RSt base br (.slice (some ⟨g, 0, none⟩) n cap) vN' (s.note 1 q) w2 ∧ RTurn br w w2 ∧ Fresh w.heap.size vN vN') := ⟨hR, hT, hF⟩
        clear hR hT hF c2 y3
        go_wp2
        go_ret2
        rw [HD2.out]
        exact ⟨rfl, vN', HR.out.1, HR.out.2.1, HR.out.2.2⟩
end
end Go.Proofs.YtoibdokedhbjpaaGreat
