/-
  The document's own store: Append, Touch, Mkdir.
-/
import Derived.Test.YtoibdokedhbjpaaGreatP5
namespace Go.Proofs.YtoibdokedhbjpaaGreat
open Go.RowKit Go.Shelf Go.Maps

def txOf (s : St) (p : ByteArray) : ByteArray := match wh p with | none => E | some q => s.text q
theorem txOf_size {s : St} (ok : s.Ok) (p : ByteArray) : (txOf s p).size ≤ 1048576 := by
  unfold txOf
  split
  · decide
  · unfold St.text
    split
    · rename_i e he
      have h1 := Fs.used_mem (Fs.look_mem he)
      have h2 := ok.used
      have h3 := ok.room1
      dsimp only at h1
      omega
    · decide
theorem append_write (s : St) (p x : ByteArray) : s.append p x = s.write p (txOf s p ++ x) := by
  unfold St.append St.write txOf
  cases wh p <;> rfl
section
variable {base br : Nat} {vL vN : Value} {s : St}
set_option maxRecDepth 20000 in
set_option maxHeartbeats 400000 in
theorem rappend_any (p x : ByteArray) (w : World) (h : RSt base br vL vN s w) (ok : s.Ok) (tr : Tree s) (h1 : s.now ≤ 1152921504606846976) (hp : p.size ≤ 1048577) (hx : x.size ≤ 140737488355328) :
    Calls Tryz.prog 34 #[rptr br, .string p, .string x] w fun e w' => e = .returned (.int .i64 (s.append p x).2) ∧ ∃ vL' vN', RSt base br vL' vN' (s.append p x).1 w' ∧ RTurn br w w' ∧ Fresh w.heap.size vN vN' := by
  have hts := txOf_size ok p
  have hlen := ok.len
  obtain ⟨tx, htx⟩ : ∃ tx, tx = txOf s p := ⟨_, rfl⟩
  have HT : Hid (Calls Tryz.prog 58 #[rptr br, .string p] w fun e w' => e = .returned (.string tx) ∧ Below w.heap.size w w') := by
    rw [htx]; exact rtext_any p w h (by omega) (by omega)
  rw [append_write, ← htx]
  rw [← htx] at hts
  obtain ⟨y, hy⟩ : ∃ y, y = tx ++ x := ⟨_, rfl⟩
  have hys : y.size = tx.size + x.size := by rw [hy]; exact ByteArray.size_append
  have hadd : ∀ W, (Op.stringOp .add tx x).run Tryz.prog W = .ok (.string y) W := fun W => by rw [hy]; exact run_string_add_sum W _ _ (by omega)
  rw [← hy]
  have HWr : Hid (∀ W, Below w.heap.size w W → Calls Tryz.prog 33 #[rptr br, .string p, .string y] W fun e w' => e = .returned (.int .i64 (s.write p y).2) ∧ ∃ vL' vN', RSt base br vL' vN' (s.write p y).1 w' ∧ RTurn br w w' ∧ Fresh w.heap.size vN vN') := fun W hB => by
    refine (rwrite_any p y W (h.below hB) ok tr h1 hp (by omega)).mono ?_
    rintro e w' ⟨rfl, vL', vN', hR, hT, hF⟩
    refine ⟨rfl, vL', vN', hR, (RTurn.of_below hB).trans hT, ?_⟩
    rcases hF with e | e
    · exact .inl e
    · exact .inr fun k hk => Nat.le_trans hB.size (e k hk)
  obtain ⟨res, hres⟩ : ∃ res, res = s.write p y := ⟨_, rfl⟩
  rw [← hres] at HWr ⊢
  clear h htx hy hys hres ok tr
  go_enter Tryz.func34, Tryz.ntmps34
  go_wp2_with fail
  refine HT.out.mono ?_
  rintro e w1 ⟨rfl, hb1⟩
  have HB : Hid (Below w.heap.size w w1) := hb1
  clear hb1
  go_wp2_with fail
  refine (HWr.out w1 HB.out).mono ?_
  rintro e w2 ⟨rfl, vL', vN', hR, hT, hF⟩
  have HR : Hid (RSt base br vL' vN' res.1 w2 ∧ RTurn br w w2 ∧ Fresh w.heap.size vN vN') := ⟨hR, hT, hF⟩
  clear hR hT hF
  go_wp2
  go_ret
  exact ⟨rfl, vL', vN', HR.out.1, HR.out.2.1, HR.out.2.2⟩

set_option maxRecDepth 20000 in
set_option maxHeartbeats 400000 in
theorem rtouch_any (p : ByteArray) (w : World) (h : RSt base br vL vN s w) (ok : s.Ok) (tr : Tree s) (h1 : s.now ≤ 1152921504606846976) (hp : p.size ≤ 1048577) :
    Calls Tryz.prog 38 #[rptr br, .string p] w fun e w' => e = .returned (.int .i64 (s.touch p).2) ∧ ∃ vL' vN', RSt base br vL' vN' (s.touch p).1 w' ∧ RTurn br w w' ∧ Fresh w.heap.size vN vN' := by
  have hts := txOf_size ok p
  have hlen := ok.len
  have hn0 := ok.now0
  have HW : Hid (Calls Tryz.prog 41 #[.string p] w fun e w' => e = .returned (.tuple #[.string ((wh p).getD E), .bool (wh p).isSome]) ∧ Below w.heap.size w w') := by
    have := where_any p w (by omega)
    rw [where_t] at this; exact this
  have HS : Hid (∀ W, Below w.heap.size w W → RSt base br vL vN s W) := fun W hB => h.below hB
  have HA : Hid (∀ q W, Below w.heap.size w W → Calls Tryz.prog 42 #[rptr br, .string q] W fun e w' => ∃ r, e = .returned (.int .i64 r) ∧ AtIs s.L q r ∧ W = w') := fun q W hB => rat_any q W (h.below hB) (by omega)
  obtain ⟨tx, htx⟩ : ∃ tx, tx = txOf s p := ⟨_, rfl⟩
  have HT : Hid (∀ W, Below w.heap.size w W → Calls Tryz.prog 58 #[rptr br, .string p] W fun e w' => e = .returned (.string tx) ∧ Below W.heap.size W w') := fun W hB => by
    rw [htx]; exact rtext_any p W (h.below hB) (by omega) (by omega)
  rw [← htx] at hts
  have HWr : Hid (∀ W, Below w.heap.size w W → Calls Tryz.prog 33 #[rptr br, .string p, .string tx] W fun e w' => e = .returned (.int .i64 (s.write p tx).2) ∧ ∃ vL' vN', RSt base br vL' vN' (s.write p tx).1 w' ∧ RTurn br w w' ∧ Fresh w.heap.size vN vN') := fun W hB => by
    refine (rwrite_any p tx W (h.below hB) ok tr h1 hp (by omega)).mono ?_
    rintro e w' ⟨rfl, vL', vN', hR, hT, hF⟩
    refine ⟨rfl, vL', vN', hR, (RTurn.of_below hB).trans hT, ?_⟩
    rcases hF with e | e
    · exact .inl e
    · exact .inr fun k hk => Nat.le_trans hB.size (e k hk)
  have HSt : Hid (∀ q t tm W, Below w.heap.size w W → Calls Tryz.prog 57 #[rptr br, .agg #[.string q, .string t, .int .i64 tm, .bool true]] W fun e w' => e = .returned (.tuple #[]) ∧ ∃ vL', RSt base br vL' vN { s with now := s.now + 1, L := s.L.set q ⟨t, s.now + 1, true⟩ } w' ∧ RTurn br w w') := fun q t tm W hB => by
    refine (rset_any q t tm true W (h.below hB) (by omega) tr.top hn0 (by omega)).mono ?_
    rintro e w' ⟨rfl, vL', hR, hT⟩
    exact ⟨rfl, vL', hR, (RTurn.of_below hB).trans hT⟩
  have HTr : Hid (Tree s) := tr
  -- the cases
  have HD : Hid (∀ q, wh p = some q → s.L.isDir q = false → s.touch p = s.write p tx) := fun q hq hd => by
    unfold St.touch St.write; rw [hq]; dsimp only; rw [hd, htx]; unfold txOf; rw [hq]; simp
  have HD0 : Hid (wh p = none → s.touch p = s.write p tx) := fun hq => by unfold St.touch St.write; rw [hq]
  have HD1 : Hid (∀ q o, wh p = some q → s.L.look q = some o → o.dir = true → s.touch p = ({ s with now := s.now + 1, L := s.L.set q ⟨o.text, s.now + 1, true⟩ }, 0)) := fun q o hq hl hd => by
    have he : o.text = E := HTr.out.text _ (Fs.look_mem hl) hd
    have hdd : s.L.isDir q = true := by unfold Fs.isDir; rw [hl]; exact hd
    unfold St.touch; rw [hq]; dsimp only; rw [if_pos hdd, he]
  obtain ⟨res, hres⟩ : ∃ res, res = s.write p tx := ⟨_, rfl⟩
  rw [← hres] at HWr HD HD0
  clear h htx hres ok tr
  cases hw : wh p with
  | none =>
    have HDn : Hid (s.touch p = res) := HD0.out hw
    rw [HDn.out]
    rw [hw] at HW
    dsimp only [Option.getD_none, Option.isSome_none] at HW
    clear hw HD HD0 HD1
    go_enter Tryz.func38, Tryz.ntmps38
    go_wp2_with fail
    refine HW.out.mono ?_
    rintro e w1 ⟨rfl, hb1⟩
    have HB1 : Hid (Below w.heap.size w w1) := hb1
    clear hb1
    go_wp2_with fail
    refine (HA.out _ w1 HB1.out).mono ?_
    rintro e w' ⟨r, rfl, hat, rfl⟩
    clear hat
    go_wp2_with fail
    refine (HT.out w1 HB1.out).mono ?_
    rintro e w2 ⟨rfl, hb2⟩
    have HB2 : Hid (Below w.heap.size w w2) := HB1.out.trans (hb2.mono HB1.out.size)
    clear hb2
    go_wp2_with fail
    refine (HWr.out w2 HB2.out).mono ?_
    rintro e w3 ⟨rfl, vL', vN', hR, hT, hF⟩
    have HR : Hid (RSt base br vL' vN' res.1 w3 ∧ RTurn br w w3 ∧ Fresh w.heap.size vN vN') := ⟨hR, hT, hF⟩
    clear hR hT hF
    go_wp2
    go_ret
    exact ⟨rfl, vL', vN', HR.out.1, HR.out.2.1, HR.out.2.2⟩
  | some q =>
    have HDq := HD.out q hw
    have HDo : ∀ o, s.L.look q = some o → o.dir = true → s.touch p = ({ s with now := s.now + 1, L := s.L.set q ⟨o.text, s.now + 1, true⟩ }, 0) := fun o => HD1.out q o hw
    have HQ1 : Hid (s.L.isDir q = false → s.touch p = res) := HDq
    have HQ2 : Hid (∀ o, s.L.look q = some o → o.dir = true → s.touch p = ({ s with now := s.now + 1, L := s.L.set q ⟨o.text, s.now + 1, true⟩ }, 0)) := HDo
    obtain ⟨tt, htt⟩ : ∃ tt, tt = s.touch p := ⟨_, rfl⟩
    rw [← htt] at HQ1 HQ2 ⊢
    rw [hw] at HW
    dsimp only [Option.getD_some, Option.isSome_some] at HW
    clear hw HD HD0 HD1 HDq HDo htt
    go_enter Tryz.func38, Tryz.ntmps38
    go_wp2_with fail
    refine HW.out.mono ?_
    rintro e w1 ⟨rfl, hb1⟩
    have HB1 : Hid (Below w.heap.size w w1) := hb1
    clear hb1
    go_wp2_with fail
    refine (HA.out _ w1 HB1.out).mono ?_
    rintro e w' ⟨r, rfl, hat, rfl⟩
    have c2 := (HS.out w1 HB1.out).c2
    have tail : Hid (∀ W, Below w.heap.size w W → tt = res → Calls Tryz.prog 33 #[rptr br, .string p, .string tx] W fun e w' => e = .returned (.int .i64 tt.2) ∧ ∃ vL' vN', RSt base br vL' vN' tt.1 w' ∧ RTurn br w w' ∧ Fresh w.heap.size vN vN') := fun W hB e => by rw [e]; exact HWr.out W hB
    rcases hat with ⟨rfl, hlk⟩ | ⟨i, y, rfl, hy, hlk, _⟩
    · have HE : Hid (tt = res) := HQ1.out (by unfold Fs.isDir; rw [hlk])
      clear hlk
      go_wp2_with fail
      refine (HT.out w1 HB1.out).mono ?_
      rintro e w2 ⟨rfl, hb2⟩
      have HB2 : Hid (Below w.heap.size w w2) := HB1.out.trans (hb2.mono HB1.out.size)
      clear hb2
      go_wp2_with fail
      refine (tail.out w2 HB2.out HE.out).mono ?_
      rintro e w3 ⟨rfl, vL', vN', hR, hT, hF⟩
      have HR : Hid (RSt base br vL' vN' tt.1 w3 ∧ RTurn br w w3 ∧ Fresh w.heap.size vN vN') := ⟨hR, hT, hF⟩
      clear hR hT hF
      go_wp2
      go_ret
      exact ⟨rfl, vL', vN', HR.out.1, HR.out.2.1, HR.out.2.2⟩
    · obtain ⟨g, cap, hv, hil, hg, y0, y1, y2, y3⟩ := (HS.out w1 HB1.out).cellsAt hy
      obtain ⟨ll, hll⟩ : ∃ ll, ll = s.L.length := ⟨_, rfl⟩
      rw [← hll] at hil hv
      have hii : (i : Int) < (ll : Int) := by omega
      have hi2 : (0 : Int) ≤ i := by omega
      obtain ⟨yt, ym, yd⟩ := y
      dsimp only at y0 y1 y2 y3
      cases yd with
      | true =>
        have HE : Hid (tt = ({ s with now := s.now + 1, L := s.L.set q ⟨yt, s.now + 1, true⟩ }, 0)) := HQ2.out _ hlk rfl
        have HSq : Hid (Calls Tryz.prog 57 #[rptr br, .agg #[.string q, .string yt, .int .i64 ym, .bool true]] w1 fun e w' => e = .returned (.tuple #[]) ∧ ∃ vL', RSt base br vL' vN tt.1 w' ∧ RTurn br w w') := by rw [HE.out]; exact HSt.out q yt ym w1 HB1.out
        subst hv
        clear hlk hy hll
        go_wp2_with fail
        refine HSq.out.mono ?_
        rintro e w3 ⟨rfl, vL', hR, hT⟩
        have HR : Hid (RSt base br vL' vN tt.1 w3 ∧ RTurn br w w3) := ⟨hR, hT⟩
        clear hR hT
        go_wp2
        go_ret
        exact ⟨by rw [HE.out]; rfl, vL', vN, HR.out.1, HR.out.2, .inl rfl⟩
      | false =>
        have HE : Hid (tt = res) := HQ1.out (by unfold Fs.isDir; rw [hlk])
        subst hv
        clear hlk hy hll
        go_wp2_with fail
        refine (HT.out w1 HB1.out).mono ?_
        rintro e w2 ⟨rfl, hb2⟩
        have HB2 : Hid (Below w.heap.size w w2) := HB1.out.trans (hb2.mono HB1.out.size)
        clear hb2
        go_wp2_with fail
        refine (tail.out w2 HB2.out HE.out).mono ?_
        rintro e w3 ⟨rfl, vL', vN', hR, hT, hF⟩
        have HR : Hid (RSt base br vL' vN' tt.1 w3 ∧ RTurn br w w3 ∧ Fresh w.heap.size vN vN') := ⟨hR, hT, hF⟩
        clear hR hT hF
        go_wp2
        go_ret
        exact ⟨rfl, vL', vN', HR.out.1, HR.out.2.1, HR.out.2.2⟩

set_option maxRecDepth 20000 in
set_option maxHeartbeats 400000 in
theorem rmkdir_any (p : ByteArray) (w : World) (h : RSt base br vL vN s w) (ok : s.Ok) (tr : Tree s) (h1 : s.now ≤ 1152921504606846976) (hp : p.size ≤ 1048577) :
    Calls Tryz.prog 37 #[rptr br, .string p] w fun e w' => e = .returned (.int .i64 (s.mkdir p).2) ∧ ∃ vL', RSt base br vL' vN (s.mkdir p).1 w' ∧ RTurn br w w' := by
  have hlen := ok.len
  have hn0 := ok.now0
  have HW : Hid (Calls Tryz.prog 41 #[.string p] w fun e w' => e = .returned (.tuple #[.string ((wh p).getD E), .bool (wh p).isSome]) ∧ Below w.heap.size w w') := by
    have := where_any p w (by omega)
    rw [where_t] at this; exact this
  have HS : Hid (∀ W, Below w.heap.size w W → RSt base br vL vN s W) := fun W hB => h.below hB
  have HA : Hid (∀ q W, Below w.heap.size w W → Calls Tryz.prog 42 #[rptr br, .string q] W fun e w' => ∃ r, e = .returned (.int .i64 r) ∧ AtIs s.L q r ∧ W = w') := fun q W hB => rat_any q W (h.below hB) (by omega)
  have HH : Hid (∀ q W, q.size ≤ 1100000 → Below w.heap.size w W → Calls Tryz.prog 56 #[rptr br, .string q] W fun e w' => e = .returned (.int .i64 (s.home q)) ∧ W = w') := fun q W hq hB => rhome_any q W (h.below hB) (by omega) (by omega)
  have HSt : Hid (∀ q W, Below w.heap.size w W → Calls Tryz.prog 57 #[rptr br, .agg #[.string q, .string E, .int .i64 0, .bool true]] W fun e w' => e = .returned (.tuple #[]) ∧ ∃ vL', RSt base br vL' vN { s with now := s.now + 1, L := s.L.set q ⟨E, s.now + 1, true⟩ } w' ∧ RTurn br w w') := fun q W hB => by
    refine (rset_any q E 0 true W (h.below hB) (by omega) tr.top hn0 (by omega)).mono ?_
    rintro e w' ⟨rfl, vL', hR, hT⟩
    exact ⟨rfl, vL', hR, (RTurn.of_below hB).trans hT⟩
  have HQ : Hid (∀ q, wh p = some q → q.size ≤ 1100000) := fun q hq => by
    have := (wh_some hq).1; rw [this]; have := cl_size p; omega
  have HD : Hid (s.mkdir p = match wh p with | none => (s, 1) | some q => if (s.L.look q).isSome then (s, 7) else if s.home q ≠ 0 then (s, s.home q) else if 512 ≤ s.L.length then (s, 9) else ({ s with now := s.now + 1, L := s.L.set q ⟨E, s.now + 1, true⟩ }, 0)) := rfl
  obtain ⟨res, hres⟩ : ∃ res, res = s.mkdir p := ⟨_, rfl⟩
  rw [← hres] at HD ⊢
  clear h ok tr hres
  cases hw : wh p with
  | none =>
    rw [hw] at HW HD
    have HD2 : Hid (res = (s, 1)) := HD
    clear hw HD
    go_enter Tryz.func37, Tryz.ntmps37
    go_wp2_with fail
    refine HW.out.mono ?_
    rintro e w1 ⟨rfl, hb1⟩
    go_wp2
    go_ret
    rw [HD2.out]
    exact ⟨rfl, vL, HS.out _ hb1, RTurn.of_below hb1⟩
  | some q =>
    have hqs := HQ.out q hw
    rw [hw] at HW HD
    dsimp only [Option.getD_some, Option.isSome_some] at HW HD
    obtain ⟨ho, hho⟩ : ∃ ho, ho = s.home q := ⟨_, rfl⟩
    have HHq : Hid (∀ W, Below w.heap.size w W → Calls Tryz.prog 56 #[rptr br, .string q] W fun e w' => e = .returned (.int .i64 ho) ∧ W = w') := fun W hB => by rw [hho]; exact HH.out q W hqs hB
    rw [← hho] at HD
    clear hw hho HQ
    go_enter Tryz.func37, Tryz.ntmps37
    go_wp2_with fail
    refine HW.out.mono ?_
    rintro e w1 ⟨rfl, hb1⟩
    have HB1 : Hid (Below w.heap.size w w1) := hb1
    clear hb1
    go_wp2_with fail
    refine (HA.out q w1 HB1.out).mono ?_
    rintro e w' ⟨r, rfl, hat, rfl⟩
    rcases hat with ⟨rfl, hlk⟩ | ⟨i, y, rfl, hy, hlk, _⟩
    · have HD1 : Hid (res = if ho ≠ 0 then (s, ho) else if 512 ≤ s.L.length then (s, 9) else ({ s with now := s.now + 1, L := s.L.set q ⟨E, s.now + 1, true⟩ }, 0)) := by
        have := HD.out; rw [hlk, if_neg (by simp)] at this; exact this
      clear HD hlk
      go_wp2_with fail
      refine (HHq.out w1 HB1.out).mono ?_
      rintro e w' ⟨rfl, rfl⟩
      by_cases hh0 : ho = 0
      · subst hh0
        have hln : ∃ a ll cap, vL = .slice a ll cap ∧ ll = s.L.length := by
          rcases (HS.out w1 HB1.out).row.2 with ⟨h1, h2⟩ | ⟨g, cap, cur, h1, _⟩
          · exact ⟨_, _, _, h1, h2.symm⟩
          · exact ⟨_, _, _, h1, rfl⟩
        obtain ⟨a, ll, cap, hvl, hll⟩ := hln
        have c2 := (HS.out w1 HB1.out).c2
        subst hvl
        rw [← hll] at HD1 hlen
        clear hll
        by_cases hfull : 512 ≤ ll
        · have hf2 : (512 : Int) ≤ (ll : Int) := by omega
          have HD2 : Hid (res = (s, 9)) := by rw [HD1.out, if_neg (by simp), if_pos hfull]; rfl
          clear HD1
          go_wp2
          go_ret
          rw [HD2.out]
          exact ⟨rfl, _, HS.out _ HB1.out, RTurn.of_below HB1.out⟩
        · have hf2 : ¬ (512 : Int) ≤ (ll : Int) := by omega
          have HD2 : Hid (res = ({ s with now := s.now + 1, L := s.L.set q ⟨E, s.now + 1, true⟩ }, 0)) := by rw [HD1.out, if_neg (by simp), if_neg hfull]; rfl
          clear HD1
          go_wp2_with fail
          refine (HSt.out q w1 HB1.out).mono ?_
          rintro e w3 ⟨rfl, vL', hR, hT⟩
          have HR : Hid (RSt base br vL' vN { s with now := s.now + 1, L := s.L.set q ⟨E, s.now + 1, true⟩ } w3 ∧ RTurn br w w3) := ⟨hR, hT⟩
          clear hR hT
          go_wp2
          go_ret
          rw [HD2.out]
          exact ⟨rfl, vL', HR.out.1, HR.out.2⟩
      · have hh2 : (ho != 0) = true := by simpa using hh0
        have HD2 : Hid (res = (s, ho)) := by rw [HD1.out, if_pos hh0]; rfl
        clear HD1
        go_wp2
        go_ret
        rw [HD2.out]
        exact ⟨rfl, _, HS.out _ HB1.out, RTurn.of_below HB1.out⟩
    · have hi2 : (0 : Int) ≤ i := by omega
      have HD2 : Hid (res = (s, 7)) := by have := HD.out; rw [hlk, if_pos (by simp)] at this; exact this
      clear HD hlk hy
      go_wp2
      go_ret
      rw [HD2.out]
      exact ⟨rfl, _, HS.out _ HB1.out, RTurn.of_below HB1.out⟩
end
end Go.Proofs.YtoibdokedhbjpaaGreat
