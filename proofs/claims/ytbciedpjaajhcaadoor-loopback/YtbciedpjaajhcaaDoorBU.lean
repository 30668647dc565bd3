/-
  What add, part and end do to the builder's state.
-/
import Derived.Test.YtbciedpjaajhcaaDoorBT3
import Derived.Test.YtbciedpjaajhcaaDoorBW1
import Derived.Test.YtbciedpjaajhcaaDoorBW2
import Derived.Test.YtbciedpjaajhcaaDoorBW3
import Derived.Test.YtbciedpjaajhcaaDoorBW4
import Derived.Test.YtbciedpjaajhcaaDoorBW6
namespace Go.Proofs.YtbciedpjaajhcaaDoor
open Go.RowKit Go.Shelf
open Ex (Fr)

def Fm.nk : Fm → Nat
  | .cn _ _ _ _ _ ks => ks.length
  | .fr _ _ _ ks => ks.length
def Fm.nb : Fm → Nat
  | .cn _ bs _ _ _ _ => bs.length
  | .fr _ _ _ _ => 0
/-- No list of it is longer. -/
def Sx.Le (s : Sx) (N : Nat) : Prop := s.done.length ≤ N ∧ ∀ f ∈ s.op, f.nk ≤ N ∧ f.nb ≤ N
theorem last_cell {xs c : List Value} {n k : Nat} (h : xs.length = n * k) (j : Nat) : (xs ++ c)[n * k + j]? = c[j]? := by
  rw [List.getElem?_append_right (by omega), h, Nat.add_sub_cancel_left]
theorem last_cell0 {xs c : List Value} {n k : Nat} (h : xs.length = n * k) : (xs ++ c)[n * k]? = c[0]? := last_cell h 0

/-- What is known of the innermost block in memory. -/
theorem inner_at {base b : Nat} {w : World} {done : List Nd} {fs : List Fm} {f : Fm} {vD vO : Value} {G : List (List Value × List Nat)} (h : StA base b w ⟨done, fs ++ [f]⟩ vD vO G) :
    ∃ G0 g gO cO cur, G = G0 ++ [g] ∧ FrOK base (· ∈ hots b vD vO G) w G0 fs ∧ FmAt base (· ∈ hots b vD vO G) w (31 - fs.length) g.1 g.2 f ∧ vO = .slice (some ⟨gO, 0, none⟩) (fs.length + 1) cO ∧ fs.length + 1 ≤ cO ∧ w.heap[gO]? = some (.cells cur 47 (0, 0)) ∧ fs.length ≤ 31 ∧ (∀ (j : Nat) (u : Value), g.1[j]? = some u → cur[fs.length * 8 + j]? = some u) := by
  obtain ⟨G0, g, rfl, hfr, hfm⟩ := h.frs.unsnoc
  have h9 := h.rowO
  rw [map_snoc1] at h9
  have hln : (⟨done, fs ++ [f]⟩ : Sx).op.length = fs.length + 1 := by simp
  have hfew := h.few
  rw [hln] at h9 hfew
  obtain ⟨gO, cO, cur, hvO, hcO, _, hcur, hi⟩ := row_arr h9
  have hl : (G0.map (·.1)).flatten.length = fs.length * 8 := by rw [flat_len _ hfr.len, List.length_map, hfr.1]
  exact ⟨G0, g, gO, cO, cur, rfl, hfr, hfm, hvO, hcO, hcur, by omega, fun j u hj => hi _ u (by rw [last_cell hl j]; exact hj)⟩

def AddPost (base b : Nat) (w : World) (s' : Sx) (e : Ending) (w' : World) : Prop := e = .returned (.tuple #[]) ∧ St base b w' s' ∧ Below base w w'
theorem add_any {base b : Nat} {w : World} {s : Sx} {vD vO : Value} {G : List (List Value × List Nat)} (h : StA base b w s vD vO G) (hN : s.Le 1000000) {k : Int} {l : Lz} {vB vN : Value} {li : ByteArray} {vK : Value} {t : Nd} (hsl : IsS vB ∧ IsS vN ∧ IsS vK) (hc : NdAt (· ∈ hots b vD vO G) w (32 - s.op.length) (ndC k l vB vN li vK) t) :
    Calls Tryd.prog 52 #[.pointer (some ⟨b, 0, none⟩), .agg #[.int .i64 k, .string l.text, .int .i64 l.at_, .bool l.cmd, vB, vN, .string li, vK]] w (AddPost base b w (Sx.addTo s.done s.op t)) := by
  have hbb := h.ge b (by simp)
  have hb : base ≤ w.heap.size := by omega
  obtain ⟨done, op⟩ := s
  rcases List.eq_nil_or_concat op with rfl | ⟨fs, f, rfl⟩
  · obtain ⟨aO, cO, hvO⟩ := V.owns_slice h.rowO
    obtain ⟨css, hr, h2⟩ := h.rowD
    have hblk := h.blk
    rw [hvO] at hblk
    refine (add_done base b done.length vD aO cO css.flatten k l vB vN li vK hsl w hb hblk hr hN.1).mono fun e w' ⟨h1, hg⟩ => ⟨h1, ?_, ?_⟩
    · rw [sx_add_nil]
      have hg' : Grew base b 0 #[vD, vO] 50 vD 47 8 done.length css.flatten (ndC k l vB vN li vK) w w' := by rw [hvO]; exact hg
      exact st_add_done h h2 hc hg'
    · obtain ⟨g, c', _, _, _, hf, _⟩ := hg
      exact hf.to_below hb (fun x hx => by
        rcases hx with rfl | hx
        · exact hbb.1
        · exact (h.ge x (by simp [mem_ob, hx])).1)
  · rw [List.concat_eq_append] at h hN hc ⊢
    obtain ⟨G0, g, gO, cO, cur, rfl, hfr, hfm, hvO, hcO, hcur, h31, hi⟩ := inner_at h
    have hroom : 32 - (⟨done, fs ++ [f]⟩ : Sx).op.length = 31 - fs.length := by simp
    rw [hroom] at hc
    have hNf := hN.2 f (by simp)
    have hblk := h.blk
    rw [hvO] at hblk
    have hOm : gO ∈ hots b vD vO (G0 ++ [g]) := by rw [hvO]; simp [ob_slice]
    cases f with
    | cn l0 bs wd t0 a ks =>
      obtain ⟨vB', vK', css, q1, q2, q3, ⟨cks, q4, q5⟩, q6⟩ := hfm
      obtain ⟨g1, g2⟩ := g
      simp only at q1 q6
      subst q1 q6
      obtain ⟨gB, cB, curB, hvB, hcB, _, hcurB, hiB⟩ := row_arr q2
      have hlB : css.flatten.length = bs.length * 4 := by rw [flat_len css (bk_len q3), q3.length]
      refine (add_cn base b gO fs.length cO gB bs.length cB ks.length vD vK' cur curB cks.flatten k l vB vN li vK hsl w hb hblk hcur (hi 0 _ rfl) (by have := hi 4 vB' rfl; rw [hvB] at this; exact this) hcurB (hiB _ _ (by rw [last_cell hlB 3]; rfl)) q4 (by omega) hNf.2 hNf.1).mono fun e w' ⟨h1, hg⟩ => ⟨h1, ?_, ?_⟩
      · rw [sx_add_snoc]
        exact st_add_cn h hfr hvB hcurB q2 q3 q5 hc hg
      · obtain ⟨g, c', _, _, _, hf, _⟩ := hg
        exact hf.to_below hb (fun x hx => by
          rcases hx with rfl | hx
          · exact (h.ge x (by rw [hvB]; simp [ob_slice])).1
          · exact (h.ge x (by simp [mem_ob, hx])).1)
    | fr l0 ns li0 ks =>
      obtain ⟨vN', vK', q1, q2, ⟨cks, q4, q5⟩, q6⟩ := hfm
      obtain ⟨g1, g2⟩ := g
      simp only at q1 q6
      subst q1 q6
      have hne : vK'.ownBlock ≠ some gO := fun e => by
        have hnd := h.nd
        have e0 : hots b vD vO (G0 ++ [(ndC 3 l0 nilS vN' li0 vK', ob vK')]) = (b :: (ob vD ++ (ob vO ++ fl2 G0))) ++ ob vK' := by simp [hots]
        rw [e0] at hnd
        exact nd_apart hnd (x := gO) (by rw [hvO]; simp [ob_slice]) (mem_ob.2 e)
      refine (add_fr base b gO fs.length cO ks.length vD vK' cur cks.flatten k l vB vN li vK hsl w hb hblk hcur (hi 0 _ rfl) (hi 7 _ rfl) q4 hne (by omega) hNf.1).mono fun e w' ⟨h1, hg⟩ => ⟨h1, ?_, ?_⟩
      · rw [sx_add_snoc]
        exact st_add_fr h hfr hvO hcur q2 q5 hc hg
      · obtain ⟨g, c', _, _, _, hf, _⟩ := hg
        exact hf.to_below hb (fun x hx => by
          rcases hx with rfl | hx
          · exact (h.ge x hOm).1
          · exact (h.ge x (by simp [mem_ob, hx])).1)

/-- What a reader of a line answers: an error, or nothing and the next state. -/
def StepPost (base b : Nat) (w : World) (r : Rs) (e : Ending) (w' : World) : Prop :=
  match r with
  | .bad k => e = .returned (.int .i64 k) ∧ Below w.heap.size w w'
  | .ok s' => e = .returned (.int .i64 0) ∧ St base b w' s' ∧ Below base w w'
theorem badPost {base b : Nat} {w : World} (_hb : base ≤ w.heap.size) {e : Ending} {w' : World} (h : PartBad w e w') : StepPost base b w (.bad 3) e w' := h
theorem part_any {base b : Nat} {w : World} {s : Sx} {vD vO : Value} {G : List (List Value × List Nat)} (h : StA base b w s vD vO G) (hN : s.Le 1000000) (x : Lz) (wd t : ByteArray) :
    Calls Tryd.prog 31 #[.pointer (some ⟨b, 0, none⟩), lnV x, .string wd, .string t] w (StepPost base b w (match s.op.getLast? with
    | some (.cn l bs w0 t0 a0 ks) => if w0 = kElse ∨ (wd = kElse ∧ t ≠ E) then .bad 3 else .ok ⟨s.done, s.op.dropLast ++ [.cn l (bs ++ [.mk w0 t0 a0 ks]) wd t x.at_ []]⟩
    | _ => .bad 3)) := by
  have hbb := h.ge b (by simp)
  have hb : base ≤ w.heap.size := by omega
  obtain ⟨done, op⟩ := s
  rcases List.eq_nil_or_concat op with rfl | ⟨fs, f, rfl⟩
  · obtain ⟨aO, cO, hvO⟩ := V.owns_slice h.rowO
    have hblk := h.blk
    rw [hvO] at hblk
    exact (part_none b x wd t w aO cO vD hblk).mono fun e w' h => badPost hb h
  · rw [List.concat_eq_append] at h hN ⊢
    obtain ⟨G0, g, gO, cO, cur, rfl, hfr, hfm, hvO, hcO, hcur, h31, hi⟩ := inner_at h
    have hNf := hN.2 f (by simp)
    have hblk := h.blk
    rw [hvO] at hblk
    have hgl : (⟨done, fs ++ [f]⟩ : Sx).op.getLast? = some f := by simp
    have hdl : (⟨done, fs ++ [f]⟩ : Sx).op.dropLast = fs := by simp
    rw [hgl, hdl]
    cases f with
    | cn l0 bs w0 t0 a0 ks =>
      obtain ⟨vB', vK', css, q1, q2, q3, q4, q6⟩ := hfm
      obtain ⟨g1, g2⟩ := g
      simp only at q1 q6
      subst q1 q6
      obtain ⟨gB, cB, curB, hvB, hcB, _, hcurB, hiB⟩ := row_arr q2
      have hlB : css.flatten.length = bs.length * 4 := by rw [flat_len css (bk_len q3), q3.length]
      have hkB : cur[fs.length * 8 + 4]? = some (.slice (some ⟨gB, 0, none⟩) (bs.length + 1) cB) := by have := hi 4 vB' rfl; rw [hvB] at this; exact this
      have hwl : curB[bs.length * 4]? = some (.string w0) := hiB _ _ (by rw [last_cell0 hlB]; rfl)
      dsimp only
      by_cases h1 : w0 = kElse
      · rw [if_pos (.inl h1)]
        exact (part_else b gO fs.length cO gB bs.length cB vD cur curB w0 x wd t w (by omega) hNf.2 hblk hcur (hi 0 _ rfl) hkB hcurB hwl h1).mono fun e w' h => badPost hb h
      · by_cases h2 : wd = kElse ∧ t ≠ E
        · rw [if_pos (.inr h2)]
          exact (part_text b gO fs.length cO gB bs.length cB vD cur curB w0 x wd t w (by omega) hNf.2 hblk hcur (hi 0 _ rfl) hkB hcurB hwl h1 h2.1 h2.2).mono fun e w' h => badPost hb h
        · rw [if_neg (fun e => e.elim h1 h2)]
          have hok : (¬ wd = kElse) ∨ (wd = kElse ∧ t = E) := by
            by_cases h3 : wd = kElse
            · exact .inr ⟨h3, Classical.byContradiction fun h4 => h2 ⟨h3, h4⟩⟩
            · exact .inl h3
          have q2' := q2
          rw [hvB] at q2'
          refine (part_ok base b gO fs.length cO gB bs.length cB vD cur curB w0 x wd t w _ hb (by omega) hNf.2 hblk hcur (hi 0 _ rfl) hkB hcurB hwl q2' h1 hok).mono fun e w' ⟨h1, hg⟩ => ⟨h1, ?_, ?_⟩
          · rw [← hvB] at hg
            exact st_part h hfr hvO hcur q3 q4 hg
          · obtain ⟨g, c', _, _, _, hf, _⟩ := hg
            exact hf.to_below hb (fun y hy => by
              rcases hy with rfl | hy
              · exact (h.ge y (by rw [hvO]; simp [ob_slice])).1
              · rw [← hvB] at hy
                exact (h.ge y (by simp [mem_ob, hy])).1)
    | fr l0 ns li0 ks =>
      obtain ⟨vN', vK', q1, q2, q3, q6⟩ := hfm
      exact (part_fr b x wd t w gO fs.length cO vD cur (by omega) hblk hcur (hi 0 _ (by rw [q1]; rfl))).mono fun e w' h => badPost hb h
/-- What closing the innermost block comes to. -/
def Sx.endR (s : Sx) (t : ByteArray) (isC : Bool) : Rs := match s.op.getLast?, isC with
    | some (.cn l bs w0 t0 a0 ks), true => if t ≠ E then .bad 3 else .ok (Sx.addTo s.done s.op.dropLast (Fm.cn l bs w0 t0 a0 ks).close)
    | some (.fr l ns li ks), false => if t ≠ E then .bad 3 else .ok (Sx.addTo s.done s.op.dropLast (Fm.fr l ns li ks).close)
    | _, _ => .bad 3
/-- What end does, at the kind of a condition, or of a loop. -/
theorem end_any {base b : Nat} {w : World} {s : Sx} {vD vO : Value} {G : List (List Value × List Nat)} (h : StA base b w s vD vO G) (hN : s.Le 1000000) (t : ByteArray) (isC : Bool) (kd : Int) (hkd : kd = if isC then 2 else 3) :
    Calls Tryd.prog 51 #[.pointer (some ⟨b, 0, none⟩), .int .i64 kd, .string t] w (StepPost base b w (s.endR t isC)) := by
  unfold Sx.endR
  have hbb := h.ge b (by simp)
  have hb : base ≤ w.heap.size := by omega
  obtain ⟨done, op⟩ := s
  rcases List.eq_nil_or_concat op with rfl | ⟨fs, f, rfl⟩
  · obtain ⟨aO, cO, hvO⟩ := V.owns_slice h.rowO
    have hblk := h.blk
    rw [hvO] at hblk
    exact (end_none b _ t w aO cO vD hblk).mono fun e w' h => badPost hb h
  · rw [List.concat_eq_append] at h hN ⊢
    obtain ⟨G0, g, gO, cO, cur, rfl, hfr, hfm, hvO, hcO, hcur, h31, hi⟩ := inner_at h
    have hblk := h.blk
    rw [hvO] at hblk
    have hgl : (⟨done, fs ++ [f]⟩ : Sx).op.getLast? = some f := by simp
    have hdl : (⟨done, fs ++ [f]⟩ : Sx).op.dropLast = fs := by simp
    rw [hgl, hdl]
    have hNs : Sx.Le ⟨done, fs⟩ 1000000 := ⟨hN.1, fun f hf => hN.2 f (by simp [hf])⟩
    have hgo : ∀ (kd : Int) (l : Lz) (vB vN : Value) (li : ByteArray) (vK : Value), g.1 = ndC kd l vB vN li vK → IsS vB ∧ IsS vN ∧ IsS vK → Calls Tryd.prog 51 #[.pointer (some ⟨b, 0, none⟩), .int .i64 kd, .string E] w (StepPost base b w (.ok (Sx.addTo done fs f.close))) := by
      intro kd l vB vN li vK hg1 hsl
      refine (end_ok b gO fs.length cO vD cur kd l vB vN li vK w (fun w' => St base b w' (Sx.addTo done fs f.close) ∧ Below base w w') (by omega) hcO hblk hcur (fun j u hj => hi j u (by rw [hg1]; exact hj)) hsl ?_).mono fun e w' h => h
      intro W hW hfW
      obtain ⟨p1, p2⟩ := st_pop h hfr hfm hvO hW hfW
      rw [hg1] at p2
      refine (add_any p1 hNs hsl p2).mono fun e w' hp => ⟨hp.1, hp.2.1, ?_⟩
      exact (hfW.to_below hb (fun x e => by rw [e]; exact hbb.1)).trans hp.2.2
    cases f with
    | cn l0 bs w0 t0 a0 ks =>
      obtain ⟨vB', vK', css, q1, q2, q3, q4, q6⟩ := hfm
      have hk : cur[fs.length * 8]? = some (.int .i64 2) := hi 0 _ (by rw [q1]; rfl)
      cases isC with
      | false =>
        obtain rfl : kd = 3 := hkd
        exact (end_kind b _ t w gO fs.length cO vD cur 2 (by omega) hblk hcur hk (by decide)).mono fun e w' h => badPost hb h
      | true =>
        obtain rfl : kd = 2 := hkd
        dsimp only
        by_cases ht : t = E
        · rw [if_neg (fun e => e ht), ht]
          exact hgo 2 l0 vB' nilS E nilS q1 ⟨V.owns_slice q2 |>.elim fun a h => h.elim fun c h => ⟨a, _, c, h⟩, ⟨_, _, _, rfl⟩, ⟨_, _, _, rfl⟩⟩
        · rw [if_pos ht]
          exact (end_text b _ t w gO fs.length cO vD cur (by omega) hblk hcur hk ht).mono fun e w' h => badPost hb h
    | fr l0 ns li0 ks =>
      obtain ⟨vN', vK', q1, q2, ⟨cks, q3, q4⟩, q6⟩ := hfm
      have hk : cur[fs.length * 8]? = some (.int .i64 3) := hi 0 _ (by rw [q1]; rfl)
      cases isC with
      | true =>
        obtain rfl : kd = 2 := hkd
        exact (end_kind b _ t w gO fs.length cO vD cur 3 (by omega) hblk hcur hk (by decide)).mono fun e w' h => badPost hb h
      | false =>
        obtain rfl : kd = 3 := hkd
        dsimp only
        by_cases ht : t = E
        · rw [if_neg (fun e => e ht), ht]
          exact hgo 3 l0 nilS vN' li0 vK' q1 ⟨⟨_, _, _, rfl⟩, q2.isS, V.owns_slice q3 |>.elim fun a h => h.elim fun c h => ⟨a, _, c, h⟩⟩
        · rw [if_pos ht]
          exact (end_text b _ t w gO fs.length cO vD cur (by omega) hblk hcur hk ht).mono fun e w' h => badPost hb h
end Go.Proofs.YtbciedpjaajhcaaDoor
