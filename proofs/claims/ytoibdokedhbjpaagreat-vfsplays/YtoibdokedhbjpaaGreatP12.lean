/-
  The document's own store: Remove.
-/
import Derived.Test.YtoibdokedhbjpaaGreatP11
namespace Go.Proofs.YtoibdokedhbjpaaGreat
open Go.RowKit Go.Shelf Go.Maps

theorem top_dir : dirB topB = topB := by
  have h : lastI topB 47 = 0 := by kernel_rfl
  unfold dirB; rw [h]; rfl
theorem del_at {L : Fs} {i : Nat} {q : ByteArray} {e : Ent} (hu : L.Uniq) (h : L[i]? = some (q, e)) : L.del q = L.take i ++ L.drop (i + 1) := by
  induction L generalizing i with
  | nil => simp at h
  | cons x t ih =>
    obtain ⟨h1, h2⟩ := List.pairwise_cons.1 hu
    unfold Fs.del at ih ⊢
    cases i with
    | zero =>
      simp at h
      subst h
      have : t.filter (fun x => decide (x.1 ≠ q)) = t := List.filter_eq_self.2 fun y hy => by
        have := h1 y hy; simp; exact fun e => this e.symm
      rw [List.filter_cons, if_neg (by simp), this]; rfl
    | succ i =>
      have h' : t[i]? = some (q, e) := by simpa using h
      have hx : x.1 ≠ q := h1 _ (List.mem_of_getElem? h')
      rw [List.filter_cons, if_pos (by simp [hx]), ih h2 h']; rfl
theorem note_swap (s : St) (k : Int) (q : ByteArray) (n : Int) (L : Fs) : St.note { s with now := n, L := L } k q = { s.note k q with now := n, L := L } := by
  unfold St.note; dsimp only; split <;> rfl
theorem sorted_len (l : List ByteArray) : (St.sorted l).length = l.length := by
  unfold St.sorted; rw [List.length_map, List.length_mergeSort, List.length_map]
theorem remove_some {s : St} {p q : ByteArray} {o : Ent} (hw : wh p = some q) (hl : s.L.look q = some o) (tr : Tree s) :
    s.remove p = if o.dir then (if q = topB ∨ s.kids q ≠ [] then (s, 9) else ({ s with now := s.now + 1, L := s.L.del q }, 0)) else ({ s.note 3 q with now := s.now + 1, L := s.L.del q }, 0) := by
  unfold St.remove
  rw [hw]; dsimp only
  rw [hl]; dsimp only
  cases hd : o.dir with
  | true => simp
  | false =>
    have hq : q ≠ topB := fun e => by
      subst e
      have := tr.home0 hl
      unfold St.home at this
      rw [top_dir, hl] at this
      dsimp only at this
      rw [hd] at this; simp at this
    simp [hq, note_swap]
section
variable {base br : Nat} {vL vN : Value} {s : St}
theorem Fresh.of_le {n m : Nat} {v v' : Value} (h : Fresh n v v') (hn : m ≤ n) : Fresh m v v' := by
  rcases h with h | h
  · exact .inl h
  · exact .inr fun g hg => Nat.le_trans hn (h g hg)
/-- Out, and what is read behind it. -/
theorem rout_more (i : Nat) (w : World) (h : RSt base br vL vN s w) (hl : s.L.length ≤ 1000) (hi' : i < s.L.length) :
    Calls Tryz.prog 59 #[rptr br, .int .i64 i] w fun e w' => e = .returned (.tuple #[]) ∧ w'.cell? ⟨br, 1, none⟩ = some (.int .i64 s.now) ∧ w'.frozen? ⟨br, 1, none⟩ = false ∧
      Hid (∃ vL', RSt base br vL' vN { s with now := s.now + 1, L := s.L.take i ++ s.L.drop (i + 1) } (w'.setCell ⟨br, 1, none⟩ (.int .i64 (s.now + 1))) ∧ RTurn br w (w'.setCell ⟨br, 1, none⟩ (.int .i64 (s.now + 1)))) := by
  refine (rout_any i w h hl hi').mono ?_
  rintro e w' ⟨rfl, vL', hR, hT⟩
  exact ⟨rfl, hR.c1, hR.fr 1, vL', hR.putNow (s.now + 1), hT.trans (RTurn.set _ _ _ _)⟩

set_option maxRecDepth 20000 in
set_option maxHeartbeats 1000000 in
theorem rremove_any (p : ByteArray) (w : World) (h : RSt base br vL vN s w) (ok : s.Ok) (tr : Tree s) (h1 : s.now ≤ 1152921504606846976) (hp : p.size ≤ 1048577) :
    Calls Tryz.prog 35 #[rptr br, .string p] w fun e w' => e = .returned (.int .i64 (s.remove p).2) ∧ ∃ vL' vN', RSt base br vL' vN' (s.remove p).1 w' ∧ RTurn br w w' ∧ Fresh w.heap.size vN vN' := by
  have hlen := ok.len
  have hn0 := ok.now0
  have HW : Hid (Calls Tryz.prog 41 #[.string p] w fun e w' => e = .returned (.tuple #[.string ((wh p).getD E), .bool (wh p).isSome]) ∧ Below w.heap.size w w') := by
    have := where_any p w (by omega)
    rw [where_t] at this; exact this
  have HA : Hid (∀ q W, Below w.heap.size w W → Calls Tryz.prog 42 #[rptr br, .string q] W fun e w' => ∃ r, e = .returned (.int .i64 r) ∧ AtIs s.L q r ∧ W = w') := fun q W hB => rat_any q W (h.below hB) (by omega)
  have HS : Hid (∀ W, Below w.heap.size w W → RSt base br vL vN s W) := fun W hB => h.below hB
  have HK : Hid (s.Ok ∧ Tree s) := ⟨ok, tr⟩
  cases hw : wh p with
  | none =>
    have HD2 : Hid (s.remove p = (s, 1)) := by unfold Hid St.remove; rw [hw]
    obtain ⟨st, hst⟩ : ∃ st, st = s.remove p := ⟨_, rfl⟩
    rw [← hst] at HD2 ⊢
    rw [hw] at HW
    clear hw hst h ok tr
    go_enter Tryz.func35, Tryz.ntmps35
    go_wp2_with fail
    refine HW.out.mono ?_
    rintro e w1 ⟨rfl, hb1⟩
    go_wp2
    go_ret
    rw [HD2.out]
    exact ⟨rfl, vL, vN, HS.out _ hb1, RTurn.of_below hb1, .inl rfl⟩
  | some q =>
    have hqs : q.size ≤ 1048578 := by have := (wh_some hw).1; rw [this]; have := cl_size p; omega
    have HQ : Hid (wh q = some q) := wh_wh hw
    have HD : Hid (∀ o, s.L.look q = some o → s.remove p = if o.dir then (if q = topB ∨ s.kids q ≠ [] then (s, 9) else ({ s with now := s.now + 1, L := s.L.del q }, 0)) else ({ s.note 3 q with now := s.now + 1, L := s.L.del q }, 0)) := fun o ho => remove_some hw ho tr
    have HD0 : Hid (s.L.look q = none → s.remove p = (s, 6)) := fun ho => by unfold St.remove; rw [hw]; dsimp only; rw [ho]
    obtain ⟨st, hst⟩ : ∃ st, st = s.remove p := ⟨_, rfl⟩
    rw [← hst] at HD HD0 ⊢
    rw [hw] at HW
    dsimp only [Option.getD_some, Option.isSome_some] at HW
    have HLs : Hid (∀ W, Below w.heap.size w W → Calls Tryz.prog 19 #[rptr br, .string q] W fun e w' => ∃ u, e = .returned (listV u (s.list q).2) ∧ Told W.heap.size w' u (s.list q).1 ∧ Below W.heap.size W w') := fun W hB => rlist_any q W (h.below hB) (by omega) (by omega) fun x hx => (ok.path x hx).2
    have HO : Hid (∀ i W, Below w.heap.size w W → i < s.L.length → Calls Tryz.prog 59 #[rptr br, .int .i64 i] W fun e w' => e = .returned (.tuple #[]) ∧ w'.cell? ⟨br, 1, none⟩ = some (.int .i64 s.now) ∧ w'.frozen? ⟨br, 1, none⟩ = false ∧
      Hid (∃ vL', RSt base br vL' vN { s with now := s.now + 1, L := s.L.take i ++ s.L.drop (i + 1) } (w'.setCell ⟨br, 1, none⟩ (.int .i64 (s.now + 1))) ∧ RTurn br W (w'.setCell ⟨br, 1, none⟩ (.int .i64 (s.now + 1))))) := fun i W hB hi => rout_more i W (h.below hB) (by omega) hi
    have HN : Hid (∀ W, Below w.heap.size w W → Calls Tryz.prog 50 #[rptr br, .int .i64 3, .string q] W fun e w' => e = .returned (.tuple #[]) ∧ ∃ vN', RSt base br vL vN' (s.note 3 q) w' ∧ RTurn br W w' ∧ Fresh W.heap.size vN vN') := fun W hB => rnote_any 3 q W (h.below hB) ok.note
    clear hw hst h ok tr
    go_enter Tryz.func35, Tryz.ntmps35
    go_wp2_with fail
    refine HW.out.mono ?_
    rintro e w1 ⟨rfl, hb1⟩
    have HB1 : Hid (Below w.heap.size w w1) := hb1
    clear hb1
    go_wp2_with fail
    refine (HA.out q w1 HB1.out).mono ?_
    rintro e w' ⟨r, rfl, hat, rfl⟩
    have c2 := (HS.out w1 HB1.out).c2
    rcases hat with ⟨rfl, h2⟩ | ⟨i, x, rfl, h2, h3, _⟩
    · have HD2 : Hid (st = (s, 6)) := HD0.out h2
      clear h2 HD HD0
      go_wp2
      go_ret
      rw [HD2.out]
      exact ⟨rfl, vL, vN, HS.out _ HB1.out, RTurn.of_below HB1.out, .inl rfl⟩
    · have HD2 := HD.out x h3
      have HX : Hid (s.L.del q = s.L.take i ++ s.L.drop (i + 1) ∧ i < s.L.length ∧ s.L.look q = some x) := ⟨del_at HK.out.1.uniq h2, (List.getElem?_eq_some_iff.1 h2).1, h3⟩
      obtain ⟨g, cap, hv, hil, hg, y0, y1, y2, y3⟩ := (HS.out w1 HB1.out).cellsAt h2
      obtain ⟨n, hn⟩ : ∃ n, n = s.L.length := ⟨_, rfl⟩
      rw [← hn] at hil hv hlen
      have HNn : Hid (n = s.L.length) := hn
      subst hv
      have hii : (i : Int) < (n : Int) := by omega
      have hi0 : ¬ (i : Int) < 0 := by omega
      obtain ⟨xt, xm, xd⟩ := x
      dsimp only at y0 y1 y2 y3 HD2
      clear h2 h3 HD HD0 hn y0 y1 y2
      cases xd with
      | false =>
        have HD3 : Hid (st = ({ s.note 3 q with now := s.now + 1, L := s.L.del q }, 0)) := HD2
        clear HD2
        have HN2 : Hid (Calls Tryz.prog 50 #[rptr br, .int .i64 3, .string q] w1 fun e w' => e = .returned (.tuple #[]) ∧
            Hid (∃ vN', Fresh w.heap.size vN vN' ∧ Calls Tryz.prog 59 #[rptr br, .int .i64 i] w' fun e w'' => e = .returned (.tuple #[]) ∧ w''.cell? ⟨br, 1, none⟩ = some (.int .i64 s.now) ∧ w''.frozen? ⟨br, 1, none⟩ = false ∧
              Hid (∃ vL', RSt base br vL' vN' st.1 (w''.setCell ⟨br, 1, none⟩ (.int .i64 (s.now + 1))) ∧ RTurn br w (w''.setCell ⟨br, 1, none⟩ (.int .i64 (s.now + 1)))))) := by
          refine (HN.out w1 HB1.out).mono ?_
          rintro e w' ⟨rfl, vN', hR, hT, hF⟩
          refine ⟨rfl, vN', hF.of_le HB1.out.size, ?_⟩
          have hL : (s.note 3 q).L = s.L := note_L s 3 q
          refine (rout_more i w' hR (by rw [hL, ← HNn.out]; omega) (by rw [hL]; exact HX.out.2.1)).mono ?_
          rintro e w'' ⟨rfl, d1, d2, vL', hR2, hT2⟩
          rw [note_now] at d1 hR2 hT2
          refine ⟨rfl, d1, d2, vL', ?_, (RTurn.of_below HB1.out).trans (hT.trans hT2)⟩
          rw [hL] at hR2
          rw [HD3.out, HX.out.1]; exact hR2
        go_wp2_with fail
        refine HN2.out.mono ?_
        rintro e w2 ⟨rfl, HO2⟩
        obtain ⟨vN', hF, HO3⟩ := HO2.out
        have HF : Hid (Fresh w.heap.size vN vN') := hF
        have HO4 : Hid (Calls Tryz.prog 59 #[rptr br, .int .i64 i] w2 fun e w'' => e = .returned (.tuple #[]) ∧ w''.cell? ⟨br, 1, none⟩ = some (.int .i64 s.now) ∧ w''.frozen? ⟨br, 1, none⟩ = false ∧
              Hid (∃ vL', RSt base br vL' vN' st.1 (w''.setCell ⟨br, 1, none⟩ (.int .i64 (s.now + 1))) ∧ RTurn br w (w''.setCell ⟨br, 1, none⟩ (.int .i64 (s.now + 1))))) := HO3
        clear hF HO3 HO2 c2 y3
        go_wp2_with fail
        refine HO4.out.mono ?_
        rintro e w3 ⟨rfl, d1, d2, HE⟩
        go_wp2
        go_ret
        obtain ⟨vL', hR, hT⟩ := HE.out
        exact ⟨by rw [HD3.out]; rfl, vL', vN', hR, hT, HF.out⟩
      | true =>
        have HD3 : Hid (st = if q = topB ∨ s.kids q ≠ [] then (s, 9) else ({ s with now := s.now + 1, L := s.L.del q }, 0)) := HD2
        clear HD2
        have HL2 : Hid (Calls Tryz.prog 19 #[rptr br, .string q] w1 fun e w' => ∃ a c, e = .returned (.tuple #[.slice a (s.kids q).length c, .int .i64 0]) ∧ Below w.heap.size w w') := by
          refine (HLs.out w1 HB1.out).mono ?_
          rintro e w' ⟨u, rfl, hT, hB⟩
          have e1 : s.list q = (St.sorted (s.kids q), 0) := by
            unfold St.list; rw [HQ.out]; dsimp only; rw [HX.out.2.2]; rfl
          rw [e1] at hT ⊢
          obtain ⟨a, c, hv⟩ := owns_slice hT
          subst hv
          rw [sorted_len]
          exact ⟨a, c, rfl, HB1.out.trans (hB.mono HB1.out.size)⟩
        obtain ⟨kn, hkn⟩ : ∃ kn, kn = (s.kids q).length := ⟨_, rfl⟩
        rw [← hkn] at HL2
        have hkl : kn ≤ 512 := by
          rw [hkn]; unfold St.kids; rw [List.length_map]; exact Nat.le_trans (List.length_filter_le _ _) (by rw [← HNn.out]; omega)
        have HKn : Hid (kn = (s.kids q).length) := hkn
        clear hkn
        by_cases hfull : q = topB ∨ 0 < kn
        · have HD4 : Hid (st = (s, 9)) := by
            unfold Hid
            rw [HD3.out]
            refine if_pos ?_
            rcases hfull with h | h
            · exact .inl h
            · exact .inr fun e => by have := HKn.out; rw [e] at this; simp at this; omega
          by_cases htop : q = topB
          · subst htop
            clear hfull
            go_wp2_with fail
            refine HL2.out.mono ?_
            rintro e w2 ⟨a, c, rfl, hB⟩
            go_wp2
            go_ret
            rw [HD4.out]
            exact ⟨rfl, _, vN, HS.out _ hB, RTurn.of_below hB, .inl rfl⟩
          · have hk0 : 0 < kn := by rcases hfull with h | h; exact absurd h htop; exact h
            have hki : (0 : Int) < (kn : Int) := by omega
            have t0 : ¬ q.toList = [47] := fun e => htop (bl_inj (by show q.data.toList = [47]; rw [← Lib.toList_data q, e]))
            have t1 : (q.toList == [47]) = false := by simpa using t0
            clear hfull htop
            go_wp2_with fail
            refine HL2.out.mono ?_
            rintro e w2 ⟨a, c, rfl, hB⟩
            go_wp2
            go_ret
            rw [HD4.out]
            exact ⟨rfl, _, vN, HS.out _ hB, RTurn.of_below hB, .inl rfl⟩
        · have htop : q ≠ topB := fun e => hfull (.inl e)
          have hk0 : kn = 0 := by omega
          have HD4 : Hid (st = ({ s with now := s.now + 1, L := s.L.del q }, 0)) := by
            unfold Hid
            rw [HD3.out]
            refine if_neg ?_
            rintro (h | h)
            · exact htop h
            · exact h (List.length_eq_zero_iff.1 (by rw [← HKn.out]; exact hk0))
          have t0 : ¬ q.toList = [47] := fun e => htop (bl_inj (by show q.data.toList = [47]; rw [← Lib.toList_data q, e]))
          have t1 : (q.toList == [47]) = false := by simpa using t0
          subst hk0
          clear hfull htop
          go_wp2_with fail
          refine HL2.out.mono ?_
          rintro e w2 ⟨a, c, rfl, hB⟩
          have HB2 : Hid (Below w.heap.size w w2) := hB
          clear hB c2 y3
          go_wp2_with fail
          refine (HO.out i w2 HB2.out HX.out.2.1).mono ?_
          rintro e w3 ⟨rfl, d1, d2, HE⟩
          go_wp2
          go_ret
          obtain ⟨vL', hR, hT⟩ := HE.out
          rw [HD4.out]
          refine ⟨rfl, vL', vN, ?_, (RTurn.of_below HB2.out).trans hT, .inl rfl⟩
          rw [HX.out.1]; exact hR
end
end Go.Proofs.YtoibdokedhbjpaaGreat
