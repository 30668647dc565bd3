/-
  The document's own reader: a set that is turned, and one that does not end.
-/
import Derived.Test.YtmmhajlfbjjocaaGreatR1
namespace Go.Proofs.YtmmhajlfbjjocaaGreat
open Go.RowKit Go.Shelf RxSem

set_option maxRecDepth 20000 in
set_option maxHeartbeats 2000000 in
theorem rset_turn (b : Nat) (s : ByteArray) (i o : Nat) (w : World) (h : Par b s i o 0 0 w) (hs : s.size ≤ 1000) (_hi : i ≤ s.size) (_ho : o ≤ 100) (hlt : i < s.size) (h94 : s[i] = 94) : Calls Tryz.prog 60 #[.pointer (some ⟨b, 0, none⟩)] w (SetPost b s o w (setR ((bl s).drop i))) := by
  obtain ⟨wa, hwa, hBa, hSa, hka⟩ := one_box w (.cells #[.int .i64 0, .slice none 0 0, .slice none 0 0] 35)
  have HPa : Hid (Par b s i o 0 0 wa) := h.below hBa
  have HPeek : Hid (∀ (j : Nat) (hj : j < s.size) W, Par b s j o 0 0 W → Calls Tryz.prog 17 #[.pointer (some ⟨b, 0, none⟩)] W fun e w' => e = .returned (.tuple #[.int .u8 (s[j].toNat : Int), .bool true]) ∧ Par b s j o 0 0 w' ∧ Below W.heap.size W w') := fun j hj W hP => peek_some b s j o 0 W hP hj
  have HPeekN : Hid (∀ j W, s.size ≤ j → Par b s j o 0 0 W → Calls Tryz.prog 17 #[.pointer (some ⟨b, 0, none⟩)] W fun e w' => e = .returned (.tuple #[.int .u8 0, .bool false]) ∧ Par b s j o 0 0 w' ∧ Below W.heap.size W w') := fun j W hj hP => peek_none b s j o 0 0 W hP (.inl hj)
  have HFail : Hid (∀ j (y a : Int) W, Par b s j o 0 0 W → Calls Tryz.prog 18 #[.pointer (some ⟨b, 0, none⟩), .int .i64 y, .int .i64 a] W fun e w' => e = .returned (.tuple #[]) ∧ Par b s j o y a w' ∧ Wrote b W w') := fun j y a W hP => (fails_any b s j o 0 0 y a W hP).mono fun e w' h => by simpa using h
  have HBy : Hid (∀ W, Calls Tryz.prog 58 #[.bool false] W fun e w' => e = .returned (.slice (some ⟨W.heap.size, 0, none⟩) 256 256) ∧ Br W.heap.size (List.replicate 256 false) w' ∧ Below W.heap.size W w') := rbytes_any false
  have c0 : wa.cell? ⟨b, 0, none⟩ = some (.string s) := HPa.out.cell 0
  have c1 : wa.cell? ⟨b, 1, none⟩ = some (.int .i64 (i : Int)) := HPa.out.cell 1
  have fa := HPa.out.frozen
  have hbl := h.lt
  have HX : Hid (Below w.heap.size w wa ∧ wa.heap.size = w.heap.size + 1 ∧ wa.heap[w.heap.size]? = some (.cells #[.int .i64 0, .slice none 0 0, .slice none 0 0] 35 (0, 0)) ∧ b < w.heap.size) := ⟨hBa, hSa, hka, hbl⟩
  clear h hBa hSa hka hbl
  have hl2 : (i : Int) < (s.size : Int) := by omega
  have hcn : s[i].toNat = 94 := by rw [h94]; rfl
  have HR : Hid (setR ((bl s).drop i) = turnR true (setL ((bl s).drop (i + 1)) true fun _ => false)) := by
    rw [fi_drop hlt, h94]; exact setR_turn _
  clear h94
  go_enter Tryz.func60, Tryz.ntmps60
  rw [hwa] at c0 c1 fa
  go_wp2_with fail
  go_quiet (fail)
  go_wp2_with fail
  rw [← hwa]
  clear hwa c0 c1 fa
  obtain ⟨Y, hY⟩ : ∃ Y, Y = ((wa.drewN nq).setCell ⟨b, 1, none⟩ (.int .i64 ((i : Int) + 1))) := ⟨_, rfl⟩
  have HY : Hid (Par b s (i + 1) o 0 0 Y ∧ Wrote b wa Y) := by rw [hY]; exact ⟨(Par.below HPa.out (below_drewN (Below.refl _ _) _)).at (i + 1) _ (by simp), ((Wrote.refl b wa).drewN _).set _⟩
  rw [← hY]
  clear hY
  refine (HBy.out Y).mono ?_
  rintro e w1 ⟨rfl, h1, h2⟩
  obtain ⟨g, hg⟩ : ∃ g, g = Y.heap.size := ⟨_, rfl⟩
  rw [← hg] at h1 ⊢
  have H1 : Hid (SI b s o (i + 1) g (List.replicate 256 false) w w1) := by
    obtain ⟨x1, x2, x3, x4⟩ := HX.out
    obtain ⟨y1, y2⟩ := HY.out
    have hyw := y2.size
    refine ⟨y1.below h2, h1, ?_, ?_, by omega, x4⟩
    · rw [h2.block _ (by omega), y2.block _ (by omega) (by omega)]; exact x3
    · exact ⟨(h2.os.trans y2.os).trans x1.os, (h2.tape.trans y2.tape).trans x1.tape, (h2.output.trans y2.output).trans x1.output, by have := h2.size; omega, fun j hj hb => by rw [h2.block j (by omega), y2.block j (by omega) hb]; exact x1.block j hj⟩
  clear h1 h2 hg HY HX HBy HPa
  obtain ⟨B, hB⟩ : ∃ B, B = w.heap.size := ⟨_, rfl⟩
  rw [← hB]
  have HBw : Hid (B = w.heap.size) := hB
  clear hB
  go_wp2_with fail
  go_loopw [5] (fun vf wr => ∃ (j : Nat) (fi : Bool) (l : List Bool) (f : UInt8 → Bool), j ≤ s.size ∧ vf = .bool fi ∧ Hid (SI b s o j g l w wr ∧ Bits l f ∧ setL ((bl s).drop (i + 1)) true (fun _ => false) = setL ((bl s).drop j) fi f)) (fun _ wr => s.size - pAt b wr)
  case atStart => exact ⟨i + 1, true, _, _, by omega, rfl, H1.out, bits_rep false, rfl⟩
  case round =>
    clear H1
    obtain ⟨j, fi, l, f, hj, rfl, HI⟩ := hrel
    have HAt : Hid (pAt b wr = j) := pAt_eq HI.out.1.par
    by_cases hjs : j < s.size
    · have hj2 : (j : Int) < (s.size : Int) := by omega
      have hj9 : j ≤ 1000 := by omega
      obtain ⟨c, hc⟩ : ∃ c, c = s[j] := ⟨_, rfl⟩
      have HD : Hid ((bl s).drop j = c :: (bl s).drop (j + 1) ∧ c = s[j]) := ⟨by rw [hc]; exact fi_drop hjs, hc⟩
      go_wp2_with fail
      refine (HPeek.out j hjs wr HI.out.1.par).mono ?_
      rintro e w2 ⟨rfl, _, h2⟩
      have H2 : Hid (SI b s o j g l w w2 ∧ Bits l f ∧ setL ((bl s).drop (i + 1)) true (fun _ => false) = setL ((bl s).drop j) fi f) := ⟨HI.out.1.below h2, HI.out.2⟩
      clear h2 HI
      have d0 : w2.cell? ⟨b, 0, none⟩ = some (.string s) := H2.out.1.par.cell 0
      have d1 : w2.cell? ⟨b, 1, none⟩ = some (.int .i64 (j : Int)) := H2.out.1.par.cell 1
      have fz := H2.out.1.par.frozen
      have gz := H2.out.1.br.frozen
      have hgl := H2.out.1.br.lt
      by_cases hA : c = 93 ∧ fi = false
      · have hcn : s[j].toNat = 93 := by rw [← hc, hA.1]; rfl
        have hfi := hA.2
        subst hfi
        have HS : Hid (setL ((bl s).drop (i + 1)) true (fun _ => false) = .inl (f, (bl s).drop (j + 1))) := by
          show _ = _
          rw [H2.out.2.2, HD.out.1, setL_stop hA]
        have H3 : Hid (SI b s o (j + 1) g l w (w2.setCell ⟨b, 1, none⟩ (.int .i64 ((j : Int) + 1)))) := H2.out.1.at (j + 1) _ (by simp)
        clear hA hc
        go_wp2_with fail
        go_loopw [10] (fun vi wr => ∃ k : Nat, k ≤ 256 ∧ vi = .int .i64 (k : Int) ∧ Hid (SI b s o (j + 1) g (flipL l k) w wr)) (fun vi _ => 256 - (intOf vi).toNat)
        case atStart => exact ⟨0, by omega, rfl, by simpa [flipL] using H3⟩
        case round =>
          clear H3 d0 d1 fz gz hgl
          obtain ⟨k, hk, rfl, HK⟩ := hrel
          by_cases hk2 : k < 256
          · have hk3 : (k : Int) < 256 := by omega
            have hL := H2.out.2.1.1
            obtain ⟨x, hx⟩ : ∃ x, l[k]? = some x := ⟨l[k]'(by omega), List.getElem?_eq_getElem (by omega)⟩
            have e0 := HK.out.br.cell k x (by rw [flip_get l k (by omega)]; exact hx)
            have gz := HK.out.br.frozen
            have hgl := HK.out.br.lt
            have HN : Hid (SI b s o (j + 1) g (flipL l (k + 1)) w (wr.setCell ⟨g, k, none⟩ (.bool (!x)))) := by
              have := HK.out.put k (!x)
              rw [flip_step l k x hx] at this
              exact this
            have hnot : ∀ (x : Bool) (w : World), (Op.unary .not (.bool x)).run Tryz.prog w = .ok (.bool (!x)) w := fun _ _ => rfl
            clear hL hx
            go_wp2_with fail
            go_roundw
            case rel => exact ⟨k + 1, by omega, by go_num, HN⟩
            case measure => simp [intOf]; omega
          · have hk3 : ¬ (k : Int) < 256 := by omega
            have HZ : Hid (SI b s o (j + 1) g (flipL l 256) w wr) := by
              have : k = 256 := by omega
              rw [← this]; exact HK.out
            have hbx : wr.heap[B]? = some (.cells #[.int .i64 0, .slice none 0 0, .slice none 0 0] 35 (0, 0)) := by rw [HBw.out]; exact HZ.out.box
            have fB : ∀ q, wr.frozen? ⟨B, q, none⟩ = false := fun q => by simp [World.frozen?, hbx]
            obtain ⟨z0, z1, z2⟩ := node_cells hbx
            have hBl := (Array.getElem?_eq_some_iff.1 hbx).1
            clear hbx
            go_wp2_with fail
            obtain ⟨Y, hY, y1, y2, y3, y4⟩ := box_fin HZ.out.par HZ.out.box rfl HZ.out.wr HZ.out.bw (.int .i64 1) (.slice (some ⟨g, 0, none⟩) 256 256) (.slice none 0 0)
            rw [← HBw.out] at hY y1 y4
            rw [← hY]
            obtain ⟨r0, r1, r2⟩ := node_cells y1
            refine bodyPost_ret (by simp [results, Tryz.results60, go_sem, r0, r1, r2]; try rfl) rfl ?_
            rw [HR.out, HS.out]
            have hlen : ((bl s).drop (j + 1)).length = s.size - (j + 1) := by rw [List.length_drop, bl_length]
            have hback : s.size - (s.size - (j + 1)) = j + 1 := by omega
            have hgw := HZ.out.gw
            have hBw := HBw.out
            show SetPost b s o w (.ok [.set fun x => if true then !f x else f x] ((bl s).drop (j + 1))) _ _
            refine ⟨y3, g, flipL l 256, rfl, by omega, (y4 g (by omega)).trans HZ.out.br, by simpa using flip_bits H2.out.2.1, by rw [hlen]; omega, by rw [hlen, hback], by rw [hlen, hback]; exact y2⟩
      · by_cases hc93 : c = 93
        · have hfi : fi = true := by
            cases fi with
            | true => rfl
            | false => exact absurd ⟨hc93, rfl⟩ hA
          subst hfi
          have HA : Hid (¬ (c = 93 ∧ true = false)) := hA
          have hcn : s[j].toNat = 93 := by rw [← hc, hc93]; rfl
          clear hA hc93
          by_cases hB1 : j + 2 < s.size
          · have hb1 : (j : Int) + 2 < (s.size : Int) := by omega
            have hb1d : decide ((j : Int) + 2 < (s.size : Int)) = true := by simp; omega
            have hjj : j + 1 < s.size := by omega
            have hjj2 : (j : Int) + 1 < (s.size : Int) := by omega
            have htn2 : ((j : Int) + 2).toNat = j + 2 := by omega
            obtain ⟨x1, hx1⟩ : ∃ x : Nat, s[j + 1].toNat = x := ⟨_, rfl⟩
            obtain ⟨x2, hx2⟩ : ∃ x : Nat, s[j + 2].toNat = x := ⟨_, rfl⟩
            have hx2l : x2 < 256 := by rw [← hx2]; exact s[j + 2].toNat_lt
            obtain ⟨hi', hhi⟩ : ∃ h, h = s[j + 2] := ⟨_, rfl⟩
            have hhn : hi'.toNat = x2 := by rw [hhi]; exact hx2
            have HE0 : Hid ((bl s).drop j = c :: s[j + 1] :: hi' :: (bl s).drop (j + 3) ∧ (bl s).drop (j + 1) = s[j + 1] :: hi' :: (bl s).drop (j + 3)) := by
              have e : (bl s).drop (j + 1) = s[j + 1] :: hi' :: (bl s).drop (j + 3) := by rw [fi_drop hjj, fi_drop hB1, hhi]
              exact ⟨by rw [HD.out.1, e], e⟩
            have hcx : c.toNat = s[j].toNat := by rw [hc]
            by_cases h45 : x1 = 45
            · subst h45
              have H45 : Hid (s[j + 1] = 45) := (u8_eq_iff _ _).2 hx1
              by_cases h93 : x2 = 93
              · subst h93
                have HS : Hid (setL ((bl s).drop (i + 1)) true (fun _ => false) = setL ((bl s).drop (j + 1)) false (fun x => f x || x == c)) := by
                  show _ = _
                  rw [H2.out.2.2, HD.out.1]
                  refine setL_plain HA.out (fun d t' ht => ?_) f
                  rw [HE0.out.2] at ht
                  simp only [List.cons.injEq] at ht
                  rw [← ht.2.1]
                  exact (u8_eq_iff _ _).2 hhn
                clear hhi hhn hc hcx
                have hc255 : s[j].toNat < 256 := s[j].toNat_lt
                have hc255' : (s[j].toNat : Int) < 256 := by omega
                have hlen := H2.out.2.1.1
                obtain ⟨xb, hxb⟩ : ∃ x, l[s[j].toNat]? = some x := ⟨l[s[j].toNat]'(by omega), List.getElem?_eq_getElem (by omega)⟩
                have e0 := H2.out.1.br.cell s[j].toNat xb hxb
                have HN : Hid (∀ n, SI b s o (j + 1) g (l.set s[j].toNat true) w (((w2.drewN n).setCell ⟨g, s[j].toNat, none⟩ (.bool true)).setCell ⟨b, 1, none⟩ (.int .i64 ((j : Int) + 1))) ∧ Bits (l.set s[j].toNat true) (fun x => f x || x == c)) := fun n => ⟨((H2.out.1.drew n).put _ _).at (j + 1) _ (by simp), by have := H2.out.2.1.put c; rw [HD.out.2] at this ⊢; exact this⟩
                have hgb : ¬ g = b := by have := H2.out.1.gw; have := H2.out.1.bw; omega
                have hbg : ¬ b = g := fun e => hgb e.symm
                have hbl2 := H2.out.1.par.lt
                clear hlen hxb
                rw [hcn] at HN e0
                go_wp2_with fail
                go_quiet (fail)
                go_wp2_with fail
                exact ⟨⟨j + 1, false, _, _, by omega, rfl, (HN.out nq).1, (HN.out nq).2, HS.out⟩, by rw [pAt_eq (HN.out nq).1.par, HAt.out]; omega⟩
              · have hn93' : ¬ (x2 : Int) = 93 := by omega
                have hn93b : ((x2 : Int) == 93) = false := by simp; omega
                have HE : Hid ((bl s).drop j = c :: 45 :: hi' :: (bl s).drop (j + 3) ∧ hi' ≠ 93) := ⟨by rw [HE0.out.1, H45.out], fun e => h93 (by rw [← hhn, e]; rfl)⟩
                have hc255 : s[j].toNat < 256 := s[j].toNat_lt
                by_cases hlt : x2 < s[j].toNat
                · have hlt' : (x2 : Int) < (s[j].toNat : Int) := by omega
                  have HS : Hid (setL ((bl s).drop (i + 1)) true (fun _ => false) = .inr (3, (bl s).length - (j + 1))) := by
                    show _ = _
                    rw [H2.out.2.2, HE.out.1, setL_range HA.out, if_neg HE.out.2, if_pos (by rw [UInt8.lt_iff_toNat_lt]; omega)]
                    rw [List.length_drop]
                    congr 2
                    rw [bl_length]
                    omega
                  clear hhi hhn hc hcx
                  go_wp2_with fail
                  go_quiet (fail)
                  go_wp2_with fail
                  go_quiet (fail)
                  go_wp2_with fail
                  refine (HFail.out j 3 ((j : Int) + 1) _ (H2.out.1.drew _).par).mono ?_
                  rintro e w3 ⟨rfl, h3, h4⟩
                  have HF : Hid (Par b s j o 3 ((j : Int) + 1) w3 ∧ Wrote b w w3 ∧ w3.heap[w.heap.size]? = some (.cells #[.int .i64 0, .slice none 0 0, .slice none 0 0] 35 (0, 0)) ∧ b < w.heap.size) := by
                    have hs2 := H2.out.1
                    have hbw := hs2.bw
                    have hlt9 := (Array.getElem?_eq_some_iff.1 hs2.box).1
                    exact ⟨h3, (hs2.drew _).wr.trans h4, (h4.block _ hlt9 (by omega)).trans hs2.box, hbw⟩
                  have HFE : Hid (((s.size - ((bl s).length - (j + 1)) : Nat) : Int) = (j : Int) + 1) := by show _ = _; rw [bl_length]; omega
                  clear h3 h4 d0 d1 fz gz hgl
                  have hbx : w3.heap[B]? = some (.cells #[.int .i64 0, .slice none 0 0, .slice none 0 0] 35 (0, 0)) := by rw [HBw.out]; exact HF.out.2.2.1
                  have fB : ∀ q, w3.frozen? ⟨B, q, none⟩ = false := fun q => by simp [World.frozen?, hbx]
                  obtain ⟨z0, z1, z2⟩ := node_cells hbx
                  have hBl := (Array.getElem?_eq_some_iff.1 hbx).1
                  clear hbx
                  go_wp2_with fail
                  obtain ⟨Y, hY, y1, y2, y3, y4⟩ := box_fin HF.out.1 HF.out.2.2.1 rfl HF.out.2.1 HF.out.2.2.2 (.int .i64 0) (.slice none 0 0) (.slice none 0 0)
                  rw [← HBw.out] at hY y1 y4
                  rw [← hY]
                  obtain ⟨r0, r1, r2⟩ := node_cells y1
                  refine bodyPost_ret (by simp [results, Tryz.results60, go_sem, r0, r1, r2]; try rfl) rfl ?_
                  rw [HR.out, HS.out]
                  show SetPost b s o w (.bad 3 ((bl s).length - (j + 1))) _ _
                  exact ⟨y3, rfl, j, by omega, HFE.out ▸ y2⟩
                · have hlt' : ¬ (x2 : Int) < (s[j].toNat : Int) := by omega
                  have HS : Hid (setL ((bl s).drop (i + 1)) true (fun _ => false) = setL ((bl s).drop (j + 3)) false (range f c hi') ∧ c.toNat = s[j].toNat ∧ hi'.toNat = x2) := by
                    refine ⟨?_, hcx, hhn⟩
                    rw [H2.out.2.2, HE.out.1, setL_range HA.out, if_neg HE.out.2, if_neg (by rw [UInt8.lt_iff_toNat_lt]; omega)]
                  clear hhi hhn hc hcx
                  go_wp2_with fail
                  go_quiet (fail)
                  go_wp2_with fail
                  go_quiet (fail)
                  go_wp2_with fail
                  generalize hw5 : w2.drewN (_ + nq) = w5
                  have H5 : Hid (SI b s o j g l w w5) := by rw [← hw5]; exact H2.out.1.drew _
                  have HAt5 : Hid (pAt b wr = j) := HAt
                  clear hw5 d0 d1 fz gz hgl HAt
                  go_loopw [9] (fun vk wr => ∃ (k : Nat) (l' : List Bool), s[j].toNat ≤ k ∧ k ≤ x2 + 1 ∧ vk = .int .i64 (k : Int) ∧ Hid (SI b s o j g l' w wr ∧ Bits l' (fun x => f x || (decide (s[j].toNat ≤ x.toNat) && decide (x.toNat < k))))) (fun vk _ => x2 + 1 - (intOf vk).toNat)
                  case atStart => exact ⟨s[j].toNat, l, Nat.le_refl _, by omega, (by rw [hcn]; rfl), H5.out, range_zero H2.out.2.1⟩
                  case round =>
                    clear H5
                    obtain ⟨k, l', hk1, hk2, rfl, HK⟩ := hrel
                    have gz := HK.out.1.br.frozen
                    have hgl := HK.out.1.br.lt
                    by_cases hk3 : k ≤ x2
                    · have hk4 : (k : Int) ≤ (x2 : Int) := by omega
                      have hk5 : k < 256 := by omega
                      have hk6 : (k : Int) < 256 := by omega
                      have hlen := HK.out.2.1
                      obtain ⟨xb, hxb⟩ : ∃ x, l'[k]? = some x := ⟨l'[k]'(by omega), List.getElem?_eq_getElem (by omega)⟩
                      have e0 := HK.out.1.br.cell k xb hxb
                      have HN : Hid (SI b s o j g (l'.set k true) w (wr.setCell ⟨g, k, none⟩ (.bool true)) ∧ Bits (l'.set k true) (fun x => f x || (decide (s[j].toNat ≤ x.toNat) && decide (x.toNat < k + 1)))) := ⟨HK.out.1.put k true, range_step HK.out.2 hk1 hk5⟩
                      clear hlen hxb
                      go_wp2_with fail
                      go_roundw
                      case rel => exact ⟨k + 1, _, by omega, by omega, by go_num, HN⟩
                      case measure => simp [intOf]; omega
                    · have hk4 : ¬ (k : Int) ≤ (x2 : Int) := by omega
                      have hkk : k = x2 + 1 := by omega
                      have d0 : wr.cell? ⟨b, 0, none⟩ = some (.string s) := HK.out.1.par.cell 0
                      have d1 : wr.cell? ⟨b, 1, none⟩ = some (.int .i64 (j : Int)) := HK.out.1.par.cell 1
                      have fz := HK.out.1.par.frozen
                      have HN : Hid (SI b s o (j + 3) g l' w (wr.setCell ⟨b, 1, none⟩ (.int .i64 ((j : Int) + 3))) ∧ Bits l' (range f c hi')) := ⟨HK.out.1.at (j + 3) _ (by simp), range_done (by have := HK.out.2; rw [hkk] at this; rw [HS.out.2.1, HS.out.2.2]; exact this)⟩
                      clear hkk
                      go_wp2_with fail
                      exact ⟨⟨j + 3, false, _, _, by omega, rfl, HN.out.1, HN.out.2, HS.out.1⟩, by rw [pAt_eq HN.out.1.par, HAt5.out]; omega⟩
            · have hn45' : ¬ (x1 : Int) = 45 := by omega
              have hn45b : ((x1 : Int) == 45) = false := by simp; omega
              have HS : Hid (setL ((bl s).drop (i + 1)) true (fun _ => false) = setL ((bl s).drop (j + 1)) false (fun x => f x || x == c)) := by
                show _ = _
                rw [H2.out.2.2, HD.out.1]
                refine setL_plain HA.out (fun d t' ht => ?_) f
                rw [HE0.out.2] at ht
                simp only [List.cons.injEq] at ht
                exact absurd (by rw [← hx1, ht.1]; rfl) h45
              clear hhi hhn hc hcx
              have hc255 : s[j].toNat < 256 := s[j].toNat_lt
              have hc255' : (s[j].toNat : Int) < 256 := by omega
              have hlen := H2.out.2.1.1
              obtain ⟨xb, hxb⟩ : ∃ x, l[s[j].toNat]? = some x := ⟨l[s[j].toNat]'(by omega), List.getElem?_eq_getElem (by omega)⟩
              have e0 := H2.out.1.br.cell s[j].toNat xb hxb
              have HN : Hid (∀ n, SI b s o (j + 1) g (l.set s[j].toNat true) w (((w2.drewN n).setCell ⟨g, s[j].toNat, none⟩ (.bool true)).setCell ⟨b, 1, none⟩ (.int .i64 ((j : Int) + 1))) ∧ Bits (l.set s[j].toNat true) (fun x => f x || x == c)) := fun n => ⟨((H2.out.1.drew n).put _ _).at (j + 1) _ (by simp), by have := H2.out.2.1.put c; rw [HD.out.2] at this ⊢; exact this⟩
              have hgb : ¬ g = b := by have := H2.out.1.gw; have := H2.out.1.bw; omega
              have hbg : ¬ b = g := fun e => hgb e.symm
              have hbl2 := H2.out.1.par.lt
              clear hlen hxb
              rw [hcn] at HN e0
              go_wp2_with fail
              go_quiet (fail)
              go_wp2_with fail
              exact ⟨⟨j + 1, false, _, _, by omega, rfl, (HN.out nq).1, (HN.out nq).2, HS.out⟩, by rw [pAt_eq (HN.out nq).1.par, HAt.out]; omega⟩
          · have hb1 : ¬ (j : Int) + 2 < (s.size : Int) := by omega
            have hb1d : decide ((j : Int) + 2 < (s.size : Int)) = false := by simp; omega
            have HS : Hid (setL ((bl s).drop (i + 1)) true (fun _ => false) = setL ((bl s).drop (j + 1)) false (fun x => f x || x == c)) := by
              show _ = _
              rw [H2.out.2.2, HD.out.1]
              refine setL_plain HA.out (fun d t' ht => ?_) f
              have := congrArg List.length ht
              rw [List.length_drop, bl_length] at this
              simp at this
              omega
            clear hc
            have hc255 : s[j].toNat < 256 := s[j].toNat_lt
            have hc255' : (s[j].toNat : Int) < 256 := by omega
            have hlen := H2.out.2.1.1
            obtain ⟨xb, hxb⟩ : ∃ x, l[s[j].toNat]? = some x := ⟨l[s[j].toNat]'(by omega), List.getElem?_eq_getElem (by omega)⟩
            have e0 := H2.out.1.br.cell s[j].toNat xb hxb
            have HN : Hid (∀ n, SI b s o (j + 1) g (l.set s[j].toNat true) w (((w2.drewN n).setCell ⟨g, s[j].toNat, none⟩ (.bool true)).setCell ⟨b, 1, none⟩ (.int .i64 ((j : Int) + 1))) ∧ Bits (l.set s[j].toNat true) (fun x => f x || x == c)) := fun n => ⟨((H2.out.1.drew n).put _ _).at (j + 1) _ (by simp), by have := H2.out.2.1.put c; rw [HD.out.2] at this ⊢; exact this⟩
            have hgb : ¬ g = b := by have := H2.out.1.gw; have := H2.out.1.bw; omega
            have hbg : ¬ b = g := fun e => hgb e.symm
            have hbl2 := H2.out.1.par.lt
            clear hlen hxb
            rw [hcn] at HN e0
            go_wp2_with fail
            go_quiet (fail)
            go_wp2_with fail
            exact ⟨⟨j + 1, false, _, _, by omega, rfl, (HN.out nq).1, (HN.out nq).2, HS.out⟩, by rw [pAt_eq (HN.out nq).1.par, HAt.out]; omega⟩
        · have HA : Hid (¬ (c = 93 ∧ fi = false)) := hA
          have hcn : ¬ s[j].toNat = 93 := by rw [← hc]; intro e; exact hc93 (by rw [u8_eq_iff]; exact e)
          have hcn' : ¬ (s[j].toNat : Int) = 93 := by omega
          have hcnb : ((s[j].toNat : Int) == 93) = false := by simp; omega
          clear hA hc93
          by_cases hB1 : j + 2 < s.size
          · have hb1 : (j : Int) + 2 < (s.size : Int) := by omega
            have hb1d : decide ((j : Int) + 2 < (s.size : Int)) = true := by simp; omega
            have hjj : j + 1 < s.size := by omega
            have hjj2 : (j : Int) + 1 < (s.size : Int) := by omega
            have htn2 : ((j : Int) + 2).toNat = j + 2 := by omega
            obtain ⟨x1, hx1⟩ : ∃ x : Nat, s[j + 1].toNat = x := ⟨_, rfl⟩
            obtain ⟨x2, hx2⟩ : ∃ x : Nat, s[j + 2].toNat = x := ⟨_, rfl⟩
            have hx2l : x2 < 256 := by rw [← hx2]; exact s[j + 2].toNat_lt
            obtain ⟨hi', hhi⟩ : ∃ h, h = s[j + 2] := ⟨_, rfl⟩
            have hhn : hi'.toNat = x2 := by rw [hhi]; exact hx2
            have HE0 : Hid ((bl s).drop j = c :: s[j + 1] :: hi' :: (bl s).drop (j + 3) ∧ (bl s).drop (j + 1) = s[j + 1] :: hi' :: (bl s).drop (j + 3)) := by
              have e : (bl s).drop (j + 1) = s[j + 1] :: hi' :: (bl s).drop (j + 3) := by rw [fi_drop hjj, fi_drop hB1, hhi]
              exact ⟨by rw [HD.out.1, e], e⟩
            have hcx : c.toNat = s[j].toNat := by rw [hc]
            by_cases h45 : x1 = 45
            · subst h45
              have H45 : Hid (s[j + 1] = 45) := (u8_eq_iff _ _).2 hx1
              by_cases h93 : x2 = 93
              · subst h93
                have HS : Hid (setL ((bl s).drop (i + 1)) true (fun _ => false) = setL ((bl s).drop (j + 1)) false (fun x => f x || x == c)) := by
                  show _ = _
                  rw [H2.out.2.2, HD.out.1]
                  refine setL_plain HA.out (fun d t' ht => ?_) f
                  rw [HE0.out.2] at ht
                  simp only [List.cons.injEq] at ht
                  rw [← ht.2.1]
                  exact (u8_eq_iff _ _).2 hhn
                clear hhi hhn hc hcx
                have hc255 : s[j].toNat < 256 := s[j].toNat_lt
                have hc255' : (s[j].toNat : Int) < 256 := by omega
                have hlen := H2.out.2.1.1
                obtain ⟨xb, hxb⟩ : ∃ x, l[s[j].toNat]? = some x := ⟨l[s[j].toNat]'(by omega), List.getElem?_eq_getElem (by omega)⟩
                have e0 := H2.out.1.br.cell s[j].toNat xb hxb
                have HN : Hid (∀ n, SI b s o (j + 1) g (l.set s[j].toNat true) w (((w2.drewN n).setCell ⟨g, s[j].toNat, none⟩ (.bool true)).setCell ⟨b, 1, none⟩ (.int .i64 ((j : Int) + 1))) ∧ Bits (l.set s[j].toNat true) (fun x => f x || x == c)) := fun n => ⟨((H2.out.1.drew n).put _ _).at (j + 1) _ (by simp), by have := H2.out.2.1.put c; rw [HD.out.2] at this ⊢; exact this⟩
                have hgb : ¬ g = b := by have := H2.out.1.gw; have := H2.out.1.bw; omega
                have hbg : ¬ b = g := fun e => hgb e.symm
                have hbl2 := H2.out.1.par.lt
                clear hlen hxb
                go_wp2_with fail
                go_quiet (fail)
                go_wp2_with fail
                exact ⟨⟨j + 1, false, _, _, by omega, rfl, (HN.out nq).1, (HN.out nq).2, HS.out⟩, by rw [pAt_eq (HN.out nq).1.par, HAt.out]; omega⟩
              · have hn93' : ¬ (x2 : Int) = 93 := by omega
                have hn93b : ((x2 : Int) == 93) = false := by simp; omega
                have HE : Hid ((bl s).drop j = c :: 45 :: hi' :: (bl s).drop (j + 3) ∧ hi' ≠ 93) := ⟨by rw [HE0.out.1, H45.out], fun e => h93 (by rw [← hhn, e]; rfl)⟩
                have hc255 : s[j].toNat < 256 := s[j].toNat_lt
                by_cases hlt : x2 < s[j].toNat
                · have hlt' : (x2 : Int) < (s[j].toNat : Int) := by omega
                  have HS : Hid (setL ((bl s).drop (i + 1)) true (fun _ => false) = .inr (3, (bl s).length - (j + 1))) := by
                    show _ = _
                    rw [H2.out.2.2, HE.out.1, setL_range HA.out, if_neg HE.out.2, if_pos (by rw [UInt8.lt_iff_toNat_lt]; omega)]
                    rw [List.length_drop]
                    congr 2
                    rw [bl_length]
                    omega
                  clear hhi hhn hc hcx
                  go_wp2_with fail
                  go_quiet (fail)
                  go_wp2_with fail
                  go_quiet (fail)
                  go_wp2_with fail
                  refine (HFail.out j 3 ((j : Int) + 1) _ (H2.out.1.drew _).par).mono ?_
                  rintro e w3 ⟨rfl, h3, h4⟩
                  have HF : Hid (Par b s j o 3 ((j : Int) + 1) w3 ∧ Wrote b w w3 ∧ w3.heap[w.heap.size]? = some (.cells #[.int .i64 0, .slice none 0 0, .slice none 0 0] 35 (0, 0)) ∧ b < w.heap.size) := by
                    have hs2 := H2.out.1
                    have hbw := hs2.bw
                    have hlt9 := (Array.getElem?_eq_some_iff.1 hs2.box).1
                    exact ⟨h3, (hs2.drew _).wr.trans h4, (h4.block _ hlt9 (by omega)).trans hs2.box, hbw⟩
                  have HFE : Hid (((s.size - ((bl s).length - (j + 1)) : Nat) : Int) = (j : Int) + 1) := by show _ = _; rw [bl_length]; omega
                  clear h3 h4 d0 d1 fz gz hgl
                  have hbx : w3.heap[B]? = some (.cells #[.int .i64 0, .slice none 0 0, .slice none 0 0] 35 (0, 0)) := by rw [HBw.out]; exact HF.out.2.2.1
                  have fB : ∀ q, w3.frozen? ⟨B, q, none⟩ = false := fun q => by simp [World.frozen?, hbx]
                  obtain ⟨z0, z1, z2⟩ := node_cells hbx
                  have hBl := (Array.getElem?_eq_some_iff.1 hbx).1
                  clear hbx
                  go_wp2_with fail
                  obtain ⟨Y, hY, y1, y2, y3, y4⟩ := box_fin HF.out.1 HF.out.2.2.1 rfl HF.out.2.1 HF.out.2.2.2 (.int .i64 0) (.slice none 0 0) (.slice none 0 0)
                  rw [← HBw.out] at hY y1 y4
                  rw [← hY]
                  obtain ⟨r0, r1, r2⟩ := node_cells y1
                  refine bodyPost_ret (by simp [results, Tryz.results60, go_sem, r0, r1, r2]; try rfl) rfl ?_
                  rw [HR.out, HS.out]
                  show SetPost b s o w (.bad 3 ((bl s).length - (j + 1))) _ _
                  exact ⟨y3, rfl, j, by omega, HFE.out ▸ y2⟩
                · have hlt' : ¬ (x2 : Int) < (s[j].toNat : Int) := by omega
                  have HS : Hid (setL ((bl s).drop (i + 1)) true (fun _ => false) = setL ((bl s).drop (j + 3)) false (range f c hi') ∧ c.toNat = s[j].toNat ∧ hi'.toNat = x2) := by
                    refine ⟨?_, hcx, hhn⟩
                    rw [H2.out.2.2, HE.out.1, setL_range HA.out, if_neg HE.out.2, if_neg (by rw [UInt8.lt_iff_toNat_lt]; omega)]
                  clear hhi hhn hc hcx
                  go_wp2_with fail
                  go_quiet (fail)
                  go_wp2_with fail
                  go_quiet (fail)
                  go_wp2_with fail
                  generalize hw5 : w2.drewN (_ + nq) = w5
                  have H5 : Hid (SI b s o j g l w w5) := by rw [← hw5]; exact H2.out.1.drew _
                  have HAt5 : Hid (pAt b wr = j) := HAt
                  clear hw5 d0 d1 fz gz hgl HAt
                  go_loopw [9] (fun vk wr => ∃ (k : Nat) (l' : List Bool), s[j].toNat ≤ k ∧ k ≤ x2 + 1 ∧ vk = .int .i64 (k : Int) ∧ Hid (SI b s o j g l' w wr ∧ Bits l' (fun x => f x || (decide (s[j].toNat ≤ x.toNat) && decide (x.toNat < k))))) (fun vk _ => x2 + 1 - (intOf vk).toNat)
                  case atStart => exact ⟨s[j].toNat, l, Nat.le_refl _, by omega, rfl, H5.out, range_zero H2.out.2.1⟩
                  case round =>
                    clear H5
                    obtain ⟨k, l', hk1, hk2, rfl, HK⟩ := hrel
                    have gz := HK.out.1.br.frozen
                    have hgl := HK.out.1.br.lt
                    by_cases hk3 : k ≤ x2
                    · have hk4 : (k : Int) ≤ (x2 : Int) := by omega
                      have hk5 : k < 256 := by omega
                      have hk6 : (k : Int) < 256 := by omega
                      have hlen := HK.out.2.1
                      obtain ⟨xb, hxb⟩ : ∃ x, l'[k]? = some x := ⟨l'[k]'(by omega), List.getElem?_eq_getElem (by omega)⟩
                      have e0 := HK.out.1.br.cell k xb hxb
                      have HN : Hid (SI b s o j g (l'.set k true) w (wr.setCell ⟨g, k, none⟩ (.bool true)) ∧ Bits (l'.set k true) (fun x => f x || (decide (s[j].toNat ≤ x.toNat) && decide (x.toNat < k + 1)))) := ⟨HK.out.1.put k true, range_step HK.out.2 hk1 hk5⟩
                      clear hlen hxb
                      go_wp2_with fail
                      go_roundw
                      case rel => exact ⟨k + 1, _, by omega, by omega, by go_num, HN⟩
                      case measure => simp [intOf]; omega
                    · have hk4 : ¬ (k : Int) ≤ (x2 : Int) := by omega
                      have hkk : k = x2 + 1 := by omega
                      have d0 : wr.cell? ⟨b, 0, none⟩ = some (.string s) := HK.out.1.par.cell 0
                      have d1 : wr.cell? ⟨b, 1, none⟩ = some (.int .i64 (j : Int)) := HK.out.1.par.cell 1
                      have fz := HK.out.1.par.frozen
                      have HN : Hid (SI b s o (j + 3) g l' w (wr.setCell ⟨b, 1, none⟩ (.int .i64 ((j : Int) + 3))) ∧ Bits l' (range f c hi')) := ⟨HK.out.1.at (j + 3) _ (by simp), range_done (by have := HK.out.2; rw [hkk] at this; rw [HS.out.2.1, HS.out.2.2]; exact this)⟩
                      clear hkk
                      go_wp2_with fail
                      exact ⟨⟨j + 3, false, _, _, by omega, rfl, HN.out.1, HN.out.2, HS.out.1⟩, by rw [pAt_eq HN.out.1.par, HAt5.out]; omega⟩
            · have hn45' : ¬ (x1 : Int) = 45 := by omega
              have hn45b : ((x1 : Int) == 45) = false := by simp; omega
              have HS : Hid (setL ((bl s).drop (i + 1)) true (fun _ => false) = setL ((bl s).drop (j + 1)) false (fun x => f x || x == c)) := by
                show _ = _
                rw [H2.out.2.2, HD.out.1]
                refine setL_plain HA.out (fun d t' ht => ?_) f
                rw [HE0.out.2] at ht
                simp only [List.cons.injEq] at ht
                exact absurd (by rw [← hx1, ht.1]; rfl) h45
              clear hhi hhn hc hcx
              have hc255 : s[j].toNat < 256 := s[j].toNat_lt
              have hc255' : (s[j].toNat : Int) < 256 := by omega
              have hlen := H2.out.2.1.1
              obtain ⟨xb, hxb⟩ : ∃ x, l[s[j].toNat]? = some x := ⟨l[s[j].toNat]'(by omega), List.getElem?_eq_getElem (by omega)⟩
              have e0 := H2.out.1.br.cell s[j].toNat xb hxb
              have HN : Hid (∀ n, SI b s o (j + 1) g (l.set s[j].toNat true) w (((w2.drewN n).setCell ⟨g, s[j].toNat, none⟩ (.bool true)).setCell ⟨b, 1, none⟩ (.int .i64 ((j : Int) + 1))) ∧ Bits (l.set s[j].toNat true) (fun x => f x || x == c)) := fun n => ⟨((H2.out.1.drew n).put _ _).at (j + 1) _ (by simp), by have := H2.out.2.1.put c; rw [HD.out.2] at this ⊢; exact this⟩
              have hgb : ¬ g = b := by have := H2.out.1.gw; have := H2.out.1.bw; omega
              have hbg : ¬ b = g := fun e => hgb e.symm
              have hbl2 := H2.out.1.par.lt
              clear hlen hxb
              go_wp2_with fail
              go_quiet (fail)
              go_wp2_with fail
              exact ⟨⟨j + 1, false, _, _, by omega, rfl, (HN.out nq).1, (HN.out nq).2, HS.out⟩, by rw [pAt_eq (HN.out nq).1.par, HAt.out]; omega⟩
          · have hb1 : ¬ (j : Int) + 2 < (s.size : Int) := by omega
            have hb1d : decide ((j : Int) + 2 < (s.size : Int)) = false := by simp; omega
            have HS : Hid (setL ((bl s).drop (i + 1)) true (fun _ => false) = setL ((bl s).drop (j + 1)) false (fun x => f x || x == c)) := by
              show _ = _
              rw [H2.out.2.2, HD.out.1]
              refine setL_plain HA.out (fun d t' ht => ?_) f
              have := congrArg List.length ht
              rw [List.length_drop, bl_length] at this
              simp at this
              omega
            clear hc
            have hc255 : s[j].toNat < 256 := s[j].toNat_lt
            have hc255' : (s[j].toNat : Int) < 256 := by omega
            have hlen := H2.out.2.1.1
            obtain ⟨xb, hxb⟩ : ∃ x, l[s[j].toNat]? = some x := ⟨l[s[j].toNat]'(by omega), List.getElem?_eq_getElem (by omega)⟩
            have e0 := H2.out.1.br.cell s[j].toNat xb hxb
            have HN : Hid (∀ n, SI b s o (j + 1) g (l.set s[j].toNat true) w (((w2.drewN n).setCell ⟨g, s[j].toNat, none⟩ (.bool true)).setCell ⟨b, 1, none⟩ (.int .i64 ((j : Int) + 1))) ∧ Bits (l.set s[j].toNat true) (fun x => f x || x == c)) := fun n => ⟨((H2.out.1.drew n).put _ _).at (j + 1) _ (by simp), by have := H2.out.2.1.put c; rw [HD.out.2] at this ⊢; exact this⟩
            have hgb : ¬ g = b := by have := H2.out.1.gw; have := H2.out.1.bw; omega
            have hbg : ¬ b = g := fun e => hgb e.symm
            have hbl2 := H2.out.1.par.lt
            clear hlen hxb
            go_wp2_with fail
            go_quiet (fail)
            go_wp2_with fail
            exact ⟨⟨j + 1, false, _, _, by omega, rfl, (HN.out nq).1, (HN.out nq).2, HS.out⟩, by rw [pAt_eq (HN.out nq).1.par, HAt.out]; omega⟩
    · have hj2 : ¬ (j : Int) < (s.size : Int) := by omega
      have HS : Hid (setL ((bl s).drop (i + 1)) true (fun _ => false) = .inr (4, 0)) := by
        show _ = _
        rw [HI.out.2.2, List.drop_of_length_le (by rw [bl_length]; omega), setL_nil]
      go_wp2_with fail
      refine (HPeekN.out j wr (by omega) HI.out.1.par).mono ?_
      rintro e w2 ⟨rfl, _, h2⟩
      have H2 : Hid (SI b s o j g l w w2) := HI.out.1.below h2
      clear h2 HI
      have d0 : w2.cell? ⟨b, 0, none⟩ = some (.string s) := H2.out.par.cell 0
      go_wp2_with fail
      refine (HFail.out j 4 (s.size : Int) w2 H2.out.par).mono ?_
      rintro e w3 ⟨rfl, h3, h4⟩
      have HF : Hid (Par b s j o 4 (s.size : Int) w3 ∧ Wrote b w w3 ∧ w3.heap[w.heap.size]? = some (.cells #[.int .i64 0, .slice none 0 0, .slice none 0 0] 35 (0, 0)) ∧ b < w.heap.size) := by
        have hs2 := H2.out
        have hbw := hs2.bw
        have hlt9 := (Array.getElem?_eq_some_iff.1 hs2.box).1
        exact ⟨h3, hs2.wr.trans h4, (h4.block _ hlt9 (by omega)).trans hs2.box, hbw⟩
      have HFE : Hid (((s.size - 0 : Nat) : Int) = (s.size : Int)) := rfl
      clear h3 h4 d0
      have hbx : w3.heap[B]? = some (.cells #[.int .i64 0, .slice none 0 0, .slice none 0 0] 35 (0, 0)) := by rw [HBw.out]; exact HF.out.2.2.1
      have fB : ∀ q, w3.frozen? ⟨B, q, none⟩ = false := fun q => by simp [World.frozen?, hbx]
      obtain ⟨z0, z1, z2⟩ := node_cells hbx
      have hBl := (Array.getElem?_eq_some_iff.1 hbx).1
      clear hbx
      go_wp2_with fail
      obtain ⟨Y, hY, y1, y2, y3, y4⟩ := box_fin HF.out.1 HF.out.2.2.1 rfl HF.out.2.1 HF.out.2.2.2 (.int .i64 0) (.slice none 0 0) (.slice none 0 0)
      rw [← HBw.out] at hY y1 y4
      rw [← hY]
      obtain ⟨r0, r1, r2⟩ := node_cells y1
      refine bodyPost_ret (by simp [results, Tryz.results60, go_sem, r0, r1, r2]; try rfl) rfl ?_
      rw [HR.out, HS.out]
      show SetPost b s o w (.bad 4 0) _ _
      exact ⟨y3, rfl, j, by omega, HFE.out ▸ y2⟩
set_option maxRecDepth 20000 in
set_option maxHeartbeats 2000000 in
theorem rset_end (b : Nat) (s : ByteArray) (i o : Nat) (w : World) (h : Par b s i o 0 0 w) (_hs : s.size ≤ 1000) (hi : i ≤ s.size) (_ho : o ≤ 100) (hlt : ¬ i < s.size) : Calls Tryz.prog 60 #[.pointer (some ⟨b, 0, none⟩)] w (SetPost b s o w (setR ((bl s).drop i))) := by
  obtain ⟨wa, hwa, hBa, hSa, hka⟩ := one_box w (.cells #[.int .i64 0, .slice none 0 0, .slice none 0 0] 35)
  have HPa : Hid (Par b s i o 0 0 wa) := h.below hBa
  have HPeek : Hid (∀ (j : Nat) (hj : j < s.size) W, Par b s j o 0 0 W → Calls Tryz.prog 17 #[.pointer (some ⟨b, 0, none⟩)] W fun e w' => e = .returned (.tuple #[.int .u8 (s[j].toNat : Int), .bool true]) ∧ Par b s j o 0 0 w' ∧ Below W.heap.size W w') := fun j hj W hP => peek_some b s j o 0 W hP hj
  have HPeekN : Hid (∀ j W, s.size ≤ j → Par b s j o 0 0 W → Calls Tryz.prog 17 #[.pointer (some ⟨b, 0, none⟩)] W fun e w' => e = .returned (.tuple #[.int .u8 0, .bool false]) ∧ Par b s j o 0 0 w' ∧ Below W.heap.size W w') := fun j W hj hP => peek_none b s j o 0 0 W hP (.inl hj)
  have HFail : Hid (∀ j (y a : Int) W, Par b s j o 0 0 W → Calls Tryz.prog 18 #[.pointer (some ⟨b, 0, none⟩), .int .i64 y, .int .i64 a] W fun e w' => e = .returned (.tuple #[]) ∧ Par b s j o y a w' ∧ Wrote b W w') := fun j y a W hP => (fails_any b s j o 0 0 y a W hP).mono fun e w' h => by simpa using h
  have HBy : Hid (∀ W, Calls Tryz.prog 58 #[.bool false] W fun e w' => e = .returned (.slice (some ⟨W.heap.size, 0, none⟩) 256 256) ∧ Br W.heap.size (List.replicate 256 false) w' ∧ Below W.heap.size W w') := rbytes_any false
  have c0 : wa.cell? ⟨b, 0, none⟩ = some (.string s) := HPa.out.cell 0
  have c1 : wa.cell? ⟨b, 1, none⟩ = some (.int .i64 (i : Int)) := HPa.out.cell 1
  have fa := HPa.out.frozen
  have hbl := h.lt
  have HX : Hid (Below w.heap.size w wa ∧ wa.heap.size = w.heap.size + 1 ∧ wa.heap[w.heap.size]? = some (.cells #[.int .i64 0, .slice none 0 0, .slice none 0 0] 35 (0, 0)) ∧ b < w.heap.size) := ⟨hBa, hSa, hka, hbl⟩
  clear h hBa hSa hka hbl
  have hl2 : ¬ (i : Int) < (s.size : Int) := by omega
  have HR : Hid (setR ((bl s).drop i) = turnR false (setL ((bl s).drop i) true fun _ => false)) := by
    refine setR_plain ?_
    rw [List.drop_of_length_le (by rw [bl_length]; omega)]
    simp
  go_enter Tryz.func60, Tryz.ntmps60
  rw [hwa] at c0 c1 fa
  go_wp2_with fail
  go_quiet (fail)
  go_wp2_with fail
  rw [← hwa]
  clear hwa c0 c1 fa
  obtain ⟨Y, hY⟩ : ∃ Y, Y = (wa.drewN nq) := ⟨_, rfl⟩
  have HY : Hid (Par b s (i) o 0 0 Y ∧ Wrote b wa Y) := by rw [hY]; exact ⟨Par.below HPa.out (below_drewN (Below.refl _ _) _), (Wrote.refl b wa).drewN _⟩
  rw [← hY]
  clear hY
  refine (HBy.out Y).mono ?_
  rintro e w1 ⟨rfl, h1, h2⟩
  obtain ⟨g, hg⟩ : ∃ g, g = Y.heap.size := ⟨_, rfl⟩
  rw [← hg] at h1 ⊢
  have H1 : Hid (SI b s o (i) g (List.replicate 256 false) w w1) := by
    obtain ⟨x1, x2, x3, x4⟩ := HX.out
    obtain ⟨y1, y2⟩ := HY.out
    have hyw := y2.size
    refine ⟨y1.below h2, h1, ?_, ?_, by omega, x4⟩
    · rw [h2.block _ (by omega), y2.block _ (by omega) (by omega)]; exact x3
    · exact ⟨(h2.os.trans y2.os).trans x1.os, (h2.tape.trans y2.tape).trans x1.tape, (h2.output.trans y2.output).trans x1.output, by have := h2.size; omega, fun j hj hb => by rw [h2.block j (by omega), y2.block j (by omega) hb]; exact x1.block j hj⟩
  clear h1 h2 hg HY HX HBy HPa
  obtain ⟨B, hB⟩ : ∃ B, B = w.heap.size := ⟨_, rfl⟩
  rw [← hB]
  have HBw : Hid (B = w.heap.size) := hB
  clear hB
  go_wp2_with fail
  go_loopw [5] (fun vf wr => ∃ (j : Nat) (l : List Bool), j = i ∧ vf = .bool true ∧ Hid (SI b s o j g l w wr)) (fun _ _ => 0)
  case atStart => exact ⟨i, _, rfl, rfl, H1.out⟩
  case round =>
    clear H1
    obtain ⟨j, l, hij, rfl, HI⟩ := hrel
    have hsj : s.size ≤ j := by omega
    have hjs : j ≤ s.size := by omega
    clear hij
    have hj2 : ¬ (j : Int) < (s.size : Int) := by omega
    have HS : Hid (setL ((bl s).drop (i)) true (fun _ => false) = .inr (4, 0)) := by
      show _ = _
      rw [List.drop_of_length_le (by rw [bl_length]; omega), setL_nil]
    go_wp2_with fail
    refine (HPeekN.out j wr (by omega) HI.out.par).mono ?_
    rintro e w2 ⟨rfl, _, h2⟩
    have H2 : Hid (SI b s o j g l w w2) := HI.out.below h2
    clear h2 HI
    have d0 : w2.cell? ⟨b, 0, none⟩ = some (.string s) := H2.out.par.cell 0
    go_wp2_with fail
    refine (HFail.out j 4 (s.size : Int) w2 H2.out.par).mono ?_
    rintro e w3 ⟨rfl, h3, h4⟩
    have HF : Hid (Par b s j o 4 (s.size : Int) w3 ∧ Wrote b w w3 ∧ w3.heap[w.heap.size]? = some (.cells #[.int .i64 0, .slice none 0 0, .slice none 0 0] 35 (0, 0)) ∧ b < w.heap.size) := by
      have hs2 := H2.out
      have hbw := hs2.bw
      have hlt9 := (Array.getElem?_eq_some_iff.1 hs2.box).1
      exact ⟨h3, hs2.wr.trans h4, (h4.block _ hlt9 (by omega)).trans hs2.box, hbw⟩
    have HFE : Hid (((s.size - 0 : Nat) : Int) = (s.size : Int)) := rfl
    clear h3 h4 d0
    have hbx : w3.heap[B]? = some (.cells #[.int .i64 0, .slice none 0 0, .slice none 0 0] 35 (0, 0)) := by rw [HBw.out]; exact HF.out.2.2.1
    have fB : ∀ q, w3.frozen? ⟨B, q, none⟩ = false := fun q => by simp [World.frozen?, hbx]
    obtain ⟨z0, z1, z2⟩ := node_cells hbx
    have hBl := (Array.getElem?_eq_some_iff.1 hbx).1
    clear hbx
    go_wp2_with fail
    obtain ⟨Y, hY, y1, y2, y3, y4⟩ := box_fin HF.out.1 HF.out.2.2.1 rfl HF.out.2.1 HF.out.2.2.2 (.int .i64 0) (.slice none 0 0) (.slice none 0 0)
    rw [← HBw.out] at hY y1 y4
    rw [← hY]
    obtain ⟨r0, r1, r2⟩ := node_cells y1
    refine bodyPost_ret (by simp [results, Tryz.results60, go_sem, r0, r1, r2]; try rfl) rfl ?_
    rw [HR.out, HS.out]
    show SetPost b s o w (.bad 4 0) _ _
    exact ⟨y3, rfl, j, by omega, HFE.out ▸ y2⟩
end Go.Proofs.YtmmhajlfbjjocaaGreat
