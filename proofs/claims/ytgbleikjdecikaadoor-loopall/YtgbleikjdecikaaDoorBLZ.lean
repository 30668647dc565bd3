import Derived.Test.YtgbleikjdecikaaDoorBD
import Derived.Test.YtgbleikjdecikaaDoorBA
import Derived.Test.YtgbleikjdecikaaDoorBBR
/-
  What the document's Directive answers.
-/
namespace Go.Proofs.YtgbleikjdecikaaDoor
open Go.RowKit Go.Shelf

theorem isB_or (c : UInt8) : isB c = (((c.toNat : Int) == 32) || ((c.toNat : Int) == 9)) := by
  have e1 := u8_beq c 32 32 rfl
  have e2 := u8_beq c 9 9 rfl
  have e3 : isB c = ((c == 32) || (c == 9)) := by
    unfold isB
    rw [List.contains_cons, List.contains_cons, List.contains_nil, Bool.or_false]
  rw [e3, ← e1, ← e2]; rfl

set_option maxRecDepth 20000 in
set_option maxHeartbeats 400000 in
theorem rblank_any (c : UInt8) (w : World) : Calls Tryd.prog 22 #[.int .u8 (c.toNat : Int)] w fun e w' => e = .returned (.bool (isB c)) ∧ w = w' := by
  have HE : Hid (isB c = (((c.toNat : Int) == 32) || ((c.toNat : Int) == 9))) := isB_or c
  obtain ⟨cn, hcn⟩ : ∃ cn : Int, cn = (c.toNat : Int) := ⟨_, rfl⟩
  rw [← hcn] at HE ⊢
  clear hcn
  by_cases h1 : cn = 32
  · subst h1
    go_enter Tryd.func22, Tryd.ntmps22
    go_wp2_with fail
    go_ret
    exact ⟨ret_bool (by rw [HE.out]; rfl), rfl⟩
  · have b1 : (cn == 32) = false := by simpa using h1
    by_cases h2 : cn = 9
    · subst h2
      go_enter Tryd.func22, Tryd.ntmps22
      go_wp2_with fail
      go_ret
      exact ⟨ret_bool (by rw [HE.out]; rfl), rfl⟩
    · have b2 : (cn == 9) = false := by simpa using h2
      have HE2 : Hid (isB c = false) := by unfold Hid; rw [HE.out, b1, b2]; rfl
      go_enter Tryd.func22, Tryd.ntmps22
      go_wp2_with fail
      go_ret
      exact ⟨ret_bool (by rw [HE2.out]), rfl⟩

def szV : Value → Nat
  | .string x => x.size
  | _ => 0

set_option maxRecDepth 20000 in
set_option maxHeartbeats 400000 in
theorem rleft12_any (s : ByteArray) (w : World) (_hs : s.size ≤ 1100000) :
    Calls Tryd.prog 21 #[.string s] w fun e w' => e = .returned (.string (ba (ltrim (bl s)))) ∧ w = w' := by
  go_enter Tryd.func21, Tryd.ntmps21
  go_wp2
  go_loopw [0] (fun v wr => ∃ x : ByteArray, v = .string x ∧ x.size ≤ s.size ∧ w = wr ∧ Hid (ltrim (bl s) = ltrim (bl x))) (fun v _ => szV v)
  case atStart => exact ⟨s, rfl, Nat.le_refl _, rfl, rfl⟩
  case round =>
    obtain ⟨x, rfl, hx, rfl, HX⟩ := hrel
    by_cases h0 : 0 < x.size
    · have h0i : (0 : Int) < (x.size : Int) := by omega
      have h1i : (1 : Int) ≤ (x.size : Int) := by omega
      have hd := drop_bl x 0 h0
      rw [List.drop_zero] at hd
      obtain ⟨c, hc⟩ : ∃ c, c = x[0] := ⟨_, rfl⟩
      obtain ⟨cn, hcn⟩ : ∃ cn : Int, cn = (x[0].toNat : Int) := ⟨_, rfl⟩
      have hg0 : (x[0].toNat : Int) = cn := hcn.symm
      have HB : Hid (∀ W, Calls Tryd.prog 22 #[.int .u8 cn] W fun e w' => e = .returned (.bool (isB c)) ∧ W = w') := fun W => by rw [hcn, ← hc]; exact rblank_any c W
      rw [← hc] at hd
      have HD : Hid (bl x = c :: (bl x).drop (0 + 1)) := hd
      clear hc hcn hd
      cases hb : isB c with
      | true =>
        rw [hb] at HB
        obtain ⟨y, hy⟩ : ∃ y, y = x.extract 1 x.size := ⟨_, rfl⟩
        have hyb : bl y = (bl x).drop 1 := by rw [hy, bl_extract, take_all]
        have hys : y.size = x.size - 1 := by rw [hy]; simp
        have HX1 : Hid (ltrim (bl s) = ltrim (bl y)) := by
          unfold Hid; rw [HX.out, HD.out, ltrim_hit _ hb, hyb]
        have hsl : ∀ W, (Instr.slice 9 (.string x) (some (.int .i64 1)) none none).run Tryd.prog W = .ok (.string y) W := by
          intro W; rw [hy]; exact run_slice_string_l (P := Tryd.prog) W 9 x Tryd.underlying9 .i64 1 (by omega) (by omega)
        clear hb hy hyb
        go_wp2_with (go_at_call 22; refine (HB.out _).mono ?_; rintro e w' ⟨rfl, rfl⟩; go_wp2_with fail)
        go_roundw
        case rel => exact ⟨y, rfl, by omega, trivial, HX1⟩
        case measure => show y.size < x.size; omega
      | false =>
        rw [hb] at HB
        have HX1 : Hid (ba (ltrim (bl s)) = x) := by
          unfold Hid; rw [HX.out, HD.out, ltrim_miss _ hb, ← HD.out, ba_bl]
        clear hb
        go_wp2_with (go_at_call 22; refine (HB.out _).mono ?_; rintro e w' ⟨rfl, rfl⟩; go_wp2_with fail)
        go_ret
        exact ⟨ret_str HX1.out.symm, rfl⟩
    · have h0i : ¬ (0 : Int) < (x.size : Int) := by omega
      have HX1 : Hid (ba (ltrim (bl s)) = x) := by
        have hx0 : bl x = [] := List.length_eq_zero_iff.1 (by rw [bl_length]; omega)
        unfold Hid; rw [HX.out, hx0]
        show ba [] = x
        rw [← hx0, ba_bl]
      go_wp2_with fail
      go_ret
      exact ⟨ret_str HX1.out.symm, rfl⟩

theorem dirB_at (z : ByteArray) (k : Nat) (h : ((bl z).takeWhile small).length = k) : dirB (bl z) = if k = 0 ∨ endsL ((bl z).drop k) = false then ([], []) else ((bl z).take k, ltrim ((bl z).drop k)) := by
  have e1 := tw_drop small (bl z)
  have e2 := tw_take' small (bl z)
  rw [h] at e1 e2
  have e3 : (bl z).takeWhile small = [] ↔ k = 0 := by rw [← h]; exact List.length_eq_zero_iff.symm
  unfold dirB
  rw [e1]
  by_cases hk : k = 0
  · rw [if_pos (.inl (e3.2 hk)), if_pos (.inl hk)]
  · by_cases he : endsL ((bl z).dropWhile small) = false
    · rw [if_pos (.inr he), if_pos (.inr he)]
    · rw [if_neg (fun e => e.elim (fun e => hk (e3.1 e)) he), if_neg (fun e => e.elim hk he), e2]
theorem dirB_none (z : ByteArray) (k : Nat) (h : ((bl z).takeWhile small).length = k) (hk : k = 0 ∨ endsL ((bl z).drop k) = false) : ba (dirB (bl z)).1 = E ∧ ba (dirB (bl z)).2 = E := by
  rw [dirB_at z k h, if_pos hk]; exact ⟨rfl, rfl⟩
theorem dirB_some (z : ByteArray) (k : Nat) (h : ((bl z).takeWhile small).length = k) (hk : ¬ k = 0) (he : endsL ((bl z).drop k) = true) : ba (dirB (bl z)).1 = z.extract 0 k ∧ ba (dirB (bl z)).2 = ba (ltrim (bl (z.extract k z.size))) := by
  rw [dirB_at z k h, if_neg (fun e => e.elim hk (fun e => by rw [he] at e; cases e))]
  exact ⟨bl_inj (by rw [bl_ba, bl_extract, List.drop_zero]), by rw [bl_extract, take_all]⟩
theorem ends_at (z : ByteArray) (k : Nat) (hk : k < z.size) : endsL ((bl z).drop k) = [32, 9, 40, 33, 34].contains z[k] := by rw [drop_bl z k hk]; rfl
theorem ends_end (z : ByteArray) : endsL ((bl z).drop z.size) = true := by rw [List.drop_of_length_le (by rw [bl_length]; exact Nat.le_refl _)]; rfl

theorem quiet_flip {P : Program} {f : Nat} {a : Array Value} {w : World} {v : Value} (h : Calls P f a w fun e w' => e = .returned v ∧ w = w') : Calls P f a w fun e w' => e = .returned v ∧ w' = w := h.mono fun _ _ h => ⟨h.1, h.2.symm⟩

set_option maxRecDepth 20000 in
set_option maxHeartbeats 3000000 in
theorem rdir_any (x : Lz) (w : World) (hs : x.text.size ≤ 1000000) :
    Calls Tryd.prog 12 #[lnV x] w fun e w' => e = .returned (.tuple #[.string (dirW x), .string (dirX x)]) ∧ Below w.heap.size w w' := by
  obtain ⟨w1, hw1⟩ : ∃ w1, w1 = w.alloc (.cells #[.string x.text, .int .i64 x.at_, .bool x.cmd] 38) := ⟨_, rfl⟩
  have hB1 : Below w.heap.size w w1 := by rw [hw1]; exact (Below.refl _ _).alloc (Nat.le_refl _) _
  have HB1 : Hid (Below w.heap.size w w1) := hB1
  clear hB1
  have hno := @dir_no x
  have hyes := @dir_yes x
  have hz1 : w1.heap[w.heap.size]? = some (.cells #[.string x.text, .int .i64 x.at_, .bool x.cmd] 38 (0, 0)) := by rw [hw1]; exact alloc_last _ _
  have c0 := cell_in hz1 0 rfl
  have c2 := cell_in hz1 2 rfl
  clear hz1
  obtain ⟨dw, hdw⟩ : ∃ dw, dw = dirW x := ⟨_, rfl⟩
  obtain ⟨dx, hdx⟩ : ∃ dx, dx = dirX x := ⟨_, rfl⟩
  rw [← hdw, ← hdx] at hno hyes ⊢
  clear hdw hdx
  obtain ⟨xt, xa, xc⟩ := x
  simp only at hno hyes c0 c2 hw1 hs
  cases xc with
  | true =>
    obtain ⟨rfl, rfl⟩ := hno (.inl rfl)
    clear hno hyes
    go_enter Tryd.func12, Tryd.ntmps12
    go_wp2_with fail
    rw [← hw1]
    go_ret2
    exact ⟨rfl, HB1.out⟩
  | false =>
    by_cases h0 : xt = E
    · subst h0
      obtain ⟨rfl, rfl⟩ := hno (.inr rfl)
      clear hno hyes
      go_enter Tryd.func12, Tryd.ntmps12
      go_wp2_with fail
      rw [← hw1]
      go_ret2
      exact ⟨rfl, HB1.out⟩
    · obtain ⟨s1, s2⟩ := ne_empty h0
      have hsz : 0 < xt.size := by
        have : bl xt ≠ [] := fun e => s1 (by rw [Lib.toList_data]; exact e)
        rw [← bl_length]; exact List.length_pos_iff.2 this
      have hszi : (0 : Int) < (xt.size : Int) := by omega
      have hszi1 : (1 : Int) ≤ (xt.size : Int) := by omega
      have hszn : ¬ (xt.size : Int) = 0 := by omega
      have hszb : ((xt.size : Int) == 0) = false := by simpa using hszn
      have hd := drop_bl xt 0 hsz
      rw [List.drop_zero] at hd
      by_cases hc : xt[0] = 46
      · have hct : (cutDot xt).2 = true := by unfold cutDot; rw [hd]; simp [hc]
        obtain ⟨q1, q2⟩ := cut_yes hct
        obtain ⟨E1, E2⟩ := hyes rfl hct
        rw [q2] at E1 E2
        have hgk : (xt[0].toNat : Int) = 46 := by rw [hc]; rfl
        obtain ⟨y, hy⟩ : ∃ y, y = xt.extract 1 xt.size := ⟨_, rfl⟩
        have hsl : ∀ W, (Instr.slice 9 (.string xt) (some (.int .i64 1)) none none).run Tryd.prog W = .ok (.string y) W := by
          intro W; rw [hy]; exact run_slice_string_l (P := Tryd.prog) W 9 xt Tryd.underlying9 .i64 1 (by omega) (by omega)
        rw [← hy] at E1 E2
        have hys : y.size ≤ 1000000 := by rw [hy]; simp; omega
        obtain ⟨z, hz⟩ : ∃ z, z = ba (ltrim (bl y)) := ⟨_, rfl⟩
        have hzb : ltrim (bl y) = bl z := by rw [hz, bl_ba]
        have hzs : z.size ≤ 1000000 := by
          have := left_le (bl y) [32, 9]
          rw [bl_length] at this
          rw [hz, ba_size]; unfold ltrim; omega
        have HL1 : Hid (∀ W, Calls Tryd.prog 21 #[.string y] W fun e w' => e = .returned (.string z) ∧ W = w') := fun W => by rw [hz]; exact rleft12_any y W (by omega)
        rw [hzb] at E1 E2
        subst E1 E2
        clear hz hzb hy hc hd hno hyes hct q2 h0 s1 s2 hs
        go_enter Tryd.func12, Tryd.ntmps12
        go_wp2_with fail
        rw [← hw1]
        clear hw1 c2 c0
        refine (HL1.out _).mono ?_
        rintro e w' ⟨rfl, rfl⟩
        clear HL1
        go_wp2_with fail
        clear hgk hsl hszi hszi1 hszn hszb hys
        go_loopw [5] (fun vi wr => ∃ k : Nat, k ≤ z.size ∧ vi = .int .i64 (k : Int) ∧ w1 = wr ∧ Hid (((bl z).takeWhile small).length = k + (((bl z).drop k).takeWhile small).length)) (fun vi _ => z.size - (intOf vi).toNat)
        case atStart => exact ⟨0, Nat.zero_le _, rfl, rfl, by simp [Hid]⟩
        case round =>
          obtain ⟨k, hk, rfl, rfl, HA⟩ := hrel
          by_cases hlt : k < z.size
          · have hil : (k : Int) < (z.size : Int) := by omega
            have hneq : ¬ (k : Int) = (z.size : Int) := by omega
            have hneqb : ((k : Int) == (z.size : Int)) = false := by simpa using hneq
            have ht := tw_take small z k hlt
            have he := tw_end small z k hlt
            have hen := ends_at z k hlt
            obtain ⟨c, hc⟩ : ∃ c, c = z[k] := ⟨_, rfl⟩
            obtain ⟨cn, hcn⟩ : ∃ cn : Int, cn = (z[k].toNat : Int) := ⟨_, rfl⟩
            have hgk : (z[k].toNat : Int) = cn := hcn.symm
            have HB : Hid (∀ W, Calls Tryd.prog 22 #[.int .u8 cn] W fun e w' => e = .returned (.bool (isB c)) ∧ W = w') := fun W => by rw [hcn, ← hc]; exact rblank_any c W
            rw [← hc] at ht he hcn hen
            have HS : Hid (small c = (decide (97 ≤ cn) && decide (cn ≤ 122))) := by
              unfold Hid small; rw [hcn, Bool.eq_iff_iff]; simp only [Bool.and_eq_true, decide_eq_true_eq]; omega
            by_cases hsm : small c = true
            · have h12 : 97 ≤ cn ∧ cn ≤ 122 := by have := HS.out; rw [hsm] at this; simpa using this.symm
              obtain ⟨h1, h2⟩ := h12
              have HA1 : Hid (((bl z).takeWhile small).length = (k + 1) + (((bl z).drop (k + 1)).takeWhile small).length) := by
                unfold Hid; rw [HA.out, ht hsm, List.length_cons]; omega
              clear hsm ht he hen hc hcn HS HB
              go_wp2_with fail
              go_roundw
              case rel => exact ⟨k + 1, by omega, by go_num, trivial, HA1⟩
              case measure => simp [intOf]; omega
            · have hsm' : small c = false := by simpa using hsm
              have HN : Hid (((bl z).takeWhile small).length = k) := by
                unfold Hid; rw [HA.out, he hsm']; rfl
              clear ht he HA
              by_cases e32 : c = 32
              · subst e32
                obtain rfl : cn = 32 := by rw [hcn]; rfl
                have HE : Hid (endsL ((bl z).drop k) = true) := by unfold Hid; rw [hen]; decide
                have hB : isB 32 = true := by decide
                rw [hB] at HB
                clear hB hen hc hcn HS hsm hsm'
                by_cases hk0 : k = 0
                · have hk0b : ((k : Int) == 0) = true := by simpa using hk0
                  have HF : Hid (_ ∧ _) := dirB_none z k HN.out (.inl hk0)
                  clear hk0 HN HE
                  go_wp2_with (go_at_call 22; refine (HB.out _).mono ?_; rintro e w' ⟨rfl, rfl⟩; go_wp2_with fail)
                  go_ret2
                  exact ⟨by rw [HF.out.1, HF.out.2] <;> rfl, HB1.out⟩
                · have hk0i : ¬ (k : Int) = 0 := by omega
                  have hk0b : ((k : Int) == 0) = false := by simpa using hk0i
                  have HF : Hid (_ ∧ _) := dirB_some z k HN.out hk0 HE.out
                  obtain ⟨r, hr⟩ : ∃ r, r = z.extract k z.size := ⟨_, rfl⟩
                  obtain ⟨u, hu⟩ : ∃ u, u = z.extract 0 k := ⟨_, rfl⟩
                  have hrs : r.size ≤ 1100000 := by rw [hr, ByteArray.size_extract]; omega
                  have hsl2 : ∀ W, (Instr.slice 9 (.string z) (some (.int .i64 (k : Int))) none none).run Tryd.prog W = .ok (.string r) W := by
                    intro W; rw [hr]; exact run_slice_string_l (P := Tryd.prog) W 9 z Tryd.underlying9 .i64 k (by omega) (by omega)
                  have hsu : ∀ W, (Instr.slice 9 (.string z) none (some (.int .i64 (k : Int))) none).run Tryd.prog W = .ok (.string u) W := by
                    intro W; rw [hu]; exact run_slice_string_h (P := Tryd.prog) W 9 z Tryd.underlying9 .i64 k (by omega) (by omega)
                  rw [← hr, ← hu] at HF
                  have HL2 : Hid (∀ W, Calls Tryd.prog 21 #[.string r] W fun e w' => e = .returned (.string (ba (ltrim (bl r)))) ∧ W = w') := fun W => rleft12_any r W hrs
                  obtain ⟨rt, hrt⟩ : ∃ rt, rt = ba (ltrim (bl r)) := ⟨_, rfl⟩
                  rw [← hrt] at HL2 HF
                  clear hr hu hrt hk0 HN HE
                  go_wp2_with (go_at_call 22; refine (HB.out _).mono ?_; rintro e w' ⟨rfl, rfl⟩; go_wp2_with fail)
                  go_quiet ((go_at_call 21; exact Calls.quiet_of_same (quiet_flip (HL2.out _))))
                  go_wp2_with fail
                  go_ret2
                  exact ⟨by rw [HF.out.1, HF.out.2] <;> rfl, ⟨HB1.out.os, HB1.out.tape, HB1.out.output, HB1.out.size, HB1.out.block⟩⟩
              by_cases e9 : c = 9
              · subst e9
                obtain rfl : cn = 9 := by rw [hcn]; rfl
                have HE : Hid (endsL ((bl z).drop k) = true) := by unfold Hid; rw [hen]; decide
                have hB : isB 9 = true := by decide
                rw [hB] at HB
                clear hB hen hc hcn HS hsm hsm'
                by_cases hk0 : k = 0
                · have hk0b : ((k : Int) == 0) = true := by simpa using hk0
                  have HF : Hid (_ ∧ _) := dirB_none z k HN.out (.inl hk0)
                  clear hk0 HN HE
                  go_wp2_with (go_at_call 22; refine (HB.out _).mono ?_; rintro e w' ⟨rfl, rfl⟩; go_wp2_with fail)
                  go_ret2
                  exact ⟨by rw [HF.out.1, HF.out.2] <;> rfl, HB1.out⟩
                · have hk0i : ¬ (k : Int) = 0 := by omega
                  have hk0b : ((k : Int) == 0) = false := by simpa using hk0i
                  have HF : Hid (_ ∧ _) := dirB_some z k HN.out hk0 HE.out
                  obtain ⟨r, hr⟩ : ∃ r, r = z.extract k z.size := ⟨_, rfl⟩
                  obtain ⟨u, hu⟩ : ∃ u, u = z.extract 0 k := ⟨_, rfl⟩
                  have hrs : r.size ≤ 1100000 := by rw [hr, ByteArray.size_extract]; omega
                  have hsl2 : ∀ W, (Instr.slice 9 (.string z) (some (.int .i64 (k : Int))) none none).run Tryd.prog W = .ok (.string r) W := by
                    intro W; rw [hr]; exact run_slice_string_l (P := Tryd.prog) W 9 z Tryd.underlying9 .i64 k (by omega) (by omega)
                  have hsu : ∀ W, (Instr.slice 9 (.string z) none (some (.int .i64 (k : Int))) none).run Tryd.prog W = .ok (.string u) W := by
                    intro W; rw [hu]; exact run_slice_string_h (P := Tryd.prog) W 9 z Tryd.underlying9 .i64 k (by omega) (by omega)
                  rw [← hr, ← hu] at HF
                  have HL2 : Hid (∀ W, Calls Tryd.prog 21 #[.string r] W fun e w' => e = .returned (.string (ba (ltrim (bl r)))) ∧ W = w') := fun W => rleft12_any r W hrs
                  obtain ⟨rt, hrt⟩ : ∃ rt, rt = ba (ltrim (bl r)) := ⟨_, rfl⟩
                  rw [← hrt] at HL2 HF
                  clear hr hu hrt hk0 HN HE
                  go_wp2_with (go_at_call 22; refine (HB.out _).mono ?_; rintro e w' ⟨rfl, rfl⟩; go_wp2_with fail)
                  go_quiet ((go_at_call 21; exact Calls.quiet_of_same (quiet_flip (HL2.out _))))
                  go_wp2_with fail
                  go_ret2
                  exact ⟨by rw [HF.out.1, HF.out.2] <;> rfl, ⟨HB1.out.os, HB1.out.tape, HB1.out.output, HB1.out.size, HB1.out.block⟩⟩
              by_cases e40 : c = 40
              · subst e40
                obtain rfl : cn = 40 := by rw [hcn]; rfl
                have HE : Hid (endsL ((bl z).drop k) = true) := by unfold Hid; rw [hen]; decide
                have hB : isB 40 = false := by decide
                rw [hB] at HB
                clear hB hen hc hcn HS hsm hsm'
                by_cases hk0 : k = 0
                · have hk0b : ((k : Int) == 0) = true := by simpa using hk0
                  have HF : Hid (_ ∧ _) := dirB_none z k HN.out (.inl hk0)
                  clear hk0 HN HE
                  go_wp2_with (go_at_call 22; refine (HB.out _).mono ?_; rintro e w' ⟨rfl, rfl⟩; go_wp2_with fail)
                  go_ret2
                  exact ⟨by rw [HF.out.1, HF.out.2] <;> rfl, HB1.out⟩
                · have hk0i : ¬ (k : Int) = 0 := by omega
                  have hk0b : ((k : Int) == 0) = false := by simpa using hk0i
                  have HF : Hid (_ ∧ _) := dirB_some z k HN.out hk0 HE.out
                  obtain ⟨r, hr⟩ : ∃ r, r = z.extract k z.size := ⟨_, rfl⟩
                  obtain ⟨u, hu⟩ : ∃ u, u = z.extract 0 k := ⟨_, rfl⟩
                  have hrs : r.size ≤ 1100000 := by rw [hr, ByteArray.size_extract]; omega
                  have hsl2 : ∀ W, (Instr.slice 9 (.string z) (some (.int .i64 (k : Int))) none none).run Tryd.prog W = .ok (.string r) W := by
                    intro W; rw [hr]; exact run_slice_string_l (P := Tryd.prog) W 9 z Tryd.underlying9 .i64 k (by omega) (by omega)
                  have hsu : ∀ W, (Instr.slice 9 (.string z) none (some (.int .i64 (k : Int))) none).run Tryd.prog W = .ok (.string u) W := by
                    intro W; rw [hu]; exact run_slice_string_h (P := Tryd.prog) W 9 z Tryd.underlying9 .i64 k (by omega) (by omega)
                  rw [← hr, ← hu] at HF
                  have HL2 : Hid (∀ W, Calls Tryd.prog 21 #[.string r] W fun e w' => e = .returned (.string (ba (ltrim (bl r)))) ∧ W = w') := fun W => rleft12_any r W hrs
                  obtain ⟨rt, hrt⟩ : ∃ rt, rt = ba (ltrim (bl r)) := ⟨_, rfl⟩
                  rw [← hrt] at HL2 HF
                  clear hr hu hrt hk0 HN HE
                  go_wp2_with (go_at_call 22; refine (HB.out _).mono ?_; rintro e w' ⟨rfl, rfl⟩; go_wp2_with fail)
                  go_quiet ((go_at_call 21; exact Calls.quiet_of_same (quiet_flip (HL2.out _))))
                  go_wp2_with fail
                  go_ret2
                  exact ⟨by rw [HF.out.1, HF.out.2] <;> rfl, ⟨HB1.out.os, HB1.out.tape, HB1.out.output, HB1.out.size, HB1.out.block⟩⟩
              by_cases e33 : c = 33
              · subst e33
                obtain rfl : cn = 33 := by rw [hcn]; rfl
                have HE : Hid (endsL ((bl z).drop k) = true) := by unfold Hid; rw [hen]; decide
                have hB : isB 33 = false := by decide
                rw [hB] at HB
                clear hB hen hc hcn HS hsm hsm'
                by_cases hk0 : k = 0
                · have hk0b : ((k : Int) == 0) = true := by simpa using hk0
                  have HF : Hid (_ ∧ _) := dirB_none z k HN.out (.inl hk0)
                  clear hk0 HN HE
                  go_wp2_with (go_at_call 22; refine (HB.out _).mono ?_; rintro e w' ⟨rfl, rfl⟩; go_wp2_with fail)
                  go_ret2
                  exact ⟨by rw [HF.out.1, HF.out.2] <;> rfl, HB1.out⟩
                · have hk0i : ¬ (k : Int) = 0 := by omega
                  have hk0b : ((k : Int) == 0) = false := by simpa using hk0i
                  have HF : Hid (_ ∧ _) := dirB_some z k HN.out hk0 HE.out
                  obtain ⟨r, hr⟩ : ∃ r, r = z.extract k z.size := ⟨_, rfl⟩
                  obtain ⟨u, hu⟩ : ∃ u, u = z.extract 0 k := ⟨_, rfl⟩
                  have hrs : r.size ≤ 1100000 := by rw [hr, ByteArray.size_extract]; omega
                  have hsl2 : ∀ W, (Instr.slice 9 (.string z) (some (.int .i64 (k : Int))) none none).run Tryd.prog W = .ok (.string r) W := by
                    intro W; rw [hr]; exact run_slice_string_l (P := Tryd.prog) W 9 z Tryd.underlying9 .i64 k (by omega) (by omega)
                  have hsu : ∀ W, (Instr.slice 9 (.string z) none (some (.int .i64 (k : Int))) none).run Tryd.prog W = .ok (.string u) W := by
                    intro W; rw [hu]; exact run_slice_string_h (P := Tryd.prog) W 9 z Tryd.underlying9 .i64 k (by omega) (by omega)
                  rw [← hr, ← hu] at HF
                  have HL2 : Hid (∀ W, Calls Tryd.prog 21 #[.string r] W fun e w' => e = .returned (.string (ba (ltrim (bl r)))) ∧ W = w') := fun W => rleft12_any r W hrs
                  obtain ⟨rt, hrt⟩ : ∃ rt, rt = ba (ltrim (bl r)) := ⟨_, rfl⟩
                  rw [← hrt] at HL2 HF
                  clear hr hu hrt hk0 HN HE
                  go_wp2_with (go_at_call 22; refine (HB.out _).mono ?_; rintro e w' ⟨rfl, rfl⟩; go_wp2_with fail)
                  go_quiet ((go_at_call 21; exact Calls.quiet_of_same (quiet_flip (HL2.out _))))
                  go_wp2_with fail
                  go_ret2
                  exact ⟨by rw [HF.out.1, HF.out.2] <;> rfl, ⟨HB1.out.os, HB1.out.tape, HB1.out.output, HB1.out.size, HB1.out.block⟩⟩
              by_cases e34 : c = 34
              · subst e34
                obtain rfl : cn = 34 := by rw [hcn]; rfl
                have HE : Hid (endsL ((bl z).drop k) = true) := by unfold Hid; rw [hen]; decide
                have hB : isB 34 = false := by decide
                rw [hB] at HB
                clear hB hen hc hcn HS hsm hsm'
                by_cases hk0 : k = 0
                · have hk0b : ((k : Int) == 0) = true := by simpa using hk0
                  have HF : Hid (_ ∧ _) := dirB_none z k HN.out (.inl hk0)
                  clear hk0 HN HE
                  go_wp2_with (go_at_call 22; refine (HB.out _).mono ?_; rintro e w' ⟨rfl, rfl⟩; go_wp2_with fail)
                  go_ret2
                  exact ⟨by rw [HF.out.1, HF.out.2] <;> rfl, HB1.out⟩
                · have hk0i : ¬ (k : Int) = 0 := by omega
                  have hk0b : ((k : Int) == 0) = false := by simpa using hk0i
                  have HF : Hid (_ ∧ _) := dirB_some z k HN.out hk0 HE.out
                  obtain ⟨r, hr⟩ : ∃ r, r = z.extract k z.size := ⟨_, rfl⟩
                  obtain ⟨u, hu⟩ : ∃ u, u = z.extract 0 k := ⟨_, rfl⟩
                  have hrs : r.size ≤ 1100000 := by rw [hr, ByteArray.size_extract]; omega
                  have hsl2 : ∀ W, (Instr.slice 9 (.string z) (some (.int .i64 (k : Int))) none none).run Tryd.prog W = .ok (.string r) W := by
                    intro W; rw [hr]; exact run_slice_string_l (P := Tryd.prog) W 9 z Tryd.underlying9 .i64 k (by omega) (by omega)
                  have hsu : ∀ W, (Instr.slice 9 (.string z) none (some (.int .i64 (k : Int))) none).run Tryd.prog W = .ok (.string u) W := by
                    intro W; rw [hu]; exact run_slice_string_h (P := Tryd.prog) W 9 z Tryd.underlying9 .i64 k (by omega) (by omega)
                  rw [← hr, ← hu] at HF
                  have HL2 : Hid (∀ W, Calls Tryd.prog 21 #[.string r] W fun e w' => e = .returned (.string (ba (ltrim (bl r)))) ∧ W = w') := fun W => rleft12_any r W hrs
                  obtain ⟨rt, hrt⟩ : ∃ rt, rt = ba (ltrim (bl r)) := ⟨_, rfl⟩
                  rw [← hrt] at HL2 HF
                  clear hr hu hrt hk0 HN HE
                  go_wp2_with (go_at_call 22; refine (HB.out _).mono ?_; rintro e w' ⟨rfl, rfl⟩; go_wp2_with fail)
                  go_quiet ((go_at_call 21; exact Calls.quiet_of_same (quiet_flip (HL2.out _))))
                  go_wp2_with fail
                  go_ret2
                  exact ⟨by rw [HF.out.1, HF.out.2] <;> rfl, ⟨HB1.out.os, HB1.out.tape, HB1.out.output, HB1.out.size, HB1.out.block⟩⟩
              have hbF : isB c = false := by unfold isB; simp [e32, e9]
              have HE : Hid (endsL ((bl z).drop k) = false) := by unfold Hid; rw [hen]; simp [e32, e9, e40, e33, e34]
              rw [hbF] at HB
              have u40 : ¬ cn = 40 := fun e => e40 (UInt8.toNat_inj.1 (by have h : (c.toNat : Int) = 40 := hcn.symm.trans e; have h2 : c.toNat = 40 := (by omega); exact h2))
              have u33 : ¬ cn = 33 := fun e => e33 (UInt8.toNat_inj.1 (by have h : (c.toNat : Int) = 33 := hcn.symm.trans e; have h2 : c.toNat = 33 := (by omega); exact h2))
              have u34 : ¬ cn = 34 := fun e => e34 (UInt8.toNat_inj.1 (by have h : (c.toNat : Int) = 34 := hcn.symm.trans e; have h2 : c.toNat = 34 := (by omega); exact h2))
              have b40 : (cn == 40) = false := by simpa using u40
              have b33 : (cn == 33) = false := by simpa using u33
              have b34 : (cn == 34) = false := by simpa using u34
              by_cases h1 : 97 ≤ cn
              · have h2 : ¬ cn ≤ 122 := fun h => hsm (by rw [HS.out]; simp [h1, h])
                clear hbF hen hc hcn HS hsm hsm' e32 e9 e40 e33 e34
                by_cases hk0 : k = 0
                · have hk0b : ((k : Int) == 0) = true := by simpa using hk0
                  have HF : Hid (_ ∧ _) := dirB_none z k HN.out (.inl hk0)
                  clear hk0 HN HE
                  go_wp2_with (go_at_call 22; refine (HB.out _).mono ?_; rintro e w' ⟨rfl, rfl⟩; go_wp2_with fail)
                  go_ret2
                  exact ⟨by rw [HF.out.1, HF.out.2] <;> rfl, HB1.out⟩
                · have hk0i : ¬ (k : Int) = 0 := by omega
                  have hk0b : ((k : Int) == 0) = false := by simpa using hk0i
                  have HF : Hid (_ ∧ _) := dirB_none z k HN.out (.inr HE.out)
                  clear hk0 HN HE
                  go_wp2_with (go_at_call 22; refine (HB.out _).mono ?_; rintro e w' ⟨rfl, rfl⟩; go_wp2_with fail)
                  go_ret2
                  exact ⟨by rw [HF.out.1, HF.out.2] <;> rfl, HB1.out⟩
              · clear hbF hen hc hcn HS hsm hsm' e32 e9 e40 e33 e34
                by_cases hk0 : k = 0
                · have hk0b : ((k : Int) == 0) = true := by simpa using hk0
                  have HF : Hid (_ ∧ _) := dirB_none z k HN.out (.inl hk0)
                  clear hk0 HN HE
                  go_wp2_with (go_at_call 22; refine (HB.out _).mono ?_; rintro e w' ⟨rfl, rfl⟩; go_wp2_with fail)
                  go_ret2
                  exact ⟨by rw [HF.out.1, HF.out.2] <;> rfl, HB1.out⟩
                · have hk0i : ¬ (k : Int) = 0 := by omega
                  have hk0b : ((k : Int) == 0) = false := by simpa using hk0i
                  have HF : Hid (_ ∧ _) := dirB_none z k HN.out (.inr HE.out)
                  clear hk0 HN HE
                  go_wp2_with (go_at_call 22; refine (HB.out _).mono ?_; rintro e w' ⟨rfl, rfl⟩; go_wp2_with fail)
                  go_ret2
                  exact ⟨by rw [HF.out.1, HF.out.2] <;> rfl, HB1.out⟩
          · have hkz : k = z.size := by omega
            subst hkz
            have HN : Hid (((bl z).takeWhile small).length = z.size) := by
              unfold Hid; rw [HA.out, List.drop_of_length_le (by rw [bl_length]; omega)]; rfl
            have HE : Hid (endsL ((bl z).drop z.size) = true) := ends_end z
            clear HA
            have hil : ¬ (z.size : Int) < (z.size : Int) := by omega
            by_cases hk0 : z.size = 0
            · have hk0b : ((z.size : Int) == 0) = true := by simpa using hk0
              have HF : Hid (_ ∧ _) := dirB_none z z.size HN.out (.inl hk0)
              clear hk0 HN HE
              go_wp2_with fail
              go_ret2
              exact ⟨by rw [HF.out.1, HF.out.2] <;> rfl, HB1.out⟩
            · have hk0i : ¬ (z.size : Int) = 0 := by omega
              have hk0b : ((z.size : Int) == 0) = false := by simpa using hk0i
              have HF : Hid (_ ∧ _) := dirB_some z z.size HN.out hk0 HE.out
              obtain ⟨r, hr⟩ : ∃ r, r = z.extract z.size z.size := ⟨_, rfl⟩
              obtain ⟨u, hu⟩ : ∃ u, u = z.extract 0 z.size := ⟨_, rfl⟩
              have hrs : r.size ≤ 1100000 := by rw [hr, ByteArray.size_extract]; omega
              have hsl2 : ∀ W, (Instr.slice 9 (.string z) (some (.int .i64 (z.size : Int))) none none).run Tryd.prog W = .ok (.string r) W := by
                intro W; rw [hr]; exact run_slice_string_l (P := Tryd.prog) W 9 z Tryd.underlying9 .i64 z.size (by omega) (by omega)
              have hsu : ∀ W, (Instr.slice 9 (.string z) none (some (.int .i64 (z.size : Int))) none).run Tryd.prog W = .ok (.string u) W := by
                intro W; rw [hu]; exact run_slice_string_h (P := Tryd.prog) W 9 z Tryd.underlying9 .i64 z.size (by omega) (by omega)
              rw [← hr, ← hu] at HF
              have HL2 : Hid (∀ W, Calls Tryd.prog 21 #[.string r] W fun e w' => e = .returned (.string (ba (ltrim (bl r)))) ∧ W = w') := fun W => rleft12_any r W hrs
              obtain ⟨rt, hrt⟩ : ∃ rt, rt = ba (ltrim (bl r)) := ⟨_, rfl⟩
              rw [← hrt] at HL2 HF
              clear hr hu hrt hk0 HN HE
              go_wp2_with fail
              go_quiet ((go_at_call 21; exact Calls.quiet_of_same (quiet_flip (HL2.out _))))
              go_wp2_with fail
              go_ret2
              exact ⟨by rw [HF.out.1, HF.out.2] <;> rfl, ⟨HB1.out.os, HB1.out.tape, HB1.out.output, HB1.out.size, HB1.out.block⟩⟩
      · have hct : (cutDot xt).2 = false := by unfold cutDot; rw [hd]; simp [hc]
        obtain ⟨rfl, rfl⟩ := hno (.inr hct)
        obtain ⟨cn, hcn⟩ : ∃ cn : Int, cn = (xt[0].toNat : Int) := ⟨_, rfl⟩
        have hgk : (xt[0].toNat : Int) = cn := hcn.symm
        have u46 : ¬ cn = 46 := fun e => hc (UInt8.toNat_inj.1 (by show xt[0].toNat = 46; omega))
        have b46 : (cn == 46) = false := by simpa using u46
        clear hc hcn hct hno hyes hd s1 s2 h0
        go_enter Tryd.func12, Tryd.ntmps12
        go_wp2_with fail
        rw [← hw1]
        go_ret2
        exact ⟨rfl, HB1.out⟩
end Go.Proofs.YtgbleikjdecikaaDoor

/-
  What the law's far, theirs, ours, one answer; whether two lists of lines are the same.
-/
namespace Go.Proofs.YtgbleikjdecikaaDoor
open Go.RowKit Go.Shelf

/-- Are lines too many, or too long? -/
def farZ (l : List Lz) : Bool := l.any (fun x => decide (2000 < x.text.size)) || decide (400 < l.length)
set_option maxRecDepth 20000 in
set_option maxHeartbeats 400000 in
theorem far_any (v : Value) (l : List Lz) (w : World) (hl : l.length ≤ 9223372036854775807) (hs : ∀ x ∈ l, x.text.size ≤ 9223372036854775807) (hW : LZ w.heap.size w v l) :
    Calls Tryd.prog 5 #[v] w fun e w' => e = .returned (.bool (farZ l)) ∧ Below w.heap.size w w' := by
  obtain ⟨a, c, rfl, hc⟩ := hW.slice
  obtain ⟨n, hn⟩ : ∃ n, n = l.length := ⟨_, rfl⟩
  rw [← hn] at hl hc hW
  have HW : Hid (n = l.length ∧ LZ w.heap.size w (.slice a n c) l ∧ ∀ x ∈ l, x.text.size ≤ 9223372036854775807) := ⟨hn, hW, hs⟩
  rw [← hn]
  clear hn hW hs
  go_enter Tryd.func5, Tryd.ntmps5
  go_wp2
  go_loopw [7] (fun vi wr => ∃ k : Nat, k ≤ n ∧ vi = .int .i64 (k : Int) ∧ Hid (Below w.heap.size w wr ∧ (l.any (fun x => decide (2000 < x.text.size)) = (l.drop k).any (fun x => decide (2000 < x.text.size))))) (fun vi _ => n - (intOf vi).toNat)
  case atStart => exact ⟨0, Nat.zero_le _, rfl, Below.refl _ _, by simp⟩
  case round =>
    obtain ⟨k, hk, rfl, HI⟩ := hrel
    by_cases hlt : k < n
    · have hil : (k : Int) < (n : Int) := by omega
      have hkl : k < l.length := by rw [← HW.out.1]; exact hlt
      obtain ⟨x, hx⟩ : ∃ x, l[k]? = some x := ⟨_, List.getElem?_eq_getElem hkl⟩
      obtain ⟨bb, oo, rfl, hbB, d0, d1, d2⟩ := HW.out.2.1.pick hx
      have hxs := HW.out.2.2 x (List.mem_of_getElem? hx)
      have c0 := (HI.out.1.cell (p := ⟨bb, oo + k * 3, none⟩) hbB).trans d0
      have c1 := (HI.out.1.cell (p := ⟨bb, oo + k * 3 + 1, none⟩) hbB).trans d1
      have c2 := (HI.out.1.cell (p := ⟨bb, oo + k * 3 + 2, none⟩) hbB).trans d2
      have hdr : (l.drop k).any (fun x => decide (2000 < x.text.size)) = (decide (2000 < x.text.size) || (l.drop (k + 1)).any (fun x => decide (2000 < x.text.size))) := by
        rw [List.drop_eq_getElem_cons hkl]
        rw [List.getElem?_eq_getElem hkl] at hx
        simp at hx; rw [hx, List.any_cons]
      have HD : Hid _ := hdr
      have hwb := HI.out.1
      have HWB : Hid (Below w.heap.size w (wr.alloc (.cells #[.string x.text, .int .i64 x.at_, .bool x.cmd] 38))) := hwb.alloc hwb.size _
      clear d0 d1 d2 hx hdr hwb hbB
      obtain ⟨xt, xa, xc⟩ := x
      simp only at c0 c1 c2 hxs HD HWB
      by_cases h2 : 2000 < xt.size
      · have h2i : (2000 : Int) < (xt.size : Int) := by omega
        have HF : Hid (farZ l = true) := by unfold Hid farZ; rw [HI.out.2, HD.out]; simp [h2]
        go_wp2
        go_ret
        exact ⟨ret_bool HF.out.symm, HWB.out⟩
      · have h2i : ¬ (2000 : Int) < (xt.size : Int) := by omega
        have HF : Hid (l.any (fun x => decide (2000 < x.text.size)) = (l.drop (k + 1)).any (fun x => decide (2000 < x.text.size))) := by unfold Hid; rw [HI.out.2, HD.out]; simp [h2]
        go_wp2
        go_roundw
        case rel => exact ⟨k + 1, by omega, by go_num, HWB.out, HF.out⟩
        case measure => simp [intOf]; omega
    · have hil : ¬ (k : Int) < (n : Int) := by omega
      have HF : Hid (farZ l = decide (400 < n)) := by
        unfold Hid farZ
        rw [HI.out.2, List.drop_of_length_le (by have := HW.out.1; omega), ← HW.out.1]; rfl
      by_cases h4 : 400 < n
      · have h4i : (400 : Int) < (n : Int) := by omega
        have HF2 : Hid (farZ l = true) := by unfold Hid; rw [HF.out]; simp [h4]
        go_wp2
        go_ret
        exact ⟨ret_bool HF2.out.symm, HI.out.1⟩
      · have h4i : ¬ (400 : Int) < (n : Int) := by omega
        have HF2 : Hid (farZ l = false) := by unfold Hid; rw [HF.out]; simp [h4]
        go_wp2
        go_ret
        exact ⟨ret_bool HF2.out.symm, HI.out.1⟩
theorem far_no {l : List Lz} (h : farZ l = false) : l.length ≤ 400 ∧ ∀ x ∈ l, x.text.size ≤ 2000 := by
  unfold farZ at h
  rw [Bool.or_eq_false_iff] at h
  refine ⟨by simpa using h.2, fun x hx => ?_⟩
  have := (List.any_eq_false.1 h.1) x hx
  simpa using this
set_option maxRecDepth 20000 in
set_option maxHeartbeats 800000 in
theorem theirs_any (v : Value) (l : List Lz) (w : World) (hl : l.length ≤ 4000000) (hW : LZ w.heap.size w v l) :
    Calls Tryd.prog 8 #[v] w fun e w' => ∃ v', e = .returned v' ∧ w'.ownsRow w.heap.size 43 3 v' l.length (lzsV l) ∧ Below w.heap.size w w' := by
  obtain ⟨i0, hi, hz0, hz1, hz2⟩ := info_of infoL
  obtain ⟨a, c, rfl, hc⟩ := hW.slice
  obtain ⟨n, hn⟩ : ∃ n, n = l.length := ⟨_, rfl⟩
  rw [← hn] at hl hc hW
  have HW : Hid (n = l.length ∧ LZ w.heap.size w (.slice a n c) l) := ⟨hn, hW⟩
  rw [← hn]
  clear hn hW
  go_enter Tryd.func8, Tryd.ntmps8
  go_wp2
  go_loopw [3, 8] (fun v vi wr => ∃ k : Nat, k ≤ n ∧ vi = .int .i64 (k : Int) ∧ wr.ownsRow w.heap.size 43 3 v k (lzsV (l.take k)) ∧ Below w.heap.size w wr) (fun _ vi _ => n - (intOf vi).toNat)
  case atStart => exact ⟨0, Nat.zero_le _, rfl, owns_nil _ _ _ _, Below.refl _ _⟩
  case round =>
    obtain ⟨k, hk, rfl, hown, hb⟩ := hrel
    have hbs := hb.size
    by_cases hlt : k < n
    · have hil : (k : Int) < (n : Int) := by omega
      have hkl : k < l.length := by rw [← HW.out.1]; exact hlt
      obtain ⟨x, hx⟩ : ∃ x, l[k]? = some x := ⟨l[k], List.getElem?_eq_getElem hkl⟩
      obtain ⟨b, o, rfl, hbB, d0, d1, d2⟩ := HW.out.2.pick hx
      have c0 : wr.cell? ⟨b, o + k * 3, none⟩ = some (.string x.text) := by rw [hb.cell (p := ⟨b, _, none⟩) hbB]; exact d0
      have c1 : wr.cell? ⟨b, o + k * 3 + 1, none⟩ = some (.int .i64 x.at_) := by rw [hb.cell (p := ⟨b, _, none⟩) hbB]; exact d1
      have c2 : wr.cell? ⟨b, o + k * 3 + 2, none⟩ = some (.bool x.cmd) := by rw [hb.cell (p := ⟨b, _, none⟩) hbB]; exact d2
      have HT : Hid (l.take (k + 1) = l.take k ++ [x]) := by
        unfold Hid
        rw [List.take_succ_eq_append_getElem hkl]
        rw [List.getElem?_eq_getElem hkl] at hx
        simp at hx; rw [hx]
      obtain ⟨xt, xa, xc⟩ := x
      simp only at c0 c1 c2
      have HZ : Hid (lzC ⟨xt, xa, xc⟩ = [.string xt, .int .i64 xa, .bool xc]) := rfl
      obtain ⟨wa, hwa⟩ : ∃ wa, wa = wr.alloc (.cells #[.string xt, .int .i64 xa, .bool xc] 38) := ⟨_, rfl⟩
      clear d0 d1 d2 hx
      go_wp2_with (at_builtin; refine wpList_append_own _ rfl _ _ 31 rfl w.heap.size 43 i0 (.agg #[.string ⟨#[]⟩, .int .i64 0, .bool false]) 3 32 Tryd.underlying31 hi hz0 hz1 hz2 rfl (by decide) _ _ _ rfl ((hown.alloc _).alloc _) ⟨wr.heap.size + 1, 0, none⟩ 1 1 [.string xt, .int .i64 xa, .bool xc] rfl rfl ?c1 ?c2 ?c3 ?c4 ?c5 ?_)
      case c1 =>
        intro j u hj
        rw [add_none, Nat.zero_add]
        refine cell_in (cs := #[.string xt, .int .i64 xa, .bool xc]) (T := 43) ?_ j (by simpa using hj)
        have hsz : (wr.alloc (.cells #[.string xt, .int .i64 xa, .bool xc] 38)).heap.size = wr.heap.size + 1 := by simp
        rw [← hsz]
        exact alloc_last _ _
      case c2 => exact fun u hu => lz_one ⟨xt, xa, xc⟩ u hu
      case c3 => unfold maxLen; omega
      case c4 => omega
      case c5 => simp; omega
      intro v' w2 hown' hgrow _
      have hb3 : Below w.heap.size w w2 := ((hb.alloc hbs _).alloc (by simp; omega) _).grown hgrow (by simp; omega) (fun k hk => (hown.lt k hk).1)
      have hown2 : w2.ownsRow w.heap.size 43 3 v' (k + 1) (lzsV (l.take (k + 1))) := by
        rw [HT.out, lzsV_snoc, HZ.out]; exact hown'
      clear hown' hgrow hown hb hwa c0 c1 c2
      go_wp2
      go_roundw
      case rel => exact ⟨k + 1, by omega, by go_num, hown2, hb3⟩
      case measure => simp [intOf]; omega
    · obtain rfl : k = n := by omega
      have HO : Hid (wr.ownsRow w.heap.size 43 3 u3 k (lzsV l)) := by
        have h := hown
        rw [HW.out.1, List.take_length] at h
        rw [HW.out.1]; exact h
      clear hown
      go_wp2
      go_ret
      exact ⟨_, rfl, HO, hb⟩
end Go.Proofs.YtgbleikjdecikaaDoor

/-
  Whether two lists of lines are the same, by the document.
-/
namespace Go.Proofs.YtgbleikjdecikaaDoor
open Go.RowKit Go.Shelf

theorem below_dn {B : Nat} {w w1 : World} (h : Below B w w1) : ∀ n, Below B w (w1.drewN n)
  | 0 => h
  | n + 1 => (below_dn h n).drew
def SamePost (l m : List Lz) (w : World) (e : Ending) (w' : World) : Prop := ∃ (b : Bool), e = .returned (.bool b) ∧ (b = true ↔ l = m) ∧ Below w.heap.size w w'

set_option maxRecDepth 20000 in
set_option maxHeartbeats 800000 in
theorem rsame_any (v1 v2 : Value) (l m : List Lz) (B : Nat) (w : World) (hl : l.length ≤ 4000000) (hm : m.length ≤ 4000000) (h1 : LZ B w v1 l) (h2 : LZ B w v2 m) :
    Calls Tryd.prog 13 #[v1, v2] w (SamePost l m w) := by
  obtain ⟨a1, c1, rfl, hc1⟩ := h1.slice
  obtain ⟨a2, c2, rfl, hc2⟩ := h2.slice
  obtain ⟨n, hn⟩ : ∃ n, n = l.length := ⟨_, rfl⟩
  obtain ⟨n2, hn2⟩ : ∃ n, n = m.length := ⟨_, rfl⟩
  rw [← hn] at hl hc1 h1
  rw [← hn2] at hm hc2 h2
  have HW : Hid (n = l.length ∧ n2 = m.length ∧ LZ B w (.slice a1 n c1) l ∧ LZ B w (.slice a2 n2 c2) m) := ⟨hn, hn2, h1, h2⟩
  rw [← hn, ← hn2]
  clear hn hn2 h1 h2
  by_cases hne : n = n2
  · subst hne
    go_enter Tryd.func13, Tryd.ntmps13
    go_wp2
    go_loopw [5] (fun vi wr => ∃ k q : Nat, k ≤ n ∧ vi = .int .i64 (k : Int) ∧ wr = w.drewN q ∧ Hid (l.take k = m.take k)) (fun vi _ => n - (intOf vi).toNat)
    case atStart => exact ⟨0, 0, Nat.zero_le _, rfl, rfl, by simp [Hid]⟩
    case round =>
      obtain ⟨k, q, hk, rfl, rfl, HT⟩ := hrel
      by_cases hlt : k < n
      · have hil : (k : Int) < (n : Int) := by omega
        have hkl : k < l.length := by rw [← HW.out.1]; exact hlt
        have hkm : k < m.length := by rw [← HW.out.2.1]; exact hlt
        obtain ⟨b, o, rfl, hbB, d0, d1, d2⟩ := HW.out.2.2.1.pick (List.getElem?_eq_getElem hkl)
        obtain ⟨b', o', rfl, hbB', d0', d1', d2'⟩ := HW.out.2.2.2.pick (List.getElem?_eq_getElem hkm)
        have hne := neq52 l[k].text m[k].text l[k].at_ m[k].at_ l[k].cmd m[k].cmd
        have HS : Hid (sameZ l[k] m[k] = (l[k].text == m[k].text && (l[k].at_ == m[k].at_ && l[k].cmd == m[k].cmd))) := rfl
        have HTl : Hid (l.take (k + 1) = l.take k ++ [l[k]]) := List.take_succ_eq_append_getElem hkl
        have HTm : Hid (m.take (k + 1) = m.take k ++ [m[k]]) := List.take_succ_eq_append_getElem hkm
        have HL : Hid (l[k]? = some l[k] ∧ m[k]? = some m[k]) := ⟨List.getElem?_eq_getElem hkl, List.getElem?_eq_getElem hkm⟩
        obtain ⟨x, hx⟩ : ∃ x, x = l[k] := ⟨_, rfl⟩
        obtain ⟨y, hy⟩ : ∃ y, y = m[k] := ⟨_, rfl⟩
        rw [← hx] at d0 d1 d2 HTl HL
        rw [← hy] at d0' d1' d2' HTm HL
        rw [← hx, ← hy] at hne HS
        clear hx hy
        obtain ⟨xt, xa, xc⟩ := x
        obtain ⟨yt, ya, yc⟩ := y
        simp only at d0 d1 d2 d0' d1' d2' hne
        cases hs : sameZ ⟨xt, xa, xc⟩ ⟨yt, ya, yc⟩ with
        | true =>
          have HT1 : Hid (l.take (k + 1) = m.take (k + 1)) := by unfold Hid; rw [HTl.out, HTm.out, HT.out, (sameZ_iff _ _).1 hs]
          have hse := HS.out
          rw [hs] at hse
          simp only at hse
          rw [← hse] at hne
          clear hse hs HS HTl HTm HL
          simp only [Bool.not_true] at hne
          go_wp2
          go_quiet (fail)
          go_wp2
          go_roundw
          case rel => exact ⟨k + 1, _, by omega, by go_num, rfl, HT1⟩
          case measure => simp [intOf]; omega
        | false =>
          have HNE : Hid (¬ l = m) := fun e => by
            have h := HL.out
            rw [e] at h
            have := h.1.symm.trans h.2
            have h3 := (sameZ_iff ⟨xt, xa, xc⟩ ⟨yt, ya, yc⟩).2 (Option.some.inj this)
            rw [hs] at h3; cases h3
          have hse := HS.out
          rw [hs] at hse
          simp only at hse
          rw [← hse] at hne
          clear hse hs HS HTl HTm HL
          simp only [Bool.not_false] at hne
          go_wp2
          go_quiet (fail)
          go_wp2
          go_ret
          exact ⟨false, rfl, ⟨fun h => (by cases h), fun h => absurd h HNE.out⟩, below_dn (below_dn (Below.refl _ _) _) _⟩
      · have HE : Hid (l = m) := by
          have h := HT.out
          have h1 := HW.out.1
          have h2 := HW.out.2.1
          rw [List.take_of_length_le (by omega), List.take_of_length_le (by omega)] at h
          exact h
        go_wp2
        go_ret
        exact ⟨true, rfl, ⟨fun _ => HE.out, fun _ => rfl⟩, below_dn (Below.refl _ _) _⟩
  · have hni : ¬ (n : Int) = (n2 : Int) := by omega
    have hnb : ((n : Int) == (n2 : Int)) = false := by simpa using hni
    go_enter Tryd.func13, Tryd.ntmps13
    go_wp2
    go_ret
    refine ⟨false, rfl, ⟨fun h => (by cases h), fun h => ?_⟩, Below.refl _ _⟩
    have h1 := HW.out.1
    have h2 := HW.out.2.1
    rw [h] at h1
    exact absurd (h1.trans h2.symm) hne

end Go.Proofs.YtgbleikjdecikaaDoor

/-
  LoopAll at every list of lines.
-/
namespace Go.Proofs.YtgbleikjdecikaaDoor
open Go.RowKit Go.Shelf
open Ex (Fr)

theorem blocksH_step (r : Nat) (ih : BlocksH r) : BlocksH (r + 1) := by
  intro H v ts W left hH hk hl hr hl2
  obtain ⟨css, h1, h2⟩ := hk
  have hlen := h2.length
  rcases h1 with ⟨rfl, rfl⟩ | ⟨g, c, rfl, hc, hg, hgH, hcells⟩
  · have : ts = [] := List.length_eq_zero_iff.1 hlen.symm
    subst this
    exact (blocks_nil W left hl2).mono fun e w' h => ⟨none, 0, 0, h.1, ⟨[], .inl ⟨rfl, rfl⟩, .nil⟩, fun _ => rfl, by rw [← h.2]; exact Below.refl _ _⟩
  · have := loadN_length ts
    exact blocks_row r ih H g css.length c css ts W left hr hl2 hH hlen hg hgH hcells h2 hl hc (by omega)
/-- The law's blocks answers the same blocks. -/
theorem blocks_all : ∀ r, BlocksH r
  | 0 => blocksH_zero
  | r + 1 => blocksH_step r (blocks_all r)

set_option maxRecDepth 20000 in
theorem eqFault (x y c d : Int) (w : World) : Sem.run Tryd.prog (Op.equalIn 10000 28 (.agg #[.int .i64 x, .int .i64 y]) (.agg #[.int .i64 c, .int .i64 d])) w = .ok (x == c && y == d) w := by
  rw [run_equalIn_agg w 9999 28 _ _ (by kernel_rfl) (by kernel_rfl)]
  simp only [Program.fieldsOf, Tryd.underlying28]
  have p0 : ∀ (x y : Int) (w : World), (part 26 #[.int .i64 x, .int .i64 y] 0).run Tryd.prog w = .ok (.int .i64 x) w := fun x y w => by kernel_rfl
  have p1 : ∀ (x y : Int) (w : World), (part 3 #[.int .i64 x, .int .i64 y] 1).run Tryd.prog w = .ok (.int .i64 y) w := fun x y w => by kernel_rfl
  have q0 := run_equalIn_int (P := Tryd.prog) w 9998 26 .i64 .i64 x c Tryd.underlying26
  have q1 := run_equalIn_int (P := Tryd.prog) w 9998 3 .i64 .i64 y d Tryd.underlying3
  generalize (x == c) = u at q0 ⊢
  generalize (y == d) = v at q1 ⊢
  simp only [Op.eqFields, Sem.run_bind, Sem.run_ite, p0, p1, Result.andThen_ok, q0, q1]
  cases u <;> cases v <;> simp
theorem neqFault (x y c d : Int) (w : World) : Sem.run Tryd.prog (binOp .neq 28 (.agg #[.int .i64 x, .int .i64 y]) (.agg #[.int .i64 c, .int .i64 d])) w = .ok (.bool (!(x == c && y == d))) w := by
  rw [run_neq_struct, eqFault]; rfl
theorem step_bad {s : Sx} {x : Lz} {e : Int} (h : s.step x = .bad e) : e = 5 ∨ e = 3 := by
  unfold Sx.step at h
  split at h
  · split at h
    · cases h; exact .inl rfl
    · cases h
  · split at h
    · cases h; exact .inr rfl
    · split at h
      · cases h; exact .inl rfl
      · cases h
  · split at h
    · split at h
      · cases h; exact .inr rfl
      · cases h
    · cases h; exact .inr rfl
  · split at h
    · split at h
      · cases h; exact .inr rfl
      · cases h
    · cases h; exact .inr rfl
  · split at h
    · split at h
      · cases h; exact .inr rfl
      · cases h
    · cases h; exact .inr rfl
  · cases h
theorem run_bad0 : ∀ (l : List Lz) (s : Sx) {e a : Int}, s.run l = .bad e a → (e == 0) = false
  | [], s, e, a, h => by
    unfold Sx.run at h
    split at h
    · cases h; rfl
    · cases h
  | x :: l, s, e, a, h => by
    unfold Sx.run at h
    split at h
    · rename_i h'
      cases h
      rcases step_bad h' with rfl | rfl <;> rfl
    · exact run_bad0 l _ h
theorem ne_txt {x : ByteArray} {l : List UInt8} (h : ¬ x = ⟨l.toArray⟩) : ¬ x.toList = l ∧ (x.toList == l) = false := by
  have h1 : ¬ x.toList = l := by rw [Lib.toList_data]; exact fun e => h (by rw [← e])
  exact ⟨h1, by simpa using h1⟩
theorem filter_take {l : List Lz} {k : Nat} {x : Lz} (h : l[k]? = some x) : (l.take (k + 1)).filter isPl = (l.take k).filter isPl ++ (if isPl x = true then [x] else []) := by
  rw [List.take_add_one, h, List.filter_append]
  cases hp : isPl x <;> simp [hp]

set_option maxRecDepth 20000 in
set_option maxHeartbeats 4000000 in
theorem all_law (v : Value) (l : List Lz) (w : World) (hl : l.length ≤ 9223372036854775807) (hs : ∀ x ∈ l, x.text.size ≤ 9223372036854775807) (hW : LZ w.heap.size w v l) (hm : Mx w) :
    Calls Tryd.prog 4 #[v] w fun e w' => e = .returned (.bool true) ∧ Below w.heap.size w w' := by
  have HA : Hid (∀ W, Below w.heap.size w W → Calls Tryd.prog 6 #[] W fun e w' => e = .returned (.bool true) ∧ Below w.heap.size w w') := fun W hW => (alive_any W (hm.below hW hm.pos)).mono fun e w' h => ⟨h.1, hW.trans (h.2.mono hW.size)⟩
  have HFA : Hid (Calls Tryd.prog 5 #[v] w fun e w' => e = .returned (.bool (farZ l)) ∧ Below w.heap.size w w') := far_any v l w hl hs hW
  obtain ⟨va, vc, rfl, hvc⟩ := hW.slice
  cases hfar : farZ l with
  | true =>
    rw [hfar] at HFA
    clear hfar
    go_enter Tryd.func4, Tryd.ntmps4
    go_wp2_with fail
    refine HFA.out.mono ?_
    rintro e w1 ⟨rfl, h1⟩
    have H1 : Hid _ := h1
    clear h1
    go_wp2_with fail
    refine (HA.out _ H1.out).mono ?_
    rintro e w2 ⟨rfl, h2⟩
    have H2 : Hid _ := h2
    clear h2
    go_wp2
    go_ret
    exact ⟨rfl, H2.out⟩
  | false =>
    rw [hfar] at HFA
    obtain ⟨hl4, hs4⟩ := far_no hfar
    obtain ⟨n, hn⟩ : ∃ n, n = l.length := ⟨_, rfl⟩
    rw [← hn] at hl4 hvc HFA hW ⊢
    have HTB : Hid (∀ W, Below w.heap.size w W → Calls Tryd.prog 8 #[.slice va n vc] W fun e w' => ∃ a c, e = .returned (.slice a n c) ∧ LZ w'.heap.size w' (.slice a n c) l ∧ Below w.heap.size w w') := fun W hWb =>
      (theirs_any _ l W (by omega) ((hW.below hWb).mono hWb.size)).mono fun e w' ⟨v', h1, h2, h3⟩ => by
        obtain ⟨a, c, rfl⟩ := V.owns_slice h2
        exact ⟨a, c, by rw [h1, hn], by rw [hn]; exact lz_of_owns h2 (Nat.le_refl _), hWb.trans (h3.mono hWb.size)⟩
    have HV : Hid (n = l.length ∧ LZ w.heap.size w (.slice va n vc) l ∧ (∀ x ∈ l, x.text.size ≤ 2000)) := ⟨hn, hW, hs4⟩
    have hneq := fun y z W => neqFault y z 0 0 W
    clear hfar hs hl hW hm hs4 hn
    go_enter Tryd.func4, Tryd.ntmps4
    go_wp2_with fail
    refine HFA.out.mono ?_
    rintro e w1 ⟨rfl, h1⟩
    have H1 : Hid _ := h1
    clear h1
    go_wp2_with fail
    refine (HTB.out _ H1.out).mono ?_
    rintro e w2 ⟨ta, tc, rfl, h2, h3⟩
    have HBu : Hid (Calls Tryd.prog 7 #[.slice ta n tc] w2 (BuildPost l w2)) := build_any _ l w2 (by have := HV.out.1; omega) (fun x hx => by have := HV.out.2.2 x hx; omega) h2
    have H2 : Hid (Below w.heap.size w w2) := h3
    clear h2 h3
    go_wp2_with fail
    refine HBu.out.mono ?_
    intro e w3 hP
    unfold BuildPost at hP
    cases hbl : buildL l with
    | bad k a =>
      rw [hbl] at hP
      obtain ⟨rfl, h3⟩ := hP
      have hk0 := run_bad0 l _ hbl
      have hne : (!(k == 0 && a == 0)) = true := by rw [hk0]; rfl
      have H3 : Hid (Below w.heap.size w (w3.alloc (.cells #[.int .i64 k, .int .i64 a] 28))) := by
        have hb := H2.out.trans (h3.mono H2.out.size)
        exact hb.alloc hb.size _
      have hneq' := hneq k a
      rw [hne] at hneq'
      clear h3 hbl hneq hk0 hne
      go_wp2_with fail
      refine (HA.out _ H3.out).mono ?_
      rintro e w4 ⟨rfl, h4⟩
      have H4 : Hid _ := h4
      clear h4
      go_wp2
      go_ret
      exact ⟨rfl, H4.out⟩
    | good ts =>
      rw [hbl] at hP
      obtain ⟨vb, rfl, hnd, h3⟩ := hP
      obtain ⟨hpl, hld⟩ := build_tells hbl
      obtain ⟨ba_, bn, bc, rfl⟩ : ∃ a n c, vb = .slice a n c := by
        obtain ⟨css, h, _⟩ := hnd; obtain ⟨a, c, e⟩ := row_slice h; exact ⟨a, _, c, e⟩
      obtain ⟨w4, hw4⟩ : ∃ w4, w4 = w3.alloc (.cells #[.int .i64 0, .int .i64 0] 28) := ⟨_, rfl⟩
      have hb34 : Below w3.heap.size w3 w4 := by rw [hw4]; exact (Below.refl _ _).alloc (Nat.le_refl _) _
      have HD : Hid (NdsAt H0 w4 32 (.slice ba_ bn bc) ts ∧ plainsN ts = l.filter isPl ∧ loadN ts ≤ 2 * l.length ∧ Below w.heap.size w w4) :=
        ⟨NdsAt.keeps hnd (Keeps.of_below hb34), hpl, hld, bt2 (H2.out.trans (h3.mono H2.out.size)) hb34⟩
      obtain ⟨i0, hi, hz0, hz1, hz2⟩ := info_of infoR
      have hneq' := hneq 0 0
      have hne0 : (!((0 : Int) == 0 && (0 : Int) == 0)) = false := rfl
      rw [hne0] at hneq'
      clear hnd h3 hpl hld hbl hb34 hneq hne0
      go_wp2_with fail
      rw [← hw4]
      clear hw4
      go_loopw [5, 25] (fun v vi wr => ∃ k : Nat, k ≤ n ∧ vi = .int .i64 (k : Int) ∧ wr.ownsRow w4.heap.size 38 3 v ((l.take k).filter isPl).length (lzsV ((l.take k).filter isPl)) ∧ Below w4.heap.size w4 wr) (fun _ vi _ => n - (intOf vi).toNat)
      case atStart => exact ⟨0, Nat.zero_le _, rfl, owns_nil _ _ _ _, Below.refl _ _⟩
      case round =>
        obtain ⟨k, hk, rfl, hown, hb⟩ := hrel
        have hbs := hb.size
        by_cases hlt : k < n
        · have hil : (k : Int) < (n : Int) := by omega
          have hkl : k < l.length := by rw [← HV.out.1]; exact hlt
          obtain ⟨x, hx⟩ : ∃ x, l[k]? = some x := ⟨l[k], List.getElem?_eq_getElem hkl⟩
          obtain ⟨b, o, rfl, hbB, d0, d1, d2⟩ := HV.out.2.1.pick hx
          have hbw : Below w.heap.size w wr := bt2 HD.out.2.2.2 hb
          have c0 : wr.cell? ⟨b, o + k * 3, none⟩ = some (.string x.text) := by rw [hbw.cell (p := ⟨b, _, none⟩) hbB]; exact d0
          have c1 : wr.cell? ⟨b, o + k * 3 + 1, none⟩ = some (.int .i64 x.at_) := by rw [hbw.cell (p := ⟨b, _, none⟩) hbB]; exact d1
          have c2 : wr.cell? ⟨b, o + k * 3 + 2, none⟩ = some (.bool x.cmd) := by rw [hbw.cell (p := ⟨b, _, none⟩) hbB]; exact d2
          have HT := filter_take hx
          have hxs := HV.out.2.2 x (List.mem_of_getElem? hx)
          have HDr : Hid (∀ W, Calls Tryd.prog 12 #[.agg #[.string x.text, .int .i64 x.at_, .bool x.cmd]] W fun e w' => e = .returned (.tuple #[.string (dirW x), .string (dirX x)]) ∧ Below W.heap.size W w') := fun W => rdir_any x W (by omega)
          have HKd : Hid (isPl x = decide (kindW (dirW x) = 0)) := rfl
          obtain ⟨dw, hdw⟩ : ∃ u, u = dirW x := ⟨_, rfl⟩
          obtain ⟨dx, hdx⟩ : ∃ u, u = dirX x := ⟨_, rfl⟩
          rw [← hdw, ← hdx] at HDr
          rw [← hdw] at HKd
          obtain ⟨fl, hfl⟩ : ∃ fl, fl = (l.take k).filter isPl := ⟨_, rfl⟩
          rw [← hfl] at hown HT
          have hfll : fl.length ≤ 400 := by
            have h1 := List.length_filter_le isPl (l.take k)
            rw [← hfl] at h1
            have h2 := HV.out.1
            rw [List.length_take] at h1; omega
          obtain ⟨W1, hW1⟩ : ∃ W1, W1 = wr.alloc (.cells #[.string x.text, .int .i64 x.at_, .bool x.cmd] 38) := ⟨_, rfl⟩
          have HW1 : Hid (Below wr.heap.size wr W1 ∧ W1.heap[wr.heap.size]? = some (.cells #[.string x.text, .int .i64 x.at_, .bool x.cmd] 38 (0, 0))) := by
            rw [hW1]; exact ⟨(Below.refl _ _).alloc (Nat.le_refl _) _, alloc_last _ _⟩
          have HO : Hid (wr.ownsRow w4.heap.size 38 3 u5 fl.length (lzsV fl) ∧ Below w4.heap.size w4 wr) := ⟨hown, hb⟩
          have e0 := cell_in HW1.out.2 0 rfl
          have e1 := cell_in HW1.out.2 1 rfl
          have e2 := cell_in HW1.out.2 2 rfl
          have HZ : Hid (lzC x = [.string x.text, .int .i64 x.at_, .bool x.cmd]) := rfl
          have HON : Hid (∀ u ∈ lzC x, u.oneCell' = true) := lz_one x
          obtain ⟨xt, hxt⟩ : ∃ u, u = x.text := ⟨_, rfl⟩
          obtain ⟨xa, hxa⟩ : ∃ u, u = x.at_ := ⟨_, rfl⟩
          obtain ⟨xc, hxc⟩ : ∃ u, u = x.cmd := ⟨_, rfl⟩
          rw [← hxt, ← hxa, ← hxc] at HDr HW1 hW1 HZ
          rw [← hxt] at c0 e0
          rw [← hxa] at c1 e1
          rw [← hxc] at c2 e2
          have HFL : Hid ((l.take (k + 1)).filter isPl = fl ++ if isPl x = true then [x] else []) := HT
          obtain ⟨xb, hxb⟩ : ∃ b, b = wr.heap.size := ⟨_, rfl⟩
          rw [← hxb] at e0 e1 e2
          clear d0 d1 d2 hx hxs hdw hdx hfl hxt hxa hxc hown hb hbw HT hbB
          go_upto_region 10 with fail
          rw [← hW1, ← hxb]
          go_wp2_with fail
          refine (HDr.out _).mono ?_
          rintro e w5 ⟨rfl, h5⟩
          rw [← hW1] at h5
          have HB5 : Hid (Below w4.heap.size w4 w5 ∧ w5.ownsRow w4.heap.size 38 3 u5 fl.length (lzsV fl) ∧ w5.heap[xb]? = some (.cells #[.string xt, .int .i64 xa, .bool xc] 38 (0, 0)) ∧ w4.heap.size ≤ w5.heap.size) := by
            have hb15 : Below wr.heap.size wr w5 := bt2 HW1.out.1 h5
            have hbb := bt2 HO.out.2 hb15
            refine ⟨hbb, owns_below HO.out.1 hb15, ?_, hbb.size⟩
            rw [hxb]
            exact (h5.block _ (Array.getElem?_eq_some_iff.1 HW1.out.2).1).trans HW1.out.2
          clear h5 hW1 hxb e0 e1 e2 HDr c0 c1 c2
          by_cases hkIf : dw = ⟨#[105, 102]⟩
          · subst hkIf
            have HF : Hid ((l.take (k + 1)).filter isPl = fl) := by
              have hp : isPl x = false := by rw [HKd.out]; decide
              unfold Hid; rw [HFL.out, hp]; simp
            clear HKd
            go_wp2_with fail
            go_roundw
            case rel => exact ⟨k + 1, by omega, by go_num, by rw [HF.out]; exact HB5.out.2.1, HB5.out.1⟩
            case measure => simp [intOf]; omega
          by_cases hkIfdef : dw = ⟨#[105, 102, 100, 101, 102]⟩
          · subst hkIfdef
            have HF : Hid ((l.take (k + 1)).filter isPl = fl) := by
              have hp : isPl x = false := by rw [HKd.out]; decide
              unfold Hid; rw [HFL.out, hp]; simp
            clear HKd
            go_wp2_with fail
            go_roundw
            case rel => exact ⟨k + 1, by omega, by go_num, by rw [HF.out]; exact HB5.out.2.1, HB5.out.1⟩
            case measure => simp [intOf]; omega
          by_cases hkIfndef : dw = ⟨#[105, 102, 110, 100, 101, 102]⟩
          · subst hkIfndef
            have HF : Hid ((l.take (k + 1)).filter isPl = fl) := by
              have hp : isPl x = false := by rw [HKd.out]; decide
              unfold Hid; rw [HFL.out, hp]; simp
            clear HKd
            go_wp2_with fail
            go_roundw
            case rel => exact ⟨k + 1, by omega, by go_num, by rw [HF.out]; exact HB5.out.2.1, HB5.out.1⟩
            case measure => simp [intOf]; omega
          by_cases hkIfmake : dw = ⟨#[105, 102, 109, 97, 107, 101]⟩
          · subst hkIfmake
            have HF : Hid ((l.take (k + 1)).filter isPl = fl) := by
              have hp : isPl x = false := by rw [HKd.out]; decide
              unfold Hid; rw [HFL.out, hp]; simp
            clear HKd
            go_wp2_with fail
            go_roundw
            case rel => exact ⟨k + 1, by omega, by go_num, by rw [HF.out]; exact HB5.out.2.1, HB5.out.1⟩
            case measure => simp [intOf]; omega
          by_cases hkIfnmake : dw = ⟨#[105, 102, 110, 109, 97, 107, 101]⟩
          · subst hkIfnmake
            have HF : Hid ((l.take (k + 1)).filter isPl = fl) := by
              have hp : isPl x = false := by rw [HKd.out]; decide
              unfold Hid; rw [HFL.out, hp]; simp
            clear HKd
            go_wp2_with fail
            go_roundw
            case rel => exact ⟨k + 1, by omega, by go_num, by rw [HF.out]; exact HB5.out.2.1, HB5.out.1⟩
            case measure => simp [intOf]; omega
          by_cases hkElif : dw = ⟨#[101, 108, 105, 102]⟩
          · subst hkElif
            have HF : Hid ((l.take (k + 1)).filter isPl = fl) := by
              have hp : isPl x = false := by rw [HKd.out]; decide
              unfold Hid; rw [HFL.out, hp]; simp
            clear HKd
            go_wp2_with fail
            go_roundw
            case rel => exact ⟨k + 1, by omega, by go_num, by rw [HF.out]; exact HB5.out.2.1, HB5.out.1⟩
            case measure => simp [intOf]; omega
          by_cases hkElse : dw = ⟨#[101, 108, 115, 101]⟩
          · subst hkElse
            have HF : Hid ((l.take (k + 1)).filter isPl = fl) := by
              have hp : isPl x = false := by rw [HKd.out]; decide
              unfold Hid; rw [HFL.out, hp]; simp
            clear HKd
            go_wp2_with fail
            go_roundw
            case rel => exact ⟨k + 1, by omega, by go_num, by rw [HF.out]; exact HB5.out.2.1, HB5.out.1⟩
            case measure => simp [intOf]; omega
          by_cases hkEndif : dw = ⟨#[101, 110, 100, 105, 102]⟩
          · subst hkEndif
            have HF : Hid ((l.take (k + 1)).filter isPl = fl) := by
              have hp : isPl x = false := by rw [HKd.out]; decide
              unfold Hid; rw [HFL.out, hp]; simp
            clear HKd
            go_wp2_with fail
            go_roundw
            case rel => exact ⟨k + 1, by omega, by go_num, by rw [HF.out]; exact HB5.out.2.1, HB5.out.1⟩
            case measure => simp [intOf]; omega
          by_cases hkFor : dw = ⟨#[102, 111, 114]⟩
          · subst hkFor
            have HF : Hid ((l.take (k + 1)).filter isPl = fl) := by
              have hp : isPl x = false := by rw [HKd.out]; decide
              unfold Hid; rw [HFL.out, hp]; simp
            clear HKd
            go_wp2_with fail
            go_roundw
            case rel => exact ⟨k + 1, by omega, by go_num, by rw [HF.out]; exact HB5.out.2.1, HB5.out.1⟩
            case measure => simp [intOf]; omega
          by_cases hkEndfor : dw = ⟨#[101, 110, 100, 102, 111, 114]⟩
          · subst hkEndfor
            have HF : Hid ((l.take (k + 1)).filter isPl = fl) := by
              have hp : isPl x = false := by rw [HKd.out]; decide
              unfold Hid; rw [HFL.out, hp]; simp
            clear HKd
            go_wp2_with fail
            go_roundw
            case rel => exact ⟨k + 1, by omega, by go_num, by rw [HF.out]; exact HB5.out.2.1, HB5.out.1⟩
            case measure => simp [intOf]; omega
          obtain ⟨nkIf, bkIf⟩ := ne_txt hkIf
          obtain ⟨nkIfdef, bkIfdef⟩ := ne_txt hkIfdef
          obtain ⟨nkIfndef, bkIfndef⟩ := ne_txt hkIfndef
          obtain ⟨nkIfmake, bkIfmake⟩ := ne_txt hkIfmake
          obtain ⟨nkIfnmake, bkIfnmake⟩ := ne_txt hkIfnmake
          obtain ⟨nkElif, bkElif⟩ := ne_txt hkElif
          obtain ⟨nkElse, bkElse⟩ := ne_txt hkElse
          obtain ⟨nkEndif, bkEndif⟩ := ne_txt hkEndif
          obtain ⟨nkFor, bkFor⟩ := ne_txt hkFor
          obtain ⟨nkEndfor, bkEndfor⟩ := ne_txt hkEndfor
          have HF : Hid ((l.take (k + 1)).filter isPl = fl ++ [x]) := by
            have hp : isPl x = true := by
              rw [HKd.out]
              unfold kindW
              rw [if_neg (by rintro (h | h | h | h | h); exact hkIf h; exact hkIfdef h; exact hkIfndef h; exact hkIfmake h; exact hkIfnmake h), if_neg hkFor, if_neg (by rintro (h | h); exact hkElif h; exact hkElse h), if_neg hkEndif, if_neg hkEndfor]
              rfl
            unfold Hid; rw [HFL.out, hp]; simp
          have g0 := cell_in HB5.out.2.2.1 0 rfl
          have g1 := cell_in HB5.out.2.2.1 1 rfl
          have g2 := cell_in HB5.out.2.2.1 2 rfl
          have hown5 := HB5.out.2.1
          have hb5s := HB5.out.2.2.2
          clear hkIf hkIfdef hkIfndef hkIfmake hkIfnmake hkElif hkElse hkEndif hkFor hkEndfor HKd
          have HN3 : Hid (∀ (jj : Nat) (u : Value), [Value.string xt, .int .i64 xa, .bool xc][jj]? = some u → (w5.alloc (.cells #[.string xt, .int .i64 xa, .bool xc] 38)).cell? ((⟨w5.heap.size, 0, none⟩ : Addr).add jj) = some u) := World.news_of_block (alloc_last _ _)
          have HN1 : ∀ u ∈ [Value.string xt, .int .i64 xa, .bool xc], u.oneCell' = true := by rw [← HZ.out]; exact HON.out
          go_wp2_with (at_builtin; refine wpList_append_own _ rfl _ _ 22 rfl w4.heap.size 38 i0 (.agg #[.string ⟨#[]⟩, .int .i64 0, .bool false]) 3 32 Tryd.underlying22 hi hz0 hz1 hz2 rfl (by decide) _ _ _ rfl (hown5.alloc _) ⟨w5.heap.size, 0, none⟩ 1 1 [.string xt, .int .i64 xa, .bool xc] rfl rfl HN3.out HN1 ?c3 ?c4 ?c5 ?_)
          case c3 => unfold maxLen; omega
          case c4 => omega
          case c5 => first | omega | (simp; omega)
          intro v' w6 hown6 hgr6 _
          have H6 : Hid (w6.ownsRow w4.heap.size 38 3 v' ((l.take (k + 1)).filter isPl).length (lzsV ((l.take (k + 1)).filter isPl)) ∧ Below w4.heap.size w4 w6) := by
            rw [HF.out, List.length_append, List.length_singleton, lzsV_snoc, HZ.out]
            have hba := ba2 HB5.out.1 (.cells #[.string xt, .int .i64 xa, .bool xc] 38)
            exact ⟨hown6, hba.grown hgr6 hba.size (fun j hj => (HB5.out.2.1.lt j hj).1)⟩
          clear hown6 hgr6 hown5 g0 g1 g2
          go_wp2_with fail
          go_roundw
          case rel => exact ⟨k + 1, by omega, by go_num, H6.out.1, H6.out.2⟩
          case measure => simp [intOf]; omega
        · have hnl : ¬ (k : Int) < (n : Int) := by omega
          have HE : Hid (wr.ownsRow w4.heap.size 38 3 u5 (l.filter isPl).length (lzsV (l.filter isPl)) ∧ Below w4.heap.size w4 wr ∧ Below w.heap.size w wr) := by
            have h2 : l.take k = l := List.take_of_length_le (by rw [← HV.out.1]; omega)
            rw [h2] at hown
            exact ⟨hown, hb, bt2 HD.out.2.2.2 hb⟩
          have HBl : Hid (Calls Tryd.prog 11 #[.slice ba_ bn bc, .int .i64 40] wr (BlPost H0 33 (.slice ba_ bn bc) ts wr)) := by
            have hl2 := HD.out.2.2.1
            have hn := HV.out.1
            exact blocks_all 33 H0 _ ts wr 40 (fun g h => h.elim) (NdsAt.keeps HD.out.1 (Keeps.of_below hb)) (by omega) (by omega) (by omega)
          have HPL : Hid (∀ (u : Value) (W : World), Kd W u ts 33 → Calls Tryd.prog 14 #[u] W fun e w' => ∃ v', e = .returned v' ∧ w'.ownsRow W.heap.size 38 3 v' (plainsN ts).length (lzsV (plainsN ts)) ∧ Below W.heap.size W w') := by
            have hl2 := HD.out.2.2.1
            have hn := HV.out.1
            exact fun u W hu => plain_all 33 u ts W hu (by omega)
          have hfl2 : (l.filter isPl).length ≤ 4000000 := by
            have h1 := List.length_filter_le isPl l
            have hn := HV.out.1
            omega
          have HSM : Hid (∀ (u1 u2 : Value) (W : World), LZ W.heap.size W u1 (l.filter isPl) → LZ W.heap.size W u2 (l.filter isPl) → Calls Tryd.prog 13 #[u1, u2] W fun e w' => e = .returned (.bool true) ∧ Below W.heap.size W w') := fun u1 u2 W h1 h2 =>
            (rsame_any u1 u2 _ _ W.heap.size W hfl2 hfl2 h1 h2).mono fun e w' ⟨b, p1, p2, p3⟩ => ⟨by rw [p1, p2.2 rfl], p3⟩
          clear hown hb hfl2
          go_wp2_with fail
          refine HBl.out.mono ?_
          rintro e w5 ⟨a5, n5, c5, rfl, hk5, _, hb5⟩
          have HK5 : Hid (Kd w5 (.slice a5 n5 c5) ts 33 ∧ Below wr.heap.size wr w5) := ⟨KdH.kd hk5, hb5⟩
          clear hk5 hb5
          go_wp2_with fail
          refine (HPL.out _ _ HK5.out.1).mono ?_
          rintro e w6 ⟨v6, rfl, hown6, hb6⟩
          have H6 : Hid (LZ w6.heap.size w6 v6 (l.filter isPl) ∧ LZ w6.heap.size w6 u5 (l.filter isPl) ∧ Below w.heap.size w w6) := by
            rw [HD.out.2.1] at hown6
            have hbw : Below wr.heap.size wr w6 := bt2 HK5.out.2 hb6
            exact ⟨lz_of_owns hown6 (Nat.le_refl _), lz_of_owns (owns_below HE.out.1 hbw) (Nat.le_refl _), bt2 HE.out.2.2 hbw⟩
          clear hown6 hb6
          go_wp2_with fail
          refine (HSM.out v6 u5 _ H6.out.1 H6.out.2.1).mono ?_
          rintro e w7 ⟨rfl, hb7⟩
          have H7 : Hid (Below w.heap.size w w7) := bt2 H6.out.2.2 hb7
          clear hb7
          go_wp2_with fail
          refine (HA.out _ H7.out).mono ?_
          rintro e w8 ⟨rfl, h8⟩
          have H8 : Hid _ := h8
          clear h8
          go_wp2
          go_ret
          exact ⟨rfl, H8.out⟩
end Go.Proofs.YtgbleikjdecikaaDoor
