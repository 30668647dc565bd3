/-
  The document's operator and trim.
-/
import Derived.Test.YtbgnmchnfaknkaaDoorK6
namespace Go.Proofs.YtbgnmchnfaknkaaDoor
open Go.RowKit Go.Shelf

/-- The document's operator: its place and its text. -/
def opT (k : Nat) : List UInt8 := if k = 2 then [33] else if k = 3 then [58, 58] else if k = 1 then [58] else []
def opAt (l : List UInt8) : Nat := if (Q.cutOp [] l).2.1 = 0 then 0 else (Q.cutOp [] l).1.length
theorem opP_skip (s : ByteArray) (k : Nat) (h : k < s.size) (hp : ∀ c ∈ (bl s).take k, Q.isO c = false) (hc : Q.isO s[k] = false) : ∀ c ∈ (bl s).take (k + 1), Q.isO c = false := by
  intro c hm
  rw [take_snoc s k h] at hm
  rcases List.mem_append.1 hm with hm | hm
  · exact hp c hm
  · simp at hm; rw [hm]; exact hc
theorem op_here (s : ByteArray) (k : Nat) (h : k < s.size) (hp : ∀ c ∈ (bl s).take k, Q.isO c = false) : Q.cutOp [] (bl s) = Q.cutOp ((bl s).take k) (s[k] :: (bl s).drop (k + 1)) := by
  conv => lhs; rw [bl_split s k h]
  rw [Q.cutOp_skip [] _ _ hp, List.nil_append]
theorem take_len (s : ByteArray) (k : Nat) (h : k < s.size) : ((bl s).take k).length = k := by rw [List.length_take, bl_length]; omega

set_option maxRecDepth 20000 in
set_option maxHeartbeats 1000000 in
theorem rop_any (s : ByteArray) (w : World) (hs : s.size ≤ 4000000) :
    Calls Tryd.prog 21 #[.string s] w fun e w' => e = .returned (.tuple #[.int .i64 (opAt (bl s) : Nat), .string (ba (opT (Q.cutOp [] (bl s)).2.1))]) ∧ w = w' := by
  obtain ⟨X, hX⟩ : ∃ X, X = opAt (bl s) := ⟨_, rfl⟩
  obtain ⟨Y, hY⟩ : ∃ Y, Y = ba (opT (Q.cutOp [] (bl s)).2.1) := ⟨_, rfl⟩
  have HXY : Hid (X = opAt (bl s) ∧ Y = ba (opT (Q.cutOp [] (bl s)).2.1)) := ⟨hX, hY⟩
  rw [← hX, ← hY]
  clear hX hY
  go_enter Tryd.func21, Tryd.ntmps21
  go_wp2
  go_loopw [4] (fun vi wr => ∃ k : Nat, k ≤ s.size ∧ vi = .int .i64 k ∧ w = wr ∧ Hid (∀ c ∈ (bl s).take k, Q.isO c = false)) (fun vi _ => s.size - (intOf vi).toNat)
  case atStart => exact ⟨0, Nat.zero_le _, rfl, rfl, fun c hc => by simp at hc⟩
  case round =>
    obtain ⟨k, hk, rfl, rfl, HA⟩ := hrel
    by_cases hlt : k < s.size
    · have hil : (k : Int) < (s.size : Int) := by omega
      have hop := op_here s k hlt HA.out
      have hsk := opP_skip s k hlt HA.out
      have htl := take_len s k hlt
      obtain ⟨c, hc⟩ : ∃ c, c = s[k] := ⟨_, rfl⟩
      obtain ⟨cn, hcn⟩ : ∃ cn : Int, cn = (s[k].toNat : Int) := ⟨_, rfl⟩
      have hgk : (s[k].toNat : Int) = cn := hcn.symm
      rw [← hc] at hop hsk
      have HCC : cn = (c.toNat : Int) := by rw [hcn, hc]
      by_cases h33 : c = 33
      · have t1 : cn = 33 := by rw [HCC, h33]; rfl
        have HE : Hid ((X : Int) = k ∧ Y = ⟨#[33]⟩) := by
          have e : Q.cutOp [] (bl s) = ((bl s).take k, 2, (bl s).drop (k + 1)) := by rw [hop, h33, Q.cutOp, if_pos rfl]
          refine ⟨?_, ?_⟩
          · rw [HXY.out.1]; unfold opAt; rw [e, if_neg (by simp)]; show (((bl s).take k).length : Int) = k; rw [htl]
          · rw [HXY.out.2, e]; rfl
        clear hop hsk htl hc hcn HCC h33
        go_wp2
        go_ret2
        exact ⟨by rw [HE.out.1, HE.out.2]; rfl, rfl⟩
      · by_cases h58 : c = 58
        · have t1 : cn = 58 := by rw [HCC, h58]; rfl
          by_cases hh : ((bl s).drop (k + 1)).head? = some 58
          · have hk2 : k + 1 < s.size := by
              have : (bl s).drop (k + 1) ≠ [] := fun e => by rw [e] at hh; simp at hh
              have := List.length_pos_iff.2 this
              rw [List.length_drop, bl_length] at this; omega
            have hil2 : (k : Int) + 1 < (s.size : Int) := by omega
            have hg2 : s[k + 1] = 58 := by
              rw [drop_bl s (k + 1) hk2] at hh; simpa using hh
            have htn : ((k : Int) + 1).toNat = k + 1 := by omega
            obtain ⟨dn, hdn⟩ : ∃ dn : Int, dn = (s[k + 1].toNat : Int) := ⟨_, rfl⟩
            have hgd : (s[k + 1].toNat : Int) = dn := hdn.symm
            have t2 : dn = 58 := by rw [hdn, hg2]; rfl
            have HE : Hid ((X : Int) = k ∧ Y = ⟨#[58, 58]⟩) := by
              have e : Q.cutOp [] (bl s) = ((bl s).take k, 3, ((bl s).drop (k + 1)).tail) := by rw [hop, h58, Q.cutOp, if_neg (by decide), if_pos rfl, if_pos hh]
              refine ⟨?_, ?_⟩
              · rw [HXY.out.1]; unfold opAt; rw [e, if_neg (by simp)]; show (((bl s).take k).length : Int) = k; rw [htl]
              · rw [HXY.out.2, e]; rfl
            clear hop hsk htl hc hcn HCC h33 h58 hh hg2 hdn
            go_wp2
            go_ret2
            exact ⟨by rw [HE.out.1, HE.out.2]; rfl, rfl⟩
          · have HE : Hid ((X : Int) = k ∧ Y = ⟨#[58]⟩) := by
              have e : Q.cutOp [] (bl s) = ((bl s).take k, 1, (bl s).drop (k + 1)) := by rw [hop, h58, Q.cutOp, if_neg (by decide), if_pos rfl, if_neg hh]
              refine ⟨?_, ?_⟩
              · rw [HXY.out.1]; unfold opAt; rw [e, if_neg (by simp)]; show (((bl s).take k).length : Int) = k; rw [htl]
              · rw [HXY.out.2, e]; rfl
            by_cases hk2 : k + 1 < s.size
            · have hil2 : (k : Int) + 1 < (s.size : Int) := by omega
              have hg2 : ¬ s[k + 1] = 58 := by
                rw [drop_bl s (k + 1) hk2] at hh; simpa using hh
              have htn : ((k : Int) + 1).toNat = k + 1 := by omega
              obtain ⟨dn, hdn⟩ : ∃ dn : Int, dn = (s[k + 1].toNat : Int) := ⟨_, rfl⟩
              have hgd : (s[k + 1].toNat : Int) = dn := hdn.symm
              have t2 : ¬ dn = 58 := by rw [hdn]; intro h; apply hg2; rw [u8_eq_iff]; show s[k + 1].toNat = 58; omega
              have t2' : (dn == 58) = false := by simpa using t2
              clear hop hsk htl hc hcn HCC h33 h58 hh hg2 hdn
              go_wp2
              go_ret2
              exact ⟨by rw [HE.out.1, HE.out.2]; rfl, rfl⟩
            · have hil2 : ¬ (k : Int) + 1 < (s.size : Int) := by omega
              clear hop hsk htl hc hcn HCC h33 h58 hh
              go_wp2
              go_ret2
              exact ⟨by rw [HE.out.1, HE.out.2]; rfl, rfl⟩
        · have t1 : ¬ cn = 33 := by rw [HCC]; intro h; apply h33; rw [u8_eq_iff]; show c.toNat = 33; omega
          have t2 : ¬ cn = 58 := by rw [HCC]; intro h; apply h58; rw [u8_eq_iff]; show c.toNat = 58; omega
          have t1' : (cn == 33) = false := by simpa using t1
          have t2' : (cn == 58) = false := by simpa using t2
          have HA1 : Hid (∀ c ∈ (bl s).take (k + 1), Q.isO c = false) := hsk (by rw [← Bool.not_eq_true, Q.isO_iff]; exact fun e => e.elim h58 h33)
          clear hop hsk htl hc hcn HCC h33 h58
          go_wp2
          go_roundw
          case rel => exact ⟨k + 1, by omega, by go_num, trivial, HA1⟩
          case measure => simp [intOf]; omega
    · have hnl : ¬ (k : Int) < (s.size : Int) := by omega
      have HE : Hid ((X : Int) = 0 ∧ Y = ⟨#[]⟩) := by
        have hke : k = s.size := by omega
        have hA := HA.out
        rw [hke, take_all] at hA
        have e := Q.cutOp_none [] (bl s) hA
        refine ⟨?_, ?_⟩
        · rw [HXY.out.1]; unfold opAt; rw [e]; rfl
        · rw [HXY.out.2, e]; rfl
      go_wp2
      go_ret2
      exact ⟨by rw [HE.out.1, HE.out.2]; rfl, rfl⟩

def strSz : Value → Nat
  | .string x => x.size
  | _ => 0
theorem strSz_string (x : ByteArray) : strSz (.string x) = x.size := rfl
theorem dw_hit (x : ByteArray) (h : 0 < x.size) (hb : Q.B x[0] = true) : (bl x).dropWhile Q.B = (bl (x.extract 1 x.size)).dropWhile Q.B := by
  have e := drop_bl x 0 h
  rw [List.drop_zero] at e
  rw [e, List.dropWhile_cons_of_pos hb, ext_drop]
theorem dw_miss (x : ByteArray) (h : 0 < x.size) (hb : Q.B x[0] = false) : (bl x).dropWhile Q.B = bl x := by
  have e := drop_bl x 0 h
  rw [List.drop_zero] at e
  rw [e, List.dropWhile_cons_of_neg (by rw [hb]; simp)]
theorem te_hit (x : ByteArray) (m : Nat) (h : m < x.size) (hm : m + 1 = x.size) (hb : Q.B x[m] = true) : Q.trimE (bl x) = Q.trimE (bl (x.extract 0 m)) := by
  have e := take_snoc x m h
  rw [hm, take_all] at e
  rw [e, Q.trimE_snoc_hit _ hb, ext_take]
theorem te_miss (x : ByteArray) (m : Nat) (h : m < x.size) (hm : m + 1 = x.size) (hb : Q.B x[m] = false) : Q.trimE (bl x) = bl x := by
  have e := take_snoc x m h
  rw [hm, take_all] at e
  rw [e, Q.trimE_snoc_miss _ hb]

set_option maxRecDepth 20000 in
set_option maxHeartbeats 1000000 in
theorem rtrim_any (s : ByteArray) (w : World) (hs : s.size ≤ 4000000) :
    Calls Tryd.prog 23 #[.string s] w fun e w' => e = .returned (.string (ba (Q.trim (bl s)))) ∧ w = w' := by
  have HB : Hid (∀ (c : UInt8) W, Calls Tryd.prog 44 #[.int .u8 c.toNat] W fun e w' => e = .returned (.bool (Q.B c)) ∧ W = w') := fun c W => by rw [Q.B_isB]; exact WD.rblank_any c W
  obtain ⟨X, hX⟩ : ∃ X, X = ba (Q.trim (bl s)) := ⟨_, rfl⟩
  rw [← hX]
  have HX : Hid (bl X = Q.trimE ((bl s).dropWhile Q.B)) := by unfold Hid; rw [hX, bl_ba]; rfl
  clear hX
  go_enter Tryd.func23, Tryd.ntmps23
  go_wp2
  go_loopw [0] (fun vs wr => ∃ x : ByteArray, x.size ≤ 4000000 ∧ vs = .string x ∧ w = wr ∧ Hid ((bl s).dropWhile Q.B = (bl x).dropWhile Q.B)) (fun vs _ => strSz vs)
  case atStart => exact ⟨s, hs, rfl, rfl, rfl⟩
  case round =>
    obtain ⟨x, hx, rfl, rfl, HA⟩ := hrel
    by_cases hgo : ∃ h : 0 < x.size, Q.B x[0] = true
    · obtain ⟨h0, hb⟩ := hgo
      have hi0 : (0 : Int) < (x.size : Int) := by omega
      have HA1 : Hid ((bl s).dropWhile Q.B = (bl (x.extract 1 x.size)).dropWhile Q.B) := by unfold Hid; rw [HA.out]; exact dw_hit x h0 hb
      have HC : Hid (∀ W, Calls Tryd.prog 44 #[.int .u8 x[0].toNat] W fun e w' => e = .returned (.bool true) ∧ W = w') := fun W => by have := HB.out x[0] W; rw [hb] at this; exact this
      have hy : (x.extract 1 x.size).size ≤ 4000000 ∧ (x.extract 1 x.size).size < x.size := by simp; omega
      obtain ⟨y, hye⟩ : ∃ y, y = x.extract 1 x.size := ⟨_, rfl⟩
      have hs1 : ∀ W, (Instr.slice 9 (.string x) (some (.int .i64 1)) none none).run Tryd.prog W = .ok (.string y) W := by
        intro W; rw [hye]; exact run_slice_string_l (P := Tryd.prog) W 9 x Tryd.underlying9 .i64 1 (by omega) (by omega)
      rw [← hye] at HA1 hy
      clear hye hb
      go_wp2_with (go_at_call 44; refine (HC.out _).mono ?_; rintro e w' ⟨rfl, rfl⟩)
      go_roundw
      case rel => exact ⟨y, hy.1, rfl, trivial, HA1⟩
      case measure => rw [strSz_string, strSz_string]; exact hy.2
    · have HD : Hid ((bl s).dropWhile Q.B = bl x) := by
        unfold Hid
        rw [HA.out]
        by_cases h0 : 0 < x.size
        · refine dw_miss x h0 ?_
          rw [← Bool.not_eq_true]; exact fun e => hgo ⟨h0, e⟩
        · have : bl x = [] := List.length_eq_zero_iff.1 (by rw [bl_length]; omega)
          rw [this]; rfl
      have HX2 : Hid (bl X = Q.trimE (bl x)) := by unfold Hid; rw [HX.out, HD.out]
      have HG : Hid (0 < x.size → ∃ h : 0 < x.size, Q.B x[0] = false) := fun h0 => ⟨h0, by rw [← Bool.not_eq_true]; exact fun e => hgo ⟨h0, e⟩⟩
      clear hgo HD HA HX
      have key : x.size = 0 ∨ 0 < x.size := by omega
      rcases key with hz | h0
      · have hxe : x = E := by
          have : bl x = [] := List.length_eq_zero_iff.1 (by rw [bl_length]; omega)
          exact bl_inj this
        subst hxe
        have hXe : X = E := bl_inj HX2.out
        subst hXe
        clear hz HX2 HG
        go_wp2
        refine wp_loop_rounds 1 ?_
        rw [rounds_succ]
        go_wp2
        go_ret
        exact ⟨rfl, rfl⟩
      · obtain ⟨_, hb⟩ := HG.out h0
        have hi0 : (0 : Int) < (x.size : Int) := by omega
        have HC : Hid (∀ W, Calls Tryd.prog 44 #[.int .u8 x[0].toNat] W fun e w' => e = .returned (.bool false) ∧ W = w') := fun W => by have := HB.out x[0] W; rw [hb] at this; exact this
        clear hb HG
        go_wp2_with (go_at_call 44; refine (HC.out _).mono ?_; rintro e w' ⟨rfl, rfl⟩)
        clear HC
        go_loopw [0] (fun vs wr => ∃ y : ByteArray, y.size ≤ 4000000 ∧ vs = .string y ∧ w = wr ∧ Hid (bl X = Q.trimE (bl y))) (fun vs _ => strSz vs)
        case atStart => exact ⟨x, hx, rfl, rfl, HX2⟩
        case round =>
          obtain ⟨y, hy, rfl, rfl, HA⟩ := hrel
          have key : y.size = 0 ∨ 0 < y.size := by omega
          rcases key with hz | h0
          · have hye : y = E := by
              have : bl y = [] := List.length_eq_zero_iff.1 (by rw [bl_length]; omega)
              exact bl_inj this
            subst hye
            have hXe : X = E := bl_inj HA.out
            subst hXe
            clear hz HA
            go_wp2
            go_ret
            exact ⟨rfl, rfl⟩
          · obtain ⟨m, hm⟩ : ∃ m, m + 1 = y.size := ⟨y.size - 1, by omega⟩
            have hml : m < y.size := by omega
            have hi0 : (0 : Int) < (y.size : Int) := by omega
            have him : (m : Int) < (y.size : Int) := by omega
            have hie : (y.size : Int) - 1 = (m : Int) := by omega
            have hte := te_hit y m hml hm
            have htm := te_miss y m hml hm
            obtain ⟨d, hd⟩ : ∃ d, d = y[m] := ⟨_, rfl⟩
            have hgd : y[m] = d := hd.symm
            rw [← hd] at hte htm
            have HBd := HB.out d
            cases hb : Q.B d with
            | true =>
              rw [hb] at HBd
              have HC : Hid (∀ W, Calls Tryd.prog 44 #[.int .u8 d.toNat] W fun e w' => e = .returned (.bool true) ∧ W = w') := HBd
              have HA1 : Hid (bl X = Q.trimE (bl (y.extract 0 m))) := by unfold Hid; rw [HA.out]; exact hte hb
              have hy2 : (y.extract 0 m).size ≤ 4000000 ∧ (y.extract 0 m).size < y.size := by simp; omega
              obtain ⟨z, hze⟩ : ∃ z, z = y.extract 0 m := ⟨_, rfl⟩
              have hs1 : ∀ W, (Instr.slice 9 (.string y) none (some (.int .i64 (m : Int))) none).run Tryd.prog W = .ok (.string z) W := by
                intro W; rw [hze]; exact run_slice_string_h (P := Tryd.prog) W 9 y Tryd.underlying9 .i64 m (by omega) (by omega)
              rw [← hze] at HA1 hy2
              clear hze hb HBd hte htm hd hm
              go_wp2_with (go_at_call 44; refine (HC.out _).mono ?_; rintro e w' ⟨rfl, rfl⟩)
              go_roundw
              case rel => exact ⟨z, hy2.1, rfl, trivial, HA1⟩
              case measure => rw [strSz_string, strSz_string]; exact hy2.2
            | false =>
              rw [hb] at HBd
              have HC : Hid (∀ W, Calls Tryd.prog 44 #[.int .u8 d.toNat] W fun e w' => e = .returned (.bool false) ∧ W = w') := HBd
              have HA1 : Hid (X = y) := bl_inj (by rw [HA.out]; exact htm hb)
              clear hb HBd hte htm hd hm
              go_wp2_with (go_at_call 44; refine (HC.out _).mono ?_; rintro e w' ⟨rfl, rfl⟩)
              go_ret
              exact ⟨ret_str (by rw [HA1.out]), rfl⟩
end Go.Proofs.YtbgnmchnfaknkaaDoor
