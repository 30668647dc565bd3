/-
  What cutOperator answers; the library's Cut at a semicolon and Trim of blanks.
-/
import Derived.Test.YtbgnmchnfaknkaaDoorK4
import Derived.Test.YtbgnmchnfaknkaaDoorK1
import Derived.Test.YtbgnmchnfaknkaaDoorRM
import Derived.Shelf.Strings.SlTrimAscii
import Derived.BigRegion
namespace Go.Proofs.YtbgnmchnfaknkaaDoor
open Go.RowKit Go.Shelf

theorem op_neg (t : List UInt8) (h : Lib.indexAny t [58, 33] < 0) : ∀ c ∈ t, Q.isO c = false := by
  induction t with
  | nil => intro c hc; simp at hc
  | cons b l ih =>
    have hg := Lib.indexAny_ge [58, 33] l
    cases hb : Q.isO b with
    | true =>
      have hc : [58, 33].contains b = true := hb
      rw [Lib.indexAny, if_pos hc] at h; omega
    | false =>
      have hc : [58, 33].contains b = false := hb
      rw [Lib.indexAny, if_neg (by rw [hc]; simp)] at h
      have h1 : Lib.indexAny l [58, 33] < 0 := by
        by_cases h2 : (Lib.indexAny l [58, 33] == -1) = true
        · have := beq_iff_eq.1 h2; omega
        · rw [if_neg h2] at h; omega
      intro c hm
      rcases List.mem_cons.1 hm with rfl | hm
      · exact hb
      · exact ih h1 c hm
theorem op_pos (t : List UInt8) : ∀ n : Nat, Lib.indexAny t [58, 33] = (n : Int) → (∀ c ∈ t.take n, Q.isO c = false) ∧ ∃ h : n < t.length, Q.isO t[n] = true := by
  induction t with
  | nil => intro n h; simp [Lib.indexAny] at h
  | cons b l ih =>
    intro n h
    have hg := Lib.indexAny_ge [58, 33] l
    cases hb : Q.isO b with
    | true =>
      have hc : [58, 33].contains b = true := hb
      rw [Lib.indexAny, if_pos hc] at h
      have : n = 0 := by omega
      subst this
      exact ⟨fun c hc => by simp at hc, by simp, hb⟩
    | false =>
      have hc : [58, 33].contains b = false := hb
      rw [Lib.indexAny, if_neg (by rw [hc]; simp)] at h
      by_cases h2 : (Lib.indexAny l [58, 33] == -1) = true
      · rw [if_pos h2] at h; omega
      · rw [if_neg h2] at h
        have h4 : ¬ Lib.indexAny l [58, 33] = -1 := by simpa using h2
        obtain ⟨m, hm⟩ : ∃ m : Nat, n = m + 1 := ⟨n - 1, by omega⟩
        subst hm
        obtain ⟨e1, e2, e3⟩ := ih m (by omega)
        refine ⟨fun c hc => ?_, by simpa using e2, e3⟩
        rw [List.take_succ_cons] at hc
        rcases List.mem_cons.1 hc with rfl | hc
        · exact hb
        · exact e1 c hc
theorem bl_split (s : ByteArray) (n : Nat) (h : n < s.size) : bl s = (bl s).take n ++ s[n] :: (bl s).drop (n + 1) := by
  rw [← drop_bl s n h, List.take_append_drop]
theorem ext_drop (s : ByteArray) (n : Nat) : bl (s.extract n s.size) = (bl s).drop n := by rw [bl_extract, take_all]
theorem ext_take (s : ByteArray) (n : Nat) : bl (s.extract 0 n) = (bl s).take n := by rw [bl_extract, List.drop_zero]

set_option maxRecDepth 20000 in
set_option maxHeartbeats 1000000 in
theorem cutop_any (s : ByteArray) (w : World) (hs : s.size ≤ 4000000) :
    Calls Tryd.prog 16 #[.string s] w fun e w' => e = .returned (.tuple #[.string (ba (Q.cutOp [] (bl s)).1), .int .i64 ((Q.cutOp [] (bl s)).2.1 : Nat), .string (ba (Q.cutOp [] (bl s)).2.2)]) ∧ Below w.heap.size w w' := by
  have HI : Hid (∀ W, Calls Tryd.prog 30 #[.string s, .string ⟨#[58, 33]⟩] W fun e w' => e = .returned (.int .i64 (Lib.indexAny (bl s) [58, 33])) ∧ Below W.heap.size W w') := fun W => indexAny_any s W (by omega)
  have hge := Lib.indexAny_ge [58, 33] (bl s)
  by_cases hneg : Lib.indexAny (bl s) [58, 33] < 0
  · have hE := Q.cutOp_none [] (bl s) (op_neg _ hneg)
    rw [List.nil_append] at hE
    have hm1 : Lib.indexAny (bl s) [58, 33] = -1 := by omega
    rw [hm1] at HI
    rw [hE, ba_bl]
    clear hneg hge hm1 hE
    go_enter Tryd.func16, Tryd.ntmps16
    go_wp2_with fail
    refine (HI.out _).mono ?_
    rintro e w1 ⟨rfl, h1⟩
    have H1 : Hid (Below w.heap.size w w1) := h1
    clear h1
    go_wp2
    go_ret3
    exact ⟨rfl, H1⟩
  · obtain ⟨n, hn⟩ : ∃ n : Nat, Lib.indexAny (bl s) [58, 33] = (n : Int) := ⟨(Lib.indexAny (bl s) [58, 33]).toNat, by omega⟩
    obtain ⟨e1, e2, e3⟩ := op_pos _ n hn
    rw [bl_length] at e2
    have hsp := bl_split s n e2
    obtain ⟨c, hc⟩ : ∃ c, c = s[n] := ⟨_, rfl⟩
    have hco : c = 58 ∨ c = 33 := by rw [hc]; exact (Q.isO_iff _).1 e3
    have hcut : Q.cutOp [] (bl s) = Q.cutOp ((bl s).take n) (c :: (bl s).drop (n + 1)) := by
      conv => lhs; rw [hsp]
      rw [Q.cutOp_skip [] _ _ e1, List.nil_append, hc]
    rw [hn] at HI
    have hni : (n : Int) < (s.size : Int) := by omega
    have hni2 : (n : Int) ≤ (s.size : Int) := by omega
    have hn0 : ¬ (n : Int) < 0 := by omega
    obtain ⟨x, hx⟩ : ∃ x, x = s.extract 0 n := ⟨_, rfl⟩
    obtain ⟨y, hy⟩ : ∃ y, y = s.extract (n + 1) s.size := ⟨_, rfl⟩
    obtain ⟨z, hz⟩ : ∃ z, z = s.extract n s.size := ⟨_, rfl⟩
    have hxb : ba ((bl s).take n) = x := by rw [hx, ← ext_take, ba_bl]
    have hyb : ba ((bl s).drop (n + 1)) = y := by rw [hy, ← ext_drop, ba_bl]
    have hs1 : ∀ W, (Instr.slice 9 (.string s) none (some (.int .i64 (n : Int))) none).run Tryd.prog W = .ok (.string x) W := by
      intro W; rw [hx]; exact run_slice_string_h (P := Tryd.prog) W 9 s Tryd.underlying9 .i64 n (by omega) (by omega)
    have hs2 : ∀ W, (Instr.slice 9 (.string s) (some (.int .i64 ((n : Int) + 1))) none none).run Tryd.prog W = .ok (.string y) W := by
      intro W; rw [hy]
      have := run_slice_string_l (P := Tryd.prog) W 9 s Tryd.underlying9 .i64 (n + 1 : Nat) (by omega) (by omega)
      exact this
    have hs3 : ∀ W, (Instr.slice 9 (.string s) (some (.int .i64 (n : Int))) none none).run Tryd.prog W = .ok (.string z) W := by
      intro W; rw [hz]; exact run_slice_string_l (P := Tryd.prog) W 9 s Tryd.underlying9 .i64 n (by omega) (by omega)
    have hw1 : IntKind.i64.wrap ((n : Int) + 1) = (n : Int) + 1 := by unfold IntKind.wrap; simp [IntKind.signed, IntKind.bits]; omega
    have hw2 : IntKind.i64.wrap ((n : Int) + 2) = (n : Int) + 2 := by unfold IntKind.wrap; simp [IntKind.signed, IntKind.bits]; omega
    obtain ⟨cn, hcn⟩ : ∃ cn : Int, cn = (s[n].toNat : Int) := ⟨_, rfl⟩
    have hgk : (s[n].toNat : Int) = cn := hcn.symm
    rcases hco with h58 | h33
    · have t1 : cn = 58 := by rw [hcn, ← hc, h58]; rfl
      have HZ : Hid (∀ W, Calls Tryd.prog 31 #[.string z, .string ⟨#[58, 58]⟩] W fun e w' => e = .returned (.bool (Lib.hasPrefix (bl z) [58, 58])) ∧ W = w') := fun W => (Tryd.strings_HasPrefix z ⟨#[58, 58]⟩ W).mono fun e w' h => ⟨h.1, h.2.symm⟩
      have hzb : bl z = 58 :: (bl s).drop (n + 1) := by rw [hz, ext_drop, drop_bl s n e2, ← hc, h58]
      by_cases hh : ((bl s).drop (n + 1)).head? = some 58
      · have hE : Q.cutOp [] (bl s) = ((bl s).take n, 3, (bl s).drop (n + 2)) := by
          rw [hcut, h58, Q.cutOp, if_neg (by decide), if_pos rfl, if_pos hh, List.tail_drop]
        have hp : Lib.hasPrefix (bl z) [58, 58] = true := by
          rw [hzb]
          cases hd : (bl s).drop (n + 1) with
          | nil => rw [hd] at hh; simp at hh
          | cons d r => rw [hd] at hh; simp at hh; rw [hh]; rfl
        have hn2 : n + 2 ≤ s.size := by
          have : (bl s).drop (n + 1) ≠ [] := fun e => by rw [e] at hh; simp at hh
          have := List.length_pos_iff.2 this
          rw [List.length_drop, bl_length] at this; omega
        obtain ⟨v, hv⟩ : ∃ v, v = s.extract (n + 2) s.size := ⟨_, rfl⟩
        have hvb : ba ((bl s).drop (n + 2)) = v := by rw [hv, ← ext_drop, ba_bl]
        have hs4 : ∀ W, (Instr.slice 9 (.string s) (some (.int .i64 ((n : Int) + 2))) none none).run Tryd.prog W = .ok (.string v) W := by
          intro W; rw [hv]
          have := run_slice_string_l (P := Tryd.prog) W 9 s Tryd.underlying9 .i64 (n + 2 : Nat) (by omega) (by omega)
          exact this
        rw [hp] at HZ
        rw [hE]
        show Calls Tryd.prog 16 #[.string s] w fun e w' => e = .returned (.tuple #[.string (ba ((bl s).take n)), .int .i64 3, .string (ba ((bl s).drop (n + 2)))]) ∧ Below w.heap.size w w'
        rw [hxb, hvb]
        clear hneg hge hn e1 e3 hsp hc hcut hx hy hz hv hcn h58 hzb hh hE hp hvb hxb hyb
        go_enter Tryd.func16, Tryd.ntmps16
        go_wp2_with fail
        refine (HI.out _).mono ?_
        rintro e w1 ⟨rfl, h1⟩
        have H1 : Hid (Below w.heap.size w w1) := h1
        clear h1
        go_wp2_with fail
        refine (HZ.out _).mono ?_
        rintro e w2 ⟨rfl, rfl⟩
        go_wp2
        go_quiet (fail)
        go_wp2
        go_ret3
        exact ⟨rfl, below_drewN H1.out _⟩
      · have hE : Q.cutOp [] (bl s) = ((bl s).take n, 1, (bl s).drop (n + 1)) := by
          rw [hcut, h58, Q.cutOp, if_neg (by decide), if_pos rfl, if_neg hh]
        have hp : Lib.hasPrefix (bl z) [58, 58] = false := by
          rw [hzb]
          cases hd : (bl s).drop (n + 1) with
          | nil => rfl
          | cons d r =>
            rw [hd] at hh; simp at hh
            have hd5 : (58 == d) = false := by simpa using fun e => hh e.symm
            simp [Lib.hasPrefix, List.isPrefixOf, hd5]
        rw [hp] at HZ
        rw [hE]
        show Calls Tryd.prog 16 #[.string s] w fun e w' => e = .returned (.tuple #[.string (ba ((bl s).take n)), .int .i64 1, .string (ba ((bl s).drop (n + 1)))]) ∧ Below w.heap.size w w'
        rw [hxb, hyb]
        clear hneg hge hn e1 e3 hsp hc hcut hx hy hz hcn h58 hzb hh hE hp hxb hyb
        go_enter Tryd.func16, Tryd.ntmps16
        go_wp2_with fail
        refine (HI.out _).mono ?_
        rintro e w1 ⟨rfl, h1⟩
        have H1 : Hid (Below w.heap.size w w1) := h1
        clear h1
        go_wp2_with fail
        refine (HZ.out _).mono ?_
        rintro e w2 ⟨rfl, rfl⟩
        go_wp2
        go_quiet (fail)
        go_wp2
        go_ret3
        exact ⟨rfl, below_drewN H1.out _⟩
    · have t1 : cn = 33 := by rw [hcn, ← hc, h33]; rfl
      have hE : Q.cutOp [] (bl s) = ((bl s).take n, 2, (bl s).drop (n + 1)) := by
        rw [hcut, h33, Q.cutOp, if_pos rfl]
      rw [hE]
      show Calls Tryd.prog 16 #[.string s] w fun e w' => e = .returned (.tuple #[.string (ba ((bl s).take n)), .int .i64 2, .string (ba ((bl s).drop (n + 1)))]) ∧ Below w.heap.size w w'
      rw [hxb, hyb]
      clear hneg hge hn e1 e3 hsp hc hcut hx hy hz hcn h33 hE hxb hyb
      go_enter Tryd.func16, Tryd.ntmps16
      go_wp2_with fail
      refine (HI.out _).mono ?_
      rintro e w1 ⟨rfl, h1⟩
      have H1 : Hid (Below w.heap.size w w1) := h1
      clear h1
      go_wp2
      go_quiet (fail)
      go_wp2
      go_ret3
      exact ⟨rfl, below_drewN H1.out _⟩

theorem semi_cut (t : List UInt8) : Q.semi [] t = ((Lib.cut t [59]).1, (Lib.cut t [59]).2.1) := by
  unfold Lib.cut
  rw [Lib.index_one]
  have hge := Lib.indexByte_ge t 59
  by_cases h : Lib.indexByte t 59 = -1
  · rw [if_neg (by omega)]
    have hn : 59 ∉ t := fun hm => by
      obtain ⟨k, hk⟩ := List.getElem?_of_mem hm
      exact Lib.indexByte_none h k hk
    exact Q.semi_none [] t hn
  · obtain ⟨i, hi⟩ : ∃ i : Nat, Lib.indexByte t 59 = i := ⟨(Lib.indexByte t 59).toNat, by omega⟩
    rw [hi, if_pos (by omega)]
    obtain ⟨h1, h2⟩ := Lib.indexByte_some hi
    obtain ⟨hil, hv⟩ := List.getElem?_eq_some_iff.1 h1
    have hn : 59 ∉ t.take i := by
      intro hm
      obtain ⟨k, hk⟩ := List.getElem?_of_mem hm
      have hki : k < i := by
        have := (List.getElem?_eq_some_iff.1 hk).1
        simp at this; omega
      rw [List.getElem?_take_of_lt hki] at hk
      exact h2 k hki hk
    have e0 : t = t.take i ++ 59 :: t.drop (i + 1) := by
      have := List.drop_eq_getElem_cons hil
      rw [hv] at this
      rw [← this, List.take_append_drop]
    conv => lhs; rw [e0]
    rw [Q.semi_skip [] _ _ hn, Q.semi, if_pos rfl]
    simp
theorem trimE_cons (c : UInt8) (t : List UInt8) : Q.trimE (c :: t) = if Q.trimE t = [] ∧ Q.B c = true then [] else c :: Q.trimE t := by
  unfold Q.trimE
  rw [List.reverse_cons, List.dropWhile_append]
  by_cases h : (t.reverse.dropWhile Q.B) = []
  · rw [h]
    cases hb : Q.B c with
    | true => simp [hb]
    | false => simp [hb]
  · have h2 : (t.reverse.dropWhile Q.B).isEmpty = false := by simpa using h
    rw [h2, if_neg (by simp), if_neg (by simp [h])]
    simp
theorem trim_swap (x : List UInt8) : (Q.trimE x).dropWhile Q.B = Q.trim x := by
  show _ = Q.trimE (x.dropWhile Q.B)
  induction x with
  | nil => rfl
  | cons c t ih =>
    rw [trimE_cons]
    cases hb : Q.B c with
    | true =>
      rw [List.dropWhile_cons_of_pos hb, ← ih]
      by_cases h : Q.trimE t = []
      · rw [if_pos ⟨h, rfl⟩, h]
      · rw [if_neg (by simp [h]), List.dropWhile_cons_of_pos hb]
    | false =>
      rw [List.dropWhile_cons_of_neg (by rw [hb]; simp), if_neg (by simp), List.dropWhile_cons_of_neg (by rw [hb]; simp), trimE_cons, if_neg (by rw [hb]; simp)]
theorem trim_lib (x : List UInt8) : Lib.trimS x [32, 9] = Q.trim x := trim_swap x
theorem scut_any (s : ByteArray) (w : World) (hs : s.size ≤ 4000000) (hM : Mx w) :
    Calls Tryd.prog 17 #[.string s, .string ⟨#[59]⟩] w fun e w' => (∃ f, e = .returned (.tuple #[.string (ba (Q.semi [] (bl s)).1), .string (ba (Q.semi [] (bl s)).2), .bool f])) ∧ Below w.heap.size w w' := by
  obtain ⟨m, hm⟩ := hM
  refine (Tryd.strings_Cut s ⟨#[59]⟩ m w (by omega) hm).mono ?_
  rintro e w' ⟨rfl, n, rfl⟩
  refine ⟨⟨(Lib.cut (bl s) [59]).2.2, ?_⟩, below_drewN (Below.refl _ _) n⟩
  rw [semi_cut]; rfl
theorem strim_any (s : ByteArray) (w : World) (hs : s.size ≤ 4000000) :
    Calls Tryd.prog 19 #[.string s, .string ⟨#[32, 9]⟩] w fun e w' => e = .returned (.string (ba (Q.trim (bl s)))) ∧ Below w.heap.size w w' := by
  refine (Any.strings_Trim_laid Tryd.lays160 (by kernel_rfl) s ⟨#[32, 9]⟩ w (by omega) (by show 2 < 4294967281; omega) (ascii_of_all rfl)).mono ?_
  rintro e w' ⟨rfl, h⟩
  refine ⟨?_, h⟩
  rw [← trim_lib]; rfl
end Go.Proofs.YtbgnmchnfaknkaaDoor
