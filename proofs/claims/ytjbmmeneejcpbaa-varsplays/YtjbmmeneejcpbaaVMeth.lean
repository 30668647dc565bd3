/-
  What Put, Add, Default and Drop leave and answer.
-/
import Derived.Test.YtjbmmeneejcpbaaVGive
import Derived.Test.YtjbmmeneejcpbaaVRight
namespace Go.Proofs.Ytjbmmeneejcpbaa
open Go.RowKit Go.Shelf Go.Maps

section
variable {base b : Nat} {m : Int → Nat} {s : VS}

set_option maxHeartbeats 400000 in
theorem mayStand_any (n : Int) (q : ByteArray) (w : World) (h : VSet base b m s w) :
    Calls Try.prog 42 #[ptr b, .int .i64 n, .string q] w fun e w' => e = .returned (.int .i64 (if VS.ok n q then 0 else 1)) ∧ Below w.heap.size w w' := by
  have HR : Hid (Calls Try.prog 40 #[ptr b] w fun e w' => e = .returned (.bool true) ∧ w = w') := ready_any w h
  have HS : Hid (Calls Try.prog 41 #[.int .i64 n] w fun e w' => e = .returned (.bool (isSc n)) ∧ w = w') := isScope_any n w
  have HG : Hid (Calls Try.prog 10 #[.string q] w fun e w' => e = .returned (.bool (rightB q)) ∧ Below w.heap.size w w') := right_any q w
  unfold VS.ok
  clear h
  obtain ⟨x, hx⟩ : ∃ x, x = isSc n := ⟨_, rfl⟩
  obtain ⟨y, hy⟩ : ∃ y, y = rightB q := ⟨_, rfl⟩
  rw [← hx] at HS ⊢
  rw [← hy] at HG ⊢
  clear hx hy
  cases x
  · go_enter Try.func42, Try.ntmps42
    go_wp2_with fail
    refine HR.out.mono ?_
    rintro e w' ⟨rfl, rfl⟩
    go_wp2_with fail
    refine HS.out.mono ?_
    rintro e w' ⟨rfl, rfl⟩
    go_wp2
    go_ret
    exact ⟨rfl, Below.refl _ _⟩
  · cases y
    all_goals
      go_enter Try.func42, Try.ntmps42
      go_wp2_with fail
      refine HR.out.mono ?_
      rintro e w' ⟨rfl, rfl⟩
      go_wp2_with fail
      refine HS.out.mono ?_
      rintro e w' ⟨rfl, rfl⟩
      go_wp2_with fail
      refine HG.out.mono ?_
      rintro e w' ⟨rfl, hb⟩
      go_wp2
      go_ret
      exact ⟨rfl, hb⟩

theorem nil_add (v : ByteArray) : E ++ v = v := by apply bl_inj; simp [bl]

/-- give, in any world that has only grown. -/
theorem give_below {w : World} (h : VSet base b m s w) (n : Int) (q hd tl : ByteArray) (hk : VS.ok n q = true) (hh : hd.size ≤ 1000000) (ht : tl.size ≤ 140737488355328) (W : World) (hB : Below w.heap.size w W) :
    Calls Try.prog 43 #[ptr b, .int .i64 n, .string q, .string hd, .string tl] W fun e w' => e = .returned (.int .i64 (s.give n q (hd ++ tl)).2) ∧ VSet base b m (s.give n q (hd ++ tl)).1 w' ∧ Turn m w w' :=
  (give_any n q hd tl W (h.below hB) hk hh ht).mono fun _ _ hx => ⟨hx.1, hx.2.1, (Turn.of_below hB).trans hx.2.2⟩

set_option maxHeartbeats 400000 in
theorem put_any (n : Int) (q v : ByteArray) (w : World) (h : VSet base b m s w) (hv : v.size ≤ 140737488355328) :
    Calls Try.prog 24 #[ptr b, .int .i64 n, .string q, .string v] w fun e w' => e = .returned (.int .i64 (s.put n q v).2) ∧ VSet base b m (s.put n q v).1 w' ∧ Turn m w w' := by
  have HM : Hid (Calls Try.prog 42 #[ptr b, .int .i64 n, .string q] w fun e w' => e = .returned (.int .i64 (if VS.ok n q then 0 else 1)) ∧ Below w.heap.size w w') := mayStand_any n q w h
  cases hk : VS.ok n q
  · have HP : Hid (s.put n q v = (s, 1)) := by unfold Hid VS.put; rw [hk]; rfl
    have HV : Hid (∀ W, Below w.heap.size w W → VSet base b m s W) := fun W hB => h.below hB
    rw [hk] at HM
    simp only [Bool.false_eq_true, if_false] at HM
    clear h hk
    go_enter Try.func24, Try.ntmps24
    go_wp2_with fail
    refine HM.out.mono ?_
    rintro e w' ⟨rfl, hb⟩
    go_wp2
    go_ret
    exact ⟨ret_int (by rw [HP.out]), by rw [HP.out]; exact HV.out _ hb, Turn.of_below hb⟩
  · have HP : Hid (s.put n q v = s.give n q v) := by unfold Hid VS.put; rw [hk]; rfl
    have HG : Hid (∀ W, Below w.heap.size w W → Calls Try.prog 43 #[ptr b, .int .i64 n, .string q, .string E, .string v] W fun e w' => e = .returned (.int .i64 (s.put n q v).2) ∧ VSet base b m (s.put n q v).1 w' ∧ Turn m w w') := by
      intro W hB
      have := give_below h n q E v hk (by decide) hv W hB
      rw [nil_add, ← HP.out] at this
      exact this
    rw [hk] at HM
    simp only [if_true] at HM
    clear h hk HP
    go_enter Try.func24, Try.ntmps24
    go_wp2_with fail
    refine HM.out.mono ?_
    rintro e w' ⟨rfl, hb⟩
    go_wp2_with fail
    refine (HG.out _ hb).mono ?_
    rintro e w2 ⟨rfl, hv2, ht2⟩
    go_wp2
    go_ret
    exact ⟨rfl, hv2, ht2⟩

set_option maxHeartbeats 400000 in
theorem add_any (n : Int) (q v : ByteArray) (w : World) (h : VSet base b m s w) (hq : q.size ≤ 140737488355328) (hv : v.size ≤ 140737488355328) :
    Calls Try.prog 27 #[ptr b, .int .i64 n, .string q, .string v] w fun e w' => e = .returned (.int .i64 (s.add n q v).2) ∧ VSet base b m (s.add n q v).1 w' ∧ Turn m w w' := by
  have HM : Hid (Calls Try.prog 42 #[ptr b, .int .i64 n, .string q] w fun e w' => e = .returned (.int .i64 (if VS.ok n q then 0 else 1)) ∧ Below w.heap.size w w') := mayStand_any n q w h
  cases hk : VS.ok n q
  · have HP : Hid (s.add n q v = (s, 1)) := by unfold Hid VS.add; rw [hk]; rfl
    have HV : Hid (∀ W, Below w.heap.size w W → VSet base b m s W) := fun W hB => h.below hB
    rw [hk] at HM
    simp only [Bool.false_eq_true, if_false] at HM
    clear h hk
    go_enter Try.func27, Try.ntmps27
    go_wp2_with fail
    refine HM.out.mono ?_
    rintro e w' ⟨rfl, hb⟩
    go_wp2
    go_ret
    exact ⟨ret_int (by rw [HP.out]), by rw [HP.out]; exact HV.out _ hb, Turn.of_below hb⟩
  · have HP : Hid (s.add n q v = s.give n q (s.more n q v)) := by unfold Hid VS.add; rw [hk]; rfl
    have HI : Hid (∀ W, Below w.heap.size w W → Calls Try.prog 18 #[ptr b, .int .i64 n, .string q] W fun e w' => e = .returned (optV ((s n).look q)) ∧ Below W.heap.size W w') := fun W hB => in_any n q W (h.below hB) hq
    rw [hk] at HM
    simp only [if_true] at HM
    cases hl : (s n).look q with
    | none =>
      have HG : Hid (∀ W, Below w.heap.size w W → Calls Try.prog 43 #[ptr b, .int .i64 n, .string q, .string E, .string v] W fun e w' => e = .returned (.int .i64 (s.add n q v).2) ∧ VSet base b m (s.add n q v).1 w' ∧ Turn m w w') := by
        intro W hB
        have := give_below h n q E v hk (by decide) hv W hB
        rw [nil_add] at this
        rw [HP.out, show s.more n q v = v by unfold VS.more; rw [hl]]
        exact this
      rw [hl] at HI
      unfold optV at HI
      simp only [Option.getD_none, Option.isSome_none] at HI
      clear h hk HP hl
      go_enter Try.func27, Try.ntmps27
      go_wp2_with fail
      refine HM.out.mono ?_
      rintro e w' ⟨rfl, hb⟩
      go_wp2_with fail
      refine (HI.out _ hb).mono ?_
      rintro e w2 ⟨rfl, hb2⟩
      have hb3 := hb.trans (hb2.mono hb.size)
      go_wp2_with fail
      refine (HG.out _ hb3).mono ?_
      rintro e w3 ⟨rfl, hv3, ht3⟩
      go_wp2
      go_ret
      exact ⟨rfl, hv3, ht3⟩
    | some o =>
      have hos := VS.look_size h.ok hl
      have HG : Hid (∀ W, Below w.heap.size w W → Calls Try.prog 43 #[ptr b, .int .i64 n, .string q, .string (o ++ blank), .string v] W fun e w' => e = .returned (.int .i64 (s.add n q v).2) ∧ VSet base b m (s.add n q v).1 w' ∧ Turn m w w') := by
        intro W hB
        have := give_below h n q (o ++ blank) v hk (by rw [sized_add, show blank.size = 1 from rfl]; omega) hv W hB
        rw [HP.out, show s.more n q v = o ++ blank ++ v by unfold VS.more; rw [hl]]
        exact this
      rw [hl] at HI
      unfold optV at HI
      simp only [Option.getD_some, Option.isSome_some] at HI
      unfold blank at HG
      clear h hk HP hl
      go_enter Try.func27, Try.ntmps27
      go_wp2_with fail
      refine HM.out.mono ?_
      rintro e w' ⟨rfl, hb⟩
      go_wp2_with fail
      refine (HI.out _ hb).mono ?_
      rintro e w2 ⟨rfl, hb2⟩
      have hb3 := hb.trans (hb2.mono hb.size)
      go_wp2_with fail
      refine (HG.out _ hb3).mono ?_
      rintro e w3 ⟨rfl, hv3, ht3⟩
      go_wp2
      go_ret
      exact ⟨rfl, hv3, ht3⟩

set_option maxHeartbeats 400000 in
theorem dflt_any (n : Int) (q v : ByteArray) (w : World) (h : VSet base b m s w) (hq : q.size ≤ 140737488355328) (hv : v.size ≤ 140737488355328) :
    Calls Try.prog 28 #[ptr b, .int .i64 n, .string q, .string v] w fun e w' => e = .returned (.int .i64 (s.dflt n q v).2) ∧ VSet base b m (s.dflt n q v).1 w' ∧ Turn m w w' := by
  have HM : Hid (Calls Try.prog 42 #[ptr b, .int .i64 n, .string q] w fun e w' => e = .returned (.int .i64 (if VS.ok n q then 0 else 1)) ∧ Below w.heap.size w w') := mayStand_any n q w h
  have HV : Hid (∀ W, Below w.heap.size w W → VSet base b m s W) := fun W hB => h.below hB
  cases hk : VS.ok n q
  · have HP : Hid (s.dflt n q v = (s, 1)) := by unfold Hid VS.dflt; rw [hk]; rfl
    rw [hk] at HM
    simp only [Bool.false_eq_true, if_false] at HM
    clear h hk
    go_enter Try.func28, Try.ntmps28
    go_wp2_with fail
    refine HM.out.mono ?_
    rintro e w' ⟨rfl, hb⟩
    go_wp2
    go_ret
    exact ⟨ret_int (by rw [HP.out]), by rw [HP.out]; exact HV.out _ hb, Turn.of_below hb⟩
  · have HI : Hid (∀ W, Below w.heap.size w W → Calls Try.prog 16 #[ptr b, .string q] W fun e w' => e = .returned (optV (s.get q)) ∧ Below W.heap.size W w') := fun W hB => get_any q W (h.below hB) hq
    rw [hk] at HM
    simp only [if_true] at HM
    cases hl : s.get q with
    | none =>
      have HG : Hid (∀ W, Below w.heap.size w W → Calls Try.prog 43 #[ptr b, .int .i64 n, .string q, .string E, .string v] W fun e w' => e = .returned (.int .i64 (s.dflt n q v).2) ∧ VSet base b m (s.dflt n q v).1 w' ∧ Turn m w w') := by
        intro W hB
        have := give_below h n q E v hk (by decide) hv W hB
        rw [nil_add] at this
        rw [show s.dflt n q v = s.give n q v by unfold VS.dflt; rw [hk, hl]; rfl]
        exact this
      rw [hl] at HI
      unfold optV at HI
      simp only [Option.getD_none, Option.isSome_none] at HI
      clear h hk hl
      go_enter Try.func28, Try.ntmps28
      go_wp2_with fail
      refine HM.out.mono ?_
      rintro e w' ⟨rfl, hb⟩
      go_wp2_with fail
      refine (HI.out _ hb).mono ?_
      rintro e w2 ⟨rfl, hb2⟩
      have hb3 := hb.trans (hb2.mono hb.size)
      go_wp2_with fail
      refine (HG.out _ hb3).mono ?_
      rintro e w3 ⟨rfl, hv3, ht3⟩
      go_wp2
      go_ret
      exact ⟨rfl, hv3, ht3⟩
    | some o =>
      have HP : Hid (s.dflt n q v = (s, 0)) := by unfold Hid VS.dflt; rw [hk, hl]; rfl
      rw [hl] at HI
      unfold optV at HI
      simp only [Option.getD_some, Option.isSome_some] at HI
      clear h hk hl
      go_enter Try.func28, Try.ntmps28
      go_wp2_with fail
      refine HM.out.mono ?_
      rintro e w' ⟨rfl, hb⟩
      go_wp2_with fail
      refine (HI.out _ hb).mono ?_
      rintro e w2 ⟨rfl, hb2⟩
      have hb3 := hb.trans (hb2.mono hb.size)
      go_wp2
      go_ret
      exact ⟨ret_int (by rw [HP.out]), by rw [HP.out]; exact HV.out _ hb3, Turn.of_below hb3⟩

set_option maxHeartbeats 400000 in
theorem drop_any (n : Int) (q : ByteArray) (w : World) (h : VSet base b m s w) (hq : q.size ≤ 140737488355328) :
    Calls Try.prog 23 #[ptr b, .int .i64 n, .string q] w fun e w' => e = .returned (.int .i64 (s.drop n q).2) ∧ VSet base b m (s.drop n q).1 w' ∧ Turn m w w' := by
  have HR : Hid (Calls Try.prog 40 #[ptr b] w fun e w' => e = .returned (.bool true) ∧ w = w') := ready_any w h
  have HS : Hid (Calls Try.prog 41 #[.int .i64 n] w fun e w' => e = .returned (.bool (isSc n)) ∧ w = w') := isScope_any n w
  have HV : Hid (∀ W, Below w.heap.size w W → VSet base b m s W) := fun W hB => h.below hB
  cases hn : isSc n
  · have HP : Hid (s.drop n q = (s, 1)) := by unfold Hid VS.drop; rw [hn]; rfl
    rw [hn] at HS
    clear hn h
    go_enter Try.func23, Try.ntmps23
    go_wp2_with fail
    refine HR.out.mono ?_
    rintro e w' ⟨rfl, rfl⟩
    go_wp2_with fail
    refine HS.out.mono ?_
    rintro e w' ⟨rfl, rfl⟩
    go_wp2
    go_ret
    exact ⟨ret_int (by rw [HP.out]), by rw [HP.out]; exact HV.out _ (Below.refl _ _), Turn.refl _ _⟩
  · have HI : Hid (Calls Try.prog 18 #[ptr b, .int .i64 n, .string q] w fun e w' => e = .returned (optV ((s n).look q)) ∧ Below w.heap.size w w') := in_any n q w h hq
    have HA : Hid (∀ W, Below w.heap.size w W → Calls Try.prog 36 #[ptr b, .int .i64 n] W fun e w' => e = .returned (.map (some (m n))) ∧ W = w') := by
      intro W hB
      have := all_any n W (h.below hB)
      rw [show mapAt m n = some (m n) by unfold mapAt; rw [hn]; rfl] at this
      exact this
    rw [hn] at HS
    cases hl : (s n).look q with
    | none =>
      have HP : Hid (s.drop n q = (s, 6)) := by unfold Hid VS.drop; rw [hn, hl]; rfl
      rw [hl] at HI
      unfold optV at HI
      simp only [Option.getD_none, Option.isSome_none] at HI
      clear h hn hl
      go_enter Try.func23, Try.ntmps23
      go_wp2_with fail
      refine HR.out.mono ?_
      rintro e w' ⟨rfl, rfl⟩
      go_wp2_with fail
      refine HS.out.mono ?_
      rintro e w' ⟨rfl, rfl⟩
      go_wp2_with fail
      refine HI.out.mono ?_
      rintro e w2 ⟨rfl, hb⟩
      go_wp2
      go_ret
      exact ⟨ret_int (by rw [HP.out]), by rw [HP.out]; exact HV.out _ hb, Turn.of_below hb⟩
    | some o =>
      have HP : Hid (s.drop n q = (s.upd n ((s n).del q), 0)) := by unfold Hid VS.drop; rw [hn, hl]; rfl
      have HD : Hid (∀ W, Below w.heap.size w W → ∀ ty, ∃ w', (Builtin.delete_ #[52, 9] ty #[.map (some (m n)), .string q]).run Try.prog W = .ok (.tuple #[]) w' ∧ VSet base b m (s.drop n q).1 w' ∧ Turn m w w') := by
        intro W hB ty
        have hv := HV.out W hB
        obtain ⟨w', hrun, hf, htn⟩ := (hv.map n hn).drop ty hq
        have hk := VS.drop_ok hv.ok n q
        rw [HP.out] at hk ⊢
        exact ⟨w', hrun, hv.upd hn hk hf htn, (Turn.of_below hB).trans (Turn.of_turned hn htn)⟩
      rw [hl] at HI
      unfold optV at HI
      simp only [Option.getD_some, Option.isSome_some] at HI
      clear h hn hl
      go_enter Try.func23, Try.ntmps23
      go_wp2_with fail
      refine HR.out.mono ?_
      rintro e w' ⟨rfl, rfl⟩
      go_wp2_with fail
      refine HS.out.mono ?_
      rintro e w' ⟨rfl, rfl⟩
      go_wp2_with fail
      refine HI.out.mono ?_
      rintro e w2 ⟨rfl, hb⟩
      go_wp2_with fail
      refine (HA.out _ hb).mono ?_
      rintro e w3 ⟨rfl, rfl⟩
      obtain ⟨w9, hrun, hv9, ht9⟩ := HD.out _ hb 0
      go_wp2
      go_ret
      exact ⟨ret_int (by rw [HP.out]), hv9, ht9⟩
end
end Go.Proofs.Ytjbmmeneejcpbaa
