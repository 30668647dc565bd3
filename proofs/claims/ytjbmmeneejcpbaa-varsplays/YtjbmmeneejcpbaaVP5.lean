/-
  The document's Add, Get, Default and In.
-/
import Derived.Test.YtjbmmeneejcpbaaVP4
namespace Go.Proofs.Ytjbmmeneejcpbaa
open Go.RowKit Go.Shelf Go.Maps

section
variable {base br : Nat} {vL : Value} {L : Vl} {s : VS}

set_option maxRecDepth 20000 in
set_option maxHeartbeats 800000 in
theorem rin_any (n : Int) (q : ByteArray) (w : World) (h : RSet base br vL L w) (hr : Rel L s) :
    Calls Try.prog 19 #[rptr br, .int .i64 n, .string q] w fun e w' => e = .returned (optV ((s n).look q)) ∧ w = w' := by
  have hlen := hr.len
  have HA : Hid (Calls Try.prog 35 #[rptr br, .int .i64 n, .string q] w fun e w' => ∃ r, e = .returned (.int .i64 r) ∧ AtIs L n q r ∧ w = w') := rat_any n q w h hlen
  have c0 := h.c0
  have HV : Hid (RSet base br vL L w) := h
  rw [hr.proj]
  clear h hr
  go_enter Try.func19, Try.ntmps19
  go_wp2_with fail
  refine HA.out.mono ?_
  rintro e w' ⟨r, rfl, hat, rfl⟩
  rcases hat with ⟨rfl, hlk⟩ | ⟨i, x, rfl, hx, e1, e2, hlk, hb⟩
  · have HL : Hid ((proj L n).look q = none) := hlk
    clear hlk
    go_wp2
    go_ret2
    exact ⟨by rw [HL.out]; rfl, rfl⟩
  · have HL : Hid ((proj L n).look q = some x.v) := hlk
    obtain ⟨g, cap, hv, hil, hg, y0, y1, y2⟩ := HV.out.cellsAt hx
    obtain ⟨ll, hll⟩ : ∃ ll, ll = L.length := ⟨_, rfl⟩
    rw [← hll] at hil hv hlen
    have hii : (i : Int) < (ll : Int) := by omega
    have hi2 : ¬ (i : Int) < 0 := by omega
    subst hv
    clear hlk hx e1 e2 hb hll y0 y1
    go_wp2
    go_ret2
    exact ⟨by rw [HL.out]; rfl, rfl⟩

set_option maxRecDepth 20000 in
set_option maxHeartbeats 800000 in
theorem rget_any (q : ByteArray) (w : World) (h : RSet base br vL L w) (hr : Rel L s) :
    Calls Try.prog 17 #[rptr br, .string q] w fun e w' => e = .returned (optV (s.get q)) ∧ w = w' := by
  have hlen := hr.len
  have HA : Hid (∀ n, Calls Try.prog 35 #[rptr br, .int .i64 n, .string q] w fun e w' => ∃ r, e = .returned (.int .i64 r) ∧ AtIs L n q r ∧ w = w') := fun n => rat_any n q w h hlen
  have c0 := h.c0
  have HV : Hid (RSet base br vL L w) := h
  have HR : Hid (Rel L s) := hr
  have HG : Hid (s.get q = getFrom s q 4 1) := get_from s q
  clear h hr
  go_enter Try.func17, Try.ntmps17
  go_wp2
  go_loopw [6, 7] (fun v _ wr => ∃ k : Nat, k ≤ 4 ∧ v = .int .i64 (5 - (k : Int)) ∧ Hid (s.get q = getFrom s q k (5 - (k : Int))) ∧ w = wr)
    (fun v _ _ => (5 - intOf v).toNat)
  case atStart => exact ⟨4, Nat.le_refl _, rfl, HG, rfl⟩
  case round =>
    obtain ⟨k, hk, rfl, HK, rfl⟩ := hrel
    cases k with
    | zero =>
      have HE : Hid (s.get q = none) := by rw [HK.out]; rfl
      clear HK HG
      go_wp2
      go_ret2
      exact ⟨by rw [HE.out]; rfl, rfl⟩
    | succ k =>
      obtain ⟨n, hn⟩ : ∃ n : Int, n = 5 - ((k + 1 : Nat) : Int) := ⟨_, rfl⟩
      rw [← hn] at HK ⊢
      have h1 : 1 ≤ n := by omega
      have h4 : n ≤ 4 := by omega
      have HN : Hid (n = 5 - ((k + 1 : Nat) : Int)) := hn
      clear hn HG
      go_wp2_with fail
      refine (HA.out n).mono ?_
      rintro e w' ⟨r, rfl, hat, rfl⟩
      rcases hat with ⟨rfl, hlk⟩ | ⟨i, x, rfl, hx, e1, e2, hlk, hb⟩
      · have hl : (s n).look q = none := by rw [HR.out.proj]; exact hlk
        have HE : Hid (s.get q = getFrom s q k (n + 1)) := by rw [HK.out]; exact getFrom_none hl
        clear hlk hl HK
        go_wp2
        go_roundw
        case rel =>
          have := HN.out
          have e1 : n + 1 = 5 - (k : Int) := by omega
          exact ⟨k, by omega, by rw [← e1], by rw [← e1]; exact HE, trivial⟩
        case measure => simp [intOf]; omega
      · have hl : (s n).look q = some x.v := by rw [HR.out.proj]; exact hlk
        have HE : Hid (s.get q = some x.v) := by rw [HK.out]; unfold getFrom; rw [hl]; rfl
        obtain ⟨g, cap, hv, hil, hg, y0, y1, y2⟩ := HV.out.cellsAt hx
        obtain ⟨ll, hll⟩ : ∃ ll, ll = L.length := ⟨_, rfl⟩
        rw [← hll] at hil hv hlen
        have hii : (i : Int) < (ll : Int) := by omega
        have hi2 : (0 : Int) ≤ (i : Int) := by omega
        subst hv
        clear hlk hl hx e1 e2 hb hll y0 y1 HK
        go_wp2
        go_ret2
        exact ⟨by rw [HE.out]; rfl, rfl⟩

theorem more_size {s : VS} (h : s.Ok) (n : Int) (q v : ByteArray) : (s.more n q v).size ≤ v.size + 65537 := by
  unfold VS.more
  split
  · rename_i o ho
    have := VS.look_size h ho
    rw [sized_add, sized_add, show blank.size = 1 from rfl]; omega
  · omega
theorem add_put (s : VS) (n : Int) (q v : ByteArray) : s.add n q v = s.put n q (s.more n q v) := rfl

set_option maxRecDepth 20000 in
set_option maxHeartbeats 800000 in
theorem radd_any (n : Int) (q v : ByteArray) (w : World) (h : RSet base br vL L w) (hr : Rel L s) (hq : q.size ≤ 140737488355328) (hv : v.size ≤ 140737488355328) :
    Calls Try.prog 31 #[rptr br, .int .i64 n, .string q, .string v] w fun e w' => e = .returned (.int .i64 (s.add n q v).2) ∧ Left base br (s.add n q v).1 w w' := by
  have hlen := hr.len
  have HA : Hid (Calls Try.prog 35 #[rptr br, .int .i64 n, .string q] w fun e w' => ∃ r, e = .returned (.int .i64 r) ∧ AtIs L n q r ∧ w = w') := rat_any n q w h hlen
  have hms := more_size hr.ok n q v
  rw [add_put]
  obtain ⟨res, hres⟩ : ∃ res, res = s.put n q (s.more n q v) := ⟨_, rfl⟩
  rw [← hres]
  have HPt : Hid (∀ y, y = s.more n q v → Calls Try.prog 30 #[rptr br, .int .i64 n, .string q, .string y] w fun e w' => e = .returned (.int .i64 res.2) ∧ Left base br res.1 w w') := by
    rintro y rfl
    rw [hres]; exact rput_any n q _ w h hr hq (by omega)
  clear hres hms
  have c0 := h.c0
  have HV : Hid (RSet base br vL L w) := h
  have HR : Hid (Rel L s) := hr
  clear h hr
  go_enter Try.func31, Try.ntmps31
  go_wp2_with fail
  refine HA.out.mono ?_
  rintro e w' ⟨r, rfl, hat, rfl⟩
  rcases hat with ⟨rfl, hlk⟩ | ⟨i, x, rfl, hx, e1, e2, hlk, hb⟩
  · have hm : s.more n q v = v := by unfold VS.more; rw [HR.out.proj, hlk]
    have HP2 : Hid (Calls Try.prog 30 #[rptr br, .int .i64 n, .string q, .string v] w fun e w' => e = .returned (.int .i64 res.2) ∧ Left base br res.1 w w') := HPt.out v hm.symm
    clear hlk hm
    go_wp2_with fail
    refine HP2.out.mono ?_
    rintro e w2 ⟨rfl, hL⟩
    have HL : Hid (Left base br res.1 w w2) := hL
    clear hL
    go_wp2
    go_ret
    exact ⟨rfl, HL.out⟩
  · have hm : s.more n q v = x.v ++ blank ++ v := by unfold VS.more; rw [HR.out.proj, hlk]
    have hxs : x.v.size ≤ 65536 := HR.out.val (List.mem_of_getElem? hx)
    obtain ⟨y1', hy1⟩ : ∃ y1', y1' = x.v ++ blank := ⟨_, rfl⟩
    obtain ⟨y2', hy2⟩ : ∃ y2', y2' = x.v ++ blank ++ v := ⟨_, rfl⟩
    have hz1 : y1'.size = x.v.size + 1 := by rw [hy1, sized_add]; rfl
    have hz2 : y2'.size = y1'.size + v.size := by rw [hy2, hy1, sized_add]
    have had1 : ∀ W, (Op.stringOp .add x.v ⟨#[32]⟩).run Try.prog W = .ok (.string y1') W := fun W => by rw [hy1]; exact run_string_add_sum W _ _ (by show x.v.size + 1 ≤ _; omega)
    have had2 : ∀ W, (Op.stringOp .add y1' v).run Try.prog W = .ok (.string y2') W := fun W => by rw [hy2, ← hy1]; exact run_string_add_sum W _ _ (by omega)
    have HP2 : Hid (Calls Try.prog 30 #[rptr br, .int .i64 n, .string q, .string y2'] w fun e w' => e = .returned (.int .i64 res.2) ∧ Left base br res.1 w w') := HPt.out y2' (by rw [hm, hy2])
    obtain ⟨g, cap, hvv, hil, hg, y0, y1, y2⟩ := HV.out.cellsAt hx
    obtain ⟨ll, hll⟩ : ∃ ll, ll = L.length := ⟨_, rfl⟩
    rw [← hll] at hil hvv hlen
    have hii : (i : Int) < (ll : Int) := by omega
    have hi2 : (0 : Int) ≤ (i : Int) := by omega
    subst hvv
    obtain ⟨xv, hxv⟩ : ∃ xv, xv = x.v := ⟨_, rfl⟩
    rw [← hxv] at had1 y2 hxs hz1
    clear hlk hx e1 e2 hb hll y0 y1 hm hy1 hy2 hxv
    go_wp2_with fail
    refine HP2.out.mono ?_
    rintro e w2 ⟨rfl, hL⟩
    have HL : Hid (Left base br res.1 w w2) := hL
    clear hL
    go_wp2
    go_ret
    exact ⟨rfl, HL.out⟩

theorem dflt_put {s : VS} (h : s.Ok) (n : Int) (q v : ByteArray) : s.dflt n q v = if (s.get q).isSome && isSc n then (s, 0) else s.put n q v := by
  unfold VS.dflt VS.put
  cases hg : s.get q with
  | none => simp
  | some o =>
    have hrt : rightB q = true := by
      have : ∃ m, (s m).look q = some o := by
        unfold VS.get at hg
        split at hg
        · rename_i v1 h1; exact ⟨1, by rw [h1]; exact hg⟩
        · split at hg
          · rename_i v1 h1; exact ⟨2, by rw [h1]; exact hg⟩
          · split at hg
            · rename_i v1 h1; exact ⟨3, by rw [h1]; exact hg⟩
            · exact ⟨4, hg⟩
      obtain ⟨m, hm⟩ := this
      exact h.name m _ (Sc.look_mem hm)
    unfold VS.ok
    rw [hrt]
    cases isSc n <;> simp

set_option maxRecDepth 20000 in
set_option maxHeartbeats 800000 in
theorem rdflt_any (n : Int) (q v : ByteArray) (w : World) (h : RSet base br vL L w) (hr : Rel L s) (hq : q.size ≤ 140737488355328) (hv : v.size ≤ 140737488355328) :
    Calls Try.prog 32 #[rptr br, .int .i64 n, .string q, .string v] w fun e w' => e = .returned (.int .i64 (s.dflt n q v).2) ∧ Left base br (s.dflt n q v).1 w w' := by
  have HG : Hid (Calls Try.prog 17 #[rptr br, .string q] w fun e w' => e = .returned (optV (s.get q)) ∧ w = w') := rget_any q w h hr
  have HS : Hid (Calls Try.prog 46 #[.int .i64 n] w fun e w' => e = .returned (.bool (isSc n)) ∧ w = w') := rscope_any n w
  have HP2 : Hid (Calls Try.prog 30 #[rptr br, .int .i64 n, .string q, .string v] w fun e w' => e = .returned (.int .i64 (s.put n q v).2) ∧ Left base br (s.put n q v).1 w w') := rput_any n q v w h hr hq (by omega)
  have HL0 : Hid (Left base br s w w) := ⟨_, _, h, hr, RTurn.refl _ _⟩
  rw [dflt_put hr.ok]
  unfold optV at HG
  obtain ⟨res, hres⟩ : ∃ res, res = s.put n q v := ⟨_, rfl⟩
  rw [← hres] at HP2 ⊢
  obtain ⟨t, ht⟩ : ∃ t, t = (s.get q).isSome := ⟨_, rfl⟩
  obtain ⟨x, hx⟩ : ∃ x, x = (s.get q).getD E := ⟨_, rfl⟩
  rw [← ht, ← hx] at HG
  rw [← ht]
  obtain ⟨y, hy⟩ : ∃ y, y = isSc n := ⟨_, rfl⟩
  rw [← hy] at HS ⊢
  clear h hr hres ht hx hy
  cases t
  · go_enter Try.func32, Try.ntmps32
    go_wp2_with fail
    refine HG.out.mono ?_
    rintro e w' ⟨rfl, rfl⟩
    go_wp2_with fail
    refine HP2.out.mono ?_
    rintro e w2 ⟨rfl, hL⟩
    have HL : Hid (Left base br res.1 w w2) := hL
    clear hL
    go_wp2
    go_ret
    exact ⟨rfl, HL.out⟩
  · cases y
    · go_enter Try.func32, Try.ntmps32
      go_wp2_with fail
      refine HG.out.mono ?_
      rintro e w' ⟨rfl, rfl⟩
      go_wp2_with fail
      refine HS.out.mono ?_
      rintro e w' ⟨rfl, rfl⟩
      go_wp2_with fail
      refine HP2.out.mono ?_
      rintro e w2 ⟨rfl, hL⟩
      have HL : Hid (Left base br res.1 w w2) := hL
      clear hL
      go_wp2
      go_ret
      exact ⟨rfl, HL.out⟩
    · go_enter Try.func32, Try.ntmps32
      go_wp2_with fail
      refine HG.out.mono ?_
      rintro e w' ⟨rfl, rfl⟩
      go_wp2_with fail
      refine HS.out.mono ?_
      rintro e w' ⟨rfl, rfl⟩
      go_wp2
      go_ret
      exact ⟨rfl, HL0.out⟩
end
end Go.Proofs.Ytjbmmeneejcpbaa
