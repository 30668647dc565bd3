/-
  DQ8 MP DQ9
-/
import Derived.Test.YtpcpcfnmcfjomaaGreatDoorK15
import Derived.Test.YtpcpcfnmcfjomaaGreatDoorK17
namespace Go.Proofs.YtpcpcfnmcfjomaaGreatDoor.DQ
open Go.RowKit Go.Shelf
def idxC (c : UInt8) : List UInt8 → Option Nat
  | [] => none
  | b :: t => if b = c then some 0 else (idxC c t).map (· + 1)
theorem idx_at {c : UInt8} {l : List UInt8} {k : Nat} (h : ∀ j, j < k → ¬ l[j]? = some c) : idxC c l = (idxC c (l.drop k)).map (· + k) := by
  induction k generalizing l with
  | zero => simp
  | succ k ih =>
    cases l with
    | nil => simp [idxC]
    | cons b t =>
      have h0 := h 0 (Nat.succ_pos _)
      have := ih (l := t) (fun j hj => h (j + 1) (by omega))
      rw [idxC, if_neg (by simpa using h0), this, List.drop_succ_cons, Option.map_map]
      congr 1
theorem idx_hit {c : UInt8} {l : List UInt8} {k : Nat} (h : ∀ j, j < k → ¬ l[j]? = some c) (hk : l[k]? = some c) : idxC c l = some k := by
  rw [idx_at h]
  have h1 : k < l.length := (List.getElem?_eq_some_iff.1 hk).1
  rw [List.drop_eq_getElem_cons h1, (List.getElem?_eq_some_iff.1 hk).2, idxC, if_pos rfl]
  simp
theorem idx_no {c : UInt8} {l : List UInt8} {k : Nat} (h : ∀ j, j < k → ¬ l[j]? = some c) (hk : l.length ≤ k) : idxC c l = none := by
  rw [idx_at h, List.drop_of_length_le hk]; rfl
def sufA (a b s : List UInt8) : List UInt8 :=
  match idxC 37 a with
  | none => if s.length < a.length ∨ s.drop (s.length - a.length) ≠ a then s else s.take (s.length - a.length) ++ b
  | some i =>
    if s.length < i + (a.length - (i + 1)) ∨ s.take i ≠ a.take i ∨ s.drop (s.length - (a.length - (i + 1))) ≠ a.drop (i + 1) then s
    else match idxC 37 b with
      | some j => b.take j ++ (s.take (s.length - (a.length - (i + 1)))).drop i ++ b.drop (j + 1)
      | none => b
theorem ifc {p q : Prop} [Decidable p] [Decidable q] {α : Type} {x y : α} (h : p ↔ q) : (if p then x else y) = (if q then x else y) := by
  by_cases hp : p
  · rw [if_pos hp, if_pos (h.1 hp)]
  · rw [if_neg hp, if_neg (fun hq => hp (h.2 hq))]
theorem lst_eq {x y : ByteArray} : (x.toList == y.toList) = decide (x = y) := by
  rw [ByteArray.toList_eq, ByteArray.toList_eq]
  by_cases h : x = y
  · rw [h]; simp
  · rw [decide_eq_false h, ← Bool.not_eq_true, beq_iff_eq]
    exact fun e => h (bl_inj e)
set_option maxRecDepth 20000 in
set_option maxHeartbeats 3200000 in
theorem suffixed_any (kd a b : ByteArray) (f t y : Int) (x : ByteArray) (w : World) (ha : a.size ≤ 1000000) (hb : b.size ≤ 1000000) (hx : x.size ≤ 1000000) :
    Calls Tryz.prog 81 #[.agg (dmA kd a b f t y), .string x] w fun e w' => e = .returned (.string (ba (sufA (bl a) (bl b) (bl x)))) ∧ Below w.heap.size w w' := by
  obtain ⟨W1, hW1⟩ : ∃ W1, W1 = w.alloc (.cells (dmA kd a b f t y) 53) := ⟨_, rfl⟩
  have hbx : W1.heap[w.heap.size]? = some (.cells (dmA kd a b f t y) 53 (0, 0)) := by rw [hW1]; exact Cd.heap_new _ _
  have HB : Hid (Below w.heap.size w W1) := by rw [hW1]; exact (Below.refl _ _).alloc (Nat.le_refl _) _
  have c1 : W1.cell? ⟨w.heap.size, 1, none⟩ = some (.string a) := cell_in hbx 1 rfl
  have c2 : W1.cell? ⟨w.heap.size, 2, none⟩ = some (.string b) := cell_in hbx 2 rfl
  go_enter Tryz.func81, Tryz.ntmps81
  go_upto_region 1 with fail
  rw [← hW1]
  clear hW1 hbx
  go_wp2_with fail
  go_loopw [5, 6] (fun vd vi wr => ((∃ i : Nat, i ≤ a.size ∧ vd = .int .i64 (-1) ∧ vi = .int .i64 (i : Int) ∧ Hid (∀ j, j < i → ¬ (bl a)[j]? = some 37)) ∨ (∃ d : Nat, d < a.size ∧ vd = .int .i64 (d : Int) ∧ vi = .int .i64 ((d : Int) + 1) ∧ Hid (idxC 37 (bl a) = some d))) ∧ wr = W1) (fun _ vi _ => a.size - (intOf vi).toNat)
  case atStart => exact ⟨.inl ⟨0, Nat.zero_le _, rfl, rfl, fun j hj => by omega⟩, rfl⟩
  case round =>
    obtain ⟨hcase, hwr⟩ := hrel
    subst wr
    obtain ⟨i, hi, rfl, rfl, HD⟩ | ⟨d, hd, rfl, rfl, HD⟩ := hcase
    · by_cases hlt : i < a.size
      · have hil : (i : Int) < (a.size : Int) := by omega
        have hbi := bl_get a i hlt
        by_cases h37 : a[i] = 37
        · have t1 : ((a[i].toNat : Int) == 37) = true := by rw [h37]; rfl
          have HD2 : Hid (idxC 37 (bl a) = some i) := idx_hit HD.out (by rw [hbi, h37])
          clear HD hbi h37
          go_wp2_with fail
          go_roundw
          case rel => exact ⟨.inr ⟨i, hlt, rfl, rfl, HD2⟩, trivial⟩
          case measure => simp [intOf]; omega
        · have t1 : ((a[i].toNat : Int) == 37) = false := u8_no (k := 37) h37
          have HD2 : Hid (∀ j, j < i + 1 → ¬ (bl a)[j]? = some 37) := by
            intro j hj
            by_cases hji : j = i
            · subst hji; rw [hbi]; exact fun e => h37 (Option.some.inj e)
            · exact HD.out j (by omega)
          clear HD hbi h37
          go_wp2_with fail
          go_roundw
          case rel => exact ⟨.inl ⟨i + 1, by omega, rfl, by go_num, HD2⟩, trivial⟩
          case measure => simp [intOf]; omega
      · have hil : ¬ (i : Int) < (a.size : Int) := by omega
        have HN : Hid (idxC 37 (bl a) = none) := idx_no HD.out (by rw [bl_length]; omega)
        clear HD
        by_cases hsz : x.size < a.size
        · have hszi : (x.size : Int) < (a.size : Int) := by omega
          have HR : Hid (sufA (bl a) (bl b) (bl x) = bl x) := by
            unfold Hid sufA
            rw [HN.out]
            dsimp only
            rw [if_pos (.inl (by rw [bl_length, bl_length]; exact hsz))]
          go_wp2_with fail
          go_quiet (fail)
          go_wp2_with fail
          go_ret
          exact ⟨by rw [HR.out, ba_bl]; rfl, below_drewN HB.out _⟩
        · have hszi : ¬ (x.size : Int) < (a.size : Int) := by omega
          have h0 : (0 : Int) ≤ (x.size : Int) - (a.size : Int) := by omega
          have h1 : (x.size : Int) - (a.size : Int) ≤ (x.size : Int) := by omega
          have hto : ((x.size : Int) - (a.size : Int)).toNat = x.size - a.size := by omega
          by_cases he : x.extract (x.size - a.size) x.size = a
          · have te : ((x.extract (x.size - a.size) x.size).toList == a.toList) = true := by rw [lst_eq, he]; simp
            have hz : ¬ 9223372036854775807 < (x.extract 0 (x.size - a.size)).size + b.size := by simp; omega
            have HR : Hid (ba (sufA (bl a) (bl b) (bl x)) = x.extract 0 (x.size - a.size) ++ b) := by
              unfold Hid sufA
              rw [HN.out]
              dsimp only
              have e2 : (bl x).drop ((bl x).length - (bl a).length) = bl a := by
                rw [bl_length, bl_length]
                have := congrArg bl he
                rw [bl_extract, take_all] at this
                exact this
              rw [if_neg (by rw [bl_length, bl_length] at *; rintro (h | h); omega; exact h e2)]
              apply bl_inj
              rw [bl_ba, bl_app, bl_extract, List.drop_zero, bl_length, bl_length]
            clear he
            go_wp2_with fail
            go_quiet (fail)
            go_wp2_with fail
            go_quiet (fail)
            go_wp2_with fail
            go_ret
            exact ⟨by rw [HR.out]; rfl, below_drewN (below_drewN HB.out _) _⟩
          · have te : ((x.extract (x.size - a.size) x.size).toList == a.toList) = false := by rw [lst_eq, decide_eq_false he]
            have HR : Hid (sufA (bl a) (bl b) (bl x) = bl x) := by
              unfold Hid sufA
              rw [HN.out]
              dsimp only
              rw [if_pos (.inr (by
                intro e
                apply he
                apply bl_inj
                rw [bl_extract, take_all]
                rw [bl_length, bl_length] at e
                exact e))]
            clear he
            go_wp2_with fail
            go_quiet (fail)
            go_wp2_with fail
            go_ret
            exact ⟨by rw [HR.out, ba_bl]; rfl, below_drewN HB.out _⟩
    · have hdd : ¬ (d : Int) < 0 := by omega
      have hd0 : (0 : Int) ≤ (d : Int) := by omega
      have hd1 : (d : Int) ≤ (a.size : Int) := by omega
      have hd2 : (d : Int) + 1 ≤ (a.size : Int) := by omega
      have hto : ((d : Int) + 1).toNat = d + 1 := by omega
      obtain ⟨hdT, hhd⟩ : ∃ u, u = a.extract 0 d := ⟨_, rfl⟩
      obtain ⟨tlT, htl⟩ : ∃ u, u = a.extract (d + 1) a.size := ⟨_, rfl⟩
      have hs1 : hdT.size = d := by rw [hhd]; simp; omega
      have hs2 : tlT.size = a.size - (d + 1) := by rw [htl]; simp
      have HHT : Hid (hdT = a.extract 0 d ∧ tlT = a.extract (d + 1) a.size ∧ hdT.size = d ∧ tlT.size = a.size - (d + 1)) := ⟨hhd, htl, hs1, hs2⟩
      have HSU : Hid (sufA (bl a) (bl b) (bl x) = if x.size < hdT.size + tlT.size ∨ x.extract 0 hdT.size ≠ hdT ∨ x.extract (x.size - tlT.size) x.size ≠ tlT then bl x
          else match idxC 37 (bl b) with
            | some j => (bl b).take j ++ bl (x.extract hdT.size (x.size - tlT.size)) ++ (bl b).drop (j + 1)
            | none => bl b) := by
        unfold Hid sufA
        rw [HD.out]
        dsimp only
        have e1 : ((bl x).take d ≠ (bl a).take d) ↔ (x.extract 0 hdT.size ≠ hdT) := by
          rw [hs1, hhd]
          refine not_congr ⟨fun h => bl_inj ?_, fun h => ?_⟩
          · rw [bl_extract, bl_extract, h]
          · have := congrArg bl h; rw [bl_extract, bl_extract] at this; simpa using this
        have e2 : ((bl x).drop ((bl x).length - ((bl a).length - (d + 1))) ≠ (bl a).drop (d + 1)) ↔ (x.extract (x.size - tlT.size) x.size ≠ tlT) := by
          rw [hs2, htl, bl_length, bl_length]
          refine not_congr ⟨fun h => bl_inj ?_, fun h => ?_⟩
          · rw [bl_extract, bl_extract, take_all, take_all, h]
          · have := congrArg bl h; rw [bl_extract, bl_extract, take_all, take_all] at this; exact this
        have e3 : bl (x.extract hdT.size (x.size - tlT.size)) = ((bl x).take ((bl x).length - ((bl a).length - (d + 1)))).drop d := by rw [bl_extract, hs1, hs2, bl_length, bl_length]
        rw [e3]
        exact ifc (or_congr (by rw [bl_length, bl_length, hs1, hs2]) (or_congr e1 e2))
      have hsb : hdT.size ≤ 1000000 := by omega
      have htb : tlT.size ≤ 1000000 := by omega
      clear hhd htl hs1 hs2 HD
      by_cases hq2 : (d : Int) + 1 < (a.size : Int)
      all_goals
        go_wp2_with fail
        go_quiet (fail)
        rw [← HHT.out.1, ← HHT.out.2.1]
        by_cases hA : x.size < hdT.size + tlT.size
        · have hAi : (x.size : Int) < (hdT.size : Int) + (tlT.size : Int) := by omega
          have HR : Hid (sufA (bl a) (bl b) (bl x) = bl x) := by unfold Hid; rw [HSU.out, if_pos (.inl hA)]
          go_wp2_with fail
          go_ret
          exact ⟨by rw [HR.out, ba_bl]; rfl, below_drewN HB.out _⟩
        · have hAi : ¬ (x.size : Int) < (hdT.size : Int) + (tlT.size : Int) := by omega
          have k1 : (hdT.size : Int) ≤ (x.size : Int) := by omega
          have k2 : (0 : Int) ≤ (x.size : Int) - (tlT.size : Int) := by omega
          have k3 : (x.size : Int) - (tlT.size : Int) ≤ (x.size : Int) := by omega
          have k4 : (hdT.size : Int) ≤ (x.size : Int) - (tlT.size : Int) := by omega
          have hto2 : ((x.size : Int) - (tlT.size : Int)).toNat = x.size - tlT.size := by omega
          by_cases hE1 : x.extract 0 hdT.size = hdT
          · have te1 : ((x.extract 0 hdT.size).toList == hdT.toList) = true := by rw [lst_eq, hE1]; simp
            by_cases hE2 : x.extract (x.size - tlT.size) x.size = tlT
            · have te2 : ((x.extract (x.size - tlT.size) x.size).toList == tlT.toList) = true := by rw [lst_eq, hE2]; simp
              have HS2 : Hid (sufA (bl a) (bl b) (bl x) = match idxC 37 (bl b) with
                  | some j => (bl b).take j ++ bl (x.extract hdT.size (x.size - tlT.size)) ++ (bl b).drop (j + 1)
                  | none => bl b) := by unfold Hid; rw [HSU.out, if_neg (by rintro (h | h | h); exact hA h; exact h hE1; exact h hE2)]
              clear hE1 hE2
              go_wp2_with fail
              go_loopw [9] (fun vi wr => ∃ i : Nat, i ≤ b.size ∧ vi = .int .i64 (i : Int) ∧ Hid (∀ j, j < i → ¬ (bl b)[j]? = some 37) ∧ ∃ q, wr = W1.drewN q) (fun vi _ => b.size - (intOf vi).toNat)
              case atStart => exact ⟨0, Nat.zero_le _, rfl, fun j hj => by omega, _, rfl⟩
              case round =>
                obtain ⟨i, hi, rfl, HI, q, rfl⟩ := hrel
                by_cases hlt : i < b.size
                · have hil : (i : Int) < (b.size : Int) := by omega
                  have hbi := bl_get b i hlt
                  by_cases h37 : b[i] = 37
                  · have t1 : ((b[i].toNat : Int) == 37) = true := by rw [h37]; rfl
                    have HI2 : Hid (idxC 37 (bl b) = some i) := idx_hit HI.out (by rw [hbi, h37])
                    have HR : Hid (ba (sufA (bl a) (bl b) (bl x)) = (b.extract 0 i ++ x.extract hdT.size (x.size - tlT.size)) ++ b.extract (i + 1) b.size) := by
                      unfold Hid
                      rw [HS2.out, HI2.out]
                      apply bl_inj
                      rw [bl_ba, bl_app, bl_app, bl_extract b 0 i, bl_extract b (i + 1), take_all, List.drop_zero]
                    have i0 : (0 : Int) ≤ (i : Int) := by omega
                    have i1 : (i : Int) + 1 ≤ (b.size : Int) := by omega
                    have hti : ((i : Int) + 1).toNat = i + 1 := by omega
                    have hz1 : ¬ 9223372036854775807 < (b.extract 0 i).size + (x.extract hdT.size (x.size - tlT.size)).size := by simp; omega
                    have hz2 : ¬ 9223372036854775807 < (b.extract 0 i ++ x.extract hdT.size (x.size - tlT.size)).size + (b.extract (i + 1) b.size).size := by simp; omega
                    clear HI hbi h37
                    go_wp2_with fail
                    go_quiet (fail)
                    go_wp2_with fail
                    go_ret
                    exact ⟨by rw [HR.out]; rfl, below_drewN (below_drewN HB.out _) _⟩
                  · have t1 : ((b[i].toNat : Int) == 37) = false := u8_no (k := 37) h37
                    have HI2 : Hid (∀ j, j < i + 1 → ¬ (bl b)[j]? = some 37) := by
                      intro j hj
                      by_cases hji : j = i
                      · subst hji; rw [hbi]; exact fun e => h37 (Option.some.inj e)
                      · exact HI.out j (by omega)
                    clear HI hbi h37
                    go_wp2_with fail
                    go_roundw
                    case rel => exact ⟨i + 1, by omega, by go_num, HI2, _, rfl⟩
                    case measure => simp [intOf]; omega
                · have hil : ¬ (i : Int) < (b.size : Int) := by omega
                  have HR : Hid (sufA (bl a) (bl b) (bl x) = bl b) := by unfold Hid; rw [HS2.out, idx_no HI.out (by rw [bl_length]; omega)]
                  clear HI
                  go_wp2_with fail
                  go_ret
                  exact ⟨by rw [HR.out, ba_bl]; rfl, below_drewN HB.out _⟩
            · have te2 : ((x.extract (x.size - tlT.size) x.size).toList == tlT.toList) = false := by rw [lst_eq, decide_eq_false hE2]
              have HR : Hid (sufA (bl a) (bl b) (bl x) = bl x) := by unfold Hid; rw [HSU.out, if_pos (.inr (.inr hE2))]
              clear hE1 hE2
              go_wp2_with fail
              go_ret
              exact ⟨by rw [HR.out, ba_bl]; rfl, below_drewN HB.out _⟩
          · have te1 : ((x.extract 0 hdT.size).toList == hdT.toList) = false := by rw [lst_eq, decide_eq_false hE1]
            have HR : Hid (sufA (bl a) (bl b) (bl x) = bl x) := by unfold Hid; rw [HSU.out, if_pos (.inr (.inl hE1))]
            clear hE1
            go_wp2_with fail
            go_ret
            exact ⟨by rw [HR.out, ba_bl]; rfl, below_drewN HB.out _⟩
end Go.Proofs.YtpcpcfnmcfjomaaGreatDoor.DQ
namespace Go.Proofs.YtpcpcfnmcfjomaaGreatDoor
open Go.RowKit Go.Shelf
def lastI (s : ByteArray) (c : Int) : Int := Lib.lastIndexByte s c
theorem lastI_cases (s : ByteArray) (c : Int) : lastI s c = -1 ∨ ∃ i : Nat, i < s.size ∧ lastI s c = i := by
  rcases Lib.lastIndexByte_spec s c with ⟨h, _⟩ | ⟨i, h1, h2, _⟩
  · exact .inl h
  · exact .inr ⟨i, h1, h2⟩
def dirB (p : ByteArray) : ByteArray := if lastI p 47 < 0 then ⟨#[46]⟩ else if lastI p 47 = 0 then ⟨#[47]⟩ else p.extract 0 (lastI p 47).toNat
def nameB (p : ByteArray) : ByteArray := p.extract (lastI p 47 + 1).toNat p.size
def sufB (p : ByteArray) : ByteArray := if 0 < lastI (nameB p) 46 then (nameB p).extract (lastI (nameB p) 46).toNat (nameB p).size else E
def rootB (p : ByteArray) : ByteArray := p.extract 0 (p.size - (sufB p).size)
theorem nameB_size (p : ByteArray) : (nameB p).size ≤ p.size := by unfold nameB; simp
theorem sufB_size (p : ByteArray) : (sufB p).size ≤ p.size := by
  have := nameB_size p
  unfold sufB
  split
  · simp; omega
  · exact Nat.zero_le _
set_option maxRecDepth 20000 in
set_option maxHeartbeats 400000 in
theorem dir_any (p : ByteArray) (w : World) (hs : p.size ≤ 140737488355328) :
    Calls Tryz.prog 98 #[.string p] w fun e w' => e = .returned (.string (dirB p)) ∧ w' = w := by
  have HO : Hid (∀ W, Calls Tryz.prog 140 #[.string p, .int .u8 47] W fun e w' => e = .returned (.int .i64 (lastI p 47)) ∧ w' = W) := fun W => Tryz.strings_LastIndexByte p 47 (by omega) W
  unfold dirB
  rcases lastI_cases p 47 with h | ⟨i, hi, h⟩
  · rw [h] at HO ⊢
    clear h
    go_enter Tryz.func98, Tryz.ntmps98
    go_wp2_with fail
    refine (HO.out _).mono ?_
    rintro e w' ⟨rfl, rfl⟩
    go_wp2
    go_ret
    exact ⟨rfl, rfl⟩
  · rw [h] at HO ⊢
    clear h
    by_cases h0 : i = 0
    · subst h0
      go_enter Tryz.func98, Tryz.ntmps98
      go_wp2_with fail
      refine (HO.out _).mono ?_
      rintro e w' ⟨rfl, rfl⟩
      go_wp2
      go_ret
      exact ⟨rfl, rfl⟩
    · have c1 : (0 : Int) < (i : Int) := by omega
      have c2 : ¬ (i : Int) = 0 := by omega
      have c3 : (i : Int) ≤ (p.size : Int) := by omega
      rw [if_neg (by omega), if_neg c2]
      go_enter Tryz.func98, Tryz.ntmps98
      go_wp2_with fail
      refine (HO.out _).mono ?_
      rintro e w' ⟨rfl, rfl⟩
      go_wp2
      go_ret
      exact ⟨rfl, rfl⟩
set_option maxRecDepth 20000 in
set_option maxHeartbeats 400000 in
theorem name_any (p : ByteArray) (w : World) (hs : p.size ≤ 140737488355328) :
    Calls Tryz.prog 97 #[.string p] w fun e w' => e = .returned (.string (nameB p)) ∧ w' = w := by
  have HO : Hid (∀ W, Calls Tryz.prog 140 #[.string p, .int .u8 47] W fun e w' => e = .returned (.int .i64 (lastI p 47)) ∧ w' = W) := fun W => Tryz.strings_LastIndexByte p 47 (by omega) W
  unfold nameB
  rcases lastI_cases p 47 with h | ⟨i, hi, h⟩
  · rw [h] at HO ⊢
    clear h
    go_enter Tryz.func97, Tryz.ntmps97
    go_wp2_with fail
    refine (HO.out _).mono ?_
    rintro e w' ⟨rfl, rfl⟩
    go_wp2
    go_ret
    exact ⟨ret_str (by simp), rfl⟩
  · rw [h] at HO ⊢
    clear h
    have c1 : (0 : Int) ≤ (i : Int) + 1 := by omega
    have c3 : (i : Int) + 1 ≤ (p.size : Int) := by omega
    go_enter Tryz.func97, Tryz.ntmps97
    go_wp2_with fail
    refine (HO.out _).mono ?_
    rintro e w' ⟨rfl, rfl⟩
    go_wp2
    go_ret
    exact ⟨rfl, rfl⟩
set_option maxRecDepth 20000 in
set_option maxHeartbeats 400000 in
theorem suffix_any (p : ByteArray) (w : World) (hs : p.size ≤ 140737488355328) :
    Calls Tryz.prog 99 #[.string p] w fun e w' => e = .returned (.string (sufB p)) ∧ w' = w := by
  have HN : Hid (∀ W, Calls Tryz.prog 97 #[.string p] W fun e w' => e = .returned (.string (nameB p)) ∧ w' = W) := fun W => name_any p W hs
  have hns := nameB_size p
  unfold sufB
  obtain ⟨n, hn⟩ : ∃ n, n = nameB p := ⟨_, rfl⟩
  rw [← hn] at HN hns ⊢
  clear hn
  have HO : Hid (∀ W, Calls Tryz.prog 140 #[.string n, .int .u8 46] W fun e w' => e = .returned (.int .i64 (lastI n 46)) ∧ w' = W) := fun W => Tryz.strings_LastIndexByte n 46 (by omega) W
  rcases lastI_cases n 46 with h | ⟨i, hi, h⟩
  · rw [h] at HO ⊢
    clear h
    go_enter Tryz.func99, Tryz.ntmps99
    go_wp2_with fail
    refine (HN.out _).mono ?_
    rintro e w' ⟨rfl, rfl⟩
    go_wp2_with fail
    refine (HO.out _).mono ?_
    rintro e w' ⟨rfl, rfl⟩
    go_wp2
    go_ret
    exact ⟨rfl, rfl⟩
  · rw [h] at HO ⊢
    clear h
    by_cases h0 : i = 0
    · subst h0
      go_enter Tryz.func99, Tryz.ntmps99
      go_wp2_with fail
      refine (HN.out _).mono ?_
      rintro e w' ⟨rfl, rfl⟩
      go_wp2_with fail
      refine (HO.out _).mono ?_
      rintro e w' ⟨rfl, rfl⟩
      go_wp2
      go_ret
      exact ⟨rfl, rfl⟩
    · have c1 : (0 : Int) < (i : Int) := by omega
      have c3 : (i : Int) ≤ (n.size : Int) := by omega
      rw [if_pos c1]
      go_enter Tryz.func99, Tryz.ntmps99
      go_wp2_with fail
      refine (HN.out _).mono ?_
      rintro e w' ⟨rfl, rfl⟩
      go_wp2_with fail
      refine (HO.out _).mono ?_
      rintro e w' ⟨rfl, rfl⟩
      go_wp2
      go_ret
      exact ⟨rfl, rfl⟩
set_option maxRecDepth 20000 in
set_option maxHeartbeats 400000 in
theorem root_any (p : ByteArray) (w : World) (hs : p.size ≤ 140737488355328) :
    Calls Tryz.prog 100 #[.string p] w fun e w' => e = .returned (.string (rootB p)) ∧ w' = w := by
  have HN : Hid (∀ W, Calls Tryz.prog 99 #[.string p] W fun e w' => e = .returned (.string (sufB p)) ∧ w' = W) := fun W => suffix_any p W hs
  have hns := sufB_size p
  unfold rootB
  obtain ⟨n, hn⟩ : ∃ n, n = sufB p := ⟨_, rfl⟩
  rw [← hn] at HN hns ⊢
  clear hn
  have c1 : (0 : Int) ≤ (p.size : Int) - (n.size : Int) := by omega
  have c2 : (p.size : Int) - (n.size : Int) ≤ (p.size : Int) := by omega
  have c3 : ((p.size : Int) - (n.size : Int)).toNat = p.size - n.size := by omega
  have HC : Hid (((p.size : Int) - (n.size : Int)).toNat = p.size - n.size) := c3
  clear c3
  go_enter Tryz.func100, Tryz.ntmps100
  go_wp2_with fail
  refine (HN.out _).mono ?_
  rintro e w' ⟨rfl, rfl⟩
  go_wp2
  go_ret
  exact ⟨by first | rfl | rw [HC.out], rfl⟩
end Go.Proofs.YtpcpcfnmcfjomaaGreatDoor
namespace Go.Proofs.YtpcpcfnmcfjomaaGreatDoor.DQ
open Go.RowKit Go.Shelf
theorem data_get {p : ByteArray} {j : Nat} {c : UInt8} : (bl p)[j]? = some c ↔ j < p.size ∧ ((p.data[j]!).toNat : Int) = (c.toNat : Int) := by
  constructor
  · intro h
    have hj : j < (bl p).length := (List.getElem?_eq_some_iff.1 h).1
    rw [bl_length] at hj
    refine ⟨hj, ?_⟩
    rw [bl_get p j hj] at h
    have e : p.data[j]! = p[j] := by rw [getElem!_pos p.data j (by simpa using hj)]; rfl
    rw [e, Option.some.inj h]
  · rintro ⟨hj, h⟩
    rw [bl_get p j hj]
    have e : p.data[j]! = p[j] := by rw [getElem!_pos p.data j (by simpa using hj)]; rfl
    rw [e] at h
    rw [(u8_eq_iff p[j] c).2 (by omega)]
theorem lastI_at {p : ByteArray} {c : UInt8} {i : Nat} (h1 : (bl p)[i]? = some c) (h3 : ∀ j : Nat, i < j → ¬ (bl p)[j]? = some c) : lastI p (c.toNat : Int) = (i : Int) := by
  unfold lastI
  obtain ⟨q1, q2⟩ := data_get.1 h1
  rcases Lib.lastIndexByte_spec p (c.toNat : Int) with ⟨_, hn⟩ | ⟨k, hk, he, hc, hn⟩
  · exact absurd q2 (hn i q1)
  · rw [he]
    rcases Nat.lt_trichotomy k i with h | h | h
    · exact absurd q2 (hn i h q1)
    · rw [h]
    · exact absurd (data_get.2 ⟨hk, hc⟩) (h3 k h)
theorem lastI_no {p : ByteArray} {c : UInt8} (h3 : ∀ j : Nat, ¬ (bl p)[j]? = some c) : lastI p (c.toNat : Int) = -1 := by
  unfold lastI
  rcases Lib.lastIndexByte_spec p (c.toNat : Int) with ⟨h, _⟩ | ⟨k, hk, he, hc, hn⟩
  · exact h
  · exact absurd (data_get.2 ⟨hk, hc⟩) (h3 k)
set_option maxRecDepth 20000 in
set_option maxHeartbeats 800000 in
theorem last_any (p : ByteArray) (c : UInt8) (w : World) (hs : p.size ≤ 1000000) :
    Calls Tryz.prog 118 #[.string p, .int .u8 (c.toNat : Int)] w fun e w' => e = .returned (.int .i64 (lastI p (c.toNat : Int))) ∧ w' = w := by
  go_enter Tryz.func118, Tryz.ntmps118
  go_wp2
  go_loopw [5] (fun vi wr => ((vi = .int .i64 (-1) ∧ Hid (∀ j : Nat, ¬ (bl p)[j]? = some c)) ∨ ∃ k : Nat, k < p.size ∧ vi = .int .i64 (k : Int) ∧ Hid (∀ j : Nat, k < j → ¬ (bl p)[j]? = some c)) ∧ wr = w) (fun vi _ => (intOf vi + 1).toNat)
  case atStart =>
    refine ⟨?_, rfl⟩
    by_cases h0 : p.size = 0
    · exact .inl ⟨by rw [h0]; rfl, fun j => by rw [List.getElem?_eq_none (by rw [bl_length]; omega)]; simp⟩
    · exact .inr ⟨p.size - 1, by omega, by congr 1; omega, fun j hj => by rw [List.getElem?_eq_none (by rw [bl_length]; omega)]; simp⟩
  case round =>
    obtain ⟨⟨rfl, HU⟩ | ⟨k, hk, rfl, HU⟩, rfl⟩ := hrel
    · have HR : Hid (lastI p (c.toNat : Int) = -1) := lastI_no HU.out
      clear HU
      go_wp2
      go_ret
      exact ⟨by rw [HR.out]; rfl, rfl⟩
    · have hk0 : (0 : Int) ≤ (k : Int) := by omega
      have hki : (k : Int) < (p.size : Int) := by omega
      have hbk := bl_get p k hk
      by_cases hc : p[k] = c
      · have t1 : ((p[k].toNat : Int) == (c.toNat : Int)) = true := by rw [hc]; simp
        have HR : Hid (lastI p (c.toNat : Int) = (k : Int)) := lastI_at (by rw [hbk, hc]) HU.out
        clear HU hbk hc
        go_wp2
        go_ret
        exact ⟨by rw [HR.out]; rfl, rfl⟩
      · have t1 : ((p[k].toNat : Int) == (c.toNat : Int)) = false := u8_no hc
        have HU2 : Hid (∀ j : Nat, k ≤ j → ¬ (bl p)[j]? = some c) := by
          intro j hj
          by_cases hjk : j = k
          · subst hjk; rw [hbk]; exact fun e => hc (Option.some.inj e)
          · exact HU.out j (by omega)
        clear HU hbk hc
        go_wp2
        go_roundw
        case rel =>
          refine ⟨?_, trivial⟩
          by_cases h0 : k = 0
          · subst h0; exact .inl ⟨by go_num, fun j => HU2.out j (Nat.zero_le _)⟩
          · exact .inr ⟨k - 1, by omega, by first | go_num | (congr 1; omega), fun j hj => HU2.out j (by omega)⟩
        case measure => simp [intOf]
set_option maxRecDepth 20000 in
set_option maxHeartbeats 400000 in
theorem rdir_any (p : ByteArray) (w : World) (hs : p.size ≤ 1000000) :
    Calls Tryz.prog 77 #[.string p] w fun e w' => e = .returned (.string (dirB p)) ∧ w' = w := by
  have HO : Hid (∀ W, Calls Tryz.prog 118 #[.string p, .int .u8 47] W fun e w' => e = .returned (.int .i64 (lastI p 47)) ∧ w' = W) := fun W => last_any p 47 W (by omega)
  unfold dirB
  rcases lastI_cases p 47 with h | ⟨i, hi, h⟩
  · rw [h] at HO ⊢
    clear h
    go_enter Tryz.func77, Tryz.ntmps77
    go_wp2_with fail
    refine (HO.out _).mono ?_
    rintro e w' ⟨rfl, rfl⟩
    go_wp2
    go_ret
    exact ⟨rfl, rfl⟩
  · rw [h] at HO ⊢
    clear h
    by_cases h0 : i = 0
    · subst h0
      go_enter Tryz.func77, Tryz.ntmps77
      go_wp2_with fail
      refine (HO.out _).mono ?_
      rintro e w' ⟨rfl, rfl⟩
      go_wp2
      go_ret
      exact ⟨rfl, rfl⟩
    · have c1 : (0 : Int) < (i : Int) := by omega
      have c2 : ¬ (i : Int) = 0 := by omega
      have c3 : (i : Int) ≤ (p.size : Int) := by omega
      rw [if_neg (by omega), if_neg c2]
      go_enter Tryz.func77, Tryz.ntmps77
      go_wp2_with fail
      refine (HO.out _).mono ?_
      rintro e w' ⟨rfl, rfl⟩
      go_wp2
      go_ret
      exact ⟨rfl, rfl⟩
set_option maxRecDepth 20000 in
set_option maxHeartbeats 400000 in
theorem rname_any (p : ByteArray) (w : World) (hs : p.size ≤ 1000000) :
    Calls Tryz.prog 76 #[.string p] w fun e w' => e = .returned (.string (nameB p)) ∧ w' = w := by
  have HO : Hid (∀ W, Calls Tryz.prog 118 #[.string p, .int .u8 47] W fun e w' => e = .returned (.int .i64 (lastI p 47)) ∧ w' = W) := fun W => last_any p 47 W (by omega)
  unfold nameB
  rcases lastI_cases p 47 with h | ⟨i, hi, h⟩
  · rw [h] at HO ⊢
    clear h
    go_enter Tryz.func76, Tryz.ntmps76
    go_wp2_with fail
    refine (HO.out _).mono ?_
    rintro e w' ⟨rfl, rfl⟩
    go_wp2
    go_ret
    exact ⟨ret_str (by simp), rfl⟩
  · rw [h] at HO ⊢
    clear h
    have c1 : (0 : Int) ≤ (i : Int) + 1 := by omega
    have c3 : (i : Int) + 1 ≤ (p.size : Int) := by omega
    go_enter Tryz.func76, Tryz.ntmps76
    go_wp2_with fail
    refine (HO.out _).mono ?_
    rintro e w' ⟨rfl, rfl⟩
    go_wp2
    go_ret
    exact ⟨rfl, rfl⟩
set_option maxRecDepth 20000 in
set_option maxHeartbeats 400000 in
theorem rsuffix_any (p : ByteArray) (w : World) (hs : p.size ≤ 1000000) :
    Calls Tryz.prog 78 #[.string p] w fun e w' => e = .returned (.string (sufB p)) ∧ w' = w := by
  have HN : Hid (∀ W, Calls Tryz.prog 76 #[.string p] W fun e w' => e = .returned (.string (nameB p)) ∧ w' = W) := fun W => rname_any p W hs
  have hns := nameB_size p
  unfold sufB
  obtain ⟨n, hn⟩ : ∃ n, n = nameB p := ⟨_, rfl⟩
  rw [← hn] at HN hns ⊢
  clear hn
  have HO : Hid (∀ W, Calls Tryz.prog 118 #[.string n, .int .u8 46] W fun e w' => e = .returned (.int .i64 (lastI n 46)) ∧ w' = W) := fun W => last_any n 46 W (by omega)
  rcases lastI_cases n 46 with h | ⟨i, hi, h⟩
  · rw [h] at HO ⊢
    clear h
    go_enter Tryz.func78, Tryz.ntmps78
    go_wp2_with fail
    refine (HN.out _).mono ?_
    rintro e w' ⟨rfl, rfl⟩
    go_wp2_with fail
    refine (HO.out _).mono ?_
    rintro e w' ⟨rfl, rfl⟩
    go_wp2
    go_ret
    exact ⟨rfl, rfl⟩
  · rw [h] at HO ⊢
    clear h
    by_cases h0 : i = 0
    · subst h0
      go_enter Tryz.func78, Tryz.ntmps78
      go_wp2_with fail
      refine (HN.out _).mono ?_
      rintro e w' ⟨rfl, rfl⟩
      go_wp2_with fail
      refine (HO.out _).mono ?_
      rintro e w' ⟨rfl, rfl⟩
      go_wp2
      go_ret
      exact ⟨rfl, rfl⟩
    · have c1 : (0 : Int) < (i : Int) := by omega
      have c3 : (i : Int) ≤ (n.size : Int) := by omega
      rw [if_pos c1]
      go_enter Tryz.func78, Tryz.ntmps78
      go_wp2_with fail
      refine (HN.out _).mono ?_
      rintro e w' ⟨rfl, rfl⟩
      go_wp2_with fail
      refine (HO.out _).mono ?_
      rintro e w' ⟨rfl, rfl⟩
      go_wp2
      go_ret
      exact ⟨rfl, rfl⟩
set_option maxRecDepth 20000 in
set_option maxHeartbeats 400000 in
theorem rroot_any (p : ByteArray) (w : World) (hs : p.size ≤ 1000000) :
    Calls Tryz.prog 79 #[.string p] w fun e w' => e = .returned (.string (rootB p)) ∧ w' = w := by
  have HN : Hid (∀ W, Calls Tryz.prog 78 #[.string p] W fun e w' => e = .returned (.string (sufB p)) ∧ w' = W) := fun W => rsuffix_any p W hs
  have hns := sufB_size p
  unfold rootB
  obtain ⟨n, hn⟩ : ∃ n, n = sufB p := ⟨_, rfl⟩
  rw [← hn] at HN hns ⊢
  clear hn
  have c1 : (0 : Int) ≤ (p.size : Int) - (n.size : Int) := by omega
  have c2 : (p.size : Int) - (n.size : Int) ≤ (p.size : Int) := by omega
  have c3 : ((p.size : Int) - (n.size : Int)).toNat = p.size - n.size := by omega
  have HC : Hid (((p.size : Int) - (n.size : Int)).toNat = p.size - n.size) := c3
  clear c3
  go_enter Tryz.func79, Tryz.ntmps79
  go_wp2_with fail
  refine (HN.out _).mono ?_
  rintro e w' ⟨rfl, rfl⟩
  go_wp2
  go_ret
  exact ⟨by first | rfl | rw [HC.out], rfl⟩
end Go.Proofs.YtpcpcfnmcfjomaaGreatDoor.DQ
