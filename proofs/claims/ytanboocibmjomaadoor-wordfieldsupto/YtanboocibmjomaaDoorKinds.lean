/-
  What the document's kinds answers: a letter for each byte, and whether the text is open.
-/
import Derived.Test.YtanboocibmjomaaDoorRefA
import Derived.Test.YtanboocibmjomaaDoorMeanF
namespace Go.Proofs.YtanboocibmjomaaDoor
open Go.RowKit Go.Shelf

theorem info5 : (Tryd.prog.info? 5).map (fun i => (i.zero, i.size, i.bytes)) = some (some (.int .u8 0), 1, 1) := by kernel_rfl
def ltAt (s : ByteArray) (k : Nat) : List UInt8 := letters K.Rd.r0 ((bl s).take k)
theorem ltAt_succ (s : ByteArray) (k : Nat) (h : k < s.size) : ltAt s (k + 1) = ltAt s k ++ [letter (rdAt s k) s[k]] := by
  unfold ltAt; rw [take_snoc s k h, letters_append]; rfl
theorem ltAt_len (s : ByteArray) (k : Nat) (h : k ≤ s.size) : (ltAt s k).length = k := by
  unfold ltAt; rw [letters_length, List.length_take, bl_length]; omega
theorem run_conv {w : World} {base : Nat} {v : Value} {l : List UInt8} (h : w.ownsRow base 5 1 v l.length (Lib.byteCells l)) : (convert 52 9 v).run Tryd.prog w = .ok (.string (ba l)) w := by
  obtain ⟨hxl, ⟨hv, hn0⟩ | ⟨g, cap, cur, hv, hg, hcur, hcap, hcm, hcs, hct⟩⟩ := h
  · have hqn : l = [] := List.length_eq_zero_iff.mp hn0
    rw [hv, hqn]
    exact Lib.run_convert_nil_bytes w 52 9 5 0 Tryd.underlying52 Tryd.underlying5 Tryd.underlying9
  · rw [hv]
    refine run_convert_bytes_back w 52 9 5 ⟨g, 0, none⟩ cap l Tryd.underlying52 Tryd.underlying5 Tryd.underlying9 ?_
    intro j hj
    have hjc : cur.toList[j]? = some (.int .u8 (l[j].toNat : Int)) := by
      have h2 : (cur.toList.take (l.length * 1))[j]? = (Lib.byteCells l)[j]? := by rw [hct]
      rw [List.getElem?_take_of_lt (by omega)] at h2
      rw [h2]; simp [Lib.byteCells, List.getElem?_map, List.getElem?_eq_getElem hj]
    have hc : w.cell? ⟨g, j, none⟩ = some (.int .u8 (l[j].toNat : Int)) := by
      simp only [World.cell?, hcur]
      simpa using hjc
    simp only [Addr.add]
    split
    · rename_i h0; subst h0; exact hc
    · simpa using hc
theorem bytes_slice {base : Nat} {w : World} {v : Value} {n : Nat} {xs : List Value} (h : w.ownsRow base 5 1 v n xs) : ∃ a cap, v = .slice a n cap := by
  rcases h.2 with ⟨rfl, rfl⟩ | ⟨g, cap, cur, rfl, _⟩
  · exact ⟨_, _, rfl⟩
  · exact ⟨_, _, rfl⟩

set_option maxRecDepth 20000 in
set_option maxHeartbeats 2000000 in
theorem kinds_any (s : ByteArray) (w : World) (hs : s.size ≤ 4000000) :
    Calls Tryd.prog 28 #[.string s] w fun e w' => e = .returned (.tuple #[.string (ba (letters K.Rd.r0 (bl s))), .bool (K.ends (bl s)).opened]) ∧ Below w.heap.size w w' := by
  obtain ⟨i0, hi, hz0, hz1, hz2⟩ := info_parts info5
  have HBl : Hid (∀ (c : UInt8) W, Calls Tryd.prog 36 #[.int .u8 c.toNat] W fun e w' => e = .returned (.bool (K.isB c)) ∧ W = w') := fun c W => rblank_any c W
  obtain ⟨y, hy⟩ : ∃ y, y = ba (letters K.Rd.r0 (bl s)) := ⟨_, rfl⟩
  obtain ⟨op, hop⟩ : ∃ op, op = (K.ends (bl s)).opened := ⟨_, rfl⟩
  rw [← hy, ← hop]
  have HY : Hid (y = ba (letters K.Rd.r0 (bl s)) ∧ op = (K.ends (bl s)).opened) := ⟨hy, hop⟩
  clear hy hop
  go_enter Tryd.func28, Tryd.ntmps28
  go_wp2
  go_loopw [4, 5, 6, 7] (fun v vq vt vi wr => ∃ k : Nat, k ≤ s.size ∧ vi = .int .i64 k ∧ vq = .int .u8 ((rdAt s k).q.toNat : Int) ∧ vt = .bool (rdAt s k).t ∧ wr.ownsRow w.heap.size 5 1 v (ltAt s k).length (Lib.byteCells (ltAt s k)) ∧ Below w.heap.size w wr)
    (fun _ _ _ vi _ => s.size - (intOf vi).toNat)
  case atStart => exact ⟨0, Nat.zero_le _, rfl, rfl, rfl, World.ownsRow_nil _ _ _ _, Below.refl _ _⟩
  case round =>
    obtain ⟨k, hk, rfl, rfl, rfl, hown, hb⟩ := hrel
    have hbs := hb.size
    have hll := ltAt_len s k hk
    by_cases hlt : k < s.size
    · have hil : (k : Int) < (s.size : Int) := by omega
      have HL := ltAt_succ s k hlt
      have HR := rdAt_succ s k hlt
      obtain ⟨r, hr⟩ : ∃ r, r = rdAt s k := ⟨_, rfl⟩
      rw [← hr] at HL HR ⊢
      clear hr
      obtain ⟨q, t⟩ := r
      obtain ⟨x, hx⟩ : ∃ x, x = ltAt s k := ⟨_, rfl⟩
      rw [← hx] at HL hown hll
      clear hx
      have HB1 := HBl.out s[k]
      dsimp only
      cases t with
      | true =>
        have HQ : Hid (ltAt s (k + 1) = x ++ [112] ∧ rdAt s (k + 1) = ⟨q, false⟩) := ⟨by rw [HL, show letter ⟨q, true⟩ s[k] = 112 from rfl], by rw [HR]; rfl⟩
        clear HL HR HB1
        go_wp2_with ((at_builtin; refine wpList_append_own _ rfl _ _ 52 rfl w.heap.size 5 i0 (.int .u8 0) 1 1 Tryd.underlying52 hi hz0 hz1 hz2 rfl (by decide) _ _ _ rfl (hown.alloc _) ⟨wr.heap.size, 0, none⟩ 1 1 [.int .u8 112] rfl rfl ?c1 ?c2 ?c3 ?c4 ?c5 ?_))
        case c1 =>
          intro j u hj
          match j, hj with
          | 0, hj => simp at hj; subst hj; simp [Addr.add]
        case c2 => intro u hu; simp at hu; subst hu; rfl
        case c3 => unfold maxLen; omega
        case c4 => omega
        case c5 => simp; omega
        intro v' w1 hown' hgrow _
        have hb1 : Below w.heap.size w w1 := (hb.alloc hbs _).grown hgrow (by simp; omega) (fun k hk => (hown.lt k hk).1)
        have hown1 : w1.ownsRow w.heap.size 5 1 v' (ltAt s (k + 1)).length (Lib.byteCells (ltAt s (k + 1))) := by
          rw [HQ.out.1]; simpa [Lib.byteCells, hll] using hown'
        clear hown' hgrow hown hb
        go_wp2
        go_roundw
        case rel => exact ⟨k + 1, by omega, by go_num, by first | (rw [HQ.out.2]; done) | (rw [HQ.out.2]; simp; done) | (rw [HQ.out.2]; simp; omega), by rw [HQ.out.2], hown1, hb1⟩
        case measure => simp [intOf]; omega
      | false =>
        have hf := letter_facts q s[k]
        rcases hf with ⟨f1, f2, hl, hst⟩ | ⟨f1, f2, f3, hl, hst⟩ | ⟨f1, f2, hl, hst⟩ | ⟨f1, f2, f3, f4, hbl, hl, hst⟩ | ⟨f1, f2, f3, f4, hbl, hl, hst⟩ | ⟨f1, f2, f3, hl, hst⟩
        · have g1 : (s[k].toNat : Int) = 92 := by omega
          have g2 : ((q.toNat : Int) != 39) = true := by simp; omega
          clear f1 f2
          have HQ : Hid (ltAt s (k + 1) = x ++ [115] ∧ rdAt s (k + 1) = ⟨q, true⟩) := ⟨by rw [HL, hl], by rw [HR]; exact hst⟩
          clear HL HR HB1 hl hst
          go_wp2_with ((at_builtin; refine wpList_append_own _ rfl _ _ 52 rfl w.heap.size 5 i0 (.int .u8 0) 1 1 Tryd.underlying52 hi hz0 hz1 hz2 rfl (by decide) _ _ _ rfl (hown.alloc _) ⟨wr.heap.size, 0, none⟩ 1 1 [.int .u8 115] rfl rfl ?c1 ?c2 ?c3 ?c4 ?c5 ?_))
          case c1 =>
            intro j u hj
            match j, hj with
            | 0, hj => simp at hj; subst hj; simp [Addr.add]
          case c2 => intro u hu; simp at hu; subst hu; rfl
          case c3 => unfold maxLen; omega
          case c4 => omega
          case c5 => simp; omega
          intro v' w1 hown' hgrow _
          have hb1 : Below w.heap.size w w1 := (hb.alloc hbs _).grown hgrow (by simp; omega) (fun k hk => (hown.lt k hk).1)
          have hown1 : w1.ownsRow w.heap.size 5 1 v' (ltAt s (k + 1)).length (Lib.byteCells (ltAt s (k + 1))) := by
            rw [HQ.out.1]; simpa [Lib.byteCells, hll] using hown'
          clear hown' hgrow hown hb
          go_wp2
          go_roundw
          case rel => exact ⟨k + 1, by omega, by go_num, by first | (rw [HQ.out.2]; done) | (rw [HQ.out.2]; simp; done) | (rw [HQ.out.2]; simp; omega), by rw [HQ.out.2], hown1, hb1⟩
          case measure => simp [intOf]; omega
        · have g1 : ((s[k].toNat : Int) == 92) = false := by simp; omega
          have g2 : ((q.toNat : Int) != 0) = true := by simp; omega
          have g3 : ((s[k].toNat : Int) == (q.toNat : Int)) = true := by simp; omega
          clear f1 f2 f3
          have HQ : Hid (ltAt s (k + 1) = x ++ [113] ∧ rdAt s (k + 1) = ⟨0, false⟩) := ⟨by rw [HL, hl], by rw [HR]; exact hst⟩
          clear HL HR HB1 hl hst
          go_wp2_with ((at_builtin; refine wpList_append_own _ rfl _ _ 52 rfl w.heap.size 5 i0 (.int .u8 0) 1 1 Tryd.underlying52 hi hz0 hz1 hz2 rfl (by decide) _ _ _ rfl (hown.alloc _) ⟨wr.heap.size, 0, none⟩ 1 1 [.int .u8 113] rfl rfl ?c1 ?c2 ?c3 ?c4 ?c5 ?_))
          case c1 =>
            intro j u hj
            match j, hj with
            | 0, hj => simp at hj; subst hj; simp [Addr.add]
          case c2 => intro u hu; simp at hu; subst hu; rfl
          case c3 => unfold maxLen; omega
          case c4 => omega
          case c5 => simp; omega
          intro v' w1 hown' hgrow _
          have hb1 : Below w.heap.size w w1 := (hb.alloc hbs _).grown hgrow (by simp; omega) (fun k hk => (hown.lt k hk).1)
          have hown1 : w1.ownsRow w.heap.size 5 1 v' (ltAt s (k + 1)).length (Lib.byteCells (ltAt s (k + 1))) := by
            rw [HQ.out.1]; simpa [Lib.byteCells, hll] using hown'
          clear hown' hgrow hown hb
          go_wp2
          go_roundw
          case rel => exact ⟨k + 1, by omega, by go_num, by first | (rw [HQ.out.2]; done) | (rw [HQ.out.2]; simp; done) | (rw [HQ.out.2]; simp; omega), by rw [HQ.out.2], hown1, hb1⟩
          case measure => simp [intOf]; omega
        · rcases f2 with f2 | f2
          · have g1 : (s[k].toNat : Int) = 39 := by omega
            have g2 : (q.toNat : Int) = 0 := by omega
            clear f1 f2
            have HQ : Hid (ltAt s (k + 1) = x ++ [113] ∧ rdAt s (k + 1) = ⟨s[k], false⟩) := ⟨by rw [HL, hl], by rw [HR]; exact hst⟩
            clear HL HR HB1 hl hst
            go_wp2_with ((at_builtin; refine wpList_append_own _ rfl _ _ 52 rfl w.heap.size 5 i0 (.int .u8 0) 1 1 Tryd.underlying52 hi hz0 hz1 hz2 rfl (by decide) _ _ _ rfl (hown.alloc _) ⟨wr.heap.size, 0, none⟩ 1 1 [.int .u8 113] rfl rfl ?c1 ?c2 ?c3 ?c4 ?c5 ?_))
            case c1 =>
              intro j u hj
              match j, hj with
              | 0, hj => simp at hj; subst hj; simp [Addr.add]
            case c2 => intro u hu; simp at hu; subst hu; rfl
            case c3 => unfold maxLen; omega
            case c4 => omega
            case c5 => simp; omega
            intro v' w1 hown' hgrow _
            have hb1 : Below w.heap.size w w1 := (hb.alloc hbs _).grown hgrow (by simp; omega) (fun k hk => (hown.lt k hk).1)
            have hown1 : w1.ownsRow w.heap.size 5 1 v' (ltAt s (k + 1)).length (Lib.byteCells (ltAt s (k + 1))) := by
              rw [HQ.out.1]; simpa [Lib.byteCells, hll] using hown'
            clear hown' hgrow hown hb
            go_wp2
            go_roundw
            case rel => exact ⟨k + 1, by omega, by go_num, by first | (rw [HQ.out.2]; done) | (rw [HQ.out.2]; simp; done) | (rw [HQ.out.2]; simp; omega), by rw [HQ.out.2], hown1, hb1⟩
            case measure => simp [intOf]; omega
          · have g1 : (s[k].toNat : Int) = 34 := by omega
            have g2 : (q.toNat : Int) = 0 := by omega
            clear f1 f2
            have HQ : Hid (ltAt s (k + 1) = x ++ [113] ∧ rdAt s (k + 1) = ⟨s[k], false⟩) := ⟨by rw [HL, hl], by rw [HR]; exact hst⟩
            clear HL HR HB1 hl hst
            go_wp2_with ((at_builtin; refine wpList_append_own _ rfl _ _ 52 rfl w.heap.size 5 i0 (.int .u8 0) 1 1 Tryd.underlying52 hi hz0 hz1 hz2 rfl (by decide) _ _ _ rfl (hown.alloc _) ⟨wr.heap.size, 0, none⟩ 1 1 [.int .u8 113] rfl rfl ?c1 ?c2 ?c3 ?c4 ?c5 ?_))
            case c1 =>
              intro j u hj
              match j, hj with
              | 0, hj => simp at hj; subst hj; simp [Addr.add]
            case c2 => intro u hu; simp at hu; subst hu; rfl
            case c3 => unfold maxLen; omega
            case c4 => omega
            case c5 => simp; omega
            intro v' w1 hown' hgrow _
            have hb1 : Below w.heap.size w w1 := (hb.alloc hbs _).grown hgrow (by simp; omega) (fun k hk => (hown.lt k hk).1)
            have hown1 : w1.ownsRow w.heap.size 5 1 v' (ltAt s (k + 1)).length (Lib.byteCells (ltAt s (k + 1))) := by
              rw [HQ.out.1]; simpa [Lib.byteCells, hll] using hown'
            clear hown' hgrow hown hb
            go_wp2
            go_roundw
            case rel => exact ⟨k + 1, by omega, by go_num, by first | (rw [HQ.out.2]; done) | (rw [HQ.out.2]; simp; done) | (rw [HQ.out.2]; simp; omega), by rw [HQ.out.2], hown1, hb1⟩
            case measure => simp [intOf]; omega
        · have g2 : (q.toNat : Int) = 0 := by omega
          have g1 : ((s[k].toNat : Int) == 92) = false := by simp; omega
          have g3 : ((s[k].toNat : Int) == 39) = false := by simp; omega
          have g4 : ((s[k].toNat : Int) == 34) = false := by simp; omega
          clear f1 f2 f3 f4
          have HQ : Hid (ltAt s (k + 1) = x ++ [98] ∧ rdAt s (k + 1) = ⟨q, false⟩) := ⟨by rw [HL, hl], by rw [HR]; exact hst⟩
          rw [hbl] at HB1
          have HB2 : Hid (∀ W, Calls Tryd.prog 36 #[.int .u8 s[k].toNat] W fun e w' => e = .returned (.bool true) ∧ W = w') := HB1
          clear HL HR HB1 hl hst hbl
          go_wp2_with (first | (at_builtin; refine wpList_append_own _ rfl _ _ 52 rfl w.heap.size 5 i0 (.int .u8 0) 1 1 Tryd.underlying52 hi hz0 hz1 hz2 rfl (by decide) _ _ _ rfl (hown.alloc _) ⟨wr.heap.size, 0, none⟩ 1 1 [.int .u8 98] rfl rfl ?c1 ?c2 ?c3 ?c4 ?c5 ?_) | (go_at_call 36; refine (HB2.out _).mono ?_; rintro e w' ⟨rfl, rfl⟩))
          case c1 =>
            intro j u hj
            match j, hj with
            | 0, hj => simp at hj; subst hj; simp [Addr.add]
          case c2 => intro u hu; simp at hu; subst hu; rfl
          case c3 => unfold maxLen; omega
          case c4 => omega
          case c5 => simp; omega
          intro v' w1 hown' hgrow _
          have hb1 : Below w.heap.size w w1 := (hb.alloc hbs _).grown hgrow (by simp; omega) (fun k hk => (hown.lt k hk).1)
          have hown1 : w1.ownsRow w.heap.size 5 1 v' (ltAt s (k + 1)).length (Lib.byteCells (ltAt s (k + 1))) := by
            rw [HQ.out.1]; simpa [Lib.byteCells, hll] using hown'
          clear hown' hgrow hown hb
          go_wp2
          go_roundw
          case rel => exact ⟨k + 1, by omega, by go_num, by first | (rw [HQ.out.2]; done) | (rw [HQ.out.2]; simp; done) | (rw [HQ.out.2]; simp; omega), by rw [HQ.out.2], hown1, hb1⟩
          case measure => simp [intOf]; omega
        · have g2 : (q.toNat : Int) = 0 := by omega
          have g1 : ((s[k].toNat : Int) == 92) = false := by simp; omega
          have g3 : ((s[k].toNat : Int) == 39) = false := by simp; omega
          have g4 : ((s[k].toNat : Int) == 34) = false := by simp; omega
          clear f1 f2 f3 f4
          have HQ : Hid (ltAt s (k + 1) = x ++ [112] ∧ rdAt s (k + 1) = ⟨q, false⟩) := ⟨by rw [HL, hl], by rw [HR]; exact hst⟩
          rw [hbl] at HB1
          have HB2 : Hid (∀ W, Calls Tryd.prog 36 #[.int .u8 s[k].toNat] W fun e w' => e = .returned (.bool false) ∧ W = w') := HB1
          clear HL HR HB1 hl hst hbl
          go_wp2_with (first | (at_builtin; refine wpList_append_own _ rfl _ _ 52 rfl w.heap.size 5 i0 (.int .u8 0) 1 1 Tryd.underlying52 hi hz0 hz1 hz2 rfl (by decide) _ _ _ rfl (hown.alloc _) ⟨wr.heap.size, 0, none⟩ 1 1 [.int .u8 112] rfl rfl ?c1 ?c2 ?c3 ?c4 ?c5 ?_) | (go_at_call 36; refine (HB2.out _).mono ?_; rintro e w' ⟨rfl, rfl⟩))
          case c1 =>
            intro j u hj
            match j, hj with
            | 0, hj => simp at hj; subst hj; simp [Addr.add]
          case c2 => intro u hu; simp at hu; subst hu; rfl
          case c3 => unfold maxLen; omega
          case c4 => omega
          case c5 => simp; omega
          intro v' w1 hown' hgrow _
          have hb1 : Below w.heap.size w w1 := (hb.alloc hbs _).grown hgrow (by simp; omega) (fun k hk => (hown.lt k hk).1)
          have hown1 : w1.ownsRow w.heap.size 5 1 v' (ltAt s (k + 1)).length (Lib.byteCells (ltAt s (k + 1))) := by
            rw [HQ.out.1]; simpa [Lib.byteCells, hll] using hown'
          clear hown' hgrow hown hb
          go_wp2
          go_roundw
          case rel => exact ⟨k + 1, by omega, by go_num, by first | (rw [HQ.out.2]; done) | (rw [HQ.out.2]; simp; done) | (rw [HQ.out.2]; simp; omega), by rw [HQ.out.2], hown1, hb1⟩
          case measure => simp [intOf]; omega
        · by_cases f5 : s[k].toNat = 92
          · have g1 : (s[k].toNat : Int) = 92 := by omega
            have g2 : (q.toNat : Int) = 39 := by omega
            clear f1 f2 f3 f5
            have HQ : Hid (ltAt s (k + 1) = x ++ [112] ∧ rdAt s (k + 1) = ⟨q, false⟩) := ⟨by rw [HL, hl], by rw [HR]; exact hst⟩
            clear HL HR HB1 hl hst
            go_wp2_with ((at_builtin; refine wpList_append_own _ rfl _ _ 52 rfl w.heap.size 5 i0 (.int .u8 0) 1 1 Tryd.underlying52 hi hz0 hz1 hz2 rfl (by decide) _ _ _ rfl (hown.alloc _) ⟨wr.heap.size, 0, none⟩ 1 1 [.int .u8 112] rfl rfl ?c1 ?c2 ?c3 ?c4 ?c5 ?_))
            case c1 =>
              intro j u hj
              match j, hj with
              | 0, hj => simp at hj; subst hj; simp [Addr.add]
            case c2 => intro u hu; simp at hu; subst hu; rfl
            case c3 => unfold maxLen; omega
            case c4 => omega
            case c5 => simp; omega
            intro v' w1 hown' hgrow _
            have hb1 : Below w.heap.size w w1 := (hb.alloc hbs _).grown hgrow (by simp; omega) (fun k hk => (hown.lt k hk).1)
            have hown1 : w1.ownsRow w.heap.size 5 1 v' (ltAt s (k + 1)).length (Lib.byteCells (ltAt s (k + 1))) := by
              rw [HQ.out.1]; simpa [Lib.byteCells, hll] using hown'
            clear hown' hgrow hown hb
            go_wp2
            go_roundw
            case rel => exact ⟨k + 1, by omega, by go_num, by first | (rw [HQ.out.2]; done) | (rw [HQ.out.2]; simp; done) | (rw [HQ.out.2]; simp; omega), by rw [HQ.out.2], hown1, hb1⟩
            case measure => simp [intOf]; omega
          · have g1 : ((s[k].toNat : Int) == 92) = false := by simp; omega
            have g2 : ((q.toNat : Int) != 0) = true := by simp; omega
            have g3 : ((s[k].toNat : Int) == (q.toNat : Int)) = false := by simp; omega
            have g4 : ((q.toNat : Int) == 0) = false := by simp; omega
            clear f1 f2 f3 f5
            have HQ : Hid (ltAt s (k + 1) = x ++ [112] ∧ rdAt s (k + 1) = ⟨q, false⟩) := ⟨by rw [HL, hl], by rw [HR]; exact hst⟩
            clear HL HR HB1 hl hst
            go_wp2_with ((at_builtin; refine wpList_append_own _ rfl _ _ 52 rfl w.heap.size 5 i0 (.int .u8 0) 1 1 Tryd.underlying52 hi hz0 hz1 hz2 rfl (by decide) _ _ _ rfl (hown.alloc _) ⟨wr.heap.size, 0, none⟩ 1 1 [.int .u8 112] rfl rfl ?c1 ?c2 ?c3 ?c4 ?c5 ?_))
            case c1 =>
              intro j u hj
              match j, hj with
              | 0, hj => simp at hj; subst hj; simp [Addr.add]
            case c2 => intro u hu; simp at hu; subst hu; rfl
            case c3 => unfold maxLen; omega
            case c4 => omega
            case c5 => simp; omega
            intro v' w1 hown' hgrow _
            have hb1 : Below w.heap.size w w1 := (hb.alloc hbs _).grown hgrow (by simp; omega) (fun k hk => (hown.lt k hk).1)
            have hown1 : w1.ownsRow w.heap.size 5 1 v' (ltAt s (k + 1)).length (Lib.byteCells (ltAt s (k + 1))) := by
              rw [HQ.out.1]; simpa [Lib.byteCells, hll] using hown'
            clear hown' hgrow hown hb
            go_wp2
            go_roundw
            case rel => exact ⟨k + 1, by omega, by go_num, by first | (rw [HQ.out.2]; done) | (rw [HQ.out.2]; simp; done) | (rw [HQ.out.2]; simp; omega), by rw [HQ.out.2], hown1, hb1⟩
            case measure => simp [intOf]; omega
    · obtain rfl : k = s.size := by omega
      have e1 : rdAt s s.size = K.ends (bl s) := by unfold rdAt; rw [take_all]; rfl
      have e2 : ltAt s s.size = letters K.Rd.r0 (bl s) := by unfold ltAt; rw [take_all]
      rw [e2] at hown
      have hcv : (convert 52 9 u4).run Tryd.prog wr = .ok (.string y) wr := by rw [HY.out.1]; exact run_conv hown
      rw [← e1] at HY
      obtain ⟨r, hr⟩ : ∃ r, r = rdAt s s.size := ⟨_, rfl⟩
      rw [← hr] at HY ⊢
      obtain ⟨a, cap, hv⟩ := bytes_slice hown
      subst hv
      clear hr e1 e2 hown hll
      obtain ⟨q, t⟩ := r
      have e : K.Rd.opened ⟨q, t⟩ = (((q.toNat : Int) != 0) || t) := by
        have := u8_beq q 0 0 rfl
        simp only [K.Rd.opened, bne, ← this]; rfl
      have HE : Hid ((((q.toNat : Int) != 0) || t) = op) := by rw [HY.out.2, e]; rfl
      dsimp only
      clear e HY
      by_cases hq : (q.toNat : Int) = 0
      · go_wp2
        all_goals go_ret2
        all_goals exact ⟨by rw [← HE.out]; simp [hq], hb⟩
      · have hq2 : ((q.toNat : Int) != 0) = true := by simpa using hq
        go_wp2
        all_goals go_ret2
        all_goals exact ⟨by rw [← HE.out]; simp [hq2], hb⟩
end Go.Proofs.YtanboocibmjomaaDoor
