/-
  What the document's own Quote answers.
-/
import Derived.Test.YtllpbehhbpefjaaDoorY2
import Derived.Lib.AppendStr
import Derived.Lib.BufferRead
namespace Go.Proofs.YtllpbehhbpefjaaDoor.Ex
open Go.RowKit Go.Shelf

def escY (c : UInt8) : List UInt8 := if c = 36 then [36, 36] else [c]
def quoteY (l : List UInt8) : List UInt8 := l.flatMap escY
theorem quoteY_cons (c : UInt8) (r : List UInt8) : quoteY (c :: r) = escY c ++ quoteY r := by unfold quoteY; rw [List.flatMap_cons]
theorem quoteY_len (l : List UInt8) : (quoteY l).length ≤ 2 * l.length := by
  induction l with
  | nil => simp [quoteY]
  | cons c r ih => rw [quoteY_cons]; unfold escY; split <;> simp <;> omega
theorem info5y : (Tryd.prog.info? 5).map (fun i => (i.zero, i.size, i.bytes)) = some (some (.int .u8 0), 1, 1) := by kernel_rfl
theorem info_y {T : TypeId} {z : Option Value} {n b : Nat} (h : (Tryd.prog.info? T).map (fun i => (i.zero, i.size, i.bytes)) = some (z, n, b)) : ∃ i, Tryd.prog.info? T = some i ∧ i.zero = z ∧ i.size = n ∧ i.bytes = b := by
  cases hi : Tryd.prog.info? T with
  | none => rw [hi] at h; simp at h
  | some i => rw [hi] at h; simp at h; exact ⟨i, rfl, h.1, h.2.1, h.2.2⟩
theorem run_convY {w : World} {base : Nat} {v : Value} {l : List UInt8} (h : w.ownsRow base 5 1 v l.length (Lib.byteCells l)) : (convert 105 9 v).run Tryd.prog w = .ok (.string (ba l)) w := by
  obtain ⟨hxl, ⟨hv, hn0⟩ | ⟨g, cap, cur, hv, hg, hcur, hcap, hcm, hcs, hct⟩⟩ := h
  · have hqn : l = [] := List.length_eq_zero_iff.mp hn0
    rw [hv, hqn]
    exact Lib.run_convert_nil_bytes w 105 9 5 0 Tryd.underlying105 Tryd.underlying5 Tryd.underlying9
  · rw [hv]
    refine run_convert_bytes_back w 105 9 5 ⟨g, 0, none⟩ cap l Tryd.underlying105 Tryd.underlying5 Tryd.underlying9 ?_
    intro j hj
    have hjc : cur.toList[j]? = some (.int .u8 (l[j].toNat : Int)) := by
      have h2 : (cur.toList.take (l.length * 1))[j]? = (Lib.byteCells l)[j]? := by rw [hct]
      rw [List.getElem?_take_of_lt (by omega)] at h2
      rw [h2]; simp [Lib.byteCells, List.getElem?_map, List.getElem?_eq_getElem hj]
    have hc : w.cell? ⟨g, j, none⟩ = some (.int .u8 (l[j].toNat : Int)) := by
      simp only [World.cell?, hcur]
      simpa using hjc
    simp only [Addr.add]
    split
    · rename_i h0; subst h0; exact hc
    · simpa using hc
theorem bytes_sliceY {base : Nat} {w : World} {v : Value} {n : Nat} {xs : List Value} (h : w.ownsRow base 5 1 v n xs) : ∃ a cap, v = .slice a n cap := by
  rcases h.2 with ⟨rfl, rfl⟩ | ⟨g, cap, cur, rfl, _⟩
  · exact ⟨_, _, rfl⟩
  · exact ⟨_, _, rfl⟩

set_option maxRecDepth 20000 in
set_option maxHeartbeats 1000000 in
theorem rquote8 (y : ByteArray) (w : World) (hy : y.size ≤ 100000) : Calls Tryd.prog 60 #[.string y] w fun e w' => e = .returned (.string (ba (quoteY (bl y)))) ∧ Below w.heap.size w w' := by
  obtain ⟨i0, hi, hz0, hz1, hz2⟩ := info_y info5y
  obtain ⟨z, hz⟩ : ∃ z, z = ba (quoteY (bl y)) := ⟨_, rfl⟩
  rw [← hz]
  have HZ : Hid (z = ba (quoteY (bl y))) := hz
  clear hz
  have HM : Hid ((quoteY (bl y)).length ≤ 2000000) := by
    have h := quoteY_len (bl y)
    rw [bl_length] at h
    unfold Hid
    omega
  go_enter Tryd.func60, Tryd.ntmps60
  go_wp2_with fail
  go_loopw [3, 4] (fun v vi wr => ∃ (k : Nat) (x : List UInt8), k ≤ y.size ∧ vi = .int .i64 (k : Int) ∧ Hid (quoteY (bl y) = x ++ quoteY ((bl y).drop k)) ∧ wr.ownsRow w.heap.size 5 1 v x.length (Lib.byteCells x) ∧ Below w.heap.size w wr)
    (fun _ vi _ => y.size - (intOf vi).toNat)
  case atStart => exact ⟨0, [], Nat.zero_le _, rfl, by unfold Hid; simp, World.ownsRow_nil _ _ _ _, Below.refl _ _⟩
  case round =>
    obtain ⟨k, x, hk, rfl, HX, hown, hb⟩ := hrel
    have hbs := hb.size
    have hxl : x.length ≤ 2000000 := by
      have h1 := congrArg List.length HX.out
      have h2 := HM.out
      simp only [List.length_append] at h1
      omega
    obtain ⟨L, hll⟩ : ∃ L, x.length = L := ⟨_, rfl⟩
    rw [hll] at hown hxl
    by_cases hlt : k < y.size
    · have hil : (k : Int) < (y.size : Int) := by omega
      have hd : (bl y).drop k = y[k] :: (bl y).drop (k + 1) := drop_at y k hlt
      by_cases h1 : y[k].toNat = 36
      · have hX2 : Hid (quoteY (bl y) = (x ++ [36, 36]) ++ quoteY ((bl y).drop (k + 1))) := by
          unfold Hid
          have e : y[k] = 36 := UInt8.toNat_inj.1 (by rw [h1]; rfl)
          rw [HX.out, hd, quoteY_cons, e, List.append_assoc]; rfl
        have g1 : ((y[k].toNat : Int) == 36) = true := by simp; omega
        clear hd
        go_wp2_with (first | (at_builtin; refine wpList_append_own _ rfl _ _ 105 rfl w.heap.size 5 i0 (.int .u8 0) 1 1 Tryd.underlying105 hi hz0 hz1 hz2 rfl (by decide) _ _ _ rfl (hown.alloc _) ⟨wr.heap.size, 0, none⟩ 1 1 [.int .u8 36] rfl rfl (by intro j u hj; match j, hj with | 0, hj => simp at hj; subst hj; simp [Addr.add]) (by intro u hu; simp at hu; subst hu; rfl) (by unfold maxLen; omega) (by omega) (by simp; omega) ?_; intro v' w2 hown' hgrow _; have hb2 : Below w.heap.size w w2 := (hb.alloc hbs _).grown hgrow (by simp; omega) (fun k hk => (hown.lt k hk).1); have hown2 : w2.ownsRow w.heap.size 5 1 v' (L + 1) (Lib.byteCells (x ++ [36])) := (by simpa [Lib.byteCells, hll] using hown'); have hbs2 := hb2.size; clear hown' hgrow hown hb; obtain ⟨a2, c2, hv2⟩ := bytes_sliceY hown2; subst hv2) | (at_builtin; refine wpList_append_own _ rfl _ _ 105 rfl w.heap.size 5 i0 (.int .u8 0) 1 1 Tryd.underlying105 hi hz0 hz1 hz2 rfl (by decide) _ _ _ rfl (hown2.alloc _) ⟨w2.heap.size, 0, none⟩ 1 1 [.int .u8 36] rfl rfl (by intro j u hj; match j, hj with | 0, hj => simp at hj; subst hj; simp [Addr.add]) (by intro u hu; simp at hu; subst hu; rfl) (by unfold maxLen; omega) (by omega) (by simp; omega) ?_; intro v3 w3 hown' hgrow _; have HG1 : Hid (Below w.heap.size w w3) := (hb2.alloc hbs2 _).grown hgrow (by simp; omega) (fun k hk => (hown2.lt k hk).1); have HG2 : Hid (w3.ownsRow w.heap.size 5 1 v3 (x ++ [36, 36]).length (Lib.byteCells (x ++ [36, 36]))) := (by unfold Hid; have hl : (x ++ [36, 36]).length = L + 1 + 1 := (by rw [← hll]; simp); rw [hl]; simpa [Lib.byteCells] using hown'); clear hown' hgrow hown2 hb2))
        go_roundw
        case rel => exact ⟨k + 1, x ++ [36, 36], by omega, by go_num, hX2, HG2.out, HG1.out⟩
        case measure => simp [intOf]; omega
      · have g1 : ((y[k].toNat : Int) == 36) = false := by simp; omega
        have hX2 : Hid (quoteY (bl y) = (x ++ [y[k]]) ++ quoteY ((bl y).drop (k + 1))) := by
          unfold Hid
          have e : ¬ y[k] = 36 := fun e => h1 (by rw [e]; rfl)
          rw [HX.out, hd, quoteY_cons, List.append_assoc]
          unfold escY
          rw [if_neg e]
        clear hd h1
        go_wp2_with (at_builtin; refine wpList_append_own _ rfl _ _ 105 rfl w.heap.size 5 i0 (.int .u8 0) 1 1 Tryd.underlying105 hi hz0 hz1 hz2 rfl (by decide) _ _ _ rfl (hown.alloc _) ⟨wr.heap.size, 0, none⟩ 1 1 [.int .u8 y[k].toNat] rfl rfl (by intro j u hj; match j, hj with | 0, hj => simp at hj; subst hj; simp [Addr.add]) (by intro u hu; simp at hu; subst hu; rfl) (by unfold maxLen; omega) (by omega) (by simp; omega) ?_; intro v' w2 hown' hgrow _; have HG1 : Hid (Below w.heap.size w w2) := (hb.alloc hbs _).grown hgrow (by simp; omega) (fun k hk => (hown.lt k hk).1); have HG2 : Hid (w2.ownsRow w.heap.size 5 1 v' (x ++ [y[k]]).length (Lib.byteCells (x ++ [y[k]]))) := (by unfold Hid; simpa [Lib.byteCells, hll] using hown'); clear hown' hgrow hown hb)
        go_roundw
        case rel => exact ⟨k + 1, x ++ [y[k]], by omega, by go_num, hX2, HG2.out, HG1.out⟩
        case measure => simp [intOf]; omega
    · have hil : ¬ (k : Int) < (y.size : Int) := by omega
      have hcv : (convert 105 9 u3).run Tryd.prog wr = .ok (.string z) wr := by
        have e : z = ba x := by
          rw [HZ.out, HX.out, List.drop_eq_nil_of_le (by rw [bl_length]; omega)]
          simp [quoteY]
        rw [e]; exact run_convY (by rw [hll]; exact hown)
      obtain ⟨a, cap, hv⟩ := bytes_sliceY hown
      have HB : Hid (Below w.heap.size w wr) := hb
      subst hv
      clear hown hb
      go_wp2_with fail
      go_ret
      exact ⟨rfl, HB.out⟩
end Go.Proofs.YtllpbehhbpefjaaDoor.Ex
