/-
  A row of one number, so many times.
-/
import Derived.Test.YtmmhajlfbjjocaaGreatPBack
import Derived.Laws.CopyOwn
import Derived.Laws.MakeOwn
namespace Go.Proofs.YtmmhajlfbjjocaaGreat
open Go.RowKit Go.Shelf RxSem

theorem infoI : (Tryz.prog.info? 3).map (fun i => (i.zero, i.size, i.bytes)) = some (some (.int .i64 0), 1, 8) := by kernel_rfl
theorem sizeI : (Tryz.prog.info? 3).map (·.size) = some 1 := by kernel_rfl
theorem splice_rep (n k m : Nat) (x z : Value) : splice (List.replicate k x ++ List.replicate (n - k) z) k (List.replicate m x) = List.replicate (k + m) x ++ List.replicate (n - (k + m)) z := by
  unfold splice
  rw [List.take_append_of_le_length (by simp), List.take_of_length_le (by simp), ← List.append_assoc, List.replicate_append_replicate]
  congr 1
  rw [List.drop_append]
  simp
  omega
def repC (n k : Nat) : List Value := List.replicate k (Value.int .i64 (-1)) ++ List.replicate (n - k) (Value.int .i64 0)
theorem copy_rep (W : World) (G g1 k m sLen sCap dLen dCap n : Nat) (hk : k + m ≤ n) (hW : W.heap[G]? = some (.cells (repC n k).toArray 3 (0, 0))) (hsrc : ∀ j, j < m → W.cell? ⟨g1, j, none⟩ = some (.int .i64 (-1))) (hm : m = Nat.min sLen dLen) :
    ∃ W', (Builtin.copy_ #[121, 121] 3 #[.slice (some ⟨G, k, none⟩) dLen dCap, .slice (some ⟨g1, 0, none⟩) sLen sCap]).run Tryz.prog W = .ok (.int .i64 (m : Int)) W' ∧ W'.heap[G]? = some (.cells (repC n (k + m)).toArray 3 (0, 0)) ∧ ∀ B w0, Below B w0 W → B ≤ G → Below B w0 W' := by
  have hadd : ∀ j, (⟨g1, 0, none⟩ : Addr).add j = ⟨g1, j, none⟩ := fun j => by unfold Addr.add; split <;> simp_all
  have hcp := run_copy_row (P := Tryz.prog) W 121 121 3 3 G k dLen dCap ⟨g1, 0, none⟩ sLen sCap _ 3 (List.replicate m (.int .i64 (-1))) Tryz.underlying121 sizeI hW (by simpa using hm) (by
    intro j v hj
    rw [hadd]
    rw [List.getElem?_replicate] at hj
    split at hj
    · rename_i h; cases hj; exact hsrc j h
    · cases hj) (by simp [repC]; omega) (by
    intro v hv
    rw [List.eq_of_mem_replicate hv]; rfl)
  have hgi : goInt (List.replicate m (Value.int .i64 (-1))).length = .int .i64 (m : Int) := by simp [goInt]
  rw [hgi] at hcp
  refine ⟨_, hcp, ?_, fun B w0 hB hG => below_setRow hB hG _⟩
  have := splice_rep n k m (.int .i64 (-1)) (.int .i64 0)
  unfold splice at this
  refine (setRow_heap W G _ _ 3 _ hW).trans ?_
  have e : repC n (k + m) = _ := this.symm
  rw [e]
  simp [repC]
  rw [← List.append_assoc, List.replicate_append_replicate]
set_option maxRecDepth 20000 in
set_option maxHeartbeats 400000 in
theorem repeat_any (g0 n : Nat) (hn : 1 ≤ n) (hn2 : n ≤ 100000) (w : World) (hg : w.heap[g0]? = some (.cells #[.int .i64 (-1)] 3 (0, 0))) : Calls Tryz.prog 49 #[.slice (some ⟨g0, 0, none⟩) 1 1, .int .i64 (n : Int)] w fun e w' => ∃ g, e = .returned (.slice (some ⟨g, 0, none⟩) n n) ∧ w.heap.size ≤ g ∧ w'.heap[g]? = some (.cells (snC (List.replicate n (-1))) 3 (0, 0)) ∧ Below w.heap.size w w' := by
  obtain ⟨i0, hif, hz0, hz1, hz2⟩ := info_parts infoI
  have c0 : w.cell? ⟨g0, 0, none⟩ = some (.int .i64 (-1)) := by simp only [World.cell?, hg]; rfl
  have HM : Hid (∀ W, Calls Tryz.prog 62 #[.int .u64 1, .int .u64 (n : Int)] W fun e w' => e = .returned (.tuple #[.int .u64 0, .int .u64 (n : Int)]) ∧ w' = W) := fun W => by
    have := Tryz.bits_Mul 1 n (by omega) (by omega) W
    simp only [Nat.one_mul] at this
    rw [Nat.div_eq_of_lt (by omega), Nat.mod_eq_of_lt (by omega)] at this
    exact this
  have hgl : g0 < w.heap.size := (Array.getElem?_eq_some_iff.1 hg).1
  have hmk := run_makeSlice (P := Tryz.prog) w 121 3 i0 (.int .i64 0) Tryz.underlying121 hif hz0 .i64 .i64 (n : Int) (n : Int) (by omega) (by omega) (by rw [hz1]; simp; omega) (by rw [hz2]; omega) (by omega)
  obtain ⟨wm, hwm, hBm, hSm, hkm⟩ := one_box w (.cells (madeCells (Value.int .i64 0).cells ((n : Int).toNat * i0.size)) 3)
  rw [← hwm] at hmk
  simp only [Int.toNat_natCast] at hmk
  have hkm2 : wm.heap[w.heap.size]? = some (.cells (repC n 0).toArray 3 (0, 0)) := by
    rw [hkm, hz1]
    simp [madeCells, Value.cells, repC]
    apply Array.ext
    · simp
    · intro i h1 h2
      simp [Nat.mod_one]
  have c0m : wm.cell? ⟨g0, 0, none⟩ = some (.int .i64 (-1)) := (World.cell?_of_block (hBm.block g0 hgl)).trans c0
  have hs0 : ∀ j, j < 1 → wm.cell? ⟨g0, j, none⟩ = some (.int .i64 (-1)) := fun j hj => by
    obtain rfl : j = 0 := by omega
    exact c0m
  obtain ⟨wc, hcp, hc1, hc2⟩ := copy_rep wm w.heap.size g0 0 1 1 1 n n n (by omega) hkm2 hs0 (by simp [Nat.min_def]; omega)
  have HC : Hid (wc.heap[w.heap.size]? = some (.cells (repC n (0 + 1)).toArray 3 (0, 0)) ∧ Below w.heap.size w wc) := ⟨hc1, hc2 _ _ hBm (Nat.le_refl _)⟩
  clear hwm hkm hif hz0 hz1 hz2 hkm2 hc1 hc2 hs0
  go_enter Tryz.func49, Tryz.ntmps49
  go_wp2_with fail
  refine (HM.out _).mono ?_
  rintro e w1 ⟨rfl, rfl⟩
  go_wp2_with fail
  go_loopw [8] (fun vi wr => ∃ k : Nat, 1 ≤ k ∧ k ≤ n ∧ vi = .int .i64 (k : Int) ∧ wr.heap[w1.heap.size]? = some (.cells (repC n k).toArray 3 (0, 0)) ∧ Below w1.heap.size w1 wr) (fun vi _ => n - (intOf vi).toNat)
  case atStart => exact ⟨1, Nat.le_refl _, hn, rfl, HC.out.1, HC.out.2⟩
  case round =>
    obtain ⟨k, hk1, hk2, rfl, hk3, hk4⟩ := hrel
    by_cases hlt : k < n
    · have hl2 : (k : Int) < (n : Int) := by omega
      have hl3 : (k : Int) ≤ (n : Int) := by omega
      have hsr : ∀ (m : Nat), m ≤ k → ∀ j, j < m → wr.drew.cell? ⟨w1.heap.size, j, none⟩ = some (.int .i64 (-1)) := fun m hm j hj => by
        show wr.cell? _ = _
        simp only [World.cell?, hk3]
        have hjk : j < k := by omega
        show (repC n k).toArray[j]? = _
        rw [List.getElem?_toArray]
        unfold repC
        rw [List.getElem?_append_left (by simpa using hjk), List.getElem?_replicate, if_pos hjk]
      obtain ⟨m, hm⟩ : ∃ m, m = Nat.min k (n - k) := ⟨_, rfl⟩
      have hm1 : m ≤ k ∧ m ≤ n - k ∧ 1 ≤ m := by rw [hm]; simp [Nat.min_def]; split <;> omega
      obtain ⟨wc2, hcp2, hc1, hc2⟩ := copy_rep wr.drew w1.heap.size w1.heap.size k m k n (n - k) (n - k) n (by omega) hk3 (hsr m hm1.1) hm
      have HC2 : Hid (wc2.heap[w1.heap.size]? = some (.cells (repC n (k + m)).toArray 3 (0, 0)) ∧ Below w1.heap.size w1 wc2) := ⟨hc1, hc2 _ _ hk4.drew (Nat.le_refl _)⟩
      have HMM : Hid (m = Nat.min k (n - k)) := hm
      clear hc1 hc2 hsr hk3 hk4 hm hcp hmk HC
      go_wp2_with fail
      go_region_with (fail)
      all_goals
        go_wp2_with fail
        go_simp
        have hwp : IntKind.i64.wrap ((k : Int) + (m : Int)) = ((k + m : Nat) : Int) := by (simp [IntKind.wrap, IntKind.bits, IntKind.signed]; omega)
        go_roundw
        case rel => exact ⟨k + m, by omega, by omega, by rw [hwp], HC2.out.1, HC2.out.2⟩
        case measure => rw [hwp]; simp only [intOf, Int.toNat_natCast]; omega
    · have hl2 : ¬ (k : Int) < (n : Int) := by omega
      have HK : Hid (k = n ∧ wr.heap[w1.heap.size]? = some (.cells (repC n k).toArray 3 (0, 0)) ∧ Below w1.heap.size w1 wr) := ⟨by omega, hk3, hk4⟩
      clear hk3 hk4
      go_wp2_with fail
      go_ret
      refine ⟨w1.heap.size, rfl, Nat.le_refl _, ?_, HK.out.2.2⟩
      rw [HK.out.2.1, HK.out.1]
      simp [repC, snC]

/-- A walk over a text. -/
theorem newWalk_any {L : List SV} {gs capS : Nat} (t : ByteArray) (hL : 1 ≤ L.length) (hfew : L.length ≤ 100000) (hok : ∀ x ∈ L, x.Ok) (w : World) (hs : ∃ cur, w.heap[gs]? = some (.cells cur 96 (0, 0)) ∧ cur.toList.take (7 * L.length) = L.flatMap stepC) : Calls Tryz.prog 38 #[.slice (some ⟨gs, 0, none⟩) L.length capS, .string t] w fun e w' => ∃ b gn capN, e = .returned (.pointer (some ⟨b, 0, none⟩)) ∧ Idle w.heap.size b gs gn capS capN L t 0 (.slice none 0 0) (.slice none 0 0) [] (List.replicate L.length (-1)) 0 w' ∧ Below w.heap.size w w' := by
  obtain ⟨n, hn⟩ : ∃ n, n = L.length := ⟨_, rfl⟩
  have hn1 : 1 ≤ n := by omega
  have hn2 : n ≤ 100000 := by omega
  obtain ⟨wa, hwa, hBa, hSa, hka⟩ := one_box w (.cells #[.int .i64 (-1)] 3)
  have HR : Hid (∀ W, W.heap[w.heap.size]? = some (.cells #[.int .i64 (-1)] 3 (0, 0)) → Calls Tryz.prog 49 #[.slice (some ⟨w.heap.size, 0, none⟩) 1 1, .int .i64 (n : Int)] W fun e w' => ∃ g, e = .returned (.slice (some ⟨g, 0, none⟩) n n) ∧ W.heap.size ≤ g ∧ w'.heap[g]? = some (.cells (snC (List.replicate n (-1))) 3 (0, 0)) ∧ Below W.heap.size W w') := fun W hW => repeat_any _ n hn1 hn2 W hW
  have HX : Hid (n = L.length ∧ (∃ cur, w.heap[gs]? = some (.cells cur 96 (0, 0)) ∧ cur.toList.take (7 * L.length) = L.flatMap stepC) ∧ (∀ x ∈ L, x.Ok) ∧ Below w.heap.size w wa ∧ wa.heap.size = w.heap.size + 1 ∧ wa.heap[w.heap.size]? = _) := ⟨hn, hs, hok, hBa, hSa, hka⟩
  rw [← hn]
  clear hn hs hok hBa hSa hka hL hfew
  go_enter Tryz.func38, Tryz.ntmps38
  go_wp2_with fail
  rw [← hwa]
  refine (HR.out wa HX.out.2.2.2.2.2).mono ?_
  rintro e w1 ⟨g, rfl, hg1, hg2, hb1⟩
  have HG : Hid (wa.heap.size ≤ g ∧ w1.heap[g]? = some (.cells (snC (List.replicate n (-1))) 3 (0, 0)) ∧ Below wa.heap.size wa w1) := ⟨hg1, hg2, hb1⟩
  clear hg1 hg2 hb1 hwa HR
  go_wp2_with fail
  go_ret
  obtain ⟨x1, ⟨cur, x2, x3⟩, x4, x5, x6, x7⟩ := HX.out
  obtain ⟨g1, g2, g3⟩ := HG.out
  have hs1 := g3.size
  have hgl := (Array.getElem?_eq_some_iff.1 g2).1
  have hBw : Below w.heap.size w w1 := x5.trans (g3.mono (by omega))
  refine ⟨w1.heap.size, g, n, rfl, ⟨?_, ⟨cur, ?_, x3⟩, (Below.heap_alloc _ _ _ hgl).trans g2, by simpa using x1, World.ownsRow_nil _ _ _ _, ⟨0, [], World.ownsRow_nil _ _ _ _⟩, fun g' hg' => by simp [Value.ownBlock] at hg', x4, by omega, by simp, by omega, by omega⟩, hBw.alloc (by omega) _⟩
  · have := heap_alloc_new w1 (.cells #[.slice (some ⟨gs, 0, none⟩) n capS, .string t, .int .i64 0, .slice (some ⟨g, 0, none⟩) n n, .slice none 0 0, .slice none 0 0, .int .i64 0] 125)
    rw [← x1]
    exact this
  · have hl := (Array.getElem?_eq_some_iff.1 x2).1
    rw [Below.heap_alloc _ _ _ (by omega), hBw.block gs hl]; exact x2
end Go.Proofs.YtmmhajlfbjjocaaGreat
