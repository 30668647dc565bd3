/-
  theirs, yacc, far, Same; that the program is alive.
-/
import Derived.Test.YtfcoihklihkngaaS10
namespace Go.Proofs.Ytfcoihklihkngaa
open Go.RowKit Go.Shelf Go.Maps

set_option maxRecDepth 20000 in
set_option maxHeartbeats 800000 in
theorem theirs_any (sa aw : Option Addr) (n cs m cw : Nat) (w : World) : Calls Try.prog 9 #[.agg #[.slice sa n cs, .slice aw m cw]] w fun e w' => e = .returned (.agg #[.slice sa n cs, .slice aw m cw]) ∧ Below w.heap.size w w' := by
  go_enter Try.func9, Try.ntmps9
  go_wp2_with fail
  obtain ⟨W1, hW1⟩ : ∃ W1, W1 = ((w.alloc (.cells #[.slice sa n cs, .slice aw m cw] 25)).alloc (.cells #[.slice sa n cs, .slice aw m cw] 30)) := ⟨_, rfl⟩
  have hb : W1.heap[w.heap.size + 1]? = some (.cells #[.slice sa n cs, .slice aw m cw] 30 (0, 0)) := by rw [hW1]; exact alloc_b (by simp)
  have hbel : Below w.heap.size w W1 := by rw [hW1]; exact (below_alloc1 _ _).alloc (by simp) _
  have g0 := cell_in hb 0 rfl
  have g1 := cell_in hb 1 rfl
  rw [← hW1]
  refine bodyPost_ret (v := .agg #[.slice sa n cs, .slice aw m cw]) (by simp [results, Try.results9, go_sem, g0, g1]; try rfl) rfl ⟨rfl, hbel⟩
set_option maxRecDepth 20000 in
set_option maxHeartbeats 800000 in
theorem yacc_any (w : World) : Calls Try.prog 13 #[] w fun e w' => ∃ vs vw, e = .returned (.agg #[vs, vw]) ∧ Below w.heap.size w w' ∧ Words w'.heap.size w' vs (([[46, 121], [46, 99], [46, 111]] : List S.Tx).map ba) ∧ Wy w'.heap.size w' vw [([46, 121], [46, 99]), ([46, 99], [46, 111])] := by
  go_enter Try.func13, Try.ntmps13
  go_wp2_with fail
  obtain ⟨W1, hW1⟩ : ∃ W1, W1 = (w.alloc (.cells #[.slice (some ⟨w.heap.size + 1, 0, none⟩) 3 3, .slice (some ⟨w.heap.size + 1 + 1, 0, none⟩) 2 2] 25)).alloc (.cells #[.string ⟨#[46, 121]⟩, .string ⟨#[46, 99]⟩, .string ⟨#[46, 111]⟩] 9) := ⟨_, rfl⟩
  obtain ⟨W2, hW2⟩ : ∃ W2, W2 = W1.alloc (.cells #[.string ⟨#[46, 121]⟩, .string ⟨#[46, 99]⟩, .string ⟨#[46, 99]⟩, .string ⟨#[46, 111]⟩] 48) := ⟨_, rfl⟩
  have hs1 : W1.heap.size = w.heap.size + 1 + 1 := by rw [hW1]; simp
  have hb0 : W2.heap[w.heap.size]? = some (.cells #[.slice (some ⟨w.heap.size + 1, 0, none⟩) 3 3, .slice (some ⟨w.heap.size + 1 + 1, 0, none⟩) 2 2] 25 (0, 0)) := by
    rw [hW2, Below.heap_alloc _ _ _ (by rw [hs1]; omega), hW1, Below.heap_alloc _ _ _ (by simp)]; exact alloc_b rfl
  have hb1 : W2.heap[w.heap.size + 1]? = some (.cells #[.string ⟨#[46, 121]⟩, .string ⟨#[46, 99]⟩, .string ⟨#[46, 111]⟩] 9 (0, 0)) := by
    rw [hW2, Below.heap_alloc _ _ _ (by rw [hs1]; omega), hW1]; exact alloc_b (by simp)
  have hb2 : W2.heap[w.heap.size + 1 + 1]? = some (.cells #[.string ⟨#[46, 121]⟩, .string ⟨#[46, 99]⟩, .string ⟨#[46, 99]⟩, .string ⟨#[46, 111]⟩] 48 (0, 0)) := by
    rw [hW2]; exact alloc_b hs1.symm
  have hbel : Below w.heap.size w W2 := by rw [hW2, hW1]; exact ((below_alloc1 _ _).alloc (by simp) _).alloc (by simp; omega) _
  have hs2 : W2.heap.size = w.heap.size + 1 + 1 + 1 := by rw [hW2]; simp [hs1]
  have g0 := cell_in hb0 0 rfl
  have g1 := cell_in hb0 1 rfl
  rw [← hW1, ← hW2]
  refine bodyPost_ret (v := .agg #[.slice (some ⟨w.heap.size + 1, 0, none⟩) 3 3, .slice (some ⟨w.heap.size + 1 + 1, 0, none⟩) 2 2]) (by simp [results, Try.results13, go_sem, g0, g1]; try rfl) rfl ⟨_, _, rfl, hbel, ⟨some ⟨w.heap.size + 1, 0, none⟩, 3, 3, rfl, rfl, Nat.le_refl _, ?_⟩, ⟨some ⟨w.heap.size + 1 + 1, 0, none⟩, 2, 2, rfl, rfl, Nat.le_refl _, ?_⟩⟩
  · intro i hi
    refine ⟨w.heap.size + 1, 0, rfl, by omega, ?_⟩
    rw [Nat.zero_add]
    have hi3 : i < 3 := hi
    match i, hi3 with
    | 0, _ => exact cell_in hb1 0 rfl
    | 1, _ => exact cell_in hb1 1 rfl
    | 2, _ => exact cell_in hb1 2 rfl
  · intro i x hi
    have hi3 : i < 2 := (List.getElem?_eq_some_iff.1 hi).1
    match i, hi3 with
    | 0, _ => cases hi; exact ⟨w.heap.size + 1 + 1, 0, rfl, by omega, cell_in hb2 0 rfl, cell_in hb2 1 rfl⟩
    | 1, _ => cases hi; exact ⟨w.heap.size + 1 + 1, 0, rfl, by omega, cell_in hb2 2 rfl, cell_in hb2 3 rfl⟩
set_option maxHeartbeats 1600000 in
theorem same_some (l : List ByteArray) (b1 o1 c1 b2 o2 c2 : Nat) (w : World) (hl : l.length ≤ 2000000)
    (h1 : ∀ i (h : i < l.length), w.cell? ⟨b1, o1 + i, none⟩ = some (.string l[i])) (h2 : ∀ i (h : i < l.length), w.cell? ⟨b2, o2 + i, none⟩ = some (.string l[i])) :
    Calls Try.prog 14 #[.slice (some ⟨b1, o1, none⟩) l.length c1, .slice (some ⟨b2, o2, none⟩) l.length c2] w fun e w' => e = .returned (.bool true) ∧ ∃ n, w' = w.drewN n := by
  obtain ⟨n, hn⟩ : ∃ n, n = l.length := ⟨_, rfl⟩
  have HC : Hid (n = l.length ∧ (∀ i (h : i < l.length), w.cell? ⟨b1, o1 + i, none⟩ = some (.string l[i])) ∧ (∀ i (h : i < l.length), w.cell? ⟨b2, o2 + i, none⟩ = some (.string l[i]))) := ⟨hn, h1, h2⟩
  rw [← hn] at hl ⊢
  clear h1 h2 hn
  go_enter Try.func14, Try.ntmps14
  go_wp2
  go_loopw [5] (fun vi wr => ∃ k m : Nat, k ≤ n ∧ vi = .int .i64 k ∧ wr = w.drewN m) (fun vi _ => n - (intOf vi).toNat)
  case atStart => exact ⟨0, 0, Nat.zero_le _, rfl, rfl⟩
  case round =>
    obtain ⟨k, m, hk, rfl, rfl⟩ := hrel
    by_cases hlt : k < n
    · have hkl : k < l.length := by rw [← HC.out.1]; exact hlt
      have hil : (k : Int) < (n : Int) := by omega
      have e1 := HC.out.2.1 k hkl
      have e2 := HC.out.2.2 k hkl
      obtain ⟨x, hxe⟩ : ∃ x, x = l[k] := ⟨_, rfl⟩
      rw [← hxe] at e1 e2
      clear hxe
      go_wp2
      go_quiet (fail)
      go_wp2
      go_roundw
      case rel => exact ⟨k + 1, _, by omega, by go_num, rfl⟩
      case measure => simp [intOf]; omega
    · go_wp2
      go_ret
      exact ⟨rfl, _, rfl⟩

set_option maxHeartbeats 1600000 in
theorem same_none (a1 a2 : Option Addr) (c1 c2 : Nat) (w : World) :
    Calls Try.prog 14 #[.slice a1 0 c1, .slice a2 0 c2] w fun e w' => e = .returned (.bool true) ∧ ∃ n, w' = w.drewN n := by
  go_enter Try.func14, Try.ntmps14
  go_wp2
  refine wp_loop_rounds 1 ?_
  rw [rounds_succ]
  go_wp2
  go_ret
  exact ⟨rfl, 0, rfl⟩

theorem same_any (l : List ByteArray) (v1 v2 : Value) (B1 B2 : Nat) (w : World) (hl : l.length ≤ 2000000) (h1 : Words B1 w v1 l) (h2 : Words B2 w v2 l) :
    Calls Try.prog 14 #[v1, v2] w fun e w' => e = .returned (.bool true) ∧ ∃ n, w' = w.drewN n := by
  by_cases hne : l = []
  · subst hne
    obtain ⟨a, n, c, rfl, hn, _⟩ := h1
    obtain ⟨a', n', c', rfl, hn', _⟩ := h2
    simp at hn hn'; subst hn; subst hn'
    exact same_none a a' c c' w
  · obtain ⟨b, o, c, rfl, hb, hc⟩ := h1.at hne
    obtain ⟨b', o', c', rfl, hb', hc'⟩ := h2.at hne
    exact same_some l b o c b' o' c' w hl hc.2 hc'.2

def FarPost (Sf : List S.Tx) (L : List S.Way) (w : World) (e : Ending) (w' : World) : Prop := ∃ b : Bool, e = .returned (.bool b) ∧ Below w.heap.size w w' ∧ (b = false → Sf.length ≤ 70 ∧ L.length ≤ 30 ∧ ∀ s ∈ Sf, s.length ≤ 50)
set_option maxRecDepth 20000 in
set_option maxHeartbeats 800000 in
theorem far_any (vs vw : Value) (Sf : List S.Tx) (L : List S.Way) (B : Nat) (w : World) (hT : Tb B w vs vw Sf L) :
    Calls Try.prog 6 #[.agg #[vs, vw]] w (FarPost Sf L w) := by
  obtain ⟨sa, cs, rfl⟩ := hT.suf.slice
  obtain ⟨aw, cw, rfl⟩ := hT.way.slice
  have hcs := hT.suf.len.2
  have hcw := hT.way.len.2
  obtain ⟨n, hn⟩ : ∃ n, n = Sf.length := ⟨_, rfl⟩
  obtain ⟨m, hm⟩ : ∃ m, m = L.length := ⟨_, rfl⟩
  have hnb : n ≤ 100000000000000 := by rw [hn]; exact hT.ns
  have hmb : m ≤ 100000000000000 := by rw [hm]; exact hT.nw
  have HT : Hid (n = Sf.length ∧ m = L.length ∧ Tb B w (.slice sa n cs) (.slice aw m cw) Sf L) := ⟨hn, hm, by rw [hn, hm]; exact hT⟩
  rw [← hn] at hcs
  rw [← hm] at hcw
  rw [← hn, ← hm]
  clear hn hm hT
  have HB0 : Hid (Below w.heap.size w (w.alloc (.cells #[.slice sa n cs, .slice aw m cw] 25)) ∧ (w.alloc (.cells #[.slice sa n cs, .slice aw m cw] 25)).heap[w.heap.size]? = some (.cells #[.slice sa n cs, .slice aw m cw] 25 (0, 0))) := ⟨below_alloc1 _ _, alloc_b rfl⟩
  by_cases h70 : 70 < n
  · have h70i : (70 : Int) < (n : Int) := by omega
    go_enter Try.func6, Try.ntmps6
    go_wp2_with fail
    go_ret
    exact ⟨true, rfl, HB0.out.1, fun h => (by cases h)⟩
  · have h70i : ¬ (70 : Int) < (n : Int) := by omega
    by_cases h30 : 30 < m
    · have h30i : (30 : Int) < (m : Int) := by omega
      go_enter Try.func6, Try.ntmps6
      go_wp2_with fail
      go_ret
      exact ⟨true, rfl, HB0.out.1, fun h => (by cases h)⟩
    · have h30i : ¬ (30 : Int) < (m : Int) := by omega
      go_enter Try.func6, Try.ntmps6
      go_wp2_with fail
      go_loopw [18] (fun vi wr => ∃ k : Nat, k ≤ n ∧ vi = .int .i64 (k : Int) ∧ Hid (Below w.heap.size w wr) ∧ Hid (∀ s ∈ Sf.take k, s.length ≤ 50)) (fun vi _ => n - (intOf vi).toNat)
      case atStart => exact ⟨0, Nat.zero_le _, rfl, HB0.out.1, fun s hs => by simp at hs⟩
      case round =>
        obtain ⟨k, hk, rfl, HX, HS⟩ := hrel
        by_cases hlt : k < n
        · have hil : (k : Int) < (n : Int) := by omega
          have hkl : k < Sf.length := by rw [← HT.out.1]; exact hlt
          obtain ⟨b, o, rfl, hb, hc⟩ := HT.out.2.2.suf.pick k (by rw [List.length_map]; exact hkl)
          have hc0 := (HX.out.cell (p := ⟨b, o + k, none⟩) (Nat.lt_of_lt_of_le hb HT.out.2.2.lo)).trans hc
          obtain ⟨y, hy⟩ : ∃ y, y = (Sf.map ba)[k]'(by rw [List.length_map]; exact hkl) := ⟨_, rfl⟩
          rw [← hy] at hc0
          have HY : Hid (Sf[k].length = y.size) := by unfold Hid; rw [hy, List.getElem_map, ba_size]
          clear hc hy
          by_cases h50 : 50 < y.size
          · have h50i : (50 : Int) < (y.size : Int) := by omega
            go_wp2_with fail
            go_ret
            exact ⟨true, rfl, HX.out, fun h => (by cases h)⟩
          · have h50i : ¬ (50 : Int) < (y.size : Int) := by omega
            have HS1 : Hid (∀ s ∈ Sf.take (k + 1), s.length ≤ 50) := by
              intro s hs
              rw [List.take_succ_eq_append_getElem hkl] at hs
              rcases List.mem_append.1 hs with h | h
              · exact HS.out s h
              · simp at h; subst h; rw [HY.out]; omega
            go_wp2_with fail
            go_roundw
            case rel => exact ⟨k + 1, by omega, by go_num, HX, HS1⟩
            case measure => simp [intOf]; omega
        · have hkn : k = n := by omega
          subst hkn
          have HE : Hid (Sf.length ≤ 70 ∧ L.length ≤ 30 ∧ ∀ s ∈ Sf, s.length ≤ 50) := by
            have h := HS.out
            rw [List.take_of_length_le (by rw [← HT.out.1]; exact Nat.le_refl _)] at h
            exact ⟨by rw [← HT.out.1]; omega, by rw [← HT.out.2.1]; omega, h⟩
          go_wp2_with fail
          go_ret
          exact ⟨false, rfl, HX.out, fun _ => HE.out⟩
end Go.Proofs.Ytfcoihklihkngaa
