/-
  Lists of texts; what Same answers of two that are alike; what Names answers.
-/
import Derived.Test.YtjbmmeneejcpbaaVMore
import Derived.Sort.KeysCollected
import Derived.Sort.OwnSorted
namespace Go.Proofs.Ytjbmmeneejcpbaa
open Go.RowKit Go.Shelf Go.Maps

/-- A slice value that reads as a list of texts, its row below block B. -/
def Words (B : Nat) (W : World) (v : Value) (l : List ByteArray) : Prop :=
  ∃ a n c, v = .slice a n c ∧ n = l.length ∧ ∀ i (h : i < l.length), ∃ b o, a = some ⟨b, o, none⟩ ∧ b < B ∧ W.cell? ⟨b, o + i, none⟩ = some (.string l[i])
theorem Words.below {B : Nat} {W W1 : World} {v : Value} {l : List ByteArray} (h : Words B W v l) (hb : Below B W W1) : Words B W1 v l := by
  obtain ⟨a, n, c, h1, h2, h3⟩ := h
  refine ⟨a, n, c, h1, h2, fun i hi => ?_⟩
  obtain ⟨b, o, e1, e2, e3⟩ := h3 i hi
  exact ⟨b, o, e1, e2, by rw [hb.cell (p := ⟨b, o + i, none⟩) e2]; exact e3⟩
theorem Words.mono {B B' : Nat} {W : World} {v : Value} {l : List ByteArray} (h : Words B W v l) (hB : B ≤ B') : Words B' W v l := by
  obtain ⟨a, n, c, h1, h2, h3⟩ := h
  refine ⟨a, n, c, h1, h2, fun i hi => ?_⟩
  obtain ⟨b, o, e1, e2, e3⟩ := h3 i hi
  exact ⟨b, o, e1, by omega, e3⟩
theorem Words.drewN {B : Nat} {W : World} {v : Value} {l : List ByteArray} (h : Words B W v l) (n : Nat) : Words B (W.drewN n) v l := h.below (below_drewN (Below.refl _ _) n)
theorem Words.at {B : Nat} {W : World} {v : Value} {l : List ByteArray} (h : Words B W v l) (hne : l ≠ []) :
    ∃ b o c, v = .slice (some ⟨b, o, none⟩) l.length c ∧ b < B ∧ ∀ i (hi : i < l.length), W.cell? ⟨b, o + i, none⟩ = some (.string l[i]) := by
  obtain ⟨a, n, c, h1, h2, h3⟩ := h
  obtain ⟨b, o, e1, e2, _⟩ := h3 0 (List.length_pos_iff.mpr hne)
  refine ⟨b, o, c, by rw [h1, e1, h2], e2, fun i hi => ?_⟩
  obtain ⟨b', o', e1', _, e3⟩ := h3 i hi
  rw [e1] at e1'
  simp only [Option.some.injEq, Addr.mk.injEq, and_true] at e1'
  rw [e1'.1, e1'.2]; exact e3
theorem words_of_owns {B base : Nat} {W : World} {v : Value} {l : List ByteArray} (h : W.ownsRow base 9 1 v l.length (l.map Value.string)) (hB : W.heap.size ≤ B) : Words B W v l := by
  obtain ⟨hxl, ⟨hv, hn⟩ | ⟨g, cap, cur, hv, hg, hcur, hcap, hcm, hcs, hct⟩⟩ := h
  · exact ⟨none, 0, 0, hv, hn.symm, fun i hi => by omega⟩
  · have hgl : g < W.heap.size := (Array.getElem?_eq_some_iff.1 hcur).1
    refine ⟨some ⟨g, 0, none⟩, l.length, cap, hv, rfl, fun i hi => ⟨g, 0, rfl, by omega, ?_⟩⟩
    have hjc : cur.toList[i]? = some (.string l[i]) := by
      have h2 : (cur.toList.take (l.length * 1))[i]? = (l.map Value.string)[i]? := by rw [hct]
      rw [List.getElem?_take_of_lt (by omega)] at h2
      rw [h2]; simp [List.getElem?_eq_getElem hi]
    simp only [World.cell?, hcur]
    simpa using hjc


set_option maxHeartbeats 1600000 in
theorem same_some (l : List ByteArray) (b1 o1 c1 b2 o2 c2 : Nat) (w : World) (hl : l.length ≤ 2000000)
    (h1 : ∀ i (h : i < l.length), w.cell? ⟨b1, o1 + i, none⟩ = some (.string l[i])) (h2 : ∀ i (h : i < l.length), w.cell? ⟨b2, o2 + i, none⟩ = some (.string l[i])) :
    Calls Try.prog 20 #[.slice (some ⟨b1, o1, none⟩) l.length c1, .slice (some ⟨b2, o2, none⟩) l.length c2] w fun e w' => e = .returned (.bool true) ∧ ∃ n, w' = w.drewN n := by
  obtain ⟨n, hn⟩ : ∃ n, n = l.length := ⟨_, rfl⟩
  have HC : Hid (n = l.length ∧ (∀ i (h : i < l.length), w.cell? ⟨b1, o1 + i, none⟩ = some (.string l[i])) ∧ (∀ i (h : i < l.length), w.cell? ⟨b2, o2 + i, none⟩ = some (.string l[i]))) := ⟨hn, h1, h2⟩
  rw [← hn] at hl ⊢
  clear h1 h2 hn
  go_enter Try.func20, Try.ntmps20
  go_wp2
  go_loopw [5] (fun vi wr => ∃ k m : Nat, k ≤ n ∧ vi = .int .i64 k ∧ wr = w.drewN m) (fun vi _ => n - (intOf vi).toNat)
  case atStart => exact ⟨0, 0, Nat.zero_le _, rfl, rfl⟩
  case round =>
    obtain ⟨k, m, hk, rfl, rfl⟩ := hrel
    by_cases hlt : k < n
    · have hkl : k < l.length := by rw [← HC.out.1]; exact hlt
      have hil : (k : Int) < (n : Int) := by omega
      have e1 := HC.out.2.1 k hkl
      have e2 := HC.out.2.2 k hkl
      obtain ⟨x, hxe⟩ : ∃ x, x = l[k] := ⟨_, rfl⟩
      rw [← hxe] at e1 e2
      clear hxe
      go_wp2
      go_quiet (fail)
      go_wp2
      go_roundw
      case rel => exact ⟨k + 1, _, by omega, by go_num, rfl⟩
      case measure => simp [intOf]; omega
    · go_wp2
      go_ret
      exact ⟨rfl, _, rfl⟩

set_option maxHeartbeats 1600000 in
theorem same_none (a1 a2 : Option Addr) (c1 c2 : Nat) (w : World) :
    Calls Try.prog 20 #[.slice a1 0 c1, .slice a2 0 c2] w fun e w' => e = .returned (.bool true) ∧ ∃ n, w' = w.drewN n := by
  go_enter Try.func20, Try.ntmps20
  go_wp2
  refine wp_loop_rounds 1 ?_
  rw [rounds_succ]
  go_wp2
  go_ret
  exact ⟨rfl, 0, rfl⟩

theorem same_any (l : List ByteArray) (v1 v2 : Value) (B1 B2 : Nat) (w : World) (hl : l.length ≤ 2000000) (h1 : Words B1 w v1 l) (h2 : Words B2 w v2 l) :
    Calls Try.prog 20 #[v1, v2] w fun e w' => e = .returned (.bool true) ∧ ∃ n, w' = w.drewN n := by
  by_cases hne : l = []
  · subst hne
    obtain ⟨a, n, c, rfl, hn, _⟩ := h1
    obtain ⟨a', n', c', rfl, hn', _⟩ := h2
    simp at hn hn'; subst hn; subst hn'
    exact same_none a a' c c' w
  · obtain ⟨b, o, c, rfl, hb, hc⟩ := h1.at hne
    obtain ⟨b', o', c', rfl, hb', hc'⟩ := h2.at hne
    exact same_some l b o c b' o' c' w hl hc hc'
theorem Words.pick {B : Nat} {W : World} {a : Option Addr} {n c : Nat} {l : List ByteArray} (h : Words B W (.slice a n c) l) (k : Nat) (hk : k < l.length) :
    ∃ b o, a = some ⟨b, o, none⟩ ∧ b < B ∧ W.cell? ⟨b, o + k, none⟩ = some (.string l[k]) := by
  obtain ⟨a', n', c', e1, e2, e3⟩ := h
  obtain ⟨b, o, f1, f2, f3⟩ := e3 k hk
  simp only [Value.slice.injEq] at e1
  exact ⟨b, o, by rw [e1.1]; exact f1, f2, f3⟩
theorem Words.len {B : Nat} {W : World} {a : Option Addr} {n c : Nat} {l : List ByteArray} (h : Words B W (.slice a n c) l) : n = l.length := by
  obtain ⟨a', n', c', e1, e2, e3⟩ := h
  simp only [Value.slice.injEq] at e1
  exact e1.2.1.trans e2


theorem look_isSome (L : Sc) (q : ByteArray) : (L.look q).isSome = true ↔ q ∈ L.map (·.1) := by
  induction L with
  | nil => simp [Sc.look_nil]
  | cons x L ih =>
    rw [Sc.look_cons, List.map_cons, List.mem_cons]
    by_cases h : x.1 = q
    · rw [if_pos h]; simp [h]
    · rw [if_neg h, ih]
      constructor
      · exact fun e => .inr e
      · rintro (e | e)
        · exact absurd e.symm h
        · exact e
theorem uniq_nodup {L : Sc} (h : L.Uniq) : (L.map fun x => bl x.1).Nodup :=
  List.pairwise_map.2 (h.imp fun hne e => hne (bl_inj e))

theorem rep_keys {w : World} {m : Nat} {L : Sc} {D : DataW Unit} (hown : w.ownsMap Try.prog 9 entR m L.length D) (hR : Rep D L) : (L.map fun x => bl x.1).Perm (strKeys D) := by
  obtain ⟨es, hD, hpw, _⟩ := hown.entries keyed9
  obtain ⟨es', hD', hko⟩ := hown.keysOf
  obtain rfl : es = es' := by rw [hD] at hD'; simpa using hD'
  subst hD
  refine perm_strKeys hpw (fun p hp => by obtain ⟨v, hv⟩ := hko p hp; obtain ⟨x, _, hx, _⟩ := Maps.keyOf_str Try.underlying9 hv; exact ⟨x, hx⟩) (uniq_nodup hR.uniq) fun x => ?_
  have := hR.look (ba x)
  rw [show keyL (ba x) = .string x by unfold keyL; rw [bl_ba]] at this
  rw [this, look_isSome, List.mem_map, List.mem_map]
  constructor
  · rintro ⟨y, hy, rfl⟩; exact ⟨y, hy, by rw [ba_bl]⟩
  · rintro ⟨y, hy, e⟩; exact ⟨y, hy, by rw [e, bl_ba]⟩

theorem sorted_nil : VS.sorted [] = [] := by simp [VS.sorted]
theorem sorted_enc {ss : List (List UInt8)} {L : Sc} (h : ss.Perm (L.map fun x => bl x.1)) : (ss.mergeSort (fun x y => decide (x ≤ y))).map Go.Proofs.encStr = (VS.sorted (L.map (·.1))).map Value.string ∧ ss.length = (VS.sorted (L.map (·.1))).length := by
  have e1 : L.map (fun x => bl x.1) = (L.map (·.1)).map bl := by rw [List.map_map]; rfl
  constructor
  · unfold VS.sorted
    rw [List.map_map, ← e1]
    rw [show ss.mergeSort (fun x y => decide (x ≤ y)) = (L.map fun x => bl x.1).mergeSort (fun x y => decide (x ≤ y)) from mergeSort_of_perm h]
    rfl
  · unfold VS.sorted
    rw [List.length_map, List.length_mergeSort, ← e1, h.length_eq]

section
variable {base b : Nat} {m : Int → Nat} {s : VS}

set_option maxHeartbeats 1000000 in
theorem names_any (n : Int) (w : World) (h : VSet base b m s w) :
    Calls Try.prog 21 #[ptr b, .int .i64 n] w fun e w' => ∃ v, e = .returned v ∧ w'.ownsRow w.heap.size 9 1 v (s.names n).length ((s.names n).map Value.string) ∧ Below w.heap.size w w' := by
  have HA := all_any n w h
  refine (callsIn_wide (n := 6)).1 ?_
  have HA2 : Hid (CallsIn Fence.wide 5 Try.prog 36 #[ptr b, .int .i64 n] w fun e w' => e = .returned (.map (mapAt m n)) ∧ w = w') := callsIn_wide.2 HA
  have hfA : Fence.wide.fn 36 := trivial
  have hfK : Fence.wide.fn 38 := trivial
  have hfS : Fence.wide.fn 37 := trivial
  cases hn : isSc n
  · rw [show mapAt m n = none by unfold mapAt; rw [hn]; rfl] at HA2
    have HN : Hid (s.names n = []) := by unfold Hid VS.names; rw [h.ok.out n hn]; exact sorted_nil
    clear h hn HA
    refine callsIn_of_wp Try.func21 rfl trivial ?_ rfl
    simp only [Try.ntmps21, List.size_toArray, List.length_cons, List.length_nil, Nat.reduceAdd, Nat.reduceSub, Array.replicate_succ, Array.replicate_zero, List.push_toArray, List.append_toArray, List.nil_append, List.cons_append]
    gi_wp2_with (first
      | (gi_at_call 36; refine HA2.out.mono ?_; rintro e w' ⟨rfl, rfl⟩)
      | (gi_at_call 38; refine (Try.maps_Keys_38 _ _).mono ?_; rintro e w' ⟨rfl, rfl⟩)
      | (gi_at_call 37; refine (Try.slices_Sorted_keys_nil_37_38 w).mono ?_; rintro e w' ⟨v, ss, rfl, hS, hrow, hnil, hb⟩))
    go_ret
    subst hS
    rw [List.mergeSort_nil, List.map_nil] at hrow
    exact ⟨v, rfl, by rw [HN.out]; exact ownsRow_base_a hrow (by simp), ((Below.refl _ w).alloc (Nat.le_refl _) _).trans (hb.mono (by simp))⟩
  · rw [show mapAt m n = some (m n) by unfold mapAt; rw [hn]; rfl] at HA2
    obtain ⟨D, hown, hR⟩ := h.map n hn
    have hlen := h.ok.len n
    have HK : Hid (((s n).map fun x => bl x.1).Perm (strKeys D)) := rep_keys hown hR
    have hmax : Maps.size D ≤ maxLen := by rw [hR.size]; unfold maxLen; omega
    have hbytes : Maps.size D * 16 ≤ 140737488355328 := by rw [hR.size]; omega
    clear h hn HA
    refine callsIn_of_wp Try.func21 rfl trivial ?_ rfl
    simp only [Try.ntmps21, List.size_toArray, List.length_cons, List.length_nil, Nat.reduceAdd, Nat.reduceSub, Array.replicate_succ, Array.replicate_zero, List.push_toArray, List.append_toArray, List.nil_append, List.cons_append]
    gi_wp2_with (first
      | (gi_at_call 36; refine HA2.out.mono ?_; rintro e w' ⟨rfl, rfl⟩)
      | (gi_at_call 38; refine (Try.maps_Keys_38 _ _).mono ?_; rintro e w' ⟨rfl, rfl⟩)
      | (gi_at_call 37; refine (Try.slices_Sorted_keys_37_38 (m n) _ D entR w hown hmax hbytes).mono ?_; rintro e w' ⟨v, ss, rfl, hS, hrow, hnil, hb⟩))
    go_ret
    obtain ⟨e1, e2⟩ := sorted_enc (hS.trans HK.out.symm)
    refine ⟨v, rfl, ?_, ((Below.refl _ w).alloc (Nat.le_refl _) _).trans (hb.mono (by simp))⟩
    unfold VS.names
    rw [← e2, ← e1]
    exact ownsRow_base_a hrow (by simp)
end
end Go.Proofs.Ytjbmmeneejcpbaa
