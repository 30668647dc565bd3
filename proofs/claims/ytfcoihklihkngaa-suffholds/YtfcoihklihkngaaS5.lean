/-
  Whether a table may be: the program's answer.
-/
import Derived.Test.YtfcoihklihkngaaS4
import Derived.Deep.Cut
import Derived.Deep.RegionLaw
import Derived.Deep.RegionWith
namespace Go.Proofs.Ytfcoihklihkngaa
open Go.RowKit Go.Shelf

/-- What is so of the suffixes, and of the ways, below k. -/
def SufOk (Sf : List S.Tx) (k : Nat) : Prop := ∀ (i : Nat) (x : S.Tx), i < k → Sf[i]? = some x → x ≠ [] ∧ x ∉ Sf.take i
def WayOk (Sf : List S.Tx) (L : List S.Way) (k : Nat) : Prop := ∀ (i : Nat) (x : S.Way), i < k → L[i]? = some x → leadsB x Sf = true ∧ x ∉ L.take i
theorem right_iff {Sf : List S.Tx} {L : List S.Way} (h1 : Sf.length ≤ 64) (h2 : L.length ≤ 256) : S.RightP Sf L ↔ SufOk Sf Sf.length ∧ WayOk Sf L L.length := by
  constructor
  · rintro ⟨_, _, a, b⟩
    refine ⟨fun i x _ hx => a i x hx, fun i x _ hx => ?_⟩
    obtain ⟨c1, c2, c3, c4⟩ := b i x hx
    refine ⟨?_, c4⟩
    unfold leadsB
    rw [Bool.and_eq_true, Bool.and_eq_true, bne_iff_ne, List.contains_iff_mem, List.contains_iff_mem]
    exact ⟨c1, c2, c3⟩
  · rintro ⟨a, b⟩
    refine ⟨h1, h2, fun i x hx => a i x (List.getElem?_eq_some_iff.1 hx).1 hx, fun i x hx => ?_⟩
    obtain ⟨c1, c2⟩ := b i x (List.getElem?_eq_some_iff.1 hx).1 hx
    unfold leadsB at c1
    rw [Bool.and_eq_true, Bool.and_eq_true, bne_iff_ne, List.contains_iff_mem, List.contains_iff_mem] at c1
    exact ⟨c1.1, c1.2.1, c1.2.2, c2⟩
theorem SufOk.succ {Sf : List S.Tx} {k : Nat} (h : SufOk Sf k) {x : S.Tx} (hx : Sf[k]? = some x) (h1 : x ≠ []) (h2 : (Sf.take k).contains x = false) : SufOk Sf (k + 1) := by
  intro i y hi hy
  rcases Nat.lt_or_ge i k with hlt | hge
  · exact h i y hlt hy
  · obtain rfl : i = k := by omega
    rw [hx] at hy; cases hy
    exact ⟨h1, fun hm => by rw [List.contains_iff_mem.2 hm] at h2; cases h2⟩
theorem WayOk.succ {Sf : List S.Tx} {L : List S.Way} {k : Nat} (h : WayOk Sf L k) {x : S.Way} (hx : L[k]? = some x) (h1 : leadsB x Sf = true) (h2 : (L.take k).contains x = false) : WayOk Sf L (k + 1) := by
  intro i y hi hy
  rcases Nat.lt_or_ge i k with hlt | hge
  · exact h i y hlt hy
  · obtain rfl : i = k := by omega
    rw [hx] at hy; cases hy
    exact ⟨h1, fun hm => by rw [List.contains_iff_mem.2 hm] at h2; cases h2⟩
theorem suf_bad {Sf : List S.Tx} {k : Nat} {x : S.Tx} (hx : Sf[k]? = some x) (h : x = [] ∨ (Sf.take k).contains x = true) : ¬ SufOk Sf Sf.length := fun hs => by
  obtain ⟨h1, h2⟩ := hs k x (List.getElem?_eq_some_iff.1 hx).1 hx
  rcases h with h | h
  · exact h1 h
  · exact h2 (List.contains_iff_mem.1 h)
theorem way_bad {Sf : List S.Tx} {L : List S.Way} {k : Nat} {x : S.Way} (hx : L[k]? = some x) (h : leadsB x Sf = false ∨ (L.take k).contains x = true) : ¬ WayOk Sf L L.length := fun hs => by
  obtain ⟨h1, h2⟩ := hs k x (List.getElem?_eq_some_iff.1 hx).1 hx
  rcases h with h | h
  · rw [h] at h1; cases h1
  · exact h2 (List.contains_iff_mem.1 h)

/-- A table in memory. -/
structure Tb (B : Nat) (W : World) (vs vw : Value) (Sf : List S.Tx) (L : List S.Way) : Prop where
  suf : Words B W vs (Sf.map ba)
  way : Wy B W vw L
  lo : B ≤ W.heap.size
  ns : Sf.length ≤ 100000000000000
  nw : L.length ≤ 100000000000000
theorem Tb.below {B : Nat} {W W1 : World} {vs vw : Value} {Sf : List S.Tx} {L : List S.Way} (h : Tb B W vs vw Sf L) (hb : Below B W W1) : Tb B W1 vs vw Sf L :=
  ⟨h.suf.below hb, h.way.below hb, Nat.le_trans h.lo hb.size, h.ns, h.nw⟩
def RightPost (Sf : List S.Tx) (L : List S.Way) (w : World) (e : Ending) (w' : World) : Prop := ∃ b : Bool, e = .returned (.bool b) ∧ (b = true ↔ S.RightP Sf L) ∧ Below w.heap.size w w'

set_option maxRecDepth 20000 in
set_option maxHeartbeats 2000000 in
theorem right_any (vs vw : Value) (Sf : List S.Tx) (L : List S.Way) (B : Nat) (w : World) (hT : Tb B w vs vw Sf L) :
    Calls Try.prog 15 #[.agg #[vs, vw]] w (RightPost Sf L w) := by
  obtain ⟨sa, cs, rfl⟩ := hT.suf.slice
  obtain ⟨aw, cw, rfl⟩ := hT.way.slice
  have HC : Hid (∀ (k : Nat), k ≤ Sf.length → ∀ (u : ByteArray) (W : World), Below w.heap.size w W → Calls Try.prog 18 #[.slice sa k cs, .string u] W fun e w' => e = .returned (.bool ((Sf.take k).contains (bl u))) ∧ w' = W) := fun k hk u W hW => contains_any _ u (Sf.take k) B W ((hT.suf.below (hW.mono hT.lo)).take k hk) (by have := hT.ns; rw [List.length_take]; omega)
  have HL : Hid (∀ (x : S.Way) (W : World), Below w.heap.size w W → Calls Try.prog 19 #[.agg #[.string (ba x.1), .string (ba x.2)], .slice sa Sf.length cs] W fun e w' => e = .returned (.bool (leadsB x Sf)) ∧ Below W.heap.size W w') := fun x W hW => leads_any _ x Sf B W (hT.suf.below (hW.mono hT.lo)) (Nat.le_trans hT.lo hW.size) hT.ns
  have HD : Hid (∀ (k : Nat), k ≤ L.length → ∀ (x : S.Way) (W : World), Below w.heap.size w W → Calls Try.prog 20 #[.slice aw k cw, .agg #[.string (ba x.1), .string (ba x.2)]] W fun e w' => e = .returned (.bool ((L.take k).contains x)) ∧ Below W.heap.size W w') := fun k hk x W hW => containsW_any _ x (L.take k) B W ((hT.way.below (hW.mono hT.lo)).take k hk) (Nat.le_trans hT.lo hW.size) (by have := hT.nw; rw [List.length_take]; omega)
  have hcs := hT.suf.len.2
  have hcw := hT.way.len.2
  obtain ⟨n, hn⟩ : ∃ n, n = Sf.length := ⟨_, rfl⟩
  obtain ⟨m, hm⟩ : ∃ m, m = L.length := ⟨_, rfl⟩
  have hnb : n ≤ 100000000000000 := by rw [hn]; exact hT.ns
  have hmb : m ≤ 100000000000000 := by rw [hm]; exact hT.nw
  have HT : Hid (n = Sf.length ∧ m = L.length ∧ Tb B w (.slice sa n cs) (.slice aw m cw) Sf L) := ⟨hn, hm, by rw [hn, hm]; exact hT⟩
  rw [← hn] at HC HL hcs
  rw [← hm] at HD hcw
  rw [← hn, ← hm]
  clear hn hm hT
  have HB0 : Hid (Below w.heap.size w (w.alloc (.cells #[.slice sa n cs, .slice aw m cw] 30)) ∧ (w.alloc (.cells #[.slice sa n cs, .slice aw m cw] 30)).heap[w.heap.size]? = some (.cells #[.slice sa n cs, .slice aw m cw] 30 (0, 0))) := ⟨below_alloc1 _ _, alloc_b rfl⟩
  by_cases h64 : 64 < n
  · have h64i : (64 : Int) < (n : Int) := by omega
    have HN : Hid (¬ S.RightP Sf L) := fun h => by have := h.1; have := HT.out.1; omega
    clear HC HL HD
    go_enter Try.func15, Try.ntmps15
    go_wp2_with fail
    go_ret
    exact ⟨false, rfl, ⟨fun h => (by cases h), fun h => absurd h HN.out⟩, HB0.out.1⟩
  · have h64i : ¬ (64 : Int) < (n : Int) := by omega
    by_cases h256 : 256 < m
    · have h256i : (256 : Int) < (m : Int) := by omega
      have HN : Hid (¬ S.RightP Sf L) := fun h => by have := h.2.1; have := HT.out.2.1; omega
      clear HC HL HD
      go_enter Try.func15, Try.ntmps15
      go_wp2_with fail
      go_ret
      exact ⟨false, rfl, ⟨fun h => (by cases h), fun h => absurd h HN.out⟩, HB0.out.1⟩
    · have h256i : ¬ (256 : Int) < (m : Int) := by omega
      have HR : Hid (S.RightP Sf L ↔ SufOk Sf n ∧ WayOk Sf L m) := by
        unfold Hid; rw [HT.out.1, HT.out.2.1]; exact right_iff (by rw [← HT.out.1]; omega) (by rw [← HT.out.2.1]; omega)
      go_enter Try.func15, Try.ntmps15
      go_wp2_with fail
      go_loopw [20] (fun vi wr => ∃ k : Nat, k ≤ n ∧ vi = .int .i64 (k : Int) ∧ Hid (Below w.heap.size w wr ∧ wr.heap[w.heap.size]? = some (.cells #[.slice sa n cs, .slice aw m cw] 30 (0, 0))) ∧ Hid (SufOk Sf k)) (fun vi _ => n - (intOf vi).toNat)
      case atStart => exact ⟨0, Nat.zero_le _, rfl, HB0.out, fun i x hi => by omega⟩
      case round =>
        obtain ⟨k, hk, rfl, HX, HS⟩ := hrel
        have z0 := cell_in HX.out.2 0 rfl
        have z1 := cell_in HX.out.2 1 rfl
        by_cases hlt : k < n
        · have hil : (k : Int) < (n : Int) := by omega
          have hkl : k < Sf.length := by rw [← HT.out.1]; exact hlt
          obtain ⟨b, o, rfl, hb, hc⟩ := HT.out.2.2.suf.pick k (by rw [List.length_map]; exact hkl)
          have hc0 := (HX.out.1.cell (p := ⟨b, o + k, none⟩) (Nat.lt_of_lt_of_le hb HT.out.2.2.lo)).trans hc
          obtain ⟨y, hy⟩ : ∃ y, y = (Sf.map ba)[k]'(by rw [List.length_map]; exact hkl) := ⟨_, rfl⟩
          rw [← hy] at hc0
          have hyb : bl y = Sf[k] := by rw [hy, List.getElem_map, bl_ba']
          have HG : Hid (Sf[k]? = some (bl y)) := by unfold Hid; rw [List.getElem?_eq_getElem hkl, hyb]
          clear hc hy hyb
          have HCk := HC.out k hk y
          by_cases h0 : y = E
          · subst h0
            have HN : Hid (¬ S.RightP Sf L) := by
              unfold Hid; rw [HR.out, HT.out.1]; exact fun h => suf_bad HG.out (.inl rfl) h.1
            clear HC HL HD HCk
            go_wp2_with fail
            go_ret
            exact ⟨false, rfl, ⟨fun h => (by cases h), fun h => absurd h HN.out⟩, HX.out.1⟩
          · have h0' : y.toList.isEmpty = false := nonempty (fun e => h0 (bl_inj e))
            cases hcon : (Sf.take k).contains (bl y) with
            | true =>
              rw [hcon] at HCk
              have HCk : Hid (∀ (W : World), Below w.heap.size w W → Calls Try.prog 18 #[.slice (some ⟨b, o, none⟩) k cs, .string y] W fun e w' => e = .returned (.bool true) ∧ w' = W) := HCk
              have HN : Hid (¬ S.RightP Sf L) := by
                unfold Hid; rw [HR.out, HT.out.1]; exact fun h => suf_bad HG.out (.inr hcon) h.1
              clear HC HL HD hcon
              go_wp2_with fail
              refine (HCk.out _ HX.out.1).mono ?_
              rintro e w' ⟨rfl, rfl⟩
              go_wp2_with fail
              go_ret
              exact ⟨false, rfl, ⟨fun h => (by cases h), fun h => absurd h HN.out⟩, HX.out.1⟩
            | false =>
              rw [hcon] at HCk
              have HCk : Hid (∀ (W : World), Below w.heap.size w W → Calls Try.prog 18 #[.slice (some ⟨b, o, none⟩) k cs, .string y] W fun e w' => e = .returned (.bool false) ∧ w' = W) := HCk
              have HS1 : Hid (SufOk Sf (k + 1)) := SufOk.succ HS.out HG.out (fun e => h0 (bl_inj e)) hcon
              clear HC HL HD hcon
              go_wp2_with fail
              refine (HCk.out _ HX.out.1).mono ?_
              rintro e w' ⟨rfl, rfl⟩
              go_wp2_with fail
              go_roundw
              case rel => exact ⟨k + 1, by omega, by go_num, HX, HS1⟩
              case measure => simp [intOf]; omega
        · have hkn : k = n := by omega
          subst hkn
          have HSall : Hid (SufOk Sf k) := HS
          clear HS HC
          go_wp2_with fail
          go_loopw [39] (fun vi wr => ∃ j : Nat, j ≤ m ∧ vi = .int .i64 (j : Int) ∧ Hid (Below w.heap.size w wr ∧ wr.heap[w.heap.size]? = some (.cells #[.slice sa k cs, .slice aw m cw] 30 (0, 0))) ∧ Hid (WayOk Sf L j)) (fun vi _ => m - (intOf vi).toNat)
          case atStart => exact ⟨0, Nat.zero_le _, rfl, HX.out, fun i x hi => by omega⟩
          case round =>
            obtain ⟨j, hj, rfl, HY, HV⟩ := hrel
            by_cases hjt : j < m
            · have hji : (j : Int) < (m : Int) := by omega
              have hjl : j < L.length := by rw [← HT.out.2.1]; exact hjt
              obtain ⟨b, o, rfl, hb, hc0, hc1⟩ := HT.out.2.2.way.pick (List.getElem?_eq_getElem hjl)
              have hbw := Nat.lt_of_lt_of_le hb HT.out.2.2.lo
              have d0 := (HY.out.1.cell (p := ⟨b, o + j * 2, none⟩) hbw).trans hc0
              have d1 := (HY.out.1.cell (p := ⟨b, o + j * 2 + 1, none⟩) hbw).trans hc1
              have HG : Hid (L[j]? = some L[j]) := List.getElem?_eq_getElem hjl
              have HLk := HL.out L[j]
              have HDk := HD.out j hj L[j]
              obtain ⟨x, hx⟩ : ∃ x, x = L[j] := ⟨_, rfl⟩
              rw [← hx] at d0 d1 HG HLk HDk
              obtain ⟨y1, hy1⟩ : ∃ y, y = ba x.1 := ⟨_, rfl⟩
              obtain ⟨y2, hy2⟩ : ∃ y, y = ba x.2 := ⟨_, rfl⟩
              rw [← hy1] at d0 HLk HDk
              rw [← hy2] at d1 HLk HDk
              have HZ : Hid (wr.heap.size = wr.heap.size) := rfl
              clear hc0 hc1 hx hy1 hy2 hb hbw HZ
              obtain ⟨W1, hW1⟩ : ∃ W1, W1 = wr.alloc (.cells #[.string y1, .string y2] 48) := ⟨_, rfl⟩
              have HW1 : Hid (Below w.heap.size w W1 ∧ W1.heap[w.heap.size]? = some (.cells #[.slice sa k cs, .slice (some ⟨b, o, none⟩) m cw] 30 (0, 0)) ∧ W1.heap[wr.heap.size]? = some (.cells #[.string y1, .string y2] 48 (0, 0)) ∧ Below W1.heap.size W1 W1 ∧ wr.heap.size < W1.heap.size ∧ w.heap.size < wr.heap.size) := by
                have h1 : Below wr.heap.size wr W1 := by rw [hW1]; exact below_alloc1 _ _
                have h2 : w.heap.size < wr.heap.size := (Array.getElem?_eq_some_iff.1 HY.out.2).1
                refine ⟨below_trans HY.out.1 h1 HY.out.1.size, by rw [h1.block _ h2]; exact HY.out.2, by rw [hW1]; exact alloc_b rfl, Below.refl _ _, by rw [hW1]; simp, h2⟩
              obtain ⟨x6, hx6⟩ : ∃ x6, x6 = wr.heap.size := ⟨_, rfl⟩
              rw [← hx6] at HW1
              have HK : Hid (∀ W, Below W1.heap.size W1 W → W.cell? ⟨w.heap.size, 0, none⟩ = some (.slice sa k cs) ∧ W.cell? ⟨w.heap.size, 1, none⟩ = some (.slice (some ⟨b, o, none⟩) m cw) ∧ W.cell? ⟨x6, 0, none⟩ = some (.string y1) ∧ W.cell? ⟨x6, 1, none⟩ = some (.string y2)) := by
                intro W hW
                have h1 : W.heap[w.heap.size]? = _ := (hW.block _ (by have := HW1.out.2.2.2.2; omega)).trans HW1.out.2.1
                have h2 : W.heap[x6]? = _ := (hW.block _ HW1.out.2.2.2.2.1).trans HW1.out.2.2.1
                exact ⟨cell_in h1 0 rfl, cell_in h1 1 rfl, cell_in h2 0 rfl, cell_in h2 1 rfl⟩
              cases hle : leadsB x Sf with
              | false =>
                rw [hle] at HLk
                have HLk : Hid (∀ W, Below W1.heap.size W1 W → Calls Try.prog 19 #[.agg #[.string y1, .string y2], .slice sa k cs] W fun e w' => e = .returned (.bool false) ∧ Below W1.heap.size W1 w') := fun W hW =>
                  (HLk W (below_trans HW1.out.1 hW HW1.out.1.size)).mono fun e w' h => ⟨h.1, below_trans hW h.2 hW.size⟩
                have HN : Hid (¬ S.RightP Sf L) := by
                  unfold Hid; rw [HR.out, HT.out.2.1]; exact fun h => way_bad HG.out (.inl hle) h.2
                clear hle HDk HD HL
                go_upto_region 12 with fail
                rw [← hW1, ← hx6]
                clear hW1 hx6 d0 d1
                obtain ⟨c0, c1, c2, c3⟩ := HK.out _ (Below.refl _ _)
                first
                  | go_region_with (first | (go_at_call 19; refine (HLk.out _ (Below.refl _ _)).mono ?_; rintro e w1 ⟨rfl, hb1⟩) | (go_at_call 19; refine (HLk.out _ (below_drew (Below.refl _ _))).mono ?_; rintro e w1 ⟨rfl, hb1⟩))
                  | fail
                all_goals
                  go_wp2_with fail
                  go_ret
                  exact ⟨false, rfl, ⟨fun h => (by cases h), fun h => absurd h HN.out⟩, below_trans HW1.out.1 (by first | exact hb1 | exact below_drew hb1) HW1.out.1.size⟩
              | true =>
                rw [hle] at HLk
                have HLk : Hid (∀ W, Below W1.heap.size W1 W → Calls Try.prog 19 #[.agg #[.string y1, .string y2], .slice sa k cs] W fun e w' => e = .returned (.bool true) ∧ Below W1.heap.size W1 w') := fun W hW =>
                  (HLk W (below_trans HW1.out.1 hW HW1.out.1.size)).mono fun e w' h => ⟨h.1, below_trans hW h.2 hW.size⟩
                obtain ⟨z, hz⟩ : ∃ z, z = (L.take j).contains x := ⟨_, rfl⟩
                rw [← hz] at HDk
                have HDk : Hid (∀ W, Below W1.heap.size W1 W → Calls Try.prog 20 #[.slice (some ⟨b, o, none⟩) j cw, .agg #[.string y1, .string y2]] W fun e w' => e = .returned (.bool z) ∧ Below W1.heap.size W1 w') := fun W hW =>
                  (HDk W (below_trans HW1.out.1 hW HW1.out.1.size)).mono fun e w' h => ⟨h.1, below_trans hW h.2 hW.size⟩
                have HE : Hid ((z = true → ¬ S.RightP Sf L) ∧ (z = false → WayOk Sf L (j + 1))) := by
                  refine ⟨fun h => ?_, fun h => HV.out.succ HG.out hle (by rw [← hz, h])⟩
                  rw [HR.out, HT.out.2.1]
                  exact fun h2 => way_bad HG.out (.inr (by rw [← hz, h])) h2.2
                have hjc : (j : Int) ≤ (cw : Int) := by omega
                have hjc2 : j ≤ cw := by omega
                clear hle HD HL hz
                go_upto_region 12 with fail
                rw [← hW1, ← hx6]
                clear hW1 hx6 d0 d1
                obtain ⟨c0, c1, c2, c3⟩ := HK.out _ (Below.refl _ _)
                go_region_held3 (fun W => W.cell? ⟨w.heap.size, 0, none⟩ = some (.slice sa k cs) ∧ W.cell? ⟨w.heap.size, 1, none⟩ = some (.slice (some ⟨b, o, none⟩) m cw) ∧ W.cell? ⟨x6, 0, none⟩ = some (.string y1) ∧ W.cell? ⟨x6, 1, none⟩ = some (.string y2)) (first | exact HK.out _ (Below.refl _ _) | exact HK.out _ (below_drew (Below.refl _ _)) | exact HK.out _ hb1 | exact HK.out _ (below_drew hb1) | exact HK.out _ hb2 | exact HK.out _ (below_drew hb2)) (first | (go_at_call 19; refine (HLk.out _ (Below.refl _ _)).mono ?_; rintro e w1 ⟨rfl, hb1⟩) | (go_at_call 19; refine (HLk.out _ (below_drew (Below.refl _ _))).mono ?_; rintro e w1 ⟨rfl, hb1⟩) | (go_at_call 20; refine (HDk.out _ hb1).mono ?_; rintro e w2 ⟨rfl, hb2⟩))
                all_goals
                  cases z with
                  | true =>
                    go_wp2_with fail
                    go_ret
                    exact ⟨false, rfl, ⟨fun h => (by cases h), fun h => absurd h (HE.out.1 (by first | rfl | trivial))⟩, below_trans HW1.out.1 (by first | exact hb2 | exact below_drew hb2) HW1.out.1.size⟩
                  | false =>
                    have HX2 : Hid (Below w.heap.size w w2 ∧ w2.heap[w.heap.size]? = some (.cells #[.slice sa k cs, .slice (some ⟨b, o, none⟩) m cw] 30 (0, 0))) := ⟨below_trans HW1.out.1 hb2 HW1.out.1.size, (hb2.block _ (by have := HW1.out.2.2.2.2; omega)).trans HW1.out.2.1⟩
                    go_wp2_with fail
                    go_roundw
                    case rel => exact ⟨j + 1, by omega, by go_num, HX2, HE.out.2 (by first | rfl | trivial)⟩
                    case measure => simp [intOf]; omega
            · have hjm : j = m := by omega
              subst hjm
              have HRT : Hid (S.RightP Sf L) := HR.out.2 ⟨HSall.out, HV.out⟩
              clear HL HD
              go_wp2_with fail
              go_ret
              exact ⟨true, rfl, ⟨fun _ => HRT.out, fun _ => rfl⟩, HY.out.1⟩
end Go.Proofs.Ytfcoihklihkngaa
