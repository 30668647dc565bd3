/-
  LinePlain: lines of letters alone are read as they stand.
-/
import Derived.Test.YtefhpoklehmlhaaDoorL17
namespace Go.Proofs.YtefhpoklehmlhaaDoor
open Go.RowKit Go.Shelf

set_option maxRecDepth 20000 in
set_option maxHeartbeats 2000000 in
theorem plain_law (aw : Option Addr) (n cw : Nat) (ws : List ByteArray) (ab : Option Addr) (m cb : Nat) (bs : List Bool) (w : World) (hn : n ≤ 9223372036854775807) (hm' : m ≤ 9223372036854775807) (hz : ∀ x ∈ ws, x.size ≤ 9223372036854775807)
    (hW : Words w.heap.size w (.slice aw n cw) ws) (hB : Marks w.heap.size w (.slice ab m cb) bs) (hm : Mx w) :
    Calls Tryd.prog 6 #[.slice aw n cw, .slice ab m cb] w (TruePost w) := by
  have hwl : n = ws.length ∧ n ≤ cw := by
    obtain ⟨a', n', c', h1, h2, h4, _⟩ := hW
    simp only [Value.slice.injEq] at h1
    exact ⟨h1.2.1.trans h2, by omega⟩
  have hbl : m = bs.length ∧ m ≤ cb := by
    obtain ⟨a', n', c', h1, h2, h4, _⟩ := hB
    simp only [Value.slice.injEq] at h1
    exact ⟨h1.2.1.trans h2, by omega⟩
  have HW : Hid (Words w.heap.size w (.slice aw n cw) ws ∧ Marks w.heap.size w (.slice ab m cb) bs ∧ n = ws.length ∧ m = bs.length ∧ (∀ x ∈ ws, x.size ≤ 9223372036854775807) ∧ Mx w) := ⟨hW, hB, hwl.1, hbl.1, hz, hm⟩
  have HA : Hid (∀ W, Below w.heap.size w W → Calls Tryd.prog 10 #[] W fun e w' => e = .returned (.bool true) ∧ Below W.heap.size W w') := fun W hW => alive_any W (hm.below hW hm.pos)
  have hcw := hwl.2
  have hcb := hbl.2
  clear hW hB hz hm hwl hbl
  go_enter Tryd.func6, Tryd.ntmps6
  go_wp2
  go_loopw [5, 16] (fun vs vi wr => ∃ k : Nat, k ≤ n ∧ k ≤ 101 ∧ vi = .int .i64 (k : Int) ∧ ∃ sx : ByteArray, vs = .string sx ∧ sx.size ≤ 52 * k ∧ w = wr ∧ Hid (bl sx = Ln.writeT ((lp bs 0 ws).take k) ∧ ∀ j y, j < k → ws[j]? = some y → Letters (bl y) ∧ bl y ≠ [] ∧ y.size ≤ 50)) (fun _ vi _ => n - (intOf vi).toNat)
  case atStart => exact ⟨0, Nat.zero_le _, by omega, rfl, ⟨#[]⟩, rfl, Nat.le_refl _, rfl, by simp [Ln.writeT, bl], fun j y hj => by omega⟩
  case round =>
    obtain ⟨k, hk, hk1, rfl, sx, rfl, hsx, rfl, HK⟩ := hrel
    by_cases hlt : k < n
    · have hil : (k : Int) < (n : Int) := by omega
      have hkl : k < ws.length := by rw [← HW.out.2.2.1]; exact hlt
      obtain ⟨x, hx⟩ : ∃ x, ws[k]? = some x := ⟨_, List.getElem?_eq_getElem hkl⟩
      obtain ⟨b, o, rfl, hbB, d0⟩ := HW.out.1.pick hx
      have hxz := HW.out.2.2.2.2.1 x (List.mem_of_getElem? hx)
      have HX : Hid (ws[k]? = some x ∧ b < w.heap.size) := ⟨hx, hbB⟩
      clear hx hkl hbB
      go_wp2_with fail
      go_loopw [8] (fun vi wr => ∃ j : Nat, j ≤ x.size ∧ vi = .int .i64 (j : Int) ∧ w = wr ∧ Hid (∀ d ∈ (bl x).take j, 97 ≤ d.toNat ∧ d.toNat ≤ 122)) (fun vi _ => x.size - (intOf vi).toNat)
      case atStart => exact ⟨0, Nat.zero_le _, rfl, rfl, by simp [Hid]⟩
      case round =>
        obtain ⟨j, hj, rfl, rfl, HJ⟩ := hrel
        by_cases hjl : j < x.size
        · have hji : (j : Int) < (x.size : Int) := by omega
          have hts := take_snoc x j hjl
          obtain ⟨dn, hdn⟩ : ∃ dn : Int, dn = (x[j].toNat : Int) := ⟨_, rfl⟩
          have hgj : (x[j].toNat : Int) = dn := hdn.symm
          by_cases h97 : dn < 97
          · clear hdn hts
            go_wp2_with fail
            refine (HA.out _ (Below.refl _ _)).mono ?_
            rintro e w2 ⟨rfl, h2⟩
            have H2 : Hid (Below w.heap.size w w2) := h2
            clear h2
            go_wp2_with fail
            go_ret
            exact ⟨rfl, H2⟩
          · by_cases h122 : 122 < dn
            · clear hdn hts
              go_wp2_with fail
              refine (HA.out _ (Below.refl _ _)).mono ?_
              rintro e w2 ⟨rfl, h2⟩
              have H2 : Hid (Below w.heap.size w w2) := h2
              clear h2
              go_wp2_with fail
              go_ret
              exact ⟨rfl, H2⟩
            · have HJ1 : Hid (∀ d ∈ (bl x).take (j + 1), 97 ≤ d.toNat ∧ d.toNat ≤ 122) := by
                intro d hdm
                rw [hts] at hdm
                rcases List.mem_append.1 hdm with h | h
                · exact HJ.out d h
                · rw [List.mem_singleton.1 h]; omega
              clear hdn hts
              go_wp2_with fail
              go_roundw
              case rel => exact ⟨j + 1, by omega, by go_num, trivial, HJ1⟩
              case measure => simp [intOf]; omega
        · have hje : ¬ (j : Int) < (x.size : Int) := by omega
          have HLX : Hid (Letters (bl x)) := by
            have h := HJ.out
            rw [List.take_of_length_le (by rw [bl_length]; omega)] at h
            exact h
          by_cases hxe : bl x = []
          · have hx0 : x = ⟨#[]⟩ := bl_inj hxe
            subst hx0
            go_wp2_with fail
            refine (HA.out _ (Below.refl _ _)).mono ?_
            rintro e w2 ⟨rfl, h2⟩
            have H2 : Hid (Below w.heap.size w w2) := h2
            clear h2
            go_wp2_with fail
            go_ret
            exact ⟨rfl, H2⟩
          · have t1 : ¬ x.toList = [] := by rw [Lib.toList_data]; exact hxe
            have t2 : x.toList.isEmpty = false := nonempty hxe
            by_cases h50 : 50 < x.size
            · have h50i : (50 : Int) < (x.size : Int) := by omega
              go_wp2_with fail
              refine (HA.out _ (Below.refl _ _)).mono ?_
              rintro e w2 ⟨rfl, h2⟩
              have H2 : Hid (Below w.heap.size w w2) := h2
              clear h2
              go_wp2_with fail
              go_ret
              exact ⟨rfl, H2⟩
            · have h50i : ¬ (50 : Int) < (x.size : Int) := by omega
              have HGX : Hid (Letters (bl x) ∧ bl x ≠ [] ∧ x.size ≤ 50) := ⟨HLX.out, hxe, by omega⟩
              have hx50 : x.size ≤ 50 := by omega
              by_cases h100 : 100 < k
              · have h100i : (100 : Int) < (k : Int) := by omega
                go_wp2_with fail
                refine (HA.out _ (Below.refl _ _)).mono ?_
                rintro e w2 ⟨rfl, h2⟩
                have H2 : Hid (Below w.heap.size w w2) := h2
                clear h2
                go_wp2_with fail
                go_ret
                exact ⟨rfl, H2⟩
              · have h100i : ¬ (100 : Int) < (k : Int) := by omega
                have hsx2 : sx.size ≤ 5200 := by omega
                by_cases hkm : k < m
                · have hkmi : (k : Int) < (m : Int) := by omega
                  have hkb : k < bs.length := by rw [← HW.out.2.2.2.1]; exact hkm
                  obtain ⟨mk, hmk⟩ : ∃ mk, bs[k]? = some mk := ⟨_, List.getElem?_eq_getElem hkb⟩
                  obtain ⟨b2, o2, rfl, hbB2, f0⟩ := HW.out.2.1.pick hmk
                  have HMK : Hid (bs[k]?.getD false = mk) := by unfold Hid; rw [hmk]; rfl
                  clear hmk hkb hxe
                  cases mk with
                  | true =>
                    have hsz2 : (sx ++ (⟨#[9]⟩ : ByteArray) ++ (x ++ (⟨#[10]⟩ : ByteArray))).size ≤ 52 * (k + 1) := by
                      simp only [ByteArray.size_append]
                      show sx.size + 1 + (x.size + 1) ≤ _
                      omega
                    have HK2 : Hid (bl (sx ++ (⟨#[9]⟩ : ByteArray) ++ (x ++ (⟨#[10]⟩ : ByteArray))) = Ln.writeT ((lp bs 0 ws).take (k + 1)) ∧ ∀ j y, j < k + 1 → ws[j]? = some y → Letters (bl y) ∧ bl y ≠ [] ∧ y.size ≤ 50) := by
                      refine ⟨?_, fun j y hj hy => ?_⟩
                      · rw [lp_take bs ws HX.out.1, Ln.write_snoc, ← HK.out.1]
                        have e1 : bs[0 + k]?.getD false = true := by rw [Nat.zero_add]; exact HMK.out
                        simp only [bl_app, e1, Ln.rawOf]
                        rw [if_pos trivial]; simp [bl]
                      · by_cases hjk : j < k
                        · exact HK.out.2 j y hjk hy
                        · have : j = k := by omega
                          subst this
                          rw [HX.out.1] at hy
                          rw [← Option.some.inj hy]
                          exact HGX.out
                    go_wp2_with fail
                    go_roundw
                    case rel => exact ⟨k + 1, by omega, by omega, by go_num, _, rfl, hsz2, trivial, HK2⟩
                    case measure => simp [intOf]; omega
                  | false =>
                    have hsz2 : (sx ++ (x ++ (⟨#[10]⟩ : ByteArray))).size ≤ 52 * (k + 1) := by
                      simp only [ByteArray.size_append]
                      show sx.size + (x.size + 1) ≤ _
                      omega
                    have HK2 : Hid (bl (sx ++ (x ++ (⟨#[10]⟩ : ByteArray))) = Ln.writeT ((lp bs 0 ws).take (k + 1)) ∧ ∀ j y, j < k + 1 → ws[j]? = some y → Letters (bl y) ∧ bl y ≠ [] ∧ y.size ≤ 50) := by
                      refine ⟨?_, fun j y hj hy => ?_⟩
                      · rw [lp_take bs ws HX.out.1, Ln.write_snoc, ← HK.out.1]
                        have e1 : bs[0 + k]?.getD false = false := by rw [Nat.zero_add]; exact HMK.out
                        simp only [bl_app, e1, Ln.rawOf]
                        rw [if_neg (by simp), letters_hash HGX.out.1]; simp [bl]
                      · by_cases hjk : j < k
                        · exact HK.out.2 j y hjk hy
                        · have : j = k := by omega
                          subst this
                          rw [HX.out.1] at hy
                          rw [← Option.some.inj hy]
                          exact HGX.out
                    go_wp2_with fail
                    go_roundw
                    case rel => exact ⟨k + 1, by omega, by omega, by go_num, _, rfl, hsz2, trivial, HK2⟩
                    case measure => simp [intOf]; omega
                · have hkmi : ¬ (k : Int) < (m : Int) := by omega
                  have HMK : Hid (bs[k]?.getD false = false) := by
                    unfold Hid; rw [List.getElem?_eq_none (by have := HW.out.2.2.2.1; omega)]; rfl
                  clear hxe
                  have hsz2 : (sx ++ (x ++ (⟨#[10]⟩ : ByteArray))).size ≤ 52 * (k + 1) := by
                    simp only [ByteArray.size_append]
                    show sx.size + (x.size + 1) ≤ _
                    omega
                  have HK2 : Hid (bl (sx ++ (x ++ (⟨#[10]⟩ : ByteArray))) = Ln.writeT ((lp bs 0 ws).take (k + 1)) ∧ ∀ j y, j < k + 1 → ws[j]? = some y → Letters (bl y) ∧ bl y ≠ [] ∧ y.size ≤ 50) := by
                    refine ⟨?_, fun j y hj hy => ?_⟩
                    · rw [lp_take bs ws HX.out.1, Ln.write_snoc, ← HK.out.1]
                      have e1 : bs[0 + k]?.getD false = false := by rw [Nat.zero_add]; exact HMK.out
                      simp only [bl_app, e1, Ln.rawOf]
                      rw [if_neg (by simp), letters_hash HGX.out.1]; simp [bl]
                    · by_cases hjk : j < k
                      · exact HK.out.2 j y hjk hy
                      · have : j = k := by omega
                        subst this
                        rw [HX.out.1] at hy
                        rw [← Option.some.inj hy]
                        exact HGX.out
                  go_wp2_with fail
                  go_roundw
                  case rel => exact ⟨k + 1, by omega, by omega, by go_num, _, rfl, hsz2, trivial, HK2⟩
                  case measure => simp [intOf]; omega
    · have hke : ¬ (k : Int) < (n : Int) := by omega
      obtain rfl : k = n := by omega
      obtain ⟨L, hL⟩ : ∃ L, L = lp bs 0 ws := ⟨_, rfl⟩
      have hLl : L.length = k := by rw [hL, lp_len, ← HW.out.2.2.1]
      have hsw : bl sx = Ln.writeT L := by rw [HK.out.1, hL, List.take_of_length_le (by rw [lp_len, ← HW.out.2.2.1]; exact Nat.le_refl _)]
      have HLG : Hid (∀ (i : Nat) y, ws[i]? = some y → L[i]? = some ⟨bl y, 0 + i + 1, bs[0 + i]?.getD false⟩) := fun i y hy => by rw [hL]; exact lp_get bs ws 0 i y hy
      have hgood : ∀ x ∈ L, Ln.Good x := fun x hx => by
        obtain ⟨i, hi⟩ := List.mem_iff_getElem?.1 hx
        have hil : i < ws.length := by have := (List.getElem?_eq_some_iff.1 hi).1; rw [hLl, HW.out.2.2.1] at this; exact this
        have hy := List.getElem?_eq_getElem hil
        have h1 := HLG.out i _ hy
        rw [hi] at h1
        have h2 := HK.out.2 i _ (by rw [HW.out.2.2.1]; exact hil) hy
        rw [Option.some.inj h1]
        exact letters_good h2.1 h2.2.1
      have hrd : Ln.readL (bl sx) = ⟨Ln.num 0 L, 0, 0⟩ := by
        rw [hsw]
        exact Ln.read_write L hgood (by omega) (by rw [← hsw, bl_length]; omega)
      have HRB : Hid (Calls Tryd.prog 9 #[.string sx] w (GoodPost (Ln.num 0 L) w)) := read_goodL sx w (by omega) HW.out.2.2.2.2.2 hrd
      have hnl : (Ln.num 0 L).length = k := by rw [Ln.num_len]; exact hLl
      have HWR : Hid (∀ W v, Below w.heap.size w W → LZ W.heap.size W v ((Ln.num 0 L).map lz) → Calls Tryd.prog 12 #[v] W fun e w' => e = .returned (.string sx) ∧ Below W.heap.size W w') := fun W v hW hv => by
        have he : writeZ ((Ln.num 0 L).map lz) = bl sx := by rw [writeZ_lz, write_num, hsw]
        have := write_any v ((Ln.num 0 L).map lz) W (by rw [List.length_map, hnl]; omega) (by rw [he, bl_length]; omega) (HW.out.2.2.2.2.2.below hW HW.out.2.2.2.2.2.pos) hv
        rw [he, ba_bl] at this
        exact this
      have hne0 := neqFno
      clear hL hLl hsw hgood hrd HK
      go_wp2_with fail
      refine HRB.out.mono ?_
      rintro e w3 ⟨a3, c3, rfl, hz3, hc3, h3⟩
      rw [hnl] at hz3 hc3 ⊢
      have H3 : Hid (Below w.heap.size w (w3.alloc (.cells #[.int .i64 0, .int .i64 0] 25)) ∧ LZ (w3.alloc (.cells #[.int .i64 0, .int .i64 0] 25)).heap.size (w3.alloc (.cells #[.int .i64 0, .int .i64 0] 25)) (.slice a3 k c3) ((Ln.num 0 L).map lz)) := by
        have hb4 : Below w3.heap.size w3 (w3.alloc (.cells #[.int .i64 0, .int .i64 0] 25)) := (Below.refl _ _).alloc (Nat.le_refl _) _
        exact ⟨below_trans h3 hb4 h3.size, (hz3.below hb4).mono hb4.size⟩
      clear h3 hz3 HRB
      go_wp2_with fail
      go_loopw [83] (fun vi wr => ∃ i : Nat, i ≤ k ∧ vi = .int .i64 (i : Int) ∧ Hid (Below w.heap.size w wr ∧ LZ wr.heap.size wr (.slice a3 k c3) ((Ln.num 0 L).map lz))) (fun vi _ => k - (intOf vi).toNat)
      case atStart => exact ⟨0, Nat.zero_le _, rfl, H3⟩
      case round =>
        clear H3
        obtain ⟨i, hi, rfl, H4⟩ := hrel
        by_cases hil : i < k
        · have hii : (i : Int) < (k : Int) := by omega
          have hkl : i < ws.length := by rw [← HW.out.2.2.1]; exact hil
          obtain ⟨x, hx⟩ : ∃ x, ws[i]? = some x := ⟨_, List.getElem?_eq_getElem hkl⟩
          obtain ⟨b, o, rfl, hbB, f0⟩ := HW.out.1.pick hx
          have f0' : wr.cell? ⟨b, o + i, none⟩ = some (.string x) := by rw [H4.out.1.cell (p := ⟨b, o + i, none⟩) hbB]; exact f0
          have hx3 := Ln.num_get L 0 i _ (HLG.out i x hx)
          obtain ⟨b', o', rfl, hbB', d0, d1, d2⟩ := H4.out.2.pick (k := i) (x := lz ⟨bl x, 0 + i + 1, bs[0 + i]?.getD false⟩) (by rw [List.getElem?_map, hx3]; rfl)
          simp only [lz, ba_bl, Nat.zero_add] at d0 d1 d2
          have hd1 : ((i + 1 : Nat) : Int) = (i : Int) + 1 := by omega
          rw [hd1] at d1
          clear f0 hx hx3 hd1 hbB' hkl
          by_cases him : i < m
          · have himi : (i : Int) < (m : Int) := by omega
            have himd : decide ((i : Int) < (m : Int)) = true := by simpa using himi
            have hkb : i < bs.length := by rw [← HW.out.2.2.2.1]; exact him
            obtain ⟨mk, hmk⟩ : ∃ mk, bs[i]? = some mk := ⟨_, List.getElem?_eq_getElem hkb⟩
            obtain ⟨b2, o2, rfl, hbB2, q0⟩ := HW.out.2.1.pick hmk
            have q0' : wr.cell? ⟨b2, o2 + i, none⟩ = some (.bool mk) := by rw [H4.out.1.cell (p := ⟨b2, o2 + i, none⟩) hbB2]; exact q0
            rw [hmk] at d2
            simp only [Option.getD_some] at d2
            clear hmk hkb q0 hbB2 hbB
            cases mk with
            | true =>
              go_wp2_with fail
              go_quiet (fail)
              go_wp2_with fail
              go_roundw
              case rel => exact ⟨i + 1, by omega, by go_num, below_drewN H4.out.1 _, (H4.out.2.below (below_drewN (Below.refl _ _) _)).mono (Nat.le_refl _)⟩
              case measure => simp [intOf]; omega
            | false =>
              go_wp2_with fail
              go_quiet (fail)
              go_wp2_with fail
              go_roundw
              case rel => exact ⟨i + 1, by omega, by go_num, below_drewN H4.out.1 _, (H4.out.2.below (below_drewN (Below.refl _ _) _)).mono (Nat.le_refl _)⟩
              case measure => simp [intOf]; omega
          · have himi : ¬ (i : Int) < (m : Int) := by omega
            have himd : decide ((i : Int) < (m : Int)) = false := by simpa using himi
            rw [List.getElem?_eq_none (by have := HW.out.2.2.2.1; omega)] at d2
            simp only [Option.getD_none] at d2
            go_wp2_with fail
            go_quiet (fail)
            go_wp2_with fail
            go_roundw
            case rel => exact ⟨i + 1, by omega, by go_num, below_drewN H4.out.1 _, (H4.out.2.below (below_drewN (Below.refl _ _) _)).mono (Nat.le_refl _)⟩
            case measure => simp [intOf]; omega
        · have hke2 : ¬ (i : Int) < (k : Int) := by omega
          go_wp2_with fail
          refine (HWR.out _ _ H4.out.1 H4.out.2).mono ?_
          rintro e w5 ⟨rfl, h5⟩
          have H5 : Hid (Below w.heap.size w w5) := below_trans H4.out.1 h5 H4.out.1.size
          clear h5
          go_wp2_with fail
          refine (HA.out _ H5.out).mono ?_
          rintro e w6 ⟨rfl, h6⟩
          have H6 : Hid (Below w.heap.size w w6) := below_trans H5.out h6 H5.out.size
          clear h6
          go_wp2_with fail
          go_ret
          exact ⟨rfl, H6⟩
end Go.Proofs.YtefhpoklehmlhaaDoor
