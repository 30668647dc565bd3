/-
  LineAgain.
-/
import Derived.Test.YtefhpoklehmlhaaDoorL15
import Derived.Test.YtefhpoklehmlhaaDoorL13
namespace Go.Proofs.YtefhpoklehmlhaaDoor
open Go.RowKit Go.Shelf

/-- What stands in memory while the lines are looked at. -/
structure Ag (w : World) (L : List Ln.Ln) (v : Value) (k : Nat) (W : World) : Prop where
  bel : Below w.heap.size w W
  z : LZ W.heap.size W v (L.map lz)
  good : ∀ x ∈ L.take k, Ln.Good x
theorem Ag.below {w : World} {L : List Ln.Ln} {v : Value} {k : Nat} {W W' : World} (h : Ag w L v k W) (hb : Below W.heap.size W W') : Ag w L v k W' :=
  ⟨below_trans h.bel hb h.bel.size, (h.z.below hb).mono hb.size, h.good⟩
theorem good_of {x : Ln.Ln} (h : Ln.Fine x) {l : List UInt8} {c : UInt8} (hl : x.text = l ++ [c]) (hc : c ≠ 92) (h10 : ∀ d ∈ x.text, d ≠ 10) (hs : x.cmd = false → Ln.strk x.text = false) (hh : x.cmd = false → x.text.head? ≠ some 9) : Ln.Good x :=
  ⟨h.bare, ⟨l, c, hl, hc, fun hx => by
    obtain ⟨t, ht⟩ := h.trim hx
    exact Ln.trimR_last (ht.symm.trans hl)⟩, h10, hs, hh⟩

set_option maxRecDepth 20000 in
set_option maxHeartbeats 2000000 in
theorem again_law (s : ByteArray) (w : World) (hs : s.size ≤ 9223372036854775807) (hm : Mx w) :
    Calls Tryd.prog 3 #[.string s] w (TruePost w) := by
  have HR : Hid (Calls Tryd.prog 9 #[.string s] w (SplitPost (Ln.readL (bl s)) w)) := read_split s w hs hm
  have HA : Hid (∀ W, Below w.heap.size w W → Calls Tryd.prog 10 #[] W fun e w' => e = .returned (.bool true) ∧ Below W.heap.size W w') := fun W hW => alive_any W (hm.below hW hm.pos)
  have HF : Hid (∀ _ : (Ln.readL (bl s)).why = 0, Fit (Ln.readL (bl s)).lines ∧ (Ln.writeT (Ln.readL (bl s)).lines).length ≤ 150000) := fun h => ⟨read_fit h, read_write_len h⟩
  have HM : Hid (Mx w) := hm
  obtain ⟨rd, hrd⟩ : ∃ rd, rd = Ln.readL (bl s) := ⟨_, rfl⟩
  rw [← hrd] at HR HF
  clear hrd hm
  go_enter Tryd.func3, Tryd.ntmps3
  go_wp2_with fail
  refine HR.out.mono ?_
  rintro e w1 ⟨hb, ⟨hw, a, c, rfl⟩ | ⟨hw, a, c, rfl, hz, hc, hl⟩⟩
  · have HB : Hid (Below w.heap.size w w1) := hb
    have hne := neqFyes (n := rd.at_) hw
    clear hb hw
    go_wp2_with fail
    refine (HA.out _ (HB.out.alloc HB.out.size _)).mono ?_
    rintro e w2 ⟨rfl, h2⟩
    have H2 : Hid (Below w.heap.size w w2) := below_trans (HB.out.alloc HB.out.size _) h2 (Nat.le_trans HB.out.size (by simp))
    clear h2
    go_wp2_with fail
    go_ret
    exact ⟨rfl, H2⟩
  · have HFI : Hid (Fit rd.lines ∧ (Ln.writeT rd.lines).length ≤ 150000) := HF.out hw
    obtain ⟨L, hL⟩ : ∃ L, L = rd.lines := ⟨_, rfl⟩
    rw [← hL] at hz hc hl HFI ⊢
    obtain ⟨n, hn⟩ : ∃ n, n = L.length := ⟨_, rfl⟩
    rw [← hn] at hz hc hl ⊢
    have HN : Hid (n = L.length) := hn
    have HZ : Hid (Ag w L (.slice a n c) 0 (w1.alloc (.cells #[.int .i64 0, .int .i64 0] 25))) := by
      refine Ag.below (W := w1) ⟨hb, hz, by simp⟩ ((Below.refl _ _).alloc (Nat.le_refl _) _)
    have hne := neqFno
    clear hb hw hz hn HF hL HR
    go_wp2_with fail
    go_loopw [27] (fun vi wr => ∃ k : Nat, k ≤ n ∧ vi = .int .i64 (k : Int) ∧ Hid (Ag w L (.slice a n c) k wr)) (fun vi _ => n - (intOf vi).toNat)
    case atStart => exact ⟨0, Nat.zero_le _, rfl, HZ⟩
    case round =>
      clear HZ
      obtain ⟨k, hk, rfl, HI⟩ := hrel
      by_cases hlt : k < n
      · have hil : (k : Int) < (n : Int) := by omega
        have hkl : k < L.length := by rw [← HN.out]; exact hlt
        obtain ⟨x, hx⟩ : ∃ x, L[k]? = some x := ⟨_, List.getElem?_eq_getElem hkl⟩
        obtain ⟨b, o, rfl, hbB, d0, d1, d2⟩ := HI.out.z.pick (k := k) (x := lz x) (by rw [List.getElem?_map, hx]; rfl)
        simp only [lz] at d0 d1 d2
        obtain ⟨g1, g2, g3, g4⟩ := HFI.out.1.fine k x hx
        obtain ⟨l, cc, hlc⟩ : ∃ l cc, x.text = l ++ [cc] := ⟨x.text.dropLast, x.text.getLast g1, (List.dropLast_concat_getLast g1).symm⟩
        obtain ⟨ty, hty⟩ : ∃ ty, ty = ba x.text := ⟨_, rfl⟩
        have hbt : bl ty = x.text := by rw [hty, bl_ba]
        have hts : ty.size = l.length + 1 := by rw [hty, ba_size, hlc]; simp
        obtain ⟨p, hp⟩ : ∃ p, p = l.length := ⟨_, rfl⟩
        have hpl : p < ty.size := by omega
        have h0l : 0 < ty.size := by omega
        have hcc : ty[p] = cc := by
          have h1 := bl_get ty p hpl
          have h2 : (bl ty)[p]? = some cc := by rw [hbt, hlc, hp]; simp
          exact Option.some.inj (h1.symm.trans h2)
        have hhd : x.text.head? = some ty[0] := by
          have h1 := bl_get ty 0 h0l
          rw [hbt] at h1
          rw [← h1]; exact List.head?_eq_getElem?
        have hto : ((ty.size : Int) - 1).toNat = p := by omega
        have hge : (0 : Int) ≤ (ty.size : Int) - 1 := by omega
        have hlt2 : (ty.size : Int) - 1 < (ty.size : Int) := by omega
        have hne1 : ¬ (ty.size : Int) = 0 := by omega
        have hne2 : ((ty.size : Int) == 0) = false := by simpa using hne1
        have h0i : (0 : Int) < (ty.size : Int) := by omega
        obtain ⟨cn, hcn⟩ : ∃ cn : Int, cn = (ty[p].toNat : Int) := ⟨_, rfl⟩
        have hgk : (ty[p].toNat : Int) = cn := hcn.symm
        obtain ⟨hn0, hhn⟩ : ∃ hn0 : Int, hn0 = (ty[0].toNat : Int) := ⟨_, rfl⟩
        have hgh : (ty[0].toNat : Int) = hn0 := hhn.symm
        have hsz : ty.size ≤ 1000000 := by rw [hty, ba_size]; omega
        rw [← hty] at d0
        obtain ⟨xa, hxa⟩ : ∃ xa : Int, xa = (x.at_ : Int) := ⟨_, rfl⟩
        obtain ⟨xc, hxc⟩ : ∃ xc, xc = x.cmd := ⟨_, rfl⟩
        rw [← hxa] at d1
        rw [← hxc] at d2
        have HST : Hid (∀ W, Calls Tryd.prog 11 #[.string ty] W fun e w' => e = .returned (.bool (Ln.strk (bl ty))) ∧ W = w') := fun W => stroked_any ty W hsz (by omega)
        rw [hbt] at HST
        have HX : Hid (x.text = l ++ [cc] ∧ bl ty = x.text ∧ cn = (cc.toNat : Int) ∧ x.text.head? = some ty[0] ∧ xc = x.cmd ∧ Ln.Fine x ∧ hn0 = (ty[0].toNat : Int) ∧ L.take (k + 1) = L.take k ++ [x]) := ⟨hlc, hbt, by rw [hcn, hcc], hhd, hxc, g3, hhn, by
          rw [List.take_succ_eq_append_getElem hkl]
          rw [List.getElem?_eq_getElem hkl] at hx
          rw [Option.some.inj hx]⟩
        have HI1 : Hid (Ag w L (.slice (some ⟨b, o, none⟩) n c) k (wr.alloc (.cells #[.string ty, .int .i64 xa, .bool xc] 30))) := HI.out.below ((Below.refl _ _).alloc (Nat.le_refl _) _)
        clear hcn hcc hty hts hp hlc g1 g2 g3 g4 hxa hxc hhd hhn hbt hx hkl HI hbB
        by_cases h92 : cn = 92
        · subst h92
          go_wp2_with fail
          refine (HA.out _ HI1.out.bel).mono ?_
          rintro e w2 ⟨rfl, h2⟩
          have H2 : Hid (Below w.heap.size w w2) := below_trans HI1.out.bel h2 HI1.out.bel.size
          clear h2
          go_wp2_with fail
          go_ret
          exact ⟨rfl, H2⟩
        · have h92b : (cn == 92) = false := by simpa using h92
          have HC92 : Hid (¬ cn = 92) := h92
          cases xc with
          | true =>
            have HS2 : Hid (x.cmd = false → Ln.strk x.text = false) := fun h => by rw [← HX.out.2.2.2.2.1] at h; cases h
            have HH2 : Hid (x.cmd = false → x.text.head? ≠ some 9) := fun h => by rw [← HX.out.2.2.2.2.1] at h; cases h
            clear HST
            go_wp2_with fail
            have e0 : (wr.alloc (.cells #[.string ty, .int .i64 xa, .bool true] 30)).cell? ⟨wr.heap.size, 0, none⟩ = some (.string ty) := cell_in (alloc_last wr (.cells #[.string ty, .int .i64 xa, .bool true] 30)) 0 rfl
            obtain ⟨bx, hbx⟩ : ∃ bx, bx = wr.heap.size := ⟨_, rfl⟩
            rw [← hbx] at e0 ⊢
            clear hbx
            clear d0 d1 d2
            generalize wr.alloc (.cells #[.string ty, .int .i64 xa, .bool true] 30) = w4 at HI1 e0 ⊢
            go_loopw [7] (fun vi wr => ∃ j : Nat, j ≤ ty.size ∧ vi = .int .i64 (j : Int) ∧ w4 = wr ∧ Hid (∀ d ∈ (bl ty).take j, d ≠ 10)) (fun vi _ => ty.size - (intOf vi).toNat)
            case atStart => exact ⟨0, Nat.zero_le _, rfl, rfl, by simp [Hid]⟩
            case round =>
              obtain ⟨j, hj, rfl, rfl, HJ⟩ := hrel
              by_cases hjl : j < ty.size
              · have hji : (j : Int) < (ty.size : Int) := by omega
                have hts := take_snoc ty j hjl
                obtain ⟨dn, hdn⟩ : ∃ dn : Int, dn = (ty[j].toNat : Int) := ⟨_, rfl⟩
                have hgj : (ty[j].toNat : Int) = dn := hdn.symm
                by_cases hd : ty[j] = 10
                · have hd10 : dn = 10 := by rw [hdn, hd]; rfl
                  subst hd10
                  clear hd hdn hts
                  go_wp2_with fail
                  refine (HA.out _ HI1.out.bel).mono ?_
                  rintro e w2 ⟨rfl, h2⟩
                  have H2 : Hid (Below w.heap.size w w2) := below_trans HI1.out.bel h2 HI1.out.bel.size
                  clear h2
                  go_wp2_with fail
                  go_ret
                  exact ⟨rfl, H2⟩
                · have hd10 : ¬ dn = 10 := by rw [hdn]; intro e; apply hd; rw [u8_eq_iff]; show ty[j].toNat = 10; omega
                  have hd11 : (dn == 10) = false := by simpa using hd10
                  have HJ1 : Hid (∀ d ∈ (bl ty).take (j + 1), d ≠ 10) := by
                    intro d hdm
                    rw [hts] at hdm
                    rcases List.mem_append.1 hdm with h | h
                    · exact HJ.out d h
                    · rw [List.mem_singleton.1 h]; exact hd
                  clear hd hdn hts
                  go_wp2_with fail
                  go_roundw
                  case rel => exact ⟨j + 1, by omega, by go_num, trivial, HJ1⟩
                  case measure => simp [intOf]; omega
              · have hje : ¬ (j : Int) < (ty.size : Int) := by omega
                have HI2 : Hid (Ag w L (.slice (some ⟨b, o, none⟩) n c) (k + 1) w4) := by
                  refine ⟨HI1.out.bel, HI1.out.z, fun y hy => ?_⟩
                  rw [HX.out.2.2.2.2.2.2.2] at hy
                  rcases List.mem_append.1 hy with h | h
                  · exact HI1.out.good y h
                  · rw [List.mem_singleton.1 h]
                    refine good_of HX.out.2.2.2.2.2.1 HX.out.1 (fun e => HC92.out (by rw [HX.out.2.2.1, e]; rfl)) ?_ HS2.out HH2.out
                    have hall := HJ.out
                    rw [List.take_of_length_le (by rw [bl_length]; omega), HX.out.2.1] at hall
                    exact hall
                go_wp2_with fail
                go_roundw
                case rel => exact ⟨k + 1, by omega, by go_num, HI2⟩
                case measure => simp [intOf]; omega
          | false =>
            cases hst : Ln.strk x.text with
            | true =>
              rw [hst] at HST
              clear hst
              go_wp2_with (go_at_call 11; refine (HST.out _).mono ?_; rintro e w' ⟨rfl, rfl⟩; go_wp2_with fail)
              refine (HA.out _ HI1.out.bel).mono ?_
              rintro e w2 ⟨rfl, h2⟩
              have H2 : Hid (Below w.heap.size w w2) := below_trans HI1.out.bel h2 HI1.out.bel.size
              clear h2
              go_wp2_with fail
              go_ret
              exact ⟨rfl, H2⟩
            | false =>
              rw [hst] at HST
              have HS2 : Hid (x.cmd = false → Ln.strk x.text = false) := fun _ => hst
              clear hst
              by_cases h9 : hn0 = 9
              · subst h9
                go_wp2_with (go_at_call 11; refine (HST.out _).mono ?_; rintro e w' ⟨rfl, rfl⟩; go_wp2_with fail)
                refine (HA.out _ HI1.out.bel).mono ?_
                rintro e w2 ⟨rfl, h2⟩
                have H2 : Hid (Below w.heap.size w w2) := below_trans HI1.out.bel h2 HI1.out.bel.size
                clear h2
                go_wp2_with fail
                go_ret
                exact ⟨rfl, H2⟩
              · have h9b : (hn0 == 9) = false := by simpa using h9
                have HH2 : Hid (x.cmd = false → x.text.head? ≠ some 9) := fun _ he => by
                  rw [HX.out.2.2.2.1] at he
                  apply h9
                  rw [HX.out.2.2.2.2.2.2.1, Option.some.inj he]; rfl
                go_wp2_with (go_at_call 11; refine (HST.out _).mono ?_; rintro e w' ⟨rfl, rfl⟩; go_wp2_with fail)
                have e0 : (wr.alloc (.cells #[.string ty, .int .i64 xa, .bool false] 30)).cell? ⟨wr.heap.size, 0, none⟩ = some (.string ty) := cell_in (alloc_last wr (.cells #[.string ty, .int .i64 xa, .bool false] 30)) 0 rfl
                obtain ⟨bx, hbx⟩ : ∃ bx, bx = wr.heap.size := ⟨_, rfl⟩
                rw [← hbx] at e0 ⊢
                clear hbx
                clear d0 d1 d2
                generalize wr.alloc (.cells #[.string ty, .int .i64 xa, .bool false] 30) = w4 at HI1 e0 ⊢
                go_loopw [7] (fun vi wr => ∃ j : Nat, j ≤ ty.size ∧ vi = .int .i64 (j : Int) ∧ w4 = wr ∧ Hid (∀ d ∈ (bl ty).take j, d ≠ 10)) (fun vi _ => ty.size - (intOf vi).toNat)
                case atStart => exact ⟨0, Nat.zero_le _, rfl, rfl, by simp [Hid]⟩
                case round =>
                  obtain ⟨j, hj, rfl, rfl, HJ⟩ := hrel
                  by_cases hjl : j < ty.size
                  · have hji : (j : Int) < (ty.size : Int) := by omega
                    have hts := take_snoc ty j hjl
                    obtain ⟨dn, hdn⟩ : ∃ dn : Int, dn = (ty[j].toNat : Int) := ⟨_, rfl⟩
                    have hgj : (ty[j].toNat : Int) = dn := hdn.symm
                    by_cases hd : ty[j] = 10
                    · have hd10 : dn = 10 := by rw [hdn, hd]; rfl
                      subst hd10
                      clear hd hdn hts
                      go_wp2_with fail
                      refine (HA.out _ HI1.out.bel).mono ?_
                      rintro e w2 ⟨rfl, h2⟩
                      have H2 : Hid (Below w.heap.size w w2) := below_trans HI1.out.bel h2 HI1.out.bel.size
                      clear h2
                      go_wp2_with fail
                      go_ret
                      exact ⟨rfl, H2⟩
                    · have hd10 : ¬ dn = 10 := by rw [hdn]; intro e; apply hd; rw [u8_eq_iff]; show ty[j].toNat = 10; omega
                      have hd11 : (dn == 10) = false := by simpa using hd10
                      have HJ1 : Hid (∀ d ∈ (bl ty).take (j + 1), d ≠ 10) := by
                        intro d hdm
                        rw [hts] at hdm
                        rcases List.mem_append.1 hdm with h | h
                        · exact HJ.out d h
                        · rw [List.mem_singleton.1 h]; exact hd
                      clear hd hdn hts
                      go_wp2_with fail
                      go_roundw
                      case rel => exact ⟨j + 1, by omega, by go_num, trivial, HJ1⟩
                      case measure => simp [intOf]; omega
                  · have hje : ¬ (j : Int) < (ty.size : Int) := by omega
                    have HI2 : Hid (Ag w L (.slice (some ⟨b, o, none⟩) n c) (k + 1) w4) := by
                      refine ⟨HI1.out.bel, HI1.out.z, fun y hy => ?_⟩
                      rw [HX.out.2.2.2.2.2.2.2] at hy
                      rcases List.mem_append.1 hy with h | h
                      · exact HI1.out.good y h
                      · rw [List.mem_singleton.1 h]
                        refine good_of HX.out.2.2.2.2.2.1 HX.out.1 (fun e => HC92.out (by rw [HX.out.2.2.1, e]; rfl)) ?_ HS2.out HH2.out
                        have hall := HJ.out
                        rw [List.take_of_length_le (by rw [bl_length]; omega), HX.out.2.1] at hall
                        exact hall
                    go_wp2_with fail
                    go_roundw
                    case rel => exact ⟨k + 1, by omega, by go_num, HI2⟩
                    case measure => simp [intOf]; omega
      · have hke : ¬ (k : Int) < (n : Int) := by omega
        have HG : Hid (∀ x ∈ L, Ln.Good x) := by
          have h := HI.out.good
          rw [List.take_of_length_le (by have := HN.out; omega)] at h
          exact h
        obtain ⟨wt', hwt⟩ : ∃ wt', wt' = ba (Ln.writeT L) := ⟨_, rfl⟩
        have hwb : bl wt' = Ln.writeT L := by rw [hwt, bl_ba]
        have hws : wt'.size ≤ 150000 := by rw [← bl_length, hwb]; exact HFI.out.2
        have HWR : Hid (∀ W, Ag w L (.slice a n c) k W → Calls Tryd.prog 12 #[.slice a n c] W fun e w' => e = .returned (.string wt') ∧ Below W.heap.size W w') := fun W hW => by
          have h1 : (writeZ (L.map lz)).length ≤ 500000000 := by rw [writeZ_lz]; have := HFI.out.2; omega
          have := write_any (.slice a n c) (L.map lz) W (by rw [List.length_map, ← HN.out]; omega) h1 (HM.out.below hW.bel HM.out.pos) hW.z
          rw [writeZ_lz, ← hwt] at this
          exact this
        by_cases hbig : 65536 < wt'.size
        · have hrd : Ln.readL (bl wt') = ⟨[], 5, 0⟩ := Ln.readL_far (by rw [bl_length]; exact hbig)
          have HRB : Hid (∀ W, Below w.heap.size w W → Calls Tryd.prog 9 #[.string wt'] W fun e w' => ∃ a c, e = .returned (.tuple #[.slice a 0 c, .agg #[.int .i64 5, .int .i64 0]]) ∧ Below W.heap.size W w') := fun W hW => by
            have := read_bad wt' W (by omega) (HM.out.below hW HM.out.pos) (by rw [hrd]; decide)
            rw [hrd] at this
            exact this
          have hne5 := neqFyes (y := 5) (n := 0) (by decide)
          have hbi : (65536 : Int) < (wt'.size : Int) := by omega
          clear hwt hwb hrd
          go_wp2_with fail
          refine (HWR.out _ HI.out).mono ?_
          rintro e w2 ⟨rfl, h2⟩
          have H2 : Hid (Ag w L (.slice a n c) k w2) := HI.out.below h2
          clear h2
          go_wp2_with fail
          refine (HRB.out _ H2.out.bel).mono ?_
          rintro e w3 ⟨a3, c3, rfl, h3⟩
          have H3 : Hid (Ag w L (.slice a n c) k (w3.alloc (.cells #[.int .i64 5, .int .i64 0] 25))) := (H2.out.below h3).below ((Below.refl _ _).alloc (Nat.le_refl _) _)
          clear h3
          go_wp2_with fail
          refine (HWR.out _ H3.out).mono ?_
          rintro e w4 ⟨rfl, h4⟩
          have H4 : Hid (Ag w L (.slice a n c) k w4) := H3.out.below h4
          clear h4
          go_wp2_with fail
          refine (HA.out _ H4.out.bel).mono ?_
          rintro e w5 ⟨rfl, h5⟩
          have H5 : Hid (Below w.heap.size w w5) := below_trans H4.out.bel h5 H4.out.bel.size
          clear h5
          go_wp2_with fail
          go_ret
          exact ⟨rfl, H5⟩
        · have hrd : Ln.readL (bl wt') = ⟨Ln.num 0 L, 0, 0⟩ := by
            rw [hwb]
            exact Ln.read_write L HG.out (by rw [← HN.out]; exact hl) (by rw [← hwb, bl_length]; omega)
          have HRB : Hid (∀ W, Below w.heap.size w W → Calls Tryd.prog 9 #[.string wt'] W (GoodPost (Ln.num 0 L) W)) := fun W hW => read_goodL wt' W (by omega) (HM.out.below hW HM.out.pos) hrd
          have hnl : (Ln.num 0 L).length = n := by rw [Ln.num_len, HN.out]
          clear hwt hwb hrd
          go_wp2_with fail
          refine (HWR.out _ HI.out).mono ?_
          rintro e w2 ⟨rfl, h2⟩
          have H2 : Hid (Ag w L (.slice a n c) k w2) := HI.out.below h2
          clear h2
          go_wp2_with fail
          refine (HRB.out _ H2.out.bel).mono ?_
          rintro e w3 ⟨a3, c3, rfl, hz3, hc3, h3⟩
          rw [hnl] at hz3 hc3 ⊢
          have H3 : Hid (Ag w L (.slice a n c) k (w3.alloc (.cells #[.int .i64 0, .int .i64 0] 25)) ∧ LZ (w3.alloc (.cells #[.int .i64 0, .int .i64 0] 25)).heap.size (w3.alloc (.cells #[.int .i64 0, .int .i64 0] 25)) (.slice a3 n c3) ((Ln.num 0 L).map lz)) := by
            have hb4 : Below w3.heap.size w3 (w3.alloc (.cells #[.int .i64 0, .int .i64 0] 25)) := (Below.refl _ _).alloc (Nat.le_refl _) _
            exact ⟨(H2.out.below h3).below hb4, (hz3.below hb4).mono hb4.size⟩
          clear h3 hz3
          go_wp2_with fail
          go_loopw [104] (fun vi wr => ∃ i : Nat, i ≤ n ∧ vi = .int .i64 (i : Int) ∧ Hid (Ag w L (.slice a n c) k wr ∧ LZ wr.heap.size wr (.slice a3 n c3) ((Ln.num 0 L).map lz))) (fun vi _ => n - (intOf vi).toNat)
          case atStart => exact ⟨0, Nat.zero_le _, rfl, H3⟩
          case round =>
            clear H3
            obtain ⟨i, hi, rfl, H4⟩ := hrel
            by_cases hil : i < n
            · have hii : (i : Int) < (n : Int) := by omega
              have hkl : i < L.length := by rw [← HN.out]; exact hil
              obtain ⟨x, hx⟩ : ∃ x, L[i]? = some x := ⟨_, List.getElem?_eq_getElem hkl⟩
              obtain ⟨b, o, rfl, hbB, d0, d1, d2⟩ := H4.out.1.z.pick (k := i) (x := lz x) (by rw [List.getElem?_map, hx]; rfl)
              have hx3 := Ln.num_get L 0 i x hx
              obtain ⟨b', o', rfl, hbB', d0', d1', d2'⟩ := H4.out.2.pick (k := i) (x := lz ⟨x.text, 0 + i + 1, x.cmd⟩) (by rw [List.getElem?_map, hx3]; rfl)
              simp only [lz] at d0 d1 d2 d0' d1' d2'
              have hd1 : ((0 + i + 1 : Nat) : Int) = (i : Int) + 1 := by omega
              rw [hd1] at d1'
              obtain ⟨xt, hxt⟩ : ∃ xt, xt = ba x.text := ⟨_, rfl⟩
              obtain ⟨xc, hxc⟩ : ∃ xc, xc = x.cmd := ⟨_, rfl⟩
              rw [← hxt] at d0 d0'
              rw [← hxc] at d2 d2'
              clear hx hx3 hxt hxc hd1 hbB hbB' hkl
              cases xc with
              | true =>
                go_wp2_with fail
                go_quiet (fail)
                go_wp2_with fail
                go_roundw
                case rel => exact ⟨i + 1, by omega, by go_num, H4.out.1.below (below_drewN (Below.refl _ _) _), (H4.out.2.below (below_drewN (Below.refl _ _) _)).mono (Nat.le_refl _)⟩
                case measure => simp [intOf]; omega
              | false =>
                go_wp2_with fail
                go_quiet (fail)
                go_wp2_with fail
                go_roundw
                case rel => exact ⟨i + 1, by omega, by go_num, H4.out.1.below (below_drewN (Below.refl _ _) _), (H4.out.2.below (below_drewN (Below.refl _ _) _)).mono (Nat.le_refl _)⟩
                case measure => simp [intOf]; omega
            · have hke2 : ¬ (i : Int) < (n : Int) := by omega
              go_wp2_with fail
              refine (HA.out _ H4.out.1.bel).mono ?_
              rintro e w6 ⟨rfl, h6⟩
              have H6 : Hid (Below w.heap.size w w6) := below_trans H4.out.1.bel h6 H4.out.1.bel.size
              clear h6
              go_wp2_with fail
              go_ret
              exact ⟨rfl, H6⟩
end Go.Proofs.YtefhpoklehmlhaaDoor
