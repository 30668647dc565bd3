/-
  LineRise.
-/
import Derived.Test.YtefhpoklehmlhaaDoorL7
namespace Go.Proofs.YtefhpoklehmlhaaDoor
open Go.RowKit Go.Shelf

theorem lines_size (R : List (List UInt8)) : ∀ (k : Nat) (g : List (List UInt8)) (x : Ln.Ln), x ∈ Ln.linesA k g R → x.text.length ≤ wt g + wt R := by
  induction R with
  | nil => intro k g x h; cases h
  | cons r R ih =>
    intro k g x h
    unfold Ln.linesA at h
    split at h
    · have := ih _ _ x h
      rw [wt_app] at this
      have h2 := wt_cons r R
      have h3 : wt [r] = r.length + 1 := by simp [wt]
      omega
    · rcases List.mem_append.1 h with h | h
      · obtain ⟨_, h2, _⟩ := Ln.mem_emit h
        have h3 := whole_len (g ++ [r])
        rw [wt_app] at h3
        have h4 := wt_cons r R
        have h5 : wt [r] = r.length + 1 := by simp [wt]
        rw [h2]; omega
      · have := ih _ _ x h
        have h2 := wt_cons r R
        have h3 : wt [] = 0 := rfl
        omega
/-- What holds of each line that was read. -/
structure Fit (L : List Ln.Ln) : Prop where
  fine : ∀ (i : Nat) x, L[i]? = some x → x.text ≠ [] ∧ 1 ≤ x.at_ ∧ Ln.Fine x ∧ x.text.length ≤ 70000
  rise : ∀ (i j : Nat) x y, i < j → L[i]? = some x → L[j]? = some y → x.at_ < y.at_
  len : L.length ≤ 4096
theorem read_fit {s : ByteArray} (h : (Ln.readL (bl s)).why = 0) : Fit (Ln.readL (bl s)).lines := by
  obtain ⟨h1, h2, h3, h4⟩ := Ln.readL_fine h
  rw [h4]
  refine ⟨fun i x hx => ?_, fun i j x y hij hx hy => ?_, h3⟩
  · have hm := List.mem_of_getElem? hx
    obtain ⟨g1, g2⟩ := Ln.lines_fine _ _ _ x hm
    have g3 := lines_size _ _ _ x hm
    have g4 := (Ln.raws_len (bl s)).1
    have g5 : wt ([] : List (List UInt8)) = 0 := rfl
    refine ⟨Ln.blank_ne g2.bare, g1, g2, ?_⟩
    unfold wt at g3 g5
    omega
  · obtain ⟨hi, rfl⟩ := List.getElem?_eq_some_iff.1 hx
    obtain ⟨hj, rfl⟩ := List.getElem?_eq_some_iff.1 hy
    exact List.pairwise_iff_getElem.1 (Ln.lines_rise _ 0 []) i j hi hj hij

set_option maxRecDepth 20000 in
set_option maxHeartbeats 1000000 in
theorem rise_law (s : ByteArray) (w : World) (hs : s.size ≤ 9223372036854775807) (hm : Mx w) :
    Calls Tryd.prog 5 #[.string s] w fun e w' => e = .returned (.bool true) ∧ Below w.heap.size w w' := by
  have HR : Hid (Calls Tryd.prog 9 #[.string s] w (SplitPost (Ln.readL (bl s)) w)) := read_split s w hs hm
  have HA : Hid (∀ W, Below w.heap.size w W → Calls Tryd.prog 10 #[] W fun e w' => e = .returned (.bool true) ∧ Below W.heap.size W w') := fun W hW => alive_any W (hm.below hW hm.pos)
  have HF : Hid (∀ _ : (Ln.readL (bl s)).why = 0, Fit (Ln.readL (bl s)).lines) := fun h => read_fit h
  obtain ⟨rd, hrd⟩ : ∃ rd, rd = Ln.readL (bl s) := ⟨_, rfl⟩
  rw [← hrd] at HR HF
  clear hrd hm
  go_enter Tryd.func5, Tryd.ntmps5
  go_wp2_with fail
  refine HR.out.mono ?_
  rintro e w1 ⟨hb, ⟨hw, a, c, rfl⟩ | ⟨hw, a, c, rfl, hz, hc, hl⟩⟩
  · have HB : Hid (Below w.heap.size w w1) := hb
    have hne := neqFyes (n := rd.at_) hw
    clear hb hw
    go_wp2_with fail
    refine (HA.out _ (HB.out.alloc HB.out.size _)).mono ?_
    rintro e w2 ⟨rfl, h2⟩
    have H2 : Hid (Below w.heap.size w w2) := below_trans (HB.out.alloc HB.out.size _) h2 (Nat.le_trans HB.out.size (by simp))
    clear h2
    go_wp2_with fail
    go_ret
    exact ⟨rfl, H2⟩
  · have HB : Hid (Below w.heap.size w w1 ∧ w.heap.size ≤ w1.heap.size) := ⟨hb, hb.size⟩
    have HFI : Hid (Fit rd.lines) := HF.out hw
    obtain ⟨n, hn⟩ : ∃ n, n = rd.lines.length := ⟨_, rfl⟩
    rw [← hn] at hz hc hl ⊢
    have HZ : Hid (n = rd.lines.length ∧ LZ w1.heap.size w1 (.slice a n c) (rd.lines.map lz)) := ⟨hn, hz⟩
    have hne := neqFno
    clear hb hw hz hn HF
    go_wp2_with fail
    go_loopw [24] (fun vi wr => ∃ k : Nat, k ≤ n ∧ vi = .int .i64 (k : Int) ∧ Hid (Below w1.heap.size w1 wr)) (fun vi _ => n - (intOf vi).toNat)
    case atStart => exact ⟨0, Nat.zero_le _, rfl, (Below.refl _ _).alloc (Nat.le_refl _) _⟩
    case round =>
      obtain ⟨k, hk, rfl, HW⟩ := hrel
      by_cases hlt : k < n
      · have hil : (k : Int) < (n : Int) := by omega
        have hkl : k < rd.lines.length := by rw [← HZ.out.1]; exact hlt
        obtain ⟨x, hx⟩ : ∃ x, rd.lines[k]? = some x := ⟨_, List.getElem?_eq_getElem hkl⟩
        obtain ⟨b, o, rfl, hbB, d0, d1, d2⟩ := (HZ.out.2.below HW.out).pick (k := k) (x := lz x) (by rw [List.getElem?_map, hx]; rfl)
        simp only [lz] at d0 d1 d2
        obtain ⟨g1, g2, g3, g4⟩ := HFI.out.fine k x hx
        obtain ⟨l, cc, hlc⟩ : ∃ l cc, x.text = l ++ [cc] := ⟨x.text.dropLast, x.text.getLast g1, (List.dropLast_concat_getLast g1).symm⟩
        obtain ⟨ty, hty⟩ : ∃ ty, ty = ba x.text := ⟨_, rfl⟩
        have hts : ty.size = l.length + 1 := by rw [hty, ba_size, hlc]; simp
        obtain ⟨p, hp⟩ : ∃ p, p = l.length := ⟨_, rfl⟩
        have hpl : p < ty.size := by omega
        have hcc : ty[p] = cc := by
          have h1 := bl_get ty p hpl
          have hbt : bl ty = x.text := by rw [hty, bl_ba]
          have h2 : (bl ty)[p]? = some cc := by rw [hbt, hlc, hp]; simp
          exact Option.some.inj (h1.symm.trans h2)
        have hto : ((ty.size : Int) - 1).toNat = p := by omega
        have hge : (0 : Int) ≤ (ty.size : Int) - 1 := by omega
        have hlt2 : (ty.size : Int) - 1 < (ty.size : Int) := by omega
        obtain ⟨cn, hcn⟩ : ∃ cn : Int, cn = (ty[p].toNat : Int) := ⟨_, rfl⟩
        have hgk : (ty[p].toNat : Int) = cn := hcn.symm
        have hblk : x.cmd = false → ¬ cn = 32 ∧ ¬ cn = 9 := fun h => by
          obtain ⟨t, ht⟩ := g3.trim h
          have := Ln.trimR_last (ht.symm.trans hlc)
          rw [hcn, hcc]
          refine ⟨fun e => this.1 ?_, fun e => this.2 ?_⟩
          · rw [u8_eq_iff]; show cc.toNat = 32; omega
          · rw [u8_eq_iff]; show cc.toNat = 9; omega
        have t1 : ¬ ty.toList = [] := by rw [Lib.toList_data, hty]; show ¬ bl (ba x.text) = []; rw [bl_ba]; exact g1
        have t2 : ty.toList.isEmpty = false := by simpa using t1
        have hsz : ty.size ≤ 1000000 := by rw [hty, ba_size]; omega
        rw [← hty] at d0
        obtain ⟨xa, hxa⟩ : ∃ xa : Int, xa = (x.at_ : Int) := ⟨_, rfl⟩
        obtain ⟨xc, hxc⟩ : ∃ xc, xc = x.cmd := ⟨_, rfl⟩
        rw [← hxa] at d1
        rw [← hxc] at d2 hblk
        have HLB : Hid (xc = false → ¬ cn = 32 ∧ ¬ cn = 9) := hblk
        have hx1 : ¬ xa < 1 := by omega
        have hx2 : decide (xa < 1) = false := by simpa using hx1
        have HW1 : Hid (Below w1.heap.size w1 (wr.alloc (.cells #[.string ty, .int .i64 xa, .bool xc] 30))) := HW.out.alloc HW.out.size _
        have HXA : Hid (xa = (x.at_ : Int)) := hxa
        clear hblk hcn hcc hty hts hp hlc g1 g2 g3 g4 hxa hxc
        match k, hk, hlt, hil, hkl, hx, d0, d1, d2 with
        | 0, hk, hlt, hil, hkl, hx, d0, d1, d2 =>
          have d0' : wr.cell? ⟨b, o, none⟩ = some (.string ty) := by simpa using d0
          have d1' : wr.cell? ⟨b, o + 1, none⟩ = some (.int .i64 xa) := by simpa using d1
          have d2' : wr.cell? ⟨b, o + 2, none⟩ = some (.bool xc) := by simpa using d2
          clear hx d0 d1 d2
          cases xc with
          | true =>
            go_wp2_with fail
            go_quiet (fail)
            go_wp2_with fail
            go_roundw
            case rel => exact ⟨1, by omega, by go_num, below_drewN HW1.out _⟩
            case measure => simp [intOf]; omega
          | false =>
            obtain ⟨n32, n9⟩ := HLB.out rfl
            have b32 : (cn == 32) = false := by simpa using n32
            have b9 : (cn == 9) = false := by simpa using n9
            go_wp2_with fail
            go_quiet (fail)
            go_wp2_with fail
            go_roundw
            case rel => exact ⟨1, by omega, by go_num, below_drewN HW1.out _⟩
            case measure => simp [intOf]; omega
        | j + 1, hk, hlt, hil, hkl, hx, d0, d1, d2 =>
          obtain ⟨y, hy⟩ : ∃ y, rd.lines[j]? = some y := ⟨_, List.getElem?_eq_getElem (by omega)⟩
          obtain ⟨b', o', hbo, hbB', e0, e1, e2⟩ := (HZ.out.2.below HW.out).pick (k := j) (x := lz y) (by rw [List.getElem?_map, hy]; rfl)
          simp only [Option.some.injEq, Addr.mk.injEq, and_true] at hbo
          obtain ⟨rfl, rfl⟩ := hbo
          simp only [lz] at e1
          have hri := HFI.out.rise j (j + 1) y x (by omega) hy hx
          obtain ⟨pa, hpa⟩ : ∃ pa : Int, pa = (y.at_ : Int) := ⟨_, rfl⟩
          rw [← hpa] at e1
          have hx3 : ¬ xa ≤ pa := by rw [hpa, HXA.out]; omega
          have hx4 : decide (xa ≤ pa) = false := by simpa using hx3
          have hj1 : ((j : Int) + 1 - 1).toNat = j := by omega
          have hcell : (wr.alloc (.cells #[.string ty, .int .i64 xa, .bool xc] 30)).cell? ⟨b, o + j * 3 + 1, none⟩ = some (.int .i64 pa) := by
            rw [World.cell?_alloc_old _ _ _ (by show b ≠ wr.heap.size; have := HW.out.size; omega)]; exact e1
          clear hx hy hri hpa e0 e1 e2
          cases xc with
          | true =>
            go_wp2_with fail
            go_quiet (fail)
            go_wp2_with fail
            go_roundw
            case rel => exact ⟨j + 1 + 1, by omega, by go_num, below_drewN HW1.out _⟩
            case measure => simp [intOf]; omega
          | false =>
            obtain ⟨n32, n9⟩ := HLB.out rfl
            have b32 : (cn == 32) = false := by simpa using n32
            have b9 : (cn == 9) = false := by simpa using n9
            go_wp2_with fail
            go_quiet (fail)
            go_wp2_with fail
            go_roundw
            case rel => exact ⟨j + 1 + 1, by omega, by go_num, below_drewN HW1.out _⟩
            case measure => simp [intOf]; omega
      · have hke : ¬ (k : Int) < (n : Int) := by omega
        go_wp2_with fail
        refine (HA.out _ (below_trans HB.out.1 HW.out HB.out.2)).mono ?_
        rintro e w2 ⟨rfl, h2⟩
        have H2 : Hid (Below w.heap.size w w2) := below_trans (below_trans HB.out.1 HW.out HB.out.2) h2 (Nat.le_trans HB.out.2 HW.out.size)
        clear h2
        go_wp2_with fail
        go_ret
        exact ⟨rfl, H2⟩
end Go.Proofs.YtefhpoklehmlhaaDoor
