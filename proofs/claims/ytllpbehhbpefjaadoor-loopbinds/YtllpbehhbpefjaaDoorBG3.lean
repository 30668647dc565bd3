/-
  What the document's bind answers.
-/
import Derived.Test.YtllpbehhbpefjaaDoorBG2
import Derived.Test.YtllpbehhbpefjaaDoorY4
import Derived.Test.YtllpbehhbpefjaaDoorBLS
namespace Go.Proofs.YtllpbehhbpefjaaDoor
open Go.RowKit Go.Shelf
open Ex (useN bodyF endN clo endI)

theorem ne_ba {x y : ByteArray} (h : ¬ x = y) : ¬ x.toList = y.toList ∧ (x.toList == y.toList) = false := by
  have h1 : ¬ x.toList = y.toList := fun e => h (by rw [Lib.toList_data, Lib.toList_data] at e; exact bl_inj e)
  exact ⟨h1, by simpa using h1⟩
theorem quoteY_is (l : List UInt8) : Ex.quoteY l = quoteD l := rfl
theorem ext1 (s : ByteArray) (k : Nat) (hk : k < s.size) : bl (s.extract k (k + 1)) = [s[k]] := by
  rw [bl_extract, take_snoc s k hk, List.drop_append_of_le_length (by rw [List.length_take, bl_length]; omega), List.drop_of_length_le (by rw [List.length_take]; omega)]; rfl

theorem ne_dol {y : ByteArray} (h : ¬ kDol = y) : ¬ ([36] : List UInt8) = y.toList ∧ (([36] : List UInt8) == y.toList) = false ∧ ¬ y.toList = [36] := by
  have h1 : ¬ ([36] : List UInt8) = y.toList := fun e => h (by rw [Lib.toList_data] at e; exact bl_inj e)
  exact ⟨h1, by simpa using h1, fun e => h1 e.symm⟩
set_option maxRecDepth 20000 in
set_option maxHeartbeats 2000000 in
theorem rbind_any (s name value : ByteArray) (w : World) (hs : s.size ≤ 1000000) (hn : name.size ≤ 900000) (hv : value.size ≤ 100000) (hb : (2 * value.size + 1) * s.size ≤ 500000000) :
    Calls Tryd.prog 37 #[.string s, .string name, .string value] w fun e w' => e = .returned (.string (ba (bindL (usesB name) (quoteD (bl value)) (bl s)))) ∧ Below w.heap.size w w' := by
  obtain ⟨q, hq⟩ : ∃ q, q = ba (quoteD (bl value)) := ⟨_, rfl⟩
  have hqb : quoteD (bl value) = bl q := by rw [hq, bl_ba]
  have hqs : q.size ≤ 2 * value.size := by
    have := quoteD_len (bl value)
    rw [bl_length] at this
    rw [hq, ba_size]; exact this
  rw [hqb]
  have HQ : Hid (∀ W, Calls Tryd.prog 60 #[.string value] W fun e w' => e = .returned (.string q) ∧ Below W.heap.size W w') := fun W => by
    have := Ex.rquote8 value W hv
    rw [quoteY_is, hqb, ba_bl] at this
    exact this
  have HE : Hid (∀ (p : Nat) W, p < s.size → Calls Tryd.prog 59 #[.string s, .int .i64 (p : Int)] W fun e w' => e = .returned (.int .i64 (endI p (endN ((bl s).drop p)))) ∧ W = w') := fun p W hp => Ex.rend s hs s.size p hp (by omega) W
  have hlen := bindL_len (U := usesB name) (val := bl q) s.size (bl s) (by rw [bl_length]; exact Nat.le_refl _)
  rw [bl_length, bl_length] at hlen
  have HLT : Hid ((bindL (usesB name) (bl q) (bl s)).length ≤ 500000000) := by
    have h9 : (q.size + 1) * s.size ≤ (2 * value.size + 1) * s.size := Nat.mul_le_mul_right _ (by omega)
    unfold Hid; omega
  obtain ⟨cA, hcA⟩ : ∃ cA, cA = useA name := ⟨_, rfl⟩
  obtain ⟨cB, hcB⟩ : ∃ cB, cB = useB name := ⟨_, rfl⟩
  obtain ⟨cC, hcC⟩ : ∃ cC, cC = useC name := ⟨_, rfl⟩
  have hA : (⟨#[36, 123]⟩ : ByteArray) ++ name ++ ⟨#[125]⟩ = cA := hcA.symm
  have hB : (⟨#[36, 40]⟩ : ByteArray) ++ name ++ ⟨#[41]⟩ = cB := hcB.symm
  have hC : (⟨#[36]⟩ : ByteArray) ++ name = cC := hcC.symm
  have HCA : Hid (cA = useA name ∧ cB = useB name ∧ cC = useC name) := ⟨hcA, hcB, hcC⟩
  have HDA : Hid (¬ kDol = cA ∧ ¬ kDol = cB ∧ (name.size = 1 → ¬ kDol = cC)) := by
    refine ⟨fun e => ?_, fun e => ?_, fun h1 e => ?_⟩
    · have h2 := congrArg ByteArray.size e; rw [hcA, useA_size] at h2; have h3 : kDol.size = 1 := rfl; omega
    · have h2 := congrArg ByteArray.size e; rw [hcB, useB_size] at h2; have h3 : kDol.size = 1 := rfl; omega
    · have h2 := congrArg ByteArray.size e; rw [hcC, useC_size, h1] at h2; have h3 : kDol.size = 1 := rfl; omega
  obtain ⟨U, hU⟩ : ∃ U, U = usesB name := ⟨_, rfl⟩
  have HU : Hid (U = usesB name) := hU
  rw [← hU] at HLT ⊢
  clear hq hqb hlen hcA hcB hcC hU hb
  go_enter Tryd.func37, Tryd.ntmps37
  go_wp2_with fail
  go_loopw [7, 8] (fun vo vi wr => ∃ (i : Nat) (o : ByteArray), i ≤ s.size ∧ vi = .int .i64 (i : Int) ∧ vo = .string o ∧ o.size ≤ 500000000 ∧ Hid (Below w.heap.size w wr ∧ bindL U (bl q) (bl s) = bl o ++ bindL U (bl q) ((bl s).drop i))) (fun _ vi _ => s.size - (intOf vi).toNat)
  case atStart => exact ⟨0, ⟨#[]⟩, Nat.zero_le _, rfl, rfl, by decide, Below.refl _ _, by simp [bl]⟩
  case round =>
    obtain ⟨i, o, hi, rfl, rfl, hos, HI⟩ := hrel
    by_cases hil : i < s.size
    · have hii : (i : Int) < (s.size : Int) := by omega
      have hdr := drop_bl s i hil
      have HSZ : Hid (∀ o' r : List UInt8, bindL U (bl q) (bl s) = o' ++ r → o'.length ≤ 500000000) := fun o' r h => by
        have h1 := congrArg List.length h
        rw [List.length_append] at h1
        have := HLT.out
        omega
      obtain ⟨cn, hcn⟩ : ∃ cn : Int, cn = (s[i].toNat : Int) := ⟨_, rfl⟩
      have hgk : (s[i].toNat : Int) = cn := hcn.symm
      by_cases h36 : cn = 36
      · have hc36 : s[i] = 36 := by rw [u8_eq_iff]; show s[i].toNat = 36; omega
        rw [hc36] at hdr
        have HDR : Hid ((bl s).drop i = 36 :: (bl s).drop (i + 1)) := hdr
        clear hdr hcn hc36
        subst h36
        by_cases hnx : i + 1 < s.size
        · have hni : (i : Int) + 1 < (s.size : Int) := by omega
          have hdr2 := drop_bl s (i + 1) hnx
          obtain ⟨dn, hdn⟩ : ∃ dn : Int, dn = (s[i + 1].toNat : Int) := ⟨_, rfl⟩
          have hgd : (s[i + 1].toNat : Int) = dn := hdn.symm
          by_cases hd36 : dn = 36
          · have hs36 : s[i + 1] = 36 := by rw [u8_eq_iff]; show s[i + 1].toNat = 36; omega
            rw [hs36] at hdr2
            obtain ⟨o2, ho2⟩ : ∃ o2, o2 = o ++ ⟨#[36, 36]⟩ := ⟨_, rfl⟩
            have HZ : Hid (bindL U (bl q) (bl s) = bl o2 ++ bindL U (bl q) ((bl s).drop (i + 2))) := by
              unfold Hid
              rw [HI.out.2, HDR.out, hdr2, HU.out, bind_dd, ho2, bl_app]
              simp [bl]
            have hz2 : o2.size ≤ 500000000 := by rw [← bl_length]; exact HSZ.out _ _ HZ.out
            have hoe : o ++ ⟨#[36, 36]⟩ = o2 := ho2.symm
            clear hdr2 hdn hs36 ho2
            go_wp2
            go_roundw
            case rel => exact ⟨i + 2, o2, by omega, by go_num, rfl, hz2, HI.out.1, HZ.out⟩
            case measure => simp [intOf]; omega
          · have hdb : (dn == 36) = false := by simpa using hd36
            have HHD : Hid (((bl s).drop (i + 1)).head? ≠ some 36) := fun e => by
              rw [hdr2] at e
              simp at e
              exact hd36 (by rw [hdn, e]; rfl)
            clear hdr2 hdn
            have HEi := fun W => HE.out i W hil
            rw [HDR.out] at HEi
            cases hen : endN (36 :: (bl s).drop (i + 1)) with
            | none =>
              rw [hen] at HEi
              have HEi : Hid (∀ W : World, Calls Tryd.prog 59 #[.string s, .int .i64 (i : Int)] W fun e w' => e = .returned (.int .i64 (-1)) ∧ W = w') := HEi
              have NOC : Hid (∀ c m, Cand name c → endN (36 :: (bl s).drop (i + 1)) = some m → (36 :: (bl s).drop (i + 1)).take m ≠ bl c) := fun c m _ h => by rw [hen] at h; cases h
              obtain ⟨x1, x2, x1s⟩ := ne_dol HDA.out.1
              obtain ⟨x3, x4, x3s⟩ := ne_dol HDA.out.2.1
              clear hen
              by_cases hn1 : name.size = 1
              · have hn1i : (name.size : Int) = 1 := by omega
                obtain ⟨x5, x6, x5s⟩ := ne_dol (HDA.out.2.2 hn1)
                clear hn1
                obtain ⟨o2, ho2⟩ : ∃ o2, o2 = o ++ kDol := ⟨_, rfl⟩
                have HZ : Hid (bindL U (bl q) (bl s) = bl o2 ++ bindL U (bl q) ((bl s).drop (i + 1))) := by
                  unfold Hid
                  rw [HI.out.2, HDR.out, HU.out, bind_no HHD.out NOC.out, ho2, bl_app]
                  simp [bl]
                have hz2 : o2.size ≤ 500000000 := by rw [← bl_length]; exact HSZ.out _ _ HZ.out
                have hoe : o ++ (⟨#[36]⟩ : ByteArray) = o2 := ho2.symm
                clear ho2
                go_wp2_with fail
                refine (HEi.out _).mono ?_
                rintro e w2 ⟨rfl, rfl⟩
                go_wp2
                go_roundw
                case rel => exact ⟨i + 1, o2, by omega, by go_num, rfl, hz2, HI.out.1, HZ.out⟩
                case measure => simp [intOf]; omega
              · have hn1i : ¬ (name.size : Int) = 1 := by omega
                have hn1b : ((name.size : Int) == 1) = false := by simpa using hn1i
                obtain ⟨o2, ho2⟩ : ∃ o2, o2 = o ++ kDol := ⟨_, rfl⟩
                have HZ : Hid (bindL U (bl q) (bl s) = bl o2 ++ bindL U (bl q) ((bl s).drop (i + 1))) := by
                  unfold Hid
                  rw [HI.out.2, HDR.out, HU.out, bind_no HHD.out NOC.out, ho2, bl_app]
                  simp [bl]
                have hz2 : o2.size ≤ 500000000 := by rw [← bl_length]; exact HSZ.out _ _ HZ.out
                have hoe : o ++ (⟨#[36]⟩ : ByteArray) = o2 := ho2.symm
                clear ho2
                go_wp2_with fail
                refine (HEi.out _).mono ?_
                rintro e w2 ⟨rfl, rfl⟩
                go_wp2
                go_roundw
                case rel => exact ⟨i + 1, o2, by omega, by go_num, rfl, hz2, HI.out.1, HZ.out⟩
                case measure => simp [intOf]; omega
            | some m =>
              rw [hen] at HEi
              have hml := Ex.end_le hen
              have hm2 : m ≤ s.size - i := by
                have h9 := hml.2
                rw [List.length_cons, List.length_drop, bl_length] at h9
                omega
              have hm1 := hml.1
              have HEi : Hid (∀ W : World, Calls Tryd.prog 59 #[.string s, .int .i64 (i : Int)] W fun e w' => e = .returned (.int .i64 ((i : Int) + (m : Int))) ∧ W = w') := fun W => (HEi W).mono fun e w' h => ⟨by rw [h.1]; rfl, h.2⟩
              have HEN : Hid (endN (36 :: (bl s).drop (i + 1)) = some m) := hen
              obtain ⟨u, hu⟩ : ∃ u, u = s.extract i (i + m) := ⟨_, rfl⟩
              have hub : (36 :: (bl s).drop (i + 1)).take m = bl u := by
                rw [hu, bl_extract, ← HDR.out, List.drop_take, Nat.add_sub_cancel_left]
              have hpos : (0 : Int) < (i : Int) + (m : Int) := by omega
              have hp2 : (i : Int) + (m : Int) ≤ (s.size : Int) := by omega
              have hp3 : (i : Int) ≤ (i : Int) + (m : Int) := by omega
              have hue : s.extract i (i + m) = u := hu.symm
              have htn : ((i : Int) + (m : Int)).toNat = i + m := by omega
              clear hu hen
              by_cases ha : u = cA
              · subst ha
                have CAND : Hid (Cand name u) := .inl HCA.out.1
                have HUT : Hid _ := hub
                clear hub
                obtain ⟨o2, ho2⟩ : ∃ o2, o2 = o ++ q := ⟨_, rfl⟩
                have HZ : Hid (bindL U (bl q) (bl s) = bl o2 ++ bindL U (bl q) ((bl s).drop (i + m))) := by
                  unfold Hid
                  rw [HI.out.2, HDR.out, HU.out, bind_yes rfl CAND.out HEN.out HUT.out, ho2, bl_app, ← HDR.out, List.drop_drop]
                  simp
                have hz2 : o2.size ≤ 500000000 := by rw [← bl_length]; exact HSZ.out _ _ HZ.out
                have hoe : o ++ q = o2 := ho2.symm
                clear ho2
                go_wp2_with fail
                refine (HEi.out _).mono ?_
                rintro e w2 ⟨rfl, rfl⟩
                go_wp2_with fail
                refine (HQ.out _).mono ?_
                rintro e w3 ⟨rfl, h3⟩
                have H3 : Hid (Below w.heap.size w w3) := HI.out.1.trans (h3.mono HI.out.1.size)
                clear h3
                go_wp2
                go_roundw
                case rel => exact ⟨i + m, o2, by omega, by go_num, rfl, hz2, H3.out, HZ.out⟩
                case measure => simp [intOf]; omega
              · obtain ⟨x1, x2⟩ := ne_ba ha
                by_cases hbb : u = cB
                · subst hbb
                  have CAND : Hid (Cand name u) := .inr (.inl HCA.out.2.1)
                  have HUT : Hid _ := hub
                  clear hub ha
                  obtain ⟨o2, ho2⟩ : ∃ o2, o2 = o ++ q := ⟨_, rfl⟩
                  have HZ : Hid (bindL U (bl q) (bl s) = bl o2 ++ bindL U (bl q) ((bl s).drop (i + m))) := by
                    unfold Hid
                    rw [HI.out.2, HDR.out, HU.out, bind_yes rfl CAND.out HEN.out HUT.out, ho2, bl_app, ← HDR.out, List.drop_drop]
                    simp
                  have hz2 : o2.size ≤ 500000000 := by rw [← bl_length]; exact HSZ.out _ _ HZ.out
                  have hoe : o ++ q = o2 := ho2.symm
                  clear ho2
                  go_wp2_with fail
                  refine (HEi.out _).mono ?_
                  rintro e w2 ⟨rfl, rfl⟩
                  go_wp2_with fail
                  refine (HQ.out _).mono ?_
                  rintro e w3 ⟨rfl, h3⟩
                  have H3 : Hid (Below w.heap.size w w3) := HI.out.1.trans (h3.mono HI.out.1.size)
                  clear h3
                  go_wp2
                  go_roundw
                  case rel => exact ⟨i + m, o2, by omega, by go_num, rfl, hz2, H3.out, HZ.out⟩
                  case measure => simp [intOf]; omega
                · obtain ⟨x3, x4⟩ := ne_ba hbb
                  by_cases hn1 : name.size = 1
                  · have hn1i : (name.size : Int) = 1 := by omega
                    by_cases hcc : u = cC
                    · subst hcc
                      have CAND : Hid (Cand name u) := .inr (.inr ⟨HCA.out.2.2, hn1, fun e => by
                        have h8 : bl u = [36, 36] := by rw [HCA.out.2.2, e]; rfl
                        rw [h8] at hub
                        have h9 : (36 :: (bl s).drop (i + 1))[1]? = some 36 := by
                          have h10 : ((36 :: (bl s).drop (i + 1)).take m)[1]? = some 36 := by rw [hub]; rfl
                          rw [List.getElem?_take] at h10
                          split at h10
                          · exact h10
                          · cases h10
                        simp only [List.getElem?_cons_succ] at h9
                        rw [← List.head?_eq_getElem?] at h9
                        exact HHD.out h9⟩)
                      have HUT : Hid _ := hub
                      clear hub ha hbb hn1
                      obtain ⟨o2, ho2⟩ : ∃ o2, o2 = o ++ q := ⟨_, rfl⟩
                      have HZ : Hid (bindL U (bl q) (bl s) = bl o2 ++ bindL U (bl q) ((bl s).drop (i + m))) := by
                        unfold Hid
                        rw [HI.out.2, HDR.out, HU.out, bind_yes rfl CAND.out HEN.out HUT.out, ho2, bl_app, ← HDR.out, List.drop_drop]
                        simp
                      have hz2 : o2.size ≤ 500000000 := by rw [← bl_length]; exact HSZ.out _ _ HZ.out
                      have hoe : o ++ q = o2 := ho2.symm
                      clear ho2
                      go_wp2_with fail
                      refine (HEi.out _).mono ?_
                      rintro e w2 ⟨rfl, rfl⟩
                      go_wp2_with fail
                      refine (HQ.out _).mono ?_
                      rintro e w3 ⟨rfl, h3⟩
                      have H3 : Hid (Below w.heap.size w w3) := HI.out.1.trans (h3.mono HI.out.1.size)
                      clear h3
                      go_wp2
                      go_roundw
                      case rel => exact ⟨i + m, o2, by omega, by go_num, rfl, hz2, H3.out, HZ.out⟩
                      case measure => simp [intOf]; omega
                    · obtain ⟨x5, x6⟩ := ne_ba hcc
                      have NOC : Hid (∀ c m, Cand name c → endN (36 :: (bl s).drop (i + 1)) = some m → (36 :: (bl s).drop (i + 1)).take m ≠ bl c) := fun c m' hcd h ht => by
                        rw [HEN.out] at h
                        obtain rfl := Option.some.inj h
                        rw [hub] at ht
                        have he := bl_inj ht
                        rcases hcd with h1 | h1 | h1
                        · exact ha (by rw [he, h1, HCA.out.1])
                        · exact hbb (by rw [he, h1, HCA.out.2.1])
                        · exact hcc (by rw [he, h1.1, HCA.out.2.2])
                      clear hub ha hbb hcc hn1
                      obtain ⟨o2, ho2⟩ : ∃ o2, o2 = o ++ kDol := ⟨_, rfl⟩
                      have HZ : Hid (bindL U (bl q) (bl s) = bl o2 ++ bindL U (bl q) ((bl s).drop (i + 1))) := by
                        unfold Hid
                        rw [HI.out.2, HDR.out, HU.out, bind_no HHD.out NOC.out, ho2, bl_app]
                        simp [bl]
                      have hz2 : o2.size ≤ 500000000 := by rw [← bl_length]; exact HSZ.out _ _ HZ.out
                      have hoe : o ++ (⟨#[36]⟩ : ByteArray) = o2 := ho2.symm
                      clear ho2
                      go_wp2_with fail
                      refine (HEi.out _).mono ?_
                      rintro e w2 ⟨rfl, rfl⟩
                      go_wp2
                      go_roundw
                      case rel => exact ⟨i + 1, o2, by omega, by go_num, rfl, hz2, HI.out.1, HZ.out⟩
                      case measure => simp [intOf]; omega
                  · have hn1i : ¬ (name.size : Int) = 1 := by omega
                    have hn1b : ((name.size : Int) == 1) = false := by simpa using hn1i
                    have NOC : Hid (∀ c m, Cand name c → endN (36 :: (bl s).drop (i + 1)) = some m → (36 :: (bl s).drop (i + 1)).take m ≠ bl c) := fun c m' hcd h ht => by
                      rw [HEN.out] at h
                      obtain rfl := Option.some.inj h
                      rw [hub] at ht
                      have he := bl_inj ht
                      rcases hcd with h1 | h1 | h1
                      · exact ha (by rw [he, h1, HCA.out.1])
                      · exact hbb (by rw [he, h1, HCA.out.2.1])
                      · exact hn1 h1.2.1
                    clear hub ha hbb hn1
                    obtain ⟨o2, ho2⟩ : ∃ o2, o2 = o ++ kDol := ⟨_, rfl⟩
                    have HZ : Hid (bindL U (bl q) (bl s) = bl o2 ++ bindL U (bl q) ((bl s).drop (i + 1))) := by
                      unfold Hid
                      rw [HI.out.2, HDR.out, HU.out, bind_no HHD.out NOC.out, ho2, bl_app]
                      simp [bl]
                    have hz2 : o2.size ≤ 500000000 := by rw [← bl_length]; exact HSZ.out _ _ HZ.out
                    have hoe : o ++ (⟨#[36]⟩ : ByteArray) = o2 := ho2.symm
                    clear ho2
                    go_wp2_with fail
                    refine (HEi.out _).mono ?_
                    rintro e w2 ⟨rfl, rfl⟩
                    go_wp2
                    go_roundw
                    case rel => exact ⟨i + 1, o2, by omega, by go_num, rfl, hz2, HI.out.1, HZ.out⟩
                    case measure => simp [intOf]; omega
        · have hni : ¬ (i : Int) + 1 < (s.size : Int) := by omega
          have HHD : Hid (((bl s).drop (i + 1)).head? ≠ some 36) := by unfold Hid; rw [List.drop_of_length_le (by rw [bl_length]; omega)]; simp
          have HEi := fun W => HE.out i W hil
          rw [HDR.out] at HEi
          cases hen : endN (36 :: (bl s).drop (i + 1)) with
          | none =>
            rw [hen] at HEi
            have HEi : Hid (∀ W : World, Calls Tryd.prog 59 #[.string s, .int .i64 (i : Int)] W fun e w' => e = .returned (.int .i64 (-1)) ∧ W = w') := HEi
            have NOC : Hid (∀ c m, Cand name c → endN (36 :: (bl s).drop (i + 1)) = some m → (36 :: (bl s).drop (i + 1)).take m ≠ bl c) := fun c m _ h => by rw [hen] at h; cases h
            obtain ⟨x1, x2, x1s⟩ := ne_dol HDA.out.1
            obtain ⟨x3, x4, x3s⟩ := ne_dol HDA.out.2.1
            clear hen
            by_cases hn1 : name.size = 1
            · have hn1i : (name.size : Int) = 1 := by omega
              obtain ⟨x5, x6, x5s⟩ := ne_dol (HDA.out.2.2 hn1)
              clear hn1
              obtain ⟨o2, ho2⟩ : ∃ o2, o2 = o ++ kDol := ⟨_, rfl⟩
              have HZ : Hid (bindL U (bl q) (bl s) = bl o2 ++ bindL U (bl q) ((bl s).drop (i + 1))) := by
                unfold Hid
                rw [HI.out.2, HDR.out, HU.out, bind_no HHD.out NOC.out, ho2, bl_app]
                simp [bl]
              have hz2 : o2.size ≤ 500000000 := by rw [← bl_length]; exact HSZ.out _ _ HZ.out
              have hoe : o ++ (⟨#[36]⟩ : ByteArray) = o2 := ho2.symm
              clear ho2
              go_wp2_with fail
              refine (HEi.out _).mono ?_
              rintro e w2 ⟨rfl, rfl⟩
              go_wp2
              go_roundw
              case rel => exact ⟨i + 1, o2, by omega, by go_num, rfl, hz2, HI.out.1, HZ.out⟩
              case measure => simp [intOf]; omega
            · have hn1i : ¬ (name.size : Int) = 1 := by omega
              have hn1b : ((name.size : Int) == 1) = false := by simpa using hn1i
              obtain ⟨o2, ho2⟩ : ∃ o2, o2 = o ++ kDol := ⟨_, rfl⟩
              have HZ : Hid (bindL U (bl q) (bl s) = bl o2 ++ bindL U (bl q) ((bl s).drop (i + 1))) := by
                unfold Hid
                rw [HI.out.2, HDR.out, HU.out, bind_no HHD.out NOC.out, ho2, bl_app]
                simp [bl]
              have hz2 : o2.size ≤ 500000000 := by rw [← bl_length]; exact HSZ.out _ _ HZ.out
              have hoe : o ++ (⟨#[36]⟩ : ByteArray) = o2 := ho2.symm
              clear ho2
              go_wp2_with fail
              refine (HEi.out _).mono ?_
              rintro e w2 ⟨rfl, rfl⟩
              go_wp2
              go_roundw
              case rel => exact ⟨i + 1, o2, by omega, by go_num, rfl, hz2, HI.out.1, HZ.out⟩
              case measure => simp [intOf]; omega
          | some m =>
            rw [hen] at HEi
            have hml := Ex.end_le hen
            have hm2 : m ≤ s.size - i := by
              have h9 := hml.2
              rw [List.length_cons, List.length_drop, bl_length] at h9
              omega
            have hm1 := hml.1
            have HEi : Hid (∀ W : World, Calls Tryd.prog 59 #[.string s, .int .i64 (i : Int)] W fun e w' => e = .returned (.int .i64 ((i : Int) + (m : Int))) ∧ W = w') := fun W => (HEi W).mono fun e w' h => ⟨by rw [h.1]; rfl, h.2⟩
            have HEN : Hid (endN (36 :: (bl s).drop (i + 1)) = some m) := hen
            obtain ⟨u, hu⟩ : ∃ u, u = s.extract i (i + m) := ⟨_, rfl⟩
            have hub : (36 :: (bl s).drop (i + 1)).take m = bl u := by
              rw [hu, bl_extract, ← HDR.out, List.drop_take, Nat.add_sub_cancel_left]
            have hpos : (0 : Int) < (i : Int) + (m : Int) := by omega
            have hp2 : (i : Int) + (m : Int) ≤ (s.size : Int) := by omega
            have hp3 : (i : Int) ≤ (i : Int) + (m : Int) := by omega
            have hue : s.extract i (i + m) = u := hu.symm
            have htn : ((i : Int) + (m : Int)).toNat = i + m := by omega
            clear hu hen
            by_cases ha : u = cA
            · subst ha
              have CAND : Hid (Cand name u) := .inl HCA.out.1
              have HUT : Hid _ := hub
              clear hub
              obtain ⟨o2, ho2⟩ : ∃ o2, o2 = o ++ q := ⟨_, rfl⟩
              have HZ : Hid (bindL U (bl q) (bl s) = bl o2 ++ bindL U (bl q) ((bl s).drop (i + m))) := by
                unfold Hid
                rw [HI.out.2, HDR.out, HU.out, bind_yes rfl CAND.out HEN.out HUT.out, ho2, bl_app, ← HDR.out, List.drop_drop]
                simp
              have hz2 : o2.size ≤ 500000000 := by rw [← bl_length]; exact HSZ.out _ _ HZ.out
              have hoe : o ++ q = o2 := ho2.symm
              clear ho2
              go_wp2_with fail
              refine (HEi.out _).mono ?_
              rintro e w2 ⟨rfl, rfl⟩
              go_wp2_with fail
              refine (HQ.out _).mono ?_
              rintro e w3 ⟨rfl, h3⟩
              have H3 : Hid (Below w.heap.size w w3) := HI.out.1.trans (h3.mono HI.out.1.size)
              clear h3
              go_wp2
              go_roundw
              case rel => exact ⟨i + m, o2, by omega, by go_num, rfl, hz2, H3.out, HZ.out⟩
              case measure => simp [intOf]; omega
            · obtain ⟨x1, x2⟩ := ne_ba ha
              by_cases hbb : u = cB
              · subst hbb
                have CAND : Hid (Cand name u) := .inr (.inl HCA.out.2.1)
                have HUT : Hid _ := hub
                clear hub ha
                obtain ⟨o2, ho2⟩ : ∃ o2, o2 = o ++ q := ⟨_, rfl⟩
                have HZ : Hid (bindL U (bl q) (bl s) = bl o2 ++ bindL U (bl q) ((bl s).drop (i + m))) := by
                  unfold Hid
                  rw [HI.out.2, HDR.out, HU.out, bind_yes rfl CAND.out HEN.out HUT.out, ho2, bl_app, ← HDR.out, List.drop_drop]
                  simp
                have hz2 : o2.size ≤ 500000000 := by rw [← bl_length]; exact HSZ.out _ _ HZ.out
                have hoe : o ++ q = o2 := ho2.symm
                clear ho2
                go_wp2_with fail
                refine (HEi.out _).mono ?_
                rintro e w2 ⟨rfl, rfl⟩
                go_wp2_with fail
                refine (HQ.out _).mono ?_
                rintro e w3 ⟨rfl, h3⟩
                have H3 : Hid (Below w.heap.size w w3) := HI.out.1.trans (h3.mono HI.out.1.size)
                clear h3
                go_wp2
                go_roundw
                case rel => exact ⟨i + m, o2, by omega, by go_num, rfl, hz2, H3.out, HZ.out⟩
                case measure => simp [intOf]; omega
              · obtain ⟨x3, x4⟩ := ne_ba hbb
                by_cases hn1 : name.size = 1
                · have hn1i : (name.size : Int) = 1 := by omega
                  by_cases hcc : u = cC
                  · subst hcc
                    have CAND : Hid (Cand name u) := .inr (.inr ⟨HCA.out.2.2, hn1, fun e => by
                      have h8 : bl u = [36, 36] := by rw [HCA.out.2.2, e]; rfl
                      rw [h8] at hub
                      have h9 : (36 :: (bl s).drop (i + 1))[1]? = some 36 := by
                        have h10 : ((36 :: (bl s).drop (i + 1)).take m)[1]? = some 36 := by rw [hub]; rfl
                        rw [List.getElem?_take] at h10
                        split at h10
                        · exact h10
                        · cases h10
                      simp only [List.getElem?_cons_succ] at h9
                      rw [← List.head?_eq_getElem?] at h9
                      exact HHD.out h9⟩)
                    have HUT : Hid _ := hub
                    clear hub ha hbb hn1
                    obtain ⟨o2, ho2⟩ : ∃ o2, o2 = o ++ q := ⟨_, rfl⟩
                    have HZ : Hid (bindL U (bl q) (bl s) = bl o2 ++ bindL U (bl q) ((bl s).drop (i + m))) := by
                      unfold Hid
                      rw [HI.out.2, HDR.out, HU.out, bind_yes rfl CAND.out HEN.out HUT.out, ho2, bl_app, ← HDR.out, List.drop_drop]
                      simp
                    have hz2 : o2.size ≤ 500000000 := by rw [← bl_length]; exact HSZ.out _ _ HZ.out
                    have hoe : o ++ q = o2 := ho2.symm
                    clear ho2
                    go_wp2_with fail
                    refine (HEi.out _).mono ?_
                    rintro e w2 ⟨rfl, rfl⟩
                    go_wp2_with fail
                    refine (HQ.out _).mono ?_
                    rintro e w3 ⟨rfl, h3⟩
                    have H3 : Hid (Below w.heap.size w w3) := HI.out.1.trans (h3.mono HI.out.1.size)
                    clear h3
                    go_wp2
                    go_roundw
                    case rel => exact ⟨i + m, o2, by omega, by go_num, rfl, hz2, H3.out, HZ.out⟩
                    case measure => simp [intOf]; omega
                  · obtain ⟨x5, x6⟩ := ne_ba hcc
                    have NOC : Hid (∀ c m, Cand name c → endN (36 :: (bl s).drop (i + 1)) = some m → (36 :: (bl s).drop (i + 1)).take m ≠ bl c) := fun c m' hcd h ht => by
                      rw [HEN.out] at h
                      obtain rfl := Option.some.inj h
                      rw [hub] at ht
                      have he := bl_inj ht
                      rcases hcd with h1 | h1 | h1
                      · exact ha (by rw [he, h1, HCA.out.1])
                      · exact hbb (by rw [he, h1, HCA.out.2.1])
                      · exact hcc (by rw [he, h1.1, HCA.out.2.2])
                    clear hub ha hbb hcc hn1
                    obtain ⟨o2, ho2⟩ : ∃ o2, o2 = o ++ kDol := ⟨_, rfl⟩
                    have HZ : Hid (bindL U (bl q) (bl s) = bl o2 ++ bindL U (bl q) ((bl s).drop (i + 1))) := by
                      unfold Hid
                      rw [HI.out.2, HDR.out, HU.out, bind_no HHD.out NOC.out, ho2, bl_app]
                      simp [bl]
                    have hz2 : o2.size ≤ 500000000 := by rw [← bl_length]; exact HSZ.out _ _ HZ.out
                    have hoe : o ++ (⟨#[36]⟩ : ByteArray) = o2 := ho2.symm
                    clear ho2
                    go_wp2_with fail
                    refine (HEi.out _).mono ?_
                    rintro e w2 ⟨rfl, rfl⟩
                    go_wp2
                    go_roundw
                    case rel => exact ⟨i + 1, o2, by omega, by go_num, rfl, hz2, HI.out.1, HZ.out⟩
                    case measure => simp [intOf]; omega
                · have hn1i : ¬ (name.size : Int) = 1 := by omega
                  have hn1b : ((name.size : Int) == 1) = false := by simpa using hn1i
                  have NOC : Hid (∀ c m, Cand name c → endN (36 :: (bl s).drop (i + 1)) = some m → (36 :: (bl s).drop (i + 1)).take m ≠ bl c) := fun c m' hcd h ht => by
                    rw [HEN.out] at h
                    obtain rfl := Option.some.inj h
                    rw [hub] at ht
                    have he := bl_inj ht
                    rcases hcd with h1 | h1 | h1
                    · exact ha (by rw [he, h1, HCA.out.1])
                    · exact hbb (by rw [he, h1, HCA.out.2.1])
                    · exact hn1 h1.2.1
                  clear hub ha hbb hn1
                  obtain ⟨o2, ho2⟩ : ∃ o2, o2 = o ++ kDol := ⟨_, rfl⟩
                  have HZ : Hid (bindL U (bl q) (bl s) = bl o2 ++ bindL U (bl q) ((bl s).drop (i + 1))) := by
                    unfold Hid
                    rw [HI.out.2, HDR.out, HU.out, bind_no HHD.out NOC.out, ho2, bl_app]
                    simp [bl]
                  have hz2 : o2.size ≤ 500000000 := by rw [← bl_length]; exact HSZ.out _ _ HZ.out
                  have hoe : o ++ (⟨#[36]⟩ : ByteArray) = o2 := ho2.symm
                  clear ho2
                  go_wp2_with fail
                  refine (HEi.out _).mono ?_
                  rintro e w2 ⟨rfl, rfl⟩
                  go_wp2
                  go_roundw
                  case rel => exact ⟨i + 1, o2, by omega, by go_num, rfl, hz2, HI.out.1, HZ.out⟩
                  case measure => simp [intOf]; omega
      · have hc36 : ¬ s[i] = 36 := fun e => h36 (by rw [hcn, e]; rfl)
        have h36b : (cn == 36) = false := by simpa using h36
        obtain ⟨o2, ho2⟩ : ∃ o2, o2 = o ++ s.extract i (i + 1) := ⟨_, rfl⟩
        have HZ : Hid (bindL U (bl q) (bl s) = bl o2 ++ bindL U (bl q) ((bl s).drop (i + 1))) := by
          unfold Hid
          rw [HI.out.2, hdr, bindL_other _ hc36, ho2, bl_app, ext1 s i hil]; simp
        have hz2 : o2.size ≤ 500000000 := by rw [← bl_length]; exact HSZ.out _ _ HZ.out
        have hoe : o ++ s.extract i (i + 1) = o2 := ho2.symm
        clear hdr hcn hc36 ho2
        go_wp2
        go_roundw
        case rel => exact ⟨i + 1, o2, by omega, by go_num, rfl, hz2, HI.out.1, HZ.out⟩
        case measure => simp [intOf]; omega
    · have hii : ¬ (i : Int) < (s.size : Int) := by omega
      have HF : Hid (bindL U (bl q) (bl s) = bl o) := by
        unfold Hid
        rw [HI.out.2, List.drop_of_length_le (by rw [bl_length]; omega), bindL_nil, List.append_nil]
      go_wp2
      go_ret
      exact ⟨ret_str (by rw [HF.out, ba_bl]), HI.out.1⟩
end Go.Proofs.YtllpbehhbpefjaaDoor
