/-
  What the program's Format answers.
-/
import Derived.Test.YtbgnmchnfaknkaaDoorK13
import Derived.Test.YtbgnmchnfaknkaaDoorShelfJ
import Derived.Deep.RegionHeld3
namespace Go.Proofs.YtbgnmchnfaknkaaDoor
open Go.RowKit Go.Shelf

theorem lib_join (l : List (List UInt8)) : Lib.join l [32] = K.joinB l := by
  induction l with
  | nil => rfl
  | cons x t ih =>
    cases t with
    | nil => exact Lib.join_one x [32]
    | cons y t =>
      rw [K.joinB_cons2, ← ih, Lib.join_cons, Lib.join_cons]; simp [Lib.joinTail]
theorem map_bl_ba (l : List (List UInt8)) : (l.map ba).map (·.data.toList) = l := by
  rw [List.map_map]
  conv => rhs; rw [← List.map_id l]
  apply List.map_congr_left
  intro x _
  exact bl_ba x
theorem join_words (l : List (List UInt8)) (v : Value) (w : World) (h : Words w.heap.size w v (l.map ba)) (hn : l.length ≤ 3000000) (hl : (K.joinB l).length ≤ 140737488355328) :
    Calls Tryd.prog 26 #[v, .string ⟨#[32]⟩] w fun e w' => e = .returned (.string (ba (K.joinB l))) ∧ Below w.heap.size w w' := by
  have hj : Lib.join ((l.map ba).map (·.data.toList)) (⟨#[32]⟩ : ByteArray).data.toList = K.joinB l := by rw [map_bl_ba]; exact lib_join l
  by_cases hne : l = []
  · subst hne
    obtain ⟨a, n, c, rfl, hn, _⟩ := h
    simp at hn
    subst hn
    refine (Tryd.strings_Join_none a c ⟨#[32]⟩ w).mono ?_
    rintro e w' ⟨rfl, rfl⟩
    exact ⟨rfl, Below.refl _ _⟩
  · obtain ⟨b, o, c, rfl, hb, hc, hcell⟩ := h.at (by simpa using hne)
    refine (Tryd.strings_Join b o c (l.map ba) ⟨#[32]⟩ w ?_ hb (by rw [List.length_map]; omega) hc (by rw [hj]; exact hl)).mono ?_
    · intro j x hx
      obtain ⟨hjl, rfl⟩ := List.getElem?_eq_some_iff.1 hx
      exact hcell j hjl
    · rintro e w' ⟨rfl, hb⟩
      exact ⟨by rw [hj]; rfl, hb⟩

set_option maxHeartbeats 400000 in
theorem operator_any (k : Int) (w : World) :
    Calls Tryd.prog 27 #[.int .i64 k] w fun e w' => e = .returned (.string (ba (Q.opL k))) ∧ w = w' := by
  by_cases h2 : k = 2
  · subst h2
    go_enter Tryd.func27, Tryd.ntmps27
    go_wp2
    go_ret
    exact ⟨rfl, rfl⟩
  · by_cases h3 : k = 3
    · subst h3
      go_enter Tryd.func27, Tryd.ntmps27
      go_wp2
      go_ret
      exact ⟨rfl, rfl⟩
    · have hE : Q.opL k = [58] := by unfold Q.opL; rw [if_neg h2, if_neg h3]
      have b2 : (k == 2) = false := by simpa using h2
      have b3 : (k == 3) = false := by simpa using h3
      rw [hE]
      clear hE
      go_enter Tryd.func27, Tryd.ntmps27
      go_wp2
      go_ret
      exact ⟨rfl, rfl⟩
theorem add_ok (a b : ByteArray) (h : a.size + b.size ≤ 140737488355328) (W : World) : (Op.stringOp .add a b).run Tryd.prog W = .ok (.string (a ++ b)) W := run_string_add_sum W a b (by omega)
theorem ba_app (a b : List UInt8) : ba (a ++ b) = ba a ++ ba b := bl_inj (by rw [bl_app, bl_ba, bl_ba, bl_ba])

set_option maxRecDepth 20000 in
set_option maxHeartbeats 4000000 in
theorem format_any (r : Q.Ru) (v : Value) (w : World) (hv : RuV w.heap.size w v r) (hT : r.targets.length ≤ 1000000) (hS : r.sources.length ≤ 1000000) (hC : r.commands.length ≤ 1000000) (hcz : ∀ c ∈ r.commands, c.length ≤ 140737488) (hz : (Q.format r).length ≤ 4000000) :
    Calls Tryd.prog 11 #[v] w fun e w' => e = .returned (.string (ba (Q.format r))) ∧ Below w.heap.size w w' := by
  obtain ⟨vt, vs, vc, rfl, a1, a2, a3⟩ := hv
  obtain ⟨kd, hkd⟩ : ∃ k, k = r.kind := ⟨_, rfl⟩
  obtain ⟨at_, hat⟩ : ∃ k, k = r.at_ := ⟨_, rfl⟩
  obtain ⟨ta, tn, tc, rfl⟩ : ∃ a n c, vt = .slice a n c := by obtain ⟨a, n, c, h, _⟩ := a1; exact ⟨a, n, c, h⟩
  obtain ⟨sa, sn, sc, rfl⟩ : ∃ a n c, vs = .slice a n c := by obtain ⟨a, n, c, h, _⟩ := a2; exact ⟨a, n, c, h⟩
  obtain ⟨ca, cn, cc, rfl⟩ : ∃ a n c, vc = .slice a n c := by obtain ⟨a, n, c, h, _⟩ := a3; exact ⟨a, n, c, h⟩
  have hlen : (K.joinB r.targets).length + (Q.opL r.kind).length + (Q.srcPart r.sources).length + (Q.cmdPart r.commands).length ≤ 4000000 := by
    have := hz
    unfold Q.format at this
    simp only [List.length_append] at this
    exact this
  have hsj : (K.joinB r.sources).length ≤ 4000000 := by
    have h1 : (Q.srcPart r.sources).length ≤ 4000000 := by omega
    unfold Q.srcPart at h1
    by_cases hs0 : r.sources = []
    · rw [hs0]; simp [K.joinB]
    · rw [if_neg hs0] at h1; simp at h1; omega
  rw [← hkd, ← hat]
  have HB : Hid (Below w.heap.size w (w.alloc (.cells #[.slice ta tn tc, .int .i64 kd, .slice sa sn sc, .slice ca cn cc, .int .i64 at_] 24)).drew) := (below_alloc1 _ _).drew
  have hb := HB.out
  have hbs : w.heap.size ≤ (w.alloc (.cells #[.slice ta tn tc, .int .i64 kd, .slice sa sn sc, .slice ca cn cc, .int .i64 at_] 24)).drew.heap.size := hb.size
  have HJ : Hid (Calls Tryd.prog 26 #[.slice ta tn tc, .string ⟨#[32]⟩] (w.alloc (.cells #[.slice ta tn tc, .int .i64 kd, .slice sa sn sc, .slice ca cn cc, .int .i64 at_] 24)).drew fun e w' => e = .returned (.string (ba (K.joinB r.targets))) ∧ Below (w.alloc (.cells #[.slice ta tn tc, .int .i64 kd, .slice sa sn sc, .slice ca cn cc, .int .i64 at_] 24)).drew.heap.size (w.alloc (.cells #[.slice ta tn tc, .int .i64 kd, .slice sa sn sc, .slice ca cn cc, .int .i64 at_] 24)).drew w') := join_words _ _ _ ((a1.below hb).mono hbs) (by omega) (by omega)
  have HO : Hid (∀ W, Calls Tryd.prog 27 #[.int .i64 kd] W fun e w' => e = .returned (.string (ba (Q.opL kd))) ∧ W = w') := fun W => operator_any kd W
  have HJ2 : Hid (∀ W, Words W.heap.size W (.slice sa sn sc) (r.sources.map ba) → Calls Tryd.prog 26 #[.slice sa sn sc, .string ⟨#[32]⟩] W fun e w' => e = .returned (.string (ba (K.joinB r.sources))) ∧ Below W.heap.size W w') := fun W h => join_words _ _ W h (by omega) (by omega)
  have hbox : (w.alloc (.cells #[.slice ta tn tc, .int .i64 kd, .slice sa sn sc, .slice ca cn cc, .int .i64 at_] 24)).drew.heap[w.heap.size]? = some (.cells #[.slice ta tn tc, .int .i64 kd, .slice sa sn sc, .slice ca cn cc, .int .i64 at_] 24 (0, 0)) := WD.alloc_at w _
  have HK : Hid (∀ W, Below (w.alloc (.cells #[.slice ta tn tc, .int .i64 kd, .slice sa sn sc, .slice ca cn cc, .int .i64 at_] 24)).drew.heap.size (w.alloc (.cells #[.slice ta tn tc, .int .i64 kd, .slice sa sn sc, .slice ca cn cc, .int .i64 at_] 24)).drew W → Below w.heap.size w W ∧ W.heap[w.heap.size]? = some (.cells #[.slice ta tn tc, .int .i64 kd, .slice sa sn sc, .slice ca cn cc, .int .i64 at_] 24 (0, 0)) ∧ Words W.heap.size W (.slice sa sn sc) (r.sources.map ba) ∧ Words W.heap.size W (.slice ca cn cc) (r.commands.map ba)) := fun W hW => by
    have h2 := below_trans hb hW hbs
    exact ⟨h2, (hW.block _ (Array.getElem?_eq_some_iff.1 hbox).1).trans hbox, (a2.below h2).mono h2.size, (a3.below h2).mono h2.size⟩
  have HSk : Hid (∀ W, Below (w.alloc (.cells #[.slice ta tn tc, .int .i64 kd, .slice sa sn sc, .slice ca cn cc, .int .i64 at_] 24)).drew.heap.size (w.alloc (.cells #[.slice ta tn tc, .int .i64 kd, .slice sa sn sc, .slice ca cn cc, .int .i64 at_] 24)).drew W → W.cell? ⟨w.heap.size, 0, none⟩ = some (.slice ta tn tc) ∧ W.cell? ⟨w.heap.size, 1, none⟩ = some (.int .i64 kd)) := fun W hW => ⟨cell_in (HK.out W hW).2.1 0 rfl, cell_in (HK.out W hW).2.1 1 rfl⟩
  have HS0 : Hid ((w.alloc (.cells #[.slice ta tn tc, .int .i64 kd, .slice sa sn sc, .slice ca cn cc, .int .i64 at_] 24)).drew.cell? ⟨w.heap.size, 0, none⟩ = some (.slice ta tn tc) ∧ (w.alloc (.cells #[.slice ta tn tc, .int .i64 kd, .slice sa sn sc, .slice ca cn cc, .int .i64 at_] 24)).drew.cell? ⟨w.heap.size, 1, none⟩ = some (.int .i64 kd)) := ⟨cell_in hbox 0 rfl, cell_in hbox 1 rfl⟩
  have hsn : sn = r.sources.length := by have := a2.len.1; rwa [List.length_map] at this
  have hcn : cn = r.commands.length := by have := a3.len.1; rwa [List.length_map] at this
  have hcc := a3.len.2
  obtain ⟨xt, hxt⟩ : ∃ x, x = ba (K.joinB r.targets) := ⟨_, rfl⟩
  obtain ⟨xo, hxo⟩ : ∃ x, x = ba (Q.opL kd) := ⟨_, rfl⟩
  obtain ⟨xs, hxs⟩ : ∃ x, x = ba (K.joinB r.sources) := ⟨_, rfl⟩
  have lt : xt.size ≤ 4000000 := by rw [hxt, ba_size]; omega
  have lo : xo.size ≤ 4000000 := by rw [hxo, ba_size, hkd]; omega
  have ls : xs.size ≤ 4000000 := by rw [hxs, ba_size]; omega
  obtain ⟨s1, hs1⟩ : ∃ x, x = xt ++ xo := ⟨_, rfl⟩
  have l1 : s1.size ≤ 8000000 := by rw [hs1, ByteArray.size_append]; omega
  have q1 : ∀ W, (Op.stringOp .add xt xo).run Tryd.prog W = .ok (.string s1) W := fun W => by rw [hs1]; exact add_ok _ _ (by omega) W
  rw [← hxt] at HJ
  rw [← hxo] at HO
  rw [← hxs] at HJ2
  have HF : Hid (ba (Q.format r) = s1 ++ ba (Q.srcPart r.sources) ++ ba (Q.cmdPart r.commands)) := by
    unfold Hid Q.format
    rw [ba_app, ba_app, ba_app, hs1, hxt, hxo, hkd]
  clear hxt hxo hs1 hkd hat hbox hb hbs a1 a2 a3 hT hS hz hlen hsj HB
  by_cases hsrc : r.sources = []
  · by_cases hcmd : r.commands = []
    · have hs0 : r.sources = [] := hsrc
      have hsi : ¬ (0 : Int) < (sn : Int) := by rw [hsn, hs0]; simp
      have hsn0 : sn = 0 := by rw [hsn, hs0]; rfl
      obtain ⟨s3, hs3⟩ : ∃ x, x = s1 := ⟨_, rfl⟩
      have l3 : s3.size ≤ 16000000 := by rw [hs3]; omega
      have HS3 : Hid (s1 ++ ba (Q.srcPart r.sources) = s3) := by
        unfold Hid Q.srcPart
        rw [if_pos hs0, hs3]; exact ByteArray.append_empty
      have hc0 : r.commands = [] := hcmd
      have hci : ¬ (0 : Int) < (cn : Int) := by rw [hcn, hc0]; simp
      have hcn0 : cn = 0 := by rw [hcn, hc0]; rfl
      have HE : Hid (s1 ++ ba (Q.srcPart r.sources) ++ ba (Q.cmdPart r.commands) = s3) := by
        unfold Hid
        rw [HS3.out, hc0]; exact ByteArray.append_empty
      subst hs3
      clear hs0 hc0 hsn hcn hsrc hcmd hxs
      subst hsn0
      subst hcn0
      go_enter Tryd.func11, Tryd.ntmps11
      go_wp2_with fail
      go_region_held3 (fun W => W.cell? ⟨w.heap.size, 0, none⟩ = some (.slice ta tn tc) ∧ W.cell? ⟨w.heap.size, 1, none⟩ = some (.int .i64 kd))
        (first | exact HS0.out | exact HSk.out _ (by assumption))
        (first | (go_at_call 26; refine HJ.out.mono ?_; rintro e w1 ⟨rfl, h1⟩) | (go_at_call 27; refine (HO.out _).mono ?_; rintro e w' ⟨rfl, rfl⟩))
      all_goals
        have H1 := HK.out _ h1
        have HH1 : Hid _ := H1
        have d2 := cell_in H1.2.1 2 rfl
        have d3 := cell_in H1.2.1 3 rfl
        clear h1 H1
        have H2 : Hid (Below w.heap.size w w1 ∧ Words w1.heap.size w1 (.slice ca 0 cc) (r.commands.map ba)) := ⟨HH1.out.1, HH1.out.2.2.2⟩
        go_wp2
        go_ret
        exact ⟨ret_str (by rw [HF.out, HE.out]), H2.out.1⟩
    · have hs0 : r.sources = [] := hsrc
      have hsi : ¬ (0 : Int) < (sn : Int) := by rw [hsn, hs0]; simp
      have hsn0 : sn = 0 := by rw [hsn, hs0]; rfl
      obtain ⟨s3, hs3⟩ : ∃ x, x = s1 := ⟨_, rfl⟩
      have l3 : s3.size ≤ 16000000 := by rw [hs3]; omega
      have HS3 : Hid (s1 ++ ba (Q.srcPart r.sources) = s3) := by
        unfold Hid Q.srcPart
        rw [if_pos hs0, hs3]; exact ByteArray.append_empty
      have hc0 : ¬ r.commands = [] := hcmd
      have hci : (0 : Int) < (cn : Int) := by have := List.length_pos_iff.2 hc0; omega
      obtain ⟨c0, cr, hcr⟩ : ∃ c l, r.commands = c :: l := by
        cases h : r.commands with
        | nil => exact absurd h hc0
        | cons c l => exact ⟨c, l, rfl⟩
      obtain ⟨xc, hxc⟩ : ∃ x, x = ba c0 := ⟨_, rfl⟩
      have HC0 : Hid (cn = r.commands.length ∧ 0 < cn) := ⟨hcn, by omega⟩
      have l4 : xc.size ≤ 140737488 := by rw [hxc, ba_size]; exact hcz c0 (by rw [hcr]; simp)
      obtain ⟨s4, hs4⟩ : ∃ x, x = (⟨#[59, 32]⟩ : ByteArray) ++ xc := ⟨_, rfl⟩
      have l4' : s4.size ≤ 140737490 := by rw [hs4, ByteArray.size_append]; show 2 + xc.size ≤ _; omega
      have q4 : ∀ W, (Op.stringOp .add ⟨#[59, 32]⟩ xc).run Tryd.prog W = .ok (.string s4) W := fun W => by rw [hs4]; exact add_ok _ _ (by show 2 + xc.size ≤ _; omega) W
      obtain ⟨s5, hs5⟩ : ∃ x, x = s3 ++ s4 := ⟨_, rfl⟩
      have q5 : ∀ W, (Op.stringOp .add s3 s4).run Tryd.prog W = .ok (.string s5) W := fun W => by rw [hs5]; exact add_ok _ _ (by omega) W
      have HE : Hid (s1 ++ ba (Q.srcPart r.sources) ++ ba (Q.cmdPart r.commands) = s5) := by
        unfold Hid
        rw [HS3.out, hs5, hs4, hcr, hxc]; rfl
      have HC1 : Hid (∀ h : 0 < (r.commands.map ba).length, (r.commands.map ba)[0] = xc) := fun h => by
        have : (r.commands.map ba)[0]? = some xc := by rw [hcr, hxc]; rfl
        rw [List.getElem?_eq_getElem h] at this
        exact Option.some.inj this
      subst hs3
      clear hs0 hc0 hsn hcn hsrc hcmd hcr hxc hs4 hs5 hxs
      subst hsn0
      go_enter Tryd.func11, Tryd.ntmps11
      go_wp2_with fail
      go_region_held3 (fun W => W.cell? ⟨w.heap.size, 0, none⟩ = some (.slice ta tn tc) ∧ W.cell? ⟨w.heap.size, 1, none⟩ = some (.int .i64 kd))
        (first | exact HS0.out | exact HSk.out _ (by assumption))
        (first | (go_at_call 26; refine HJ.out.mono ?_; rintro e w1 ⟨rfl, h1⟩) | (go_at_call 27; refine (HO.out _).mono ?_; rintro e w' ⟨rfl, rfl⟩))
      all_goals
        have H1 := HK.out _ h1
        have HH1 : Hid _ := H1
        have d2 := cell_in H1.2.1 2 rfl
        have d3 := cell_in H1.2.1 3 rfl
        clear h1 H1
        have H2 : Hid (Below w.heap.size w w1 ∧ Words w1.heap.size w1 (.slice ca cn cc) (r.commands.map ba)) := ⟨HH1.out.1, HH1.out.2.2.2⟩
        obtain ⟨b, o, hca, hbB, hcx⟩ := (Hid.out H2).2.pick 0 (by rw [List.length_map, ← HC0.out.1]; exact HC0.out.2)
        subst hca
        rw [HC1.out (by rw [List.length_map, ← HC0.out.1]; exact HC0.out.2), Nat.add_zero] at hcx
        go_wp2
        go_ret
        exact ⟨ret_str (by rw [HF.out, HE.out]), H2.out.1⟩
  · by_cases hcmd : r.commands = []
    · have hs0 : ¬ r.sources = [] := hsrc
      have hsi : (0 : Int) < (sn : Int) := by have := List.length_pos_iff.2 hs0; omega
      obtain ⟨s2, hs2⟩ : ∃ x, x = (⟨#[32]⟩ : ByteArray) ++ xs := ⟨_, rfl⟩
      have l2 : s2.size ≤ 8000000 := by rw [hs2, ByteArray.size_append]; show 1 + xs.size ≤ _; omega
      have q2 : ∀ W, (Op.stringOp .add ⟨#[32]⟩ xs).run Tryd.prog W = .ok (.string s2) W := fun W => by rw [hs2]; exact add_ok _ _ (by show 1 + xs.size ≤ _; omega) W
      obtain ⟨s3, hs3⟩ : ∃ x, x = s1 ++ s2 := ⟨_, rfl⟩
      have l3 : s3.size ≤ 16000000 := by rw [hs3, ByteArray.size_append]; omega
      have q3 : ∀ W, (Op.stringOp .add s1 s2).run Tryd.prog W = .ok (.string s3) W := fun W => by rw [hs3]; exact add_ok _ _ (by omega) W
      have HS3 : Hid (s1 ++ ba (Q.srcPart r.sources) = s3) := by
        unfold Hid Q.srcPart
        rw [if_neg hs0, hs3, hs2, hxs]; rfl
      have hc0 : r.commands = [] := hcmd
      have hci : ¬ (0 : Int) < (cn : Int) := by rw [hcn, hc0]; simp
      have hcn0 : cn = 0 := by rw [hcn, hc0]; rfl
      have HE : Hid (s1 ++ ba (Q.srcPart r.sources) ++ ba (Q.cmdPart r.commands) = s3) := by
        unfold Hid
        rw [HS3.out, hc0]; exact ByteArray.append_empty
      clear hs0 hc0 hsn hcn hsrc hcmd hs2 hs3 hxs
      subst hcn0
      go_enter Tryd.func11, Tryd.ntmps11
      go_wp2_with fail
      go_region_held3 (fun W => W.cell? ⟨w.heap.size, 0, none⟩ = some (.slice ta tn tc) ∧ W.cell? ⟨w.heap.size, 1, none⟩ = some (.int .i64 kd))
        (first | exact HS0.out | exact HSk.out _ (by assumption))
        (first | (go_at_call 26; refine HJ.out.mono ?_; rintro e w1 ⟨rfl, h1⟩) | (go_at_call 27; refine (HO.out _).mono ?_; rintro e w' ⟨rfl, rfl⟩))
      all_goals
        have H1 := HK.out _ h1
        have HH1 : Hid _ := H1
        have d2 := cell_in H1.2.1 2 rfl
        have d3 := cell_in H1.2.1 3 rfl
        clear h1 H1
        go_wp2_with fail
        refine (HJ2.out _ HH1.out.2.2.1).mono ?_
        rintro e w2 ⟨rfl, h2⟩
        have H2 : Hid (Below w.heap.size w w2 ∧ Words w2.heap.size w2 (.slice ca 0 cc) (r.commands.map ba) ∧ w2.heap[w.heap.size]? = some (.cells #[.slice ta tn tc, .int .i64 kd, .slice sa sn sc, .slice ca 0 cc, .int .i64 at_] 24 (0, 0))) := ⟨below_trans HH1.out.1 h2 HH1.out.1.size, (HH1.out.2.2.2.below h2).mono h2.size, (h2.block _ (Array.getElem?_eq_some_iff.1 HH1.out.2.1).1).trans HH1.out.2.1⟩
        clear h2 d2 d3
        have d3 := cell_in H2.out.2.2 3 rfl
        go_wp2
        go_ret
        exact ⟨ret_str (by rw [HF.out, HE.out]), H2.out.1⟩
    · have hs0 : ¬ r.sources = [] := hsrc
      have hsi : (0 : Int) < (sn : Int) := by have := List.length_pos_iff.2 hs0; omega
      obtain ⟨s2, hs2⟩ : ∃ x, x = (⟨#[32]⟩ : ByteArray) ++ xs := ⟨_, rfl⟩
      have l2 : s2.size ≤ 8000000 := by rw [hs2, ByteArray.size_append]; show 1 + xs.size ≤ _; omega
      have q2 : ∀ W, (Op.stringOp .add ⟨#[32]⟩ xs).run Tryd.prog W = .ok (.string s2) W := fun W => by rw [hs2]; exact add_ok _ _ (by show 1 + xs.size ≤ _; omega) W
      obtain ⟨s3, hs3⟩ : ∃ x, x = s1 ++ s2 := ⟨_, rfl⟩
      have l3 : s3.size ≤ 16000000 := by rw [hs3, ByteArray.size_append]; omega
      have q3 : ∀ W, (Op.stringOp .add s1 s2).run Tryd.prog W = .ok (.string s3) W := fun W => by rw [hs3]; exact add_ok _ _ (by omega) W
      have HS3 : Hid (s1 ++ ba (Q.srcPart r.sources) = s3) := by
        unfold Hid Q.srcPart
        rw [if_neg hs0, hs3, hs2, hxs]; rfl
      have hc0 : ¬ r.commands = [] := hcmd
      have hci : (0 : Int) < (cn : Int) := by have := List.length_pos_iff.2 hc0; omega
      obtain ⟨c0, cr, hcr⟩ : ∃ c l, r.commands = c :: l := by
        cases h : r.commands with
        | nil => exact absurd h hc0
        | cons c l => exact ⟨c, l, rfl⟩
      obtain ⟨xc, hxc⟩ : ∃ x, x = ba c0 := ⟨_, rfl⟩
      have HC0 : Hid (cn = r.commands.length ∧ 0 < cn) := ⟨hcn, by omega⟩
      have l4 : xc.size ≤ 140737488 := by rw [hxc, ba_size]; exact hcz c0 (by rw [hcr]; simp)
      obtain ⟨s4, hs4⟩ : ∃ x, x = (⟨#[59, 32]⟩ : ByteArray) ++ xc := ⟨_, rfl⟩
      have l4' : s4.size ≤ 140737490 := by rw [hs4, ByteArray.size_append]; show 2 + xc.size ≤ _; omega
      have q4 : ∀ W, (Op.stringOp .add ⟨#[59, 32]⟩ xc).run Tryd.prog W = .ok (.string s4) W := fun W => by rw [hs4]; exact add_ok _ _ (by show 2 + xc.size ≤ _; omega) W
      obtain ⟨s5, hs5⟩ : ∃ x, x = s3 ++ s4 := ⟨_, rfl⟩
      have q5 : ∀ W, (Op.stringOp .add s3 s4).run Tryd.prog W = .ok (.string s5) W := fun W => by rw [hs5]; exact add_ok _ _ (by omega) W
      have HE : Hid (s1 ++ ba (Q.srcPart r.sources) ++ ba (Q.cmdPart r.commands) = s5) := by
        unfold Hid
        rw [HS3.out, hs5, hs4, hcr, hxc]; rfl
      have HC1 : Hid (∀ h : 0 < (r.commands.map ba).length, (r.commands.map ba)[0] = xc) := fun h => by
        have : (r.commands.map ba)[0]? = some xc := by rw [hcr, hxc]; rfl
        rw [List.getElem?_eq_getElem h] at this
        exact Option.some.inj this
      clear hs0 hc0 hsn hcn hsrc hcmd hs2 hs3 hcr hxc hs4 hs5 hxs
      go_enter Tryd.func11, Tryd.ntmps11
      go_wp2_with fail
      go_region_held3 (fun W => W.cell? ⟨w.heap.size, 0, none⟩ = some (.slice ta tn tc) ∧ W.cell? ⟨w.heap.size, 1, none⟩ = some (.int .i64 kd))
        (first | exact HS0.out | exact HSk.out _ (by assumption))
        (first | (go_at_call 26; refine HJ.out.mono ?_; rintro e w1 ⟨rfl, h1⟩) | (go_at_call 27; refine (HO.out _).mono ?_; rintro e w' ⟨rfl, rfl⟩))
      all_goals
        have H1 := HK.out _ h1
        have HH1 : Hid _ := H1
        have d2 := cell_in H1.2.1 2 rfl
        have d3 := cell_in H1.2.1 3 rfl
        clear h1 H1
        go_wp2_with fail
        refine (HJ2.out _ HH1.out.2.2.1).mono ?_
        rintro e w2 ⟨rfl, h2⟩
        have H2 : Hid (Below w.heap.size w w2 ∧ Words w2.heap.size w2 (.slice ca cn cc) (r.commands.map ba) ∧ w2.heap[w.heap.size]? = some (.cells #[.slice ta tn tc, .int .i64 kd, .slice sa sn sc, .slice ca cn cc, .int .i64 at_] 24 (0, 0))) := ⟨below_trans HH1.out.1 h2 HH1.out.1.size, (HH1.out.2.2.2.below h2).mono h2.size, (h2.block _ (Array.getElem?_eq_some_iff.1 HH1.out.2.1).1).trans HH1.out.2.1⟩
        clear h2 d2 d3
        have d3 := cell_in H2.out.2.2 3 rfl
        obtain ⟨b, o, hca, hbB, hcx⟩ := (Hid.out H2).2.1.pick 0 (by rw [List.length_map, ← HC0.out.1]; exact HC0.out.2)
        subst hca
        rw [HC1.out (by rw [List.length_map, ← HC0.out.1]; exact HC0.out.2), Nat.add_zero] at hcx
        go_wp2
        go_ret
        exact ⟨ret_str (by rw [HF.out, HE.out]), H2.out.1⟩
end Go.Proofs.YtbgnmchnfaknkaaDoor
