/-
  PMaker PMk PPart
-/
import Derived.Test.YtedepknbaakkhabGreatDoorK25
set_option maxRecDepth 20000
namespace Go.Proofs.YtedepknbaakkhabGreatDoor.X
open Go.RowKit Go.Shelf RxSem
def fk (a b : Int) : SV := ⟨3, W4.zero, a, b⟩
def maybeV (A : List SV) : List SV := fk 1 (A.length + 1) :: A
def againV (A : List SV) : List SV := A ++ [fk (-(A.length : Int)) 1]
def eitherV (A B : List SV) : List SV := fk 1 (A.length + 2) :: (A ++ fk (B.length + 1) (B.length + 1) :: B)
theorem maybeV_abs (A : List SV) : (maybeV A).map SV.abs = maybe (A.map SV.abs) := by simp [maybeV, maybe, fk, SV.abs]
theorem againV_abs (A : List SV) : (againV A).map SV.abs = agn (A.map SV.abs) := by simp [againV, agn, fk, SV.abs]
theorem eitherV_abs (A B : List SV) : (eitherV A B).map SV.abs = either (A.map SV.abs) (B.map SV.abs) := by simp [eitherV, either, fk, SV.abs]
theorem fk_ok {a b : Int} (h1 : -1000000 ≤ a ∧ a ≤ 1000000) (h2 : -1000000 ≤ b ∧ b ≤ 1000000) : (fk a b).Ok := ⟨W4.zero_ok, by simp [fk], h1, h2⟩
set_option maxHeartbeats 400000 in
theorem forked_any (a b : Int) (w : World) : Calls Tryz.prog 208 #[.int .i64 a, .int .i64 b] w fun e w' => e = .returned (.slice (some ⟨w.heap.size, 0, none⟩) 1 1) ∧ Row w.heap.size (.slice (some ⟨w.heap.size, 0, none⟩) 1 1) [fk a b] w' ∧ Below w.heap.size w w' := by
  go_enter Tryz.func208, Tryz.ntmps208
  go_wp2_with fail
  go_ret
  refine ⟨rfl, ⟨rfl, .inr ⟨w.heap.size, 1, _, rfl, Nat.le_refl _, heap_alloc_new _ _, by simp, by unfold maxLen; omega, rfl, rfl⟩⟩, (Below.refl _ _).alloc (Nat.le_refl _) _⟩
set_option maxHeartbeats 400000 in
theorem maybe_any (va : Value) (A : List SV) (w : World) (h : Row 0 va A w) (hA : A.length ≤ 10000) : Calls Tryz.prog 218 #[va] w fun e w' => ∃ v, e = .returned v ∧ Row w.heap.size v (maybeV A) w' ∧ Below w.heap.size w w' := by
  obtain ⟨av, cv, hv⟩ := row_slice h
  obtain ⟨n, hn⟩ : ∃ n, n = A.length := ⟨_, rfl⟩
  rw [← hn] at hv
  subst hv
  have HFk : Hid (∀ a b W, Calls Tryz.prog 208 #[.int .i64 a, .int .i64 b] W fun e w' => e = .returned (.slice (some ⟨W.heap.size, 0, none⟩) 1 1) ∧ Row W.heap.size (.slice (some ⟨W.heap.size, 0, none⟩) 1 1) [fk a b] w' ∧ Below W.heap.size W w') := forked_any
  have HX : Hid (n = A.length ∧ Row 0 (.slice av n cv) A w) := ⟨hn, h⟩
  rw [← hn] at hA
  clear h hn
  go_enter Tryz.func218, Tryz.ntmps218
  go_wp2_with fail
  refine (HFk.out _ _ _).mono ?_
  rintro e w1 ⟨rfl, hr1, hb1⟩
  obtain ⟨wa, hwa, hBa, hSa, hka⟩ := one_box w1 (.cells #[.slice (some ⟨w.heap.size, 0, none⟩) 1 1, .slice av n cv] 111)
  have hbw : Below w.heap.size w wa := hb1.trans (hBa.mono hb1.size)
  have HC : Hid (Calls Tryz.prog 207 #[.slice (some ⟨w1.heap.size, 0, none⟩) 2 2] wa fun e w' => ∃ v, e = .returned v ∧ Row wa.heap.size v (maybeV A) w' ∧ Below wa.heap.size wa w') := by
    have hP : Parts w1.heap.size [(.slice (some ⟨w.heap.size, 0, none⟩) 1 1, [fk 1 ((n : Int) + 1)]), (.slice av n cv, A)] wa := ⟨hka, fun x hx => by
      simp at hx
      rcases hx with rfl | rfl
      · exact owns_below (row_base hr1 (Nat.zero_le _)) hBa
      · exact owns_below (owns_below HX.out.2 hb1) hBa⟩
    have hl := HX.out.1
    refine (concat_any w1.heap.size _ wa hP (by simp) (by simp; omega) (by simp)).mono ?_
    rintro e w' ⟨v, he, hR, hB⟩
    refine ⟨v, he, ?_, hB⟩
    have e2 : maybeV A = ([(.slice (some ⟨w.heap.size, 0, none⟩) 1 1, [fk 1 ((n : Int) + 1)]), (.slice av n cv, A)] : List (Value × List SV)).flatMap (·.2) := by simp [maybeV, ← hl]
    rw [e2]; exact hR
  have H1 : Hid (Below w.heap.size w wa) := hbw
  clear hr1 hb1 hBa hSa hka HFk hbw
  go_wp2_with fail
  rw [← hwa]
  refine HC.out.mono ?_
  rintro e w2 ⟨v, rfl, hR, hB⟩
  have H2 : Hid (Row wa.heap.size v (maybeV A) w2 ∧ Below wa.heap.size wa w2) := ⟨hR, hB⟩
  clear hR hB HC
  go_wp2_with fail
  go_ret
  exact ⟨v, rfl, row_base H2.out.1 H1.out.size, H1.out.trans (H2.out.2.mono H1.out.size)⟩
set_option maxHeartbeats 400000 in
theorem again_any (va : Value) (A : List SV) (w : World) (h : Row 0 va A w) (hA : A.length ≤ 10000) : Calls Tryz.prog 219 #[va] w fun e w' => ∃ v, e = .returned v ∧ Row w.heap.size v (againV A) w' ∧ Below w.heap.size w w' := by
  obtain ⟨av, cv, hv⟩ := row_slice h
  obtain ⟨n, hn⟩ : ∃ n, n = A.length := ⟨_, rfl⟩
  rw [← hn] at hv
  subst hv
  have HFk : Hid (∀ a b W, Calls Tryz.prog 208 #[.int .i64 a, .int .i64 b] W fun e w' => e = .returned (.slice (some ⟨W.heap.size, 0, none⟩) 1 1) ∧ Row W.heap.size (.slice (some ⟨W.heap.size, 0, none⟩) 1 1) [fk a b] w' ∧ Below W.heap.size W w') := forked_any
  have HX : Hid (n = A.length ∧ Row 0 (.slice av n cv) A w) := ⟨hn, h⟩
  rw [← hn] at hA
  clear h hn
  go_enter Tryz.func219, Tryz.ntmps219
  go_wp2_with fail
  refine (HFk.out _ _ _).mono ?_
  rintro e w1 ⟨rfl, hr1, hb1⟩
  obtain ⟨wa, hwa, hBa, hSa, hka⟩ := one_box w1 (.cells #[.slice av n cv, .slice (some ⟨w.heap.size, 0, none⟩) 1 1] 111)
  have hbw : Below w.heap.size w wa := hb1.trans (hBa.mono hb1.size)
  have HC : Hid (Calls Tryz.prog 207 #[.slice (some ⟨w1.heap.size, 0, none⟩) 2 2] wa fun e w' => ∃ v, e = .returned v ∧ Row wa.heap.size v (againV A) w' ∧ Below wa.heap.size wa w') := by
    have hP : Parts w1.heap.size [(.slice av n cv, A), (.slice (some ⟨w.heap.size, 0, none⟩) 1 1, [fk (-(n : Int)) 1])] wa := ⟨hka, fun x hx => by
      simp at hx
      rcases hx with rfl | rfl
      · exact owns_below (owns_below HX.out.2 hb1) hBa
      · exact owns_below (row_base hr1 (Nat.zero_le _)) hBa⟩
    have hl := HX.out.1
    refine (concat_any w1.heap.size _ wa hP (by simp) (by simp; omega) (by simp)).mono ?_
    rintro e w' ⟨v, he, hR, hB⟩
    refine ⟨v, he, ?_, hB⟩
    have e2 : againV A = ([(.slice av n cv, A), (.slice (some ⟨w.heap.size, 0, none⟩) 1 1, [fk (-(n : Int)) 1])] : List (Value × List SV)).flatMap (·.2) := by simp [againV, ← hl]
    rw [e2]; exact hR
  have H1 : Hid (Below w.heap.size w wa) := hbw
  clear hr1 hb1 hBa hSa hka HFk hbw
  go_wp2_with fail
  rw [← hwa]
  refine HC.out.mono ?_
  rintro e w2 ⟨v, rfl, hR, hB⟩
  have H2 : Hid (Row wa.heap.size v (againV A) w2 ∧ Below wa.heap.size wa w2) := ⟨hR, hB⟩
  clear hR hB HC
  go_wp2_with fail
  go_ret
  exact ⟨v, rfl, row_base H2.out.1 H1.out.size, H1.out.trans (H2.out.2.mono H1.out.size)⟩
set_option maxHeartbeats 400000 in
theorem either_any (va vb : Value) (A B : List SV) (w : World) (h : Row 0 va A w) (h2 : Row 0 vb B w) (hA : A.length ≤ 10000) (hB : B.length ≤ 10000) : Calls Tryz.prog 201 #[va, vb] w fun e w' => ∃ v, e = .returned v ∧ Row w.heap.size v (eitherV A B) w' ∧ Below w.heap.size w w' := by
  obtain ⟨av, cv, hv⟩ := row_slice h
  obtain ⟨n, hn⟩ : ∃ n, n = A.length := ⟨_, rfl⟩
  rw [← hn] at hv
  subst hv
  obtain ⟨av2, cv2, hv2⟩ := row_slice h2
  obtain ⟨m, hm⟩ : ∃ n, n = B.length := ⟨_, rfl⟩
  rw [← hm] at hv2
  subst hv2
  have HFk : Hid (∀ a b W, Calls Tryz.prog 208 #[.int .i64 a, .int .i64 b] W fun e w' => e = .returned (.slice (some ⟨W.heap.size, 0, none⟩) 1 1) ∧ Row W.heap.size (.slice (some ⟨W.heap.size, 0, none⟩) 1 1) [fk a b] w' ∧ Below W.heap.size W w') := forked_any
  have HX : Hid (n = A.length ∧ Row 0 (.slice av n cv) A w ∧ m = B.length ∧ Row 0 (.slice av2 m cv2) B w) := ⟨hn, h, hm, h2⟩
  rw [← hn] at hA
  rw [← hm] at hB
  clear h h2 hn hm
  go_enter Tryz.func201, Tryz.ntmps201
  go_wp2_with fail
  refine (HFk.out _ _ _).mono ?_
  rintro e w1 ⟨rfl, hr1, hb1⟩
  have H1 : Hid (Row w.heap.size (.slice (some ⟨w.heap.size, 0, none⟩) 1 1) [fk 1 ((n : Int) + 2)] w1 ∧ Below w.heap.size w w1) := ⟨hr1, hb1⟩
  clear hr1 hb1
  go_wp2_with fail
  refine (HFk.out _ _ _).mono ?_
  rintro e w2 ⟨rfl, hr2, hb2⟩
  obtain ⟨wa, hwa, hBa, hSa, hka⟩ := one_box w2 (.cells #[.slice (some ⟨w.heap.size, 0, none⟩) 1 1, .slice av n cv, .slice (some ⟨w1.heap.size, 0, none⟩) 1 1, .slice av2 m cv2] 111)
  have hb12 : Below w.heap.size w w2 := H1.out.2.trans (hb2.mono H1.out.2.size)
  have hbw : Below w.heap.size w wa := hb12.trans (hBa.mono hb12.size)
  have HC : Hid (Calls Tryz.prog 207 #[.slice (some ⟨w2.heap.size, 0, none⟩) 4 4] wa fun e w' => ∃ v, e = .returned v ∧ Row wa.heap.size v (eitherV A B) w' ∧ Below wa.heap.size wa w') := by
    have hP : Parts w2.heap.size [(.slice (some ⟨w.heap.size, 0, none⟩) 1 1, [fk 1 ((n : Int) + 2)]), (.slice av n cv, A), (.slice (some ⟨w1.heap.size, 0, none⟩) 1 1, [fk ((m : Int) + 1) ((m : Int) + 1)]), (.slice av2 m cv2, B)] wa := ⟨hka, fun x hx => by
      simp at hx
      rcases hx with rfl | rfl | rfl | rfl
      · exact owns_below (owns_below (row_base H1.out.1 (Nat.zero_le _)) hb2) hBa
      · exact owns_below (owns_below (owns_below HX.out.2.1 H1.out.2) hb2) hBa
      · exact owns_below (row_base hr2 (Nat.zero_le _)) hBa
      · exact owns_below (owns_below (owns_below HX.out.2.2.2 H1.out.2) hb2) hBa⟩
    have hl := HX.out.1
    have hl2 := HX.out.2.2.1
    refine (concat_any w2.heap.size _ wa hP (by simp) (by simp; omega) (by simp)).mono ?_
    rintro e w' ⟨v, he, hR, hB⟩
    refine ⟨v, he, ?_, hB⟩
    have e2 : eitherV A B = ([(.slice (some ⟨w.heap.size, 0, none⟩) 1 1, [fk 1 ((n : Int) + 2)]), (.slice av n cv, A), (.slice (some ⟨w1.heap.size, 0, none⟩) 1 1, [fk ((m : Int) + 1) ((m : Int) + 1)]), (.slice av2 m cv2, B)] : List (Value × List SV)).flatMap (·.2) := by simp [eitherV, ← hl, ← hl2]
    rw [e2]; exact hR
  have H2 : Hid (Below w.heap.size w wa) := hbw
  clear hr2 hb2 hBa hSa hka HFk hbw hb12
  go_wp2_with fail
  rw [← hwa]
  refine HC.out.mono ?_
  rintro e w3 ⟨v, rfl, hR, hB⟩
  have H3 : Hid (Row wa.heap.size v (eitherV A B) w3 ∧ Below wa.heap.size wa w3) := ⟨hR, hB⟩
  clear hR hB HC
  go_wp2_with fail
  go_ret
  exact ⟨v, rfl, row_base H3.out.1 H2.out.size, H2.out.trans (H3.out.2.mono H2.out.size)⟩
end Go.Proofs.YtedepknbaakkhabGreatDoor.X
namespace Go.Proofs.YtedepknbaakkhabGreatDoor.X
open Go.RowKit Go.Shelf RxSem
structure Mk (bm sb : Nat) (v : Value) (L : List SG) (i : Nat) (w : World) : Prop where
  blk : w.heap[bm]? = some (.cells #[v, .int .i64 (i : Int)] 236 (0, 0))
  row : w.ownsRow sb 148 8 v L.length (L.flatMap signC)
  few : L.length ≤ 200
theorem Mk.lt {bm sb : Nat} {v : Value} {L : List SG} {i : Nat} {w : World} (h : Mk bm sb v L i w) : bm < w.heap.size := (Array.getElem?_eq_some_iff.1 h.blk).1
theorem Mk.step {bm sb : Nat} {v : Value} {L : List SG} {i : Nat} {w : World} (h : Mk bm sb v L i w) (j : Nat) : Mk bm sb v L j (w.setCell ⟨bm, 1, none⟩ (.int .i64 (j : Int))) :=
  ⟨heap_set h.blk _, row_set h.row (row_ne h.row h.blk (by decide)) _, h.few⟩
theorem Mk.below {bm sb : Nat} {v : Value} {L : List SG} {i : Nat} {w w' : World} (h : Mk bm sb v L i w) (hb : Below w.heap.size w w') : Mk bm sb v L i w' :=
  ⟨(hb.block bm h.lt).trans h.blk, owns_below h.row hb, h.few⟩
theorem Mk.sign {bm sb : Nat} {v : Value} {L : List SG} {i : Nat} {w : World} (h : Mk bm sb v L i w) (j : Nat) (hj : j < L.length) : ∃ g cap, v = .slice (some ⟨g, 0, none⟩) L.length cap ∧ ∀ c, c < 8 → w.cell? ⟨g, 8 * j + c, none⟩ = (signC L[j])[c]? := by
  have hr := h.row
  rcases hr.2 with ⟨h1, h2⟩ | ⟨g, cap, cur, h1, _⟩
  · omega
  · refine ⟨g, cap, h1, fun c hc => ?_⟩
    subst h1
    have e := flat_get signC 8 (fun _ => rfl) L j c hj hc
    have hl : c < (signC L[j]).length := by rw [signC_len]; exact hc
    rw [List.getElem?_eq_getElem hl] at e ⊢
    exact row_cell hr _ _ e
theorem Mk.drewN {bm sb : Nat} {v : Value} {L : List SG} {i : Nat} {w : World} (h : Mk bm sb v L i w) (n : Nat) : Mk bm sb v L i (w.drewN n) := ⟨h.blk, h.row, h.few⟩
def isNext (c : UInt8) : List SG → Bool
  | x :: _ => x.m == c
  | [] => false
set_option maxHeartbeats 400000 in
theorem is_any' {bm sb : Nat} {v : Value} {L : List SG} {i : Nat} (c : UInt8) (w : World) (h : Mk bm sb v L i w) (hi : i ≤ L.length) : Calls Tryz.prog 200 #[.pointer (some ⟨bm, 0, none⟩), .int .u8 (c.toNat : Int)] w fun e w' => e = .returned (.bool (isNext c (L.drop i))) ∧ Mk bm sb v L (if isNext c (L.drop i) then i + 1 else i) w' ∧ Wrote bm w w' := by
  have c0 : w.cell? ⟨bm, 0, none⟩ = some v := by simp only [World.cell?, h.blk]; rfl
  have c1 : w.cell? ⟨bm, 1, none⟩ = some (.int .i64 (i : Int)) := by simp only [World.cell?, h.blk]; rfl
  have fb : ∀ j, w.frozen? ⟨bm, j, none⟩ = false := fun j => by simp [World.frozen?, h.blk]
  have hbl := h.lt
  have HM : Hid (Mk bm sb v L i w) := h
  have hfew := h.few
  obtain ⟨n, hn⟩ : ∃ n, n = L.length := ⟨_, rfl⟩
  by_cases hlt : i < L.length
  · obtain ⟨g, cap, hv, hs⟩ := h.sign i hlt
    have s0 : w.cell? ⟨g, i * 8, none⟩ = some (.int .u8 (L[i].m.toNat : Int)) := by
      have := hs 0 (by omega); rw [Nat.add_zero, Nat.mul_comm] at this; exact this
    have hd : L.drop i = L[i] :: L.drop (i + 1) := List.drop_eq_getElem_cons hlt
    obtain ⟨x, hx⟩ : ∃ x, x = L[i].m := ⟨_, rfl⟩
    rw [← hx] at s0
    have HD : Hid (∀ b, (x == c) = b → isNext c (L.drop i) = b) := fun b hb => by rw [hd]; show (L[i].m == c) = b; rw [← hx]; exact hb
    rw [← hn] at hv hlt hfew
    subst hv
    have hl2 : (i : Int) < (n : Int) := by omega
    clear hs hd hx h hn
    by_cases hxc : x = c
    · have HD2 : Hid (isNext c (L.drop i) = true) := HD.out true (by simp [hxc])
      subst hxc
      rw [HD2.out]
      clear HD
      go_enter Tryz.func200, Tryz.ntmps200
      go_wp2_with fail
      go_quiet (fail)
      go_wp2_with fail
      go_ret
      exact ⟨rfl, (HM.out.drewN _).step (i + 1), ((Wrote.refl _ _).drewN _).set _⟩
    · have HD2 : Hid (isNext c (L.drop i) = false) := HD.out false (by simp [hxc])
      have hxn : ¬ (x.toNat : Int) = (c.toNat : Int) := fun e => hxc (by rw [u8_eq_iff]; omega)
      rw [HD2.out]
      clear HD
      go_enter Tryz.func200, Tryz.ntmps200
      go_wp2_with fail
      go_quiet (fail)
      go_wp2_with fail
      go_ret
      exact ⟨rfl, HM.out.drewN _, (Wrote.refl _ _).drewN _⟩
  · have hd : L.drop i = [] := List.drop_of_length_le (by omega)
    have HD2 : Hid (isNext c (L.drop i) = false) := by unfold Hid; rw [hd]; rfl
    obtain ⟨a, cap, hv⟩ := row_slice h.row
    rw [← hn] at hv hlt hfew hi
    subst hv
    have hl2 : ¬ (i : Int) < (n : Int) := by omega
    rw [HD2.out]
    clear h hn hd
    go_enter Tryz.func200, Tryz.ntmps200
    go_wp2_with fail
    go_quiet (fail)
    go_wp2_with fail
    go_ret
    exact ⟨rfl, HM.out.drewN _, (Wrote.refl _ _).drewN _⟩
def MkPost (bm sb : Nat) (v : Value) (L : List SG) (rest : List Sg) (C : List Stp) (w : World) (e : Ending) (w' : World) : Prop := ∃ (v' : Value) (A : List SV) (j : Nat), e = .returned v' ∧ Row w.heap.size v' A w' ∧ Mk bm sb v L j w' ∧ j ≤ L.length ∧ (L.drop j).map SG.abs = rest ∧ Wrote bm w w' ∧ A.map SV.abs = C ∧ ∀ x ∈ A, x.Ok
def ThingC (bm sb : Nat) (v : Value) (L : List SG) (m : Nat) : Prop := ∀ (i : Nat) (n : Nd) (rest : List Sg) (w : World), L.length - i ≤ m → i ≤ L.length → Mk bm sb v L i w → (∀ x ∈ L, x.v.Ok) → SP .thing ((L.drop i).map SG.abs) [n] rest → Calls Tryz.prog 217 #[.pointer (some ⟨bm, 0, none⟩)] w (MkPost bm sb v L rest (code n) w)
def WaysC (bm sb : Nat) (v : Value) (L : List SG) (m : Nat) : Prop := ∀ (i : Nat) (k : List Nd) (rest : List Sg) (w : World), L.length - i ≤ m → i ≤ L.length → Mk bm sb v L i w → (∀ x ∈ L, x.v.Ok) → SP .ways ((L.drop i).map SG.abs) k rest → Calls Tryz.prog 192 #[.pointer (some ⟨bm, 0, none⟩)] w (MkPost bm sb v L rest (code (.alt k)) w)
theorem drop_mark {L : List SG} {i : Nat} {c : UInt8} {t : List Sg} (h : (L.drop i).map SG.abs = .mark c :: t) : ∃ hi : i < L.length, L[i].m = c ∧ c ≠ 0 ∧ (L.drop (i + 1)).map SG.abs = t := by
  have hi : i < L.length := by
    rcases Nat.lt_or_ge i L.length with h1 | h1
    · exact h1
    · rw [List.drop_of_length_le h1] at h; cases h
  rw [List.drop_eq_getElem_cons hi, List.map_cons] at h
  simp only [List.cons.injEq] at h
  refine ⟨hi, ?_, ?_, h.2⟩
  · have := h.1; unfold SG.abs at this; split at this
    · cases this
    · cases this; rfl
  · have := h.1; unfold SG.abs at this; split at this
    · cases this
    · rename_i h0; cases this; exact h0
theorem drop_thing {L : List SG} {i : Nat} {x : Stp} {t : List Sg} (h : (L.drop i).map SG.abs = .thing x :: t) : ∃ hi : i < L.length, L[i].m = 0 ∧ L[i].v.abs = x ∧ (L.drop (i + 1)).map SG.abs = t := by
  have hi : i < L.length := by
    rcases Nat.lt_or_ge i L.length with h1 | h1
    · exact h1
    · rw [List.drop_of_length_le h1] at h; cases h
  rw [List.drop_eq_getElem_cons hi, List.map_cons] at h
  simp only [List.cons.injEq] at h
  refine ⟨hi, ?_, ?_, h.2⟩
  · have := h.1; unfold SG.abs at this; split at this
    · assumption
    · cases this
  · have := h.1; unfold SG.abs at this; split at this
    · cases this; rfl
    · cases this
set_option maxHeartbeats 400000 in
theorem thing_one {bm sb : Nat} {v : Value} {L : List SG} (i : Nat) (w : World) (h : Mk bm sb v L i w) (hi : i < L.length) (hok : ∀ x ∈ L, x.v.Ok) (hm : L[i].m = 0) : Calls Tryz.prog 217 #[.pointer (some ⟨bm, 0, none⟩)] w (MkPost bm sb v L ((L.drop (i + 1)).map SG.abs) [L[i].v.abs] w) := by
  have HIs : Hid (∀ W, Mk bm sb v L i W → Calls Tryz.prog 200 #[.pointer (some ⟨bm, 0, none⟩), .int .u8 40] W fun e w' => e = .returned (.bool false) ∧ Mk bm sb v L i w' ∧ Wrote bm W w') := fun W hW => by
    have := is_any' 40 W hW (by omega)
    have e : isNext 40 (L.drop i) = false := by rw [List.drop_eq_getElem_cons hi]; show (L[i].m == 40) = false; rw [hm]; rfl
    rw [e] at this
    exact this
  have HM : Hid (Mk bm sb v L i w) := h
  clear h
  go_enter Tryz.func217, Tryz.ntmps217
  go_wp2_with fail
  refine (HIs.out w HM.out).mono ?_
  rintro e w1 ⟨rfl, hM1, hw1⟩
  have c1 : w1.cell? ⟨bm, 1, none⟩ = some (.int .i64 (i : Int)) := by simp only [World.cell?, hM1.blk]; rfl
  have fb : ∀ j, w1.frozen? ⟨bm, j, none⟩ = false := fun j => by simp [World.frozen?, hM1.blk]
  have HM1 : Hid (Mk bm sb v L i w1 ∧ Wrote bm w w1) := ⟨hM1, hw1⟩
  have hfew := hM1.few
  have hi3 : i ≤ 200 := by omega
  clear hM1 hw1 HIs
  go_wp2_with fail
  obtain ⟨w2, hw2⟩ : ∃ w2, w2 = w1.setCell ⟨bm, 1, none⟩ (.int .i64 ((i : Int) + 1)) := ⟨_, rfl⟩
  have hM2 : Mk bm sb v L (i + 1) w2 := by rw [hw2]; exact HM1.out.1.step (i + 1)
  have hW2 : Wrote bm w w2 := by rw [hw2]; exact HM1.out.2.set _
  rw [← hw2]
  obtain ⟨g, cap, hv, hs⟩ := hM2.sign i hi
  obtain ⟨x, hx⟩ : ∃ x, x = L[i].v := ⟨_, rfl⟩
  have hsc : ∀ c, c < 8 → w2.cell? ⟨g, i * 8 + c, none⟩ = ((.int .u8 (L[i].m.toNat : Int) :: stepC x) : List Value)[c]? := fun c hc => by
    have := hs c hc; rw [Nat.mul_comm] at this; rw [this, hx]; rfl
  obtain ⟨n, hn⟩ : ∃ n, n = L.length := ⟨_, rfl⟩
  rw [← hn] at hv
  have d0 : w2.cell? ⟨bm, 0, none⟩ = some (.slice (some ⟨g, 0, none⟩) n cap) := by rw [← hv]; simp only [World.cell?, hM2.blk]; rfl
  obtain ⟨j1, hj1⟩ : ∃ j, j = i + 1 := ⟨_, rfl⟩
  have d1 : w2.cell? ⟨bm, 1, none⟩ = some (.int .i64 (j1 : Int)) := by rw [hj1]; simp only [World.cell?, hM2.blk]; rfl
  have q1 : (j1 : Int) - 1 = (i : Int) := by omega
  have q2 : IntKind.i64.wrap (i : Int) = (i : Int) := by (simp [IntKind.wrap, IntKind.bits, IntKind.signed]; omega)
  have q3 : IntKind.i64.wrap ((j1 : Int) - 1) = (i : Int) := by rw [q1]; exact q2
  have k1 : w2.cell? ⟨g, i * 8 + 1, none⟩ = some (.int .i64 (x.k : Int)) := hsc 1 (by omega)
  have k2 : w2.cell? ⟨g, i * 8 + 1 + 1, none⟩ = some (.int .u64 (x.s.a : Int)) := hsc 2 (by omega)
  have k3 : w2.cell? ⟨g, i * 8 + 1 + 2, none⟩ = some (.int .u64 (x.s.b : Int)) := hsc 3 (by omega)
  have k4 : w2.cell? ⟨g, i * 8 + 1 + 3, none⟩ = some (.int .u64 (x.s.c : Int)) := hsc 4 (by omega)
  have k5 : w2.cell? ⟨g, i * 8 + 1 + 4, none⟩ = some (.int .u64 (x.s.d : Int)) := hsc 5 (by omega)
  have k6 : w2.cell? ⟨g, i * 8 + 1 + 5, none⟩ = some (.int .i64 x.a) := hsc 6 (by omega)
  have k7 : w2.cell? ⟨g, i * 8 + 1 + 6, none⟩ = some (.int .i64 x.b) := hsc 7 (by omega)
  have hi4 : (i : Int) < (n : Int) := by omega
  have HX : Hid (Mk bm sb v L (i + 1) w2 ∧ Wrote bm w w2 ∧ x.Ok ∧ x = L[i].v) := ⟨hM2, hW2, by rw [hx]; exact hok _ (List.getElem_mem hi), hx⟩
  clear hw2 hM2 hW2 hs hsc hv hx hok hn c1 fb hj1
  go_region_with (fail)
  all_goals
    go_wp2_with fail
    go_ret
    obtain ⟨h1, h2, h3, h4⟩ := HX.out
    have hB : Below w2.heap.size w2 ((w2.alloc (.cells #[.int .i64 (x.k : Int), .int .u64 (x.s.a : Int), .int .u64 (x.s.b : Int), .int .u64 (x.s.c : Int), .int .u64 (x.s.d : Int), .int .i64 x.a, .int .i64 x.b] 146)).drew) := ((Below.refl _ _).alloc (Nat.le_refl _) _).drew
    refine ⟨.slice (some ⟨w2.heap.size, 0, none⟩) 1 1, [x], i + 1, rfl, ⟨rfl, .inr ⟨w2.heap.size, 1, _, rfl, h2.size, heap_alloc_new _ _, by simp, by unfold maxLen; omega, rfl, rfl⟩⟩, h1.below hB, by omega, rfl, h2.trans (.of_below hB), by rw [← h4]; rfl, fun y hy => ?_⟩
    have : y = x := by simpa using hy
    rw [this]; exact h3
set_option maxHeartbeats 400000 in
theorem thing_group {bm sb : Nat} {v : Value} {L : List SG} (i : Nat) (C : List Stp) (rest : List Sg) (w : World) (h : Mk bm sb v L i w) (hi : i < L.length) (hm : L[i].m = 40) (hw : ∀ W, Mk bm sb v L (i + 1) W → Calls Tryz.prog 192 #[.pointer (some ⟨bm, 0, none⟩)] W (MkPost bm sb v L (.mark 41 :: rest) C W)) : Calls Tryz.prog 217 #[.pointer (some ⟨bm, 0, none⟩)] w (MkPost bm sb v L rest C w) := by
  have HIs : Hid (∀ W, Mk bm sb v L i W → Calls Tryz.prog 200 #[.pointer (some ⟨bm, 0, none⟩), .int .u8 40] W fun e w' => e = .returned (.bool true) ∧ Mk bm sb v L (i + 1) w' ∧ Wrote bm W w') := fun W hW => by
    have := is_any' 40 W hW (by omega)
    have e : isNext 40 (L.drop i) = true := by rw [List.drop_eq_getElem_cons hi]; show (L[i].m == 40) = true; rw [hm]; rfl
    rw [e] at this
    exact this
  have HWs : Hid (∀ W, Mk bm sb v L (i + 1) W → Calls Tryz.prog 192 #[.pointer (some ⟨bm, 0, none⟩)] W (MkPost bm sb v L (.mark 41 :: rest) C W)) := hw
  have HM : Hid (Mk bm sb v L i w) := h
  clear h hw
  go_enter Tryz.func217, Tryz.ntmps217
  go_wp2_with fail
  refine (HIs.out w HM.out).mono ?_
  rintro e w1 ⟨rfl, hM1, hw1⟩
  have H1 : Hid (Mk bm sb v L (i + 1) w1 ∧ Wrote bm w w1) := ⟨hM1, hw1⟩
  clear hM1 hw1 HIs
  go_wp2_with fail
  refine (HWs.out w1 H1.out.1).mono ?_
  rintro e w2 ⟨v', A, j, rfl, hR, hM2, hj, hrest, hw2, hC, hok⟩
  have c1 : w2.cell? ⟨bm, 1, none⟩ = some (.int .i64 (j : Int)) := by simp only [World.cell?, hM2.blk]; rfl
  have fb : ∀ j, w2.frozen? ⟨bm, j, none⟩ = false := fun j => by simp [World.frozen?, hM2.blk]
  have hj2 : j ≤ 200 := by have := hM2.few; omega
  obtain ⟨a', c', hv'⟩ := row_slice hR
  have H2 : Hid (Row w1.heap.size v' A w2 ∧ Mk bm sb v L j w2 ∧ j ≤ L.length ∧ (L.drop j).map SG.abs = .mark 41 :: rest ∧ Wrote bm w1 w2 ∧ A.map SV.abs = C ∧ ∀ x ∈ A, x.Ok) := ⟨hR, hM2, hj, hrest, hw2, hC, hok⟩
  subst hv'
  clear hR hM2 hj hrest hw2 hC hok HWs
  go_wp2_with fail
  go_ret
  obtain ⟨hR, hM2, hj, hrest, hw2, hC, hok⟩ := H2.out
  obtain ⟨hj3, _, _, hr2⟩ := drop_mark hrest
  exact ⟨_, A, j + 1, rfl, row_base (row_set hR (row_ne hR hM2.blk (by decide)) _) H1.out.2.size, hM2.step (j + 1), hj3, hr2, (H1.out.2.trans hw2).set _, hC, hok⟩
theorem thing_any' {bm sb : Nat} {v : Value} {L : List SG} (m : Nat) (hw : ∀ m', m' < m → WaysC bm sb v L m') : ThingC bm sb v L m := by
  intro i n rest w hm hi h hok hsp
  cases hs : (L.drop i).map SG.abs with
  | nil => rw [hs] at hsp; cases hsp
  | cons s t =>
    rw [hs] at hsp
    cases hsp with
    | one x _ hx =>
      obtain ⟨hi2, h1, h2, h3⟩ := drop_thing hs
      have := thing_one i w h hi2 hok h1
      rw [h2, h3] at this
      have e : code (ndOf x) = [x] := by obtain ⟨f, rfl | rfl | rfl⟩ := hx <;> simp [ndOf, code]
      rw [e]; exact this
    | group _ _ k hk =>
      obtain ⟨hi2, h1, _, h3⟩ := drop_mark hs
      refine thing_group i (code (.alt k)) rest w h hi2 h1 (fun W hW => ?_)
      exact hw (L.length - (i + 1)) (by omega) (i + 1) k _ W (Nat.le_refl _) hi2 hW hok (by rw [h3]; exact hk)
end Go.Proofs.YtedepknbaakkhabGreatDoor.X
namespace Go.Proofs.YtedepknbaakkhabGreatDoor.X
open Go.RowKit Go.Shelf RxSem
def headIs (c : UInt8) : List Sg → Bool
  | .mark d :: _ => d == c
  | _ => false
theorem isNext_head (c : UInt8) (hc : c ≠ 0) (L : List SG) : isNext c L = headIs c (L.map SG.abs) := by
  cases L with
  | nil => rfl
  | cons x L =>
    show (x.m == c) = headIs c (x.abs :: L.map SG.abs)
    unfold SG.abs
    by_cases h : x.m = 0
    · rw [if_pos h, h]
      show ((0 : UInt8) == c) = false
      simp; exact fun e => hc e.symm
    · rw [if_neg h]; rfl
def PartC (bm sb : Nat) (v : Value) (L : List SG) (m : Nat) : Prop := ∀ (i : Nat) (n : Nd) (rest : List Sg) (w : World), L.length - i ≤ m → i ≤ L.length → Mk bm sb v L i w → (∀ x ∈ L, x.v.Ok) → SP .thing ((L.drop i).map SG.abs) [n] rest → Calls Tryz.prog 206 #[.pointer (some ⟨bm, 0, none⟩)] w (MkPost bm sb v L (postS n rest).2 (code (postS n rest).1) w)
theorem maybeV_ok {A : List SV} (h : ∀ x ∈ A, x.Ok) (hl : A.length ≤ 5000) : ∀ x ∈ maybeV A, x.Ok := by
  intro x hx
  rcases List.mem_cons.1 hx with rfl | hx
  · exact fk_ok (by omega) (by omega)
  · exact h x hx
theorem againV_ok {A : List SV} (h : ∀ x ∈ A, x.Ok) (hl : A.length ≤ 5000) : ∀ x ∈ againV A, x.Ok := by
  intro x hx
  rcases List.mem_append.1 hx with hx | hx
  · exact h x hx
  · have : x = fk (-(A.length : Int)) 1 := by simpa using hx
    rw [this]; exact fk_ok (by omega) (by omega)
theorem eitherV_ok {A B : List SV} (h : ∀ x ∈ A, x.Ok) (h2 : ∀ x ∈ B, x.Ok) (hl : A.length ≤ 5000) (hl2 : B.length ≤ 5000) : ∀ x ∈ eitherV A B, x.Ok := by
  intro x hx
  rcases List.mem_cons.1 hx with rfl | hx
  · exact fk_ok (by omega) (by omega)
  · rcases List.mem_append.1 hx with hx | hx
    · exact h x hx
    · rcases List.mem_cons.1 hx with rfl | hx
      · exact fk_ok (by omega) (by omega)
      · exact h2 x hx
theorem isC {bm sb : Nat} {v : Value} {L : List SG} (c : UInt8) (hc : c ≠ 0) (j : Nat) (rest : List Sg) (hj : j ≤ L.length) (hr : (L.drop j).map SG.abs = rest) (b : Bool) (hb : headIs c rest = b) (W : World) (hW : Mk bm sb v L j W) : Calls Tryz.prog 200 #[.pointer (some ⟨bm, 0, none⟩), .int .u8 (c.toNat : Int)] W fun e w' => e = .returned (.bool b) ∧ Mk bm sb v L (if b then j + 1 else j) w' ∧ Wrote bm W w' := by
  have := is_any' c W hW hj
  rw [isNext_head c hc, hr, hb] at this
  exact this
theorem sp_len {bm : Nat} {L : List SG} {i : Nat} {n : Nd} {rest : List Sg} {A : List SV} (_ : bm = bm) (hf : L.length ≤ 200) (h : SP .thing ((L.drop i).map SG.abs) [n] rest) (ha : A.map SV.abs = code n) : A.length ≤ 400 := by
  have h1 := h.size
  have h2 := congrArg List.length ha
  simp only [lenOf, codeS, List.length_map, List.length_append, List.length_nil, List.length_drop] at h1 h2
  omega
set_option maxHeartbeats 400000 in
theorem part_star {bm sb : Nat} {v : Value} {L : List SG} (n : Nd) (rest : List Sg) (w : World) (hT : Calls Tryz.prog 217 #[.pointer (some ⟨bm, 0, none⟩)] w (MkPost bm sb v L (.mark 42 :: rest) (code n) w)) (hsz : ∀ A : List SV, A.map SV.abs = code n → A.length ≤ 400) : Calls Tryz.prog 206 #[.pointer (some ⟨bm, 0, none⟩)] w (MkPost bm sb v L rest (code (.star n)) w) := by
  have HT : Hid (Calls Tryz.prog 217 #[.pointer (some ⟨bm, 0, none⟩)] w (MkPost bm sb v L (.mark 42 :: rest) (code n) w)) := hT
  have HSz : Hid (∀ A : List SV, A.map SV.abs = code n → A.length ≤ 400) := hsz
  clear hT hsz
  go_enter Tryz.func206, Tryz.ntmps206
  go_wp2_with fail
  refine HT.out.mono ?_
  rintro e w1 ⟨v', A, j, rfl, hR, hM1, hj, hrest, hw1, hC, hok⟩
  obtain ⟨a', c', hv'⟩ := row_slice hR
  have hAl := HSz.out A hC
  have H1 : Hid (Row w.heap.size v' A w1 ∧ Mk bm sb v L j w1 ∧ j ≤ L.length ∧ (L.drop j).map SG.abs = (.mark 42 :: rest) ∧ Wrote bm w w1 ∧ A.map SV.abs = code n ∧ ∀ x ∈ A, x.Ok) := ⟨hR, hM1, hj, hrest, hw1, hC, hok⟩
  subst hv'
  clear hR hM1 hj hrest hw1 hC hok HT HSz
  go_wp2_with fail
  refine (isC 42 (by decide) j _ H1.out.2.2.1 H1.out.2.2.2.1 true (rfl) w1 H1.out.2.1).mono ?_
  rintro e w2 ⟨rfl, hM, hw⟩
  have H2 : Hid (Mk bm sb v L (j + 1) w2 ∧ Wrote bm w w2 ∧ Wrote bm w1 w2) := ⟨hM, H1.out.2.2.2.2.1.trans hw, hw⟩
  clear hM hw
  have hRw : Row 0 (.slice a' A.length c') A w2 := row_base (wrote_row H2.out.2.2 H1.out.1 (row_ne H1.out.1 H1.out.2.1.blk (by decide))) (Nat.zero_le _)
  have HRw : Hid (Row 0 (.slice a' A.length c') A w2) := hRw
  clear hRw
  go_wp2_with fail
  refine (again_any _ A w2 (HRw.out) (by omega)).mono ?_
  rintro e x0 ⟨u0, rfl, hR, hB⟩
  obtain ⟨b0, d0, hu⟩ := row_slice hR
  have K0 : Hid (Row w2.heap.size u0 (againV A) x0 ∧ Below w2.heap.size w2 x0 ∧ Wrote bm w x0 ∧ Mk bm sb v L (j + 1) x0) := ⟨hR, hB, H2.out.2.1.trans (.of_below hB), H2.out.1.below hB⟩
  subst hu
  clear hR hB
  go_wp2_with fail
  refine (maybe_any _ (againV A) x0 (row_base K0.out.1 (Nat.zero_le _)) (by simp [againV]; omega)).mono ?_
  rintro e x1 ⟨u1, rfl, hR, hB⟩
  obtain ⟨b1, d1, hu⟩ := row_slice hR
  have K1 : Hid (Row x0.heap.size u1 (maybeV (againV A)) x1 ∧ Below x0.heap.size x0 x1 ∧ Wrote bm w x1 ∧ Mk bm sb v L (j + 1) x1) := ⟨hR, hB, K0.out.2.2.1.trans (.of_below hB), K0.out.2.2.2.below hB⟩
  subst hu
  clear hR hB
  go_wp2_with fail
  go_ret
  obtain ⟨hR, hM1, hj, hrest, hw1, hC, hok⟩ := H1.out
  obtain ⟨hj3, _, _, hr2⟩ := drop_mark hrest
  exact ⟨_, _, j + 1, rfl, row_base K1.out.1 (by have := H2.out.2.1.size; have := K0.out.2.1.size; omega), K1.out.2.2.2, hj3, hr2, K1.out.2.2.1, by rw [maybeV_abs, againV_abs, hC]; simp [code], maybeV_ok (againV_ok hok (by omega)) (by simp [againV]; omega)⟩
set_option maxHeartbeats 400000 in
theorem part_plus {bm sb : Nat} {v : Value} {L : List SG} (n : Nd) (rest : List Sg) (w : World) (hT : Calls Tryz.prog 217 #[.pointer (some ⟨bm, 0, none⟩)] w (MkPost bm sb v L (.mark 43 :: rest) (code n) w)) (hsz : ∀ A : List SV, A.map SV.abs = code n → A.length ≤ 400) : Calls Tryz.prog 206 #[.pointer (some ⟨bm, 0, none⟩)] w (MkPost bm sb v L rest (code (.plus n)) w) := by
  have HT : Hid (Calls Tryz.prog 217 #[.pointer (some ⟨bm, 0, none⟩)] w (MkPost bm sb v L (.mark 43 :: rest) (code n) w)) := hT
  have HSz : Hid (∀ A : List SV, A.map SV.abs = code n → A.length ≤ 400) := hsz
  clear hT hsz
  go_enter Tryz.func206, Tryz.ntmps206
  go_wp2_with fail
  refine HT.out.mono ?_
  rintro e w1 ⟨v', A, j, rfl, hR, hM1, hj, hrest, hw1, hC, hok⟩
  obtain ⟨a', c', hv'⟩ := row_slice hR
  have hAl := HSz.out A hC
  have H1 : Hid (Row w.heap.size v' A w1 ∧ Mk bm sb v L j w1 ∧ j ≤ L.length ∧ (L.drop j).map SG.abs = (.mark 43 :: rest) ∧ Wrote bm w w1 ∧ A.map SV.abs = code n ∧ ∀ x ∈ A, x.Ok) := ⟨hR, hM1, hj, hrest, hw1, hC, hok⟩
  subst hv'
  clear hR hM1 hj hrest hw1 hC hok HT HSz
  go_wp2_with fail
  refine (isC 42 (by decide) j _ H1.out.2.2.1 H1.out.2.2.2.1 false (rfl) w1 H1.out.2.1).mono ?_
  rintro e w2 ⟨rfl, hM, hw⟩
  have H2 : Hid (Mk bm sb v L j w2 ∧ Wrote bm w w2 ∧ Wrote bm w1 w2) := ⟨hM, H1.out.2.2.2.2.1.trans hw, hw⟩
  clear hM hw
  go_wp2_with fail
  refine (isC 43 (by decide) j _ H1.out.2.2.1 H1.out.2.2.2.1 true (rfl) w2 H2.out.1).mono ?_
  rintro e w3 ⟨rfl, hM, hw⟩
  have H3 : Hid (Mk bm sb v L (j + 1) w3 ∧ Wrote bm w w3 ∧ Wrote bm w1 w3) := ⟨hM, H2.out.2.1.trans hw, H2.out.2.2.trans hw⟩
  clear hM hw
  have hRw : Row 0 (.slice a' A.length c') A w3 := row_base (wrote_row H3.out.2.2 H1.out.1 (row_ne H1.out.1 H1.out.2.1.blk (by decide))) (Nat.zero_le _)
  have HRw : Hid (Row 0 (.slice a' A.length c') A w3) := hRw
  clear hRw
  go_wp2_with fail
  refine (again_any _ A w3 (HRw.out) (by omega)).mono ?_
  rintro e x0 ⟨u0, rfl, hR, hB⟩
  obtain ⟨b0, d0, hu⟩ := row_slice hR
  have K0 : Hid (Row w3.heap.size u0 (againV A) x0 ∧ Below w3.heap.size w3 x0 ∧ Wrote bm w x0 ∧ Mk bm sb v L (j + 1) x0) := ⟨hR, hB, H3.out.2.1.trans (.of_below hB), H3.out.1.below hB⟩
  subst hu
  clear hR hB
  go_wp2_with fail
  go_ret
  obtain ⟨hR, hM1, hj, hrest, hw1, hC, hok⟩ := H1.out
  obtain ⟨hj3, _, _, hr2⟩ := drop_mark hrest
  exact ⟨_, _, j + 1, rfl, row_base K0.out.1 H3.out.2.1.size, K0.out.2.2.2, hj3, hr2, K0.out.2.2.1, by rw [againV_abs, hC]; simp [code], againV_ok hok (by omega)⟩
set_option maxHeartbeats 400000 in
theorem part_opt {bm sb : Nat} {v : Value} {L : List SG} (n : Nd) (rest : List Sg) (w : World) (hT : Calls Tryz.prog 217 #[.pointer (some ⟨bm, 0, none⟩)] w (MkPost bm sb v L (.mark 63 :: rest) (code n) w)) (hsz : ∀ A : List SV, A.map SV.abs = code n → A.length ≤ 400) : Calls Tryz.prog 206 #[.pointer (some ⟨bm, 0, none⟩)] w (MkPost bm sb v L rest (code (.opt n)) w) := by
  have HT : Hid (Calls Tryz.prog 217 #[.pointer (some ⟨bm, 0, none⟩)] w (MkPost bm sb v L (.mark 63 :: rest) (code n) w)) := hT
  have HSz : Hid (∀ A : List SV, A.map SV.abs = code n → A.length ≤ 400) := hsz
  clear hT hsz
  go_enter Tryz.func206, Tryz.ntmps206
  go_wp2_with fail
  refine HT.out.mono ?_
  rintro e w1 ⟨v', A, j, rfl, hR, hM1, hj, hrest, hw1, hC, hok⟩
  obtain ⟨a', c', hv'⟩ := row_slice hR
  have hAl := HSz.out A hC
  have H1 : Hid (Row w.heap.size v' A w1 ∧ Mk bm sb v L j w1 ∧ j ≤ L.length ∧ (L.drop j).map SG.abs = (.mark 63 :: rest) ∧ Wrote bm w w1 ∧ A.map SV.abs = code n ∧ ∀ x ∈ A, x.Ok) := ⟨hR, hM1, hj, hrest, hw1, hC, hok⟩
  subst hv'
  clear hR hM1 hj hrest hw1 hC hok HT HSz
  go_wp2_with fail
  refine (isC 42 (by decide) j _ H1.out.2.2.1 H1.out.2.2.2.1 false (rfl) w1 H1.out.2.1).mono ?_
  rintro e w2 ⟨rfl, hM, hw⟩
  have H2 : Hid (Mk bm sb v L j w2 ∧ Wrote bm w w2 ∧ Wrote bm w1 w2) := ⟨hM, H1.out.2.2.2.2.1.trans hw, hw⟩
  clear hM hw
  go_wp2_with fail
  refine (isC 43 (by decide) j _ H1.out.2.2.1 H1.out.2.2.2.1 false (rfl) w2 H2.out.1).mono ?_
  rintro e w3 ⟨rfl, hM, hw⟩
  have H3 : Hid (Mk bm sb v L j w3 ∧ Wrote bm w w3 ∧ Wrote bm w1 w3) := ⟨hM, H2.out.2.1.trans hw, H2.out.2.2.trans hw⟩
  clear hM hw
  go_wp2_with fail
  refine (isC 63 (by decide) j _ H1.out.2.2.1 H1.out.2.2.2.1 true (rfl) w3 H3.out.1).mono ?_
  rintro e w4 ⟨rfl, hM, hw⟩
  have H4 : Hid (Mk bm sb v L (j + 1) w4 ∧ Wrote bm w w4 ∧ Wrote bm w1 w4) := ⟨hM, H3.out.2.1.trans hw, H3.out.2.2.trans hw⟩
  clear hM hw
  have hRw : Row 0 (.slice a' A.length c') A w4 := row_base (wrote_row H4.out.2.2 H1.out.1 (row_ne H1.out.1 H1.out.2.1.blk (by decide))) (Nat.zero_le _)
  have HRw : Hid (Row 0 (.slice a' A.length c') A w4) := hRw
  clear hRw
  go_wp2_with fail
  refine (maybe_any _ A w4 (HRw.out) (by omega)).mono ?_
  rintro e x0 ⟨u0, rfl, hR, hB⟩
  obtain ⟨b0, d0, hu⟩ := row_slice hR
  have K0 : Hid (Row w4.heap.size u0 (maybeV A) x0 ∧ Below w4.heap.size w4 x0 ∧ Wrote bm w x0 ∧ Mk bm sb v L (j + 1) x0) := ⟨hR, hB, H4.out.2.1.trans (.of_below hB), H4.out.1.below hB⟩
  subst hu
  clear hR hB
  go_wp2_with fail
  go_ret
  obtain ⟨hR, hM1, hj, hrest, hw1, hC, hok⟩ := H1.out
  obtain ⟨hj3, _, _, hr2⟩ := drop_mark hrest
  exact ⟨_, _, j + 1, rfl, row_base K0.out.1 H4.out.2.1.size, K0.out.2.2.2, hj3, hr2, K0.out.2.2.1, by rw [maybeV_abs, hC]; simp [code], maybeV_ok hok (by omega)⟩
set_option maxHeartbeats 400000 in
theorem part_plain {bm sb : Nat} {v : Value} {L : List SG} (n : Nd) (rest : List Sg) (w : World) (hT : Calls Tryz.prog 217 #[.pointer (some ⟨bm, 0, none⟩)] w (MkPost bm sb v L rest (code n) w)) (hsz : ∀ A : List SV, A.map SV.abs = code n → A.length ≤ 400) (h1 : headIs 42 rest = false) (h2 : headIs 43 rest = false) (h3 : headIs 63 rest = false) : Calls Tryz.prog 206 #[.pointer (some ⟨bm, 0, none⟩)] w (MkPost bm sb v L rest (code n) w) := by
  have HT : Hid (Calls Tryz.prog 217 #[.pointer (some ⟨bm, 0, none⟩)] w (MkPost bm sb v L rest (code n) w)) := hT
  have HSz : Hid (∀ A : List SV, A.map SV.abs = code n → A.length ≤ 400) := hsz
  have HHd : Hid (headIs 42 rest = false ∧ headIs 43 rest = false ∧ headIs 63 rest = false) := ⟨h1, h2, h3⟩
  clear h1 h2 h3
  clear hT hsz
  go_enter Tryz.func206, Tryz.ntmps206
  go_wp2_with fail
  refine HT.out.mono ?_
  rintro e w1 ⟨v', A, j, rfl, hR, hM1, hj, hrest, hw1, hC, hok⟩
  obtain ⟨a', c', hv'⟩ := row_slice hR
  have hAl := HSz.out A hC
  have H1 : Hid (Row w.heap.size v' A w1 ∧ Mk bm sb v L j w1 ∧ j ≤ L.length ∧ (L.drop j).map SG.abs = rest ∧ Wrote bm w w1 ∧ A.map SV.abs = code n ∧ ∀ x ∈ A, x.Ok) := ⟨hR, hM1, hj, hrest, hw1, hC, hok⟩
  subst hv'
  clear hR hM1 hj hrest hw1 hC hok HT HSz
  go_wp2_with fail
  refine (isC 42 (by decide) j _ H1.out.2.2.1 H1.out.2.2.2.1 false (HHd.out.1) w1 H1.out.2.1).mono ?_
  rintro e w2 ⟨rfl, hM, hw⟩
  have H2 : Hid (Mk bm sb v L j w2 ∧ Wrote bm w w2 ∧ Wrote bm w1 w2) := ⟨hM, H1.out.2.2.2.2.1.trans hw, hw⟩
  clear hM hw
  go_wp2_with fail
  refine (isC 43 (by decide) j _ H1.out.2.2.1 H1.out.2.2.2.1 false (HHd.out.2.1) w2 H2.out.1).mono ?_
  rintro e w3 ⟨rfl, hM, hw⟩
  have H3 : Hid (Mk bm sb v L j w3 ∧ Wrote bm w w3 ∧ Wrote bm w1 w3) := ⟨hM, H2.out.2.1.trans hw, H2.out.2.2.trans hw⟩
  clear hM hw
  go_wp2_with fail
  refine (isC 63 (by decide) j _ H1.out.2.2.1 H1.out.2.2.2.1 false (HHd.out.2.2) w3 H3.out.1).mono ?_
  rintro e w4 ⟨rfl, hM, hw⟩
  have H4 : Hid (Mk bm sb v L j w4 ∧ Wrote bm w w4 ∧ Wrote bm w1 w4) := ⟨hM, H3.out.2.1.trans hw, H3.out.2.2.trans hw⟩
  clear hM hw
  have hRw : Row 0 (.slice a' A.length c') A w4 := row_base (wrote_row H4.out.2.2 H1.out.1 (row_ne H1.out.1 H1.out.2.1.blk (by decide))) (Nat.zero_le _)
  have HRw : Hid (Row 0 (.slice a' A.length c') A w4) := hRw
  clear hRw
  go_wp2_with fail
  go_ret
  obtain ⟨hR, hM1, hj, hrest, hw1, hC, hok⟩ := H1.out
  exact ⟨_, A, j, rfl, wrote_row H4.out.2.2 hR (row_ne hR hM1.blk (by decide)), H4.out.1, hj, hrest, H4.out.2.1, hC, hok⟩
theorem part_any {bm sb : Nat} {v : Value} {L : List SG} (m : Nat) (hT : ThingC bm sb v L m) : PartC bm sb v L m := by
  intro i n rest w hm hi h hok hsp
  have ht := hT i n rest w hm hi h hok hsp
  have hsz : ∀ A : List SV, A.map SV.abs = code n → A.length ≤ 400 := fun A hA => sp_len (bm := bm) rfl h.few hsp hA
  cases rest with
  | nil => exact part_plain n [] w ht hsz rfl rfl rfl
  | cons s r =>
    cases s with
    | thing x => exact part_plain n _ w ht hsz rfl rfl rfl
    | mark c =>
      by_cases h1 : c = 42
      · subst h1; exact part_star n r w ht hsz
      · by_cases h2 : c = 43
        · subst h2; exact part_plus n r w ht hsz
        · by_cases h3 : c = 63
          · subst h3; exact part_opt n r w ht hsz
          · have e : postS n (.mark c :: r) = (n, .mark c :: r) := by simp [postS, h1, h2, h3]
            rw [e]
            exact part_plain n _ w ht hsz (by simp [headIs, h1]) (by simp [headIs, h2]) (by simp [headIs, h3])
end Go.Proofs.YtedepknbaakkhabGreatDoor.X
