/-
  M36 M37
-/
import Derived.Test.YtpcpcfnmcfjomaaGreatDoorK09
namespace Go.Proofs.YtpcpcfnmcfjomaaGreatDoor
open Go.RowKit Go.Shelf
set_option maxRecDepth 20000 in
set_option maxHeartbeats 1600000 in
theorem choice_two (x : ByteArray) (w : World) (hx : x.size ≤ 1000000) (hmx : Mx w) (hE : Ey w) (hp : ¬ (bl x = [35] ∨ bl x = [42])) : Calls Tryz.prog 43 #[.string x] w (ChoPost x w) := by
  have hne1 : ¬ x.toList = [35] := by rw [Lib.toList_data]; exact fun e => hp (.inl e)
  have hne2 : ¬ x.toList = [42] := by rw [Lib.toList_data]; exact fun e => hp (.inr e)
  have hb1 : (x.toList == [35]) = false := beq_eq_false_iff_ne.2 hne1
  have hb2 : (x.toList == [42]) = false := beq_eq_false_iff_ne.2 hne2
  unfold ChoPost
  obtain ⟨R, hR⟩ : ∃ R, R = choO (bl x) := ⟨_, rfl⟩
  rw [← hR]
  have hl := cut_lens (bl x) [46, 46]
  rw [bl_length] at hl
  have HCu0 : Hid (∀ W, Mx W → Calls Tryz.prog 24 #[.string x, .string ⟨#[46, 46]⟩] W fun e w' => e = .returned (.tuple #[.string (ba (Lib.cut (bl x) [46, 46]).1), .string (ba (Lib.cut (bl x) [46, 46]).2.1), .bool (Lib.cut (bl x) [46, 46]).2.2]) ∧ Below W.heap.size W w') := fun W hW => cut_any x ⟨#[46, 46]⟩ W hx hW
  unfold choO at hR
  rw [if_neg hp] at hR
  rcases hcu : Lib.cut (bl x) [46, 46] with ⟨c1, c2, c3⟩
  rw [hcu] at hR hl HCu0
  dsimp only at hR hl HCu0
  obtain ⟨a1, ha1⟩ : ∃ a1, a1 = ba c1 := ⟨_, rfl⟩
  obtain ⟨a2, ha2⟩ : ∃ a2, a2 = ba c2 := ⟨_, rfl⟩
  rw [← ha1, ← ha2] at HCu0
  have z1 : a1.size ≤ 1000000 := by rw [ha1, ba_size]; omega
  have z2 : a2.size ≤ 1000000 := by rw [ha2, ba_size]; omega
  have hc1 : c1 = bl a1 := by rw [ha1, bl_ba]
  have hc2 : c2 = bl a2 := by rw [ha2, bl_ba]
  have HN : Hid (∀ y : ByteArray, y.size ≤ 1000000 → ∀ W, Below w.heap.size w W → Calls Tryz.prog 86 #[.string y] W fun e w' => (∃ n : Int, e = .returned (.tuple #[.int .i64 n, .bool (numO (bl y)).isSome]) ∧ ∀ k, numO (bl y) = some k → n = k) ∧ Below W.heap.size W w') := fun y hy W hB => number_any y W hy (hE.below hB hE.pos)
  have HMx : Hid (∀ W, Below w.heap.size w W → Mx W) := fun W hB => hmx.below hB hmx.pos
  have HB0 := one_new w
  rw [hc1, hc2] at hR
  clear hcu ha1 ha2 hc1 hc2 hl hp hmx hE
  have KEY : ∀ (a3 : ByteArray), a3.size ≤ 1000000 → ∀ (n1 n2 : Int) (b1 b2 : Bool), b1 = (numO (bl a1)).isSome → b2 = (numO (bl a3)).isSome → (∀ k, numO (bl a1) = some k → n1 = k) → (∀ k, numO (bl a3) = some k → n2 = k) → R = (match numO (bl a1), numO (bl a3) with | some a, some b => some ({ kind := ⟨#[91]⟩, frm := a, upto := b } : Md) | _, _ => none) → (b1 && b2) = R.isSome ∧ ∀ k, R = some k → ({ kind := ⟨#[91]⟩, frm := n1, upto := n2 } : Md) = k := by
    intro a3 _ n1 n2 b1 b2 h1 h2 h3 h4 h5
    cases e1 : numO (bl a1) with
    | none => rw [e1] at h1 h5; rw [h1, h5]; exact ⟨rfl, fun k h => by cases h⟩
    | some k1 =>
      cases e2 : numO (bl a3) with
      | none => rw [e1] at h1 h5; rw [e2] at h2 h5; rw [h1, h2, h5]; exact ⟨rfl, fun k h => by cases h⟩
      | some k2 =>
        rw [e1] at h1 h5; rw [e2] at h2 h5
        rw [h1, h2, h5, h3 k1 e1, h4 k2 e2]
        exact ⟨rfl, fun k h => by cases h; rfl⟩
  have HKEY : Hid (∀ (n1 n2 : Int) (b1 b2 : Bool), b1 = (numO (bl a1)).isSome → b2 = (numO (bl (if c3 = true then a2 else a1))).isSome → (∀ k, numO (bl a1) = some k → n1 = k) → (∀ k, numO (bl (if c3 = true then a2 else a1)) = some k → n2 = k) → (b1 && b2) = R.isSome ∧ ∀ k, R = some k → ({ kind := ⟨#[91]⟩, frm := n1, upto := n2 } : Md) = k) := fun n1 n2 b1 b2 h1 h2 h3 h4 => by
    refine KEY _ ?_ n1 n2 b1 b2 h1 h2 h3 h4 ?_
    · split
      · exact z2
      · exact z1
    · rw [hR]
      cases c3 <;> rfl
  clear KEY hR
  cases c3 with
  | true =>
    rw [if_pos rfl] at HKEY
    have HN1 := fun W hB => HN.out a1 z1 W hB
    have HN2 := fun W hB => HN.out a2 z2 W hB
    have HNN : Hid _ := And.intro HN1 HN2
    clear HN1 HN2 HN z1 z2
    go_enter Tryz.func43, Tryz.ntmps43
    go_wp2_with fail
    refine (HCu0.out _ (HMx.out _ ((Below.refl _ w).alloc (Nat.le_refl _) _))).mono ?_
    rintro e w1 ⟨rfl, hb1'⟩
    rw [World.size_alloc] at hb1'
    have HZ1 : Hid (Below (w.heap.size + 1) (w.alloc (.cells zeroMd 45)) w1 ∧ w.heap.size + 1 ≤ w1.heap.size) := ⟨hb1', by have := hb1'.size; simpa using this⟩
    clear hb1'
    go_wp2_with fail
    refine (HNN.out.1 _ (HB0.out _ HZ1.out.1).2).mono ?_
    rintro e w2 ⟨⟨n1, rfl, hk1⟩, hb2'⟩
    have HZ2 : Hid (Below (w.heap.size + 1) (w.alloc (.cells zeroMd 45)) w2 ∧ w.heap.size + 1 ≤ w2.heap.size) := ⟨HZ1.out.1.trans (hb2'.mono HZ1.out.2), Nat.le_trans HZ1.out.2 hb2'.size⟩
    clear hb2'
    obtain ⟨b1, hbb1⟩ : ∃ b1, b1 = (numO (bl a1)).isSome := ⟨_, rfl⟩
    rw [← hbb1]
    have HK1 : Hid (b1 = (numO (bl a1)).isSome ∧ ∀ k, numO (bl a1) = some k → n1 = k) := ⟨hbb1, hk1⟩
    clear hbb1 hk1
    go_wp2_with fail
    refine (HNN.out.2 _ (HB0.out _ HZ2.out.1).2).mono ?_
    rintro e w3 ⟨⟨n2, rfl, hk2⟩, hb3'⟩
    have hZ3 : Below (w.heap.size + 1) (w.alloc (.cells zeroMd 45)) w3 := HZ2.out.1.trans (hb3'.mono HZ2.out.2)
    obtain ⟨b2, hbb2⟩ : ∃ b2, b2 = (numO (bl a2)).isSome := ⟨_, rfl⟩
    rw [← hbb2]
    have HF : Hid ((b1 && b2) = R.isSome ∧ ∀ k, R = some k → ({ kind := ⟨#[91]⟩, frm := n1, upto := n2 } : Md) = k) := HKEY.out n1 n2 b1 b2 HK1.out.1 hbb2 HK1.out.2 hk2
    clear hbb2 hk2 hb3'
    obtain ⟨⟨r0, r1, r2, r3, r4, r5, r6, r7, r8, r9, r10, r11⟩, hfz⟩ := mod_cells (HB0.out _ hZ3).1
    have hq := set_build hZ3 ⟨#[91]⟩ E E false false none false false 0 0 n1 n2
    have HQ : Hid _ := hq
    clear hq hZ3
    cases b1
    all_goals
      go_wp2
      obtain ⟨W, hW⟩ : ∃ W, W = setMd w3 w.heap.size ⟨#[91]⟩ E E false false none false false 0 0 n1 n2 := ⟨_, rfl⟩
      have hq := HQ.out
      rw [← hW] at hq
      obtain ⟨⟨q0, q1, q2, q3, q4, q5, q6, q7, q8, q9, q10, q11⟩, _⟩ := mod_cells hq.2
      show bodyPost Tryz.prog Tryz.f43 _ Exit.ret _ (setMd w3 w.heap.size ⟨#[91]⟩ E E false false none false false 0 0 n1 n2)
      rw [← hW]
      refine bodyPost_ret (v := .tuple #[.agg (mdV ⟨#[91]⟩ E E false false none false false 0 0 n1 n2), .bool (R.isSome)]) (by rw [← HF.out.1]; simp [results, Tryz.results43, go_sem, q0, q1, q2, q3, q4, q5, q6, q7, q8, q9, q10, q11]; try rfl) rfl ⟨⟨{ kind := ⟨#[91]⟩, frm := n1, upto := n2 }, rfl, HF.out.2⟩, hq.1⟩
  | false =>
    rw [if_neg (by simp)] at HKEY
    have HN1 : Hid (∀ W, Below w.heap.size w W → _) := fun W hB => HN.out a1 z1 W hB
    clear HN z1 z2
    go_enter Tryz.func43, Tryz.ntmps43
    go_wp2_with fail
    refine (HCu0.out _ (HMx.out _ ((Below.refl _ w).alloc (Nat.le_refl _) _))).mono ?_
    rintro e w1 ⟨rfl, hb1'⟩
    rw [World.size_alloc] at hb1'
    have HZ1 : Hid (Below (w.heap.size + 1) (w.alloc (.cells zeroMd 45)) w1 ∧ w.heap.size + 1 ≤ w1.heap.size) := ⟨hb1', by have := hb1'.size; simpa using this⟩
    clear hb1'
    go_wp2_with fail
    refine (HN1.out _ (HB0.out _ HZ1.out.1).2).mono ?_
    rintro e w2 ⟨⟨n1, rfl, hk1⟩, hb2'⟩
    have HZ2 : Hid (Below (w.heap.size + 1) (w.alloc (.cells zeroMd 45)) w2 ∧ w.heap.size + 1 ≤ w2.heap.size) := ⟨HZ1.out.1.trans (hb2'.mono HZ1.out.2), Nat.le_trans HZ1.out.2 hb2'.size⟩
    clear hb2'
    obtain ⟨b1, hbb1⟩ : ∃ b1, b1 = (numO (bl a1)).isSome := ⟨_, rfl⟩
    rw [← hbb1]
    have HK1 : Hid (b1 = (numO (bl a1)).isSome ∧ ∀ k, numO (bl a1) = some k → n1 = k) := ⟨hbb1, hk1⟩
    clear hbb1 hk1
    go_wp2_with fail
    refine (HN1.out _ (HB0.out _ HZ2.out.1).2).mono ?_
    rintro e w3 ⟨⟨n2, rfl, hk2⟩, hb3'⟩
    have hZ3 : Below (w.heap.size + 1) (w.alloc (.cells zeroMd 45)) w3 := HZ2.out.1.trans (hb3'.mono HZ2.out.2)
    obtain ⟨b2, hbb2⟩ : ∃ b2, b2 = (numO (bl a1)).isSome := ⟨_, rfl⟩
    rw [← hbb2]
    have HF : Hid ((b1 && b2) = R.isSome ∧ ∀ k, R = some k → ({ kind := ⟨#[91]⟩, frm := n1, upto := n2 } : Md) = k) := HKEY.out n1 n2 b1 b2 HK1.out.1 hbb2 HK1.out.2 hk2
    clear hbb2 hk2 hb3'
    obtain ⟨⟨r0, r1, r2, r3, r4, r5, r6, r7, r8, r9, r10, r11⟩, hfz⟩ := mod_cells (HB0.out _ hZ3).1
    have hq := set_build hZ3 ⟨#[91]⟩ E E false false none false false 0 0 n1 n2
    have HQ : Hid _ := hq
    clear hq hZ3
    cases b1
    all_goals
      go_wp2
      obtain ⟨W, hW⟩ : ∃ W, W = setMd w3 w.heap.size ⟨#[91]⟩ E E false false none false false 0 0 n1 n2 := ⟨_, rfl⟩
      have hq := HQ.out
      rw [← hW] at hq
      obtain ⟨⟨q0, q1, q2, q3, q4, q5, q6, q7, q8, q9, q10, q11⟩, _⟩ := mod_cells hq.2
      show bodyPost Tryz.prog Tryz.f43 _ Exit.ret _ (setMd w3 w.heap.size ⟨#[91]⟩ E E false false none false false 0 0 n1 n2)
      rw [← hW]
      refine bodyPost_ret (v := .tuple #[.agg (mdV ⟨#[91]⟩ E E false false none false false 0 0 n1 n2), .bool (R.isSome)]) (by rw [← HF.out.1]; simp [results, Tryz.results43, go_sem, q0, q1, q2, q3, q4, q5, q6, q7, q8, q9, q10, q11]; try rfl) rfl ⟨⟨{ kind := ⟨#[91]⟩, frm := n1, upto := n2 }, rfl, HF.out.2⟩, hq.1⟩
theorem choice_any (x : ByteArray) (w : World) (hx : x.size ≤ 1000000) (hmx : Mx w) (hE : Ey w) : Calls Tryz.prog 43 #[.string x] w (ChoPost x w) := by
  by_cases hp : bl x = [35] ∨ bl x = [42]
  · exact choice_plain x w hp
  · exact choice_two x w hx hmx hE hp
end Go.Proofs.YtpcpcfnmcfjomaaGreatDoor
namespace Go.Proofs.YtpcpcfnmcfjomaaGreatDoor
open Go.RowKit Go.Shelf
def choR (l : List UInt8) : Rd :=
  if (Lib.cut (l.drop 1) [93]).2.2 = false then .bad 4 else
  match choO (Lib.cut (l.drop 1) [93]).1 with
  | none => .bad 12
  | some m => if (Lib.cut (l.drop 1) [93]).2.1 = [] ∨ (Lib.cut (l.drop 1) [93]).2.1.head? = some 58 then .ok m ((Lib.cut (l.drop 1) [93]).1.length + 2) else .bad 12
set_option maxRecDepth 20000 in
set_option maxHeartbeats 1600000 in
theorem readChoice_any (s : ByteArray) (w : World) (hs : s.size ≤ 1000000) (h1 : 1 ≤ s.size) (hmx : Mx w) (hE : Ey w) : Calls Tryz.prog 23 #[.string s] w fun e w' => e = .returned (choR (bl s)).val ∧ Below w.heap.size w w' := by
  obtain ⟨R, hR⟩ : ∃ R, R = choR (bl s) := ⟨_, rfl⟩
  rw [← hR]
  unfold choR at hR
  have h1i : (1 : Int) ≤ (s.size : Int) := by omega
  obtain ⟨x, hx⟩ : ∃ x, x = s.extract 1 s.size := ⟨_, rfl⟩
  have hbx : bl x = (bl s).drop 1 := by rw [hx, bl_rest]
  have hxs : x.size ≤ 1000000 := by rw [hx]; simp; omega
  have hl := cut_lens (bl x) [93]
  rw [bl_length] at hl
  have HCu0 : Hid (∀ W, Mx W → Calls Tryz.prog 24 #[.string (s.extract 1 s.size), .string ⟨#[93]⟩] W fun e w' => e = .returned (.tuple #[.string (ba (Lib.cut (bl x) [93]).1), .string (ba (Lib.cut (bl x) [93]).2.1), .bool (Lib.cut (bl x) [93]).2.2]) ∧ Below W.heap.size W w') := fun W hW => by
    rw [← hx]; exact cut_any x ⟨#[93]⟩ W hxs hW
  rw [← hbx] at hR
  rcases hcu : Lib.cut (bl x) [93] with ⟨c1, c2, c3⟩
  rw [hcu] at hR hl HCu0
  dsimp only at hR hl HCu0
  obtain ⟨a1, ha1⟩ : ∃ a1, a1 = ba c1 := ⟨_, rfl⟩
  obtain ⟨a2, ha2⟩ : ∃ a2, a2 = ba c2 := ⟨_, rfl⟩
  rw [← ha1, ← ha2] at HCu0
  have z1 : a1.size ≤ 1000000 := by rw [ha1, ba_size]; omega
  have hc1 : c1 = bl a1 := by rw [ha1, bl_ba]
  have hc2 : c2 = bl a2 := by rw [ha2, bl_ba]
  have HN : Hid (∀ W, Below w.heap.size w W → Calls Tryz.prog 43 #[.string a1] W (ChoPost a1 W)) := fun W hB => choice_any a1 W z1 (hmx.below hB hmx.pos) (hE.below hB hE.pos)
  have HMx : Hid (∀ W, Below w.heap.size w W → Mx W) := fun W hB => hmx.below hB hmx.pos
  have HB0 := one_new w
  rw [hc1, hc2, bl_length] at hR
  clear hcu ha1 ha2 hc1 hc2 hl hmx hE hbx hx hxs
  cases c3 with
  | false =>
    rw [if_pos rfl] at hR
    subst hR
    dsimp only [Rd.val]
    go_enter Tryz.func23, Tryz.ntmps23
    go_wp2_with fail
    refine (HCu0.out _ (HMx.out _ ((Below.refl _ w).alloc (Nat.le_refl _) _))).mono ?_
    rintro e w1 ⟨rfl, hb1'⟩
    rw [World.size_alloc] at hb1'
    obtain ⟨⟨r0, r1, r2, r3, r4, r5, r6, r7, r8, r9, r10, r11⟩, hfz⟩ := mod_cells (HB0.out _ hb1').1
    have hq := set_build hb1' E E E false false none false false 0 0 0 0
    have HQ : Hid _ := hq
    clear hq hb1'
    go_wp2
    obtain ⟨W, hW⟩ : ∃ W, W = setMd w1 w.heap.size E E E false false none false false 0 0 0 0 := ⟨_, rfl⟩
    have hq := HQ.out
    rw [← hW] at hq
    obtain ⟨⟨q0, q1, q2, q3, q4, q5, q6, q7, q8, q9, q10, q11⟩, _⟩ := mod_cells hq.2
    show bodyPost Tryz.prog Tryz.f23 _ Exit.ret _ (setMd w1 w.heap.size E E E false false none false false 0 0 0 0)
    rw [← hW]
    refine bodyPost_ret (v := .tuple #[.agg zeroMd, .int .i64 0, .int .i64 4]) (by simp [results, Tryz.results23, go_sem, q0, q1, q2, q3, q4, q5, q6, q7, q8, q9, q10, q11]; try rfl) rfl ⟨rfl, hq.1⟩
  | true =>
    rw [if_neg (by simp)] at hR
    obtain ⟨bb, hbb⟩ : ∃ bb, bb = (choO (bl a1)).isSome := ⟨_, rfl⟩
    have HR : Hid (R = match choO (bl a1) with
      | none => .bad 12
      | some m => if bl a2 = [] ∨ (bl a2).head? = some 58 then .ok m (a1.size + 2) else .bad 12) := hR
    unfold ChoPost at HN
    rw [← hbb] at HN
    have HBb : Hid (bb = (choO (bl a1)).isSome) := hbb
    clear hR hbb
    by_cases hgood : bb = true ∧ (bl a2 = [] ∨ (bl a2).head? = some 58)
    · obtain ⟨rfl, hend⟩ := hgood
      have HRO : Hid (∃ m, choO (bl a1) = some m ∧ R = .ok m (a1.size + 2)) := by
        unfold Hid
        have h1 := HBb.out
        have h2 := HR.out
        cases hc : choO (bl a1) with
        | none => rw [hc] at h1; cases h1
        | some m => rw [hc] at h2; refine ⟨m, rfl, ?_⟩; rw [h2]; exact if_pos hend
      have HE : Hid (a2 = E ∨ ∃ (h : 0 < a2.size), a2[0].toNat = 58) := by
        rcases hend with h | h
        · exact .inl (bl_inj h)
        · have hz : 0 < a2.size := by
            rw [← bl_length]
            cases hb : bl a2 with
            | nil => rw [hb] at h; cases h
            | cons => simp
          refine .inr ⟨hz, ?_⟩
          have h3 := bl_get a2 0 hz
          rw [← List.head?_eq_getElem?, h] at h3
          have h4 : a2[0] = 58 := (Option.some.inj h3).symm
          rw [h4]; rfl
      clear HR HBb hend
      have KEY : ∀ c2 : Bool, True := fun _ => trivial
      clear KEY
      rcases HE.out with rfl | ⟨hz, h58⟩
      · clear HE
        go_enter Tryz.func23, Tryz.ntmps23
        go_wp2_with fail
        refine (HCu0.out _ (HMx.out _ ((Below.refl _ w).alloc (Nat.le_refl _) _))).mono ?_
        rintro e w1 ⟨rfl, hb1'⟩
        rw [World.size_alloc] at hb1'
        have HZ1 : Hid (Below (w.heap.size + 1) (w.alloc (.cells zeroMd 45)) w1 ∧ w.heap.size + 1 ≤ w1.heap.size) := ⟨hb1', by have := hb1'.size; simpa using this⟩
        clear hb1'
        go_wp2_with fail
        refine (HN.out _ (HB0.out _ HZ1.out.1).2).mono ?_
        rintro e w2 ⟨⟨m, rfl, hm⟩, hb2'⟩
        have HM : Hid (∀ k, choO (bl a1) = some k → m = k) := hm
        have hz2 : Below (w.heap.size + 1) (w.alloc (.cells zeroMd 45)) w2 := HZ1.out.1.trans (hb2'.mono HZ1.out.2)
        have hz3 : w.heap.size + 1 ≤ w2.heap.size := Nat.le_trans HZ1.out.2 hb2'.size
        have HZ2 : Hid (Below (w.heap.size + 1) (w.alloc (.cells zeroMd 45)) w2 ∧ w.heap.size + 1 ≤ w2.heap.size) := ⟨hz2, hz3⟩
        clear hm hb2' hz2 hz3
        obtain ⟨kind, a, c, bg, en, ex, al, on, mks, ots, frm, upto⟩ := m
        dsimp only [Md.cells]
        go_upto_region 5 with fail
        obtain ⟨w3, hw3⟩ : ∃ w3, w3 = w2.alloc (.cells (mdV kind a c bg en ex al on mks ots frm upto) 45) := ⟨_, rfl⟩
        have hZ3 : Below (w.heap.size + 1) (w.alloc (.cells zeroMd 45)) w3 := by rw [hw3]; exact HZ2.out.1.alloc HZ2.out.2 _
        have hm3 : w3.heap[w2.heap.size]? = some (.cells (mdV kind a c bg en ex al on mks ots frm upto) 45 (0, 0)) := by rw [hw3]; exact heap_alloc_new w2 _
        obtain ⟨⟨r0, r1, r2, r3, r4, r5, r6, r7, r8, r9, r10, r11⟩, hfz⟩ := mod_cells (HB0.out _ hZ3).1
        obtain ⟨⟨s0, s1, s2, s3, s4, s5, s6, s7, s8, s9, s10, s11⟩, hfz2⟩ := mod_cells hm3
        have hne : ¬ w2.heap.size = w.heap.size := by have := HZ2.out.2; omega
        have hne2 : ¬ w.heap.size = w2.heap.size := by have := HZ2.out.2; omega
        rw [← hw3]
        have hq := set_build hZ3 kind a c bg en ex al on mks ots frm upto
        have HQ : Hid _ := hq
        have HV : Hid (R = .ok { kind := kind, a := a, b := c, bg := bg, en := en, ex := ex, al := al, on := on, mks := mks, ots := ots, frm := frm, upto := upto } (a1.size + 2)) := by
          obtain ⟨m, e1, e2⟩ := HRO.out
          have e3 := HM.out m e1
          unfold Hid; rw [e2, ← e3]
        clear hw3 hq hZ3 hm3 HM
        go_wp2
        obtain ⟨W, hW⟩ : ∃ W, W = setMd w3 w.heap.size kind a c bg en ex al on mks ots frm upto := ⟨_, rfl⟩
        have hq := HQ.out
        rw [← hW] at hq
        obtain ⟨⟨q0, q1, q2, q3, q4, q5, q6, q7, q8, q9, q10, q11⟩, _⟩ := mod_cells hq.2
        show bodyPost Tryz.prog Tryz.f23 _ Exit.ret _ (setMd w3 w.heap.size kind a c bg en ex al on mks ots frm upto)
        rw [← hW]
        refine bodyPost_ret (v := .tuple #[.agg (mdV kind a c bg en ex al on mks ots frm upto), .int .i64 (a1.size + 2), .int .i64 0]) (by simp [results, Tryz.results23, go_sem, q0, q1, q2, q3, q4, q5, q6, q7, q8, q9, q10, q11]; try rfl) rfl ⟨?_, hq.1⟩
        rw [HV.out]; rfl
      · clear HE
        have h58i : (a2[0].toNat : Int) = 58 := by omega
        clear h58
        have t1 : ¬ a2.toList = [] := by rw [Lib.toList_data]; intro e; have := bl_length a2; unfold bl at this; rw [e] at this; simp at this; omega
        have t2 : a2.toList.isEmpty = false := by cases hh : a2.toList with | nil => exact absurd hh t1 | cons => rfl
        have hzi : (0 : Int) < (a2.size : Int) := by omega
        go_enter Tryz.func23, Tryz.ntmps23
        go_wp2_with fail
        refine (HCu0.out _ (HMx.out _ ((Below.refl _ w).alloc (Nat.le_refl _) _))).mono ?_
        rintro e w1 ⟨rfl, hb1'⟩
        rw [World.size_alloc] at hb1'
        have HZ1 : Hid (Below (w.heap.size + 1) (w.alloc (.cells zeroMd 45)) w1 ∧ w.heap.size + 1 ≤ w1.heap.size) := ⟨hb1', by have := hb1'.size; simpa using this⟩
        clear hb1'
        go_wp2_with fail
        refine (HN.out _ (HB0.out _ HZ1.out.1).2).mono ?_
        rintro e w2 ⟨⟨m, rfl, hm⟩, hb2'⟩
        have HM : Hid (∀ k, choO (bl a1) = some k → m = k) := hm
        have hz2 : Below (w.heap.size + 1) (w.alloc (.cells zeroMd 45)) w2 := HZ1.out.1.trans (hb2'.mono HZ1.out.2)
        have hz3 : w.heap.size + 1 ≤ w2.heap.size := Nat.le_trans HZ1.out.2 hb2'.size
        have HZ2 : Hid (Below (w.heap.size + 1) (w.alloc (.cells zeroMd 45)) w2 ∧ w.heap.size + 1 ≤ w2.heap.size) := ⟨hz2, hz3⟩
        clear hm hb2' hz2 hz3
        obtain ⟨kind, a, c, bg, en, ex, al, on, mks, ots, frm, upto⟩ := m
        dsimp only [Md.cells]
        go_upto_region 5 with fail
        obtain ⟨w3, hw3⟩ : ∃ w3, w3 = w2.alloc (.cells (mdV kind a c bg en ex al on mks ots frm upto) 45) := ⟨_, rfl⟩
        have hZ3 : Below (w.heap.size + 1) (w.alloc (.cells zeroMd 45)) w3 := by rw [hw3]; exact HZ2.out.1.alloc HZ2.out.2 _
        have hm3 : w3.heap[w2.heap.size]? = some (.cells (mdV kind a c bg en ex al on mks ots frm upto) 45 (0, 0)) := by rw [hw3]; exact heap_alloc_new w2 _
        obtain ⟨⟨r0, r1, r2, r3, r4, r5, r6, r7, r8, r9, r10, r11⟩, hfz⟩ := mod_cells (HB0.out _ hZ3).1
        obtain ⟨⟨s0, s1, s2, s3, s4, s5, s6, s7, s8, s9, s10, s11⟩, hfz2⟩ := mod_cells hm3
        have hne : ¬ w2.heap.size = w.heap.size := by have := HZ2.out.2; omega
        have hne2 : ¬ w.heap.size = w2.heap.size := by have := HZ2.out.2; omega
        rw [← hw3]
        have hq := set_build hZ3 kind a c bg en ex al on mks ots frm upto
        have HQ : Hid _ := hq
        have HV : Hid (R = .ok { kind := kind, a := a, b := c, bg := bg, en := en, ex := ex, al := al, on := on, mks := mks, ots := ots, frm := frm, upto := upto } (a1.size + 2)) := by
          obtain ⟨m, e1, e2⟩ := HRO.out
          have e3 := HM.out m e1
          unfold Hid; rw [e2, ← e3]
        clear hw3 hq hZ3 hm3 HM
        go_wp2
        obtain ⟨W, hW⟩ : ∃ W, W = setMd w3 w.heap.size kind a c bg en ex al on mks ots frm upto := ⟨_, rfl⟩
        have hq := HQ.out
        rw [← hW] at hq
        obtain ⟨⟨q0, q1, q2, q3, q4, q5, q6, q7, q8, q9, q10, q11⟩, _⟩ := mod_cells hq.2
        show bodyPost Tryz.prog Tryz.f23 _ Exit.ret _ (setMd w3 w.heap.size kind a c bg en ex al on mks ots frm upto)
        rw [← hW]
        refine bodyPost_ret (v := .tuple #[.agg (mdV kind a c bg en ex al on mks ots frm upto), .int .i64 (a1.size + 2), .int .i64 0]) (by simp [results, Tryz.results23, go_sem, q0, q1, q2, q3, q4, q5, q6, q7, q8, q9, q10, q11]; try rfl) rfl ⟨?_, hq.1⟩
        rw [HV.out]; rfl
    · have HV : Hid (R = .bad 12) := by
        unfold Hid
        rw [HR.out]
        cases hc : choO (bl a1) with
        | none => rfl
        | some m =>
          refine if_neg fun h => hgood ⟨?_, h⟩
          rw [HBb.out, hc]; rfl
      cases bb with
      | false =>
        clear HR HBb hgood
        go_enter Tryz.func23, Tryz.ntmps23
        go_wp2_with fail
        refine (HCu0.out _ (HMx.out _ ((Below.refl _ w).alloc (Nat.le_refl _) _))).mono ?_
        rintro e w1 ⟨rfl, hb1'⟩
        rw [World.size_alloc] at hb1'
        have HZ1 : Hid (Below (w.heap.size + 1) (w.alloc (.cells zeroMd 45)) w1 ∧ w.heap.size + 1 ≤ w1.heap.size) := ⟨hb1', by have := hb1'.size; simpa using this⟩
        clear hb1'
        go_wp2_with fail
        refine (HN.out _ (HB0.out _ HZ1.out.1).2).mono ?_
        rintro e w2 ⟨⟨m, rfl, hm⟩, hb2'⟩
        have HM : Hid (∀ k, choO (bl a1) = some k → m = k) := hm
        have hz2 : Below (w.heap.size + 1) (w.alloc (.cells zeroMd 45)) w2 := HZ1.out.1.trans (hb2'.mono HZ1.out.2)
        have hz3 : w.heap.size + 1 ≤ w2.heap.size := Nat.le_trans HZ1.out.2 hb2'.size
        have HZ2 : Hid (Below (w.heap.size + 1) (w.alloc (.cells zeroMd 45)) w2 ∧ w.heap.size + 1 ≤ w2.heap.size) := ⟨hz2, hz3⟩
        clear hm hb2' hz2 hz3
        obtain ⟨kind, a, c, bg, en, ex, al, on, mks, ots, frm, upto⟩ := m
        dsimp only [Md.cells]
        go_upto_region 5 with fail
        obtain ⟨w3, hw3⟩ : ∃ w3, w3 = w2.alloc (.cells (mdV kind a c bg en ex al on mks ots frm upto) 45) := ⟨_, rfl⟩
        have hZ3 : Below (w.heap.size + 1) (w.alloc (.cells zeroMd 45)) w3 := by rw [hw3]; exact HZ2.out.1.alloc HZ2.out.2 _
        have hm3 : w3.heap[w2.heap.size]? = some (.cells (mdV kind a c bg en ex al on mks ots frm upto) 45 (0, 0)) := by rw [hw3]; exact heap_alloc_new w2 _
        obtain ⟨⟨r0, r1, r2, r3, r4, r5, r6, r7, r8, r9, r10, r11⟩, hfz⟩ := mod_cells (HB0.out _ hZ3).1
        obtain ⟨⟨s0, s1, s2, s3, s4, s5, s6, s7, s8, s9, s10, s11⟩, hfz2⟩ := mod_cells hm3
        have hne : ¬ w2.heap.size = w.heap.size := by have := HZ2.out.2; omega
        have hne2 : ¬ w.heap.size = w2.heap.size := by have := HZ2.out.2; omega
        rw [← hw3]
        have hq := set_build hZ3 E E E false false none false false 0 0 0 0
        have HQ : Hid _ := hq
        clear hw3 hq hZ3 hm3 HM
        go_wp2
        obtain ⟨W, hW⟩ : ∃ W, W = setMd w3 w.heap.size E E E false false none false false 0 0 0 0 := ⟨_, rfl⟩
        have hq := HQ.out
        rw [← hW] at hq
        obtain ⟨⟨q0, q1, q2, q3, q4, q5, q6, q7, q8, q9, q10, q11⟩, _⟩ := mod_cells hq.2
        show bodyPost Tryz.prog Tryz.f23 _ Exit.ret _ (setMd w3 w.heap.size E E E false false none false false 0 0 0 0)
        rw [← hW]
        refine bodyPost_ret (v := .tuple #[.agg zeroMd, .int .i64 0, .int .i64 12]) (by simp [results, Tryz.results23, go_sem, q0, q1, q2, q3, q4, q5, q6, q7, q8, q9, q10, q11]; try rfl) rfl ⟨?_, hq.1⟩
        rw [HV.out]; rfl
      | true =>
        have hz : 0 < a2.size := by
          rw [← bl_length]
          cases hb : bl a2 with
          | nil => exact absurd ⟨rfl, .inl hb⟩ hgood
          | cons => simp
        have h58 : ((a2[0].toNat : Int) == 58) = false := by
          rw [beq_eq_false_iff_ne]
          intro h
          apply hgood
          refine ⟨rfl, .inr ?_⟩
          rw [List.head?_eq_getElem?, bl_get a2 0 hz]
          have h4 : a2[0].toNat = 58 := by omega
          rw [show a2[0] = 58 from UInt8.toNat_inj.1 h4]
        have h58n : ¬ (a2[0].toNat : Int) = 58 := by simpa using h58
        clear HR HBb hgood
        have t1 : ¬ a2.toList = [] := by rw [Lib.toList_data]; intro e; have := bl_length a2; unfold bl at this; rw [e] at this; simp at this; omega
        have t2 : a2.toList.isEmpty = false := by cases hh : a2.toList with | nil => exact absurd hh t1 | cons => rfl
        have hzi : (0 : Int) < (a2.size : Int) := by omega
        go_enter Tryz.func23, Tryz.ntmps23
        go_wp2_with fail
        refine (HCu0.out _ (HMx.out _ ((Below.refl _ w).alloc (Nat.le_refl _) _))).mono ?_
        rintro e w1 ⟨rfl, hb1'⟩
        rw [World.size_alloc] at hb1'
        have HZ1 : Hid (Below (w.heap.size + 1) (w.alloc (.cells zeroMd 45)) w1 ∧ w.heap.size + 1 ≤ w1.heap.size) := ⟨hb1', by have := hb1'.size; simpa using this⟩
        clear hb1'
        go_wp2_with fail
        refine (HN.out _ (HB0.out _ HZ1.out.1).2).mono ?_
        rintro e w2 ⟨⟨m, rfl, hm⟩, hb2'⟩
        have HM : Hid (∀ k, choO (bl a1) = some k → m = k) := hm
        have hz2 : Below (w.heap.size + 1) (w.alloc (.cells zeroMd 45)) w2 := HZ1.out.1.trans (hb2'.mono HZ1.out.2)
        have hz3 : w.heap.size + 1 ≤ w2.heap.size := Nat.le_trans HZ1.out.2 hb2'.size
        have HZ2 : Hid (Below (w.heap.size + 1) (w.alloc (.cells zeroMd 45)) w2 ∧ w.heap.size + 1 ≤ w2.heap.size) := ⟨hz2, hz3⟩
        clear hm hb2' hz2 hz3
        obtain ⟨kind, a, c, bg, en, ex, al, on, mks, ots, frm, upto⟩ := m
        dsimp only [Md.cells]
        go_upto_region 5 with fail
        obtain ⟨w3, hw3⟩ : ∃ w3, w3 = w2.alloc (.cells (mdV kind a c bg en ex al on mks ots frm upto) 45) := ⟨_, rfl⟩
        have hZ3 : Below (w.heap.size + 1) (w.alloc (.cells zeroMd 45)) w3 := by rw [hw3]; exact HZ2.out.1.alloc HZ2.out.2 _
        have hm3 : w3.heap[w2.heap.size]? = some (.cells (mdV kind a c bg en ex al on mks ots frm upto) 45 (0, 0)) := by rw [hw3]; exact heap_alloc_new w2 _
        obtain ⟨⟨r0, r1, r2, r3, r4, r5, r6, r7, r8, r9, r10, r11⟩, hfz⟩ := mod_cells (HB0.out _ hZ3).1
        obtain ⟨⟨s0, s1, s2, s3, s4, s5, s6, s7, s8, s9, s10, s11⟩, hfz2⟩ := mod_cells hm3
        have hne : ¬ w2.heap.size = w.heap.size := by have := HZ2.out.2; omega
        have hne2 : ¬ w.heap.size = w2.heap.size := by have := HZ2.out.2; omega
        rw [← hw3]
        have hq := set_build hZ3 E E E false false none false false 0 0 0 0
        have HQ : Hid _ := hq
        clear hw3 hq hZ3 hm3 HM
        go_wp2
        obtain ⟨W, hW⟩ : ∃ W, W = setMd w3 w.heap.size E E E false false none false false 0 0 0 0 := ⟨_, rfl⟩
        have hq := HQ.out
        rw [← hW] at hq
        obtain ⟨⟨q0, q1, q2, q3, q4, q5, q6, q7, q8, q9, q10, q11⟩, _⟩ := mod_cells hq.2
        show bodyPost Tryz.prog Tryz.f23 _ Exit.ret _ (setMd w3 w.heap.size E E E false false none false false 0 0 0 0)
        rw [← hW]
        refine bodyPost_ret (v := .tuple #[.agg zeroMd, .int .i64 0, .int .i64 12]) (by simp [results, Tryz.results23, go_sem, q0, q1, q2, q3, q4, q5, q6, q7, q8, q9, q10, q11]; try rfl) rfl ⟨?_, hq.1⟩
        rw [HV.out]; rfl
end Go.Proofs.YtpcpcfnmcfjomaaGreatDoor
