/-
  DQ5
-/
import Derived.Test.YtpcpcfnmcfjomaaGreatDoorK13
import Derived.Deep.RegionHeld3
namespace Go.Proofs.YtpcpcfnmcfjomaaGreatDoor.DQ
open Go.RowKit Go.Shelf
def wordsD : List ByteArray := [⟨#[84]⟩, ⟨#[72]⟩, ⟨#[69]⟩, ⟨#[82]⟩, ⟨#[79]⟩, ⟨#[79, 114]⟩, ⟨#[117]⟩, ⟨#[114]⟩, ⟨#[116, 108]⟩, ⟨#[116, 117]⟩, ⟨#[81]⟩]
def eqI : List UInt8 → Option Nat
  | [] => none
  | c :: t => if c = 61 then some 0 else (eqI t).map (· + 1)
open Classical in
noncomputable def oneP (l : List UInt8) : Do :=
  if ba (untilL 58 l).1 ∈ wordsD then .ok { kind := ba (untilL 58 l).1 } (untilL 58 l).2.1
  else match eqI (untilL 58 l).1 with
  | some i => .ok { kind := ⟨#[61]⟩, a := ba ((untilL 58 l).1.take i), b := ba ((untilL 58 l).1.drop (i + 1)) } (untilL 58 l).2.1
  | none => .bad 12
open Classical in
noncomputable def oneA (l : List UInt8) : Do :=
  if l.head? = some 77 ∨ l.head? = some 78 then .ok { kind := ba (l.take 1), a := ba (untilL 58 (l.drop 1)).1 } ((untilL 58 (l.drop 1)).2.1 + 1)
  else if l.head? = some 91 then pickA l else oneP l
theorem eq_at {l : List UInt8} {k : Nat} (h : ∀ j, j < k → ¬ l[j]? = some 61) : eqI l = (eqI (l.drop k)).map (· + k) := by
  induction k generalizing l with
  | zero => simp
  | succ k ih =>
    cases l with
    | nil => simp [eqI]
    | cons c t =>
      have h0 := h 0 (Nat.succ_pos _)
      have := ih (l := t) (fun j hj => h (j + 1) (by omega))
      rw [eqI, if_neg (by simpa using h0), this, List.drop_succ_cons, Option.map_map]
      congr 1
theorem eq_hit {l : List UInt8} {k : Nat} (h : ∀ j, j < k → ¬ l[j]? = some 61) (hk : l[k]? = some 61) : eqI l = some k := by
  rw [eq_at h]
  have h1 : k < l.length := (List.getElem?_eq_some_iff.1 hk).1
  rw [List.drop_eq_getElem_cons h1, (List.getElem?_eq_some_iff.1 hk).2, eqI, if_pos rfl]
  simp
theorem eq_no {l : List UInt8} {k : Nat} (h : ∀ j, j < k → ¬ l[j]? = some 61) (hk : l.length ≤ k) : eqI l = none := by
  rw [eq_at h, List.drop_of_length_le hk]; rfl
theorem not_lit {x : ByteArray} {l : List UInt8} (h : ¬ x = ba l) : (x.toList == l) = false := by
  rw [ByteArray.toList_eq, ← Bool.not_eq_true, beq_iff_eq]
  intro e; apply h; apply bl_inj; rw [bl_ba]; exact e
theorem put8_drew {B : Nat} {w0 w : World} {b : Nat} {T : TypeId} {z0 z1 z2 z3 z4 z5 z6 z7 : Value} (h : w.heap[b]? = some (.cells #[z0, z1, z2, z3, z4, z5, z6, z7] T (0, 0))) (hb : Below B w0 w) (hB : B ≤ b) (u0 u1 u2 u3 u4 u5 u6 u7 : Value) :
    (put8 w b u0 u1 u2 u3 u4 u5 u6 u7).drew.heap[b]? = some (.cells #[u0, u1, u2, u3, u4, u5, u6, u7] T (0, 0)) ∧ Below B w0 (put8 w b u0 u1 u2 u3 u4 u5 u6 u7).drew := by
  have hp := put8_is h hb hB u0 u1 u2 u3 u4 u5 u6 u7
  generalize put8 w b u0 u1 u2 u3 u4 u5 u6 u7 = W at hp ⊢
  exact ⟨hp.1, hp.2.drew⟩
theorem u8_no {c : UInt8} {k : UInt8} (h : ¬ c = k) : ((c.toNat : Int) == (k.toNat : Int)) = false := by
  rw [← Bool.not_eq_true, beq_iff_eq]
  intro e; apply h; rw [u8_eq_iff]; omega
set_option maxRecDepth 20000 in
set_option maxHeartbeats 8000000 in
theorem one_any (s : ByteArray) (w : World) (hs : s.size ≤ 1000000) (h83 : ¬ (bl s).head? = some 83) (h67 : ¬ (bl s).head? = some 67) :
    Calls Tryz.prog 16 #[.string s] w fun e w' => e = .returned (oneA (bl s)).val ∧ Below w.heap.size w w' := by
  have HPl : Hid (∀ (t : ByteArray) (W : World), t.size ≤ 1000000 → Calls Tryz.prog 27 #[.string t] W fun x w' => x = .returned (plainV t) ∧ Below W.heap.size W w') := fun t W ht => plain_any t W ht
  by_cases hpos : 0 < s.size
  · have hpi : (0 : Int) < (s.size : Int) := by omega
    have hb0 := bl_get s 0 hpos
    have hh : (bl s).head? = some s[0] := by rw [List.head?_eq_getElem?, hb0]
    have n83 : ((s[0].toNat : Int) == 83) = false := u8_no (k := 83) (fun e => h83 (by rw [hh, e]))
    have n67 : ((s[0].toNat : Int) == 67) = false := u8_no (k := 67) (fun e => h67 (by rw [hh, e]))
    clear h83 h67 hb0
    by_cases h91 : s[0] = 91
    · have HOP : Hid (oneA (bl s) = pickA (bl s)) := by
        unfold Hid oneA
        rw [if_neg (by rw [hh, h91]; rintro (h | h) <;> exact absurd (Option.some.inj h) (by decide)), if_pos (by rw [hh, h91])]
      have HPk : Hid (∀ W, Calls Tryz.prog 29 #[.string s] W fun e w' => e = .returned (pickA (bl s)).val ∧ Below W.heap.size W w') := fun W => pick_any s W hs (by rw [hh, h91])
      have n91 : ((s[0].toNat : Int) == 91) = true := by rw [h91]; rfl
      have n77 : ((s[0].toNat : Int) == 77) = false := by rw [h91]; rfl
      have n78 : ((s[0].toNat : Int) == 78) = false := by rw [h91]; rfl
      clear hh h91
      go_enter Tryz.func16, Tryz.ntmps16
      go_wp2_with fail
      refine (HPk.out _).mono ?_
      rintro e w2 ⟨rfl, hb2⟩
      have hZ2 : w2.heap[w.heap.size]? = some (.cells (dmA E E E 0 0 0) 53 (0, 0)) := (hb2.block _ (by simp)).trans (Cd.heap_new _ _)
      have HZ : Hid (w2.heap[w.heap.size]? = some (.cells (dmA E E E 0 0 0) 53 (0, 0))) := hZ2
      have HB : Hid (Below w.heap.size w w2) := ((Below.refl _ w).alloc (Nat.le_refl _) _).trans (hb2.mono (by simp))
      have z0 := cell_in HZ.out 0 rfl
      have fz0 : w2.frozen? ⟨w.heap.size, 0, none⟩ = false := by simp [World.frozen?, HZ.out]
      have z1 := cell_in HZ.out 1 rfl
      have fz1 : w2.frozen? ⟨w.heap.size, 1, none⟩ = false := by simp [World.frozen?, HZ.out]
      have z2 := cell_in HZ.out 2 rfl
      have fz2 : w2.frozen? ⟨w.heap.size, 2, none⟩ = false := by simp [World.frozen?, HZ.out]
      have z3 := cell_in HZ.out 3 rfl
      have fz3 : w2.frozen? ⟨w.heap.size, 3, none⟩ = false := by simp [World.frozen?, HZ.out]
      have z4 := cell_in HZ.out 4 rfl
      have fz4 : w2.frozen? ⟨w.heap.size, 4, none⟩ = false := by simp [World.frozen?, HZ.out]
      have z5 := cell_in HZ.out 5 rfl
      have fz5 : w2.frozen? ⟨w.heap.size, 5, none⟩ = false := by simp [World.frozen?, HZ.out]
      have z6 := cell_in HZ.out 6 rfl
      have fz6 : w2.frozen? ⟨w.heap.size, 6, none⟩ = false := by simp [World.frozen?, HZ.out]
      have z7 := cell_in HZ.out 7 rfl
      have fz7 : w2.frozen? ⟨w.heap.size, 7, none⟩ = false := by simp [World.frozen?, HZ.out]
      clear hZ2 hb2
      cases hp : pickA (bl s) with
      | bad er =>
        have HR : Hid (pickA (bl s) = .bad er) := hp
        dsimp only [Do.val]
        clear hp
        go_wp2_with fail
        obtain ⟨WF, hWF⟩ : ∃ WF, WF = put8 w2 w.heap.size (.string E) (.string E) (.string E) (.bool false) (.bool false) (.int .i64 0) (.int .i64 0) (.int .u8 0) := ⟨_, rfl⟩
        have hq : WF.heap[w.heap.size]? = some (.cells #[.string E, .string E, .string E, .bool false, .bool false, .int .i64 0, .int .i64 0, .int .u8 0] 53 (0, 0)) ∧ Below w.heap.size w WF := by rw [hWF]; exact put8_is HZ.out HB.out (Nat.le_refl _) _ _ _ _ _ _ _ _
        show bodyPost Tryz.prog Tryz.f16 _ Exit.ret _ (put8 w2 w.heap.size (.string E) (.string E) (.string E) (.bool false) (.bool false) (.int .i64 0) (.int .i64 0) (.int .u8 0))
        rw [← hWF]
        have v0 := cell_in hq.1 0 rfl
        have v1 := cell_in hq.1 1 rfl
        have v2 := cell_in hq.1 2 rfl
        have v3 := cell_in hq.1 3 rfl
        have v4 := cell_in hq.1 4 rfl
        have v5 := cell_in hq.1 5 rfl
        have v6 := cell_in hq.1 6 rfl
        have v7 := cell_in hq.1 7 rfl
        refine bodyPost_ret (v := .tuple #[.agg #[.string E, .string E, .string E, .bool false, .bool false, .int .i64 0, .int .i64 0, .int .u8 0], .int .i64 0, .int .i64 er]) (by simp [results, Tryz.results16, go_sem, v0, v1, v2, v3, v4, v5, v6, v7]; try rfl) rfl ⟨by rw [HOP.out, HR.out]; rfl, hq.2⟩
      | ok m n =>
        obtain ⟨mk, ma, mb, mf, mt, my⟩ := m
        have HR : Hid (pickA (bl s) = .ok ⟨mk, ma, mb, mf, mt, my⟩ n) := hp
        dsimp only [Do.val, Dm.cells]
        clear hp
        go_wp2_with fail
        obtain ⟨WF, hWF⟩ : ∃ WF, WF = put8 w2 w.heap.size (.string mk) (.string ma) (.string mb) (.bool false) (.bool false) (.int .i64 mf) (.int .i64 mt) (.int .u8 my) := ⟨_, rfl⟩
        have hq : WF.heap[w.heap.size]? = some (.cells #[.string mk, .string ma, .string mb, .bool false, .bool false, .int .i64 mf, .int .i64 mt, .int .u8 my] 53 (0, 0)) ∧ Below w.heap.size w WF := by rw [hWF]; exact put8_is HZ.out HB.out (Nat.le_refl _) _ _ _ _ _ _ _ _
        show bodyPost Tryz.prog Tryz.f16 _ Exit.ret _ (put8 w2 w.heap.size (.string mk) (.string ma) (.string mb) (.bool false) (.bool false) (.int .i64 mf) (.int .i64 mt) (.int .u8 my))
        rw [← hWF]
        have v0 := cell_in hq.1 0 rfl
        have v1 := cell_in hq.1 1 rfl
        have v2 := cell_in hq.1 2 rfl
        have v3 := cell_in hq.1 3 rfl
        have v4 := cell_in hq.1 4 rfl
        have v5 := cell_in hq.1 5 rfl
        have v6 := cell_in hq.1 6 rfl
        have v7 := cell_in hq.1 7 rfl
        refine bodyPost_ret (v := .tuple #[.agg #[.string mk, .string ma, .string mb, .bool false, .bool false, .int .i64 mf, .int .i64 mt, .int .u8 my], .int .i64 n, .int .i64 0]) (by simp [results, Tryz.results16, go_sem, v0, v1, v2, v3, v4, v5, v6, v7]; try rfl) rfl ⟨by rw [HOP.out, HR.out]; rfl, hq.2⟩
    · have n91 : ((s[0].toNat : Int) == 91) = false := u8_no (k := 91) h91
      by_cases hMN : s[0] = 77 ∨ s[0] = 78
      · have HOP : Hid ((bl s).head? = some 77 ∨ (bl s).head? = some 78) := by
          rw [hh]; rcases hMN with h | h
          · exact .inl (by rw [h])
          · exact .inr (by rw [h])
        obtain ⟨t, ht⟩ : ∃ t, t = s.extract 1 s.size := ⟨_, rfl⟩
        have HX : Hid (t = s.extract 1 s.size ∧ bl t = (bl s).drop 1 ∧ t.size ≤ 1000000) := ⟨ht, by rw [ht, bl_extract, take_all], by rw [ht]; simp; omega⟩
        have h1i : (1 : Int) ≤ (s.size : Int) := by omega
        clear ht hh h91
        rcases hMN with h | h
        · have n77 : ((s[0].toNat : Int) == 77) = true := by rw [h]; rfl
          have n78 : ((s[0].toNat : Int) == 78) = false := by rw [h]; rfl
          clear h
          go_enter Tryz.func16, Tryz.ntmps16
          go_wp2_with fail
          rw [← HX.out.1]
          refine (HPl.out t _ HX.out.2.2).mono ?_
          rintro e w2 ⟨rfl, hb2⟩
          unfold plainV
          rcases hu : untilL 58 (bl t) with ⟨tx, nn, tf⟩
          dsimp only
          obtain ⟨x, hx⟩ : ∃ x, x = ba tx := ⟨_, rfl⟩
          have hnn : nn ≤ 1000000 := by
            have h1 := (until_len 58 (bl t)).2
            rw [hu, bl_length] at h1
            have h2 := HX.out.2.2
            dsimp only at h1
            omega
          have HR : Hid (oneA (bl s) = .ok { kind := s.extract 0 1, a := x } (nn + 1)) := by
            unfold Hid oneA
            rw [if_pos HOP.out, ← HX.out.2.1, hu, hx]
            have e1 : ba ((bl s).take 1) = s.extract 0 1 := bl_inj (by rw [bl_ba, bl_extract]; rfl)
            rw [e1]
          have hZ2 : w2.heap[w.heap.size]? = some (.cells (dmA E E E 0 0 0) 53 (0, 0)) := (hb2.block _ (by simp)).trans (Cd.heap_new _ _)
          have HZ : Hid (w2.heap[w.heap.size]? = some (.cells (dmA E E E 0 0 0) 53 (0, 0))) := hZ2
          have HB : Hid (Below w.heap.size w w2) := ((Below.refl _ w).alloc (Nat.le_refl _) _).trans (hb2.mono (by simp))
          have z0 := cell_in HZ.out 0 rfl
          have fz0 : w2.frozen? ⟨w.heap.size, 0, none⟩ = false := by simp [World.frozen?, HZ.out]
          have z1 := cell_in HZ.out 1 rfl
          have fz1 : w2.frozen? ⟨w.heap.size, 1, none⟩ = false := by simp [World.frozen?, HZ.out]
          have z2 := cell_in HZ.out 2 rfl
          have fz2 : w2.frozen? ⟨w.heap.size, 2, none⟩ = false := by simp [World.frozen?, HZ.out]
          have z3 := cell_in HZ.out 3 rfl
          have fz3 : w2.frozen? ⟨w.heap.size, 3, none⟩ = false := by simp [World.frozen?, HZ.out]
          have z4 := cell_in HZ.out 4 rfl
          have fz4 : w2.frozen? ⟨w.heap.size, 4, none⟩ = false := by simp [World.frozen?, HZ.out]
          have z5 := cell_in HZ.out 5 rfl
          have fz5 : w2.frozen? ⟨w.heap.size, 5, none⟩ = false := by simp [World.frozen?, HZ.out]
          have z6 := cell_in HZ.out 6 rfl
          have fz6 : w2.frozen? ⟨w.heap.size, 6, none⟩ = false := by simp [World.frozen?, HZ.out]
          have z7 := cell_in HZ.out 7 rfl
          have fz7 : w2.frozen? ⟨w.heap.size, 7, none⟩ = false := by simp [World.frozen?, HZ.out]
          clear hZ2 hb2
          rw [← hx]
          clear hu hx
          go_wp2_with fail
          obtain ⟨WF, hWF⟩ : ∃ WF, WF = put8 w2 w.heap.size (.string (s.extract 0 1)) (.string x) (.string E) (.bool false) (.bool false) (.int .i64 0) (.int .i64 0) (.int .u8 0) := ⟨_, rfl⟩
          have hq : WF.heap[w.heap.size]? = some (.cells #[.string (s.extract 0 1), .string x, .string E, .bool false, .bool false, .int .i64 0, .int .i64 0, .int .u8 0] 53 (0, 0)) ∧ Below w.heap.size w WF := by rw [hWF]; exact put8_is HZ.out HB.out (Nat.le_refl _) _ _ _ _ _ _ _ _
          show bodyPost Tryz.prog Tryz.f16 _ Exit.ret _ (put8 w2 w.heap.size (.string (s.extract 0 1)) (.string x) (.string E) (.bool false) (.bool false) (.int .i64 0) (.int .i64 0) (.int .u8 0))
          rw [← hWF]
          have v0 := cell_in hq.1 0 rfl
          have v1 := cell_in hq.1 1 rfl
          have v2 := cell_in hq.1 2 rfl
          have v3 := cell_in hq.1 3 rfl
          have v4 := cell_in hq.1 4 rfl
          have v5 := cell_in hq.1 5 rfl
          have v6 := cell_in hq.1 6 rfl
          have v7 := cell_in hq.1 7 rfl
          refine bodyPost_ret (v := .tuple #[.agg #[.string (s.extract 0 1), .string x, .string E, .bool false, .bool false, .int .i64 0, .int .i64 0, .int .u8 0], .int .i64 ((nn + 1 : Nat) : Int), .int .i64 0]) (by simp [results, Tryz.results16, go_sem, v0, v1, v2, v3, v4, v5, v6, v7]; try rfl) rfl ⟨by rw [HR.out]; rfl, hq.2⟩
        · have n77 : ((s[0].toNat : Int) == 77) = false := by rw [h]; rfl
          have n78 : ((s[0].toNat : Int) == 78) = true := by rw [h]; rfl
          clear h
          go_enter Tryz.func16, Tryz.ntmps16
          go_wp2_with fail
          rw [← HX.out.1]
          refine (HPl.out t _ HX.out.2.2).mono ?_
          rintro e w2 ⟨rfl, hb2⟩
          unfold plainV
          rcases hu : untilL 58 (bl t) with ⟨tx, nn, tf⟩
          dsimp only
          obtain ⟨x, hx⟩ : ∃ x, x = ba tx := ⟨_, rfl⟩
          have hnn : nn ≤ 1000000 := by
            have h1 := (until_len 58 (bl t)).2
            rw [hu, bl_length] at h1
            have h2 := HX.out.2.2
            dsimp only at h1
            omega
          have HR : Hid (oneA (bl s) = .ok { kind := s.extract 0 1, a := x } (nn + 1)) := by
            unfold Hid oneA
            rw [if_pos HOP.out, ← HX.out.2.1, hu, hx]
            have e1 : ba ((bl s).take 1) = s.extract 0 1 := bl_inj (by rw [bl_ba, bl_extract]; rfl)
            rw [e1]
          have hZ2 : w2.heap[w.heap.size]? = some (.cells (dmA E E E 0 0 0) 53 (0, 0)) := (hb2.block _ (by simp)).trans (Cd.heap_new _ _)
          have HZ : Hid (w2.heap[w.heap.size]? = some (.cells (dmA E E E 0 0 0) 53 (0, 0))) := hZ2
          have HB : Hid (Below w.heap.size w w2) := ((Below.refl _ w).alloc (Nat.le_refl _) _).trans (hb2.mono (by simp))
          have z0 := cell_in HZ.out 0 rfl
          have fz0 : w2.frozen? ⟨w.heap.size, 0, none⟩ = false := by simp [World.frozen?, HZ.out]
          have z1 := cell_in HZ.out 1 rfl
          have fz1 : w2.frozen? ⟨w.heap.size, 1, none⟩ = false := by simp [World.frozen?, HZ.out]
          have z2 := cell_in HZ.out 2 rfl
          have fz2 : w2.frozen? ⟨w.heap.size, 2, none⟩ = false := by simp [World.frozen?, HZ.out]
          have z3 := cell_in HZ.out 3 rfl
          have fz3 : w2.frozen? ⟨w.heap.size, 3, none⟩ = false := by simp [World.frozen?, HZ.out]
          have z4 := cell_in HZ.out 4 rfl
          have fz4 : w2.frozen? ⟨w.heap.size, 4, none⟩ = false := by simp [World.frozen?, HZ.out]
          have z5 := cell_in HZ.out 5 rfl
          have fz5 : w2.frozen? ⟨w.heap.size, 5, none⟩ = false := by simp [World.frozen?, HZ.out]
          have z6 := cell_in HZ.out 6 rfl
          have fz6 : w2.frozen? ⟨w.heap.size, 6, none⟩ = false := by simp [World.frozen?, HZ.out]
          have z7 := cell_in HZ.out 7 rfl
          have fz7 : w2.frozen? ⟨w.heap.size, 7, none⟩ = false := by simp [World.frozen?, HZ.out]
          clear hZ2 hb2
          rw [← hx]
          clear hu hx
          go_wp2_with fail
          obtain ⟨WF, hWF⟩ : ∃ WF, WF = put8 w2 w.heap.size (.string (s.extract 0 1)) (.string x) (.string E) (.bool false) (.bool false) (.int .i64 0) (.int .i64 0) (.int .u8 0) := ⟨_, rfl⟩
          have hq : WF.heap[w.heap.size]? = some (.cells #[.string (s.extract 0 1), .string x, .string E, .bool false, .bool false, .int .i64 0, .int .i64 0, .int .u8 0] 53 (0, 0)) ∧ Below w.heap.size w WF := by rw [hWF]; exact put8_is HZ.out HB.out (Nat.le_refl _) _ _ _ _ _ _ _ _
          show bodyPost Tryz.prog Tryz.f16 _ Exit.ret _ (put8 w2 w.heap.size (.string (s.extract 0 1)) (.string x) (.string E) (.bool false) (.bool false) (.int .i64 0) (.int .i64 0) (.int .u8 0))
          rw [← hWF]
          have v0 := cell_in hq.1 0 rfl
          have v1 := cell_in hq.1 1 rfl
          have v2 := cell_in hq.1 2 rfl
          have v3 := cell_in hq.1 3 rfl
          have v4 := cell_in hq.1 4 rfl
          have v5 := cell_in hq.1 5 rfl
          have v6 := cell_in hq.1 6 rfl
          have v7 := cell_in hq.1 7 rfl
          refine bodyPost_ret (v := .tuple #[.agg #[.string (s.extract 0 1), .string x, .string E, .bool false, .bool false, .int .i64 0, .int .i64 0, .int .u8 0], .int .i64 ((nn + 1 : Nat) : Int), .int .i64 0]) (by simp [results, Tryz.results16, go_sem, v0, v1, v2, v3, v4, v5, v6, v7]; try rfl) rfl ⟨by rw [HR.out]; rfl, hq.2⟩
      · have n77 : ((s[0].toNat : Int) == 77) = false := u8_no (k := 77) fun e => hMN (.inl e)
        have n78 : ((s[0].toNat : Int) == 78) = false := u8_no (k := 78) fun e => hMN (.inr e)
        have HOP : Hid (oneA (bl s) = oneP (bl s)) := by
          unfold Hid oneA
          rw [if_neg (by rw [hh]; rintro (h | h) <;> exact hMN (by have := Option.some.inj h; simp [this])), if_neg (by rw [hh]; exact fun h => h91 (Option.some.inj h))]
        clear hh hMN h91
        go_enter Tryz.func16, Tryz.ntmps16
        go_wp2_with fail
        refine (HPl.out s _ hs).mono ?_
        rintro e w2 ⟨rfl, hb2⟩
        unfold plainV
        rcases hu : untilL 58 (bl s) with ⟨tx, nn, tf⟩
        dsimp only
        obtain ⟨x, hx⟩ : ∃ x, x = ba tx := ⟨_, rfl⟩
        have htx : tx = bl x := by rw [hx, bl_ba]
        have hxs : x.size ≤ 1000000 := by
          have := until_len 58 (bl s)
          rw [hu] at this
          rw [hx, ba_size]
          have h3 := bl_length s
          have := this.1; have := (until_len 58 (bl s)).2; rw [hu] at this
          dsimp only at *
          omega
        have HXN : Hid (bl x = (untilL 58 (bl s)).1 ∧ nn = (untilL 58 (bl s)).2.1) := by rw [hu]; exact ⟨htx.symm, rfl⟩
        have hZ2 : w2.heap[w.heap.size]? = some (.cells (dmA E E E 0 0 0) 53 (0, 0)) := (hb2.block _ (by simp)).trans (Cd.heap_new _ _)
        have HZ : Hid (w2.heap[w.heap.size]? = some (.cells (dmA E E E 0 0 0) 53 (0, 0))) := hZ2
        have HB : Hid (Below w.heap.size w w2) := ((Below.refl _ w).alloc (Nat.le_refl _) _).trans (hb2.mono (by simp))
        rw [← hx]
        have z0 := cell_in HZ.out 0 rfl
        have fz0 : w2.frozen? ⟨w.heap.size, 0, none⟩ = false := by simp [World.frozen?, HZ.out]
        have z1 := cell_in HZ.out 1 rfl
        have fz1 : w2.frozen? ⟨w.heap.size, 1, none⟩ = false := by simp [World.frozen?, HZ.out]
        have z2 := cell_in HZ.out 2 rfl
        have fz2 : w2.frozen? ⟨w.heap.size, 2, none⟩ = false := by simp [World.frozen?, HZ.out]
        have z3 := cell_in HZ.out 3 rfl
        have fz3 : w2.frozen? ⟨w.heap.size, 3, none⟩ = false := by simp [World.frozen?, HZ.out]
        have z4 := cell_in HZ.out 4 rfl
        have fz4 : w2.frozen? ⟨w.heap.size, 4, none⟩ = false := by simp [World.frozen?, HZ.out]
        have z5 := cell_in HZ.out 5 rfl
        have fz5 : w2.frozen? ⟨w.heap.size, 5, none⟩ = false := by simp [World.frozen?, HZ.out]
        have z6 := cell_in HZ.out 6 rfl
        have fz6 : w2.frozen? ⟨w.heap.size, 6, none⟩ = false := by simp [World.frozen?, HZ.out]
        have z7 := cell_in HZ.out 7 rfl
        have fz7 : w2.frozen? ⟨w.heap.size, 7, none⟩ = false := by simp [World.frozen?, HZ.out]
        clear hu hx htx hZ2 hb2
        by_cases hm : x ∈ wordsD
        · have HR : Hid (oneP (bl s) = .ok { kind := x } nn) := by
            unfold Hid oneP
            rw [← HXN.out.1, ba_bl, if_pos hm, HXN.out.2]
          obtain ⟨y, hy⟩ : ∃ y, y = x := ⟨_, rfl⟩
          have HY : Hid (y = x) := hy
          clear hy
          have hm2 : x = ⟨#[84]⟩ ∨ x = ⟨#[72]⟩ ∨ x = ⟨#[69]⟩ ∨ x = ⟨#[82]⟩ ∨ x = ⟨#[79]⟩ ∨ x = ⟨#[79, 114]⟩ ∨ x = ⟨#[117]⟩ ∨ x = ⟨#[114]⟩ ∨ x = ⟨#[116, 108]⟩ ∨ x = ⟨#[116, 117]⟩ ∨ x = ⟨#[81]⟩ := by unfold wordsD at hm; simpa using hm
          clear hm
          rcases hm2 with rfl | rfl | rfl | rfl | rfl | rfl | rfl | rfl | rfl | rfl | rfl
          all_goals
            go_wp2_with fail
            obtain ⟨WF, hWF⟩ : ∃ WF, WF = put8 w2 w.heap.size (.string y) (.string E) (.string E) (.bool false) (.bool false) (.int .i64 0) (.int .i64 0) (.int .u8 0) := ⟨_, rfl⟩
            have hq : WF.heap[w.heap.size]? = some (.cells #[.string y, .string E, .string E, .bool false, .bool false, .int .i64 0, .int .i64 0, .int .u8 0] 53 (0, 0)) ∧ Below w.heap.size w WF := by rw [hWF]; exact put8_is HZ.out HB.out (Nat.le_refl _) _ _ _ _ _ _ _ _
            rw [← HY.out]
            show bodyPost Tryz.prog Tryz.f16 _ Exit.ret _ (put8 w2 w.heap.size (.string y) (.string E) (.string E) (.bool false) (.bool false) (.int .i64 0) (.int .i64 0) (.int .u8 0))
            rw [← hWF]
            have v0 := cell_in hq.1 0 rfl
            have v1 := cell_in hq.1 1 rfl
            have v2 := cell_in hq.1 2 rfl
            have v3 := cell_in hq.1 3 rfl
            have v4 := cell_in hq.1 4 rfl
            have v5 := cell_in hq.1 5 rfl
            have v6 := cell_in hq.1 6 rfl
            have v7 := cell_in hq.1 7 rfl
            refine bodyPost_ret (v := .tuple #[.agg #[.string y, .string E, .string E, .bool false, .bool false, .int .i64 0, .int .i64 0, .int .u8 0], .int .i64 nn, .int .i64 0]) (by simp [results, Tryz.results16, go_sem, v0, v1, v2, v3, v4, v5, v6, v7]; try rfl) rfl ⟨by rw [HOP.out, HR.out, ← HY.out]; rfl, hq.2⟩
        · have HXN2 : Hid (¬ x ∈ wordsD) := hm
          unfold wordsD at hm
          simp only [List.mem_cons, List.not_mem_nil, or_false, not_or] at hm
          obtain ⟨m0, m1, m2, m3, m4, m5, m6, m7, m8, m9, m10⟩ := hm
          have k0 : (x.toList == [84]) = false := not_lit m0
          have k1 : (x.toList == [72]) = false := not_lit m1
          have k2 : (x.toList == [69]) = false := not_lit m2
          have k3 : (x.toList == [82]) = false := not_lit m3
          have k4 : (x.toList == [79]) = false := not_lit m4
          have k5 : (x.toList == [79, 114]) = false := not_lit m5
          have k6 : (x.toList == [117]) = false := not_lit m6
          have k7 : (x.toList == [114]) = false := not_lit m7
          have k8 : (x.toList == [116, 108]) = false := not_lit m8
          have k9 : (x.toList == [116, 117]) = false := not_lit m9
          have k10 : (x.toList == [81]) = false := not_lit m10
          clear m0 m1 m2 m3 m4 m5 m6 m7 m8 m9 m10
          go_wp2_with fail
          go_loopw [9] (fun vi wr => ∃ i : Nat, i ≤ x.size ∧ vi = .int .i64 (i : Int) ∧ Hid (∀ j, j < i → ¬ (bl x)[j]? = some 61) ∧ wr = w2) (fun vi _ => x.size - (intOf vi).toNat)
          case atStart => exact ⟨0, Nat.zero_le _, rfl, fun j hj => by omega, rfl⟩
          case round =>
            obtain ⟨i, hi, rfl, HU, rfl⟩ := hrel
            by_cases hlt : i < x.size
            · have hil : (i : Int) < (x.size : Int) := by omega
              have hbi := bl_get x i hlt
              by_cases h61 : x[i] = 61
              · have t1 : ((x[i].toNat : Int) == 61) = true := by rw [h61]; rfl
                have HQ : Hid (eqI (bl x) = some i) := eq_hit HU.out (by rw [hbi, h61])
                have HR : Hid (oneP (bl s) = .ok { kind := ⟨#[61]⟩, a := x.extract 0 i, b := x.extract (i + 1) x.size } nn) := by
                  unfold Hid oneP
                  rw [← HXN.out.1, ← HXN.out.2, ba_bl, if_neg HXN2.out, HQ.out]
                  have e1 : ba ((bl x).take i) = x.extract 0 i := bl_inj (by rw [bl_ba, bl_extract]; rfl)
                  have e2 : ba ((bl x).drop (i + 1)) = x.extract (i + 1) x.size := bl_inj (by rw [bl_ba, bl_extract, take_all])
                  dsimp only
                  rw [e1, e2]
                have hi0 : (0 : Int) ≤ (i : Int) := by omega
                have hi1 : (i : Int) + 1 ≤ (x.size : Int) := by omega
                have hto : ((i : Int) + 1).toNat = i + 1 := by omega
                clear HU hbi h61
                go_upto_region 30 with fail
                go_region
                go_wp2_with fail
                obtain ⟨WF, hWF⟩ : ∃ WF, WF = (put8 wr w.heap.size (.string ⟨#[61]⟩) (.string (x.extract 0 i)) (.string (x.extract (i + 1) x.size)) (.bool false) (.bool false) (.int .i64 0) (.int .i64 0) (.int .u8 0)).drew := ⟨_, rfl⟩
                have hq : WF.heap[w.heap.size]? = some (.cells #[.string ⟨#[61]⟩, .string (x.extract 0 i), .string (x.extract (i + 1) x.size), .bool false, .bool false, .int .i64 0, .int .i64 0, .int .u8 0] 53 (0, 0)) ∧ Below w.heap.size w WF := by rw [hWF]; exact put8_drew HZ.out HB.out (Nat.le_refl _) _ _ _ _ _ _ _ _
                show bodyPost Tryz.prog Tryz.f16 _ Exit.ret _ (put8 wr w.heap.size (.string ⟨#[61]⟩) (.string (x.extract 0 i)) (.string (x.extract (i + 1) x.size)) (.bool false) (.bool false) (.int .i64 0) (.int .i64 0) (.int .u8 0)).drew
                rw [← hWF]
                have v0 := cell_in hq.1 0 rfl
                have v1 := cell_in hq.1 1 rfl
                have v2 := cell_in hq.1 2 rfl
                have v3 := cell_in hq.1 3 rfl
                have v4 := cell_in hq.1 4 rfl
                have v5 := cell_in hq.1 5 rfl
                have v6 := cell_in hq.1 6 rfl
                have v7 := cell_in hq.1 7 rfl
                refine bodyPost_ret (v := .tuple #[.agg #[.string ⟨#[61]⟩, .string (x.extract 0 i), .string (x.extract (i + 1) x.size), .bool false, .bool false, .int .i64 0, .int .i64 0, .int .u8 0], .int .i64 nn, .int .i64 0]) (by simp [results, Tryz.results16, go_sem, v0, v1, v2, v3, v4, v5, v6, v7]; try rfl) rfl ⟨by rw [HOP.out, HR.out]; rfl, hq.2⟩
              · have t1 : ((x[i].toNat : Int) == 61) = false := u8_no (k := 61) h61
                have HU2 : Hid (∀ j, j < i + 1 → ¬ (bl x)[j]? = some 61) := by
                  intro j hj
                  by_cases hji : j = i
                  · subst hji; rw [hbi]; exact fun e => h61 (Option.some.inj e)
                  · exact HU.out j (by omega)
                clear HU hbi h61
                go_wp2_with fail
                go_roundw
                case rel => exact ⟨i + 1, by omega, by go_num, HU2, trivial⟩
                case measure => simp [intOf]; omega
            · have hil : ¬ (i : Int) < (x.size : Int) := by omega
              have HR : Hid (oneP (bl s) = .bad 12) := by
                unfold Hid oneP
                rw [← HXN.out.1, ba_bl, if_neg HXN2.out, eq_no HU.out (by rw [bl_length]; omega)]
              clear HU
              go_wp2_with fail
              obtain ⟨WF, hWF⟩ : ∃ WF, WF = put8 wr w.heap.size (.string E) (.string E) (.string E) (.bool false) (.bool false) (.int .i64 0) (.int .i64 0) (.int .u8 0) := ⟨_, rfl⟩
              have hq : WF.heap[w.heap.size]? = some (.cells #[.string E, .string E, .string E, .bool false, .bool false, .int .i64 0, .int .i64 0, .int .u8 0] 53 (0, 0)) ∧ Below w.heap.size w WF := by rw [hWF]; exact put8_is HZ.out HB.out (Nat.le_refl _) _ _ _ _ _ _ _ _
              show bodyPost Tryz.prog Tryz.f16 _ Exit.ret _ (put8 wr w.heap.size (.string E) (.string E) (.string E) (.bool false) (.bool false) (.int .i64 0) (.int .i64 0) (.int .u8 0))
              rw [← hWF]
              have v0 := cell_in hq.1 0 rfl
              have v1 := cell_in hq.1 1 rfl
              have v2 := cell_in hq.1 2 rfl
              have v3 := cell_in hq.1 3 rfl
              have v4 := cell_in hq.1 4 rfl
              have v5 := cell_in hq.1 5 rfl
              have v6 := cell_in hq.1 6 rfl
              have v7 := cell_in hq.1 7 rfl
              refine bodyPost_ret (v := .tuple #[.agg #[.string E, .string E, .string E, .bool false, .bool false, .int .i64 0, .int .i64 0, .int .u8 0], .int .i64 0, .int .i64 12]) (by simp [results, Tryz.results16, go_sem, v0, v1, v2, v3, v4, v5, v6, v7]; try rfl) rfl ⟨by rw [HOP.out, HR.out]; rfl, hq.2⟩
  · have hpi : ¬ (0 : Int) < (s.size : Int) := by omega
    have HOP : Hid (oneA (bl s) = oneP (bl s)) := by
      have h : bl s = [] := List.length_eq_zero_iff.1 (by rw [bl_length]; omega)
      unfold Hid oneA
      rw [h, if_neg (by rintro (h | h) <;> cases h), if_neg (by intro h; cases h)]
    clear h83 h67
    go_enter Tryz.func16, Tryz.ntmps16
    go_wp2_with fail
    refine (HPl.out s _ hs).mono ?_
    rintro e w2 ⟨rfl, hb2⟩
    unfold plainV
    rcases hu : untilL 58 (bl s) with ⟨tx, nn, tf⟩
    dsimp only
    obtain ⟨x, hx⟩ : ∃ x, x = ba tx := ⟨_, rfl⟩
    have htx : tx = bl x := by rw [hx, bl_ba]
    have hxs : x.size ≤ 1000000 := by
      have := until_len 58 (bl s)
      rw [hu] at this
      rw [hx, ba_size]
      have h3 := bl_length s
      have := this.1; have := (until_len 58 (bl s)).2; rw [hu] at this
      dsimp only at *
      omega
    have HXN : Hid (bl x = (untilL 58 (bl s)).1 ∧ nn = (untilL 58 (bl s)).2.1) := by rw [hu]; exact ⟨htx.symm, rfl⟩
    have hZ2 : w2.heap[w.heap.size]? = some (.cells (dmA E E E 0 0 0) 53 (0, 0)) := (hb2.block _ (by simp)).trans (Cd.heap_new _ _)
    have HZ : Hid (w2.heap[w.heap.size]? = some (.cells (dmA E E E 0 0 0) 53 (0, 0))) := hZ2
    have HB : Hid (Below w.heap.size w w2) := ((Below.refl _ w).alloc (Nat.le_refl _) _).trans (hb2.mono (by simp))
    rw [← hx]
    have z0 := cell_in HZ.out 0 rfl
    have fz0 : w2.frozen? ⟨w.heap.size, 0, none⟩ = false := by simp [World.frozen?, HZ.out]
    have z1 := cell_in HZ.out 1 rfl
    have fz1 : w2.frozen? ⟨w.heap.size, 1, none⟩ = false := by simp [World.frozen?, HZ.out]
    have z2 := cell_in HZ.out 2 rfl
    have fz2 : w2.frozen? ⟨w.heap.size, 2, none⟩ = false := by simp [World.frozen?, HZ.out]
    have z3 := cell_in HZ.out 3 rfl
    have fz3 : w2.frozen? ⟨w.heap.size, 3, none⟩ = false := by simp [World.frozen?, HZ.out]
    have z4 := cell_in HZ.out 4 rfl
    have fz4 : w2.frozen? ⟨w.heap.size, 4, none⟩ = false := by simp [World.frozen?, HZ.out]
    have z5 := cell_in HZ.out 5 rfl
    have fz5 : w2.frozen? ⟨w.heap.size, 5, none⟩ = false := by simp [World.frozen?, HZ.out]
    have z6 := cell_in HZ.out 6 rfl
    have fz6 : w2.frozen? ⟨w.heap.size, 6, none⟩ = false := by simp [World.frozen?, HZ.out]
    have z7 := cell_in HZ.out 7 rfl
    have fz7 : w2.frozen? ⟨w.heap.size, 7, none⟩ = false := by simp [World.frozen?, HZ.out]
    clear hu hx htx hZ2 hb2
    by_cases hm : x ∈ wordsD
    · have HR : Hid (oneP (bl s) = .ok { kind := x } nn) := by
        unfold Hid oneP
        rw [← HXN.out.1, ba_bl, if_pos hm, HXN.out.2]
      obtain ⟨y, hy⟩ : ∃ y, y = x := ⟨_, rfl⟩
      have HY : Hid (y = x) := hy
      clear hy
      have hm2 : x = ⟨#[84]⟩ ∨ x = ⟨#[72]⟩ ∨ x = ⟨#[69]⟩ ∨ x = ⟨#[82]⟩ ∨ x = ⟨#[79]⟩ ∨ x = ⟨#[79, 114]⟩ ∨ x = ⟨#[117]⟩ ∨ x = ⟨#[114]⟩ ∨ x = ⟨#[116, 108]⟩ ∨ x = ⟨#[116, 117]⟩ ∨ x = ⟨#[81]⟩ := by unfold wordsD at hm; simpa using hm
      clear hm
      rcases hm2 with rfl | rfl | rfl | rfl | rfl | rfl | rfl | rfl | rfl | rfl | rfl
      all_goals
        go_wp2_with fail
        obtain ⟨WF, hWF⟩ : ∃ WF, WF = put8 w2 w.heap.size (.string y) (.string E) (.string E) (.bool false) (.bool false) (.int .i64 0) (.int .i64 0) (.int .u8 0) := ⟨_, rfl⟩
        have hq : WF.heap[w.heap.size]? = some (.cells #[.string y, .string E, .string E, .bool false, .bool false, .int .i64 0, .int .i64 0, .int .u8 0] 53 (0, 0)) ∧ Below w.heap.size w WF := by rw [hWF]; exact put8_is HZ.out HB.out (Nat.le_refl _) _ _ _ _ _ _ _ _
        rw [← HY.out]
        show bodyPost Tryz.prog Tryz.f16 _ Exit.ret _ (put8 w2 w.heap.size (.string y) (.string E) (.string E) (.bool false) (.bool false) (.int .i64 0) (.int .i64 0) (.int .u8 0))
        rw [← hWF]
        have v0 := cell_in hq.1 0 rfl
        have v1 := cell_in hq.1 1 rfl
        have v2 := cell_in hq.1 2 rfl
        have v3 := cell_in hq.1 3 rfl
        have v4 := cell_in hq.1 4 rfl
        have v5 := cell_in hq.1 5 rfl
        have v6 := cell_in hq.1 6 rfl
        have v7 := cell_in hq.1 7 rfl
        refine bodyPost_ret (v := .tuple #[.agg #[.string y, .string E, .string E, .bool false, .bool false, .int .i64 0, .int .i64 0, .int .u8 0], .int .i64 nn, .int .i64 0]) (by simp [results, Tryz.results16, go_sem, v0, v1, v2, v3, v4, v5, v6, v7]; try rfl) rfl ⟨by rw [HOP.out, HR.out, ← HY.out]; rfl, hq.2⟩
    · have HXN2 : Hid (¬ x ∈ wordsD) := hm
      unfold wordsD at hm
      simp only [List.mem_cons, List.not_mem_nil, or_false, not_or] at hm
      obtain ⟨m0, m1, m2, m3, m4, m5, m6, m7, m8, m9, m10⟩ := hm
      have k0 : (x.toList == [84]) = false := not_lit m0
      have k1 : (x.toList == [72]) = false := not_lit m1
      have k2 : (x.toList == [69]) = false := not_lit m2
      have k3 : (x.toList == [82]) = false := not_lit m3
      have k4 : (x.toList == [79]) = false := not_lit m4
      have k5 : (x.toList == [79, 114]) = false := not_lit m5
      have k6 : (x.toList == [117]) = false := not_lit m6
      have k7 : (x.toList == [114]) = false := not_lit m7
      have k8 : (x.toList == [116, 108]) = false := not_lit m8
      have k9 : (x.toList == [116, 117]) = false := not_lit m9
      have k10 : (x.toList == [81]) = false := not_lit m10
      clear m0 m1 m2 m3 m4 m5 m6 m7 m8 m9 m10
      go_wp2_with fail
      go_loopw [9] (fun vi wr => ∃ i : Nat, i ≤ x.size ∧ vi = .int .i64 (i : Int) ∧ Hid (∀ j, j < i → ¬ (bl x)[j]? = some 61) ∧ wr = w2) (fun vi _ => x.size - (intOf vi).toNat)
      case atStart => exact ⟨0, Nat.zero_le _, rfl, fun j hj => by omega, rfl⟩
      case round =>
        obtain ⟨i, hi, rfl, HU, rfl⟩ := hrel
        by_cases hlt : i < x.size
        · have hil : (i : Int) < (x.size : Int) := by omega
          have hbi := bl_get x i hlt
          by_cases h61 : x[i] = 61
          · have t1 : ((x[i].toNat : Int) == 61) = true := by rw [h61]; rfl
            have HQ : Hid (eqI (bl x) = some i) := eq_hit HU.out (by rw [hbi, h61])
            have HR : Hid (oneP (bl s) = .ok { kind := ⟨#[61]⟩, a := x.extract 0 i, b := x.extract (i + 1) x.size } nn) := by
              unfold Hid oneP
              rw [← HXN.out.1, ← HXN.out.2, ba_bl, if_neg HXN2.out, HQ.out]
              have e1 : ba ((bl x).take i) = x.extract 0 i := bl_inj (by rw [bl_ba, bl_extract]; rfl)
              have e2 : ba ((bl x).drop (i + 1)) = x.extract (i + 1) x.size := bl_inj (by rw [bl_ba, bl_extract, take_all])
              dsimp only
              rw [e1, e2]
            have hi0 : (0 : Int) ≤ (i : Int) := by omega
            have hi1 : (i : Int) + 1 ≤ (x.size : Int) := by omega
            have hto : ((i : Int) + 1).toNat = i + 1 := by omega
            clear HU hbi h61
            go_upto_region 30 with fail
            go_region
            go_wp2_with fail
            obtain ⟨WF, hWF⟩ : ∃ WF, WF = (put8 wr w.heap.size (.string ⟨#[61]⟩) (.string (x.extract 0 i)) (.string (x.extract (i + 1) x.size)) (.bool false) (.bool false) (.int .i64 0) (.int .i64 0) (.int .u8 0)).drew := ⟨_, rfl⟩
            have hq : WF.heap[w.heap.size]? = some (.cells #[.string ⟨#[61]⟩, .string (x.extract 0 i), .string (x.extract (i + 1) x.size), .bool false, .bool false, .int .i64 0, .int .i64 0, .int .u8 0] 53 (0, 0)) ∧ Below w.heap.size w WF := by rw [hWF]; exact put8_drew HZ.out HB.out (Nat.le_refl _) _ _ _ _ _ _ _ _
            show bodyPost Tryz.prog Tryz.f16 _ Exit.ret _ (put8 wr w.heap.size (.string ⟨#[61]⟩) (.string (x.extract 0 i)) (.string (x.extract (i + 1) x.size)) (.bool false) (.bool false) (.int .i64 0) (.int .i64 0) (.int .u8 0)).drew
            rw [← hWF]
            have v0 := cell_in hq.1 0 rfl
            have v1 := cell_in hq.1 1 rfl
            have v2 := cell_in hq.1 2 rfl
            have v3 := cell_in hq.1 3 rfl
            have v4 := cell_in hq.1 4 rfl
            have v5 := cell_in hq.1 5 rfl
            have v6 := cell_in hq.1 6 rfl
            have v7 := cell_in hq.1 7 rfl
            refine bodyPost_ret (v := .tuple #[.agg #[.string ⟨#[61]⟩, .string (x.extract 0 i), .string (x.extract (i + 1) x.size), .bool false, .bool false, .int .i64 0, .int .i64 0, .int .u8 0], .int .i64 nn, .int .i64 0]) (by simp [results, Tryz.results16, go_sem, v0, v1, v2, v3, v4, v5, v6, v7]; try rfl) rfl ⟨by rw [HOP.out, HR.out]; rfl, hq.2⟩
          · have t1 : ((x[i].toNat : Int) == 61) = false := u8_no (k := 61) h61
            have HU2 : Hid (∀ j, j < i + 1 → ¬ (bl x)[j]? = some 61) := by
              intro j hj
              by_cases hji : j = i
              · subst hji; rw [hbi]; exact fun e => h61 (Option.some.inj e)
              · exact HU.out j (by omega)
            clear HU hbi h61
            go_wp2_with fail
            go_roundw
            case rel => exact ⟨i + 1, by omega, by go_num, HU2, trivial⟩
            case measure => simp [intOf]; omega
        · have hil : ¬ (i : Int) < (x.size : Int) := by omega
          have HR : Hid (oneP (bl s) = .bad 12) := by
            unfold Hid oneP
            rw [← HXN.out.1, ba_bl, if_neg HXN2.out, eq_no HU.out (by rw [bl_length]; omega)]
          clear HU
          go_wp2_with fail
          obtain ⟨WF, hWF⟩ : ∃ WF, WF = put8 wr w.heap.size (.string E) (.string E) (.string E) (.bool false) (.bool false) (.int .i64 0) (.int .i64 0) (.int .u8 0) := ⟨_, rfl⟩
          have hq : WF.heap[w.heap.size]? = some (.cells #[.string E, .string E, .string E, .bool false, .bool false, .int .i64 0, .int .i64 0, .int .u8 0] 53 (0, 0)) ∧ Below w.heap.size w WF := by rw [hWF]; exact put8_is HZ.out HB.out (Nat.le_refl _) _ _ _ _ _ _ _ _
          show bodyPost Tryz.prog Tryz.f16 _ Exit.ret _ (put8 wr w.heap.size (.string E) (.string E) (.string E) (.bool false) (.bool false) (.int .i64 0) (.int .i64 0) (.int .u8 0))
          rw [← hWF]
          have v0 := cell_in hq.1 0 rfl
          have v1 := cell_in hq.1 1 rfl
          have v2 := cell_in hq.1 2 rfl
          have v3 := cell_in hq.1 3 rfl
          have v4 := cell_in hq.1 4 rfl
          have v5 := cell_in hq.1 5 rfl
          have v6 := cell_in hq.1 6 rfl
          have v7 := cell_in hq.1 7 rfl
          refine bodyPost_ret (v := .tuple #[.agg #[.string E, .string E, .string E, .bool false, .bool false, .int .i64 0, .int .i64 0, .int .u8 0], .int .i64 0, .int .i64 12]) (by simp [results, Tryz.results16, go_sem, v0, v1, v2, v3, v4, v5, v6, v7]; try rfl) rfl ⟨by rw [HOP.out, HR.out]; rfl, hq.2⟩
end Go.Proofs.YtpcpcfnmcfjomaaGreatDoor.DQ
