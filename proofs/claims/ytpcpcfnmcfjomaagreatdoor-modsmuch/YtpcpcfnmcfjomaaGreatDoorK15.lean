/-
  DQ6
-/
import Derived.Test.YtpcpcfnmcfjomaaGreatDoorK14
namespace Go.Proofs.YtpcpcfnmcfjomaaGreatDoor.DQ
open Go.RowKit Go.Shelf
theorem infoD : (Tryz.prog.info? 53).map (fun i => (i.zero, i.size, i.bytes)) = some (some (.agg (dmA E E E 0 0 0)), 8, 80) := by kernel_rfl
def dmsV (ms : List Dm) : List Value := ms.flatMap fun m => m.cells.toList
theorem dms_snoc (ms : List Dm) (m : Dm) : dmsV (ms ++ [m]) = dmsV ms ++ m.cells.toList := by simp [dmsV]
open Classical in
noncomputable def parseA : Nat → List UInt8 → List Dm → Int ⊕ List Dm
  | 0, _, _ => .inl 5
  | k + 1, l, acc => if 32 ≤ acc.length then .inl 5 else match oneA l with
    | .bad e => .inl e
    | .ok m n => if l.length ≤ n then .inr (acc ++ [m]) else parseA k (l.drop (n + 1)) (acc ++ [m])
open Classical in
noncomputable def allA (l : List UInt8) : Int ⊕ List Dm := if l = [] then .inr [] else parseA (l.length + 1) l []
theorem end_le (l : List UInt8) : endP l ≤ l.length := by
  unfold endP
  exact List.Sublist.length_le (List.takeWhile_sublist _)
theorem pick_len {l : List UInt8} {m : Dm} {n : Nat} (h : pickA l = .ok m n) : n ≤ l.length := by
  have h1 := end_le l
  unfold pickA at h
  split at h
  · cases h
  · split at h
    · cases h
    · cases h; omega
theorem pick_bad {l : List UInt8} {e : Int} (h : pickA l = .bad e) : e = 4 ∨ e = 12 := by
  unfold pickA at h
  split at h
  · cases h; exact .inl rfl
  · split at h
    · cases h; exact .inr rfl
    · cases h
theorem onep_len {l : List UInt8} {m : Dm} {n : Nat} (h : oneP l = .ok m n) : n ≤ l.length := by
  have h1 := (until_len 58 l).2
  unfold oneP at h
  split at h
  · cases h; exact h1
  · split at h
    · cases h; exact h1
    · cases h
theorem onep_bad {l : List UInt8} {e : Int} (h : oneP l = .bad e) : e = 4 ∨ e = 12 := by
  unfold oneP at h
  split at h
  · cases h
  · split at h
    · cases h
    · cases h; exact .inr rfl
theorem one_len {l : List UInt8} {m : Dm} {n : Nat} (h : oneA l = .ok m n) : n ≤ l.length := by
  unfold oneA at h
  split at h
  · rename_i hh
    cases h
    have h1 := (until_len 58 (l.drop 1)).2
    have h2 : 1 ≤ l.length := by
      cases l with
      | nil => rcases hh with h | h <;> cases h
      | cons c t => simp
    rw [List.length_drop] at h1; omega
  · split at h
    · exact pick_len h
    · exact onep_len h
theorem one_bad {l : List UInt8} {e : Int} (h : oneA l = .bad e) : e = 4 ∨ e = 12 := by
  unfold oneA at h
  split at h
  · cases h
  · split at h
    · exact pick_bad h
    · exact onep_bad h
def PaPost (r : Int ⊕ List Dm) (w : World) (e : Ending) (w' : World) : Prop := Below w.heap.size w w' ∧ match r with
  | .inl er => ∃ p : Int, e = .returned (.tuple #[.slice none 0 0, .agg #[.int .i64 er, .int .i64 p]])
  | .inr ms => ∃ v, e = .returned (.tuple #[v, .agg #[.int .i64 0, .int .i64 0]]) ∧ w'.ownsRow w.heap.size 53 8 v ms.length (dmsV ms)
theorem put2 {B : Nat} {w0 w : World} {b : Nat} {T : TypeId} {z0 z1 : Value} (h : w.heap[b]? = some (.cells #[z0, z1] T (0, 0))) (hb : Below B w0 w) (hB : B ≤ b) (u0 u1 : Value) :
    ((w.setCell ⟨b, 0, none⟩ u0).setCell ⟨b, 1, none⟩ u1).heap[b]? = some (.cells #[u0, u1] T (0, 0)) ∧ Below B w0 ((w.setCell ⟨b, 0, none⟩ u0).setCell ⟨b, 1, none⟩ u1) := by
  refine ⟨?_, (hb.setCell hB _).setCell hB _⟩
  rw [heap_set (heap_set h _) _]; simp
theorem box_ne {w : World} {base b : Nat} {v : Value} {e : TypeId} {k n : Nat} {xs : List Value} (h : w.ownsRow base e k v n xs) (hb : b < base) : v.ownBlock ≠ some b := fun he => by
  have := (h.lt b he).1; omega
theorem row_base {w : World} {base b : Nat} {v : Value} {e : TypeId} {k n : Nat} {xs : List Value} (h : w.ownsRow base e k v n xs) (hb : b ≤ base) : w.ownsRow b e k v n xs := by
  refine ⟨h.1, ?_⟩
  rcases h.2 with h0 | ⟨g, cap, cur, hv, hg, r⟩
  · exact .inl h0
  · exact .inr ⟨g, cap, cur, hv, Nat.le_trans hb hg, r⟩
theorem dm_slice {base : Nat} {w : World} {v : Value} {e : TypeId} {k n : Nat} {xs : List Value} (h : w.ownsRow base e k v n xs) : ∃ a cap, v = .slice a n cap := by
  rcases h.2 with ⟨rfl, rfl⟩ | ⟨g, cap, cur, rfl, _⟩
  · exact ⟨_, _, rfl⟩
  · exact ⟨_, _, rfl⟩
set_option maxRecDepth 20000 in
set_option maxHeartbeats 800000 in
theorem parse_none (w : World) : Calls Tryz.prog 10 #[.string E] w (PaPost (.inr []) w) := by
  go_enter Tryz.func10, Tryz.ntmps10
  go_wp2
  go_loopw [4, 5] (fun v vi wr => v = .slice none 0 0 ∧ wr = w.alloc (.cells #[.int .i64 0, .int .i64 0] 35)) (fun _ _ _ => 0)
  case atStart => exact ⟨rfl, rfl⟩
  case round =>
    obtain ⟨rfl, rfl⟩ := hrel
    go_wp2
    have hbx : (w.alloc (.cells #[.int .i64 0, .int .i64 0] 35)).heap[w.heap.size]? = some (.cells #[.int .i64 0, .int .i64 0] 35 (0, 0)) := Cd.heap_new _ _
    have hb : Below w.heap.size w (w.alloc (.cells #[.int .i64 0, .int .i64 0] 35)) := (Below.refl _ _).alloc (Nat.le_refl _) _
    obtain ⟨WF, hWF⟩ : ∃ WF, WF = w.alloc (.cells #[.int .i64 0, .int .i64 0] 35) := ⟨_, rfl⟩
    show bodyPost Tryz.prog Tryz.f10 _ Exit.ret _ (w.alloc (.cells #[.int .i64 0, .int .i64 0] 35))
    rw [← hWF] at hbx hb ⊢
    have q0 := cell_in hbx 0 rfl
    have q1 := cell_in hbx 1 rfl
    refine bodyPost_ret (v := .tuple #[.slice none 0 0, .agg #[.int .i64 0, .int .i64 0]]) (by simp [results, Tryz.results10, go_sem, q0, q1]; try rfl) rfl ⟨hb, ⟨_, rfl, owns_nil _ _ _ _⟩⟩
set_option maxRecDepth 20000 in
set_option maxHeartbeats 3200000 in
theorem parse_some (s : ByteArray) (w : World) (hs : s.size ≤ 1000000) (h0 : 0 < s.size) (hsc : ∀ c ∈ bl s, c ≠ 83 ∧ c ≠ 67) : Calls Tryz.prog 10 #[.string s] w (PaPost (allA (bl s)) w) := by
  obtain ⟨i0, hi, hz0, hz1, hz2⟩ := info_of infoD
  have HO : Hid (∀ (t : ByteArray) (W : World), t.size ≤ 1000000 → (∀ c ∈ bl t, c ≠ 83 ∧ c ≠ 67) → Calls Tryz.prog 16 #[.string t] W fun e w' => e = .returned (oneA (bl t)).val ∧ Below W.heap.size W w') := fun t W ht hc =>
    one_any t W ht (fun h => (hc _ (List.mem_of_mem_head? h)).1 rfl) (fun h => (hc _ (List.mem_of_mem_head? h)).2 rfl)
  have HSC : Hid (∀ c ∈ bl s, c ≠ 83 ∧ c ≠ 67) := hsc
  have HA : Hid (allA (bl s) = parseA (s.size - 0 + 1) ((bl s).drop 0) []) := by
    unfold Hid allA
    rw [if_neg (fun h => by have := bl_length s; rw [h] at this; simp at this; omega), bl_length]; simp
  have hpi : (0 : Int) < (s.size : Int) := by omega
  clear hsc
  go_enter Tryz.func10, Tryz.ntmps10
  go_wp2
  go_loopw [4, 5] (fun v vi wr => ∃ (k : Nat) (ms : List Dm) (f : Nat), k ≤ s.size ∧ vi = .int .i64 (k : Int) ∧ ms.length ≤ 32 ∧ wr.ownsRow (w.heap.size + 1) 53 8 v ms.length (dmsV ms) ∧ wr.heap[w.heap.size]? = some (.cells #[.int .i64 0, .int .i64 0] 35 (0, 0)) ∧ s.size - k < f + 1 ∧ Hid (allA (bl s) = parseA (f + 1) ((bl s).drop k) ms) ∧ Below w.heap.size w wr) (fun _ vi _ => s.size + 1 - (intOf vi).toNat)
  case atStart => exact ⟨0, [], s.size, Nat.zero_le _, rfl, Nat.zero_le _, owns_nil _ _ _ _, Cd.heap_new _ _, by omega, HA, (Below.refl _ _).alloc (Nat.le_refl _) _⟩
  case round =>
    obtain ⟨k, ms, f, hk, rfl, hms, hown, hbox, hf, HP, hb⟩ := hrel
    have hbs := hb.size
    have hbl : w.heap.size < wr.heap.size := (Array.getElem?_eq_some_iff.1 hbox).1
    obtain ⟨a4, c4, rfl⟩ := dm_slice hown
    obtain ⟨N, hN⟩ : ∃ N, N = ms.length := ⟨_, rfl⟩
    by_cases h32 : 32 ≤ ms.length
    · have HR : Hid (allA (bl s) = .inl 5) := by unfold Hid; rw [HP.out, parseA, if_pos h32]
      have h32i : (32 : Int) ≤ (N : Int) := by omega
      rw [← hN]
      have b0 := cell_in hbox 0 rfl
      have b1 := cell_in hbox 1 rfl
      have f0 : wr.frozen? ⟨w.heap.size, 0, none⟩ = false := by simp [World.frozen?, hbox]
      have f1 : wr.frozen? ⟨w.heap.size, 1, none⟩ = false := by simp [World.frozen?, hbox]
      have HBX : Hid _ := hbox
      have HB : Hid _ := hb
      clear hown HP hN hbox hb
      go_wp2_with fail
      obtain ⟨WF, hWF⟩ : ∃ WF, WF = (wr.setCell ⟨w.heap.size, 0, none⟩ (.int .i64 5)).setCell ⟨w.heap.size, 1, none⟩ (.int .i64 (k : Int)) := ⟨_, rfl⟩
      have hq : WF.heap[w.heap.size]? = some (.cells #[.int .i64 5, .int .i64 (k : Int)] 35 (0, 0)) ∧ Below w.heap.size w WF := by rw [hWF]; exact put2 HBX.out HB.out (Nat.le_refl _) _ _
      show bodyPost Tryz.prog Tryz.f10 _ Exit.ret _ ((wr.setCell ⟨w.heap.size, 0, none⟩ (.int .i64 5)).setCell ⟨w.heap.size, 1, none⟩ (.int .i64 (k : Int)))
      rw [← hWF]
      have q0 := cell_in hq.1 0 rfl
      have q1 := cell_in hq.1 1 rfl
      refine bodyPost_ret (v := .tuple #[.slice none 0 0, .agg #[.int .i64 5, .int .i64 (k : Int)]]) (by simp [results, Tryz.results10, go_sem, q0, q1]; try rfl) rfl ⟨hq.2, by rw [HR.out]; exact ⟨_, rfl⟩⟩
    · have HP2 : Hid (allA (bl s) = match oneA ((bl s).drop k) with
          | .bad e => .inl e
          | .ok m n => if s.size - k ≤ n then .inr (ms ++ [m]) else parseA f ((bl s).drop (k + (n + 1))) (ms ++ [m])) := by
        unfold Hid
        rw [HP.out, parseA, if_neg h32]
        have e1 : ((bl s).drop k).length = s.size - k := by rw [List.length_drop, bl_length]
        rw [e1]
        cases oneA ((bl s).drop k) with
        | bad e => rfl
        | ok m n => simp only [List.drop_drop]
      obtain ⟨t, ht⟩ : ∃ t, t = s.extract k s.size := ⟨_, rfl⟩
      have HX : Hid (t = s.extract k s.size ∧ bl t = (bl s).drop k ∧ t.size ≤ 1000000 ∧ t.size = s.size - k) := ⟨ht, by rw [ht, bl_extract, take_all], by rw [ht]; simp; omega, by rw [ht]; simp⟩
      have HT : Hid (∀ W, Calls Tryz.prog 16 #[.string t] W fun e w' => e = .returned (oneA (bl t)).val ∧ Below W.heap.size W w') := fun W => HO.out t W HX.out.2.2.1 (fun c hc => HSC.out c (by rw [HX.out.2.1] at hc; exact List.mem_of_mem_drop hc))
      have h32i : ¬ (32 : Int) ≤ (N : Int) := by omega
      have hk0 : (0 : Int) ≤ (k : Int) := by omega
      have hki : (k : Int) ≤ (s.size : Int) := by omega
      have HN : Hid (N = ms.length) := hN
      rw [← hN] at hown ⊢
      have HV : Hid (wr.ownsRow (w.heap.size + 1) 53 8 (.slice a4 N c4) N (dmsV ms) ∧ wr.heap[w.heap.size]? = some (.cells #[.int .i64 0, .int .i64 0] 35 (0, 0)) ∧ Below w.heap.size w wr) := ⟨hown, hbox, hb⟩
      have hN32 : N ≤ 32 := by omega
      clear ht hown hbox hb HP hN h32 hms
      go_wp2_with fail
      rw [← HX.out.1]
      refine (HT.out _).mono ?_
      rintro e w2 ⟨rfl, hb2⟩
      have hbl2 : w.heap.size < w2.heap.size := Nat.lt_of_lt_of_le hbl hb2.size
      cases ho : oneA (bl t) with
      | bad er =>
        have hE : er = 4 ∨ er = 12 := one_bad ho
        have HR : Hid (allA (bl s) = .inl er) := by unfold Hid; rw [HP2.out, ← HX.out.2.1, ho]
        dsimp only [Do.val]
        obtain ⟨W3, hW3⟩ : ∃ W3, W3 = w2.alloc (.cells (dmA E E E 0 0 0) 53) := ⟨_, rfl⟩
        have hbx3 : W3.heap[w.heap.size]? = some (.cells #[.int .i64 0, .int .i64 0] 35 (0, 0)) := by
          rw [hW3]; exact (Below.heap_alloc _ _ _ hbl2).trans ((hb2.block _ hbl).trans HV.out.2.1)
        have hb3 : Below w.heap.size w W3 := by rw [hW3]; exact (HV.out.2.2.trans (hb2.mono HV.out.2.2.size)).alloc (by omega) _
        have b0 := cell_in hbx3 0 rfl
        have b1 := cell_in hbx3 1 rfl
        have f0 : W3.frozen? ⟨w.heap.size, 0, none⟩ = false := by simp [World.frozen?, hbx3]
        have f1 : W3.frozen? ⟨w.heap.size, 1, none⟩ = false := by simp [World.frozen?, hbx3]
        have HBX : Hid _ := hbx3
        have HB : Hid _ := hb3
        clear ho hbx3 hb3 hb2
        go_upto_region 7 with fail
        rw [← hW3]
        clear hW3
        rcases hE with rfl | rfl
        · go_wp2_with fail
          obtain ⟨WF, hWF⟩ : ∃ WF, WF = (W3.setCell ⟨w.heap.size, 0, none⟩ (.int .i64 4)).setCell ⟨w.heap.size, 1, none⟩ (.int .i64 (k : Int)) := ⟨_, rfl⟩
          have hq : WF.heap[w.heap.size]? = some (.cells #[.int .i64 4, .int .i64 (k : Int)] 35 (0, 0)) ∧ Below w.heap.size w WF := by rw [hWF]; exact put2 HBX.out HB.out (Nat.le_refl _) _ _
          show bodyPost Tryz.prog Tryz.f10 _ Exit.ret _ ((W3.setCell ⟨w.heap.size, 0, none⟩ (.int .i64 4)).setCell ⟨w.heap.size, 1, none⟩ (.int .i64 (k : Int)))
          rw [← hWF]
          have q0 := cell_in hq.1 0 rfl
          have q1 := cell_in hq.1 1 rfl
          refine bodyPost_ret (v := .tuple #[.slice none 0 0, .agg #[.int .i64 4, .int .i64 (k : Int)]]) (by simp [results, Tryz.results10, go_sem, q0, q1]; try rfl) rfl ⟨hq.2, by rw [HR.out]; exact ⟨_, rfl⟩⟩
        · go_wp2_with fail
          obtain ⟨WF, hWF⟩ : ∃ WF, WF = (W3.setCell ⟨w.heap.size, 0, none⟩ (.int .i64 12)).setCell ⟨w.heap.size, 1, none⟩ (.int .i64 (k : Int)) := ⟨_, rfl⟩
          have hq : WF.heap[w.heap.size]? = some (.cells #[.int .i64 12, .int .i64 (k : Int)] 35 (0, 0)) ∧ Below w.heap.size w WF := by rw [hWF]; exact put2 HBX.out HB.out (Nat.le_refl _) _ _
          show bodyPost Tryz.prog Tryz.f10 _ Exit.ret _ ((W3.setCell ⟨w.heap.size, 0, none⟩ (.int .i64 12)).setCell ⟨w.heap.size, 1, none⟩ (.int .i64 (k : Int)))
          rw [← hWF]
          have q0 := cell_in hq.1 0 rfl
          have q1 := cell_in hq.1 1 rfl
          refine bodyPost_ret (v := .tuple #[.slice none 0 0, .agg #[.int .i64 12, .int .i64 (k : Int)]]) (by simp [results, Tryz.results10, go_sem, q0, q1]; try rfl) rfl ⟨hq.2, by rw [HR.out]; exact ⟨_, rfl⟩⟩
      | ok m n =>
        have hn := one_len ho
        rw [bl_length, HX.out.2.2.2] at hn
        have HR : Hid (allA (bl s) = if s.size - k ≤ n then .inr (ms ++ [m]) else parseA f ((bl s).drop (k + (n + 1))) (ms ++ [m])) := by unfold Hid; rw [HP2.out, ← HX.out.2.1, ho]
        have HDm : Hid (dmsV (ms ++ [m]) = dmsV ms ++ m.cells.toList ∧ (ms ++ [m]).length = N + 1) := ⟨dms_snoc ms m, by rw [HN.out]; simp⟩
        obtain ⟨mk, ma, mb, mf, mt, my⟩ := m
        dsimp only [Do.val, Dm.cells]
        obtain ⟨W3, hW3⟩ : ∃ W3, W3 = w2.alloc (.cells (dmA mk ma mb mf mt my) 53) := ⟨_, rfl⟩
        have hbx3 : W3.heap[w.heap.size]? = some (.cells #[.int .i64 0, .int .i64 0] 35 (0, 0)) := by
          rw [hW3]; exact (Below.heap_alloc _ _ _ hbl2).trans ((hb2.block _ hbl).trans HV.out.2.1)
        have hb3 : Below w.heap.size w W3 := by rw [hW3]; exact (HV.out.2.2.trans (hb2.mono HV.out.2.2.size)).alloc (by omega) _
        have hown3 : W3.ownsRow (w.heap.size + 1) 53 8 (.slice a4 N c4) N (dmsV ms) := by rw [hW3]; exact (owns_below HV.out.1 hb2).alloc _
        have hm3 : W3.heap[w2.heap.size]? = some (.cells (dmA mk ma mb mf mt my) 53 (0, 0)) := by rw [hW3]; exact Cd.heap_new _ _
        have y0 := cell_in hm3 0 rfl
        have y1 := cell_in hm3 1 rfl
        have y2 := cell_in hm3 2 rfl
        have y3 := cell_in hm3 3 rfl
        have y4 := cell_in hm3 4 rfl
        have y5 := cell_in hm3 5 rfl
        have y6 := cell_in hm3 6 rfl
        have y7 := cell_in hm3 7 rfl
        have hbs3 := hb3.size
        have hbl3 : w.heap.size < W3.heap.size := (Array.getElem?_eq_some_iff.1 hbx3).1
        have HC1 : Hid (∀ (j : Nat) (u : Value), [Value.string mk, .string ma, .string mb, .bool false, .bool false, .int .i64 mf, .int .i64 mt, .int .u8 my][j]? = some u → (W3.alloc (.cells (dmA mk ma mb mf mt my) 53)).cell? ((⟨W3.heap.size, 0, none⟩ : Addr).add j) = some u) := World.news_of_block (Cd.heap_new _ _)
        have H3 : Hid (Below w.heap.size w W3 ∧ W3.heap[w.heap.size]? = some (.cells #[.int .i64 0, .int .i64 0] 35 (0, 0))) := ⟨hb3, hbx3⟩
        clear ho hb2 hbx3 hm3 hb3
        go_upto_region 7 with fail
        rw [← hW3]
        clear hW3
        go_wp2_with (at_builtin; refine wpList_append_own _ rfl _ _ 39 rfl (w.heap.size + 1) 53 i0 (.agg (dmA E E E 0 0 0)) 8 80 Tryz.underlying39 hi hz0 hz1 hz2 rfl (by decide) _ _ _ rfl (hown3.alloc _) ⟨W3.heap.size, 0, none⟩ 1 1 [.string mk, .string ma, .string mb, .bool false, .bool false, .int .i64 mf, .int .i64 mt, .int .u8 my] rfl rfl HC1.out (by intro u hu; simp only [List.mem_cons, List.not_mem_nil, or_false] at hu; rcases hu with rfl | rfl | rfl | rfl | rfl | rfl | rfl | rfl <;> rfl) (by unfold maxLen; omega) (by omega) (by simp; omega) ?_)
        intro v' w4 hown' hgrow _
        have hbx4 : w4.heap[w.heap.size]? = some (.cells #[.int .i64 0, .int .i64 0] 35 (0, 0)) := (hgrow.block _ (by simp; omega) (fun h => box_ne hown3 (Nat.lt_succ_self _) h.symm)).trans ((Below.heap_alloc _ _ _ hbl3).trans H3.out.2)
        have hb4 : Below w.heap.size w w4 := (H3.out.1.alloc hbs3 _).grown hgrow (by simp; omega) (fun j hj => by have := (hown3.lt j hj).1; omega)
        have H4 : Hid (w4.ownsRow (w.heap.size + 1) 53 8 v' (ms ++ [(⟨mk, ma, mb, mf, mt, my⟩ : Dm)]).length (dmsV (ms ++ [(⟨mk, ma, mb, mf, mt, my⟩ : Dm)])) ∧ w4.heap[w.heap.size]? = some (.cells #[.int .i64 0, .int .i64 0] 35 (0, 0)) ∧ Below w.heap.size w w4) := ⟨by rw [HDm.out.1, HDm.out.2]; exact hown', hbx4, hb4⟩
        have b0 := cell_in hbx4 0 rfl
        have b1 := cell_in hbx4 1 rfl
        have f0 : w4.frozen? ⟨w.heap.size, 0, none⟩ = false := by simp [World.frozen?, hbx4]
        have f1 : w4.frozen? ⟨w.heap.size, 1, none⟩ = false := by simp [World.frozen?, hbx4]
        clear hown' hgrow hown3 hbx4 hb4 y0 y1 y2 y3 y4 y5 y6 y7
        by_cases hend : s.size ≤ k + n
        · have hei : (s.size : Int) ≤ (k : Int) + (n : Int) := by omega
          have HR2 : Hid (allA (bl s) = .inr (ms ++ [(⟨mk, ma, mb, mf, mt, my⟩ : Dm)])) := by unfold Hid; rw [HR.out, if_pos (by omega)]
          go_wp2_with fail
          obtain ⟨WF, hWF⟩ : ∃ WF, WF = (w4.setCell ⟨w.heap.size, 0, none⟩ (.int .i64 0)).setCell ⟨w.heap.size, 1, none⟩ (.int .i64 0) := ⟨_, rfl⟩
          have hq : WF.heap[w.heap.size]? = some (.cells #[.int .i64 0, .int .i64 0] 35 (0, 0)) ∧ Below w.heap.size w WF := by rw [hWF]; exact put2 H4.out.2.1 H4.out.2.2 (Nat.le_refl _) _ _
          show bodyPost Tryz.prog Tryz.f10 _ Exit.ret _ ((w4.setCell ⟨w.heap.size, 0, none⟩ (.int .i64 0)).setCell ⟨w.heap.size, 1, none⟩ (.int .i64 0))
          have hrow : WF.ownsRow w.heap.size 53 8 v' (ms ++ [(⟨mk, ma, mb, mf, mt, my⟩ : Dm)]).length (dmsV (ms ++ [(⟨mk, ma, mb, mf, mt, my⟩ : Dm)])) := by rw [hWF]; exact row_base (row_set (row_set H4.out.1 (box_ne H4.out.1 (Nat.lt_succ_self _)) _) (box_ne H4.out.1 (Nat.lt_succ_self _)) _) (Nat.le_succ _)
          rw [← hWF]
          have q0 := cell_in hq.1 0 rfl
          have q1 := cell_in hq.1 1 rfl
          refine bodyPost_ret (v := .tuple #[v', .agg #[.int .i64 0, .int .i64 0]]) (by simp [results, Tryz.results10, go_sem, q0, q1]; try rfl) rfl ⟨hq.2, by rw [HR2.out]; exact ⟨_, rfl, hrow⟩⟩
        · have hei : ¬ (s.size : Int) ≤ (k : Int) + (n : Int) := by omega
          obtain ⟨f', rfl⟩ : ∃ f', f = f' + 1 := ⟨f - 1, by omega⟩
          have HR2 : Hid (allA (bl s) = parseA (f' + 1) ((bl s).drop (k + n + 1)) (ms ++ [(⟨mk, ma, mb, mf, mt, my⟩ : Dm)])) := by unfold Hid; rw [HR.out, if_neg (by omega), Nat.add_assoc]
          clear b0 b1 f0 f1
          go_wp2_with fail
          go_roundw
          case rel => exact ⟨k + n + 1, _, f', by omega, by go_num, by rw [HDm.out.2]; omega, H4.out.1, H4.out.2.1, by omega, HR2, H4.out.2.2⟩
          case measure => simp [intOf]; omega
end Go.Proofs.YtpcpcfnmcfjomaaGreatDoor.DQ
