/-
  What negated, bracketed, part, condition and read do.
-/
import Derived.Test.YtkelmhpoplbacaaGreatDoorGC
namespace Go.Proofs.YtkelmhpoplbacaaGreatDoor.Cd
open Go.RowKit Go.Shelf Ex

/-- What a call has answered, told so that the one that called it can hand it on. -/
theorem part_open {b : Nat} {s : ByteArray} {a d : Nat} {w W w1 : World} {r : RR Tr} {e : Ending} (hF : Fx b s a d w W) (h : PartPost b s d r W e w1) : ∃ v y n a3, e = .returned (.tuple #[v, fV y n]) ∧ Wt b W w1 ∧ Cr b s a3 d w1 ∧ IfV v ∧
    (∀ (x1 y1 : Value) (W5 w6 : World), Wt b w1 W5 → w6.heap = ((W5.setCell ⟨w.heap.size, 0, none⟩ x1).setCell ⟨w.heap.size, 1, none⟩ y1).heap → Wt b w w6 → Cr b s a3 d w6 → PartPost b s d r w (.returned (.tuple #[v, fV y n])) w6) ∧
    (∀ (q : Nat) (x1 y1 : Value) (W5 w6 : World), Wt b w1 W5 → w6.heap = ((W5.setCell ⟨w.heap.size, 0, none⟩ x1).setCell ⟨w.heap.size, 1, none⟩ y1).heap → Wt b w w6 → Cr b s a3 d w6 → PartPost b s d (r.map (Tr.not_ q)) w (.returned (.tuple #[.iface 116 (.agg #[.int .i64 (q : Int), v]), fV y n])) w6) := by
  cases r with
  | bad y n => obtain ⟨h1, v, h2, a', h3, h4⟩ := h; exact ⟨v, y, n, a', h2, h1, h3, h4, fun _ _ _ w6 _ _ h5 h6 => ⟨h5, _, rfl, a', h6, h4⟩, fun _ _ _ _ w6 _ _ h5 h6 => ⟨h5, _, rfl, a', h6, .inl ⟨_, _, rfl⟩⟩⟩
  | ok p t => obtain ⟨h1, v, h2, h3, h4⟩ := h; exact ⟨v, 0, 0, p, h2, h1, h3, .inl h4.iface, fun x1 y1 W5 w6 h5 hh h6 h7 => ⟨h6, _, rfl, h7, PartPost.up hF h4 (.inr h5) x1 y1 hh⟩, fun q x1 y1 W5 w6 h5 hh h6 h7 => ⟨h6, _, rfl, h7, .not_ (PartPost.up hF h4 (.inr h5) x1 y1 hh)⟩⟩
set_option maxRecDepth 20000 in
set_option maxHeartbeats 2000000 in
theorem negated_any (b : Nat) (s : ByteArray) (d : Nat) (R : Nat → RR Tr → Prop) (q : Nat) (w0 : World) (h1 : OneC b s d 78 R w0) (a : Nat) (w : World) (ha : a ≤ s.size) (h : Cr b s a d w) (hw0 : Wt b w0 w) :
    Calls Tryz.prog 107 #[.pointer (some ⟨b, 0, none⟩), .int .i64 (q : Int)] w fun e w' => ∃ r, (∃ r', R a r' ∧ r = r'.map (Tr.not_ q)) ∧ PartPost b s d r w e w' := by
  have H0 : Hid (Fx b s a d w (w.alloc (.cells #[.int .i64 0, .int .i64 0] 43))) := Fx.start h
  obtain ⟨W1, hW1⟩ : ∃ W1, W1 = w.alloc (.cells #[.int .i64 0, .int .i64 0] 43) := ⟨_, rfl⟩
  rw [← hW1] at H0
  have HO : Hid (Calls Tryz.prog 78 #[.pointer (some ⟨b, 0, none⟩)] W1 fun e w' => ∃ r, R a r ∧ PartPost b s d r W1 e w') := h1 a W1 ha H0.out.cr (hw0.trans H0.out.wt)
  clear h h1 hw0
  go_enter Tryz.func107, Tryz.ntmps107
  go_wp2_with fail
  rw [← hW1]
  clear hW1
  refine HO.out.mono ?_
  rintro e w3 ⟨r, hr, hpost⟩
  obtain ⟨v, y, n, a3, rfl, hw3, hc3, hif, _, hnot⟩ := part_open H0.out hpost
  obtain ⟨W4, g, hW4, hg, hF4, hbx, hgl⟩ := (H0.out.next hc3 hw3).box (.int .i64 y) (.int .i64 n)
  have H4 : Hid (Fx b s a3 d w W4 ∧ Wt b w3 W4) := ⟨hF4, by rw [hW4]; exact Wt.below ((Below.refl _ _).alloc (Nat.le_refl _) _)⟩
  have HD : Hid (∀ (x1 y1 : Value) (W5 w6 : World), Wt b w3 W5 → w6.heap = ((W5.setCell ⟨w.heap.size, 0, none⟩ x1).setCell ⟨w.heap.size, 1, none⟩ y1).heap → Wt b w w6 → Cr b s a3 d w6 → PartPost b s d (r.map (Tr.not_ q)) w (.returned (.tuple #[.iface 116 (.agg #[.int .i64 (q : Int), v]), fV y n])) w6) := hnot q
  have HR : Hid (R a r) := hr
  clear hw3 hc3 hF4 hpost hnot hr
  rcases hif with ⟨T, xx, rfl⟩ | rfl
  all_goals
    go_upto_region 2 with fail
    rw [← hW4, ← hg]
    clear hW4 hg
    have x0 := cellb hbx 0 rfl
    have x1 := cellb hbx 1 rfl
    have g0 := H4.out.1.b0
    have g1 := H4.out.1.b1
    have gf0 := H4.out.1.bf 0
    have gf1 := H4.out.1.bf 1
    clear hbx
    go_wp2_with fail
    go_region_with (fail)
    all_goals
      go_wp2
      first
        | refine bodyPost_ret (v := .tuple #[.iface 116 (.agg #[.int .i64 (q : Int), .iface T xx]), fV y n]) (by simp [results, Tryz.results107, go_sem, g0, g1]; try rfl) rfl ?_
        | refine bodyPost_ret (v := .tuple #[.iface 116 (.agg #[.int .i64 (q : Int), .nilIface]), fV y n]) (by simp [results, Tryz.results107, go_sem, g0, g1]; try rfl) rfl ?_
      first | exact ⟨_, ⟨r, HR.out, rfl⟩, HD.out _ _ W4 _ H4.out.2 rfl (H4.out.1.fin _ _).2.drew (H4.out.1.fin _ _).1.drew⟩ | exact ⟨_, ⟨r, HR.out, rfl⟩, HD.out _ _ W4.drew _ H4.out.2.drew rfl (H4.out.1.drew.fin _ _).2 (H4.out.1.drew.fin _ _).1⟩
set_option maxRecDepth 20000 in
set_option maxHeartbeats 4000000 in
theorem bracketed_any (b : Nat) (s : ByteArray) (hs : s.size ≤ 1000000) (d : Nat) (R : Nat → RR Tr → Prop) (hR : ∀ a r, a ≤ s.size → R a r → r.In a s.size) (q : Nat) (w0 : World) (h1 : OneC b s d 32 R w0) (a : Nat) (w : World) (ha : a ≤ s.size) (h : Cr b s a d w) (hw0 : Wt b w0 w) :
    Calls Tryz.prog 108 #[.pointer (some ⟨b, 0, none⟩), .int .i64 (q : Int)] w fun e w' => ∃ r, (∃ r', R a r' ∧ r = r'.then (closes s q)) ∧ PartPost b s d r w e w' := by
  have H0 : Hid (Fx b s a d w (w.alloc (.cells #[.int .i64 0, .int .i64 0] 43))) := Fx.start h
  obtain ⟨W1, hW1⟩ : ∃ W1, W1 = w.alloc (.cells #[.int .i64 0, .int .i64 0] 43) := ⟨_, rfl⟩
  rw [← hW1] at H0
  have HO : Hid (Calls Tryz.prog 32 #[.pointer (some ⟨b, 0, none⟩)] W1 fun e w' => ∃ r, R a r ∧ PartPost b s d r W1 e w') := h1 a W1 ha H0.out.cr (hw0.trans H0.out.wt)
  have HTk : Hid (∀ (p' : Nat) W, p' ≤ s.size → Cr b s p' d W → Calls Tryz.prog 77 #[.pointer (some ⟨b, 0, none⟩), .string ⟨#[41]⟩] W fun e w' => e = .returned (.bool (nextP (bl s) p' [41]).1) ∧ Cr b s (nextP (bl s) p' [41]).2 d w' ∧ Wt b W w') := fun p' W h2 h3 => take_any b s ⟨#[41]⟩ hs (by decide) p' d h2 W h3
  have HWr : Hid (∀ (x : Nat) W, Calls Tryz.prog 34 #[.int .i64 (x : Int)] W fun e w' => e = .returned (fV 13 (x : Int)) ∧ Below W.heap.size W w') := fun x W => wrong_any _ W
  have HBg : Hid (∀ W, Calls Tryz.prog 131 #[.int .i64 (q : Int)] W fun e w' => e = .returned (.int .i64 (q : Int)) ∧ W = w') := fun W => begins_any _ W
  clear h h1 hw0
  go_enter Tryz.func108, Tryz.ntmps108
  go_wp2_with fail
  rw [← hW1]
  clear hW1
  refine HO.out.mono ?_
  rintro e w3 ⟨r, hr, hpost⟩
  have hin := hR a r ha hr
  obtain ⟨v, y, n, a3, rfl, hw3, hc3, hif, hsame, _⟩ := part_open H0.out hpost
  obtain ⟨W4, g, hW4, hg, hF4, hbx, hgl⟩ := (H0.out.next hc3 hw3).box (.int .i64 y) (.int .i64 n)
  have hW34 : Wt b w3 W4 := by rw [hW4]; exact Wt.below ((Below.refl _ _).alloc (Nat.le_refl _) _)
  cases r with
  | bad y' n' =>
    have hyn : y = y' ∧ n = (n' : Int) := by
      obtain ⟨_, v2, h2, _⟩ := hpost
      simp at h2
      exact ⟨h2.2.1, h2.2.2⟩
    obtain ⟨rfl, rfl⟩ := hyn
    have hy0 : ¬ y = 0 := by rcases hin with rfl | rfl <;> decide
    have hyb : (y == 0) = false := by simpa using hy0
    have H4 : Hid (Fx b s a3 d w W4 ∧ Wt b w3 W4) := ⟨hF4, hW34⟩
    have HD : Hid (∀ (x1 y1 : Value) (W5 w6 : World), Wt b w3 W5 → w6.heap = ((W5.setCell ⟨w.heap.size, 0, none⟩ x1).setCell ⟨w.heap.size, 1, none⟩ y1).heap → Wt b w w6 → Cr b s a3 d w6 → PartPost b s d (.bad y n') w (.returned (.tuple #[v, fV y (n' : Int)])) w6) := hsame
    have HR : Hid (R a (.bad y n')) := hr
    clear hw3 hc3 hF4 hpost hsame hr hW34 hin
    rcases hif with ⟨T, xx, rfl⟩ | rfl
    all_goals
      go_upto_region 2 with fail
      rw [← hW4, ← hg]
      clear hW4 hg
      have x0 := cellb hbx 0 rfl
      have x1 := cellb hbx 1 rfl
      have g0 := H4.out.1.b0
      have g1 := H4.out.1.b1
      have gf0 := H4.out.1.bf 0
      have gf1 := H4.out.1.bf 1
      clear hbx
      go_wp2_with fail
      go_region_with (fail)
      all_goals
        go_wp2
        first
          | refine bodyPost_ret (v := .tuple #[.iface T xx, fV y (n' : Int)]) (by simp [results, Tryz.results108, go_sem, g0, g1]; try rfl) rfl ?_
          | refine bodyPost_ret (v := .tuple #[.nilIface, fV y (n' : Int)]) (by simp [results, Tryz.results108, go_sem, g0, g1]; try rfl) rfl ?_
        first | exact ⟨_, ⟨_, HR.out, rfl⟩, HD.out _ _ W4 _ H4.out.2 rfl (H4.out.1.fin _ _).2.drew (H4.out.1.fin _ _).1.drew⟩ | exact ⟨_, ⟨_, HR.out, rfl⟩, HD.out _ _ W4.drew _ H4.out.2.drew rfl (H4.out.1.drew.fin _ _).2 (H4.out.1.drew.fin _ _).1⟩
  | ok p t =>
    obtain ⟨hpw, v2, h2, hc3', htv⟩ := hpost
    simp at h2
    obtain ⟨rfl, rfl, rfl⟩ := h2
    obtain ⟨T, xx, rfl⟩ := htv.iface
    have hF4' : Fx b s p d w W4 := by
      have := (H0.out.next hc3' hw3).alloc (.cells #[.int .i64 0, .int .i64 0] 43)
      rw [hW4]; exact this
    have hnx := next_le (p := [41]) hin.2
    have HK := HTk.out p W4 hin.2 hF4'.cr
    have H4 : Hid (Fx b s p d w W4 ∧ Wt b w3 W4) := ⟨hF4', hW34⟩
    have HR : Hid (R a (.ok p t)) := hr
    have HT : Hid (TV w3 (New W1 w3) (.iface T xx) t) := htv
    go_upto_region 2 with fail
    rw [← hW4, ← hg]
    clear hW4 hg hw3 hc3 hF4 hsame hr hW34 hpw hc3' htv hF4' hif
    have x0 := cellb hbx 0 rfl
    have x1 := cellb hbx 1 rfl
    have HBX : Hid (W4.heap[g]? = some (.cells #[.int .i64 0, .int .i64 0] 43 (0, 0))) := hbx
    clear hbx
    obtain ⟨p4, hp4⟩ : ∃ p4, p4 = (nextP (bl s) p [41]).2 := ⟨_, rfl⟩
    cases hnt : (nextP (bl s) p [41]).1
    · rw [hnt, ← hp4] at HK
      rw [← hp4] at hnx
      have HK2 : Hid (Calls Tryz.prog 77 #[.pointer (some ⟨b, 0, none⟩), .string ⟨#[41]⟩] W4 fun e w' => e = .returned (.bool false) ∧ Cr b s p4 d w' ∧ Wt b W4 w') := HK
      have HC : Hid (closes s q p t = .bad 13 (if p4 = s.size then q else p4)) := by
        unfold Hid closes
        rw [hnt, ← hp4]; rfl
      have hp6 : p4 ≤ 1000000 := by omega
      clear HK hnt hp4
      go_wp2_with fail
      refine HK2.out.mono ?_
      rintro e w5 ⟨rfl, hc5, hw5⟩
      have H5 : Hid (Fx b s p4 d w w5) := H4.out.1.next hc5 hw5
      clear hc5 hw5 x0 x1
      have d0 := H5.out.cr.c0
      have d1 := H5.out.cr.c1
      by_cases hz : p4 = s.size
      · rw [if_pos hz] at HC
        have hei : (p4 : Int) = (s.size : Int) := by omega
        have hed : ((p4 : Int) == (s.size : Int)) = true := by simpa using hei
        clear hz
        go_wp2_with fail
        go_quiet (fail)
        go_wp2_with fail
        refine (HBg.out _).mono ?_
        rintro e w6 ⟨rfl, rfl⟩
        go_wp2_with fail
        refine (HWr.out q _).mono ?_
        rintro e w7 ⟨rfl, hb7⟩
        have H7 : Hid (Fx b s p4 d w w7) := Fx.on hb7 (H5.out.drewN _)
        clear hb7
        have g0 := H7.out.b0
        have g1 := H7.out.b1
        have gf0 := H7.out.bf 0
        have gf1 := H7.out.bf 1
        go_wp2
        refine bodyPost_ret (v := .tuple #[.nilIface, fV 13 (q : Int)]) (by simp [results, Tryz.results108, go_sem, g0, g1]; try rfl) rfl ?_
        refine ⟨_, ⟨_, HR.out, rfl⟩, ?_⟩
        show PartPost b s d (closes s q p t) w _ _
        rw [HC.out]
        exact ⟨(H7.out.fin _ _).2, _, rfl, p4, (H7.out.fin _ _).1, .inr rfl⟩
      · rw [if_neg hz] at HC
        have hei : ¬ (p4 : Int) = (s.size : Int) := by omega
        have hed : ((p4 : Int) == (s.size : Int)) = false := by simpa using hei
        clear hz
        go_wp2_with fail
        go_quiet (fail)
        go_wp2_with fail
        refine (HWr.out p4 _).mono ?_
        rintro e w7 ⟨rfl, hb7⟩
        have H7 : Hid (Fx b s p4 d w w7) := Fx.on hb7 (H5.out.drewN _)
        clear hb7
        have g0 := H7.out.b0
        have g1 := H7.out.b1
        have gf0 := H7.out.bf 0
        have gf1 := H7.out.bf 1
        go_wp2
        refine bodyPost_ret (v := .tuple #[.nilIface, fV 13 (p4 : Int)]) (by simp [results, Tryz.results108, go_sem, g0, g1]; try rfl) rfl ?_
        refine ⟨_, ⟨_, HR.out, rfl⟩, ?_⟩
        show PartPost b s d (closes s q p t) w _ _
        rw [HC.out]
        exact ⟨(H7.out.fin _ _).2, _, rfl, p4, (H7.out.fin _ _).1, .inr rfl⟩
    · rw [hnt, ← hp4] at HK
      have HK2 : Hid (Calls Tryz.prog 77 #[.pointer (some ⟨b, 0, none⟩), .string ⟨#[41]⟩] W4 fun e w' => e = .returned (.bool true) ∧ Cr b s p4 d w' ∧ Wt b W4 w') := HK
      have HC : Hid (closes s q p t = .ok p4 t) := by
        unfold Hid closes
        rw [hnt, ← hp4]; rfl
      clear HK hnt hp4
      go_wp2_with fail
      refine HK2.out.mono ?_
      rintro e w5 ⟨rfl, hc5, hw5⟩
      have hg5 : w5.heap[g]? = some (.cells #[.int .i64 0, .int .i64 0] 43 (0, 0)) := (hw5.block g (Array.getElem?_eq_some_iff.1 HBX.out).1 (by have := H4.out.1.hb; omega)).trans HBX.out
      have H5 : Hid (Fx b s p4 d w w5 ∧ Wt b w3 w5) := ⟨H4.out.1.next hc5 hw5, H4.out.2.trans hw5⟩
      clear hc5 hw5 x0 x1
      have x0 := cellb hg5 0 rfl
      have x1 := cellb hg5 1 rfl
      have g0 := H5.out.1.b0
      have g1 := H5.out.1.b1
      have gf0 := H5.out.1.bf 0
      have gf1 := H5.out.1.bf 1
      clear hg5
      go_wp2_with fail
      go_region_with (fail)
      all_goals
        go_wp2
        refine bodyPost_ret (v := .tuple #[.iface T xx, fV 0 0]) (by simp [results, Tryz.results108, go_sem, g0, g1]; try rfl) rfl ?_
        refine ⟨_, ⟨_, HR.out, rfl⟩, ?_⟩
        show PartPost b s d (closes s q p t) w _ _
        rw [HC.out]
        first | exact ⟨(H5.out.1.fin _ _).2.drew, _, rfl, (H5.out.1.fin _ _).1.drew, PartPost.up H0.out HT.out (.inr H5.out.2) _ _ rfl⟩ | exact ⟨(H5.out.1.drew.fin _ _).2, _, rfl, (H5.out.1.drew.fin _ _).1, PartPost.up H0.out HT.out (.inr H5.out.2.drew) _ _ rfl⟩
end Go.Proofs.YtkelmhpoplbacaaGreatDoor.Cd
namespace Go.Proofs.YtkelmhpoplbacaaGreatDoor.Cd
open Go.RowKit Go.Shelf Ex

set_option maxRecDepth 20000 in
set_option maxHeartbeats 4000000 in
theorem part_walk (b : Nat) (s : ByteArray) (hs : s.size ≤ 1000000) (a d : Nat) (ha : a ≤ s.size) (w : World) (h : Cr b s a d w) (Q : RR Tr → Prop)
    (h33 : (bl s)[skipP (bl s) a]? = some 33 → ∀ W, Cr b s (skipP (bl s) a + 1) d W → Wt b w W → Calls Tryz.prog 106 #[.pointer (some ⟨b, 0, none⟩), .int .i64 (skipP (bl s) a : Nat), .func (Fn.func 107) #[.pointer (some ⟨b, 0, none⟩)] #[]] W fun e w' => ∃ r, Q r ∧ PartPost b s d r W e w')
    (h40 : (bl s)[skipP (bl s) a]? = some 40 → ∀ W, Cr b s (skipP (bl s) a + 1) d W → Wt b w W → Calls Tryz.prog 106 #[.pointer (some ⟨b, 0, none⟩), .int .i64 (skipP (bl s) a : Nat), .func (Fn.func 108) #[.pointer (some ⟨b, 0, none⟩)] #[]] W fun e w' => ∃ r, Q r ∧ PartPost b s d r W e w')
    (hts : ¬ (bl s)[skipP (bl s) a]? = some 33 → ¬ (bl s)[skipP (bl s) a]? = some 40 → ∀ W, Cr b s (skipP (bl s) a) d W → Wt b w W → Calls Tryz.prog 109 #[.pointer (some ⟨b, 0, none⟩)] W fun e w' => ∃ r, Q r ∧ PartPost b s d r W e w') :
    Calls Tryz.prog 78 #[.pointer (some ⟨b, 0, none⟩)] w fun e w' => ∃ r, Q r ∧ PartPost b s d r w e w' := by
  have hq := skip_le ha
  have hid := skip_idem ha
  have H0 : Hid (Fx b s a d w (w.alloc (.cells #[.int .i64 0, .int .i64 0] 43))) := Fx.start h
  obtain ⟨W1, hW1⟩ : ∃ W1, W1 = w.alloc (.cells #[.int .i64 0, .int .i64 0] 43) := ⟨_, rfl⟩
  rw [← hW1] at H0
  have HB : Hid (Calls Tryz.prog 52 #[.pointer (some ⟨b, 0, none⟩)] W1 fun e w' => e = .returned (.int .i64 (skipP (bl s) a : Nat)) ∧ Cr b s (skipP (bl s) a) d w' ∧ Wt b W1 w') := begin_any b s hs a d ha W1 H0.out.cr
  generalize skipP (bl s) a = q at HB hq hid h33 h40 hts
  have HTk : Hid (∀ (c : UInt8) W, Cr b s q d W → Calls Tryz.prog 77 #[.pointer (some ⟨b, 0, none⟩), .string ⟨#[c]⟩] W fun e w' => e = .returned (.bool (nextP (bl s) q [c]).1) ∧ Cr b s (nextP (bl s) q [c]).2 d w' ∧ Wt b W w') := fun c W h3 => take_any b s ⟨#[c]⟩ hs (by show 1 ≤ 100; omega) q d hq.2 W h3
  clear h
  by_cases k33 : (bl s)[q]? = some 33
  · have HK : Hid (∀ W, Cr b s q d W → Calls Tryz.prog 77 #[.pointer (some ⟨b, 0, none⟩), .string ⟨#[33]⟩] W fun e w' => e = .returned (.bool true) ∧ Cr b s (q + 1) d w' ∧ Wt b W w') := fun W h3 => by have := HTk.out 33 W h3; rw [next_one 33 hid, if_pos k33] at this; exact this
    have HI : Hid (∀ W, Cr b s (q + 1) d W → Wt b w W → Calls Tryz.prog 106 #[.pointer (some ⟨b, 0, none⟩), .int .i64 (q : Int), .func (Fn.func 107) #[.pointer (some ⟨b, 0, none⟩)] #[]] W fun e w' => ∃ r, Q r ∧ PartPost b s d r W e w') := h33 k33
    clear h33 h40 hts HTk k33
    go_enter Tryz.func78, Tryz.ntmps78
    go_wp2_with fail
    rw [← hW1]
    clear hW1
    refine HB.out.mono ?_
    rintro e w2 ⟨rfl, hc2, hw2⟩
    go_wp2_with fail
    refine (HK.out _ hc2).mono ?_
    rintro e w3 ⟨rfl, hc3, hw3⟩
    have hF3 := (H0.out.next hc2 hw2).next hc3 hw3
    go_wp2_with fail
    refine (HI.out _ hc3 hF3.wt).mono ?_
    rintro e w4 ⟨r, hr, hpost⟩
    obtain ⟨v, y, n, a4, rfl, hw4, hc4, hif, hsame, _⟩ := part_open hF3 hpost
    have H4 : Hid (Fx b s a4 d w w4) := hF3.next hc4 hw4
    have HD : Hid (∀ (x1 y1 : Value) (W5 w6 : World), Wt b w4 W5 → w6.heap = ((W5.setCell ⟨w.heap.size, 0, none⟩ x1).setCell ⟨w.heap.size, 1, none⟩ y1).heap → Wt b w w6 → Cr b s a4 d w6 → PartPost b s d r w (.returned (.tuple #[v, fV y n])) w6) := hsame
    have HR : Hid (Q r) := hr
    have g0 := H4.out.b0
    have g1 := H4.out.b1
    have gf0 := H4.out.bf 0
    have gf1 := H4.out.bf 1
    clear hc2 hw2 hc3 hw3 hF3 hw4 hc4 hsame hr hpost
    go_wp2
    refine bodyPost_ret (v := .tuple #[v, fV y n]) (by simp [results, Tryz.results78, go_sem, g0, g1]; try rfl) rfl ?_
    exact ⟨r, HR.out, HD.out _ _ w4 _ (Wt.refl _ _) rfl (H4.out.fin _ _).2 (H4.out.fin _ _).1⟩
  · have HK : Hid (∀ W, Cr b s q d W → Calls Tryz.prog 77 #[.pointer (some ⟨b, 0, none⟩), .string ⟨#[33]⟩] W fun e w' => e = .returned (.bool false) ∧ Cr b s q d w' ∧ Wt b W w') := fun W h3 => by have := HTk.out 33 W h3; rw [next_one 33 hid, if_neg k33] at this; exact this
    by_cases k40 : (bl s)[q]? = some 40
    · have HK2 : Hid (∀ W, Cr b s q d W → Calls Tryz.prog 77 #[.pointer (some ⟨b, 0, none⟩), .string ⟨#[40]⟩] W fun e w' => e = .returned (.bool true) ∧ Cr b s (q + 1) d w' ∧ Wt b W w') := fun W h3 => by have := HTk.out 40 W h3; rw [next_one 40 hid, if_pos k40] at this; exact this
      have HI : Hid (∀ W, Cr b s (q + 1) d W → Wt b w W → Calls Tryz.prog 106 #[.pointer (some ⟨b, 0, none⟩), .int .i64 (q : Int), .func (Fn.func 108) #[.pointer (some ⟨b, 0, none⟩)] #[]] W fun e w' => ∃ r, Q r ∧ PartPost b s d r W e w') := h40 k40
      clear h33 h40 hts HTk k33 k40
      go_enter Tryz.func78, Tryz.ntmps78
      go_wp2_with fail
      rw [← hW1]
      clear hW1
      refine HB.out.mono ?_
      rintro e w2 ⟨rfl, hc2, hw2⟩
      go_wp2_with fail
      refine (HK.out _ hc2).mono ?_
      rintro e w3 ⟨rfl, hc3, hw3⟩
      go_wp2_with fail
      refine (HK2.out _ hc3).mono ?_
      rintro e w5 ⟨rfl, hc5, hw5⟩
      have hF5 := ((H0.out.next hc2 hw2).next hc3 hw3).next hc5 hw5
      go_wp2_with fail
      refine (HI.out _ hc5 hF5.wt).mono ?_
      rintro e w4 ⟨r, hr, hpost⟩
      obtain ⟨v, y, n, a4, rfl, hw4, hc4, hif, hsame, _⟩ := part_open hF5 hpost
      have H4 : Hid (Fx b s a4 d w w4) := hF5.next hc4 hw4
      have HD : Hid (∀ (x1 y1 : Value) (W5 w6 : World), Wt b w4 W5 → w6.heap = ((W5.setCell ⟨w.heap.size, 0, none⟩ x1).setCell ⟨w.heap.size, 1, none⟩ y1).heap → Wt b w w6 → Cr b s a4 d w6 → PartPost b s d r w (.returned (.tuple #[v, fV y n])) w6) := hsame
      have HR : Hid (Q r) := hr
      have g0 := H4.out.b0
      have g1 := H4.out.b1
      have gf0 := H4.out.bf 0
      have gf1 := H4.out.bf 1
      clear hc2 hw2 hc3 hw3 hc5 hw5 hF5 hw4 hc4 hsame hr hpost
      go_wp2
      refine bodyPost_ret (v := .tuple #[v, fV y n]) (by simp [results, Tryz.results78, go_sem, g0, g1]; try rfl) rfl ?_
      exact ⟨r, HR.out, HD.out _ _ w4 _ (Wt.refl _ _) rfl (H4.out.fin _ _).2 (H4.out.fin _ _).1⟩
    · have HK2 : Hid (∀ W, Cr b s q d W → Calls Tryz.prog 77 #[.pointer (some ⟨b, 0, none⟩), .string ⟨#[40]⟩] W fun e w' => e = .returned (.bool false) ∧ Cr b s q d w' ∧ Wt b W w') := fun W h3 => by have := HTk.out 40 W h3; rw [next_one 40 hid, if_neg k40] at this; exact this
      have HI : Hid (∀ W, Cr b s q d W → Wt b w W → Calls Tryz.prog 109 #[.pointer (some ⟨b, 0, none⟩)] W fun e w' => ∃ r, Q r ∧ PartPost b s d r W e w') := hts k33 k40
      clear h33 h40 hts HTk k33 k40
      go_enter Tryz.func78, Tryz.ntmps78
      go_wp2_with fail
      rw [← hW1]
      clear hW1
      refine HB.out.mono ?_
      rintro e w2 ⟨rfl, hc2, hw2⟩
      go_wp2_with fail
      refine (HK.out _ hc2).mono ?_
      rintro e w3 ⟨rfl, hc3, hw3⟩
      go_wp2_with fail
      refine (HK2.out _ hc3).mono ?_
      rintro e w5 ⟨rfl, hc5, hw5⟩
      have hF5 := ((H0.out.next hc2 hw2).next hc3 hw3).next hc5 hw5
      go_wp2_with fail
      refine (HI.out _ hc5 hF5.wt).mono ?_
      rintro e w4 ⟨r, hr, hpost⟩
      obtain ⟨v, y, n, a4, rfl, hw4, hc4, hif, hsame, _⟩ := part_open hF5 hpost
      have H4 : Hid (Fx b s a4 d w w4) := hF5.next hc4 hw4
      have HD : Hid (∀ (x1 y1 : Value) (W5 w6 : World), Wt b w4 W5 → w6.heap = ((W5.setCell ⟨w.heap.size, 0, none⟩ x1).setCell ⟨w.heap.size, 1, none⟩ y1).heap → Wt b w w6 → Cr b s a4 d w6 → PartPost b s d r w (.returned (.tuple #[v, fV y n])) w6) := hsame
      have HR : Hid (Q r) := hr
      have g0 := H4.out.b0
      have g1 := H4.out.b1
      have gf0 := H4.out.bf 0
      have gf1 := H4.out.bf 1
      clear hc2 hw2 hc3 hw3 hc5 hw5 hF5 hw4 hc4 hsame hr hpost
      go_wp2
      refine bodyPost_ret (v := .tuple #[v, fV y n]) (by simp [results, Tryz.results78, go_sem, g0, g1]; try rfl) rfl ?_
      exact ⟨r, HR.out, HD.out _ _ w4 _ (Wt.refl _ _) rfl (H4.out.fin _ _).2 (H4.out.fin _ _).1⟩
/-- The readers of parts and conditions, at every depth. -/
theorem part_any (b : Nat) (s : ByteArray) (hs : s.size ≤ 1000000) (w0 : World) (ht : Tb w0) (hb : 2 < b ∧ 1 < b) : ∀ k d, d + k = 32 → OneC b s d 78 (PartR s k) w0 := by
  intro k
  induction k with
  | zero =>
    intro d hd a w ha h hw
    obtain rfl : d = 32 := by omega
    refine part_walk b s hs a 32 ha w h _ (fun k33 W hc hW => ?_) (fun k40 W hc hW => ?_) (fun n33 n40 W hc hW => ?_)
    · exact (within_many _ b s _ _ W hc).mono fun e w' hx => ⟨_, by unfold PartR; rw [if_pos (.inl k33)], hx⟩
    · exact (within_many _ b s _ _ W hc).mono fun e w' hx => ⟨_, by unfold PartR; rw [if_pos (.inr k40)], hx⟩
    · refine (test_any b s hs _ 32 (skip_le ha).2 W hc (ht.wt (hw.trans hW) hb) hb).mono fun e w' hx => ⟨_, ?_, hx⟩
      unfold PartR
      rw [if_neg (fun e => e.elim n33 n40), skip_idem ha]
  | succ k ih =>
    intro d hd a w ha h hw
    have h1 : OneC b s (d + 1) 78 (PartR s k) w0 := ih (d + 1) (by omega)
    have hwy : OneC b s (d + 1) 54 (WayR (bl s) (PartR s k)) w0 := way_any b s hs _ (part_in s k) (fun _ _ ha hr => part_skip ha hr) (d + 1) w0 h1
    have hcd : OneC b s (d + 1) 32 (CondR (bl s) (PartR s k)) w0 := condition_any b s hs _ (way_in (part_in s k)) (way_skip (fun _ _ ha hr => part_skip ha hr)) (d + 1) w0 hwy
    refine part_walk b s hs a d ha w h _ (fun k33 W hc hW => ?_) (fun k40 W hc hW => ?_) (fun n33 n40 W hc hW => ?_)
    · have hlt := at_lt k33
      refine (within_negated b s _ d (by omega) _ (fun r => ∃ r', PartR s k (skipP (bl s) a + 1) r' ∧ r = r'.map (Tr.not_ (skipP (bl s) a))) W hc (fun W' hc' hW' => negated_any b s (d + 1) _ _ w0 h1 _ W' (by omega) hc' ((hw.trans hW).trans hW'))).mono fun e w' hx => ?_
      obtain ⟨r, hr, hp⟩ := hx
      exact ⟨r, by unfold PartR; rw [if_pos k33]; exact hr, hp⟩
    · have hlt := at_lt k40
      have n33 : ¬ (bl s)[skipP (bl s) a]? = some 33 := fun e => by rw [k40] at e; revert e; decide
      refine (within_bracketed b s _ d (by omega) _ (fun r => ∃ r', CondR (bl s) (PartR s k) (skipP (bl s) a + 1) r' ∧ r = r'.then (closes s (skipP (bl s) a))) W hc (fun W' hc' hW' => bracketed_any b s hs (d + 1) _ (cond_in (part_in s k)) _ w0 hcd _ W' (by omega) hc' ((hw.trans hW).trans hW'))).mono fun e w' hx => ?_
      obtain ⟨r, hr, hp⟩ := hx
      exact ⟨r, by unfold PartR; rw [if_neg n33, if_pos k40]; exact hr, hp⟩
    · refine (test_any b s hs _ d (skip_le ha).2 W hc (ht.wt (hw.trans hW) hb) hb).mono fun e w' hx => ⟨_, ?_, hx⟩
      unfold PartR
      rw [if_neg n33, if_neg n40, skip_idem ha]
theorem cond_all (b : Nat) (s : ByteArray) (hs : s.size ≤ 1000000) (w0 : World) (ht : Tb w0) (hb : 2 < b ∧ 1 < b) : OneC b s 0 32 (CondR (bl s) (PartR s 32)) w0 :=
  condition_any b s hs _ (way_in (part_in s 32)) (way_skip (fun _ _ ha hr => part_skip ha hr)) 0 w0 (way_any b s hs _ (part_in s 32) (fun _ _ ha hr => part_skip ha hr) 0 w0 (part_any b s hs w0 ht hb 32 0 rfl))
end Go.Proofs.YtkelmhpoplbacaaGreatDoor.Cd
namespace Go.Proofs.YtkelmhpoplbacaaGreatDoor.Cd
open Go.RowKit Go.Shelf Ex

def ReadPost (r : RR Tr) (w : World) (e : Ending) (w' : World) : Prop :=
  Below w.heap.size w w' ∧ match r with
  | .ok _ t => ∃ T x, e = .returned (.tuple #[.iface T x, fV 0 0]) ∧ TV w' (New w w') (.iface T x) t
  | .bad y n => ∃ v, e = .returned (.tuple #[v, fV y (n : Int)])
/-- What is answered of a text: too long, or read. -/
def TextR (s : ByteArray) (r : RR Tr) : Prop := if 65536 < s.size then r = .bad 5 0 else ReadR s r
/-- The frame of read: the reader lies right behind the box of the fault. -/
structure Rx (s : ByteArray) (a : Nat) (w W1 W : World) : Prop where
  cr : Cr (w.heap.size + 1) s a 0 W
  wt : Wt (w.heap.size + 1) W1 W
  lo : Below w.heap.size w W
  bx : W.heap[w.heap.size]? = some (.cells #[.int .i64 0, .int .i64 0] 43 (0, 0))
section
variable {s : ByteArray} {a : Nat} {w W1 W W' : World}
theorem Rx.next (h : Rx s a w W1 W) {a' : Nat} (hc : Cr (w.heap.size + 1) s a' 0 W') (hw : Wt (w.heap.size + 1) W W') : Rx s a' w W1 W' := by
  have h1 := (Array.getElem?_eq_some_iff.1 h.bx).1
  exact ⟨hc, h.wt.trans hw, ⟨hw.os.trans h.lo.os, hw.tape.trans h.lo.tape, hw.output.trans h.lo.output, Nat.le_trans h.lo.size hw.size, fun j hj => (hw.block j (by omega) (by omega)).trans (h.lo.block j hj)⟩, (hw.block _ h1 (by omega)).trans h.bx⟩
theorem Rx.below (h : Rx s a w W1 W) (hb : Below W.heap.size W W') : Rx s a w W1 W' := h.next (h.cr.below hb) (Wt.below hb)
theorem Rx.on (hb : Below W.heap.size W W') (h : Rx s a w W1 W) : Rx s a w W1 W' := h.below hb
theorem Rx.drew (h : Rx s a w W1 W) : Rx s a w W1 W.drew := ⟨h.cr, h.wt.drew, ⟨h.lo.os, h.lo.tape, h.lo.output, h.lo.size, h.lo.block⟩, h.bx⟩
theorem Rx.set (h : Rx s a w W1 W) {g i : Nat} (x : Value) (hg : w.heap.size + 1 < g) (hg1 : W1.heap.size ≤ g) : Rx s a w W1 (W.setCell ⟨g, i, none⟩ x) := by
  have h1 : w.heap.size + 1 ≠ g := by omega
  have h2 : w.heap.size ≠ g := by omega
  exact ⟨h.cr.set _ h1, h.wt.new hg1 _, ⟨h.lo.os, h.lo.tape, h.lo.output, by rw [size_set]; exact h.lo.size, fun j hj => (Below.heap_setCell _ _ _ _ (by show j ≠ g; omega)).trans (h.lo.block j hj)⟩, (Below.heap_setCell _ _ _ _ h2).trans h.bx⟩
theorem Rx.fin (h : Rx s a w W1 W) (x y : Value) : Below w.heap.size w ((W.setCell ⟨w.heap.size, 0, none⟩ x).setCell ⟨w.heap.size, 1, none⟩ y) :=
  (h.lo.setCell (Nat.le_refl _) _).setCell (Nat.le_refl _) _
/-- A part that was read stays. -/
theorem Rx.tree {w2 w6 : World} {v : Value} {t : Tr} (hz : w.heap.size + 1 < W1.heap.size) (ht : TV w2 (New W1 w2) v t) (hw : Wt (w.heap.size + 1) w2 W) (x y : Value) (hh : w6.heap = ((W.setCell ⟨w.heap.size, 0, none⟩ x).setCell ⟨w.heap.size, 1, none⟩ y).heap) : TV w6 (New w w6) v t := by
  refine ht.kept fun g hg => ?_
  have h1 : g ≠ w.heap.size := by have := hg.1; omega
  have h3 : g ≠ w.heap.size + 1 := by have := hg.1; omega
  unfold New
  rw [hh]
  exact ⟨⟨by have := hg.1; omega, by rw [size_set, size_set]; exact Nat.lt_of_lt_of_le hg.2 hw.size⟩, ((Below.heap_setCell _ _ _ _ h1).trans (Below.heap_setCell _ _ _ _ h1)).trans (hw.block g hg.2 h3)⟩
end
set_option maxHeartbeats 1000000 in
theorem read_long (s : ByteArray) (hs : 65536 < s.size) (hs2 : s.size ≤ 140737488355328) (w : World) : Calls Tryz.prog 15 #[.string s] w (ReadPost (.bad 5 0) w) := by
  have h1 : (65536 : Int) < (s.size : Int) := by omega
  go_enter Tryz.func15, Tryz.ntmps15
  go_wp2
  refine bodyPost_ret (v := .tuple #[.nilIface, fV 5 0]) (by simp [results, Tryz.results15, go_sem]; try rfl) rfl ?_
  exact ⟨(Below.refl _ _).alloc (Nat.le_refl _) _, _, rfl⟩
set_option maxRecDepth 20000 in
set_option maxHeartbeats 4000000 in
theorem read_any (s : ByteArray) (hs : s.size ≤ 65536) (w : World) (ht : Tb w) : Calls Tryz.prog 15 #[.string s] w fun e w' => ∃ r, ReadR s r ∧ ReadPost r w e w' := by
  have hsi : ¬ (65536 : Int) < (s.size : Int) := by omega
  obtain ⟨W1, hW1, hz1, hc1, hb1, hx1⟩ : ∃ W1, W1 = (w.alloc (.cells #[.int .i64 0, .int .i64 0] 43)).alloc (.cells #[.string s, .int .i64 0, .int .i64 0] 105) ∧ W1.heap.size = w.heap.size + 2 ∧ Cr (w.heap.size + 1) s 0 0 W1 ∧ Below w.heap.size w W1 ∧ W1.heap[w.heap.size]? = some (.cells #[.int .i64 0, .int .i64 0] 43 (0, 0)) :=
    ⟨_, rfl, by simp, heap_alloc_new', ((Below.refl _ _).alloc (Nat.le_refl _) _).alloc (by simp) _, (Below.heap_alloc _ _ _ (by simp)).trans (heap_alloc_new _ _)⟩
  have hT1 : Tb W1 := ht.below hb1 ht.low
  have H1 : Hid (Rx s 0 w W1 W1) := ⟨hc1, Wt.refl _ _, hb1, hx1⟩
  have HC : Hid (Calls Tryz.prog 32 #[.pointer (some ⟨w.heap.size + 1, 0, none⟩)] W1 fun e w' => ∃ r, CondR (bl s) (PartR s 32) 0 r ∧ PartPost (w.heap.size + 1) s 0 r W1 e w') := cond_all (w.heap.size + 1) s (by omega) W1 hT1 (by have := ht.low; omega) 0 W1 (Nat.zero_le _) hc1 (Wt.refl _ _)
  have HRs : Hid (∀ p W, p ≤ s.size → Cr (w.heap.size + 1) s p 0 W → Calls Tryz.prog 33 #[.pointer (some ⟨w.heap.size + 1, 0, none⟩)] W fun e w' => e = .returned (.string (s.extract (skipP (bl s) p) s.size)) ∧ Cr (w.heap.size + 1) s (skipP (bl s) p) 0 w' ∧ Wt (w.heap.size + 1) W w') := fun p W hp hc => rest_any _ s (by omega) p 0 hp W hc
  have HWr : Hid (∀ (x : Nat) W, Calls Tryz.prog 34 #[.int .i64 (x : Int)] W fun e w' => e = .returned (fV 13 (x : Int)) ∧ Below W.heap.size W w') := fun x W => wrong_any _ W
  clear hc1 hb1 hx1 hT1 ht
  go_enter Tryz.func15, Tryz.ntmps15
  go_wp2_with fail
  rw [← hW1]
  clear hW1
  refine HC.out.mono ?_
  rintro e w2 ⟨r, hr, hpost⟩
  have hin := cond_in (part_in s 32) 0 r (Nat.zero_le _) hr
  cases r with
  | bad y n =>
    obtain ⟨hw2, v, rfl, a2, hc2, hif⟩ := hpost
    have hy0 : ¬ y = 0 := by rcases hin with rfl | rfl <;> decide
    have hyb : (y == 0) = false := by simpa using hy0
    have hR2 := H1.out.next hc2 hw2
    have HD : Hid (ReadR s (.bad y n)) := ⟨_, hr, rfl⟩
    obtain ⟨W3, g, hW3, hg, hR3, hbx⟩ : ∃ W3 g, W3 = w2.alloc (.cells #[.int .i64 y, .int .i64 (n : Int)] 43) ∧ g = w2.heap.size ∧ Rx s a2 w W1 W3 ∧ W3.heap[g]? = some (.cells #[.int .i64 y, .int .i64 (n : Int)] 43 (0, 0)) := ⟨_, _, rfl, rfl, hR2.below ((Below.refl _ _).alloc (Nat.le_refl _) _), heap_alloc_new _ _⟩
    have H3 : Hid (Rx s a2 w W1 W3) := hR3
    clear hw2 hc2 hR2 hR3 hr hin
    rcases hif with ⟨T, xx, rfl⟩ | rfl
    all_goals
      go_upto_region 5 with fail
      rw [← hW3, ← hg]
      clear hW3 hg
      have x0 := cellb hbx 0 rfl
      have x1 := cellb hbx 1 rfl
      have g0 := cellb H3.out.bx 0 rfl
      have g1 := cellb H3.out.bx 1 rfl
      have gf : ∀ i, W3.frozen? ⟨w.heap.size, i, none⟩ = false := fun i => by simp [World.frozen?, H3.out.bx]
      clear hbx
      go_wp2_with fail
      go_region_with (fail)
      all_goals
        go_wp2
        first
          | refine bodyPost_ret (v := .tuple #[.iface T xx, fV y (n : Int)]) (by simp [results, Tryz.results15, go_sem, g0, g1]; try rfl) rfl ?_
          | refine bodyPost_ret (v := .tuple #[.nilIface, fV y (n : Int)]) (by simp [results, Tryz.results15, go_sem, g0, g1]; try rfl) rfl ?_
        first | exact ⟨_, HD.out, (H3.out.fin _ _).drew, _, rfl⟩ | exact ⟨_, HD.out, H3.out.drew.fin _ _, _, rfl⟩
  | ok p t =>
    obtain ⟨hw2, v, rfl, hc2, htv⟩ := hpost
    obtain ⟨T, xx, rfl⟩ := htv.iface
    have hR2 := H1.out.next hc2 hw2
    have hsk := skip_le hin.2
    have hez := ext_sz s (skipP (bl s) p)
    obtain ⟨W3, g, hW3, hg, hR3, hbx, hw23, hgl⟩ : ∃ W3 g, W3 = w2.alloc (.cells #[.int .i64 0, .int .i64 0] 43) ∧ g = w2.heap.size ∧ Rx s p w W1 W3 ∧ W3.heap[g]? = some (.cells #[.int .i64 0, .int .i64 0] 43 (0, 0)) ∧ Wt (w.heap.size + 1) w2 W3 ∧ W1.heap.size ≤ g := ⟨_, _, rfl, rfl, hR2.below ((Below.refl _ _).alloc (Nat.le_refl _) _), heap_alloc_new _ _, Wt.below ((Below.refl _ _).alloc (Nat.le_refl _) _), hw2.size⟩
    have H3 : Hid (Rx s p w W1 W3 ∧ W3.heap[g]? = some (.cells #[.int .i64 0, .int .i64 0] 43 (0, 0)) ∧ Wt (w.heap.size + 1) w2 W3) := ⟨hR3, hbx, hw23⟩
    have HT : Hid (TV w2 (New W1 w2) (.iface T xx) t) := htv
    have HX : Hid (CondR (bl s) (PartR s 32) 0 (.ok p t)) := hr
    have hp := hin.2
    go_upto_region 5 with fail
    rw [← hW3, ← hg]
    clear hW3 hg hw2 hc2 hR2 hR3 htv hr hin hbx hw23
    have x0 := cellb H3.out.2.1 0 rfl
    have x1 := cellb H3.out.2.1 1 rfl
    have HK := HRs.out p W3 hp H3.out.1.cr
    obtain ⟨k, hk⟩ : ∃ k, k = skipP (bl s) p := ⟨_, rfl⟩
    rw [← hk] at HK hsk hez
    obtain ⟨u, hu⟩ : ∃ u, u = s.extract k s.size := ⟨_, rfl⟩
    rw [← hu] at HK hez
    have HK2 : Hid (Calls Tryz.prog 33 #[.pointer (some ⟨w.heap.size + 1, 0, none⟩)] W3 fun e w' => e = .returned (.string u) ∧ Cr (w.heap.size + 1) s k 0 w' ∧ Wt (w.heap.size + 1) W3 w') := HK
    clear HK hu
    by_cases hlt : k < s.size
    · obtain ⟨n1, n2, n3⟩ := some_ne (x := u) (by omega)
      have HD : Hid (ReadR s (.bad 13 k)) := ⟨_, HX.out, by show _ = if skipP (bl s) p < s.size then RR.bad 13 (skipP (bl s) p) else _; rw [← hk, if_pos hlt]⟩
      have hk6 : k ≤ 1000000 := by omega
      clear hez hk
      go_wp2_with fail
      refine HK2.out.mono ?_
      rintro e w4 ⟨rfl, hc4, hw4⟩
      have hg4 : w4.heap[g]? = some (.cells #[.int .i64 0, .int .i64 0] 43 (0, 0)) := (hw4.block g (Array.getElem?_eq_some_iff.1 H3.out.2.1).1 (by omega)).trans H3.out.2.1
      have H4 : Hid (Rx s k w W1 w4 ∧ w4.heap[g]? = some (.cells #[.int .i64 0, .int .i64 0] 43 (0, 0))) := ⟨H3.out.1.next hc4 hw4, hg4⟩
      have d1 := H4.out.1.cr.c1
      clear hc4 hw4 hg4 x0 x1
      go_wp2_with fail
      refine (HWr.out k _).mono ?_
      rintro e w5 ⟨rfl, hb5⟩
      have hg5 : w5.heap[g]? = some (.cells #[.int .i64 0, .int .i64 0] 43 (0, 0)) := (hb5.block g (Array.getElem?_eq_some_iff.1 H4.out.2).1).trans H4.out.2
      have hR5 := H4.out.1.below hb5
      obtain ⟨W6, hW6, hR6, hg6⟩ : ∃ W6, W6 = (w5.setCell ⟨g, 0, none⟩ (.int .i64 13)).setCell ⟨g, 1, none⟩ (.int .i64 (k : Int)) ∧ Rx s k w W1 W6 ∧ W6.heap[g]? = some (.cells #[.int .i64 13, .int .i64 (k : Int)] 43 (0, 0)) := ⟨_, rfl, (hR5.set _ (by omega) hgl).set _ (by omega) hgl, heap_setb (heap_setb hg5 _) _⟩
      have y0 := cellb hg5 0 rfl
      have y1 := cellb hg5 1 rfl
      have yf : ∀ i, w5.frozen? ⟨g, i, none⟩ = false := fun i => by simp [World.frozen?, hg5]
      have H6 : Hid (Rx s k w W1 W6) := hR6
      clear hb5 hR5 hR6 hg5 d1 H4
      go_upto_region 7 with fail
      rw [← hW6]
      clear hW6 y0 y1 yf
      have x0 := cellb hg6 0 rfl
      have x1 := cellb hg6 1 rfl
      have g0 := cellb H6.out.bx 0 rfl
      have g1 := cellb H6.out.bx 1 rfl
      have gf : ∀ i, W6.frozen? ⟨w.heap.size, i, none⟩ = false := fun i => by simp [World.frozen?, H6.out.bx]
      clear hg6
      go_wp2_with fail
      go_region_with (fail)
      all_goals
        go_wp2
        refine bodyPost_ret (v := .tuple #[.iface T xx, fV 13 (k : Int)]) (by simp [results, Tryz.results15, go_sem, g0, g1]; try rfl) rfl ?_
        first | exact ⟨_, HD.out, (H6.out.fin _ _).drew, _, rfl⟩ | exact ⟨_, HD.out, H6.out.drew.fin _ _, _, rfl⟩
    · have hem : u = ⟨#[]⟩ := bl_inj (List.length_eq_zero_iff.1 (by rw [bl_length]; omega))
      rw [hem] at HK2
      have HD : Hid (ReadR s (.ok k t)) := ⟨_, HX.out, by show _ = if skipP (bl s) p < s.size then RR.bad 13 (skipP (bl s) p) else RR.ok (skipP (bl s) p) t; rw [← hk, if_neg hlt]⟩
      clear hez hk hem
      go_wp2_with fail
      refine HK2.out.mono ?_
      rintro e w4 ⟨rfl, hc4, hw4⟩
      have hg4 : w4.heap[g]? = some (.cells #[.int .i64 0, .int .i64 0] 43 (0, 0)) := (hw4.block g (Array.getElem?_eq_some_iff.1 H3.out.2.1).1 (by omega)).trans H3.out.2.1
      have H4 : Hid (Rx s k w W1 w4 ∧ Wt (w.heap.size + 1) w2 w4) := ⟨H3.out.1.next hc4 hw4, H3.out.2.2.trans hw4⟩
      clear hc4 hw4 x0 x1
      have x0 := cellb hg4 0 rfl
      have x1 := cellb hg4 1 rfl
      have g0 := cellb H4.out.1.bx 0 rfl
      have g1 := cellb H4.out.1.bx 1 rfl
      have gf : ∀ i, w4.frozen? ⟨w.heap.size, i, none⟩ = false := fun i => by simp [World.frozen?, H4.out.1.bx]
      clear hg4
      go_wp2_with fail
      go_region_with (fail)
      all_goals
        go_wp2
        refine bodyPost_ret (v := .tuple #[.iface T xx, fV 0 0]) (by simp [results, Tryz.results15, go_sem, g0, g1]; try rfl) rfl ?_
        first | exact ⟨_, HD.out, (H4.out.1.fin _ _).drew, _, _, rfl, Rx.tree (by omega) HT.out H4.out.2 _ _ rfl⟩ | exact ⟨_, HD.out, H4.out.1.drew.fin _ _, _, _, rfl, Rx.tree (by omega) HT.out H4.out.2.drew _ _ rfl⟩
end Go.Proofs.YtkelmhpoplbacaaGreatDoor.Cd
