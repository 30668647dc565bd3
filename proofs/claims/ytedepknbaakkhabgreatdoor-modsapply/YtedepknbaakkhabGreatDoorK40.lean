/-
  MA7 MA8 M24
-/
import Derived.Test.YtedepknbaakkhabGreatDoorK39
import Derived.Test.YtedepknbaakkhabGreatDoorK08
import Derived.Test.YtedepknbaakkhabGreatDoorK36
import Derived.Test.YtedepknbaakkhabGreatDoorK11
set_option maxRecDepth 20000
namespace Go.Proofs.YtedepknbaakkhabGreatDoor
open Go.RowKit Go.Shelf
open RxSem (LM Nd)
set_option maxHeartbeats 3200000 in
theorem rew_keep (base b r : Nat) (m : Md) (t : ByteArray) (k : List Nd) (v : Value) (made : List ByteArray) (done : Bool) (x : ByteArray) (w : World) (h : WkC base b r m t k v made false done w) (hs : sizeL made ≤ 65536) (hl : made.length ≤ 100000)
    (hk : 256 < x.size ∨ (done = true ∧ m.on = true)) :
    Calls Tryz.prog 33 #[.pointer (some ⟨b, 0, none⟩), .string x] w fun e w' => e = .returned (.tuple #[]) ∧ StpR base b r m t k v made (some (done, some x)) w w' := by
  have HK : Hid (Calls Tryz.prog 55 #[.pointer (some ⟨b, 0, none⟩), .string x] w fun e w' => e = .returned (.tuple #[]) ∧ StpR base b r m t k v made (some (done, some x)) w w') :=
    (keep_any base b m v made false done x w h.wk hs hl).mono fun e w' hh => ⟨hh.1, step_r (.refl _ _ _ _) h hh.2⟩
  obtain ⟨⟨r0, r1, r2, r3, r4, r6, r7, r8, r9⟩, ⟨r12, r13, r14, r15⟩, hfz⟩ := h.wk.cells
  clear h
  by_cases h256 : 256 < x.size
  · have hi : (256 : Int) < (x.size : Int) := by omega
    clear hk
    go_enter Tryz.func33, Tryz.ntmps33
    go_wp2_with fail
    refine HK.out.mono ?_
    rintro e w2 ⟨rfl, hst⟩
    have HS : Hid (StpR base b r m t k v made (some (done, some x)) w w2) := hst
    clear hst
    go_wp2
    refine bodyPost_ret (v := .tuple #[]) (by simp [results, Tryz.results33, go_sem]) rfl ⟨rfl, HS.out⟩
  · have hi : ¬ (256 : Int) < (x.size : Int) := by omega
    obtain ⟨rfl, hon⟩ := hk.resolve_left h256
    rw [hon] at r7
    clear hk hon
    go_enter Tryz.func33, Tryz.ntmps33
    go_wp2_with fail
    refine HK.out.mono ?_
    rintro e w2 ⟨rfl, hst⟩
    have HS : Hid (StpR base b r m t k v made (some (true, some x)) w w2) := hst
    clear hst
    go_wp2
    refine bodyPost_ret (v := .tuple #[]) (by simp [results, Tryz.results33, go_sem]) rfl ⟨rfl, HS.out⟩
noncomputable def rewN (m : Md) (k : List Nd) (mks ots : Nat) (x : ByteArray) : Int :=
  (x.size : Int) - (x.size - (putC m.al (bl x) [] k).length : Nat) + ((chosC m.al (bl x) k).length : Nat) * ots + (x.size - (putC m.al (bl x) [] k).length : Nat) * mks
theorem WkC.below {base b r : Nat} {m : Md} {t : ByteArray} {k : List Nd} {v : Value} {made : List ByteArray} {over done : Bool} {w w' : World} (h : WkC base b r m t k v made over done w) (hb : Below w.heap.size w w') : WkC base b r m t k v made over done w' := ⟨h.wk.below hb, h.rx.below hb⟩
set_option maxHeartbeats 4000000 in
theorem rew_go (base b r : Nat) (m : Md) (t : ByteArray) (k : List Nd) (mks ots : Nat) (v : Value) (made : List ByteArray) (done : Bool) (x : ByteArray) (w : World) (h : WkC base b r m t k v made false done w) (hex : m.ex = some ⟨r, 0, none⟩) (hb : m.b.size ≤ 1000) (hmk : m.mks = mks) (hot : m.ots = ots) (hmks : mks ≤ 3000) (hots : ots ≤ 3000) (hx : x.size ≤ 1000000) (hs : sizeL made ≤ 65536) (hl : made.length ≤ 100000)
    (hk : ¬ (256 < x.size ∨ (done = true ∧ m.on = true))) (hr0 : rewN m k mks ots x + sizeL made ≤ 65536) :
    Calls Tryz.prog 33 #[.pointer (some ⟨b, 0, none⟩), .string x] w fun e w' => e = .returned (.tuple #[]) ∧ StpR base b r m t k v made (some (decide (0 < (chosC m.al (bl x) k).length), some (ba (putC m.al (bl x) (bl m.b) k)))) w w' := by
  have h256 : x.size ≤ 256 := by omega
  have hi : ¬ (256 : Int) < (x.size : Int) := by omega
  have hdo : done = true → m.on = false := fun e => by
    have := fun e2 => hk (.inr ⟨e, e2⟩)
    simpa using this
  obtain ⟨al, hal⟩ : ∃ al, al = m.al := ⟨_, rfl⟩
  obtain ⟨R1, hR1⟩ : ∃ R1, R1 = ba (putC al (bl x) [] k) := ⟨_, rfl⟩
  obtain ⟨R2, hR2⟩ : ∃ R2, R2 = ba (putC al (bl x) [46] k) := ⟨_, rfl⟩
  obtain ⟨R3, hR3⟩ : ∃ R3, R3 = ba (putC al (bl x) (bl m.b) k) := ⟨_, rfl⟩
  obtain ⟨pl, hpl⟩ : ∃ pl, pl = (chosC al (bl x) k).length := ⟨_, rfl⟩
  have hlen1 : R1.size ≤ x.size := by
    have := putL_none (bl x) (chosC al (bl x) k) 0 (chosC_chain al (bl x) k)
    rw [hR1, ba_size, ← bl_length]; exact this
  have hlen2 : R2.size = R1.size + pl := by
    rw [hR2, hR1, ba_size, ba_size, hpl]; exact putL_dot (bl x) (chosC al (bl x) k) 0
  have hplb : pl ≤ 257 := by
    have := chosC_len al (bl x) k
    rw [bl_length] at this
    omega
  unfold rewN at hr0
  rw [← hal, ← hpl, show (putC al (bl x) [] k).length = R1.size by rw [hR1, ba_size]] at hr0
  rw [← hal, ← hR3, ← hpl]
  have HR1 : Hid (∀ W, X.Made r t k W → Calls Tryz.prog 62 #[.pointer (some ⟨r, 0, none⟩), .string x, .string E, .bool al] W fun e w' => e = .returned (.string R1) ∧ X.Made r t k w' ∧ X.Wrote r W w') := fun W hW => by
    rw [hR1]; exact replace_c r t x E k al W hW (by omega) (by decide)
  have HR2 : Hid (∀ W, X.Made r t k W → Calls Tryz.prog 62 #[.pointer (some ⟨r, 0, none⟩), .string x, .string ⟨#[46]⟩, .bool al] W fun e w' => e = .returned (.string R2) ∧ X.Made r t k w' ∧ X.Wrote r W w') := fun W hW => by
    rw [hR2]; exact replace_c r t x ⟨#[46]⟩ k al W hW (by omega) (by decide)
  obtain ⟨mb, hmb⟩ : ∃ mb, mb = m.b := ⟨_, rfl⟩
  have HR3 : Hid (∀ W, X.Made r t k W → Calls Tryz.prog 62 #[.pointer (some ⟨r, 0, none⟩), .string x, .string mb, .bool al] W fun e w' => e = .returned (.string R3) ∧ X.Made r t k w' ∧ X.Wrote r W w') := fun W hW => by
    rw [hR3, hmb]; exact replace_c r t x m.b k al W hW (by omega) hb
  have HCl : Hid (∀ W v made o d, Wk base b m v made o d W → W.cell? ⟨b, 5, none⟩ = some (.pointer (some ⟨r, 0, none⟩)) ∧ W.cell? ⟨b, 6, none⟩ = some (.bool al) ∧ W.cell? ⟨b, 2, none⟩ = some (.string mb)) := fun W v made o d hW => by
    have h5 : W.cell? ⟨b, 5, none⟩ = some (.pointer m.ex) := by simp only [World.cell?, hW.blk, wkV]; rfl
    rw [hex] at h5
    rw [hal, hmb]
    exact ⟨h5, hW.cells.1.2.2.2.2.2.1, hW.cells.1.2.2.1⟩
  obtain ⟨tk, htk⟩ : ∃ tk, tk = x.size - R1.size := ⟨_, rfl⟩
  rw [← htk] at hr0
  have htki : (x.size : Int) - (R1.size : Int) = (tk : Int) := by omega
  have hpli : (R2.size : Int) - (R1.size : Int) = (pl : Int) := by omega
  have htkb : tk ≤ 256 := by omega
  obtain ⟨LN, hLN⟩ : ∃ LN, LN = (x.size : Int) - (tk : Nat) + (pl : Nat) * ots + (tk : Nat) * mks := ⟨_, rfl⟩
  rw [← hLN] at hr0
  have HLe : Hid (∀ W d, WkC base b r m t k v made false d W → Calls Tryz.prog 59 #[.pointer (some ⟨b, 0, none⟩), .string x, .int .i64 pl, .int .i64 tk] W fun e w' => e = .returned (.int .i64 LN) ∧ Below W.heap.size W w') := fun W d hW => by
    have hc := hW.wk.cells.1
    have c8 := hc.2.2.2.2.2.2.2.1
    have c9 := hc.2.2.2.2.2.2.2.2
    rw [hmk] at c8
    rw [hot] at c9
    rw [hLN]; exact length_any b x mks ots pl tk W c8 c9 hx (by omega) (by omega) (by omega) (by omega)
  obtain ⟨dn, hdn⟩ : ∃ dn, dn = decide (0 < pl) := ⟨_, rfl⟩
  rw [← hdn]
  have HRo : Hid (∀ W, WkC base b r m t k v made false dn W → Calls Tryz.prog 58 #[.pointer (some ⟨b, 0, none⟩), .int .i64 LN] W fun e w' => e = .returned (.bool true) ∧ WkC base b r m t k v made false dn w' ∧ WentR r b v W w') := fun W hW => by
    have := room_any base b m v made false dn LN W hW.wk hs
    rw [decide_eq_true hr0] at this
    refine this.mono ?_
    rintro e w' ⟨rfl, h1, h2⟩
    exact ⟨rfl, ⟨h1, made_went hW h2⟩, .of_went h2⟩
  have HK : Hid (∀ W, WkC base b r m t k v made false dn W → WentR r b v w W → Calls Tryz.prog 55 #[.pointer (some ⟨b, 0, none⟩), .string R3] W fun e w' => e = .returned (.tuple #[]) ∧ StpR base b r m t k v made (some (dn, some R3)) w w' ∧ ∃ v' l o, Wk base b m v' l o dn w') := fun W hW hw0 =>
    (keep_any base b m v made false dn R3 W hW.wk hs hl).mono fun e w' hh => ⟨hh.1, step_r hw0 hW hh.2, by
      obtain ⟨⟨v', h1, _⟩, _⟩ := hh.2
      dsimp only at h1
      split at h1
      · exact ⟨v', _, _, h1⟩
      · exact ⟨v', _, _, h1⟩⟩
  have HSet : Hid (∀ W, WkC base b r m t k v made false done W → WkC base b r m t k v made false dn (W.setCell ⟨b, 15, none⟩ (.bool dn)) ∧ WentR r b v W (W.setCell ⟨b, 15, none⟩ (.bool dn))) := fun W hW =>
    ⟨⟨hW.wk.done' dn, made_went hW (Went.set b 15 v W _)⟩, .of_went (Went.set b 15 v W _)⟩
  have HW : Hid (WkC base b r m t k v made false done w) := h
  obtain ⟨⟨r0, r1, r2, r3, r4, r6, r7, r8, r9⟩, ⟨r12, r13, r14, r15⟩, hfz⟩ := h.wk.cells
  have hdni : decide ((0 : Int) < (pl : Int)) = dn := by rw [hdn]; simp
  have hdnn : decide (0 < pl) = dn := hdn.symm
  clear hlen2 h hk hR1 hR2 hR3 hpl hmb hex hal hLN hr0 htk hmk hot hdn
  cases done with
  | false =>
    go_enter Tryz.func33, Tryz.ntmps33
    go_wp2_with fail
    go_region_held3 (fun W => W.cell? ⟨b, 5, none⟩ = some (.pointer (some ⟨r, 0, none⟩)) ∧ W.cell? ⟨b, 6, none⟩ = some (.bool al)) (first | exact ⟨(HCl.out _ _ _ _ _ HW.out.wk).1, (HCl.out _ _ _ _ _ HW.out.wk).2.1⟩ | exact ⟨(HCl.out _ _ _ _ _ (HW.out.below (Below.refl _ _).drew).wk).1, (HCl.out _ _ _ _ _ (HW.out.below (Below.refl _ _).drew).wk).2.1⟩ | exact ⟨(HCl.out _ _ _ _ _ ((HW.out.below (Below.refl _ _).drew).wrote hm1 hw1).wk).1, (HCl.out _ _ _ _ _ ((HW.out.below (Below.refl _ _).drew).wrote hm1 hw1).wk).2.1⟩) (first | (go_at_call 62; refine (HR1.out _ (HW.out.below (Below.refl _ _).drew).rx).mono ?_; rintro e w1 ⟨rfl, hm1, hw1⟩))
    have HW1 : Hid (WkC base b r m t k v made false false w1 ∧ WentR r b v w w1) := ⟨(HW.out.below (Below.refl _ _).drew).wrote hm1 hw1, (WentR.of_went (Went.of_below (Below.refl _ _).drew)).same (.of_wrote hw1)⟩
    clear hm1 hw1
    go_wp2_with fail
    go_region_held3 (fun W => W.cell? ⟨b, 5, none⟩ = some (.pointer (some ⟨r, 0, none⟩)) ∧ W.cell? ⟨b, 6, none⟩ = some (.bool al)) (first | exact ⟨(HCl.out _ _ _ _ _ HW1.out.1.wk).1, (HCl.out _ _ _ _ _ HW1.out.1.wk).2.1⟩ | exact ⟨(HCl.out _ _ _ _ _ (HW1.out.1.below (Below.refl _ _).drew).wk).1, (HCl.out _ _ _ _ _ (HW1.out.1.below (Below.refl _ _).drew).wk).2.1⟩ | exact ⟨(HCl.out _ _ _ _ _ ((HW1.out.1.below (Below.refl _ _).drew).wrote hm2 hw2).wk).1, (HCl.out _ _ _ _ _ ((HW1.out.1.below (Below.refl _ _).drew).wrote hm2 hw2).wk).2.1⟩) (first | (go_at_call 62; refine (HR2.out _ (HW1.out.1.below (Below.refl _ _).drew).rx).mono ?_; rintro e w2 ⟨rfl, hm2, hw2⟩))
    have HW2 : Hid (WkC base b r m t k v made false false w2 ∧ WentR r b v w w2) := ⟨(HW1.out.1.below (Below.refl _ _).drew).wrote hm2 hw2, HW1.out.2.same ((WentR.of_went (Went.of_below (Below.refl _ _).drew)).same (.of_wrote hw2))⟩
    clear hm2 hw2 HW1
    obtain ⟨⟨c0, c1, c2, c3, c4, c6, c7, c8, c9⟩, ⟨c12, c13, c14, c15⟩, hfy⟩ := HW2.out.1.wk.cells
    go_wp2_with fail
    refine (HLe.out _ dn (HSet.out _ HW2.out.1).1).mono ?_
    rintro e w3 ⟨rfl, hb3⟩
    have HW3 : Hid (WkC base b r m t k v made false dn w3 ∧ WentR r b v w w3) := ⟨(HSet.out _ HW2.out.1).1.below hb3, (HW2.out.2.same (HSet.out _ HW2.out.1).2).same (.of_went (Went.of_below hb3))⟩
    clear hb3 HW2 c0 c1 c2 c3 c4 c6 c7 c8 c9 c12 c13 c14 c15 hfy
    go_wp2_with fail
    refine (HRo.out _ HW3.out.1).mono ?_
    rintro e w4 ⟨rfl, hk4, hg4⟩
    have HW4 : Hid (WkC base b r m t k v made false dn w4 ∧ WentR r b v w w4) := ⟨hk4, HW3.out.2.same hg4⟩
    clear hk4 hg4 HW3
    go_wp2_with fail
    go_region_held3 (fun W => W.cell? ⟨b, 5, none⟩ = some (.pointer (some ⟨r, 0, none⟩)) ∧ W.cell? ⟨b, 6, none⟩ = some (.bool al) ∧ W.cell? ⟨b, 2, none⟩ = some (.string mb)) (first | exact (HCl.out _ _ _ _ _ HW4.out.1.wk) | exact (HCl.out _ _ _ _ _ (HW4.out.1.below (Below.refl _ _).drew).wk) | exact (HCl.out _ _ _ _ _ ((HW4.out.1.below (Below.refl _ _).drew).wrote hm5 hw5).wk) | exact (HCl.out _ _ _ _ _ hk6)) (first | (go_at_call 62; refine (HR3.out _ (HW4.out.1.below (Below.refl _ _).drew).rx).mono ?_; rintro e w5 ⟨rfl, hm5, hw5⟩) | (go_at_call 55; refine (HK.out _ ((HW4.out.1.below (Below.refl _ _).drew).wrote hm5 hw5) (HW4.out.2.same ((WentR.of_went (Went.of_below (Below.refl _ _).drew)).same (.of_wrote hw5)))).mono ?_; rintro e w6 ⟨rfl, hst, v6, l6, o6, hk6⟩))
    have HS : Hid (StpR base b r m t k v made (some (dn, some R3)) w w6) := hst
    clear hst hk6 hm5 hw5
    go_wp2
    refine bodyPost_end (v := .tuple #[]) (by simp [results, Tryz.results33, go_sem]) rfl ⟨rfl, HS.out⟩
  | true =>
    rw [hdo rfl] at r7
    go_enter Tryz.func33, Tryz.ntmps33
    go_wp2_with fail
    go_region_held3 (fun W => W.cell? ⟨b, 5, none⟩ = some (.pointer (some ⟨r, 0, none⟩)) ∧ W.cell? ⟨b, 6, none⟩ = some (.bool al)) (first | exact ⟨(HCl.out _ _ _ _ _ HW.out.wk).1, (HCl.out _ _ _ _ _ HW.out.wk).2.1⟩ | exact ⟨(HCl.out _ _ _ _ _ (HW.out.below (Below.refl _ _).drew).wk).1, (HCl.out _ _ _ _ _ (HW.out.below (Below.refl _ _).drew).wk).2.1⟩ | exact ⟨(HCl.out _ _ _ _ _ ((HW.out.below (Below.refl _ _).drew).wrote hm1 hw1).wk).1, (HCl.out _ _ _ _ _ ((HW.out.below (Below.refl _ _).drew).wrote hm1 hw1).wk).2.1⟩) (first | (go_at_call 62; refine (HR1.out _ (HW.out.below (Below.refl _ _).drew).rx).mono ?_; rintro e w1 ⟨rfl, hm1, hw1⟩))
    have HW1 : Hid (WkC base b r m t k v made false true w1 ∧ WentR r b v w w1) := ⟨(HW.out.below (Below.refl _ _).drew).wrote hm1 hw1, (WentR.of_went (Went.of_below (Below.refl _ _).drew)).same (.of_wrote hw1)⟩
    clear hm1 hw1
    go_wp2_with fail
    go_region_held3 (fun W => W.cell? ⟨b, 5, none⟩ = some (.pointer (some ⟨r, 0, none⟩)) ∧ W.cell? ⟨b, 6, none⟩ = some (.bool al)) (first | exact ⟨(HCl.out _ _ _ _ _ HW1.out.1.wk).1, (HCl.out _ _ _ _ _ HW1.out.1.wk).2.1⟩ | exact ⟨(HCl.out _ _ _ _ _ (HW1.out.1.below (Below.refl _ _).drew).wk).1, (HCl.out _ _ _ _ _ (HW1.out.1.below (Below.refl _ _).drew).wk).2.1⟩ | exact ⟨(HCl.out _ _ _ _ _ ((HW1.out.1.below (Below.refl _ _).drew).wrote hm2 hw2).wk).1, (HCl.out _ _ _ _ _ ((HW1.out.1.below (Below.refl _ _).drew).wrote hm2 hw2).wk).2.1⟩) (first | (go_at_call 62; refine (HR2.out _ (HW1.out.1.below (Below.refl _ _).drew).rx).mono ?_; rintro e w2 ⟨rfl, hm2, hw2⟩))
    have HW2 : Hid (WkC base b r m t k v made false true w2 ∧ WentR r b v w w2) := ⟨(HW1.out.1.below (Below.refl _ _).drew).wrote hm2 hw2, HW1.out.2.same ((WentR.of_went (Went.of_below (Below.refl _ _).drew)).same (.of_wrote hw2))⟩
    clear hm2 hw2 HW1
    obtain ⟨⟨c0, c1, c2, c3, c4, c6, c7, c8, c9⟩, ⟨c12, c13, c14, c15⟩, hfy⟩ := HW2.out.1.wk.cells
    go_wp2_with fail
    refine (HLe.out _ dn (HSet.out _ HW2.out.1).1).mono ?_
    rintro e w3 ⟨rfl, hb3⟩
    have HW3 : Hid (WkC base b r m t k v made false dn w3 ∧ WentR r b v w w3) := ⟨(HSet.out _ HW2.out.1).1.below hb3, (HW2.out.2.same (HSet.out _ HW2.out.1).2).same (.of_went (Went.of_below hb3))⟩
    clear hb3 HW2 c0 c1 c2 c3 c4 c6 c7 c8 c9 c12 c13 c14 c15 hfy
    go_wp2_with fail
    refine (HRo.out _ HW3.out.1).mono ?_
    rintro e w4 ⟨rfl, hk4, hg4⟩
    have HW4 : Hid (WkC base b r m t k v made false dn w4 ∧ WentR r b v w w4) := ⟨hk4, HW3.out.2.same hg4⟩
    clear hk4 hg4 HW3
    go_wp2_with fail
    go_region_held3 (fun W => W.cell? ⟨b, 5, none⟩ = some (.pointer (some ⟨r, 0, none⟩)) ∧ W.cell? ⟨b, 6, none⟩ = some (.bool al) ∧ W.cell? ⟨b, 2, none⟩ = some (.string mb)) (first | exact (HCl.out _ _ _ _ _ HW4.out.1.wk) | exact (HCl.out _ _ _ _ _ (HW4.out.1.below (Below.refl _ _).drew).wk) | exact (HCl.out _ _ _ _ _ ((HW4.out.1.below (Below.refl _ _).drew).wrote hm5 hw5).wk) | exact (HCl.out _ _ _ _ _ hk6)) (first | (go_at_call 62; refine (HR3.out _ (HW4.out.1.below (Below.refl _ _).drew).rx).mono ?_; rintro e w5 ⟨rfl, hm5, hw5⟩) | (go_at_call 55; refine (HK.out _ ((HW4.out.1.below (Below.refl _ _).drew).wrote hm5 hw5) (HW4.out.2.same ((WentR.of_went (Went.of_below (Below.refl _ _).drew)).same (.of_wrote hw5)))).mono ?_; rintro e w6 ⟨rfl, hst, v6, l6, o6, hk6⟩))
    have HS : Hid (StpR base b r m t k v made (some (dn, some R3)) w w6) := hst
    clear hst hk6 hm5 hw5
    go_wp2
    refine bodyPost_end (v := .tuple #[]) (by simp [results, Tryz.results33, go_sem]) rfl ⟨rfl, HS.out⟩
set_option maxHeartbeats 4000000 in
theorem rew_over (base b r : Nat) (m : Md) (t : ByteArray) (k : List Nd) (mks ots : Nat) (v : Value) (made : List ByteArray) (done : Bool) (x : ByteArray) (w : World) (h : WkC base b r m t k v made false done w) (hex : m.ex = some ⟨r, 0, none⟩) (hmk : m.mks = mks) (hot : m.ots = ots) (hmks : mks ≤ 3000) (hots : ots ≤ 3000) (hx : x.size ≤ 1000000) (hs : sizeL made ≤ 65536)
    (hk : ¬ (256 < x.size ∨ (done = true ∧ m.on = true))) (hr0 : ¬ rewN m k mks ots x + sizeL made ≤ 65536) :
    Calls Tryz.prog 33 #[.pointer (some ⟨b, 0, none⟩), .string x] w fun e w' => e = .returned (.tuple #[]) ∧ StpR base b r m t k v made none w w' := by
  have h256 : x.size ≤ 256 := by omega
  have hi : ¬ (256 : Int) < (x.size : Int) := by omega
  have hdo : done = true → m.on = false := fun e => by
    have := fun e2 => hk (.inr ⟨e, e2⟩)
    simpa using this
  obtain ⟨al, hal⟩ : ∃ al, al = m.al := ⟨_, rfl⟩
  obtain ⟨R1, hR1⟩ : ∃ R1, R1 = ba (putC al (bl x) [] k) := ⟨_, rfl⟩
  obtain ⟨R2, hR2⟩ : ∃ R2, R2 = ba (putC al (bl x) [46] k) := ⟨_, rfl⟩
  obtain ⟨pl, hpl⟩ : ∃ pl, pl = (chosC al (bl x) k).length := ⟨_, rfl⟩
  have hlen1 : R1.size ≤ x.size := by
    have := putL_none (bl x) (chosC al (bl x) k) 0 (chosC_chain al (bl x) k)
    rw [hR1, ba_size, ← bl_length]; exact this
  have hlen2 : R2.size = R1.size + pl := by
    rw [hR2, hR1, ba_size, ba_size, hpl]; exact putL_dot (bl x) (chosC al (bl x) k) 0
  have hplb : pl ≤ 257 := by
    have := chosC_len al (bl x) k
    rw [bl_length] at this
    omega
  unfold rewN at hr0
  rw [← hal, ← hpl, show (putC al (bl x) [] k).length = R1.size by rw [hR1, ba_size]] at hr0
  have HR1 : Hid (∀ W, X.Made r t k W → Calls Tryz.prog 62 #[.pointer (some ⟨r, 0, none⟩), .string x, .string E, .bool al] W fun e w' => e = .returned (.string R1) ∧ X.Made r t k w' ∧ X.Wrote r W w') := fun W hW => by
    rw [hR1]; exact replace_c r t x E k al W hW (by omega) (by decide)
  have HR2 : Hid (∀ W, X.Made r t k W → Calls Tryz.prog 62 #[.pointer (some ⟨r, 0, none⟩), .string x, .string ⟨#[46]⟩, .bool al] W fun e w' => e = .returned (.string R2) ∧ X.Made r t k w' ∧ X.Wrote r W w') := fun W hW => by
    rw [hR2]; exact replace_c r t x ⟨#[46]⟩ k al W hW (by omega) (by decide)
  obtain ⟨mb, hmb⟩ : ∃ mb, mb = m.b := ⟨_, rfl⟩
  have HCl : Hid (∀ W v made o d, Wk base b m v made o d W → W.cell? ⟨b, 5, none⟩ = some (.pointer (some ⟨r, 0, none⟩)) ∧ W.cell? ⟨b, 6, none⟩ = some (.bool al) ∧ W.cell? ⟨b, 2, none⟩ = some (.string mb)) := fun W v made o d hW => by
    have h5 : W.cell? ⟨b, 5, none⟩ = some (.pointer m.ex) := by simp only [World.cell?, hW.blk, wkV]; rfl
    rw [hex] at h5
    rw [hal, hmb]
    exact ⟨h5, hW.cells.1.2.2.2.2.2.1, hW.cells.1.2.2.1⟩
  obtain ⟨tk, htk⟩ : ∃ tk, tk = x.size - R1.size := ⟨_, rfl⟩
  rw [← htk] at hr0
  have htki : (x.size : Int) - (R1.size : Int) = (tk : Int) := by omega
  have hpli : (R2.size : Int) - (R1.size : Int) = (pl : Int) := by omega
  have htkb : tk ≤ 256 := by omega
  obtain ⟨LN, hLN⟩ : ∃ LN, LN = (x.size : Int) - (tk : Nat) + (pl : Nat) * ots + (tk : Nat) * mks := ⟨_, rfl⟩
  rw [← hLN] at hr0
  have HLe : Hid (∀ W d, WkC base b r m t k v made false d W → Calls Tryz.prog 59 #[.pointer (some ⟨b, 0, none⟩), .string x, .int .i64 pl, .int .i64 tk] W fun e w' => e = .returned (.int .i64 LN) ∧ Below W.heap.size W w') := fun W d hW => by
    have hc := hW.wk.cells.1
    have c8 := hc.2.2.2.2.2.2.2.1
    have c9 := hc.2.2.2.2.2.2.2.2
    rw [hmk] at c8
    rw [hot] at c9
    rw [hLN]; exact length_any b x mks ots pl tk W c8 c9 hx (by omega) (by omega) (by omega) (by omega)
  obtain ⟨dn, hdn⟩ : ∃ dn, dn = decide (0 < pl) := ⟨_, rfl⟩
  have HRo : Hid (∀ W, WkC base b r m t k v made false dn W → Calls Tryz.prog 58 #[.pointer (some ⟨b, 0, none⟩), .int .i64 LN] W fun e w' => e = .returned (.bool false) ∧ WkC base b r m t k v made true dn w' ∧ WentR r b v W w') := fun W hW => by
    have := room_any base b m v made false dn LN W hW.wk hs
    rw [decide_eq_false hr0] at this
    refine this.mono ?_
    rintro e w' ⟨rfl, h1, h2⟩
    exact ⟨rfl, ⟨h1, made_went hW h2⟩, .of_went h2⟩
  have HSet : Hid (∀ W, WkC base b r m t k v made false done W → WkC base b r m t k v made false dn (W.setCell ⟨b, 15, none⟩ (.bool dn)) ∧ WentR r b v W (W.setCell ⟨b, 15, none⟩ (.bool dn))) := fun W hW =>
    ⟨⟨hW.wk.done' dn, made_went hW (Went.set b 15 v W _)⟩, .of_went (Went.set b 15 v W _)⟩
  have HW : Hid (WkC base b r m t k v made false done w) := h
  obtain ⟨⟨r0, r1, r2, r3, r4, r6, r7, r8, r9⟩, ⟨r12, r13, r14, r15⟩, hfz⟩ := h.wk.cells
  have hdni : decide ((0 : Int) < (pl : Int)) = dn := by rw [hdn]; simp
  have hdnn : decide (0 < pl) = dn := hdn.symm
  clear hlen2 h hk hR1 hR2 hpl hmb hex hal hLN hr0 htk hmk hot hdn
  cases done with
  | false =>
    go_enter Tryz.func33, Tryz.ntmps33
    go_wp2_with fail
    go_region_held3 (fun W => W.cell? ⟨b, 5, none⟩ = some (.pointer (some ⟨r, 0, none⟩)) ∧ W.cell? ⟨b, 6, none⟩ = some (.bool al)) (first | exact ⟨(HCl.out _ _ _ _ _ HW.out.wk).1, (HCl.out _ _ _ _ _ HW.out.wk).2.1⟩ | exact ⟨(HCl.out _ _ _ _ _ (HW.out.below (Below.refl _ _).drew).wk).1, (HCl.out _ _ _ _ _ (HW.out.below (Below.refl _ _).drew).wk).2.1⟩ | exact ⟨(HCl.out _ _ _ _ _ ((HW.out.below (Below.refl _ _).drew).wrote hm1 hw1).wk).1, (HCl.out _ _ _ _ _ ((HW.out.below (Below.refl _ _).drew).wrote hm1 hw1).wk).2.1⟩) (first | (go_at_call 62; refine (HR1.out _ (HW.out.below (Below.refl _ _).drew).rx).mono ?_; rintro e w1 ⟨rfl, hm1, hw1⟩))
    have HW1 : Hid (WkC base b r m t k v made false false w1 ∧ WentR r b v w w1) := ⟨(HW.out.below (Below.refl _ _).drew).wrote hm1 hw1, (WentR.of_went (Went.of_below (Below.refl _ _).drew)).same (.of_wrote hw1)⟩
    clear hm1 hw1
    go_wp2_with fail
    go_region_held3 (fun W => W.cell? ⟨b, 5, none⟩ = some (.pointer (some ⟨r, 0, none⟩)) ∧ W.cell? ⟨b, 6, none⟩ = some (.bool al)) (first | exact ⟨(HCl.out _ _ _ _ _ HW1.out.1.wk).1, (HCl.out _ _ _ _ _ HW1.out.1.wk).2.1⟩ | exact ⟨(HCl.out _ _ _ _ _ (HW1.out.1.below (Below.refl _ _).drew).wk).1, (HCl.out _ _ _ _ _ (HW1.out.1.below (Below.refl _ _).drew).wk).2.1⟩ | exact ⟨(HCl.out _ _ _ _ _ ((HW1.out.1.below (Below.refl _ _).drew).wrote hm2 hw2).wk).1, (HCl.out _ _ _ _ _ ((HW1.out.1.below (Below.refl _ _).drew).wrote hm2 hw2).wk).2.1⟩) (first | (go_at_call 62; refine (HR2.out _ (HW1.out.1.below (Below.refl _ _).drew).rx).mono ?_; rintro e w2 ⟨rfl, hm2, hw2⟩))
    have HW2 : Hid (WkC base b r m t k v made false false w2 ∧ WentR r b v w w2) := ⟨(HW1.out.1.below (Below.refl _ _).drew).wrote hm2 hw2, HW1.out.2.same ((WentR.of_went (Went.of_below (Below.refl _ _).drew)).same (.of_wrote hw2))⟩
    clear hm2 hw2 HW1
    obtain ⟨⟨c0, c1, c2, c3, c4, c6, c7, c8, c9⟩, ⟨c12, c13, c14, c15⟩, hfy⟩ := HW2.out.1.wk.cells
    go_wp2_with fail
    refine (HLe.out _ dn (HSet.out _ HW2.out.1).1).mono ?_
    rintro e w3 ⟨rfl, hb3⟩
    have HW3 : Hid (WkC base b r m t k v made false dn w3 ∧ WentR r b v w w3) := ⟨(HSet.out _ HW2.out.1).1.below hb3, (HW2.out.2.same (HSet.out _ HW2.out.1).2).same (.of_went (Went.of_below hb3))⟩
    clear hb3 HW2 c0 c1 c2 c3 c4 c6 c7 c8 c9 c12 c13 c14 c15 hfy
    go_wp2_with fail
    refine (HRo.out _ HW3.out.1).mono ?_
    rintro e w4 ⟨rfl, hk4, hg4⟩
    have HW4 : Hid (WkC base b r m t k v made true dn w4 ∧ WentR r b v w w4) := ⟨hk4, HW3.out.2.same hg4⟩
    clear hk4 hg4 HW3
    go_wp2
    refine bodyPost_end (v := .tuple #[]) (by simp [results, Tryz.results33, go_sem]) rfl ⟨rfl, HW4.out.2, HW4.out.1.rx, v, made, dn, HW4.out.1.wk⟩
  | true =>
    rw [hdo rfl] at r7
    go_enter Tryz.func33, Tryz.ntmps33
    go_wp2_with fail
    go_region_held3 (fun W => W.cell? ⟨b, 5, none⟩ = some (.pointer (some ⟨r, 0, none⟩)) ∧ W.cell? ⟨b, 6, none⟩ = some (.bool al)) (first | exact ⟨(HCl.out _ _ _ _ _ HW.out.wk).1, (HCl.out _ _ _ _ _ HW.out.wk).2.1⟩ | exact ⟨(HCl.out _ _ _ _ _ (HW.out.below (Below.refl _ _).drew).wk).1, (HCl.out _ _ _ _ _ (HW.out.below (Below.refl _ _).drew).wk).2.1⟩ | exact ⟨(HCl.out _ _ _ _ _ ((HW.out.below (Below.refl _ _).drew).wrote hm1 hw1).wk).1, (HCl.out _ _ _ _ _ ((HW.out.below (Below.refl _ _).drew).wrote hm1 hw1).wk).2.1⟩) (first | (go_at_call 62; refine (HR1.out _ (HW.out.below (Below.refl _ _).drew).rx).mono ?_; rintro e w1 ⟨rfl, hm1, hw1⟩))
    have HW1 : Hid (WkC base b r m t k v made false true w1 ∧ WentR r b v w w1) := ⟨(HW.out.below (Below.refl _ _).drew).wrote hm1 hw1, (WentR.of_went (Went.of_below (Below.refl _ _).drew)).same (.of_wrote hw1)⟩
    clear hm1 hw1
    go_wp2_with fail
    go_region_held3 (fun W => W.cell? ⟨b, 5, none⟩ = some (.pointer (some ⟨r, 0, none⟩)) ∧ W.cell? ⟨b, 6, none⟩ = some (.bool al)) (first | exact ⟨(HCl.out _ _ _ _ _ HW1.out.1.wk).1, (HCl.out _ _ _ _ _ HW1.out.1.wk).2.1⟩ | exact ⟨(HCl.out _ _ _ _ _ (HW1.out.1.below (Below.refl _ _).drew).wk).1, (HCl.out _ _ _ _ _ (HW1.out.1.below (Below.refl _ _).drew).wk).2.1⟩ | exact ⟨(HCl.out _ _ _ _ _ ((HW1.out.1.below (Below.refl _ _).drew).wrote hm2 hw2).wk).1, (HCl.out _ _ _ _ _ ((HW1.out.1.below (Below.refl _ _).drew).wrote hm2 hw2).wk).2.1⟩) (first | (go_at_call 62; refine (HR2.out _ (HW1.out.1.below (Below.refl _ _).drew).rx).mono ?_; rintro e w2 ⟨rfl, hm2, hw2⟩))
    have HW2 : Hid (WkC base b r m t k v made false true w2 ∧ WentR r b v w w2) := ⟨(HW1.out.1.below (Below.refl _ _).drew).wrote hm2 hw2, HW1.out.2.same ((WentR.of_went (Went.of_below (Below.refl _ _).drew)).same (.of_wrote hw2))⟩
    clear hm2 hw2 HW1
    obtain ⟨⟨c0, c1, c2, c3, c4, c6, c7, c8, c9⟩, ⟨c12, c13, c14, c15⟩, hfy⟩ := HW2.out.1.wk.cells
    go_wp2_with fail
    refine (HLe.out _ dn (HSet.out _ HW2.out.1).1).mono ?_
    rintro e w3 ⟨rfl, hb3⟩
    have HW3 : Hid (WkC base b r m t k v made false dn w3 ∧ WentR r b v w w3) := ⟨(HSet.out _ HW2.out.1).1.below hb3, (HW2.out.2.same (HSet.out _ HW2.out.1).2).same (.of_went (Went.of_below hb3))⟩
    clear hb3 HW2 c0 c1 c2 c3 c4 c6 c7 c8 c9 c12 c13 c14 c15 hfy
    go_wp2_with fail
    refine (HRo.out _ HW3.out.1).mono ?_
    rintro e w4 ⟨rfl, hk4, hg4⟩
    have HW4 : Hid (WkC base b r m t k v made true dn w4 ∧ WentR r b v w w4) := ⟨hk4, HW3.out.2.same hg4⟩
    clear hk4 hg4 HW3
    go_wp2
    refine bodyPost_end (v := .tuple #[]) (by simp [results, Tryz.results33, go_sem]) rfl ⟨rfl, HW4.out.2, HW4.out.1.rx, v, made, dn, HW4.out.1.wk⟩
open Classical in
noncomputable def actC (m : Md) (k : List Nd) (mks ots : Nat) : ActF := fun done x made =>
  if 256 < x.size ∨ (done = true ∧ m.on = true) then some (done, some x)
  else if rewN m k mks ots x + sizeL made ≤ 65536 then some (decide (0 < (chosC m.al (bl x) k).length), some (ba (putC m.al (bl x) (bl m.b) k))) else none
theorem does_c (base b r : Nat) (m : Md) (t : ByteArray) (k : List Nd) (mks ots : Nat) (v : Value) (made : List ByteArray) (done : Bool) (x : ByteArray) (w : World) (h : WkC base b r m t k v made false done w) (hex : m.ex = some ⟨r, 0, none⟩) (hb : m.b.size ≤ 1000) (hmk : m.mks = mks) (hot : m.ots = ots) (hmks : mks ≤ 3000) (hots : ots ≤ 3000) (hx : x.size ≤ 1000000) (hs : sizeL made ≤ 65536) (hl : made.length ≤ 100000) :
    Calls Tryz.prog 33 #[.pointer (some ⟨b, 0, none⟩), .string x] w fun e w' => e = .returned (.tuple #[]) ∧ StpR base b r m t k v made (actC m k mks ots done x made) w w' := by
  unfold actC
  by_cases hk : 256 < x.size ∨ (done = true ∧ m.on = true)
  · rw [if_pos hk]
    exact rew_keep base b r m t k v made done x w h hs hl hk
  · rw [if_neg hk]
    by_cases hr : rewN m k mks ots x + sizeL made ≤ 65536
    · rw [if_pos hr]
      exact rew_go base b r m t k mks ots v made done x w h hex hb hmk hot hmks hots hx hs hl hk hr
    · rw [if_neg hr]
      exact rew_over base b r m t k mks ots v made done x w h hex hmk hot hmks hots hx hs hk hr
end Go.Proofs.YtedepknbaakkhabGreatDoor
namespace Go.Proofs.YtedepknbaakkhabGreatDoor
open Go.RowKit Go.Shelf
open RxSem (LM Nd)
theorem StpR.next {base b r : Nat} {m : Md} {tx : ByteArray} {k : List Nd} {v : Value} {made : List ByteArray} {act : ActF} {done : Bool} {x : ByteArray} {t : List ByteArray} {w w' : World} (h : StpR base b r m tx k v made (act done x made) w w') (hs : sizeL made ≤ 65536) :
    WentR r b v w w' ∧ X.Made r tx k w' ∧ (((∃ v' l d, Wk base b m v' l true d w') ∧ foldA act made done (x :: t) = none) ∨ ∃ v' l d, Wk base b m v' l false d w' ∧ sizeL l ≤ 65536 ∧ l.length ≤ made.length + 1 ∧ foldA act made done (x :: t) = foldA act l d t) := by
  have hf : foldA act made done (x :: t) = match act done x made with
    | none => none
    | some (d, none) => foldA act made d t
    | some (d, some y) => if y.size + sizeL made ≤ 65536 then foldA act (made ++ [y]) d t else none := by
    rw [foldA]
    cases act done x made with
    | none => rfl
    | some q => obtain ⟨d, y⟩ := q; cases y <;> rfl
  obtain ⟨h1, h2, h3⟩ := h
  refine ⟨h1, h2, ?_⟩
  rw [hf]
  cases hr : act done x made with
  | none => rw [hr] at h3; exact .inl ⟨h3, rfl⟩
  | some q =>
    obtain ⟨d, y⟩ := q
    rw [hr] at h3
    obtain ⟨v', h4, _⟩ := h3
    cases y with
    | none => exact .inr ⟨v', made, d, h4, hs, Nat.le_succ _, rfl⟩
    | some y =>
      dsimp only at h4 ⊢
      split at h4
      · rename_i hle
        exact .inr ⟨v', made ++ [y], d, h4, by rw [sizeL_snoc]; omega, by simp, if_pos hle⟩
      · rename_i hle
        exact .inl ⟨⟨v', made, d, h4⟩, if_neg hle⟩
def ApC (q : Option (List ByteArray)) (r : Nat) (t : ByteArray) (k : List Nd) (w : World) (e : Ending) (w' : World) : Prop := X.Wrote r w w' ∧ X.Made r t k w' ∧ match q with
  | none => ∃ v', e = .returned (.tuple #[v', .bool false])
  | some l => ∃ v', e = .returned (.tuple #[v', .bool true]) ∧ w'.ownsRow w.heap.size 9 1 v' l.length (l.map Value.string)
theorem OwnW.wrote {base r : Nat} {W W' : World} {v : Value} {l : List ByteArray} (h : OwnW base W v l) (hw : X.Wrote r W W') {cs : Array Value} (hr : W.heap[r]? = some (.cells cs 113 (0, 0))) : OwnW base W' v l := by
  rcases h with h | ⟨g, o, c, cur, h1, hg, hcur, rest⟩
  · exact .inl h
  · refine .inr ⟨g, o, c, cur, h1, hg, (hw.block g (Array.getElem?_eq_some_iff.1 hcur).1 (fun e => ?_)).trans hcur, rest⟩
    rw [e, hr] at hcur
    simp at hcur
set_option maxHeartbeats 3200000 in
theorem apply_c (m : Md) (r : Nat) (t : ByteArray) (k : List Nd) (act : ActF) (hf : (m.kind, 33) ∈ fnL)
    (hd : ∀ base b v made done x W, WkC base b r m t k v made false done W → x.size ≤ 1000000 → sizeL made ≤ 65536 → made.length ≤ 100000 → Calls Tryz.prog 33 #[.pointer (some ⟨b, 0, none⟩), .string x] W fun e w' => e = .returned (.tuple #[]) ∧ StpR base b r m t k v made (act done x made) W w')
    (base : Nat) (a : Option Addr) (n c : Nat) (l : List ByteArray) (w : World) (hw : OwnW base w (.slice a n c) l) (hn : n ≤ 10000) (hl : ∀ y ∈ l, y.size ≤ 1000000) (hmd : X.Made r t k w) :
    Calls Tryz.prog 13 #[.agg m.cells, .slice a n c] w fun e w' => ApC (foldA act [] false l) r t k w e w' := by
  have hnl := hw.words.len
  have HW : Hid (∀ W, X.Wrote r w W → Words W.heap.size W (.slice a n c) l) := fun W hB => by
    obtain ⟨cs, hc⟩ := hmd.cells
    exact (hw.wrote hB hc).words
  have HL : Hid (n = l.length ∧ ∀ y ∈ l, y.size ≤ 1000000) := ⟨hnl, hl⟩
  have HMd : Hid (X.Made r t k w) := hmd
  have HDo : Hid (∀ base b v made done x W, WkC base b r m t k v made false done W → x.size ≤ 1000000 → sizeL made ≤ 65536 → made.length ≤ 100000 → Calls Tryz.prog 33 #[.pointer (some ⟨b, 0, none⟩), .string x] W fun e w' => e = .returned (.tuple #[]) ∧ StpR base b r m t k v made (act done x made) W w') := hd
  obtain ⟨R, hR⟩ : ∃ R, R = foldA act [] false l := ⟨_, rfl⟩
  rw [← hR]
  have HR : Hid (R = foldA act [] false l) := hR
  have HT : Hid (∀ W : World, W.cell? ⟨w.heap.size + 1, 0, none⟩ = some (.string m.kind) → Calls Tryz.prog 20 #[.pointer (some ⟨w.heap.size + 1, 0, none⟩)] W fun e w' => e = .returned (.func (Fn.func 33) #[.pointer (some ⟨w.heap.size + 1, 0, none⟩)] #[]) ∧ W = w') := fun W hW => toWord_fn _ _ _ hf W hW
  clear hnl hw hl hmd hd hR hf
  have hneq := fn_neq
  unfold Md.cells
  go_enter Tryz.func13, Tryz.ntmps13
  go_wp2_with fail
  refine (HT.out _ (by rw [World.cell?, heap_alloc_new']; rfl)).mono ?_
  rintro e w' ⟨rfl, rfl⟩
  have HA : Hid (WkC (w.heap.size + 2) (w.heap.size + 1) r m t k (.slice none 0 0) [] false false ((w.alloc (.cells (mdV m.kind m.a m.b m.bg m.en m.ex m.al m.on m.mks m.ots m.frm m.upto) 37)).alloc (.cells (wkV m (.slice none 0 0) 0 false false) 51)) ∧ X.Wrote r w ((w.alloc (.cells (mdV m.kind m.a m.b m.bg m.en m.ex m.al m.on m.mks m.ots m.frm m.upto) 37)).alloc (.cells (wkV m (.slice none 0 0) 0 false false) 51))) := by
    have hB := ((Below.refl _ w).alloc (Nat.le_refl _) (.cells (mdV m.kind m.a m.b m.bg m.en m.ex m.al m.on m.mks m.ots m.frm m.upto) 37)).alloc (by simp) (.cells (wkV m (.slice none 0 0) 0 false false) 51)
    exact ⟨⟨⟨heap_alloc_new', World.ownsRow_nil _ _ _ _, by simp [Value.ownBlock], by simp⟩, HMd.out.below hB⟩, ⟨hB.os, hB.tape, hB.output, hB.size, fun j hj _ => hB.block j hj⟩⟩
  go_wp2
  go_loopw [18] (fun vi wr => ∃ (k0 : Nat) (v : Value) (made : List ByteArray) (done : Bool), k0 ≤ n ∧ vi = .int .i64 k0 ∧ made.length ≤ k0 ∧ sizeL made ≤ 65536 ∧ Hid (R = foldA act made done (l.drop k0)) ∧ Hid (WkC (w.heap.size + 2) (w.heap.size + 1) r m t k v made false done wr) ∧ Hid (X.Wrote r w wr)) (fun vi _ => n - (intOf vi).toNat)
  case atStart => exact ⟨0, .slice none 0 0, [], false, Nat.zero_le _, rfl, Nat.le_refl _, Nat.zero_le _, HR, HA.out.1, HA.out.2⟩
  case round =>
    obtain ⟨k0, v, made, done, hk, rfl, hmk, hsz, HRk, HWk, HB⟩ := hrel
    by_cases hlt : k0 < n
    · have hil : (k0 : Int) < (n : Int) := by omega
      have hkl : k0 < l.length := by rw [← HL.out.1]; exact hlt
      obtain ⟨b0, o0, ha, hb0, e1⟩ := (HW.out _ HB.out).pick k0 hkl
      subst ha
      obtain ⟨x, hx⟩ : ∃ x, x = l[k0] := ⟨_, rfl⟩
      rw [← hx] at e1
      have HX : Hid (l.drop k0 = x :: l.drop (k0 + 1) ∧ x.size ≤ 1000000) := ⟨by rw [hx]; exact List.drop_eq_getElem_cons hkl, by rw [hx]; exact HL.out.2 _ (List.getElem_mem _)⟩
      clear hx hkl
      have HC : Hid (Calls Tryz.prog 33 #[.pointer (some ⟨w.heap.size + 1, 0, none⟩), .string x] wr fun e w' => e = .returned (.tuple #[]) ∧ StpR (w.heap.size + 2) (w.heap.size + 1) r m t k v made (act done x made) wr w') := HDo.out _ _ v made done x wr HWk.out HX.out.2 hsz (by omega)
      go_wp2_with fail
      refine HC.out.mono ?_
      rintro e w2 ⟨rfl, hst⟩
      obtain ⟨hg, hmd, hor⟩ := hst.next (t := l.drop (k0 + 1)) hsz
      have HB2 : Hid (X.Wrote r w w2) := ⟨hg.os.trans HB.out.os, hg.tape.trans HB.out.tape, hg.output.trans HB.out.output, Nat.le_trans HB.out.size hg.size, fun j hj hr => (hg.block j (Nat.lt_of_lt_of_le hj HB.out.size) (by omega) (fun e => by have := (HWk.out.wk.row.lt j e).1; omega) hr).trans (HB.out.block j hj hr)⟩
      have HMd2 : Hid (X.Made r t k w2) := hmd
      clear hst hg hmd
      rcases hor with ⟨⟨v2, l2, d2, hk2⟩, hnone⟩ | ⟨v2, l2, d2, hk2, hs2, hl2, hsome⟩
      · obtain ⟨_, ⟨r12, r13, r14, r15⟩, hfz⟩ := hk2.cells
        have HRN : Hid (R = none) := by unfold Hid; rw [HRk.out, HX.out.1]; exact hnone
        clear hk2 hnone
        go_wp2
        go_ret2
        refine ⟨HB2.out, HMd2.out, ?_⟩
        rw [HRN.out]; exact ⟨_, rfl⟩
      · obtain ⟨_, ⟨r12, r13, r14, r15⟩, hfz⟩ := hk2.cells
        have HK2 : Hid (WkC (w.heap.size + 2) (w.heap.size + 1) r m t k v2 l2 false d2 w2) := ⟨hk2, HMd2.out⟩
        have HR2 : Hid (R = foldA act l2 d2 (l.drop (k0 + 1))) := by unfold Hid; rw [HRk.out, HX.out.1]; exact hsome
        clear hk2 hsome
        go_wp2
        go_roundw
        case rel => exact ⟨k0 + 1, v2, l2, d2, by omega, by go_num, by omega, hs2, HR2, HK2, HB2⟩
        case measure => simp [intOf]; omega
    · obtain rfl : k0 = n := by omega
      have hil : ¬ (k0 : Int) < (k0 : Int) := by omega
      obtain ⟨_, ⟨r12, r13, r14, r15⟩, hfz⟩ := HWk.out.wk.cells
      have HRS : Hid (R = some made) := by unfold Hid; rw [HRk.out, HL.out.1, List.drop_length]; rfl
      have HO : Hid (wr.ownsRow w.heap.size 9 1 v made.length (made.map Value.string)) := owns_base HWk.out.wk.row (by omega)
      obtain ⟨av, cv, hvv⟩ := owns_slice HWk.out.wk.row
      subst hvv
      go_wp2
      go_ret2
      refine ⟨HB.out, HWk.out.rx, ?_⟩
      rw [HRS.out]
      exact ⟨_, rfl, HO.out⟩
theorem appliesU_c (md : Md) (t : ByteArray) (k : List Nd) (mks ots : Nat) (hk : md.kind = ⟨#[67]⟩) (hb : md.b.size ≤ 1000) (hmk : md.mks = mks) (hot : md.ots = ots) (hmks : mks ≤ 3000) (hots : ots ≤ 3000) : AppliesU { md := md, rx := some (t, k) } (foldA (actC md k mks ots) [] false) := by
  refine ⟨fun l r hf hr => ?_, fun base v l w m lo ho hf hm hb0 hbs hfit => ?_⟩
  · have := foldA_few (actC md k mks ots) l [] false r hr (Nat.zero_le _)
    simp only [List.length_nil, Nat.zero_add] at this
    exact ⟨by have := hf.1; omega, this.1⟩
  · obtain ⟨r, h1, rfl, h3⟩ := hfit
    obtain ⟨a, c, rfl⟩ := ho.slice
    refine (apply_c { md with ex := some ⟨r, 0, none⟩ } r t k (actC md k mks ots) (by show (md.kind, _) ∈ fnL; rw [hk]; simp [fnL]) (fun base b v made done x W g1 g2 g3 g4 => does_c base b r _ t k mks ots v made done x W g1 rfl hb hmk hot hmks hots g2 g3 g4) base a l.length c l w ho (by have := hf.1; omega) (fun y hy => by have := size_mem hy; have := hf.2; omega) h3).mono ?_
    rintro e w' ⟨g1, g2, g3⟩
    refine ⟨.of_wrote g1 (.inr rfl), ⟨r, h1, rfl, g2⟩, ?_⟩
    cases hr : foldA (actC md k mks ots) [] false l with
    | none => rw [hr] at g3; exact g3
    | some q =>
      rw [hr] at g3
      obtain ⟨v', e1, e2⟩ := g3
      exact ⟨v', e1, (OwnW.of_owns e2).base hbs⟩
end Go.Proofs.YtedepknbaakkhabGreatDoor
namespace Go.Proofs.YtedepknbaakkhabGreatDoor
open Go.RowKit Go.Shelf Go.Sort
section
variable {α : Type} [Inhabited α] [DecidableEq α]
end
theorem map_bl_ba (l : List ByteArray) : (l.map bl).map ba = l := by
  rw [List.map_map]
  conv => rhs; rw [← List.map_id l]
  exact List.map_congr_left fun x _ => ba_bl x
theorem sortedL_perm (l : List ByteArray) : (sortedL l).Perm l := by
  have h := (List.mergeSort_perm (l.map bl) (fun x y => decide (x ≤ y))).map ba
  rw [map_bl_ba] at h
  exact h
theorem sizeL_perm {l l' : List ByteArray} (h : l.Perm l') : sizeL l = sizeL l' := (h.map ByteArray.size).sum_nat
theorem few_sorted (l : List ByteArray) (h : Few l) : Few (sortedL l) := ⟨by rw [sorted_length]; exact h.1, by rw [sizeL_perm (sortedL_perm l)]; exact h.2⟩
theorem few_rev (l : List ByteArray) (h : Few l) : Few l.reverse := ⟨by rw [List.length_reverse]; exact h.1, by rw [sizeL_perm (List.reverse_perm l)]; exact h.2⟩
theorem sum_sub {l l' : List Nat} (h : l.Sublist l') : l.sum ≤ l'.sum := by
  induction h with
  | slnil => exact Nat.le_refl _
  | cons a _ ih => simp only [List.sum_cons]; omega
  | cons_cons a _ ih => simp only [List.sum_cons]; omega
theorem compact_sub (zs : List (List UInt8)) : (Lib.compact zs).Sublist zs := by
  unfold Lib.compact Lib.compactUpTo
  have h := (List.filter_sublist (l := List.range zs.length) (p := Lib.keeps zs.toArray)).map (zs.toArray[·]!)
  have e := Lib.range_map_get zs.toArray
  simp only [List.size_toArray] at e
  rw [e] at h
  exact h
theorem few_compact (l : List ByteArray) (h : Few l) : Few (compactL l) := by
  have hs : (compactL l).Sublist l := by
    have := (compact_sub (l.map bl)).map ba
    rw [map_bl_ba] at this
    exact this
  exact ⟨Nat.le_trans hs.length_le h.1, Nat.le_trans (sum_sub (hs.map ByteArray.size)) h.2⟩
end Go.Proofs.YtedepknbaakkhabGreatDoor
