/-
  PEnter
-/
import Derived.Test.YtedepknbaakkhabGreatDoorK22
set_option maxRecDepth 20000
namespace Go.Proofs.YtedepknbaakkhabGreatDoor.X
open Go.RowKit Go.Shelf RxSem
def EnterPost (base b gs gn capS capN : Nat) (L : List SV) (t : ByteArray) (p e : Nat) (sp : Value) (at' : Nat) (tv : Value) (st : St) (w : World) (x : Ending) (w' : World) : Prop :=
  x = .returned (.tuple #[]) ∧ ∃ st' tv', Ent (L.map SV.abs) (bl t) p e at' st st' ∧ Wk base b gs gn capS capN L t p tv' sp st' w' ∧ Turn b gn tv tv' w w'
theorem Wk.drewN {base b gs gn capS capN : Nat} {L : List SV} {t : ByteArray} {p : Nat} {tv sp : Value} {st : St} {w : World} (h : Wk base b gs gn capS capN L t p tv sp st w) (n : Nat) : Wk base b gs gn capS capN L t p tv sp st (w.drewN n) := ⟨h.blk, h.stp, h.sn, h.len, h.row, h.oks, h.few, h.base, h.small⟩
set_option maxHeartbeats 400000 in
theorem enter_seen {base b gs gn capS capN : Nat} {L : List SV} {t : ByteArray} {p e : Nat} {tv sp : Value} {st : St} (w : World) (h : Wk base b gs gn capS capN L t p tv sp st w) (i : Nat) (hi : i < L.length) (hs : sees p st i) : Calls Tryz.prog 182 #[.pointer (some ⟨b, 0, none⟩), .int .i64 (i : Int), .int .i64 (e : Int)] w (EnterPost base b gs gn capS capN L t p e sp i tv st w) := by
  have c2 : w.cell? ⟨b, 2, none⟩ = some (.int .i64 (p : Int)) := h.cb 2
  have c3 : w.cell? ⟨b, 3, none⟩ = some (.slice (some ⟨gn, 0, none⟩) L.length capN) := h.cb 3
  have cn : w.cell? ⟨gn, i, none⟩ = some (.int .i64 (p : Int)) := by
    have hl := h.len
    rw [h.cn i (by omega)]
    unfold sees at hs
    rw [List.getElem?_eq_getElem (by omega)] at hs
    rw [Option.some.inj hs]
  have hb := h.lt
  obtain ⟨n, hn⟩ : ∃ n, n = L.length := ⟨_, rfl⟩
  rw [← hn] at c3
  have hi2 : (i : Int) < (n : Int) := by omega
  have HW : Hid (Wk base b gs gn capS capN L t p tv sp st w ∧ sees p st i) := ⟨h, hs⟩
  clear h hs hn
  go_enter Tryz.func182, Tryz.ntmps182
  go_wp2_with fail
  go_quiet (fail)
  go_wp2_with fail
  go_end0
  exact ⟨rfl, st, tv, .seen HW.out.2, HW.out.1.drewN _, (Turn.refl _ _ _ _).drewN _⟩
theorem abs_at {L : List SV} {i : Nat} (hi : i < L.length) : (L.map SV.abs)[i]? = some L[i].abs := by simp [hi]
theorem unseen_mark {p i : Nat} {st : St} (hi : i < st.sn.length) (hs : ¬ sees p st i) : unseen p (RxSem.mark p i st).sn < unseen p st.sn := by
  have := unseen_set (p := p) hi hs
  unfold RxSem.mark; dsimp only; omega
set_option maxHeartbeats 800000 in
theorem enter_done {base b gs gn capS capN : Nat} {L : List SV} {t : ByteArray} {p e : Nat} {tv sp : Value} {st : St} (w : World) (h : Wk base b gs gn capS capN L t p tv sp st w) (i : Nat) (hi : i < L.length) (hs : ¬ sees p st i) (hk : L[i].k = 4) : Calls Tryz.prog 182 #[.pointer (some ⟨b, 0, none⟩), .int .i64 (i : Int), .int .i64 (e : Int)] w (EnterPost base b gs gn capS capN L t p e sp i tv st w) := by
  have hl := h.len
  have hil : i < st.sn.length := by rw [h.len]; exact hi
  obtain ⟨y, hy⟩ : ∃ y, y = st.sn[i]'hil := ⟨_, rfl⟩
  have c0 : w.cell? ⟨b, 0, none⟩ = some (.slice (some ⟨gs, 0, none⟩) L.length capS) := h.cb 0
  have c2 : w.cell? ⟨b, 2, none⟩ = some (.int .i64 (p : Int)) := h.cb 2
  have c3 : w.cell? ⟨b, 3, none⟩ = some (.slice (some ⟨gn, 0, none⟩) L.length capN) := h.cb 3
  have cn : w.cell? ⟨gn, i, none⟩ = some (.int .i64 y) := by rw [hy]; exact h.cn i hil
  have hyp : ¬ y = (p : Int) := fun e => hs (by unfold sees; rw [List.getElem?_eq_getElem hil, ← hy, e])
  have fn := h.fn
  have hb := h.lt
  have hbn := h.bn
  have hfew := h.few
  have hM : ∀ k, Wk base b gs gn capS capN L t p tv sp (RxSem.mark p i st) ((w.drewN k).setCell ⟨gn, i, none⟩ (.int .i64 (p : Int))) := fun k => (h.drewN k).mark i hil hs
  obtain ⟨n, hn⟩ : ∃ n, n = L.length := ⟨_, rfl⟩
  have HK : Hid (L[i].k = 4 ∧ n = L.length ∧ ¬ sees p st i ∧ L[i].Ok) := ⟨hk, hn, hs, h.oks _ (List.getElem_mem _)⟩
  rw [← hn] at c3 c0 hfew
  have hi2 : (i : Int) < (n : Int) := by omega
  have HM : Hid (∀ k, Wk base b gs gn capS capN L t p tv sp (RxSem.mark p i st) ((w.drewN k).setCell ⟨gn, i, none⟩ (.int .i64 (p : Int)))) := hM
  clear h hs hn hy hl hM hk hil
  go_enter Tryz.func182, Tryz.ntmps182
  go_wp2_with fail
  go_quiet (fail)
  go_wp2_with fail
  go_region_with (fail)
  all_goals
    obtain ⟨w1, hw1⟩ : ∃ w1, w1 = (w.drewN (nq + 1)).setCell ⟨gn, i, none⟩ (.int .i64 (p : Int)) := ⟨_, rfl⟩
    rw [← hw1]
    have HM1 : Hid (Wk base b gs gn capS capN L t p tv sp (RxSem.mark p i st) w1 ∧ Turn b gn tv tv w w1) := by
      rw [hw1]
      exact ⟨HM.out _, ((Turn.refl _ _ _ _).drewN _).trans (Turn.only_m (Only.set gn i (w.drewN (nq + 1)) _))⟩
    clear hw1
    have d0 : w1.cell? ⟨b, 0, none⟩ = some (.slice (some ⟨gs, 0, none⟩) n capS) := by rw [HK.out.2.1]; exact HM1.out.1.cb 0
    have k0 : w1.cell? ⟨gs, i * 7, none⟩ = some (.int .i64 4) := by
      have := HM1.out.1.cs i hi 0 (by omega)
      rw [Nat.add_zero, Nat.mul_comm] at this
      rw [this]; simp [stepC, HK.out.1]
    have fb := HM1.out.1.fb
    have d1 : w1.cell? ⟨b, 1, none⟩ = some (.string t) := HM1.out.1.cb 1
    have d2 : w1.cell? ⟨b, 2, none⟩ = some (.int .i64 (p : Int)) := HM1.out.1.cb 2
    have d4 : w1.cell? ⟨b, 4, none⟩ = some tv := HM1.out.1.cb 4
    have d6 : w1.cell? ⟨b, 6, none⟩ = some (.int .i64 st.lo) := HM1.out.1.cb 6
    clear c0 c2 c3 cn fn
    go_wp2_with fail
    go_end0
    exact ⟨rfl, _, tv, .done HK.out.2.2.1 (by rw [abs_at hi]; simp [SV.abs, HK.out.1]), HM1.out.1.told (e : Int), HM1.out.2.trans (Turn.only_b (Only.set _ _ _ _))⟩
set_option maxHeartbeats 800000 in
theorem enter_first {base b gs gn capS capN : Nat} {L : List SV} {t : ByteArray} {p e : Nat} {tv sp : Value} {st : St} (w : World) (h : Wk base b gs gn capS capN L t p tv sp st w) (i : Nat) (hi : i < L.length) (hs : ¬ sees p st i) (hk : L[i].k = 1) (ih : ∀ (j : Nat) (st2 : St) (tv2 : Value) (w2 : World), j < L.length → unseen p st2.sn < unseen p st.sn → Wk base b gs gn capS capN L t p tv2 sp st2 w2 → Calls Tryz.prog 182 #[.pointer (some ⟨b, 0, none⟩), .int .i64 (j : Int), .int .i64 (e : Int)] w2 (EnterPost base b gs gn capS capN L t p e sp j tv2 st2 w2)) (hp : p = 0) (hi1 : i + 1 < L.length) : Calls Tryz.prog 182 #[.pointer (some ⟨b, 0, none⟩), .int .i64 (i : Int), .int .i64 (e : Int)] w (EnterPost base b gs gn capS capN L t p e sp i tv st w) := by
  have hl := h.len
  have hil : i < st.sn.length := by rw [h.len]; exact hi
  obtain ⟨y, hy⟩ : ∃ y, y = st.sn[i]'hil := ⟨_, rfl⟩
  have c0 : w.cell? ⟨b, 0, none⟩ = some (.slice (some ⟨gs, 0, none⟩) L.length capS) := h.cb 0
  have c2 : w.cell? ⟨b, 2, none⟩ = some (.int .i64 (p : Int)) := h.cb 2
  have c3 : w.cell? ⟨b, 3, none⟩ = some (.slice (some ⟨gn, 0, none⟩) L.length capN) := h.cb 3
  have cn : w.cell? ⟨gn, i, none⟩ = some (.int .i64 y) := by rw [hy]; exact h.cn i hil
  have hyp : ¬ y = (p : Int) := fun e => hs (by unfold sees; rw [List.getElem?_eq_getElem hil, ← hy, e])
  have fn := h.fn
  have hb := h.lt
  have hbn := h.bn
  have hfew := h.few
  have hM : ∀ k, Wk base b gs gn capS capN L t p tv sp (RxSem.mark p i st) ((w.drewN k).setCell ⟨gn, i, none⟩ (.int .i64 (p : Int))) := fun k => (h.drewN k).mark i hil hs
  obtain ⟨n, hn⟩ : ∃ n, n = L.length := ⟨_, rfl⟩
  have HK : Hid (L[i].k = 1 ∧ n = L.length ∧ ¬ sees p st i ∧ L[i].Ok) := ⟨hk, hn, hs, h.oks _ (List.getElem_mem _)⟩
  rw [← hn] at c3 c0 hfew
  have hi2 : (i : Int) < (n : Int) := by omega
  have HM : Hid (∀ k, Wk base b gs gn capS capN L t p tv sp (RxSem.mark p i st) ((w.drewN k).setCell ⟨gn, i, none⟩ (.int .i64 (p : Int)))) := hM
  have HI : Hid (∀ w2, Wk base b gs gn capS capN L t p tv sp (RxSem.mark p i st) w2 → Calls Tryz.prog 182 #[.pointer (some ⟨b, 0, none⟩), .int .i64 ((i : Int) + 1), .int .i64 (e : Int)] w2 (EnterPost base b gs gn capS capN L t p e sp (i + 1) tv (RxSem.mark p i st) w2)) := fun w2 hw2 => ih _ _ _ _ hi1 (unseen_mark hil hs) hw2
  have HP : Hid (p = 0) := hp
  clear ih hp
  clear h hs hn hy hl hM hk hil
  go_enter Tryz.func182, Tryz.ntmps182
  go_wp2_with fail
  go_quiet (fail)
  go_wp2_with fail
  go_region_with (fail)
  all_goals
    obtain ⟨w1, hw1⟩ : ∃ w1, w1 = (w.drewN (nq + 1)).setCell ⟨gn, i, none⟩ (.int .i64 (p : Int)) := ⟨_, rfl⟩
    rw [← hw1]
    have HM1 : Hid (Wk base b gs gn capS capN L t p tv sp (RxSem.mark p i st) w1 ∧ Turn b gn tv tv w w1) := by
      rw [hw1]
      exact ⟨HM.out _, ((Turn.refl _ _ _ _).drewN _).trans (Turn.only_m (Only.set gn i (w.drewN (nq + 1)) _))⟩
    clear hw1
    have d0 : w1.cell? ⟨b, 0, none⟩ = some (.slice (some ⟨gs, 0, none⟩) n capS) := by rw [HK.out.2.1]; exact HM1.out.1.cb 0
    have k0 : w1.cell? ⟨gs, i * 7, none⟩ = some (.int .i64 1) := by
      have := HM1.out.1.cs i hi 0 (by omega)
      rw [Nat.add_zero, Nat.mul_comm] at this
      rw [this]; simp [stepC, HK.out.1]
    have fb := HM1.out.1.fb
    have d1 : w1.cell? ⟨b, 1, none⟩ = some (.string t) := HM1.out.1.cb 1
    have d2 : w1.cell? ⟨b, 2, none⟩ = some (.int .i64 (p : Int)) := HM1.out.1.cb 2
    have d4 : w1.cell? ⟨b, 4, none⟩ = some tv := HM1.out.1.cb 4
    have d6 : w1.cell? ⟨b, 6, none⟩ = some (.int .i64 st.lo) := HM1.out.1.cb 6
    clear c0 c2 c3 cn fn
    have hp2 : (p : Int) = 0 := by have := HP.out; omega
    go_wp2_with fail
    refine (HI.out w1 HM1.out.1).mono ?_
    rintro x w2 ⟨rfl, st2, tv2, hE, hW2, hT2⟩
    have HE : Hid (_ ∧ _ ∧ _) := ⟨hE, hW2, hT2⟩
    clear hE hW2 hT2
    go_wp2_with fail
    go_end0
    exact ⟨rfl, st2, tv2, .first HK.out.2.2.1 (by rw [abs_at hi]; simp [SV.abs, HK.out.1]) HP.out HE.out.1, HE.out.2.1, HM1.out.2.trans HE.out.2.2⟩
set_option maxHeartbeats 800000 in
theorem enter_firstNo {base b gs gn capS capN : Nat} {L : List SV} {t : ByteArray} {p e : Nat} {tv sp : Value} {st : St} (w : World) (h : Wk base b gs gn capS capN L t p tv sp st w) (i : Nat) (hi : i < L.length) (hs : ¬ sees p st i) (hk : L[i].k = 1) (hp : p ≠ 0) : Calls Tryz.prog 182 #[.pointer (some ⟨b, 0, none⟩), .int .i64 (i : Int), .int .i64 (e : Int)] w (EnterPost base b gs gn capS capN L t p e sp i tv st w) := by
  have hl := h.len
  have hil : i < st.sn.length := by rw [h.len]; exact hi
  obtain ⟨y, hy⟩ : ∃ y, y = st.sn[i]'hil := ⟨_, rfl⟩
  have c0 : w.cell? ⟨b, 0, none⟩ = some (.slice (some ⟨gs, 0, none⟩) L.length capS) := h.cb 0
  have c2 : w.cell? ⟨b, 2, none⟩ = some (.int .i64 (p : Int)) := h.cb 2
  have c3 : w.cell? ⟨b, 3, none⟩ = some (.slice (some ⟨gn, 0, none⟩) L.length capN) := h.cb 3
  have cn : w.cell? ⟨gn, i, none⟩ = some (.int .i64 y) := by rw [hy]; exact h.cn i hil
  have hyp : ¬ y = (p : Int) := fun e => hs (by unfold sees; rw [List.getElem?_eq_getElem hil, ← hy, e])
  have fn := h.fn
  have hb := h.lt
  have hbn := h.bn
  have hfew := h.few
  have hM : ∀ k, Wk base b gs gn capS capN L t p tv sp (RxSem.mark p i st) ((w.drewN k).setCell ⟨gn, i, none⟩ (.int .i64 (p : Int))) := fun k => (h.drewN k).mark i hil hs
  obtain ⟨n, hn⟩ : ∃ n, n = L.length := ⟨_, rfl⟩
  have HK : Hid (L[i].k = 1 ∧ n = L.length ∧ ¬ sees p st i ∧ L[i].Ok) := ⟨hk, hn, hs, h.oks _ (List.getElem_mem _)⟩
  rw [← hn] at c3 c0 hfew
  have hi2 : (i : Int) < (n : Int) := by omega
  have HM : Hid (∀ k, Wk base b gs gn capS capN L t p tv sp (RxSem.mark p i st) ((w.drewN k).setCell ⟨gn, i, none⟩ (.int .i64 (p : Int)))) := hM
  have HP : Hid (p ≠ 0) := hp
  clear hp
  clear h hs hn hy hl hM hk hil
  go_enter Tryz.func182, Tryz.ntmps182
  go_wp2_with fail
  go_quiet (fail)
  go_wp2_with fail
  go_region_with (fail)
  all_goals
    obtain ⟨w1, hw1⟩ : ∃ w1, w1 = (w.drewN (nq + 1)).setCell ⟨gn, i, none⟩ (.int .i64 (p : Int)) := ⟨_, rfl⟩
    rw [← hw1]
    have HM1 : Hid (Wk base b gs gn capS capN L t p tv sp (RxSem.mark p i st) w1 ∧ Turn b gn tv tv w w1) := by
      rw [hw1]
      exact ⟨HM.out _, ((Turn.refl _ _ _ _).drewN _).trans (Turn.only_m (Only.set gn i (w.drewN (nq + 1)) _))⟩
    clear hw1
    have d0 : w1.cell? ⟨b, 0, none⟩ = some (.slice (some ⟨gs, 0, none⟩) n capS) := by rw [HK.out.2.1]; exact HM1.out.1.cb 0
    have k0 : w1.cell? ⟨gs, i * 7, none⟩ = some (.int .i64 1) := by
      have := HM1.out.1.cs i hi 0 (by omega)
      rw [Nat.add_zero, Nat.mul_comm] at this
      rw [this]; simp [stepC, HK.out.1]
    have fb := HM1.out.1.fb
    have d1 : w1.cell? ⟨b, 1, none⟩ = some (.string t) := HM1.out.1.cb 1
    have d2 : w1.cell? ⟨b, 2, none⟩ = some (.int .i64 (p : Int)) := HM1.out.1.cb 2
    have d4 : w1.cell? ⟨b, 4, none⟩ = some tv := HM1.out.1.cb 4
    have d6 : w1.cell? ⟨b, 6, none⟩ = some (.int .i64 st.lo) := HM1.out.1.cb 6
    clear c0 c2 c3 cn fn
    have hp2 : ¬ (p : Int) = 0 := by have := HP.out; omega
    go_wp2_with fail
    go_end0
    exact ⟨rfl, _, tv, .firstNo HK.out.2.2.1 (by rw [abs_at hi]; simp [SV.abs, HK.out.1]) HP.out, HM1.out.1, HM1.out.2⟩
set_option maxHeartbeats 800000 in
theorem enter_last {base b gs gn capS capN : Nat} {L : List SV} {t : ByteArray} {p e : Nat} {tv sp : Value} {st : St} (w : World) (h : Wk base b gs gn capS capN L t p tv sp st w) (i : Nat) (hi : i < L.length) (hs : ¬ sees p st i) (hk : L[i].k = 2) (ih : ∀ (j : Nat) (st2 : St) (tv2 : Value) (w2 : World), j < L.length → unseen p st2.sn < unseen p st.sn → Wk base b gs gn capS capN L t p tv2 sp st2 w2 → Calls Tryz.prog 182 #[.pointer (some ⟨b, 0, none⟩), .int .i64 (j : Int), .int .i64 (e : Int)] w2 (EnterPost base b gs gn capS capN L t p e sp j tv2 st2 w2)) (hp : p = (bl t).length) (hi1 : i + 1 < L.length) : Calls Tryz.prog 182 #[.pointer (some ⟨b, 0, none⟩), .int .i64 (i : Int), .int .i64 (e : Int)] w (EnterPost base b gs gn capS capN L t p e sp i tv st w) := by
  have hl := h.len
  have hil : i < st.sn.length := by rw [h.len]; exact hi
  obtain ⟨y, hy⟩ : ∃ y, y = st.sn[i]'hil := ⟨_, rfl⟩
  have c0 : w.cell? ⟨b, 0, none⟩ = some (.slice (some ⟨gs, 0, none⟩) L.length capS) := h.cb 0
  have c2 : w.cell? ⟨b, 2, none⟩ = some (.int .i64 (p : Int)) := h.cb 2
  have c3 : w.cell? ⟨b, 3, none⟩ = some (.slice (some ⟨gn, 0, none⟩) L.length capN) := h.cb 3
  have cn : w.cell? ⟨gn, i, none⟩ = some (.int .i64 y) := by rw [hy]; exact h.cn i hil
  have hyp : ¬ y = (p : Int) := fun e => hs (by unfold sees; rw [List.getElem?_eq_getElem hil, ← hy, e])
  have fn := h.fn
  have hb := h.lt
  have hbn := h.bn
  have hfew := h.few
  have hM : ∀ k, Wk base b gs gn capS capN L t p tv sp (RxSem.mark p i st) ((w.drewN k).setCell ⟨gn, i, none⟩ (.int .i64 (p : Int))) := fun k => (h.drewN k).mark i hil hs
  obtain ⟨n, hn⟩ : ∃ n, n = L.length := ⟨_, rfl⟩
  have HK : Hid (L[i].k = 2 ∧ n = L.length ∧ ¬ sees p st i ∧ L[i].Ok) := ⟨hk, hn, hs, h.oks _ (List.getElem_mem _)⟩
  rw [← hn] at c3 c0 hfew
  have hi2 : (i : Int) < (n : Int) := by omega
  have HM : Hid (∀ k, Wk base b gs gn capS capN L t p tv sp (RxSem.mark p i st) ((w.drewN k).setCell ⟨gn, i, none⟩ (.int .i64 (p : Int)))) := hM
  have HI : Hid (∀ w2, Wk base b gs gn capS capN L t p tv sp (RxSem.mark p i st) w2 → Calls Tryz.prog 182 #[.pointer (some ⟨b, 0, none⟩), .int .i64 ((i : Int) + 1), .int .i64 (e : Int)] w2 (EnterPost base b gs gn capS capN L t p e sp (i + 1) tv (RxSem.mark p i st) w2)) := fun w2 hw2 => ih _ _ _ _ hi1 (unseen_mark hil hs) hw2
  have HP : Hid (p = (bl t).length) := hp
  clear ih hp
  clear h hs hn hy hl hM hk hil
  go_enter Tryz.func182, Tryz.ntmps182
  go_wp2_with fail
  go_quiet (fail)
  go_wp2_with fail
  go_region_with (fail)
  all_goals
    obtain ⟨w1, hw1⟩ : ∃ w1, w1 = (w.drewN (nq + 1)).setCell ⟨gn, i, none⟩ (.int .i64 (p : Int)) := ⟨_, rfl⟩
    rw [← hw1]
    have HM1 : Hid (Wk base b gs gn capS capN L t p tv sp (RxSem.mark p i st) w1 ∧ Turn b gn tv tv w w1) := by
      rw [hw1]
      exact ⟨HM.out _, ((Turn.refl _ _ _ _).drewN _).trans (Turn.only_m (Only.set gn i (w.drewN (nq + 1)) _))⟩
    clear hw1
    have d0 : w1.cell? ⟨b, 0, none⟩ = some (.slice (some ⟨gs, 0, none⟩) n capS) := by rw [HK.out.2.1]; exact HM1.out.1.cb 0
    have k0 : w1.cell? ⟨gs, i * 7, none⟩ = some (.int .i64 2) := by
      have := HM1.out.1.cs i hi 0 (by omega)
      rw [Nat.add_zero, Nat.mul_comm] at this
      rw [this]; simp [stepC, HK.out.1]
    have fb := HM1.out.1.fb
    have d1 : w1.cell? ⟨b, 1, none⟩ = some (.string t) := HM1.out.1.cb 1
    have d2 : w1.cell? ⟨b, 2, none⟩ = some (.int .i64 (p : Int)) := HM1.out.1.cb 2
    have d4 : w1.cell? ⟨b, 4, none⟩ = some tv := HM1.out.1.cb 4
    have d6 : w1.cell? ⟨b, 6, none⟩ = some (.int .i64 st.lo) := HM1.out.1.cb 6
    clear c0 c2 c3 cn fn
    have hp2 : (p : Int) = (t.size : Int) := by have := HP.out; rw [bl_length] at this; omega
    go_wp2_with fail
    go_quiet (fail)
    go_wp2_with fail
    refine (HI.out (w1.drewN nq) (HM1.out.1.drewN _)).mono ?_
    rintro x w2 ⟨rfl, st2, tv2, hE, hW2, hT2⟩
    have HE : Hid (_ ∧ _ ∧ _) := ⟨hE, hW2, hT2⟩
    clear hE hW2 hT2
    go_wp2_with fail
    go_end0
    exact ⟨rfl, st2, tv2, .last HK.out.2.2.1 (by rw [abs_at hi]; simp [SV.abs, HK.out.1]) HP.out HE.out.1, HE.out.2.1, (HM1.out.2.drewN _).trans HE.out.2.2⟩
set_option maxHeartbeats 800000 in
theorem enter_lastNo {base b gs gn capS capN : Nat} {L : List SV} {t : ByteArray} {p e : Nat} {tv sp : Value} {st : St} (w : World) (h : Wk base b gs gn capS capN L t p tv sp st w) (i : Nat) (hi : i < L.length) (hs : ¬ sees p st i) (hk : L[i].k = 2) (hp : p ≠ (bl t).length) : Calls Tryz.prog 182 #[.pointer (some ⟨b, 0, none⟩), .int .i64 (i : Int), .int .i64 (e : Int)] w (EnterPost base b gs gn capS capN L t p e sp i tv st w) := by
  have hl := h.len
  have hil : i < st.sn.length := by rw [h.len]; exact hi
  obtain ⟨y, hy⟩ : ∃ y, y = st.sn[i]'hil := ⟨_, rfl⟩
  have c0 : w.cell? ⟨b, 0, none⟩ = some (.slice (some ⟨gs, 0, none⟩) L.length capS) := h.cb 0
  have c2 : w.cell? ⟨b, 2, none⟩ = some (.int .i64 (p : Int)) := h.cb 2
  have c3 : w.cell? ⟨b, 3, none⟩ = some (.slice (some ⟨gn, 0, none⟩) L.length capN) := h.cb 3
  have cn : w.cell? ⟨gn, i, none⟩ = some (.int .i64 y) := by rw [hy]; exact h.cn i hil
  have hyp : ¬ y = (p : Int) := fun e => hs (by unfold sees; rw [List.getElem?_eq_getElem hil, ← hy, e])
  have fn := h.fn
  have hb := h.lt
  have hbn := h.bn
  have hfew := h.few
  have hM : ∀ k, Wk base b gs gn capS capN L t p tv sp (RxSem.mark p i st) ((w.drewN k).setCell ⟨gn, i, none⟩ (.int .i64 (p : Int))) := fun k => (h.drewN k).mark i hil hs
  obtain ⟨n, hn⟩ : ∃ n, n = L.length := ⟨_, rfl⟩
  have HK : Hid (L[i].k = 2 ∧ n = L.length ∧ ¬ sees p st i ∧ L[i].Ok) := ⟨hk, hn, hs, h.oks _ (List.getElem_mem _)⟩
  rw [← hn] at c3 c0 hfew
  have hi2 : (i : Int) < (n : Int) := by omega
  have HM : Hid (∀ k, Wk base b gs gn capS capN L t p tv sp (RxSem.mark p i st) ((w.drewN k).setCell ⟨gn, i, none⟩ (.int .i64 (p : Int)))) := hM
  have HP : Hid (p ≠ (bl t).length) := hp
  clear hp
  clear h hs hn hy hl hM hk hil
  go_enter Tryz.func182, Tryz.ntmps182
  go_wp2_with fail
  go_quiet (fail)
  go_wp2_with fail
  go_region_with (fail)
  all_goals
    obtain ⟨w1, hw1⟩ : ∃ w1, w1 = (w.drewN (nq + 1)).setCell ⟨gn, i, none⟩ (.int .i64 (p : Int)) := ⟨_, rfl⟩
    rw [← hw1]
    have HM1 : Hid (Wk base b gs gn capS capN L t p tv sp (RxSem.mark p i st) w1 ∧ Turn b gn tv tv w w1) := by
      rw [hw1]
      exact ⟨HM.out _, ((Turn.refl _ _ _ _).drewN _).trans (Turn.only_m (Only.set gn i (w.drewN (nq + 1)) _))⟩
    clear hw1
    have d0 : w1.cell? ⟨b, 0, none⟩ = some (.slice (some ⟨gs, 0, none⟩) n capS) := by rw [HK.out.2.1]; exact HM1.out.1.cb 0
    have k0 : w1.cell? ⟨gs, i * 7, none⟩ = some (.int .i64 2) := by
      have := HM1.out.1.cs i hi 0 (by omega)
      rw [Nat.add_zero, Nat.mul_comm] at this
      rw [this]; simp [stepC, HK.out.1]
    have fb := HM1.out.1.fb
    have d1 : w1.cell? ⟨b, 1, none⟩ = some (.string t) := HM1.out.1.cb 1
    have d2 : w1.cell? ⟨b, 2, none⟩ = some (.int .i64 (p : Int)) := HM1.out.1.cb 2
    have d4 : w1.cell? ⟨b, 4, none⟩ = some tv := HM1.out.1.cb 4
    have d6 : w1.cell? ⟨b, 6, none⟩ = some (.int .i64 st.lo) := HM1.out.1.cb 6
    clear c0 c2 c3 cn fn
    have hp2 : ¬ (p : Int) = (t.size : Int) := by have := HP.out; rw [bl_length] at this; omega
    go_wp2_with fail
    go_quiet (fail)
    go_wp2_with fail
    go_end0
    exact ⟨rfl, _, tv, .lastNo HK.out.2.2.1 (by rw [abs_at hi]; simp [SV.abs, HK.out.1]) HP.out, HM1.out.1.drewN _, HM1.out.2.drewN _⟩
set_option maxHeartbeats 800000 in
theorem enter_fork {base b gs gn capS capN : Nat} {L : List SV} {t : ByteArray} {p e : Nat} {tv sp : Value} {st : St} (w : World) (h : Wk base b gs gn capS capN L t p tv sp st w) (i : Nat) (hi : i < L.length) (hs : ¬ sees p st i) (hk : L[i].k = 3) (ih : ∀ (j : Nat) (st2 : St) (tv2 : Value) (w2 : World), j < L.length → unseen p st2.sn < unseen p st.sn → Wk base b gs gn capS capN L t p tv2 sp st2 w2 → Calls Tryz.prog 182 #[.pointer (some ⟨b, 0, none⟩), .int .i64 (j : Int), .int .i64 (e : Int)] w2 (EnterPost base b gs gn capS capN L t p e sp j tv2 st2 w2)) (j1 j2 : Nat) (h1 : (j1 : Int) = i + L[i].a) (h2 : (j2 : Int) = i + L[i].b) (hj1 : j1 < L.length) (hj2 : j2 < L.length) (N : Nat) (hF : Fit (L.map SV.abs) N) (hN : L.length = N + 1) : Calls Tryz.prog 182 #[.pointer (some ⟨b, 0, none⟩), .int .i64 (i : Int), .int .i64 (e : Int)] w (EnterPost base b gs gn capS capN L t p e sp i tv st w) := by
  have hl := h.len
  have hil : i < st.sn.length := by rw [h.len]; exact hi
  obtain ⟨y, hy⟩ : ∃ y, y = st.sn[i]'hil := ⟨_, rfl⟩
  have c0 : w.cell? ⟨b, 0, none⟩ = some (.slice (some ⟨gs, 0, none⟩) L.length capS) := h.cb 0
  have c2 : w.cell? ⟨b, 2, none⟩ = some (.int .i64 (p : Int)) := h.cb 2
  have c3 : w.cell? ⟨b, 3, none⟩ = some (.slice (some ⟨gn, 0, none⟩) L.length capN) := h.cb 3
  have cn : w.cell? ⟨gn, i, none⟩ = some (.int .i64 y) := by rw [hy]; exact h.cn i hil
  have hyp : ¬ y = (p : Int) := fun e => hs (by unfold sees; rw [List.getElem?_eq_getElem hil, ← hy, e])
  have fn := h.fn
  have hb := h.lt
  have hbn := h.bn
  have hfew := h.few
  have hM : ∀ k, Wk base b gs gn capS capN L t p tv sp (RxSem.mark p i st) ((w.drewN k).setCell ⟨gn, i, none⟩ (.int .i64 (p : Int))) := fun k => (h.drewN k).mark i hil hs
  obtain ⟨n, hn⟩ : ∃ n, n = L.length := ⟨_, rfl⟩
  have HK : Hid (L[i].k = 3 ∧ n = L.length ∧ ¬ sees p st i ∧ L[i].Ok) := ⟨hk, hn, hs, h.oks _ (List.getElem_mem _)⟩
  rw [← hn] at c3 c0 hfew
  have hi2 : (i : Int) < (n : Int) := by omega
  have HM : Hid (∀ k, Wk base b gs gn capS capN L t p tv sp (RxSem.mark p i st) ((w.drewN k).setCell ⟨gn, i, none⟩ (.int .i64 (p : Int)))) := hM
  have HI : Hid (∀ w2, Wk base b gs gn capS capN L t p tv sp (RxSem.mark p i st) w2 → Calls Tryz.prog 182 #[.pointer (some ⟨b, 0, none⟩), .int .i64 (j1 : Int), .int .i64 (e : Int)] w2 (EnterPost base b gs gn capS capN L t p e sp j1 tv (RxSem.mark p i st) w2)) := fun w2 hw2 => ih _ _ _ _ hj1 (unseen_mark hil hs) hw2
  have HI2 : Hid (∀ w2 st2 tv2, Ent (L.map SV.abs) (bl t) p e j1 (RxSem.mark p i st) st2 → Wk base b gs gn capS capN L t p tv2 sp st2 w2 → Calls Tryz.prog 182 #[.pointer (some ⟨b, 0, none⟩), .int .i64 (j2 : Int), .int .i64 (e : Int)] w2 (EnterPost base b gs gn capS capN L t p e sp j2 tv2 st2 w2)) := fun w2 st2 tv2 hE hw2 => ih _ _ _ _ hj2 (by
    have g := hE.grew hF (by unfold RxSem.mark; simp; omega) (by omega)
    have := unseen_mark (p := p) (i := i) (st := st) hil hs
    have := g.less
    omega) hw2
  have HJ : Hid ((j1 : Int) = i + L[i].a ∧ (j2 : Int) = i + L[i].b) := ⟨h1, h2⟩
  have q1 : j1 ≤ 100000 := by omega
  have q2 : j2 ≤ 100000 := by omega
  clear ih hj1 hj2 hF h1 h2
  clear h hs hn hy hl hM hk hil
  go_enter Tryz.func182, Tryz.ntmps182
  go_wp2_with fail
  go_quiet (fail)
  go_wp2_with fail
  go_region_with (fail)
  all_goals
    obtain ⟨w1, hw1⟩ : ∃ w1, w1 = (w.drewN (nq + 1)).setCell ⟨gn, i, none⟩ (.int .i64 (p : Int)) := ⟨_, rfl⟩
    rw [← hw1]
    have HM1 : Hid (Wk base b gs gn capS capN L t p tv sp (RxSem.mark p i st) w1 ∧ Turn b gn tv tv w w1) := by
      rw [hw1]
      exact ⟨HM.out _, ((Turn.refl _ _ _ _).drewN _).trans (Turn.only_m (Only.set gn i (w.drewN (nq + 1)) _))⟩
    clear hw1
    have d0 : w1.cell? ⟨b, 0, none⟩ = some (.slice (some ⟨gs, 0, none⟩) n capS) := by rw [HK.out.2.1]; exact HM1.out.1.cb 0
    have k0 : w1.cell? ⟨gs, i * 7, none⟩ = some (.int .i64 3) := by
      have := HM1.out.1.cs i hi 0 (by omega)
      rw [Nat.add_zero, Nat.mul_comm] at this
      rw [this]; simp [stepC, HK.out.1]
    have fb := HM1.out.1.fb
    have d1 : w1.cell? ⟨b, 1, none⟩ = some (.string t) := HM1.out.1.cb 1
    have d2 : w1.cell? ⟨b, 2, none⟩ = some (.int .i64 (p : Int)) := HM1.out.1.cb 2
    have d4 : w1.cell? ⟨b, 4, none⟩ = some tv := HM1.out.1.cb 4
    have d6 : w1.cell? ⟨b, 6, none⟩ = some (.int .i64 st.lo) := HM1.out.1.cb 6
    clear c0 c2 c3 cn fn
    clear hN
    obtain ⟨fa, hfa⟩ : ∃ fa, fa = L[i].a := ⟨_, rfl⟩
    obtain ⟨fb2, hfb⟩ : ∃ fa, fa = L[i].b := ⟨_, rfl⟩
    have k5 : w1.cell? ⟨gs, i * 7 + 5, none⟩ = some (.int .i64 fa) := by
      have := HM1.out.1.cs i hi 5 (by omega)
      rw [Nat.mul_comm] at this
      rw [this, hfa]; rfl
    have k6 : w1.cell? ⟨gs, i * 7 + 6, none⟩ = some (.int .i64 fb2) := by
      have := HM1.out.1.cs i hi 6 (by omega)
      rw [Nat.mul_comm] at this
      rw [this, hfb]; rfl
    have q3 : (i : Int) + fa = (j1 : Int) := by rw [hfa]; exact HJ.out.1.symm
    have q4 : (i : Int) + fb2 = (j2 : Int) := by rw [hfb]; exact HJ.out.2.symm
    have HFB : Hid (fb2 = L[i].b) := hfb
    clear hfa hfb
    go_wp2_with fail
    refine (HI.out w1 HM1.out.1).mono ?_
    rintro x w2 ⟨rfl, st2, tv2, hE, hW2, hT2⟩
    have HE : Hid (Ent (L.map SV.abs) (bl t) p e j1 (RxSem.mark p i st) st2 ∧ Wk base b gs gn capS capN L t p tv2 sp st2 w2 ∧ Turn b gn tv tv2 w1 w2) := ⟨hE, hW2, hT2⟩
    clear hE hW2 hT2 k5 k6 k0 d0 d1 d2 d4 d6 fb q3
    have k6 : w2.cell? ⟨gs, i * 7 + 6, none⟩ = some (.int .i64 fb2) := by
      have := HE.out.2.1.cs i hi 6 (by omega)
      rw [Nat.mul_comm] at this
      rw [this, HFB.out]; rfl
    go_wp2_with fail
    refine (HI2.out w2 st2 tv2 HE.out.1 HE.out.2.1).mono ?_
    rintro x w3 ⟨rfl, st3, tv3, hE, hW2, hT2⟩
    have HE3 : Hid (Ent (L.map SV.abs) (bl t) p e j2 st2 st3 ∧ Wk base b gs gn capS capN L t p tv3 sp st3 w3 ∧ Turn b gn tv2 tv3 w2 w3) := ⟨hE, hW2, hT2⟩
    clear hE hW2 hT2 k6
    go_wp2_with fail
    go_end0
    exact ⟨rfl, st3, tv3, .fork HK.out.2.2.1 (by rw [abs_at hi]; simp [SV.abs, HK.out.1]) HJ.out.1 HJ.out.2 HE.out.1 HE3.out.1, HE3.out.2.1, HM1.out.2.trans (HE.out.2.2.trans HE3.out.2.2)⟩
theorem infoTh : (Tryz.prog.info? 223).map (fun i => (i.zero, i.size, i.bytes)) = some (some (.agg #[.int .i64 0, .int .i64 0]), 2, 16) := by kernel_rfl
set_option maxHeartbeats 800000 in
theorem enter_take {base b gs gn capS capN : Nat} {L : List SV} {t : ByteArray} {p e : Nat} {tv sp : Value} {st : St} (w : World) (h : Wk base b gs gn capS capN L t p tv sp st w) (i : Nat) (hi : i < L.length) (hs : ¬ sees p st i) (hk : L[i].k = 0) (hbase : base ≤ w.heap.size) : Calls Tryz.prog 182 #[.pointer (some ⟨b, 0, none⟩), .int .i64 (i : Int), .int .i64 (e : Int)] w (EnterPost base b gs gn capS capN L t p e sp i tv st w) := by
  have hl := h.len
  have hil : i < st.sn.length := by rw [h.len]; exact hi
  obtain ⟨y, hy⟩ : ∃ y, y = st.sn[i]'hil := ⟨_, rfl⟩
  have c0 : w.cell? ⟨b, 0, none⟩ = some (.slice (some ⟨gs, 0, none⟩) L.length capS) := h.cb 0
  have c2 : w.cell? ⟨b, 2, none⟩ = some (.int .i64 (p : Int)) := h.cb 2
  have c3 : w.cell? ⟨b, 3, none⟩ = some (.slice (some ⟨gn, 0, none⟩) L.length capN) := h.cb 3
  have cn : w.cell? ⟨gn, i, none⟩ = some (.int .i64 y) := by rw [hy]; exact h.cn i hil
  have hyp : ¬ y = (p : Int) := fun e => hs (by unfold sees; rw [List.getElem?_eq_getElem hil, ← hy, e])
  have fn := h.fn
  have hb := h.lt
  have hbn := h.bn
  have hfew := h.few
  have hM : ∀ k, Wk base b gs gn capS capN L t p tv sp (RxSem.mark p i st) ((w.drewN k).setCell ⟨gn, i, none⟩ (.int .i64 (p : Int))) := fun k => (h.drewN k).mark i hil hs
  obtain ⟨n, hn⟩ : ∃ n, n = L.length := ⟨_, rfl⟩
  have HK : Hid (L[i].k = 0 ∧ n = L.length ∧ ¬ sees p st i ∧ L[i].Ok) := ⟨hk, hn, hs, h.oks _ (List.getElem_mem _)⟩
  rw [← hn] at c3 c0 hfew
  have hi2 : (i : Int) < (n : Int) := by omega
  have HM : Hid (∀ k, Wk base b gs gn capS capN L t p tv sp (RxSem.mark p i st) ((w.drewN k).setCell ⟨gn, i, none⟩ (.int .i64 (p : Int)))) := hM
  obtain ⟨i0, hif, hz0, hz1, hz2⟩ := info_parts infoTh
  have HSm : Hid (st.T.length + unseen p st.sn ≤ 100000) := h.small
  have HUn : Hid (unseen p (st.sn.set i (p : Int)) + 1 = unseen p st.sn) := unseen_set hil hs
  have HBase : Hid (base ≤ w.heap.size) := hbase
  clear hbase
  clear h hs hn hy hl hM hk hil
  go_enter Tryz.func182, Tryz.ntmps182
  go_wp2_with fail
  go_quiet (fail)
  go_wp2_with fail
  go_region_with (fail)
  all_goals
    obtain ⟨w1, hw1⟩ : ∃ w1, w1 = (w.drewN (nq + 1)).setCell ⟨gn, i, none⟩ (.int .i64 (p : Int)) := ⟨_, rfl⟩
    rw [← hw1]
    have HM1 : Hid (Wk base b gs gn capS capN L t p tv sp (RxSem.mark p i st) w1 ∧ Turn b gn tv tv w w1) := by
      rw [hw1]
      exact ⟨HM.out _, ((Turn.refl _ _ _ _).drewN _).trans (Turn.only_m (Only.set gn i (w.drewN (nq + 1)) _))⟩
    clear hw1
    have d0 : w1.cell? ⟨b, 0, none⟩ = some (.slice (some ⟨gs, 0, none⟩) n capS) := by rw [HK.out.2.1]; exact HM1.out.1.cb 0
    have k0 : w1.cell? ⟨gs, i * 7, none⟩ = some (.int .i64 0) := by
      have := HM1.out.1.cs i hi 0 (by omega)
      rw [Nat.add_zero, Nat.mul_comm] at this
      rw [this]; simp [stepC, HK.out.1]
    have fb := HM1.out.1.fb
    have d1 : w1.cell? ⟨b, 1, none⟩ = some (.string t) := HM1.out.1.cb 1
    have d2 : w1.cell? ⟨b, 2, none⟩ = some (.int .i64 (p : Int)) := HM1.out.1.cb 2
    have d4 : w1.cell? ⟨b, 4, none⟩ = some tv := HM1.out.1.cb 4
    have d6 : w1.cell? ⟨b, 6, none⟩ = some (.int .i64 st.lo) := HM1.out.1.cb 6
    clear c0 c2 c3 cn fn
    have hr1 := HM1.out.1.row
    obtain ⟨m, hm⟩ : ∃ m, m = (RxSem.mark p i st).T.length := ⟨_, rfl⟩
    rw [← hm] at hr1
    have hm2 : m ≤ 100000 := by have := HM1.out.1.small; omega
    have HMM : Hid (m = (RxSem.mark p i st).T.length) := hm
    obtain ⟨av, capv, hv⟩ := row_slice hr1
    have hltb := HM1.out.1.lt
    subst hv
    clear hm
    go_wp2_with (first | (at_builtin; refine wpList_append_own_at _ rfl _ _ 217 rfl base 223 i0 (.agg #[.int .i64 0, .int .i64 0]) 2 16 Tryz.underlying217 hif hz0 hz1 hz2 rfl (by decide) _ _ _ rfl (hr1.alloc _) ⟨w1.heap.size, 0, none⟩ 1 1 [.int .i64 (i : Int), .int .i64 (e : Int)] rfl rfl ?c1 ?c2 ?c3 ?c4 ?c5 ?_) | fail)
    case c1 =>
      intro j u hj
      match j, hj with
      | 0, hj => simp at hj; subst hj; simp [Addr.add]
      | 1, hj => simp at hj; subst hj; simp [Addr.add]
    case c2 => intro u hu; simp at hu; rcases hu with rfl | rfl <;> rfl
    case c3 => unfold maxLen; omega
    case c4 => omega
    case c5 => have := HBase.out; have := HM1.out.2.size; simp; omega
    intro v0 w3 hown' hgrow _ hloc
    obtain ⟨a0, cap0, hv0⟩ := row_slice hown'
    have hs3 := hgrow.size
    have hT3 : Turn b gn (.slice av m capv) v0 w1 w3 := by
      refine ⟨hgrow.os, hgrow.tape, hgrow.output, by simp at hs3; omega, fun j hj _ _ hv => ?_, fun g hg => ?_⟩
      · rw [hgrow.block j (by simp; omega) (fun e => hv e.symm)]; exact Below.heap_alloc _ _ _ hj
      · rcases hloc with e | e
        · exact .inl (e ▸ hg)
        · rw [e] at hg; have := Option.some.inj hg; exact .inr (by first | omega | (simp at this; omega))
    have hW1 := HM1.out.1
    have hB3 : w3.heap[b]? = w1.heap[b]? := by
      rw [hgrow.block b (by simp; omega) (fun e => hW1.vb e.symm)]; exact Below.heap_alloc _ _ _ hltb
    have hN3 : w3.heap[gn]? = w1.heap[gn]? := by
      have := hW1.ltn
      rw [hgrow.block gn (by simp; omega) (fun e => hW1.vn e.symm)]; exact Below.heap_alloc _ _ _ this
    have hS3 : ∃ cur, w3.heap[gs]? = some (.cells cur 146 (0, 0)) ∧ cur.toList.take (7 * L.length) = L.flatMap stepC := by
      obtain ⟨cur, c1, c2⟩ := hW1.stp
      have hl := (Array.getElem?_eq_some_iff.1 c1).1
      refine ⟨cur, ?_, c2⟩
      rw [hgrow.block gs (by simp; omega) (fun e => hW1.vs e.symm), Below.heap_alloc _ _ _ hl]
      exact c1
    have HH : Hid (w3.heap[b]? = w1.heap[b]? ∧ w3.heap[gn]? = w1.heap[gn]? ∧ (∃ cur, w3.heap[gs]? = some (.cells cur 146 (0, 0)) ∧ cur.toList.take (7 * L.length) = L.flatMap stepC) ∧ Turn b gn (.slice av m capv) v0 w1 w3 ∧ w3.ownsRow base 223 2 v0 (m + 1) (thrC (RxSem.mark p i st).T ++ [.int .i64 (i : Int), .int .i64 (e : Int)])) := ⟨hB3, hN3, hS3, hT3, hown'⟩
    have e4 : w3.cell? ⟨b, 4, none⟩ = some (.slice av m capv) := by
      simp only [World.cell?, hB3, hW1.blk]; rfl
    have f4 : w3.frozen? ⟨b, 4, none⟩ = false := by simp [World.frozen?, hB3, hW1.blk]
    clear hown' hgrow hloc hs3 hr1 hB3 hN3 hS3 hT3 hW1 d0 d1 d2 d4 d6 fb k0
    subst hv0
    go_wp2_with fail
    go_end0
    obtain ⟨hB3, hN3, hS3, hT3, hown'⟩ := HH.out
    have hW1 := HM1.out.1
    refine ⟨rfl, ⟨st.sn.set i (p : Int), st.T ++ [(i, e)], st.lo⟩, .slice a0 (m + 1) cap0, .take HK.out.2.2.1 (f := L[i].s.has) (by rw [abs_at hi]; simp [SV.abs, HK.out.1]), ?_, HM1.out.2.trans (hT3.trans (Turn.only_b (Only.set _ _ _ _)))⟩
    have hb3 : w3.heap[b]? = _ := hB3.trans hW1.blk
    obtain ⟨cur, c1, c2⟩ := hS3
    have hvb : (Value.slice a0 (m + 1) cap0).ownBlock ≠ some b := row_ne hown' hb3 (by decide)
    refine ⟨heap_set hb3 _, ⟨cur, (Below.heap_setCell _ _ _ _ (Ne.symm hW1.bs)).trans c1, c2⟩, (Below.heap_setCell _ _ _ _ (Ne.symm hW1.bn)).trans (hN3.trans hW1.sn), hW1.len, ?_, hW1.oks, hW1.few, hW1.base, ?_⟩
    · have hq : (st.T ++ [(i, e)]).length = m + 1 := by rw [List.length_append, HMM.out]; rfl
      show (w3.setCell _ _).ownsRow base 223 2 (.slice a0 (m + 1) cap0) (st.T ++ [(i, e)]).length (thrC (st.T ++ [(i, e)]))
      rw [hq]
      have hq2 : thrC (st.T ++ [(i, e)]) = thrC (RxSem.mark p i st).T ++ [.int .i64 (i : Int), .int .i64 (e : Int)] := by
        unfold thrC RxSem.mark; simp
      rw [hq2]
      exact row_set hown' hvb _
    · have h4 := HSm.out
      have h5 := HUn.out
      simp only [List.length_append, List.length_singleton]
      omega
theorem enter_any {base b gs gn capS capN : Nat} {L : List SV} {t : ByteArray} {p e : Nat} {sp : Value} {N : Nat} (hF : Fit (L.map SV.abs) N) : ∀ (m : Nat) (i : Nat) (st : St) (tv : Value) (w : World), unseen p st.sn ≤ m → i < L.length → Wk base b gs gn capS capN L t p tv sp st w → base ≤ w.heap.size → Calls Tryz.prog 182 #[.pointer (some ⟨b, 0, none⟩), .int .i64 (i : Int), .int .i64 (e : Int)] w (EnterPost base b gs gn capS capN L t p e sp i tv st w) := by
  have hN : L.length = N + 1 := by have := hF.1; simpa using this
  intro m
  induction m with
  | zero =>
    intro i st tv w hm hi h hbase
    have hil : i < st.sn.length := by rw [h.len]; exact hi
    by_cases hs : sees p st i
    · exact enter_seen w h i hi hs
    · have := unseen_set (p := p) hil hs
      omega
  | succ m ih =>
    intro i st tv w hm hi h hbase
    by_cases hs : sees p st i
    · exact enter_seen w h i hi hs
    · have ih2 : ∀ (j : Nat) (st2 : St) (tv2 : Value) (w2 : World), j < L.length → unseen p st2.sn < unseen p st.sn → Wk base b gs gn capS capN L t p tv2 sp st2 w2 → Calls Tryz.prog 182 #[.pointer (some ⟨b, 0, none⟩), .int .i64 (j : Int), .int .i64 (e : Int)] w2 (EnterPost base b gs gn capS capN L t p e sp j tv2 st2 w2) := fun j st2 tv2 w2 hj hu hw2 => ih j st2 tv2 w2 (by omega) hj hw2 (by have := hw2.base; have := hw2.lt; omega)
      have hx := hF.2.2 i _ (abs_at hi)
      have hok := h.oks _ (List.getElem_mem hi)
      have hk := hok.2.1
      have hc : L[i].k = 0 ∨ L[i].k = 1 ∨ L[i].k = 2 ∨ L[i].k = 3 ∨ L[i].k = 4 := by omega
      rcases hc with hc | hc | hc | hc | hc
      · exact enter_take w h i hi hs hc hbase
      · simp only [SV.abs, hc] at hx
        by_cases hp : p = 0
        · exact enter_first w h i hi hs hc ih2 hp (by omega)
        · exact enter_firstNo w h i hi hs hc hp
      · simp only [SV.abs, hc] at hx
        by_cases hp : p = (bl t).length
        · exact enter_last w h i hi hs hc ih2 hp (by omega)
        · exact enter_lastNo w h i hi hs hc hp
      · simp only [SV.abs, hc] at hx
        obtain ⟨j1, h1⟩ : ∃ j1 : Nat, (j1 : Int) = i + L[i].a := ⟨((i : Int) + L[i].a).toNat, by omega⟩
        obtain ⟨j2, h2⟩ : ∃ j1 : Nat, (j1 : Int) = i + L[i].b := ⟨((i : Int) + L[i].b).toNat, by omega⟩
        exact enter_fork w h i hi hs hc ih2 j1 j2 h1 h2 (by omega) (by omega) N hF hN
      · exact enter_done w h i hi hs hc
end Go.Proofs.YtedepknbaakkhabGreatDoor.X
