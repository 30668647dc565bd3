/-
  What inside writes.
-/
import Derived.Test.YtbciedpjaajhcaaDoorX2
namespace Go.Proofs.YtbciedpjaajhcaaDoor.Ex
open Go.RowKit Go.Shelf

theorem owns_pop {base n : Nat} {e : TypeId} {size : Nat} {w : World} {g cap : Nat} {xs ys : List Value} (h : w.ownsRow base e size (.slice (some ⟨g, 0, none⟩) (n + 1) cap) (n + 1) (xs ++ ys)) (hx : xs.length = n * size) : w.ownsRow base e size (.slice (some ⟨g, 0, none⟩) n cap) n xs := by
  obtain ⟨hxl, ⟨hv, _⟩ | ⟨g', cap', cur, hv, hg, hcur, hcap, hcm, hcs, hct⟩⟩ := h
  · cases hv
  · simp only [Value.slice.injEq, Option.some.injEq, Addr.mk.injEq, and_true, true_and] at hv
    obtain ⟨rfl, rfl⟩ := hv
    refine ⟨hx, .inr ⟨g, cap, cur, rfl, hg, hcur, by omega, hcm, hcs, ?_⟩⟩
    have h1 := congrArg (List.take (n * size)) hct
    rw [List.take_take, Nat.min_eq_left (by rw [Nat.succ_mul]; omega), List.take_append_of_le_length (by omega), List.take_of_length_le (l := xs) (by omega)] at h1
    exact h1
theorem brs_last (K : List Br) (k k' : Br) (j : Nat) (u : Value) (hj : j < 4) (hf : brC k' = (brC k).set j u) : brsV (K ++ [k']) = (brsV (K ++ [k])).set (K.length * 4 + j) u := by
  have := fl_set brC 4 br_len (K ++ [k]) K.length j k k' u (by simp) hj hf
  unfold brsV
  rw [← this]
  congr 1
  simp
def InPost (base b : Nat) (s : ByteArray) (σ : Sn) (w : World) (e : Ending) (w' : World) : Prop := e = .returned (.tuple #[]) ∧ ∃ vf vo, SnR base b s vf vo σ w' ∧ Below base w w'
theorem below_set {base b i : Nat} {w0 w : World} {x : Value} (h : Below base w0 w) (hb : base ≤ b) : Below base w0 (w.setCell ⟨b, i, none⟩ x) :=
  (Only.set b i w x).below hb h

set_option maxRecDepth 20000 in
set_option maxHeartbeats 1600000 in
theorem in_colon {base b : Nat} {s : ByteArray} {vf vo : Value} {F : List Dl} {K : List Br} {k : Br} {D : Dl} {p : Nat} (w : World) (h : SnR base b s vf vo ⟨p, F, K ++ [k]⟩ w) (hD : F[k.wh]? = some D) (x : UInt8) (hbd : p ≤ 1000000 ∧ K.length ≤ 1000000 ∧ F.length ≤ 1000000 ∧ k.deep ≤ 1000000) (hx : x = 58) (h0 : D.nt = 0) :
    Calls Tryd.prog 79 #[.pointer (some ⟨b, 0, none⟩), .int .u8 (x.toNat : Int)] w (InPost base b s ⟨p, F.set k.wh { D with nt := p, mf := p + 1 }, K ++ [k]⟩ w) := by
  obtain ⟨hp, hKl, hFl, hdp⟩ := hbd
  obtain ⟨gf, cf, hvf, hwh, hcd⟩ := h.dollar hD
  obtain ⟨go_, co, hvo, hm, hco, hcb⟩ := h.bracket (i := K.length) (k := k) (by simp)
  have hlen : (K ++ [k]).length = K.length + 1 := by simp
  simp only [hlen] at hvo hm hco
  simp only at hvf
  have c1 : w.cell? ⟨b, 1, none⟩ = some (.int .i64 (p : Int)) := h.c1
  have c2 := h.c2
  have c3 := h.c3
  have f3 := h.fr 3
  have rf : w.ownsRow base 142 6 vf F.length (dlsV F) := h.rf
  have ro : w.ownsRow base 147 4 vo (K.length + 1) (brsV (K ++ [k])) := by have := h.ro; simp only [hlen] at this; exact this
  have hfb := h.nf
  have hob := h.no
  have hfo := h.fo
  have hblk := h.blk
  have hbb := h.hb
  subst hvf hvo
  have hgfo : gf ≠ go_ := fun e => hfo gf rfl (by rw [e]; rfl)
  have hgfb : gf ≠ b := fun e => hfb (by rw [e]; rfl)
  have hgob : go_ ≠ b := fun e => hob (by rw [e]; rfl)
  have hbgf : base ≤ gf := (rf.lt gf rfl).1
  have hbgo : base ≤ go_ := (ro.lt go_ rfl).1
  have ffz : ∀ i, w.frozen? ⟨gf, i, none⟩ = false := V.frozen_row rf
  have fbz : ∀ i, w.frozen? ⟨go_, i, none⟩ = false := V.frozen_row ro
  have k0 : w.cell? ⟨go_, K.length * 4, none⟩ = some (.int .i64 (k.wh : Int)) := hcb 0 _ rfl
  have k1 : w.cell? ⟨go_, K.length * 4 + 1, none⟩ = some (.int .u8 (k.o.toNat : Int)) := hcb 1 _ rfl
  have k2 : w.cell? ⟨go_, K.length * 4 + 2, none⟩ = some (.int .u8 (k.c.toNat : Int)) := hcb 2 _ rfl
  have k3 : w.cell? ⟨go_, K.length * 4 + 3, none⟩ = some (.int .i64 (k.deep : Int)) := hcb 3 _ rfl
  have d1 : w.cell? ⟨gf, k.wh * 6 + 1, none⟩ = some (.int .i64 (D.en : Int)) := hcd 1 _ rfl
  have d3 : w.cell? ⟨gf, k.wh * 6 + 3, none⟩ = some (.int .i64 (D.nt : Int)) := hcd 3 _ rfl
  have d4 : w.cell? ⟨gf, k.wh * 6 + 4, none⟩ = some (.int .i64 (D.mf : Int)) := hcd 4 _ rfl
  have d5 : w.cell? ⟨gf, k.wh * 6 + 5, none⟩ = some (.int .i64 (D.mt : Int)) := hcd 5 _ rfl
  have HR : Hid (w.heap[b]? = some (.cells #[.string s, .int .i64 (p : Int), .slice (some ⟨gf, 0, none⟩) F.length cf, .slice (some ⟨go_, 0, none⟩) (K.length + 1) co] 121 (0, 0)) ∧ w.ownsRow base 142 6 (.slice (some ⟨gf, 0, none⟩) F.length cf) F.length (dlsV F) ∧ w.ownsRow base 147 4 (.slice (some ⟨go_, 0, none⟩) (K.length + 1) co) (K.length + 1) (brsV (K ++ [k])) ∧ base ≤ b ∧ F[k.wh]? = some D) := ⟨hblk, rf, ro, hbb, hD⟩
  have HNE : Hid (gf ≠ go_ ∧ gf ≠ b ∧ go_ ≠ b ∧ base ≤ gf ∧ base ≤ go_) := ⟨hgfo, hgfb, hgob, hbgf, hbgo⟩
  obtain ⟨m, hme⟩ : ∃ m, m = K.length := ⟨_, rfl⟩
  have HM : Hid (m = K.length) := hme
  obtain ⟨n, hne⟩ : ∃ n, n = F.length := ⟨_, rfl⟩
  have HN : Hid (n = F.length) := hne
  obtain ⟨wh, hwe⟩ : ∃ wh, wh = k.wh := ⟨_, rfl⟩
  have HWH : Hid (wh = k.wh) := hwe
  rw [← hme] at c3 k0 k1 k2 k3 hKl hco
  rw [← hne] at c2 hwh hFl
  rw [← hwe] at k0 d1 d3 d4 d5 hwh
  have hwi : (wh : Int) < (n : Int) := by omega
  have HE : Hid (∀ q, Calls Tryd.prog 90 #[.pointer (some ⟨gf, wh * 6, none⟩), .int .i64 (p : Int)] (w.drewN q) fun e w' => e = .returned (.bool true) ∧ (w.drewN q).setCell ⟨gf, wh * 6 + 3, none⟩ (.int .i64 (p : Int)) = w') := fun q => endName_yes gf (wh * 6) p (w.drewN q) (by rw [show (w.drewN q).cell? ⟨gf, wh * 6 + 3, none⟩ = w.cell? ⟨gf, wh * 6 + 3, none⟩ from rfl, d3, h0]; rfl) (ffz _)
  have f4 := ffz (wh * 6 + 4)
  rw [show x.toNat = 58 by rw [hx]; rfl]
  clear ffz fbz hx
  clear h hD hcd hcb hlen rf ro hfb hob hfo hblk hbb hgfo hgfb hgob hbgf hbgo hme hne hwe hm
  go_enter Tryd.func79, Tryd.ntmps79
  go_wp2_with fail
  go_quiet (fail)
  go_wp2_with fail
  refine (HE.out _).mono ?_
  rintro e w' ⟨rfl, rfl⟩
  go_wp2
  go_end0
  try rw [HM.out]
  try rw [HN.out]
  try rw [HWH.out]
  obtain ⟨g1, g2, g3, g4, g5⟩ := HR.out
  obtain ⟨n1, n2, n3, n4, n5⟩ := HNE.out
  refine ⟨rfl, .slice (some ⟨gf, 0, none⟩) F.length cf, .slice (some ⟨go_, 0, none⟩) (K.length + 1) co, ⟨?_, ?_, ?_, g4⟩, below_set (below_set (below_drewN (Below.refl _ _) _) n4) n4⟩
  · rw [Below.heap_setCell _ _ _ _ (Ne.symm n2), Below.heap_setCell _ _ _ _ (Ne.symm n2)]; exact g1
  · have e1 : dlsV (F.set k.wh { D with nt := p, mf := p + 1 }) = ((dlsV F).set (k.wh * 6 + 3) (.int .i64 (p : Int))).set (k.wh * 6 + 4) (.int .i64 ((p : Int) + 1)) := by
      unfold dlsV
      rw [← fl_set dlC 6 dl_len F k.wh 3 D { D with nt := p } (.int .i64 (p : Int)) g5 (by omega) rfl]
      rw [← fl_set dlC 6 dl_len (F.set k.wh { D with nt := p }) k.wh 4 { D with nt := p } { D with nt := p, mf := p + 1 } (.int .i64 ((p : Int) + 1)) (set_same g5) (by omega) rfl, List.set_set]
    simp only [e1, List.length_set]
    exact V.owns_put (V.owns_put (g2.kept (row := none) ⟨rfl, rfl, rfl, Nat.le_refl _, fun _ _ _ => rfl⟩ (Classical.em _)) _) _
  · simp only [List.length_append, List.length_singleton]
    exact row_set (row_set (g3.kept (row := none) ⟨rfl, rfl, rfl, Nat.le_refl _, fun _ _ _ => rfl⟩ (Classical.em _)) (by simp [Value.ownBlock]; exact Ne.symm n1) _) (by simp [Value.ownBlock]; exact Ne.symm n1) _

set_option maxRecDepth 20000 in
set_option maxHeartbeats 1600000 in
theorem in_plain {base b : Nat} {s : ByteArray} {vf vo : Value} {F : List Dl} {K : List Br} {k : Br} {D : Dl} {p : Nat} (w : World) (h : SnR base b s vf vo ⟨p, F, K ++ [k]⟩ w) (hD : F[k.wh]? = some D) (x : UInt8) (hbd : p ≤ 1000000 ∧ K.length ≤ 1000000 ∧ F.length ≤ 1000000 ∧ k.deep ≤ 1000000) (hx : x ≠ 58) (ho : x ≠ k.o) (hc : x ≠ k.c) :
    Calls Tryd.prog 79 #[.pointer (some ⟨b, 0, none⟩), .int .u8 (x.toNat : Int)] w (InPost base b s ⟨p, F, K ++ [k]⟩ w) := by
  obtain ⟨hp, hKl, hFl, hdp⟩ := hbd
  obtain ⟨gf, cf, hvf, hwh, hcd⟩ := h.dollar hD
  obtain ⟨go_, co, hvo, hm, hco, hcb⟩ := h.bracket (i := K.length) (k := k) (by simp)
  have hlen : (K ++ [k]).length = K.length + 1 := by simp
  simp only [hlen] at hvo hm hco
  simp only at hvf
  have c1 : w.cell? ⟨b, 1, none⟩ = some (.int .i64 (p : Int)) := h.c1
  have c2 := h.c2
  have c3 := h.c3
  have f3 := h.fr 3
  have rf : w.ownsRow base 142 6 vf F.length (dlsV F) := h.rf
  have ro : w.ownsRow base 147 4 vo (K.length + 1) (brsV (K ++ [k])) := by have := h.ro; simp only [hlen] at this; exact this
  have hfb := h.nf
  have hob := h.no
  have hfo := h.fo
  have hblk := h.blk
  have hbb := h.hb
  subst hvf hvo
  have hgfo : gf ≠ go_ := fun e => hfo gf rfl (by rw [e]; rfl)
  have hgfb : gf ≠ b := fun e => hfb (by rw [e]; rfl)
  have hgob : go_ ≠ b := fun e => hob (by rw [e]; rfl)
  have hbgf : base ≤ gf := (rf.lt gf rfl).1
  have hbgo : base ≤ go_ := (ro.lt go_ rfl).1
  have ffz : ∀ i, w.frozen? ⟨gf, i, none⟩ = false := V.frozen_row rf
  have fbz : ∀ i, w.frozen? ⟨go_, i, none⟩ = false := V.frozen_row ro
  have k0 : w.cell? ⟨go_, K.length * 4, none⟩ = some (.int .i64 (k.wh : Int)) := hcb 0 _ rfl
  have k1 : w.cell? ⟨go_, K.length * 4 + 1, none⟩ = some (.int .u8 (k.o.toNat : Int)) := hcb 1 _ rfl
  have k2 : w.cell? ⟨go_, K.length * 4 + 2, none⟩ = some (.int .u8 (k.c.toNat : Int)) := hcb 2 _ rfl
  have k3 : w.cell? ⟨go_, K.length * 4 + 3, none⟩ = some (.int .i64 (k.deep : Int)) := hcb 3 _ rfl
  have d1 : w.cell? ⟨gf, k.wh * 6 + 1, none⟩ = some (.int .i64 (D.en : Int)) := hcd 1 _ rfl
  have d3 : w.cell? ⟨gf, k.wh * 6 + 3, none⟩ = some (.int .i64 (D.nt : Int)) := hcd 3 _ rfl
  have d4 : w.cell? ⟨gf, k.wh * 6 + 4, none⟩ = some (.int .i64 (D.mf : Int)) := hcd 4 _ rfl
  have d5 : w.cell? ⟨gf, k.wh * 6 + 5, none⟩ = some (.int .i64 (D.mt : Int)) := hcd 5 _ rfl
  have HR : Hid (w.heap[b]? = some (.cells #[.string s, .int .i64 (p : Int), .slice (some ⟨gf, 0, none⟩) F.length cf, .slice (some ⟨go_, 0, none⟩) (K.length + 1) co] 121 (0, 0)) ∧ w.ownsRow base 142 6 (.slice (some ⟨gf, 0, none⟩) F.length cf) F.length (dlsV F) ∧ w.ownsRow base 147 4 (.slice (some ⟨go_, 0, none⟩) (K.length + 1) co) (K.length + 1) (brsV (K ++ [k])) ∧ base ≤ b ∧ F[k.wh]? = some D) := ⟨hblk, rf, ro, hbb, hD⟩
  have HNE : Hid (gf ≠ go_ ∧ gf ≠ b ∧ go_ ≠ b ∧ base ≤ gf ∧ base ≤ go_) := ⟨hgfo, hgfb, hgob, hbgf, hbgo⟩
  obtain ⟨m, hme⟩ : ∃ m, m = K.length := ⟨_, rfl⟩
  have HM : Hid (m = K.length) := hme
  obtain ⟨n, hne⟩ : ∃ n, n = F.length := ⟨_, rfl⟩
  have HN : Hid (n = F.length) := hne
  obtain ⟨wh, hwe⟩ : ∃ wh, wh = k.wh := ⟨_, rfl⟩
  have HWH : Hid (wh = k.wh) := hwe
  rw [← hme] at c3 k0 k1 k2 k3 hKl hco
  rw [← hne] at c2 hwh hFl
  rw [← hwe] at k0 d1 d3 d4 d5 hwh
  have hwi : (wh : Int) < (n : Int) := by omega
  obtain ⟨xn, hxn⟩ : ∃ xn, xn = x.toNat := ⟨_, rfl⟩
  obtain ⟨on, hon⟩ : ∃ on, on = k.o.toNat := ⟨_, rfl⟩
  obtain ⟨cn, hcn⟩ : ∃ cn, cn = k.c.toNat := ⟨_, rfl⟩
  obtain ⟨dp, hdpe⟩ : ∃ dp, dp = k.deep := ⟨_, rfl⟩
  have HDP : Hid (dp = k.deep) := hdpe
  have hx58 : ¬ (x.toNat : Int) = 58 := fun e => hx (UInt8.toNat_inj.mp (by show x.toNat = 58; omega))
  have hx58b : ((x.toNat : Int) == 58) = false := by rw [beq_eq_false_iff_ne]; exact hx58
  have hoi : ¬ (x.toNat : Int) = (k.o.toNat : Int) := fun e => ho (UInt8.toNat_inj.mp (by omega))
  have hob : ((x.toNat : Int) == (k.o.toNat : Int)) = false := by rw [beq_eq_false_iff_ne]; exact hoi
  have hci : ¬ (x.toNat : Int) = (k.c.toNat : Int) := fun e => hc (UInt8.toNat_inj.mp (by omega))
  have hcb : ((x.toNat : Int) == (k.c.toNat : Int)) = false := by rw [beq_eq_false_iff_ne]; exact hci
  rw [← hon] at k1
  rw [← hcn] at k2
  rw [← hdpe] at k3 hdp
  rw [← hxn]
  rw [← hxn] at hx58 hx58b
  rw [← hxn, ← hon] at hoi hob
  rw [← hxn, ← hcn] at hci hcb
  clear ffz fbz hdpe hon hcn hx ho hc hxn
  clear h hD hcd hcb hlen rf ro hfb hob hfo hblk hbb hgfo hgfb hgob hbgf hbgo hme hne hwe hm
  go_enter Tryd.func79, Tryd.ntmps79
  go_wp2_with fail
  go_quiet (fail)
  go_wp2_with fail
  go_wp2
  go_end0
  try rw [HM.out]
  try rw [HN.out]
  try rw [HWH.out]
  obtain ⟨g1, g2, g3, g4, g5⟩ := HR.out
  obtain ⟨n1, n2, n3, n4, n5⟩ := HNE.out
  refine ⟨rfl, .slice (some ⟨gf, 0, none⟩) F.length cf, .slice (some ⟨go_, 0, none⟩) (K.length + 1) co, ⟨g1, g2.kept (row := none) ⟨rfl, rfl, rfl, Nat.le_refl _, fun _ _ _ => rfl⟩ (Classical.em _), ?_, g4⟩, below_drewN (Below.refl _ _) _⟩
  simp only [List.length_append, List.length_singleton]
  exact g3.kept (row := none) ⟨rfl, rfl, rfl, Nat.le_refl _, fun _ _ _ => rfl⟩ (Classical.em _)

set_option maxRecDepth 20000 in
set_option maxHeartbeats 1600000 in
theorem in_opens {base b : Nat} {s : ByteArray} {vf vo : Value} {F : List Dl} {K : List Br} {k : Br} {D : Dl} {p : Nat} (w : World) (h : SnR base b s vf vo ⟨p, F, K ++ [k]⟩ w) (hD : F[k.wh]? = some D) (x : UInt8) (hbd : p ≤ 1000000 ∧ K.length ≤ 1000000 ∧ F.length ≤ 1000000 ∧ k.deep ≤ 1000000) (hx : x ≠ 58) (ho : x = k.o) :
    Calls Tryd.prog 79 #[.pointer (some ⟨b, 0, none⟩), .int .u8 (x.toNat : Int)] w (InPost base b s ⟨p, F, K ++ [{ k with deep := k.deep + 1 }]⟩ w) := by
  obtain ⟨hp, hKl, hFl, hdp⟩ := hbd
  obtain ⟨gf, cf, hvf, hwh, hcd⟩ := h.dollar hD
  obtain ⟨go_, co, hvo, hm, hco, hcb⟩ := h.bracket (i := K.length) (k := k) (by simp)
  have hlen : (K ++ [k]).length = K.length + 1 := by simp
  simp only [hlen] at hvo hm hco
  simp only at hvf
  have c1 : w.cell? ⟨b, 1, none⟩ = some (.int .i64 (p : Int)) := h.c1
  have c2 := h.c2
  have c3 := h.c3
  have f3 := h.fr 3
  have rf : w.ownsRow base 142 6 vf F.length (dlsV F) := h.rf
  have ro : w.ownsRow base 147 4 vo (K.length + 1) (brsV (K ++ [k])) := by have := h.ro; simp only [hlen] at this; exact this
  have hfb := h.nf
  have hob := h.no
  have hfo := h.fo
  have hblk := h.blk
  have hbb := h.hb
  subst hvf hvo
  have hgfo : gf ≠ go_ := fun e => hfo gf rfl (by rw [e]; rfl)
  have hgfb : gf ≠ b := fun e => hfb (by rw [e]; rfl)
  have hgob : go_ ≠ b := fun e => hob (by rw [e]; rfl)
  have hbgf : base ≤ gf := (rf.lt gf rfl).1
  have hbgo : base ≤ go_ := (ro.lt go_ rfl).1
  have ffz : ∀ i, w.frozen? ⟨gf, i, none⟩ = false := V.frozen_row rf
  have fbz : ∀ i, w.frozen? ⟨go_, i, none⟩ = false := V.frozen_row ro
  have k0 : w.cell? ⟨go_, K.length * 4, none⟩ = some (.int .i64 (k.wh : Int)) := hcb 0 _ rfl
  have k1 : w.cell? ⟨go_, K.length * 4 + 1, none⟩ = some (.int .u8 (k.o.toNat : Int)) := hcb 1 _ rfl
  have k2 : w.cell? ⟨go_, K.length * 4 + 2, none⟩ = some (.int .u8 (k.c.toNat : Int)) := hcb 2 _ rfl
  have k3 : w.cell? ⟨go_, K.length * 4 + 3, none⟩ = some (.int .i64 (k.deep : Int)) := hcb 3 _ rfl
  have d1 : w.cell? ⟨gf, k.wh * 6 + 1, none⟩ = some (.int .i64 (D.en : Int)) := hcd 1 _ rfl
  have d3 : w.cell? ⟨gf, k.wh * 6 + 3, none⟩ = some (.int .i64 (D.nt : Int)) := hcd 3 _ rfl
  have d4 : w.cell? ⟨gf, k.wh * 6 + 4, none⟩ = some (.int .i64 (D.mf : Int)) := hcd 4 _ rfl
  have d5 : w.cell? ⟨gf, k.wh * 6 + 5, none⟩ = some (.int .i64 (D.mt : Int)) := hcd 5 _ rfl
  have HR : Hid (w.heap[b]? = some (.cells #[.string s, .int .i64 (p : Int), .slice (some ⟨gf, 0, none⟩) F.length cf, .slice (some ⟨go_, 0, none⟩) (K.length + 1) co] 121 (0, 0)) ∧ w.ownsRow base 142 6 (.slice (some ⟨gf, 0, none⟩) F.length cf) F.length (dlsV F) ∧ w.ownsRow base 147 4 (.slice (some ⟨go_, 0, none⟩) (K.length + 1) co) (K.length + 1) (brsV (K ++ [k])) ∧ base ≤ b ∧ F[k.wh]? = some D) := ⟨hblk, rf, ro, hbb, hD⟩
  have HNE : Hid (gf ≠ go_ ∧ gf ≠ b ∧ go_ ≠ b ∧ base ≤ gf ∧ base ≤ go_) := ⟨hgfo, hgfb, hgob, hbgf, hbgo⟩
  obtain ⟨m, hme⟩ : ∃ m, m = K.length := ⟨_, rfl⟩
  have HM : Hid (m = K.length) := hme
  obtain ⟨n, hne⟩ : ∃ n, n = F.length := ⟨_, rfl⟩
  have HN : Hid (n = F.length) := hne
  obtain ⟨wh, hwe⟩ : ∃ wh, wh = k.wh := ⟨_, rfl⟩
  have HWH : Hid (wh = k.wh) := hwe
  rw [← hme] at c3 k0 k1 k2 k3 hKl hco
  rw [← hne] at c2 hwh hFl
  rw [← hwe] at k0 d1 d3 d4 d5 hwh
  have hwi : (wh : Int) < (n : Int) := by omega
  obtain ⟨xn, hxn⟩ : ∃ xn, xn = x.toNat := ⟨_, rfl⟩
  obtain ⟨on, hon⟩ : ∃ on, on = k.o.toNat := ⟨_, rfl⟩
  obtain ⟨cn, hcn⟩ : ∃ cn, cn = k.c.toNat := ⟨_, rfl⟩
  obtain ⟨dp, hdpe⟩ : ∃ dp, dp = k.deep := ⟨_, rfl⟩
  have HDP : Hid (dp = k.deep) := hdpe
  have hx58 : ¬ (x.toNat : Int) = 58 := fun e => hx (UInt8.toNat_inj.mp (by show x.toNat = 58; omega))
  have hx58b : ((x.toNat : Int) == 58) = false := by rw [beq_eq_false_iff_ne]; exact hx58
  have ho_i : (x.toNat : Int) = (k.o.toNat : Int) := by rw [ho]
  have f3b := fbz (m * 4 + 3)
  rw [← hon] at k1
  rw [← hcn] at k2
  rw [← hdpe] at k3 hdp
  rw [← hxn]
  rw [← hxn] at hx58 hx58b
  rw [← hxn, ← hon] at ho_i
  have ho_j : xn = on := by omega
  clear ho_i
  subst ho_j
  clear ffz fbz hdpe hon hcn hx ho hxn
  clear h hD hcd hcb hlen rf ro hfb hob hfo hblk hbb hgfo hgfb hgob hbgf hbgo hme hne hwe hm
  go_enter Tryd.func79, Tryd.ntmps79
  go_wp2_with fail
  go_quiet (fail)
  go_wp2_with fail
  go_wp2
  go_end0
  try rw [HM.out]
  try rw [HN.out]
  try rw [HWH.out]
  obtain ⟨g1, g2, g3, g4, g5⟩ := HR.out
  obtain ⟨n1, n2, n3, n4, n5⟩ := HNE.out
  refine ⟨rfl, .slice (some ⟨gf, 0, none⟩) F.length cf, .slice (some ⟨go_, 0, none⟩) (K.length + 1) co, ⟨?_, row_set (g2.kept (row := none) ⟨rfl, rfl, rfl, Nat.le_refl _, fun _ _ _ => rfl⟩ (Classical.em _)) (by simp [Value.ownBlock]; exact n1) _, ?_, g4⟩, below_set (below_drewN (Below.refl _ _) _) n5⟩
  · rw [Below.heap_setCell _ _ _ _ (Ne.symm n3)]; exact g1
  · simp only [List.length_append, List.length_singleton]
    rw [brs_last K k { k with deep := k.deep + 1 } 3 (.int .i64 ((dp : Int) + 1)) (by omega) (by rw [HDP.out]; rfl)]
    exact V.owns_put (g3.kept (row := none) ⟨rfl, rfl, rfl, Nat.le_refl _, fun _ _ _ => rfl⟩ (Classical.em _)) _

set_option maxRecDepth 20000 in
set_option maxHeartbeats 1600000 in
theorem in_less {base b : Nat} {s : ByteArray} {vf vo : Value} {F : List Dl} {K : List Br} {k : Br} {D : Dl} {p : Nat} (w : World) (h : SnR base b s vf vo ⟨p, F, K ++ [k]⟩ w) (hD : F[k.wh]? = some D) (x : UInt8) (hbd : p ≤ 1000000 ∧ K.length ≤ 1000000 ∧ F.length ≤ 1000000 ∧ k.deep ≤ 1000000) (hx : x ≠ 58) (ho : x ≠ k.o) (hc : x = k.c) (hd : 0 < k.deep) :
    Calls Tryd.prog 79 #[.pointer (some ⟨b, 0, none⟩), .int .u8 (x.toNat : Int)] w (InPost base b s ⟨p, F, K ++ [{ k with deep := k.deep - 1 }]⟩ w) := by
  obtain ⟨hp, hKl, hFl, hdp⟩ := hbd
  obtain ⟨gf, cf, hvf, hwh, hcd⟩ := h.dollar hD
  obtain ⟨go_, co, hvo, hm, hco, hcb⟩ := h.bracket (i := K.length) (k := k) (by simp)
  have hlen : (K ++ [k]).length = K.length + 1 := by simp
  simp only [hlen] at hvo hm hco
  simp only at hvf
  have c1 : w.cell? ⟨b, 1, none⟩ = some (.int .i64 (p : Int)) := h.c1
  have c2 := h.c2
  have c3 := h.c3
  have f3 := h.fr 3
  have rf : w.ownsRow base 142 6 vf F.length (dlsV F) := h.rf
  have ro : w.ownsRow base 147 4 vo (K.length + 1) (brsV (K ++ [k])) := by have := h.ro; simp only [hlen] at this; exact this
  have hfb := h.nf
  have hob := h.no
  have hfo := h.fo
  have hblk := h.blk
  have hbb := h.hb
  subst hvf hvo
  have hgfo : gf ≠ go_ := fun e => hfo gf rfl (by rw [e]; rfl)
  have hgfb : gf ≠ b := fun e => hfb (by rw [e]; rfl)
  have hgob : go_ ≠ b := fun e => hob (by rw [e]; rfl)
  have hbgf : base ≤ gf := (rf.lt gf rfl).1
  have hbgo : base ≤ go_ := (ro.lt go_ rfl).1
  have ffz : ∀ i, w.frozen? ⟨gf, i, none⟩ = false := V.frozen_row rf
  have fbz : ∀ i, w.frozen? ⟨go_, i, none⟩ = false := V.frozen_row ro
  have k0 : w.cell? ⟨go_, K.length * 4, none⟩ = some (.int .i64 (k.wh : Int)) := hcb 0 _ rfl
  have k1 : w.cell? ⟨go_, K.length * 4 + 1, none⟩ = some (.int .u8 (k.o.toNat : Int)) := hcb 1 _ rfl
  have k2 : w.cell? ⟨go_, K.length * 4 + 2, none⟩ = some (.int .u8 (k.c.toNat : Int)) := hcb 2 _ rfl
  have k3 : w.cell? ⟨go_, K.length * 4 + 3, none⟩ = some (.int .i64 (k.deep : Int)) := hcb 3 _ rfl
  have d1 : w.cell? ⟨gf, k.wh * 6 + 1, none⟩ = some (.int .i64 (D.en : Int)) := hcd 1 _ rfl
  have d3 : w.cell? ⟨gf, k.wh * 6 + 3, none⟩ = some (.int .i64 (D.nt : Int)) := hcd 3 _ rfl
  have d4 : w.cell? ⟨gf, k.wh * 6 + 4, none⟩ = some (.int .i64 (D.mf : Int)) := hcd 4 _ rfl
  have d5 : w.cell? ⟨gf, k.wh * 6 + 5, none⟩ = some (.int .i64 (D.mt : Int)) := hcd 5 _ rfl
  have HR : Hid (w.heap[b]? = some (.cells #[.string s, .int .i64 (p : Int), .slice (some ⟨gf, 0, none⟩) F.length cf, .slice (some ⟨go_, 0, none⟩) (K.length + 1) co] 121 (0, 0)) ∧ w.ownsRow base 142 6 (.slice (some ⟨gf, 0, none⟩) F.length cf) F.length (dlsV F) ∧ w.ownsRow base 147 4 (.slice (some ⟨go_, 0, none⟩) (K.length + 1) co) (K.length + 1) (brsV (K ++ [k])) ∧ base ≤ b ∧ F[k.wh]? = some D) := ⟨hblk, rf, ro, hbb, hD⟩
  have HNE : Hid (gf ≠ go_ ∧ gf ≠ b ∧ go_ ≠ b ∧ base ≤ gf ∧ base ≤ go_) := ⟨hgfo, hgfb, hgob, hbgf, hbgo⟩
  obtain ⟨m, hme⟩ : ∃ m, m = K.length := ⟨_, rfl⟩
  have HM : Hid (m = K.length) := hme
  obtain ⟨n, hne⟩ : ∃ n, n = F.length := ⟨_, rfl⟩
  have HN : Hid (n = F.length) := hne
  obtain ⟨wh, hwe⟩ : ∃ wh, wh = k.wh := ⟨_, rfl⟩
  have HWH : Hid (wh = k.wh) := hwe
  rw [← hme] at c3 k0 k1 k2 k3 hKl hco
  rw [← hne] at c2 hwh hFl
  rw [← hwe] at k0 d1 d3 d4 d5 hwh
  have hwi : (wh : Int) < (n : Int) := by omega
  obtain ⟨xn, hxn⟩ : ∃ xn, xn = x.toNat := ⟨_, rfl⟩
  obtain ⟨on, hon⟩ : ∃ on, on = k.o.toNat := ⟨_, rfl⟩
  obtain ⟨cn, hcn⟩ : ∃ cn, cn = k.c.toNat := ⟨_, rfl⟩
  obtain ⟨dp, hdpe⟩ : ∃ dp, dp = k.deep := ⟨_, rfl⟩
  have HDP : Hid (dp = k.deep) := hdpe
  have hx58 : ¬ (x.toNat : Int) = 58 := fun e => hx (UInt8.toNat_inj.mp (by show x.toNat = 58; omega))
  have hx58b : ((x.toNat : Int) == 58) = false := by rw [beq_eq_false_iff_ne]; exact hx58
  have hoi : ¬ (x.toNat : Int) = (k.o.toNat : Int) := fun e => ho (UInt8.toNat_inj.mp (by omega))
  have hob : ((x.toNat : Int) == (k.o.toNat : Int)) = false := by rw [beq_eq_false_iff_ne]; exact hoi
  have hc_i : (x.toNat : Int) = (k.c.toNat : Int) := by rw [hc]
  have f3b := fbz (m * 4 + 3)
  have hdi : (0 : Int) < (k.deep : Int) := by omega
  rw [← hdpe] at hdi
  clear hd
  rw [← hon] at k1
  rw [← hcn] at k2
  rw [← hdpe] at k3 hdp
  rw [← hxn]
  rw [← hxn] at hx58 hx58b
  rw [← hxn, ← hon] at hoi hob
  rw [← hxn, ← hcn] at hc_i
  have hc_j : xn = cn := by omega
  clear hc_i
  subst hc_j
  clear ffz fbz hdpe hon hcn hx ho hc hxn
  clear h hD hcd hcb hlen rf ro hfb hob hfo hblk hbb hgfo hgfb hgob hbgf hbgo hme hne hwe hm
  go_enter Tryd.func79, Tryd.ntmps79
  go_wp2_with fail
  go_quiet (fail)
  go_wp2_with fail
  go_wp2
  go_end0
  try rw [HM.out]
  try rw [HN.out]
  try rw [HWH.out]
  obtain ⟨g1, g2, g3, g4, g5⟩ := HR.out
  obtain ⟨n1, n2, n3, n4, n5⟩ := HNE.out
  refine ⟨rfl, .slice (some ⟨gf, 0, none⟩) F.length cf, .slice (some ⟨go_, 0, none⟩) (K.length + 1) co, ⟨?_, row_set (g2.kept (row := none) ⟨rfl, rfl, rfl, Nat.le_refl _, fun _ _ _ => rfl⟩ (Classical.em _)) (by simp [Value.ownBlock]; exact n1) _, ?_, g4⟩, below_set (below_drewN (Below.refl _ _) _) n5⟩
  · rw [Below.heap_setCell _ _ _ _ (Ne.symm n3)]; exact g1
  · simp only [List.length_append, List.length_singleton]
    rw [brs_last K k { k with deep := k.deep - 1 } 3 (.int .i64 ((dp : Int) - 1)) (by omega) (by have := hdi; rw [HDP.out] at this ⊢; simp only [brC, List.set_cons_succ, List.set_cons_zero]; rw [show ((k.deep - 1 : Nat) : Int) = (k.deep : Int) - 1 by omega])]
    exact V.owns_put (g3.kept (row := none) ⟨rfl, rfl, rfl, Nat.le_refl _, fun _ _ _ => rfl⟩ (Classical.em _)) _

set_option maxRecDepth 20000 in
set_option maxHeartbeats 1600000 in
theorem in_endA {base b : Nat} {s : ByteArray} {vf vo : Value} {F : List Dl} {K : List Br} {k : Br} {D : Dl} {p : Nat} (w : World) (h : SnR base b s vf vo ⟨p, F, K ++ [k]⟩ w) (hD : F[k.wh]? = some D) (x : UInt8) (hbd : p ≤ 1000000 ∧ K.length ≤ 1000000 ∧ F.length ≤ 1000000 ∧ k.deep ≤ 1000000) (hx : x ≠ 58) (ho : x ≠ k.o) (hc : x = k.c) (hd : k.deep = 0) (hnt : D.nt = 0) :
    Calls Tryd.prog 79 #[.pointer (some ⟨b, 0, none⟩), .int .u8 (x.toNat : Int)] w (InPost base b s ⟨p, F.set k.wh { D with nt := p, en := p + 1 }, K⟩ w) := by
  obtain ⟨hp, hKl, hFl, hdp⟩ := hbd
  obtain ⟨gf, cf, hvf, hwh, hcd⟩ := h.dollar hD
  obtain ⟨go_, co, hvo, hm, hco, hcb⟩ := h.bracket (i := K.length) (k := k) (by simp)
  have hlen : (K ++ [k]).length = K.length + 1 := by simp
  simp only [hlen] at hvo hm hco
  simp only at hvf
  have c1 : w.cell? ⟨b, 1, none⟩ = some (.int .i64 (p : Int)) := h.c1
  have c2 := h.c2
  have c3 := h.c3
  have f3 := h.fr 3
  have rf : w.ownsRow base 142 6 vf F.length (dlsV F) := h.rf
  have ro : w.ownsRow base 147 4 vo (K.length + 1) (brsV (K ++ [k])) := by have := h.ro; simp only [hlen] at this; exact this
  have hfb := h.nf
  have hob := h.no
  have hfo := h.fo
  have hblk := h.blk
  have hbb := h.hb
  subst hvf hvo
  have hgfo : gf ≠ go_ := fun e => hfo gf rfl (by rw [e]; rfl)
  have hgfb : gf ≠ b := fun e => hfb (by rw [e]; rfl)
  have hgob : go_ ≠ b := fun e => hob (by rw [e]; rfl)
  have hbgf : base ≤ gf := (rf.lt gf rfl).1
  have hbgo : base ≤ go_ := (ro.lt go_ rfl).1
  have ffz : ∀ i, w.frozen? ⟨gf, i, none⟩ = false := V.frozen_row rf
  have fbz : ∀ i, w.frozen? ⟨go_, i, none⟩ = false := V.frozen_row ro
  have k0 : w.cell? ⟨go_, K.length * 4, none⟩ = some (.int .i64 (k.wh : Int)) := hcb 0 _ rfl
  have k1 : w.cell? ⟨go_, K.length * 4 + 1, none⟩ = some (.int .u8 (k.o.toNat : Int)) := hcb 1 _ rfl
  have k2 : w.cell? ⟨go_, K.length * 4 + 2, none⟩ = some (.int .u8 (k.c.toNat : Int)) := hcb 2 _ rfl
  have k3 : w.cell? ⟨go_, K.length * 4 + 3, none⟩ = some (.int .i64 (k.deep : Int)) := hcb 3 _ rfl
  have d1 : w.cell? ⟨gf, k.wh * 6 + 1, none⟩ = some (.int .i64 (D.en : Int)) := hcd 1 _ rfl
  have d3 : w.cell? ⟨gf, k.wh * 6 + 3, none⟩ = some (.int .i64 (D.nt : Int)) := hcd 3 _ rfl
  have d4 : w.cell? ⟨gf, k.wh * 6 + 4, none⟩ = some (.int .i64 (D.mf : Int)) := hcd 4 _ rfl
  have d5 : w.cell? ⟨gf, k.wh * 6 + 5, none⟩ = some (.int .i64 (D.mt : Int)) := hcd 5 _ rfl
  have HR : Hid (w.heap[b]? = some (.cells #[.string s, .int .i64 (p : Int), .slice (some ⟨gf, 0, none⟩) F.length cf, .slice (some ⟨go_, 0, none⟩) (K.length + 1) co] 121 (0, 0)) ∧ w.ownsRow base 142 6 (.slice (some ⟨gf, 0, none⟩) F.length cf) F.length (dlsV F) ∧ w.ownsRow base 147 4 (.slice (some ⟨go_, 0, none⟩) (K.length + 1) co) (K.length + 1) (brsV (K ++ [k])) ∧ base ≤ b ∧ F[k.wh]? = some D) := ⟨hblk, rf, ro, hbb, hD⟩
  have HNE : Hid (gf ≠ go_ ∧ gf ≠ b ∧ go_ ≠ b ∧ base ≤ gf ∧ base ≤ go_) := ⟨hgfo, hgfb, hgob, hbgf, hbgo⟩
  obtain ⟨m, hme⟩ : ∃ m, m = K.length := ⟨_, rfl⟩
  have HM : Hid (m = K.length) := hme
  obtain ⟨n, hne⟩ : ∃ n, n = F.length := ⟨_, rfl⟩
  have HN : Hid (n = F.length) := hne
  obtain ⟨wh, hwe⟩ : ∃ wh, wh = k.wh := ⟨_, rfl⟩
  have HWH : Hid (wh = k.wh) := hwe
  rw [← hme] at c3 k0 k1 k2 k3 hKl hco
  rw [← hne] at c2 hwh hFl
  rw [← hwe] at k0 d1 d3 d4 d5 hwh
  have hwi : (wh : Int) < (n : Int) := by omega
  obtain ⟨xn, hxn⟩ : ∃ xn, xn = x.toNat := ⟨_, rfl⟩
  obtain ⟨on, hon⟩ : ∃ on, on = k.o.toNat := ⟨_, rfl⟩
  obtain ⟨cn, hcn⟩ : ∃ cn, cn = k.c.toNat := ⟨_, rfl⟩
  obtain ⟨dp, hdpe⟩ : ∃ dp, dp = k.deep := ⟨_, rfl⟩
  have HDP : Hid (dp = k.deep) := hdpe
  have hx58 : ¬ (x.toNat : Int) = 58 := fun e => hx (UInt8.toNat_inj.mp (by show x.toNat = 58; omega))
  have hx58b : ((x.toNat : Int) == 58) = false := by rw [beq_eq_false_iff_ne]; exact hx58
  have hoi : ¬ (x.toNat : Int) = (k.o.toNat : Int) := fun e => ho (UInt8.toNat_inj.mp (by omega))
  have hob : ((x.toNat : Int) == (k.o.toNat : Int)) = false := by rw [beq_eq_false_iff_ne]; exact hoi
  have hc_i : (x.toNat : Int) = (k.c.toNat : Int) := by rw [hc]
  have HEn : Hid (∀ q, Calls Tryd.prog 91 #[.pointer (some ⟨gf, wh * 6, none⟩), .int .i64 (p : Int)] (w.drewN q) fun e w' => e = .returned (.tuple #[]) ∧ ((w.drewN q).setCell ⟨gf, wh * 6 + 3, none⟩ (.int .i64 (p : Int))).setCell ⟨gf, wh * 6 + 1, none⟩ (.int .i64 ((p : Int) + 1)) = w') := fun q => end_yes gf (wh * 6) p _ (w.drewN q) (by rw [show (w.drewN q).cell? ⟨gf, wh * 6 + 3, none⟩ = w.cell? ⟨gf, wh * 6 + 3, none⟩ from rfl, d3, hnt]; rfl) (by omega) d1 ffz
  have hd0 : dp = 0 := by rw [hdpe]; exact hd
  have hdm : (m : Int) ≤ (co : Int) := by omega
  have c3n : ∀ (q : Nat) (i : Nat) (y z : Value), (((w.drewN q).setCell ⟨gf, wh * 6 + i, none⟩ y).setCell ⟨gf, wh * 6 + 1, none⟩ z).cell? ⟨b, 3, none⟩ = some (.slice (some ⟨go_, 0, none⟩) (m + 1) co) := fun q i y z => by
    obtain ⟨g1, _⟩ := HR.out
    have n2 := HNE.out.2.1
    rw [← HM.out] at g1
    have h2 : (((w.drewN q).setCell ⟨gf, wh * 6 + i, none⟩ y).setCell ⟨gf, wh * 6 + 1, none⟩ z).heap[b]? = some (.cells #[.string s, .int .i64 (p : Int), .slice (some ⟨gf, 0, none⟩) F.length cf, .slice (some ⟨go_, 0, none⟩) (m + 1) co] 121 (0, 0)) := by rw [Below.heap_setCell _ _ _ _ (Ne.symm n2), Below.heap_setCell _ _ _ _ (Ne.symm n2)]; exact g1
    exact V.cell_in h2 3 rfl
  have c3f : ∀ (q : Nat) (i : Nat) (y z : Value), (((w.drewN q).setCell ⟨gf, wh * 6 + i, none⟩ y).setCell ⟨gf, wh * 6 + 1, none⟩ z).frozen? ⟨b, 3, none⟩ = false := fun q i y z => by
    obtain ⟨g1, _⟩ := HR.out
    have n2 := HNE.out.2.1
    have h2 : (((w.drewN q).setCell ⟨gf, wh * 6 + i, none⟩ y).setCell ⟨gf, wh * 6 + 1, none⟩ z).heap[b]? = some (.cells #[.string s, .int .i64 (p : Int), .slice (some ⟨gf, 0, none⟩) F.length cf, .slice (some ⟨go_, 0, none⟩) (K.length + 1) co] 121 (0, 0)) := by rw [Below.heap_setCell _ _ _ _ (Ne.symm n2), Below.heap_setCell _ _ _ _ (Ne.symm n2)]; exact g1
    simp [World.frozen?, h2]
  rw [← hdpe] at hd
  clear hd hnt
  rw [← hon] at k1
  rw [← hcn] at k2
  rw [← hdpe] at k3 hdp
  rw [← hxn]
  rw [← hxn] at hx58 hx58b
  rw [← hxn, ← hon] at hoi hob
  rw [← hxn, ← hcn] at hc_i
  have hc_j : xn = cn := by omega
  clear hc_i
  subst hc_j
  clear ffz fbz hdpe hon hcn hx ho hc hxn
  clear h hD hcd hcb hlen rf ro hfb hob hfo hblk hbb hgfo hgfb hgob hbgf hbgo hme hne hwe hm
  go_enter Tryd.func79, Tryd.ntmps79
  go_wp2_with fail
  go_quiet (fail)
  go_wp2_with fail
  subst hd0
  go_wp2_with fail
  refine (HEn.out _).mono ?_
  rintro e w' ⟨rfl, hw'⟩
  have q3 := c3n nq 3 (.int .i64 (p : Int)) (.int .i64 ((p : Int) + 1))
  have q3f := c3f nq 3 (.int .i64 (p : Int)) (.int .i64 ((p : Int) + 1))
  rw [hw'] at q3 q3f
  clear c3n c3f
  go_wp2
  rw [← hw']
  go_end0
  try rw [HM.out]
  try rw [HN.out]
  try rw [HWH.out]
  obtain ⟨g1, g2, g3, g4, g5⟩ := HR.out
  obtain ⟨n1, n2, n3, n4, n5⟩ := HNE.out
  refine ⟨rfl, .slice (some ⟨gf, 0, none⟩) F.length cf, .slice (some ⟨go_, 0, none⟩) K.length co, ⟨?_, ?_, ?_, g4⟩, below_set (below_set (below_set (below_drewN (Below.refl _ _) _) n4) n4) g4⟩
  · have e0 := heap_set (b := b) (i := 3) (w := ((w.drewN nq).setCell ⟨gf, k.wh * 6 + 3, none⟩ (.int .i64 (p : Int))).setCell ⟨gf, k.wh * 6 + 1, none⟩ (.int .i64 ((p : Int) + 1))) (by rw [Below.heap_setCell _ _ _ _ (Ne.symm n2), Below.heap_setCell _ _ _ _ (Ne.symm n2)]; exact g1) (.slice (some ⟨go_, 0, none⟩) K.length co)
    exact e0
  · have e1 : dlsV (F.set k.wh { D with nt := p, en := p + 1 }) = ((dlsV F).set (k.wh * 6 + 3) (.int .i64 (p : Int))).set (k.wh * 6 + 1) (.int .i64 ((p : Int) + 1)) := by
      unfold dlsV
      rw [← fl_set dlC 6 dl_len F k.wh 3 D { D with nt := p } (.int .i64 (p : Int)) g5 (by omega) rfl]
      rw [← fl_set dlC 6 dl_len (F.set k.wh { D with nt := p }) k.wh 1 { D with nt := p } { D with nt := p, en := p + 1 } (.int .i64 ((p : Int) + 1)) (set_same g5) (by omega) rfl, List.set_set]
    simp only [e1, List.length_set]
    exact row_set (V.owns_put (V.owns_put (g2.kept (row := none) ⟨rfl, rfl, rfl, Nat.le_refl _, fun _ _ _ => rfl⟩ (Classical.em _)) _) _) (by simp [Value.ownBlock]; exact n2) _
  · have e2 : brsV (K ++ [k]) = brsV K ++ brC k := by unfold brsV; rw [List.flatMap_append]; simp
    rw [e2] at g3
    have g3' := owns_pop g3 (by unfold brsV; rw [fl_len brC 4 br_len])
    exact row_set (row_set (row_set (g3'.kept (row := none) ⟨rfl, rfl, rfl, Nat.le_refl _, fun _ _ _ => rfl⟩ (Classical.em _)) (by simp [Value.ownBlock]; exact Ne.symm n1) _) (by simp [Value.ownBlock]; exact Ne.symm n1) _) (by simp [Value.ownBlock]; exact n3) _

set_option maxRecDepth 20000 in
set_option maxHeartbeats 1600000 in
theorem in_endB {base b : Nat} {s : ByteArray} {vf vo : Value} {F : List Dl} {K : List Br} {k : Br} {D : Dl} {p : Nat} (w : World) (h : SnR base b s vf vo ⟨p, F, K ++ [k]⟩ w) (hD : F[k.wh]? = some D) (x : UInt8) (hbd : p ≤ 1000000 ∧ K.length ≤ 1000000 ∧ F.length ≤ 1000000 ∧ k.deep ≤ 1000000) (hx : x ≠ 58) (ho : x ≠ k.o) (hc : x = k.c) (hd : k.deep = 0) (hnt : 1 ≤ D.nt) :
    Calls Tryd.prog 79 #[.pointer (some ⟨b, 0, none⟩), .int .u8 (x.toNat : Int)] w (InPost base b s ⟨p, F.set k.wh { D with mt := p, en := p + 1 }, K⟩ w) := by
  obtain ⟨hp, hKl, hFl, hdp⟩ := hbd
  obtain ⟨gf, cf, hvf, hwh, hcd⟩ := h.dollar hD
  obtain ⟨go_, co, hvo, hm, hco, hcb⟩ := h.bracket (i := K.length) (k := k) (by simp)
  have hlen : (K ++ [k]).length = K.length + 1 := by simp
  simp only [hlen] at hvo hm hco
  simp only at hvf
  have c1 : w.cell? ⟨b, 1, none⟩ = some (.int .i64 (p : Int)) := h.c1
  have c2 := h.c2
  have c3 := h.c3
  have f3 := h.fr 3
  have rf : w.ownsRow base 142 6 vf F.length (dlsV F) := h.rf
  have ro : w.ownsRow base 147 4 vo (K.length + 1) (brsV (K ++ [k])) := by have := h.ro; simp only [hlen] at this; exact this
  have hfb := h.nf
  have hob := h.no
  have hfo := h.fo
  have hblk := h.blk
  have hbb := h.hb
  subst hvf hvo
  have hgfo : gf ≠ go_ := fun e => hfo gf rfl (by rw [e]; rfl)
  have hgfb : gf ≠ b := fun e => hfb (by rw [e]; rfl)
  have hgob : go_ ≠ b := fun e => hob (by rw [e]; rfl)
  have hbgf : base ≤ gf := (rf.lt gf rfl).1
  have hbgo : base ≤ go_ := (ro.lt go_ rfl).1
  have ffz : ∀ i, w.frozen? ⟨gf, i, none⟩ = false := V.frozen_row rf
  have fbz : ∀ i, w.frozen? ⟨go_, i, none⟩ = false := V.frozen_row ro
  have k0 : w.cell? ⟨go_, K.length * 4, none⟩ = some (.int .i64 (k.wh : Int)) := hcb 0 _ rfl
  have k1 : w.cell? ⟨go_, K.length * 4 + 1, none⟩ = some (.int .u8 (k.o.toNat : Int)) := hcb 1 _ rfl
  have k2 : w.cell? ⟨go_, K.length * 4 + 2, none⟩ = some (.int .u8 (k.c.toNat : Int)) := hcb 2 _ rfl
  have k3 : w.cell? ⟨go_, K.length * 4 + 3, none⟩ = some (.int .i64 (k.deep : Int)) := hcb 3 _ rfl
  have d1 : w.cell? ⟨gf, k.wh * 6 + 1, none⟩ = some (.int .i64 (D.en : Int)) := hcd 1 _ rfl
  have d3 : w.cell? ⟨gf, k.wh * 6 + 3, none⟩ = some (.int .i64 (D.nt : Int)) := hcd 3 _ rfl
  have d4 : w.cell? ⟨gf, k.wh * 6 + 4, none⟩ = some (.int .i64 (D.mf : Int)) := hcd 4 _ rfl
  have d5 : w.cell? ⟨gf, k.wh * 6 + 5, none⟩ = some (.int .i64 (D.mt : Int)) := hcd 5 _ rfl
  have HR : Hid (w.heap[b]? = some (.cells #[.string s, .int .i64 (p : Int), .slice (some ⟨gf, 0, none⟩) F.length cf, .slice (some ⟨go_, 0, none⟩) (K.length + 1) co] 121 (0, 0)) ∧ w.ownsRow base 142 6 (.slice (some ⟨gf, 0, none⟩) F.length cf) F.length (dlsV F) ∧ w.ownsRow base 147 4 (.slice (some ⟨go_, 0, none⟩) (K.length + 1) co) (K.length + 1) (brsV (K ++ [k])) ∧ base ≤ b ∧ F[k.wh]? = some D) := ⟨hblk, rf, ro, hbb, hD⟩
  have HNE : Hid (gf ≠ go_ ∧ gf ≠ b ∧ go_ ≠ b ∧ base ≤ gf ∧ base ≤ go_) := ⟨hgfo, hgfb, hgob, hbgf, hbgo⟩
  obtain ⟨m, hme⟩ : ∃ m, m = K.length := ⟨_, rfl⟩
  have HM : Hid (m = K.length) := hme
  obtain ⟨n, hne⟩ : ∃ n, n = F.length := ⟨_, rfl⟩
  have HN : Hid (n = F.length) := hne
  obtain ⟨wh, hwe⟩ : ∃ wh, wh = k.wh := ⟨_, rfl⟩
  have HWH : Hid (wh = k.wh) := hwe
  rw [← hme] at c3 k0 k1 k2 k3 hKl hco
  rw [← hne] at c2 hwh hFl
  rw [← hwe] at k0 d1 d3 d4 d5 hwh
  have hwi : (wh : Int) < (n : Int) := by omega
  obtain ⟨xn, hxn⟩ : ∃ xn, xn = x.toNat := ⟨_, rfl⟩
  obtain ⟨on, hon⟩ : ∃ on, on = k.o.toNat := ⟨_, rfl⟩
  obtain ⟨cn, hcn⟩ : ∃ cn, cn = k.c.toNat := ⟨_, rfl⟩
  obtain ⟨dp, hdpe⟩ : ∃ dp, dp = k.deep := ⟨_, rfl⟩
  have HDP : Hid (dp = k.deep) := hdpe
  have hx58 : ¬ (x.toNat : Int) = 58 := fun e => hx (UInt8.toNat_inj.mp (by show x.toNat = 58; omega))
  have hx58b : ((x.toNat : Int) == 58) = false := by rw [beq_eq_false_iff_ne]; exact hx58
  have hoi : ¬ (x.toNat : Int) = (k.o.toNat : Int) := fun e => ho (UInt8.toNat_inj.mp (by omega))
  have hob : ((x.toNat : Int) == (k.o.toNat : Int)) = false := by rw [beq_eq_false_iff_ne]; exact hoi
  have hc_i : (x.toNat : Int) = (k.c.toNat : Int) := by rw [hc]
  have HEn : Hid (∀ q, Calls Tryd.prog 91 #[.pointer (some ⟨gf, wh * 6, none⟩), .int .i64 (p : Int)] (w.drewN q) fun e w' => e = .returned (.tuple #[]) ∧ ((w.drewN q).setCell ⟨gf, wh * 6 + 5, none⟩ (.int .i64 (p : Int))).setCell ⟨gf, wh * 6 + 1, none⟩ (.int .i64 ((p : Int) + 1)) = w') := fun q => end_no gf (wh * 6) D.nt p _ _ (w.drewN q) d3 hnt (by omega) d1 d5 ffz
  have hd0 : dp = 0 := by rw [hdpe]; exact hd
  have hdm : (m : Int) ≤ (co : Int) := by omega
  have c3n : ∀ (q : Nat) (i : Nat) (y z : Value), (((w.drewN q).setCell ⟨gf, wh * 6 + i, none⟩ y).setCell ⟨gf, wh * 6 + 1, none⟩ z).cell? ⟨b, 3, none⟩ = some (.slice (some ⟨go_, 0, none⟩) (m + 1) co) := fun q i y z => by
    obtain ⟨g1, _⟩ := HR.out
    have n2 := HNE.out.2.1
    rw [← HM.out] at g1
    have h2 : (((w.drewN q).setCell ⟨gf, wh * 6 + i, none⟩ y).setCell ⟨gf, wh * 6 + 1, none⟩ z).heap[b]? = some (.cells #[.string s, .int .i64 (p : Int), .slice (some ⟨gf, 0, none⟩) F.length cf, .slice (some ⟨go_, 0, none⟩) (m + 1) co] 121 (0, 0)) := by rw [Below.heap_setCell _ _ _ _ (Ne.symm n2), Below.heap_setCell _ _ _ _ (Ne.symm n2)]; exact g1
    exact V.cell_in h2 3 rfl
  have c3f : ∀ (q : Nat) (i : Nat) (y z : Value), (((w.drewN q).setCell ⟨gf, wh * 6 + i, none⟩ y).setCell ⟨gf, wh * 6 + 1, none⟩ z).frozen? ⟨b, 3, none⟩ = false := fun q i y z => by
    obtain ⟨g1, _⟩ := HR.out
    have n2 := HNE.out.2.1
    have h2 : (((w.drewN q).setCell ⟨gf, wh * 6 + i, none⟩ y).setCell ⟨gf, wh * 6 + 1, none⟩ z).heap[b]? = some (.cells #[.string s, .int .i64 (p : Int), .slice (some ⟨gf, 0, none⟩) F.length cf, .slice (some ⟨go_, 0, none⟩) (K.length + 1) co] 121 (0, 0)) := by rw [Below.heap_setCell _ _ _ _ (Ne.symm n2), Below.heap_setCell _ _ _ _ (Ne.symm n2)]; exact g1
    simp [World.frozen?, h2]
  rw [← hdpe] at hd
  clear hd hnt
  rw [← hon] at k1
  rw [← hcn] at k2
  rw [← hdpe] at k3 hdp
  rw [← hxn]
  rw [← hxn] at hx58 hx58b
  rw [← hxn, ← hon] at hoi hob
  rw [← hxn, ← hcn] at hc_i
  have hc_j : xn = cn := by omega
  clear hc_i
  subst hc_j
  clear ffz fbz hdpe hon hcn hx ho hc hxn
  clear h hD hcd hcb hlen rf ro hfb hob hfo hblk hbb hgfo hgfb hgob hbgf hbgo hme hne hwe hm
  go_enter Tryd.func79, Tryd.ntmps79
  go_wp2_with fail
  go_quiet (fail)
  go_wp2_with fail
  subst hd0
  go_wp2_with fail
  refine (HEn.out _).mono ?_
  rintro e w' ⟨rfl, hw'⟩
  have q3 := c3n nq 5 (.int .i64 (p : Int)) (.int .i64 ((p : Int) + 1))
  have q3f := c3f nq 5 (.int .i64 (p : Int)) (.int .i64 ((p : Int) + 1))
  rw [hw'] at q3 q3f
  clear c3n c3f
  go_wp2
  rw [← hw']
  go_end0
  try rw [HM.out]
  try rw [HN.out]
  try rw [HWH.out]
  obtain ⟨g1, g2, g3, g4, g5⟩ := HR.out
  obtain ⟨n1, n2, n3, n4, n5⟩ := HNE.out
  refine ⟨rfl, .slice (some ⟨gf, 0, none⟩) F.length cf, .slice (some ⟨go_, 0, none⟩) K.length co, ⟨?_, ?_, ?_, g4⟩, below_set (below_set (below_set (below_drewN (Below.refl _ _) _) n4) n4) g4⟩
  · have e0 := heap_set (b := b) (i := 3) (w := ((w.drewN nq).setCell ⟨gf, k.wh * 6 + 5, none⟩ (.int .i64 (p : Int))).setCell ⟨gf, k.wh * 6 + 1, none⟩ (.int .i64 ((p : Int) + 1))) (by rw [Below.heap_setCell _ _ _ _ (Ne.symm n2), Below.heap_setCell _ _ _ _ (Ne.symm n2)]; exact g1) (.slice (some ⟨go_, 0, none⟩) K.length co)
    exact e0
  · have e1 : dlsV (F.set k.wh { D with mt := p, en := p + 1 }) = ((dlsV F).set (k.wh * 6 + 5) (.int .i64 (p : Int))).set (k.wh * 6 + 1) (.int .i64 ((p : Int) + 1)) := by
      unfold dlsV
      rw [← fl_set dlC 6 dl_len F k.wh 5 D { D with mt := p } (.int .i64 (p : Int)) g5 (by omega) rfl]
      rw [← fl_set dlC 6 dl_len (F.set k.wh { D with mt := p }) k.wh 1 { D with mt := p } { D with mt := p, en := p + 1 } (.int .i64 ((p : Int) + 1)) (set_same g5) (by omega) rfl, List.set_set]
    simp only [e1, List.length_set]
    exact row_set (V.owns_put (V.owns_put (g2.kept (row := none) ⟨rfl, rfl, rfl, Nat.le_refl _, fun _ _ _ => rfl⟩ (Classical.em _)) _) _) (by simp [Value.ownBlock]; exact n2) _
  · have e2 : brsV (K ++ [k]) = brsV K ++ brC k := by unfold brsV; rw [List.flatMap_append]; simp
    rw [e2] at g3
    have g3' := owns_pop g3 (by unfold brsV; rw [fl_len brC 4 br_len])
    exact row_set (row_set (row_set (g3'.kept (row := none) ⟨rfl, rfl, rfl, Nat.le_refl _, fun _ _ _ => rfl⟩ (Classical.em _)) (by simp [Value.ownBlock]; exact Ne.symm n1) _) (by simp [Value.ownBlock]; exact Ne.symm n1) _) (by simp [Value.ownBlock]; exact n3) _

set_option maxRecDepth 20000 in
set_option maxHeartbeats 1600000 in
theorem in_plain2 {base b : Nat} {s : ByteArray} {vf vo : Value} {F : List Dl} {K : List Br} {k : Br} {D : Dl} {p : Nat} (w : World) (h : SnR base b s vf vo ⟨p, F, K ++ [k]⟩ w) (hD : F[k.wh]? = some D) (x : UInt8) (hbd : p ≤ 1000000 ∧ K.length ≤ 1000000 ∧ F.length ≤ 1000000 ∧ k.deep ≤ 1000000) (hx : x = 58) (h0 : 1 ≤ D.nt) (ho : x ≠ k.o) (hc : x ≠ k.c) :
    Calls Tryd.prog 79 #[.pointer (some ⟨b, 0, none⟩), .int .u8 (x.toNat : Int)] w (InPost base b s ⟨p, F, K ++ [k]⟩ w) := by
  obtain ⟨hp, hKl, hFl, hdp⟩ := hbd
  obtain ⟨gf, cf, hvf, hwh, hcd⟩ := h.dollar hD
  obtain ⟨go_, co, hvo, hm, hco, hcb⟩ := h.bracket (i := K.length) (k := k) (by simp)
  have hlen : (K ++ [k]).length = K.length + 1 := by simp
  simp only [hlen] at hvo hm hco
  simp only at hvf
  have c1 : w.cell? ⟨b, 1, none⟩ = some (.int .i64 (p : Int)) := h.c1
  have c2 := h.c2
  have c3 := h.c3
  have f3 := h.fr 3
  have rf : w.ownsRow base 142 6 vf F.length (dlsV F) := h.rf
  have ro : w.ownsRow base 147 4 vo (K.length + 1) (brsV (K ++ [k])) := by have := h.ro; simp only [hlen] at this; exact this
  have hfb := h.nf
  have hob := h.no
  have hfo := h.fo
  have hblk := h.blk
  have hbb := h.hb
  subst hvf hvo
  have hgfo : gf ≠ go_ := fun e => hfo gf rfl (by rw [e]; rfl)
  have hgfb : gf ≠ b := fun e => hfb (by rw [e]; rfl)
  have hgob : go_ ≠ b := fun e => hob (by rw [e]; rfl)
  have hbgf : base ≤ gf := (rf.lt gf rfl).1
  have hbgo : base ≤ go_ := (ro.lt go_ rfl).1
  have ffz : ∀ i, w.frozen? ⟨gf, i, none⟩ = false := V.frozen_row rf
  have fbz : ∀ i, w.frozen? ⟨go_, i, none⟩ = false := V.frozen_row ro
  have k0 : w.cell? ⟨go_, K.length * 4, none⟩ = some (.int .i64 (k.wh : Int)) := hcb 0 _ rfl
  have k1 : w.cell? ⟨go_, K.length * 4 + 1, none⟩ = some (.int .u8 (k.o.toNat : Int)) := hcb 1 _ rfl
  have k2 : w.cell? ⟨go_, K.length * 4 + 2, none⟩ = some (.int .u8 (k.c.toNat : Int)) := hcb 2 _ rfl
  have k3 : w.cell? ⟨go_, K.length * 4 + 3, none⟩ = some (.int .i64 (k.deep : Int)) := hcb 3 _ rfl
  have d1 : w.cell? ⟨gf, k.wh * 6 + 1, none⟩ = some (.int .i64 (D.en : Int)) := hcd 1 _ rfl
  have d3 : w.cell? ⟨gf, k.wh * 6 + 3, none⟩ = some (.int .i64 (D.nt : Int)) := hcd 3 _ rfl
  have d4 : w.cell? ⟨gf, k.wh * 6 + 4, none⟩ = some (.int .i64 (D.mf : Int)) := hcd 4 _ rfl
  have d5 : w.cell? ⟨gf, k.wh * 6 + 5, none⟩ = some (.int .i64 (D.mt : Int)) := hcd 5 _ rfl
  have HR : Hid (w.heap[b]? = some (.cells #[.string s, .int .i64 (p : Int), .slice (some ⟨gf, 0, none⟩) F.length cf, .slice (some ⟨go_, 0, none⟩) (K.length + 1) co] 121 (0, 0)) ∧ w.ownsRow base 142 6 (.slice (some ⟨gf, 0, none⟩) F.length cf) F.length (dlsV F) ∧ w.ownsRow base 147 4 (.slice (some ⟨go_, 0, none⟩) (K.length + 1) co) (K.length + 1) (brsV (K ++ [k])) ∧ base ≤ b ∧ F[k.wh]? = some D) := ⟨hblk, rf, ro, hbb, hD⟩
  have HNE : Hid (gf ≠ go_ ∧ gf ≠ b ∧ go_ ≠ b ∧ base ≤ gf ∧ base ≤ go_) := ⟨hgfo, hgfb, hgob, hbgf, hbgo⟩
  obtain ⟨m, hme⟩ : ∃ m, m = K.length := ⟨_, rfl⟩
  have HM : Hid (m = K.length) := hme
  obtain ⟨n, hne⟩ : ∃ n, n = F.length := ⟨_, rfl⟩
  have HN : Hid (n = F.length) := hne
  obtain ⟨wh, hwe⟩ : ∃ wh, wh = k.wh := ⟨_, rfl⟩
  have HWH : Hid (wh = k.wh) := hwe
  rw [← hme] at c3 k0 k1 k2 k3 hKl hco
  rw [← hne] at c2 hwh hFl
  rw [← hwe] at k0 d1 d3 d4 d5 hwh
  have hwi : (wh : Int) < (n : Int) := by omega
  obtain ⟨xn, hxn⟩ : ∃ xn, xn = x.toNat := ⟨_, rfl⟩
  obtain ⟨on, hon⟩ : ∃ on, on = k.o.toNat := ⟨_, rfl⟩
  obtain ⟨cn, hcn⟩ : ∃ cn, cn = k.c.toNat := ⟨_, rfl⟩
  obtain ⟨dp, hdpe⟩ : ∃ dp, dp = k.deep := ⟨_, rfl⟩
  have HDP : Hid (dp = k.deep) := hdpe
  have HE : Hid (∀ q, Calls Tryd.prog 90 #[.pointer (some ⟨gf, wh * 6, none⟩), .int .i64 (p : Int)] (w.drewN q) fun e w' => e = .returned (.bool false) ∧ w.drewN q = w') := fun q => endName_no gf (wh * 6) D.nt p (w.drewN q) d3 h0
  have hoi : ¬ (x.toNat : Int) = (k.o.toNat : Int) := fun e => ho (UInt8.toNat_inj.mp (by omega))
  have hob : ((x.toNat : Int) == (k.o.toNat : Int)) = false := by rw [beq_eq_false_iff_ne]; exact hoi
  have hci : ¬ (x.toNat : Int) = (k.c.toNat : Int) := fun e => hc (UInt8.toNat_inj.mp (by omega))
  have hcb : ((x.toNat : Int) == (k.c.toNat : Int)) = false := by rw [beq_eq_false_iff_ne]; exact hci
  rw [← hon] at k1
  rw [← hcn] at k2
  rw [← hdpe] at k3 hdp
  rw [← hxn]
  rw [← hxn, ← hon] at hoi hob
  rw [← hxn, ← hcn] at hci hcb
  have hx2 : xn = 58 := by rw [hxn, hx]; rfl
  clear hxn
  subst hx2
  clear ffz fbz hdpe hon hcn hx ho hc
  clear h hD hcd hcb hlen rf ro hfb hob hfo hblk hbb hgfo hgfb hgob hbgf hbgo hme hne hwe hm
  go_enter Tryd.func79, Tryd.ntmps79
  go_wp2_with fail
  go_quiet (fail)
  go_wp2_with fail
  refine (HE.out _).mono ?_
  rintro e w' ⟨rfl, rfl⟩
  go_wp2
  go_end0
  try rw [HM.out]
  try rw [HN.out]
  try rw [HWH.out]
  obtain ⟨g1, g2, g3, g4, g5⟩ := HR.out
  obtain ⟨n1, n2, n3, n4, n5⟩ := HNE.out
  refine ⟨rfl, .slice (some ⟨gf, 0, none⟩) F.length cf, .slice (some ⟨go_, 0, none⟩) (K.length + 1) co, ⟨g1, g2.kept (row := none) ⟨rfl, rfl, rfl, Nat.le_refl _, fun _ _ _ => rfl⟩ (Classical.em _), ?_, g4⟩, below_drewN (Below.refl _ _) _⟩
  simp only [List.length_append, List.length_singleton]
  exact g3.kept (row := none) ⟨rfl, rfl, rfl, Nat.le_refl _, fun _ _ _ => rfl⟩ (Classical.em _)

set_option maxRecDepth 20000 in
set_option maxHeartbeats 1600000 in
theorem in_opens2 {base b : Nat} {s : ByteArray} {vf vo : Value} {F : List Dl} {K : List Br} {k : Br} {D : Dl} {p : Nat} (w : World) (h : SnR base b s vf vo ⟨p, F, K ++ [k]⟩ w) (hD : F[k.wh]? = some D) (x : UInt8) (hbd : p ≤ 1000000 ∧ K.length ≤ 1000000 ∧ F.length ≤ 1000000 ∧ k.deep ≤ 1000000) (hx : x = 58) (h0 : 1 ≤ D.nt) (ho : x = k.o) :
    Calls Tryd.prog 79 #[.pointer (some ⟨b, 0, none⟩), .int .u8 (x.toNat : Int)] w (InPost base b s ⟨p, F, K ++ [{ k with deep := k.deep + 1 }]⟩ w) := by
  obtain ⟨hp, hKl, hFl, hdp⟩ := hbd
  obtain ⟨gf, cf, hvf, hwh, hcd⟩ := h.dollar hD
  obtain ⟨go_, co, hvo, hm, hco, hcb⟩ := h.bracket (i := K.length) (k := k) (by simp)
  have hlen : (K ++ [k]).length = K.length + 1 := by simp
  simp only [hlen] at hvo hm hco
  simp only at hvf
  have c1 : w.cell? ⟨b, 1, none⟩ = some (.int .i64 (p : Int)) := h.c1
  have c2 := h.c2
  have c3 := h.c3
  have f3 := h.fr 3
  have rf : w.ownsRow base 142 6 vf F.length (dlsV F) := h.rf
  have ro : w.ownsRow base 147 4 vo (K.length + 1) (brsV (K ++ [k])) := by have := h.ro; simp only [hlen] at this; exact this
  have hfb := h.nf
  have hob := h.no
  have hfo := h.fo
  have hblk := h.blk
  have hbb := h.hb
  subst hvf hvo
  have hgfo : gf ≠ go_ := fun e => hfo gf rfl (by rw [e]; rfl)
  have hgfb : gf ≠ b := fun e => hfb (by rw [e]; rfl)
  have hgob : go_ ≠ b := fun e => hob (by rw [e]; rfl)
  have hbgf : base ≤ gf := (rf.lt gf rfl).1
  have hbgo : base ≤ go_ := (ro.lt go_ rfl).1
  have ffz : ∀ i, w.frozen? ⟨gf, i, none⟩ = false := V.frozen_row rf
  have fbz : ∀ i, w.frozen? ⟨go_, i, none⟩ = false := V.frozen_row ro
  have k0 : w.cell? ⟨go_, K.length * 4, none⟩ = some (.int .i64 (k.wh : Int)) := hcb 0 _ rfl
  have k1 : w.cell? ⟨go_, K.length * 4 + 1, none⟩ = some (.int .u8 (k.o.toNat : Int)) := hcb 1 _ rfl
  have k2 : w.cell? ⟨go_, K.length * 4 + 2, none⟩ = some (.int .u8 (k.c.toNat : Int)) := hcb 2 _ rfl
  have k3 : w.cell? ⟨go_, K.length * 4 + 3, none⟩ = some (.int .i64 (k.deep : Int)) := hcb 3 _ rfl
  have d1 : w.cell? ⟨gf, k.wh * 6 + 1, none⟩ = some (.int .i64 (D.en : Int)) := hcd 1 _ rfl
  have d3 : w.cell? ⟨gf, k.wh * 6 + 3, none⟩ = some (.int .i64 (D.nt : Int)) := hcd 3 _ rfl
  have d4 : w.cell? ⟨gf, k.wh * 6 + 4, none⟩ = some (.int .i64 (D.mf : Int)) := hcd 4 _ rfl
  have d5 : w.cell? ⟨gf, k.wh * 6 + 5, none⟩ = some (.int .i64 (D.mt : Int)) := hcd 5 _ rfl
  have HR : Hid (w.heap[b]? = some (.cells #[.string s, .int .i64 (p : Int), .slice (some ⟨gf, 0, none⟩) F.length cf, .slice (some ⟨go_, 0, none⟩) (K.length + 1) co] 121 (0, 0)) ∧ w.ownsRow base 142 6 (.slice (some ⟨gf, 0, none⟩) F.length cf) F.length (dlsV F) ∧ w.ownsRow base 147 4 (.slice (some ⟨go_, 0, none⟩) (K.length + 1) co) (K.length + 1) (brsV (K ++ [k])) ∧ base ≤ b ∧ F[k.wh]? = some D) := ⟨hblk, rf, ro, hbb, hD⟩
  have HNE : Hid (gf ≠ go_ ∧ gf ≠ b ∧ go_ ≠ b ∧ base ≤ gf ∧ base ≤ go_) := ⟨hgfo, hgfb, hgob, hbgf, hbgo⟩
  obtain ⟨m, hme⟩ : ∃ m, m = K.length := ⟨_, rfl⟩
  have HM : Hid (m = K.length) := hme
  obtain ⟨n, hne⟩ : ∃ n, n = F.length := ⟨_, rfl⟩
  have HN : Hid (n = F.length) := hne
  obtain ⟨wh, hwe⟩ : ∃ wh, wh = k.wh := ⟨_, rfl⟩
  have HWH : Hid (wh = k.wh) := hwe
  rw [← hme] at c3 k0 k1 k2 k3 hKl hco
  rw [← hne] at c2 hwh hFl
  rw [← hwe] at k0 d1 d3 d4 d5 hwh
  have hwi : (wh : Int) < (n : Int) := by omega
  obtain ⟨xn, hxn⟩ : ∃ xn, xn = x.toNat := ⟨_, rfl⟩
  obtain ⟨on, hon⟩ : ∃ on, on = k.o.toNat := ⟨_, rfl⟩
  obtain ⟨cn, hcn⟩ : ∃ cn, cn = k.c.toNat := ⟨_, rfl⟩
  obtain ⟨dp, hdpe⟩ : ∃ dp, dp = k.deep := ⟨_, rfl⟩
  have HDP : Hid (dp = k.deep) := hdpe
  have HE : Hid (∀ q, Calls Tryd.prog 90 #[.pointer (some ⟨gf, wh * 6, none⟩), .int .i64 (p : Int)] (w.drewN q) fun e w' => e = .returned (.bool false) ∧ w.drewN q = w') := fun q => endName_no gf (wh * 6) D.nt p (w.drewN q) d3 h0
  have ho_i : (x.toNat : Int) = (k.o.toNat : Int) := by rw [ho]
  have f3b := fbz (m * 4 + 3)
  rw [← hon] at k1
  rw [← hcn] at k2
  rw [← hdpe] at k3 hdp
  rw [← hxn]
  rw [← hxn, ← hon] at ho_i
  have ho_j : xn = on := by omega
  clear ho_i
  subst ho_j
  have hx2 : xn = 58 := by rw [hxn, hx]; rfl
  clear hxn
  subst hx2
  clear ffz fbz hdpe hon hcn hx ho
  clear h hD hcd hcb hlen rf ro hfb hob hfo hblk hbb hgfo hgfb hgob hbgf hbgo hme hne hwe hm
  go_enter Tryd.func79, Tryd.ntmps79
  go_wp2_with fail
  go_quiet (fail)
  go_wp2_with fail
  refine (HE.out _).mono ?_
  rintro e w' ⟨rfl, rfl⟩
  go_wp2
  go_end0
  try rw [HM.out]
  try rw [HN.out]
  try rw [HWH.out]
  obtain ⟨g1, g2, g3, g4, g5⟩ := HR.out
  obtain ⟨n1, n2, n3, n4, n5⟩ := HNE.out
  refine ⟨rfl, .slice (some ⟨gf, 0, none⟩) F.length cf, .slice (some ⟨go_, 0, none⟩) (K.length + 1) co, ⟨?_, row_set (g2.kept (row := none) ⟨rfl, rfl, rfl, Nat.le_refl _, fun _ _ _ => rfl⟩ (Classical.em _)) (by simp [Value.ownBlock]; exact n1) _, ?_, g4⟩, below_set (below_drewN (Below.refl _ _) _) n5⟩
  · rw [Below.heap_setCell _ _ _ _ (Ne.symm n3)]; exact g1
  · simp only [List.length_append, List.length_singleton]
    rw [brs_last K k { k with deep := k.deep + 1 } 3 (.int .i64 ((dp : Int) + 1)) (by omega) (by rw [HDP.out]; rfl)]
    exact V.owns_put (g3.kept (row := none) ⟨rfl, rfl, rfl, Nat.le_refl _, fun _ _ _ => rfl⟩ (Classical.em _)) _

set_option maxRecDepth 20000 in
set_option maxHeartbeats 1600000 in
theorem in_less2 {base b : Nat} {s : ByteArray} {vf vo : Value} {F : List Dl} {K : List Br} {k : Br} {D : Dl} {p : Nat} (w : World) (h : SnR base b s vf vo ⟨p, F, K ++ [k]⟩ w) (hD : F[k.wh]? = some D) (x : UInt8) (hbd : p ≤ 1000000 ∧ K.length ≤ 1000000 ∧ F.length ≤ 1000000 ∧ k.deep ≤ 1000000) (hx : x = 58) (h0 : 1 ≤ D.nt) (ho : x ≠ k.o) (hc : x = k.c) (hd : 0 < k.deep) :
    Calls Tryd.prog 79 #[.pointer (some ⟨b, 0, none⟩), .int .u8 (x.toNat : Int)] w (InPost base b s ⟨p, F, K ++ [{ k with deep := k.deep - 1 }]⟩ w) := by
  obtain ⟨hp, hKl, hFl, hdp⟩ := hbd
  obtain ⟨gf, cf, hvf, hwh, hcd⟩ := h.dollar hD
  obtain ⟨go_, co, hvo, hm, hco, hcb⟩ := h.bracket (i := K.length) (k := k) (by simp)
  have hlen : (K ++ [k]).length = K.length + 1 := by simp
  simp only [hlen] at hvo hm hco
  simp only at hvf
  have c1 : w.cell? ⟨b, 1, none⟩ = some (.int .i64 (p : Int)) := h.c1
  have c2 := h.c2
  have c3 := h.c3
  have f3 := h.fr 3
  have rf : w.ownsRow base 142 6 vf F.length (dlsV F) := h.rf
  have ro : w.ownsRow base 147 4 vo (K.length + 1) (brsV (K ++ [k])) := by have := h.ro; simp only [hlen] at this; exact this
  have hfb := h.nf
  have hob := h.no
  have hfo := h.fo
  have hblk := h.blk
  have hbb := h.hb
  subst hvf hvo
  have hgfo : gf ≠ go_ := fun e => hfo gf rfl (by rw [e]; rfl)
  have hgfb : gf ≠ b := fun e => hfb (by rw [e]; rfl)
  have hgob : go_ ≠ b := fun e => hob (by rw [e]; rfl)
  have hbgf : base ≤ gf := (rf.lt gf rfl).1
  have hbgo : base ≤ go_ := (ro.lt go_ rfl).1
  have ffz : ∀ i, w.frozen? ⟨gf, i, none⟩ = false := V.frozen_row rf
  have fbz : ∀ i, w.frozen? ⟨go_, i, none⟩ = false := V.frozen_row ro
  have k0 : w.cell? ⟨go_, K.length * 4, none⟩ = some (.int .i64 (k.wh : Int)) := hcb 0 _ rfl
  have k1 : w.cell? ⟨go_, K.length * 4 + 1, none⟩ = some (.int .u8 (k.o.toNat : Int)) := hcb 1 _ rfl
  have k2 : w.cell? ⟨go_, K.length * 4 + 2, none⟩ = some (.int .u8 (k.c.toNat : Int)) := hcb 2 _ rfl
  have k3 : w.cell? ⟨go_, K.length * 4 + 3, none⟩ = some (.int .i64 (k.deep : Int)) := hcb 3 _ rfl
  have d1 : w.cell? ⟨gf, k.wh * 6 + 1, none⟩ = some (.int .i64 (D.en : Int)) := hcd 1 _ rfl
  have d3 : w.cell? ⟨gf, k.wh * 6 + 3, none⟩ = some (.int .i64 (D.nt : Int)) := hcd 3 _ rfl
  have d4 : w.cell? ⟨gf, k.wh * 6 + 4, none⟩ = some (.int .i64 (D.mf : Int)) := hcd 4 _ rfl
  have d5 : w.cell? ⟨gf, k.wh * 6 + 5, none⟩ = some (.int .i64 (D.mt : Int)) := hcd 5 _ rfl
  have HR : Hid (w.heap[b]? = some (.cells #[.string s, .int .i64 (p : Int), .slice (some ⟨gf, 0, none⟩) F.length cf, .slice (some ⟨go_, 0, none⟩) (K.length + 1) co] 121 (0, 0)) ∧ w.ownsRow base 142 6 (.slice (some ⟨gf, 0, none⟩) F.length cf) F.length (dlsV F) ∧ w.ownsRow base 147 4 (.slice (some ⟨go_, 0, none⟩) (K.length + 1) co) (K.length + 1) (brsV (K ++ [k])) ∧ base ≤ b ∧ F[k.wh]? = some D) := ⟨hblk, rf, ro, hbb, hD⟩
  have HNE : Hid (gf ≠ go_ ∧ gf ≠ b ∧ go_ ≠ b ∧ base ≤ gf ∧ base ≤ go_) := ⟨hgfo, hgfb, hgob, hbgf, hbgo⟩
  obtain ⟨m, hme⟩ : ∃ m, m = K.length := ⟨_, rfl⟩
  have HM : Hid (m = K.length) := hme
  obtain ⟨n, hne⟩ : ∃ n, n = F.length := ⟨_, rfl⟩
  have HN : Hid (n = F.length) := hne
  obtain ⟨wh, hwe⟩ : ∃ wh, wh = k.wh := ⟨_, rfl⟩
  have HWH : Hid (wh = k.wh) := hwe
  rw [← hme] at c3 k0 k1 k2 k3 hKl hco
  rw [← hne] at c2 hwh hFl
  rw [← hwe] at k0 d1 d3 d4 d5 hwh
  have hwi : (wh : Int) < (n : Int) := by omega
  obtain ⟨xn, hxn⟩ : ∃ xn, xn = x.toNat := ⟨_, rfl⟩
  obtain ⟨on, hon⟩ : ∃ on, on = k.o.toNat := ⟨_, rfl⟩
  obtain ⟨cn, hcn⟩ : ∃ cn, cn = k.c.toNat := ⟨_, rfl⟩
  obtain ⟨dp, hdpe⟩ : ∃ dp, dp = k.deep := ⟨_, rfl⟩
  have HDP : Hid (dp = k.deep) := hdpe
  have HE : Hid (∀ q, Calls Tryd.prog 90 #[.pointer (some ⟨gf, wh * 6, none⟩), .int .i64 (p : Int)] (w.drewN q) fun e w' => e = .returned (.bool false) ∧ w.drewN q = w') := fun q => endName_no gf (wh * 6) D.nt p (w.drewN q) d3 h0
  have hoi : ¬ (x.toNat : Int) = (k.o.toNat : Int) := fun e => ho (UInt8.toNat_inj.mp (by omega))
  have hob : ((x.toNat : Int) == (k.o.toNat : Int)) = false := by rw [beq_eq_false_iff_ne]; exact hoi
  have hc_i : (x.toNat : Int) = (k.c.toNat : Int) := by rw [hc]
  have f3b := fbz (m * 4 + 3)
  have hdi : (0 : Int) < (k.deep : Int) := by omega
  rw [← hdpe] at hdi
  clear hd
  rw [← hon] at k1
  rw [← hcn] at k2
  rw [← hdpe] at k3 hdp
  rw [← hxn]
  rw [← hxn, ← hon] at hoi hob
  rw [← hxn, ← hcn] at hc_i
  have hc_j : xn = cn := by omega
  clear hc_i
  subst hc_j
  have hx2 : xn = 58 := by rw [hxn, hx]; rfl
  clear hxn
  subst hx2
  clear ffz fbz hdpe hon hcn hx ho hc
  clear h hD hcd hcb hlen rf ro hfb hob hfo hblk hbb hgfo hgfb hgob hbgf hbgo hme hne hwe hm
  go_enter Tryd.func79, Tryd.ntmps79
  go_wp2_with fail
  go_quiet (fail)
  go_wp2_with fail
  refine (HE.out _).mono ?_
  rintro e w' ⟨rfl, rfl⟩
  go_wp2
  go_end0
  try rw [HM.out]
  try rw [HN.out]
  try rw [HWH.out]
  obtain ⟨g1, g2, g3, g4, g5⟩ := HR.out
  obtain ⟨n1, n2, n3, n4, n5⟩ := HNE.out
  refine ⟨rfl, .slice (some ⟨gf, 0, none⟩) F.length cf, .slice (some ⟨go_, 0, none⟩) (K.length + 1) co, ⟨?_, row_set (g2.kept (row := none) ⟨rfl, rfl, rfl, Nat.le_refl _, fun _ _ _ => rfl⟩ (Classical.em _)) (by simp [Value.ownBlock]; exact n1) _, ?_, g4⟩, below_set (below_drewN (Below.refl _ _) _) n5⟩
  · rw [Below.heap_setCell _ _ _ _ (Ne.symm n3)]; exact g1
  · simp only [List.length_append, List.length_singleton]
    rw [brs_last K k { k with deep := k.deep - 1 } 3 (.int .i64 ((dp : Int) - 1)) (by omega) (by have := hdi; rw [HDP.out] at this ⊢; simp only [brC, List.set_cons_succ, List.set_cons_zero]; rw [show ((k.deep - 1 : Nat) : Int) = (k.deep : Int) - 1 by omega])]
    exact V.owns_put (g3.kept (row := none) ⟨rfl, rfl, rfl, Nat.le_refl _, fun _ _ _ => rfl⟩ (Classical.em _)) _

set_option maxRecDepth 20000 in
set_option maxHeartbeats 1600000 in
theorem in_endA2 {base b : Nat} {s : ByteArray} {vf vo : Value} {F : List Dl} {K : List Br} {k : Br} {D : Dl} {p : Nat} (w : World) (h : SnR base b s vf vo ⟨p, F, K ++ [k]⟩ w) (hD : F[k.wh]? = some D) (x : UInt8) (hbd : p ≤ 1000000 ∧ K.length ≤ 1000000 ∧ F.length ≤ 1000000 ∧ k.deep ≤ 1000000) (hx : x = 58) (h0 : 1 ≤ D.nt) (ho : x ≠ k.o) (hc : x = k.c) (hd : k.deep = 0) (hnt : 1 ≤ D.nt) :
    Calls Tryd.prog 79 #[.pointer (some ⟨b, 0, none⟩), .int .u8 (x.toNat : Int)] w (InPost base b s ⟨p, F.set k.wh { D with mt := p, en := p + 1 }, K⟩ w) := by
  obtain ⟨hp, hKl, hFl, hdp⟩ := hbd
  obtain ⟨gf, cf, hvf, hwh, hcd⟩ := h.dollar hD
  obtain ⟨go_, co, hvo, hm, hco, hcb⟩ := h.bracket (i := K.length) (k := k) (by simp)
  have hlen : (K ++ [k]).length = K.length + 1 := by simp
  simp only [hlen] at hvo hm hco
  simp only at hvf
  have c1 : w.cell? ⟨b, 1, none⟩ = some (.int .i64 (p : Int)) := h.c1
  have c2 := h.c2
  have c3 := h.c3
  have f3 := h.fr 3
  have rf : w.ownsRow base 142 6 vf F.length (dlsV F) := h.rf
  have ro : w.ownsRow base 147 4 vo (K.length + 1) (brsV (K ++ [k])) := by have := h.ro; simp only [hlen] at this; exact this
  have hfb := h.nf
  have hob := h.no
  have hfo := h.fo
  have hblk := h.blk
  have hbb := h.hb
  subst hvf hvo
  have hgfo : gf ≠ go_ := fun e => hfo gf rfl (by rw [e]; rfl)
  have hgfb : gf ≠ b := fun e => hfb (by rw [e]; rfl)
  have hgob : go_ ≠ b := fun e => hob (by rw [e]; rfl)
  have hbgf : base ≤ gf := (rf.lt gf rfl).1
  have hbgo : base ≤ go_ := (ro.lt go_ rfl).1
  have ffz : ∀ i, w.frozen? ⟨gf, i, none⟩ = false := V.frozen_row rf
  have fbz : ∀ i, w.frozen? ⟨go_, i, none⟩ = false := V.frozen_row ro
  have k0 : w.cell? ⟨go_, K.length * 4, none⟩ = some (.int .i64 (k.wh : Int)) := hcb 0 _ rfl
  have k1 : w.cell? ⟨go_, K.length * 4 + 1, none⟩ = some (.int .u8 (k.o.toNat : Int)) := hcb 1 _ rfl
  have k2 : w.cell? ⟨go_, K.length * 4 + 2, none⟩ = some (.int .u8 (k.c.toNat : Int)) := hcb 2 _ rfl
  have k3 : w.cell? ⟨go_, K.length * 4 + 3, none⟩ = some (.int .i64 (k.deep : Int)) := hcb 3 _ rfl
  have d1 : w.cell? ⟨gf, k.wh * 6 + 1, none⟩ = some (.int .i64 (D.en : Int)) := hcd 1 _ rfl
  have d3 : w.cell? ⟨gf, k.wh * 6 + 3, none⟩ = some (.int .i64 (D.nt : Int)) := hcd 3 _ rfl
  have d4 : w.cell? ⟨gf, k.wh * 6 + 4, none⟩ = some (.int .i64 (D.mf : Int)) := hcd 4 _ rfl
  have d5 : w.cell? ⟨gf, k.wh * 6 + 5, none⟩ = some (.int .i64 (D.mt : Int)) := hcd 5 _ rfl
  have HR : Hid (w.heap[b]? = some (.cells #[.string s, .int .i64 (p : Int), .slice (some ⟨gf, 0, none⟩) F.length cf, .slice (some ⟨go_, 0, none⟩) (K.length + 1) co] 121 (0, 0)) ∧ w.ownsRow base 142 6 (.slice (some ⟨gf, 0, none⟩) F.length cf) F.length (dlsV F) ∧ w.ownsRow base 147 4 (.slice (some ⟨go_, 0, none⟩) (K.length + 1) co) (K.length + 1) (brsV (K ++ [k])) ∧ base ≤ b ∧ F[k.wh]? = some D) := ⟨hblk, rf, ro, hbb, hD⟩
  have HNE : Hid (gf ≠ go_ ∧ gf ≠ b ∧ go_ ≠ b ∧ base ≤ gf ∧ base ≤ go_) := ⟨hgfo, hgfb, hgob, hbgf, hbgo⟩
  obtain ⟨m, hme⟩ : ∃ m, m = K.length := ⟨_, rfl⟩
  have HM : Hid (m = K.length) := hme
  obtain ⟨n, hne⟩ : ∃ n, n = F.length := ⟨_, rfl⟩
  have HN : Hid (n = F.length) := hne
  obtain ⟨wh, hwe⟩ : ∃ wh, wh = k.wh := ⟨_, rfl⟩
  have HWH : Hid (wh = k.wh) := hwe
  rw [← hme] at c3 k0 k1 k2 k3 hKl hco
  rw [← hne] at c2 hwh hFl
  rw [← hwe] at k0 d1 d3 d4 d5 hwh
  have hwi : (wh : Int) < (n : Int) := by omega
  obtain ⟨xn, hxn⟩ : ∃ xn, xn = x.toNat := ⟨_, rfl⟩
  obtain ⟨on, hon⟩ : ∃ on, on = k.o.toNat := ⟨_, rfl⟩
  obtain ⟨cn, hcn⟩ : ∃ cn, cn = k.c.toNat := ⟨_, rfl⟩
  obtain ⟨dp, hdpe⟩ : ∃ dp, dp = k.deep := ⟨_, rfl⟩
  have HDP : Hid (dp = k.deep) := hdpe
  have HE : Hid (∀ q, Calls Tryd.prog 90 #[.pointer (some ⟨gf, wh * 6, none⟩), .int .i64 (p : Int)] (w.drewN q) fun e w' => e = .returned (.bool false) ∧ w.drewN q = w') := fun q => endName_no gf (wh * 6) D.nt p (w.drewN q) d3 h0
  have hoi : ¬ (x.toNat : Int) = (k.o.toNat : Int) := fun e => ho (UInt8.toNat_inj.mp (by omega))
  have hob : ((x.toNat : Int) == (k.o.toNat : Int)) = false := by rw [beq_eq_false_iff_ne]; exact hoi
  have hc_i : (x.toNat : Int) = (k.c.toNat : Int) := by rw [hc]
  have HEn : Hid (∀ q, Calls Tryd.prog 91 #[.pointer (some ⟨gf, wh * 6, none⟩), .int .i64 (p : Int)] (w.drewN q) fun e w' => e = .returned (.tuple #[]) ∧ ((w.drewN q).setCell ⟨gf, wh * 6 + 5, none⟩ (.int .i64 (p : Int))).setCell ⟨gf, wh * 6 + 1, none⟩ (.int .i64 ((p : Int) + 1)) = w') := fun q => end_no gf (wh * 6) D.nt p _ _ (w.drewN q) d3 hnt (by omega) d1 d5 ffz
  have hd0 : dp = 0 := by rw [hdpe]; exact hd
  have hdm : (m : Int) ≤ (co : Int) := by omega
  have c3n : ∀ (q : Nat) (i : Nat) (y z : Value), (((w.drewN q).setCell ⟨gf, wh * 6 + i, none⟩ y).setCell ⟨gf, wh * 6 + 1, none⟩ z).cell? ⟨b, 3, none⟩ = some (.slice (some ⟨go_, 0, none⟩) (m + 1) co) := fun q i y z => by
    obtain ⟨g1, _⟩ := HR.out
    have n2 := HNE.out.2.1
    rw [← HM.out] at g1
    have h2 : (((w.drewN q).setCell ⟨gf, wh * 6 + i, none⟩ y).setCell ⟨gf, wh * 6 + 1, none⟩ z).heap[b]? = some (.cells #[.string s, .int .i64 (p : Int), .slice (some ⟨gf, 0, none⟩) F.length cf, .slice (some ⟨go_, 0, none⟩) (m + 1) co] 121 (0, 0)) := by rw [Below.heap_setCell _ _ _ _ (Ne.symm n2), Below.heap_setCell _ _ _ _ (Ne.symm n2)]; exact g1
    exact V.cell_in h2 3 rfl
  have c3f : ∀ (q : Nat) (i : Nat) (y z : Value), (((w.drewN q).setCell ⟨gf, wh * 6 + i, none⟩ y).setCell ⟨gf, wh * 6 + 1, none⟩ z).frozen? ⟨b, 3, none⟩ = false := fun q i y z => by
    obtain ⟨g1, _⟩ := HR.out
    have n2 := HNE.out.2.1
    have h2 : (((w.drewN q).setCell ⟨gf, wh * 6 + i, none⟩ y).setCell ⟨gf, wh * 6 + 1, none⟩ z).heap[b]? = some (.cells #[.string s, .int .i64 (p : Int), .slice (some ⟨gf, 0, none⟩) F.length cf, .slice (some ⟨go_, 0, none⟩) (K.length + 1) co] 121 (0, 0)) := by rw [Below.heap_setCell _ _ _ _ (Ne.symm n2), Below.heap_setCell _ _ _ _ (Ne.symm n2)]; exact g1
    simp [World.frozen?, h2]
  rw [← hdpe] at hd
  clear hd hnt
  rw [← hon] at k1
  rw [← hcn] at k2
  rw [← hdpe] at k3 hdp
  rw [← hxn]
  rw [← hxn, ← hon] at hoi hob
  rw [← hxn, ← hcn] at hc_i
  have hc_j : xn = cn := by omega
  clear hc_i
  subst hc_j
  have hx2 : xn = 58 := by rw [hxn, hx]; rfl
  clear hxn
  subst hx2
  clear ffz fbz hdpe hon hcn hx ho hc
  clear h hD hcd hcb hlen rf ro hfb hob hfo hblk hbb hgfo hgfb hgob hbgf hbgo hme hne hwe hm
  go_enter Tryd.func79, Tryd.ntmps79
  go_wp2_with fail
  go_quiet (fail)
  go_wp2_with fail
  refine (HE.out _).mono ?_
  rintro e w' ⟨rfl, rfl⟩
  subst hd0
  go_wp2_with fail
  refine (HEn.out _).mono ?_
  rintro e w' ⟨rfl, hw'⟩
  have q3 := c3n nq 5 (.int .i64 (p : Int)) (.int .i64 ((p : Int) + 1))
  have q3f := c3f nq 5 (.int .i64 (p : Int)) (.int .i64 ((p : Int) + 1))
  rw [hw'] at q3 q3f
  clear c3n c3f
  go_wp2
  rw [← hw']
  go_end0
  try rw [HM.out]
  try rw [HN.out]
  try rw [HWH.out]
  obtain ⟨g1, g2, g3, g4, g5⟩ := HR.out
  obtain ⟨n1, n2, n3, n4, n5⟩ := HNE.out
  refine ⟨rfl, .slice (some ⟨gf, 0, none⟩) F.length cf, .slice (some ⟨go_, 0, none⟩) K.length co, ⟨?_, ?_, ?_, g4⟩, below_set (below_set (below_set (below_drewN (Below.refl _ _) _) n4) n4) g4⟩
  · have e0 := heap_set (b := b) (i := 3) (w := ((w.drewN nq).setCell ⟨gf, k.wh * 6 + 5, none⟩ (.int .i64 (p : Int))).setCell ⟨gf, k.wh * 6 + 1, none⟩ (.int .i64 ((p : Int) + 1))) (by rw [Below.heap_setCell _ _ _ _ (Ne.symm n2), Below.heap_setCell _ _ _ _ (Ne.symm n2)]; exact g1) (.slice (some ⟨go_, 0, none⟩) K.length co)
    exact e0
  · have e1 : dlsV (F.set k.wh { D with mt := p, en := p + 1 }) = ((dlsV F).set (k.wh * 6 + 5) (.int .i64 (p : Int))).set (k.wh * 6 + 1) (.int .i64 ((p : Int) + 1)) := by
      unfold dlsV
      rw [← fl_set dlC 6 dl_len F k.wh 5 D { D with mt := p } (.int .i64 (p : Int)) g5 (by omega) rfl]
      rw [← fl_set dlC 6 dl_len (F.set k.wh { D with mt := p }) k.wh 1 { D with mt := p } { D with mt := p, en := p + 1 } (.int .i64 ((p : Int) + 1)) (set_same g5) (by omega) rfl, List.set_set]
    simp only [e1, List.length_set]
    exact row_set (V.owns_put (V.owns_put (g2.kept (row := none) ⟨rfl, rfl, rfl, Nat.le_refl _, fun _ _ _ => rfl⟩ (Classical.em _)) _) _) (by simp [Value.ownBlock]; exact n2) _
  · have e2 : brsV (K ++ [k]) = brsV K ++ brC k := by unfold brsV; rw [List.flatMap_append]; simp
    rw [e2] at g3
    have g3' := owns_pop g3 (by unfold brsV; rw [fl_len brC 4 br_len])
    exact row_set (row_set (row_set (g3'.kept (row := none) ⟨rfl, rfl, rfl, Nat.le_refl _, fun _ _ _ => rfl⟩ (Classical.em _)) (by simp [Value.ownBlock]; exact Ne.symm n1) _) (by simp [Value.ownBlock]; exact Ne.symm n1) _) (by simp [Value.ownBlock]; exact n3) _
end Go.Proofs.YtbciedpjaajhcaaDoor.Ex
