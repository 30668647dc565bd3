/-
  MC1 MC2
-/
import Derived.Test.YtedepknbaakkhabGreatDoorK06
import Derived.Test.YtedepknbaakkhabGreatDoorK30
set_option maxRecDepth 20000
namespace Go.Proofs.YtedepknbaakkhabGreatDoor
open Go.RowKit Go.Shelf
theorem comp_why {p : List UInt8} {why a : Nat} (h : RxSem.Comp p (.inr (why, a))) : why ≠ 0 := by
  by_cases hl : p.length ≤ 200
  · obtain ⟨l, h1, _⟩ := h.flat hl
    exact X.sc_why h1 rfl
  · cases h with
    | long => omega
    | bad w l h' => omega
    | many k r h' => omega
theorem Only.wrote {b : Nat} {w w' : World} (h : Only b w w') : X.Wrote b w w' := ⟨h.os, h.tape, h.output, by rw [h.size]; exact Nat.le_refl _, fun j _ hj => h.block j hj⟩
theorem made_wrote {r c : Nat} {t : ByteArray} {k : List RxSem.Nd} {w w' : World} (h : X.Made r t k w) (hW : X.Wrote c w w') {T : TypeId} (hT : ¬ 113 = T ∧ ¬ 148 = T ∧ ¬ 146 = T) {cs : Array Value} (hc : w.heap[c]? = some (.cells cs T (0, 0))) : X.Made r t k w' := by
  have hne : ∀ {j : Nat} {cs' : Array Value} {T' : TypeId}, w.heap[j]? = some (.cells cs' T' (0, 0)) → ¬ T' = T → j ≠ c := fun {j cs' T'} h1 h2 e => by
    rw [e, hc] at h1
    simp at h1
    exact h2 h1.2.symm
  cases h with
  | fresh v base L hb hr hok hsp hL => exact .fresh v base L ((hW.block r (Array.getElem?_eq_some_iff.1 hb).1 (hne hb hT.1)).trans hb) (X.wrote_row hW hr (X.row_ne hr hc hT.2.1)) hok hsp hL
  | found gs cap SL h =>
    obtain ⟨cur, h2, h3⟩ := h.stp
    exact .found gs cap SL ⟨(hW.block r (Array.getElem?_eq_some_iff.1 h.blk).1 (hne h.blk hT.1)).trans h.blk, ⟨cur, (hW.block gs (Array.getElem?_eq_some_iff.1 h2).1 (hne h2 hT.2.2)).trans h2, h3⟩, h.abs, h.oks, h.few⟩
theorem made_md {r c : Nat} {t : ByteArray} {k : List RxSem.Nd} {w w' : World} (h : X.Made r t k w) (hW : Only c w w') {cs : Array Value} (hc : w.heap[c]? = some (.cells cs 37 (0, 0))) : X.Made r t k w' := made_wrote h hW.wrote (by decide) hc
def LookPost (b : Nat) (x : ByteArray) (c : List RxSem.Nd ⊕ (Nat × Nat)) (mk : Option Addr → Array Value) (w : World) (e : Ending) (w' : World) : Prop :=
  X.Wrote b w w' ∧ match c with
  | .inl k => e = .returned (.bool true) ∧ ∃ r : Nat, w.heap.size ≤ r ∧ X.Made r x k w' ∧ w'.heap[b]? = some (.cells (mk (some ⟨r, 0, none⟩)) 37 (0, 0))
  | .inr _ => e = .returned (.bool false) ∧ w'.heap[b]? = some (.cells (mk none) 37 (0, 0))
theorem wrote_alloc {b : Nat} {w w' : World} (h : X.Wrote b w w') (o : Obj) : X.Wrote b w (w'.alloc o) := ⟨h.os, h.tape, h.output, Nat.le_trans h.size (by simp), fun j hj hb => (Below.heap_alloc _ _ _ (Nat.lt_of_lt_of_le hj h.size)).trans (h.block j hj hb)⟩
theorem wrote_set {b : Nat} {w w' : World} (h : X.Wrote b w w') (i : Nat) (v : Value) : X.Wrote b w (w'.setCell ⟨b, i, none⟩ v) := h.trans (Only.set b i w' v).wrote
set_option maxHeartbeats 1600000 in
theorem lookFor_c (b : Nat) (x : ByteArray) (w : World) (cc : List RxSem.Nd ⊕ (Nat × Nat)) (hc : RxSem.Comp (bl x) cc) {a c : ByteArray} {bg en : Bool} {ex : Option Addr} {al on : Bool} {mks ots frm upto : Int}
    (h : w.heap[b]? = some (.cells (mdV ⟨#[67]⟩ a c bg en ex al on mks ots frm upto) 37 (0, 0))) :
    Calls Tryz.prog 25 #[.pointer (some ⟨b, 0, none⟩), .string x] w (LookPost b x cc (fun ex => mdV ⟨#[67]⟩ a c bg en ex al on mks ots frm upto) w) := by
  have HC : Hid (Calls Tryz.prog 49 #[.string x] w (X.MadePost x w cc)) := X.compile_made x cc hc w
  obtain ⟨⟨r0, r1, r2, r3, r4, r5, r6, r7, r8, r9, r10, r11⟩, hfz⟩ := mod_cells h
  have HBk : Hid (w.heap[b]? = some (.cells (mdV ⟨#[67]⟩ a c bg en ex al on mks ots frm upto) 37 (0, 0)) ∧ b < w.heap.size) := ⟨h, (Array.getElem?_eq_some_iff.1 h).1⟩
  clear h
  cases cc with
  | inl k =>
    clear hc
    go_enter Tryz.func25, Tryz.ntmps25
    go_wp2_with fail
    refine HC.out.mono ?_
    rintro e w1 ⟨hb1, r, rfl, hr, hmade⟩
    dsimp only [X.faultV]
    have hB1 : w1.heap[b]? = some (.cells (mdV ⟨#[67]⟩ a c bg en ex al on mks ots frm upto) 37 (0, 0)) := (hb1.block b HBk.out.2).trans HBk.out.1
    have hs1 := hb1.size
    have hF1 : ∀ o, (w1.alloc o).heap[b]? = some (.cells (mdV ⟨#[67]⟩ a c bg en ex al on mks ots frm upto) 37 (0, 0)) := fun o => by
      rw [heap_alloc_old _ _ (Nat.lt_of_lt_of_le HBk.out.2 hs1)]; exact hB1
    have HH : Hid (∀ o, X.Wrote b w ((w1.alloc o).setCell ⟨b, 5, none⟩ (.pointer (some ⟨r, 0, none⟩))) ∧ X.Made r x k ((w1.alloc o).setCell ⟨b, 5, none⟩ (.pointer (some ⟨r, 0, none⟩))) ∧ ((w1.alloc o).setCell ⟨b, 5, none⟩ (.pointer (some ⟨r, 0, none⟩))).heap[b]? = some (.cells (mdV ⟨#[67]⟩ a c bg en (some ⟨r, 0, none⟩) al on mks ots frm upto) 37 (0, 0))) := fun o => by
      refine ⟨wrote_set (wrote_alloc ⟨hb1.os, hb1.tape, hb1.output, hb1.size, fun j hj _ => hb1.block j hj⟩ o) 5 _, ?_, heap_set (hF1 o) _⟩
      exact made_md (hmade.below ((Below.refl _ _).alloc (Nat.le_refl _) o)) (Only.set b 5 _ _) (hF1 o)
    have HR : Hid (w.heap.size ≤ r) := hr
    obtain ⟨w3, hw3⟩ : ∃ w3, w3 = w1.alloc (.cells #[.int .i64 0, .int .i64 0] 28) := ⟨_, rfl⟩
    have hblk : w3.heap[w1.heap.size]? = some (.cells #[.int .i64 0, .int .i64 0] 28 (0, 0)) := by rw [hw3]; exact heap_alloc_new w1 _
    have y0 : w3.cell? ⟨w1.heap.size, 0, none⟩ = some (.int .i64 0) := by simp [World.cell?, hblk]
    have hB3 : w3.heap[b]? = some (.cells (mdV ⟨#[67]⟩ a c bg en ex al on mks ots frm upto) 37 (0, 0)) := by rw [hw3]; exact hF1 _
    obtain ⟨⟨u0, u1, u2, u3, u4, u5, u6, u7, u8, u9, u10, u11⟩, hfu⟩ := mod_cells hB3
    have hne : ¬ b = w1.heap.size := by have := HBk.out.2; omega
    have hne2 : ¬ w1.heap.size = b := by have := HBk.out.2; omega
    have HH3 := HH.out (.cells #[.int .i64 0, .int .i64 0] 28)
    rw [← hw3] at HH3
    have HQ : Hid _ := HH3
    clear HH3 HH hb1 hr hmade hB1 hs1 hF1 hblk hB3 r0 r1 r2 r3 r4 r5 r6 r7 r8 r9 r10 r11 hfz
    go_upto_region 3 with fail
    rw [show w1.alloc (.cells #[.int .i64 0, .int .i64 0] 28) = w3 from hw3.symm]
    clear hw3
    go_wp2
    go_ret
    exact ⟨HQ.out.1, rfl, r, HR.out, HQ.out.2.1, HQ.out.2.2⟩
  | inr p =>
    obtain ⟨why, at'⟩ := p
    have hwhy := comp_why hc
    clear hc
    go_enter Tryz.func25, Tryz.ntmps25
    go_wp2_with fail
    refine HC.out.mono ?_
    rintro e w1 ⟨hb1, rfl⟩
    dsimp only [X.faultV]
    have hB1 : w1.heap[b]? = some (.cells (mdV ⟨#[67]⟩ a c bg en ex al on mks ots frm upto) 37 (0, 0)) := (hb1.block b HBk.out.2).trans HBk.out.1
    have hs1 := hb1.size
    have hF1 : ∀ o, (w1.alloc o).heap[b]? = some (.cells (mdV ⟨#[67]⟩ a c bg en ex al on mks ots frm upto) 37 (0, 0)) := fun o => by
      rw [heap_alloc_old _ _ (Nat.lt_of_lt_of_le HBk.out.2 hs1)]; exact hB1
    have HH : Hid (∀ o, X.Wrote b w ((w1.alloc o).setCell ⟨b, 5, none⟩ (.pointer none)) ∧ ((w1.alloc o).setCell ⟨b, 5, none⟩ (.pointer none)).heap[b]? = some (.cells (mdV ⟨#[67]⟩ a c bg en none al on mks ots frm upto) 37 (0, 0))) := fun o =>
      ⟨wrote_set (wrote_alloc ⟨hb1.os, hb1.tape, hb1.output, hb1.size, fun j hj _ => hb1.block j hj⟩ o) 5 _, heap_set (hF1 o) _⟩
    obtain ⟨w3, hw3⟩ : ∃ w3, w3 = w1.alloc (.cells #[.int .i64 (why : Int), .int .i64 (at' : Int)] 28) := ⟨_, rfl⟩
    have hblk : w3.heap[w1.heap.size]? = some (.cells #[.int .i64 (why : Int), .int .i64 (at' : Int)] 28 (0, 0)) := by rw [hw3]; exact heap_alloc_new w1 _
    have y0 : w3.cell? ⟨w1.heap.size, 0, none⟩ = some (.int .i64 (why : Int)) := by simp [World.cell?, hblk]
    have hB3 : w3.heap[b]? = some (.cells (mdV ⟨#[67]⟩ a c bg en ex al on mks ots frm upto) 37 (0, 0)) := by rw [hw3]; exact hF1 _
    obtain ⟨⟨u0, u1, u2, u3, u4, u5, u6, u7, u8, u9, u10, u11⟩, hfu⟩ := mod_cells hB3
    have hne : ¬ b = w1.heap.size := by have := HBk.out.2; omega
    have hne2 : ¬ w1.heap.size = b := by have := HBk.out.2; omega
    have HH3 := HH.out (.cells #[.int .i64 (why : Int), .int .i64 (at' : Int)] 28)
    rw [← hw3] at HH3
    have HQ : Hid _ := HH3
    have hwi : ((why : Int) == 0) = false := by rw [beq_eq_false_iff_ne]; omega
    clear HH3 HH hb1 hB1 hs1 hF1 hblk hB3 r0 r1 r2 r3 r4 r5 r6 r7 r8 r9 r10 r11 hfz
    go_upto_region 3 with fail
    rw [show w1.alloc (.cells #[.int .i64 (why : Int), .int .i64 (at' : Int)] 28) = w3 from hw3.symm]
    clear hw3
    go_wp2
    go_ret
    exact ⟨HQ.out.1, rfl, HQ.out.2⟩
def cntC : List UInt8 → Nat × Nat
  | [] => (0, 0)
  | [c] => if c = 38 then (1, 0) else (0, 1)
  | c :: d :: t => if c = 38 then ((cntC (d :: t)).1 + 1, (cntC (d :: t)).2) else if c = 92 then ((cntC t).1, (cntC t).2 + 1) else ((cntC (d :: t)).1, (cntC (d :: t)).2 + 1)
theorem cnt_amp (l : List UInt8) : cntC (38 :: l) = ((cntC l).1 + 1, (cntC l).2) := by cases l <;> simp [cntC]
theorem cnt_esc (l : List UInt8) : cntC (92 :: l) = ((cntC (l.drop 1)).1, (cntC (l.drop 1)).2 + 1) := by cases l <;> simp [cntC]
theorem cnt_other {c : UInt8} (l : List UInt8) (h1 : c ≠ 38) (h2 : c ≠ 92) : cntC (c :: l) = ((cntC l).1, (cntC l).2 + 1) := by cases l <;> simp [cntC, h1, h2]
theorem cntC_le : ∀ l : List UInt8, (cntC l).1 + (cntC l).2 ≤ l.length
  | [] => by simp [cntC]
  | [c] => by simp only [cntC]; split <;> simp
  | c :: d :: t => by
    have h1 := cntC_le (d :: t)
    have h2 := cntC_le t
    simp only [cntC]
    split
    · simp at h1 ⊢; omega
    · split
      · simp at h2 ⊢; omega
      · simp at h1 ⊢; omega
set_option maxHeartbeats 1600000 in
theorem put_c (b : Nat) (x : ByteArray) (w : World) (hx : x.size ≤ 1000000) {a c : ByteArray} {bg en : Bool} {ex : Option Addr} {al on : Bool} {frm upto : Int}
    (h : w.heap[b]? = some (.cells (mdV ⟨#[67]⟩ a c bg en ex al on 0 0 frm upto) 37 (0, 0))) :
    Calls Tryz.prog 26 #[.pointer (some ⟨b, 0, none⟩), .string x] w fun e w' => e = .returned (.tuple #[]) ∧ Only b w w' ∧
      w'.heap[b]? = some (.cells (mdV ⟨#[67]⟩ a x bg en ex al on ((cntC (bl x)).1 : Nat) ((cntC (bl x)).2 : Nat) frm upto) 37 (0, 0)) := by
  obtain ⟨⟨r0, r1, r2, r3, r4, r5, r6, r7, r8, r9, r10, r11⟩, hfz⟩ := mod_cells h
  have HBk : Hid (w.heap[b]? = some (.cells (mdV ⟨#[67]⟩ a c bg en ex al on 0 0 frm upto) 37 (0, 0))) := h
  clear h
  obtain ⟨M, hM⟩ : ∃ M, M = (cntC (bl x)).1 := ⟨_, rfl⟩
  obtain ⟨O, hO⟩ : ∃ O, O = (cntC (bl x)).2 := ⟨_, rfl⟩
  have hle := cntC_le (bl x)
  rw [bl_length] at hle
  rw [← hM, ← hO] at hle ⊢
  have HMO : Hid (M = 0 + (cntC ((bl x).drop 0)).1 ∧ O = 0 + (cntC ((bl x).drop 0)).2) := ⟨by rw [hM, List.drop_zero, Nat.zero_add], by rw [hO, List.drop_zero, Nat.zero_add]⟩
  clear hM hO
  go_enter Tryz.func26, Tryz.ntmps26
  go_wp2
  go_loopw [4] (fun vi wr => ∃ k m o : Nat, k ≤ x.size + 1 ∧ Hid (M = m + (cntC ((bl x).drop k)).1 ∧ O = o + (cntC ((bl x).drop k)).2) ∧ m ≤ M ∧ o ≤ O ∧ vi = .int .i64 k ∧ Hid (Only b w wr) ∧ wr.heap[b]? = some (.cells (mdV ⟨#[67]⟩ a x bg en ex al on m o frm upto) 37 (0, 0)))
    (fun vi _ => x.size + 1 - (intOf vi).toNat)
  case atStart =>
    refine ⟨0, 0, 0, Nat.zero_le _, HMO, Nat.zero_le _, Nat.zero_le _, rfl, Only.set b 2 w _, ?_⟩
    exact heap_set HBk.out _
  case round =>
    obtain ⟨k, m, o, hk, HK, hmk, hok, rfl, HO, hh⟩ := hrel
    clear r0 r1 r2 r3 r4 r5 r6 r7 r8 r9 r10 r11 hfz
    obtain ⟨⟨r0, r1, r2, r3, r4, r5, r6, r7, r8, r9, r10, r11⟩, hfz⟩ := mod_cells hh
    have HH : Hid (wr.heap[b]? = some (.cells (mdV ⟨#[67]⟩ a x bg en ex al on m o frm upto) 37 (0, 0))) := hh
    clear hh
    have hmb : m ≤ 1000000 := by omega
    have hkb : o ≤ 1000000 := by omega
    by_cases hlt : k < x.size
    · have hil : (k : Int) < (x.size : Int) := by omega
      have hd := drop_bl x k hlt
      obtain ⟨cc, hc⟩ : ∃ cc, cc = x[k] := ⟨_, rfl⟩
      obtain ⟨cn, hcn⟩ : ∃ cn : Int, cn = (x[k].toNat : Int) := ⟨_, rfl⟩
      have hgk : (x[k].toNat : Int) = cn := hcn.symm
      rw [← hc] at hd
      have HCC : Hid (cn = (cc.toNat : Int)) := by rw [hcn, hc]; rfl
      clear hcn hc
      have hk2 := HK.out
      rw [hd] at hk2
      clear hd
      by_cases h38 : cc = 38
      · have t1 : (cn == 38) = true := by rw [HCC.out, h38]; rfl
        rw [h38, cnt_amp] at hk2
        have HK2 : Hid (M = (m + 1) + (cntC ((bl x).drop (k + 1))).1 ∧ O = o + (cntC ((bl x).drop (k + 1))).2) := ⟨by have := hk2.1; simp only at this; omega, hk2.2⟩
        clear hk2
        have hm2 : m + 1 ≤ M := by have := HK2.out.1; omega
        go_wp2
        go_roundw
        case rel =>
          refine ⟨k + 1, m + 1, o, by omega, HK2, hm2, hok, by go_num, HO.out.trans (Only.set b 8 _ _), ?_⟩
          exact heap_set HH.out _
        case measure => simp [intOf]; omega
      · have t1 : (cn == 38) = false := by rw [HCC.out]; rw [← Bool.not_eq_true, beq_iff_eq]; intro e1; apply h38; rw [u8_eq_iff]; have : (38 : UInt8).toNat = 38 := rfl; omega
        by_cases h92 : cc = 92
        · have t2 : (cn == 92) = true := by rw [HCC.out, h92]; rfl
          rw [h92, cnt_esc, List.drop_drop] at hk2
          have HK2 : Hid (M = m + (cntC ((bl x).drop (k + 2))).1 ∧ O = (o + 1) + (cntC ((bl x).drop (k + 2))).2) := ⟨by have := hk2.1; simp only at this; rw [show k + 1 + 1 = k + 2 by omega] at this; omega, by have := hk2.2; simp only at this; rw [show k + 1 + 1 = k + 2 by omega] at this; omega⟩
          clear hk2
          have hm2 : o + 1 ≤ O := by have := HK2.out.2; omega
          go_wp2
          go_roundw
          case rel =>
            refine ⟨k + 2, m, o + 1, by omega, HK2, hmk, hm2, by go_num, HO.out.trans (Only.set b 9 _ _), ?_⟩
            exact heap_set HH.out _
          case measure => simp [intOf]; omega
        · have t2 : (cn == 92) = false := by rw [HCC.out]; rw [← Bool.not_eq_true, beq_iff_eq]; intro e1; apply h92; rw [u8_eq_iff]; have : (92 : UInt8).toNat = 92 := rfl; omega
          rw [cnt_other _ h38 h92] at hk2
          have HK2 : Hid (M = m + (cntC ((bl x).drop (k + 1))).1 ∧ O = (o + 1) + (cntC ((bl x).drop (k + 1))).2) := ⟨hk2.1, by have := hk2.2; simp only at this; omega⟩
          clear hk2
          have hm2 : o + 1 ≤ O := by have := HK2.out.2; omega
          go_wp2
          go_roundw
          case rel =>
            refine ⟨k + 1, m, o + 1, by omega, HK2, hmk, hm2, by go_num, HO.out.trans (Only.set b 9 _ _), ?_⟩
            exact heap_set HH.out _
          case measure => simp [intOf]; omega
    · have hnl : ¬ (k : Int) < (x.size : Int) := by omega
      have hd0 : (bl x).drop k = [] := List.drop_of_length_le (by rw [bl_length]; omega)
      have HE : Hid (M = m ∧ O = o) := by
        have := HK.out
        rw [hd0] at this
        exact ⟨by simpa [cntC] using this.1, by simpa [cntC] using this.2⟩
      clear hd0 HK
      go_wp2
      refine bodyPost_end (v := .tuple #[]) (by simp [results, Tryz.results26, go_sem]) rfl ?_
      rw [HE.out.1, HE.out.2]
      exact ⟨rfl, HO.out, HH.out⟩
end Go.Proofs.YtedepknbaakkhabGreatDoor
namespace Go.Proofs.YtedepknbaakkhabGreatDoor
open Go.RowKit Go.Shelf
structure Um where
  md : Md
  rx : Option (ByteArray × List RxSem.Nd) := none
inductive Ru where
  | bad (why : Nat)
  | ok (u : Um) (n : Nat)
def Fits (m : Md) (u : Um) (lo : Nat) (w : World) : Prop := match u.rx with
  | none => m = u.md
  | some (t, k) => ∃ r : Nat, lo ≤ r ∧ m = { u.md with ex := some ⟨r, 0, none⟩ } ∧ X.Made r t k w
def RuPost (r : Ru) (w : World) (e : Ending) (w' : World) : Prop := Below w.heap.size w w' ∧ match r with
  | .bad why => e = .returned (Rd.bad why).val
  | .ok u n => ∃ m, e = .returned (Rd.ok m n).val ∧ Fits m u w.heap.size w'
noncomputable def compOf (l : List UInt8) : List RxSem.Nd ⊕ (Nat × Nat) := Classical.choose (RxSem.Comp.total l)
theorem compOf_is (l : List UInt8) : RxSem.Comp l (compOf l) := Classical.choose_spec (RxSem.Comp.total l)
def changeMdC (x2 : List UInt8) (al on : Bool) : Md := { kind := ⟨#[67]⟩, b := ba x2, al := al, on := on, mks := ((cntC x2).1 : Nat), ots := ((cntC x2).2 : Nat) }
noncomputable def changeC (d : UInt8) (s : List UInt8) : Ru :=
  if (untilL d (s.drop 2)).2.2 = false then .bad 4 else
  match compOf (untilL d (s.drop 2)).1 with
  | .inr _ => .bad 12
  | .inl k =>
  if (untilL d (s.drop ((untilL d (s.drop 2)).2.1 + 3))).2.2 = false then .bad 4 else
  if (flagL false false (flagsOf (s.drop ((untilL d (s.drop 2)).2.1 + (untilL d (s.drop ((untilL d (s.drop 2)).2.1 + 3))).2.1 + 4)))).1 = false then .bad 12 else
  .ok { md := changeMdC (untilL d (s.drop ((untilL d (s.drop 2)).2.1 + 3))).1 (flagL false false (flagsOf (s.drop ((untilL d (s.drop 2)).2.1 + (untilL d (s.drop ((untilL d (s.drop 2)).2.1 + 3))).2.1 + 4)))).2.1 (flagL false false (flagsOf (s.drop ((untilL d (s.drop 2)).2.1 + (untilL d (s.drop ((untilL d (s.drop 2)).2.1 + 3))).2.1 + 4)))).2.2, rx := some (ba (untilL d (s.drop 2)).1, k) }
    ((untilL d (s.drop 2)).2.1 + (untilL d (s.drop ((untilL d (s.drop 2)).2.1 + 3))).2.1 + 4 + (flagsOf (s.drop ((untilL d (s.drop 2)).2.1 + (untilL d (s.drop ((untilL d (s.drop 2)).2.1 + 3))).2.1 + 4))).length)
abbrev newC : Array Value := mdV ⟨#[67]⟩ E E false false none false false 0 0 0 0
theorem two_newC (w : World) : Hid (∀ W0 W, W0 = ((w.alloc (.cells zeroMd 37)).alloc (.cells newC 37)).drew → Below W0.heap.size W0 W → W.heap[w.heap.size]? = some (.cells zeroMd 37 (0, 0)) ∧ W.heap[w.heap.size + 1]? = some (.cells newC 37 (0, 0)) ∧ Below w.heap.size w W) := by
  rintro W0 W rfl hB
  have z : ((w.alloc (.cells zeroMd 37)).alloc (.cells newC 37)).drew.heap.size = w.heap.size + 2 := by simp
  rw [z] at hB
  refine ⟨?_, ?_, ?_⟩
  · rw [hB.block _ (by omega)]
    show ((w.alloc (.cells zeroMd 37)).alloc (.cells newC 37)).heap[w.heap.size]? = _
    rw [heap_alloc_old _ _ (by simp)]; exact heap_alloc_new w _
  · rw [hB.block _ (by omega)]
    show ((w.alloc (.cells zeroMd 37)).alloc (.cells newC 37)).heap[w.heap.size + 1]? = _
    have := heap_alloc_new (w.alloc (.cells zeroMd 37)) (.cells newC 37)
    simpa using this
  · exact (((Below.refl _ w).alloc (Nat.le_refl _) _).alloc (by simp) _).drew.trans (hB.mono (by omega))
theorem setMd_only (w : World) (b : Nat) (kind a c : ByteArray) (bg en : Bool) (ex : Option Addr) (al on : Bool) (mks ots frm upto : Int) : Only b w (setMd w b kind a c bg en ex al on mks ots frm upto) := by
  unfold setMd
  exact (((((((((((Only.set _ _ _ _).trans (Only.set _ _ _ _)).trans (Only.set _ _ _ _)).trans (Only.set _ _ _ _)).trans (Only.set _ _ _ _)).trans (Only.set _ _ _ _)).trans (Only.set _ _ _ _)).trans (Only.set _ _ _ _)).trans (Only.set _ _ _ _)).trans (Only.set _ _ _ _)).trans (Only.set _ _ _ _)).trans (Only.set _ _ _ _)
theorem wrote_below {b B : Nat} {w0 w w' : World} (h : X.Wrote b w w') (hb : B ≤ b) (hB : B ≤ w.heap.size) (h0 : Below B w0 w) : Below B w0 w' :=
  ⟨h.os.trans h0.os, h.tape.trans h0.tape, h.output.trans h0.output, Nat.le_trans h0.size h.size, fun j hj => (h.block j (by omega) (by omega)).trans (h0.block j hj)⟩
set_option maxHeartbeats 3200000 in
theorem change_c (s : ByteArray) (w : World) (hs : s.size ≤ 1000000) (h2 : 2 ≤ s.size) (hx : s.extract 0 1 = ⟨#[67]⟩) (d : UInt8) (hd : d = s[1]) (hmx : Mx w) :
    Calls Tryz.prog 17 #[.string s] w (RuPost (changeC d (bl s)) w) := by
  obtain ⟨dn, hdn⟩ : ∃ dn : Int, dn = (s[1].toNat : Int) := ⟨_, rfl⟩
  have hdd : dn = (d.toNat : Int) := by rw [hd]; exact hdn
  have h2i : (2 : Int) ≤ (s.size : Int) := by omega
  have h1i : (1 : Int) < (s.size : Int) := by omega
  have hgk : (s[1].toNat : Int) = dn := hdn.symm
  clear hdn hd
  have HM : Hid (∀ W, Below w.heap.size w W → Mx W) := fun W hB => hmx.below hB hmx.pos
  clear hmx
  obtain ⟨R, hR⟩ : ∃ R, R = changeC d (bl s) := ⟨_, rfl⟩
  rw [← hR]
  unfold changeC at hR
  have HN := two_newC w
  rcases hu1 : untilL d ((bl s).drop 2) with ⟨x1, n1, f1⟩
  have HU1 := until_at hs hu1 hdd
  have hl1 := (until_len d ((bl s).drop 2))
  have hg1 := until_lt (e := d) (l := (bl s).drop 2)
  rw [hu1] at hR hl1 hg1
  simp only [List.length_drop, bl_length] at hl1 hg1
  have HDD : Hid (dn = (d.toNat : Int)) := hdd
  clear hdd hu1
  cases f1 with
  | false =>
    have HR : Hid (R = .bad 4) := hR.trans (if_pos rfl)
    clear hR hg1
    go_enter Tryz.func17, Tryz.ntmps17
    go_wp2_with fail
    go_region_held3 (fun _ => True) (trivial) (first | (go_at_call 15; refine (HU1.out _).mono ?_; rintro e w3 ⟨rfl, hb3⟩))
    obtain ⟨hr3, _, hL3⟩ := HN.out _ w3 rfl hb3
    clear hb3
    obtain ⟨⟨r0, r1, r2, r3, r4, r5, r6, r7, r8, r9, r10, r11⟩, hfz⟩ := mod_cells hr3
    have HBk : Hid (w3.heap[w.heap.size]? = some (.cells zeroMd 37 (0, 0))) := hr3
    clear hr3
    go_wp2
    have hWb : Below w.heap.size w (setMd w3 w.heap.size E E E false false none false false 0 0 0 0) := setMd_below hL3 (Nat.le_refl _)
    have hWh := setMd_heap (kind := E) (a := E) (c := E) (bg := false) (en := false) (ex := none) (al := false) (on := false) (mks := 0) (ots := 0) (frm := 0) (upto := 0) HBk.out
    obtain ⟨W, hW⟩ : ∃ W, W = setMd w3 w.heap.size E E E false false none false false 0 0 0 0 := ⟨_, rfl⟩
    rw [← hW] at hWh hWb
    obtain ⟨⟨q0, q1, q2, q3, q4, q5, q6, q7, q8, q9, q10, q11⟩, _⟩ := mod_cells hWh
    show bodyPost Tryz.prog Tryz.f17 _ Exit.ret _ (setMd w3 w.heap.size E E E false false none false false 0 0 0 0)
    rw [← hW]
    refine bodyPost_ret (v := .tuple #[.agg zeroMd, .int .i64 0, .int .i64 4]) (by simp [results, Tryz.results17, go_sem, q0, q1, q2, q3, q4, q5, q6, q7, q8, q9, q10, q11]; try rfl) rfl ⟨hWb, by rw [HR.out]; rfl⟩
  | true =>
    have hn1 := hg1 rfl
    rw [if_neg (by simp)] at hR
    simp only at hR hl1
    clear hg1
    have hxl : x1.length ≤ 1000000 := by omega
    have hnb : n1 ≤ 1000000 := by omega
    have hcc := compOf_is x1
    obtain ⟨CC, hCC⟩ : ∃ CC, CC = compOf x1 := ⟨_, rfl⟩
    rw [← hCC] at hcc hR
    clear hCC
    have HLF : Hid (∀ W : World, W.heap[w.heap.size + 1]? = some (.cells newC 37 (0, 0)) → Calls Tryz.prog 25 #[.pointer (some ⟨w.heap.size + 1, 0, none⟩), .string (ba x1)] W (LookPost (w.heap.size + 1) (ba x1) CC (fun ex => mdV ⟨#[67]⟩ E E false false ex false false 0 0 0 0) W)) := fun W hW =>
      lookFor_c (w.heap.size + 1) (ba x1) W CC (by rw [bl_ba]; exact hcc) hW
    clear hcc
    have hto1 : ((2 : Int) + (n1 : Int) + 1).toNat = n1 + 3 := by omega
    have h01 : (0 : Int) ≤ (2 : Int) + (n1 : Int) + 1 := by omega
    have hle1 : (2 : Int) + (n1 : Int) + 1 ≤ (s.size : Int) := by omega
    cases CC with
    | inr pp =>
      have HR : Hid (R = .bad 12) := hR
      clear hR
      go_enter Tryz.func17, Tryz.ntmps17
      go_wp2_with fail
      go_region_held3 (fun _ => True) (trivial) (first | (go_at_call 15; refine (HU1.out _).mono ?_; rintro e w3 ⟨rfl, hb3⟩))
      obtain ⟨hr3, hm3, hL3⟩ := HN.out _ w3 rfl hb3
      have HR3 : Hid (w3.heap[w.heap.size]? = some (.cells zeroMd 37 (0, 0)) ∧ w3.heap[w.heap.size + 1]? = some (.cells newC 37 (0, 0)) ∧ Below w.heap.size w w3 ∧ w.heap.size + 2 ≤ w3.heap.size) := ⟨hr3, hm3, hL3, by have := hb3.size; simpa using this⟩
      clear hb3 hr3 hm3 hL3
      go_wp2_with fail
      refine (HLF.out _ HR3.out.2.1).mono ?_
      rintro e w4 ⟨ho4, rfl, hm4⟩
      have hr4 : w4.heap[w.heap.size]? = some (.cells zeroMd 37 (0, 0)) := (ho4.block _ (by have := HR3.out.2.2.2; omega) (by omega)).trans HR3.out.1
      have HL : Hid (Below w.heap.size w w4) := wrote_below ho4 (by omega) (by have := HR3.out.2.2.2; omega) HR3.out.2.2.1
      clear ho4 hm4 HR3
      obtain ⟨⟨r0, r1, r2, r3, r4, r5, r6, r7, r8, r9, r10, r11⟩, hfz⟩ := mod_cells hr4
      have HBk : Hid (w4.heap[w.heap.size]? = some (.cells zeroMd 37 (0, 0))) := hr4
      clear hr4
      go_wp2
      have hWb : Below w.heap.size w (setMd w4 w.heap.size E E E false false none false false 0 0 0 0) := setMd_below HL.out (Nat.le_refl _)
      have hWh := setMd_heap (kind := E) (a := E) (c := E) (bg := false) (en := false) (ex := none) (al := false) (on := false) (mks := 0) (ots := 0) (frm := 0) (upto := 0) HBk.out
      obtain ⟨W, hW⟩ : ∃ W, W = setMd w4 w.heap.size E E E false false none false false 0 0 0 0 := ⟨_, rfl⟩
      rw [← hW] at hWh hWb
      obtain ⟨⟨q0, q1, q2, q3, q4, q5, q6, q7, q8, q9, q10, q11⟩, _⟩ := mod_cells hWh
      show bodyPost Tryz.prog Tryz.f17 _ Exit.ret _ (setMd w4 w.heap.size E E E false false none false false 0 0 0 0)
      rw [← hW]
      refine bodyPost_ret (v := .tuple #[.agg zeroMd, .int .i64 0, .int .i64 12]) (by simp [results, Tryz.results17, go_sem, q0, q1, q2, q3, q4, q5, q6, q7, q8, q9, q10, q11]; try rfl) rfl ⟨hWb, by rw [HR.out]; rfl⟩
    | inl kx =>
    simp only at hR
    rcases hu2 : untilL d ((bl s).drop (n1 + 3)) with ⟨x2, n2, f2⟩
    have HU2 := until_at hs hu2 HDD.out
    have hl2 := (until_len d ((bl s).drop (n1 + 3)))
    have hg2 := until_lt (e := d) (l := (bl s).drop (n1 + 3))
    rw [hu2] at hR hl2 hg2
    simp only [List.length_drop, bl_length] at hl2 hg2
    clear hu2
    cases f2 with
    | false =>
      have HR : Hid (R = .bad 4) := hR.trans (if_pos rfl)
      clear hR hg2
      go_enter Tryz.func17, Tryz.ntmps17
      go_wp2_with fail
      go_region_held3 (fun _ => True) (trivial) (first | (go_at_call 15; refine (HU1.out _).mono ?_; rintro e w3 ⟨rfl, hb3⟩))
      obtain ⟨hr3, hm3, hL3⟩ := HN.out _ w3 rfl hb3
      have HR3 : Hid (w3.heap[w.heap.size]? = some (.cells zeroMd 37 (0, 0)) ∧ w3.heap[w.heap.size + 1]? = some (.cells newC 37 (0, 0)) ∧ Below w.heap.size w w3 ∧ w.heap.size + 2 ≤ w3.heap.size) := ⟨hr3, hm3, hL3, by have := hb3.size; simpa using this⟩
      clear hb3 hr3 hm3 hL3
      go_wp2_with fail
      refine (HLF.out _ HR3.out.2.1).mono ?_
      rintro e w4 ⟨ho4, rfl, rr, hrr, hmd, hm4⟩
      have HR4 : Hid (w4.heap[w.heap.size]? = some (.cells zeroMd 37 (0, 0)) ∧ Below w.heap.size w w4 ∧ w.heap.size + 2 ≤ w4.heap.size) := ⟨(ho4.block _ (by have := HR3.out.2.2.2; omega) (by omega)).trans HR3.out.1, wrote_below ho4 (by omega) (by have := HR3.out.2.2.2; omega) HR3.out.2.2.1, Nat.le_trans HR3.out.2.2.2 ho4.size⟩
      clear ho4 hm4 HR3 hrr hmd
      go_wp2_with fail
      go_region_held3 (fun _ => True) (trivial) (first | (go_at_call 15; refine (HU2.out _).mono ?_; rintro e w5 ⟨rfl, hb5⟩))
      have hr5 : w5.heap[w.heap.size]? = some (.cells zeroMd 37 (0, 0)) := (hb5.block w.heap.size (by have := HR4.out.2.2; show _ < w4.heap.size; omega)).trans HR4.out.1
      have HL : Hid (Below w.heap.size w w5) := HR4.out.2.1.drew.trans (hb5.mono (by have := HR4.out.2.2; show _ ≤ w4.heap.size; omega))
      clear hb5
      obtain ⟨⟨r0, r1, r2, r3, r4, r5, r6, r7, r8, r9, r10, r11⟩, hfz⟩ := mod_cells hr5
      have HBk : Hid (w5.heap[w.heap.size]? = some (.cells zeroMd 37 (0, 0))) := hr5
      clear hr5
      go_wp2
      have hWb : Below w.heap.size w (setMd w5 w.heap.size E E E false false none false false 0 0 0 0) := setMd_below HL.out (Nat.le_refl _)
      have hWh := setMd_heap (kind := E) (a := E) (c := E) (bg := false) (en := false) (ex := none) (al := false) (on := false) (mks := 0) (ots := 0) (frm := 0) (upto := 0) HBk.out
      obtain ⟨W, hW⟩ : ∃ W, W = setMd w5 w.heap.size E E E false false none false false 0 0 0 0 := ⟨_, rfl⟩
      rw [← hW] at hWh hWb
      obtain ⟨⟨q0, q1, q2, q3, q4, q5, q6, q7, q8, q9, q10, q11⟩, _⟩ := mod_cells hWh
      show bodyPost Tryz.prog Tryz.f17 _ Exit.ret _ (setMd w5 w.heap.size E E E false false none false false 0 0 0 0)
      rw [← hW]
      refine bodyPost_ret (v := .tuple #[.agg zeroMd, .int .i64 0, .int .i64 4]) (by simp [results, Tryz.results17, go_sem, q0, q1, q2, q3, q4, q5, q6, q7, q8, q9, q10, q11]; try rfl) rfl ⟨hWb, by rw [HR.out]; rfl⟩
    | true =>
      have hn2 := hg2 rfl
      rw [if_neg (by simp)] at hR
      simp only at hR hl2
      clear hg2
      have hxl2 : x2.length ≤ 1000000 := by omega
      have hnb2 : n2 ≤ 1000000 := by omega
      have hto2 : ((2 : Int) + (n1 : Int) + 1 + ((n2 : Int) + 1)).toNat = n1 + n2 + 4 := by omega
      have hle2 : (2 : Int) + (n1 : Int) + 1 + ((n2 : Int) + 1) ≤ (s.size : Int) := by omega
      have HPu : Hid (∀ (rr : Nat) (W : World), W.heap[w.heap.size + 1]? = some (.cells (mdV ⟨#[67]⟩ E E false false (some ⟨rr, 0, none⟩) false false 0 0 0 0) 37 (0, 0)) → Calls Tryz.prog 26 #[.pointer (some ⟨w.heap.size + 1, 0, none⟩), .string (ba x2)] W fun e w' => e = .returned (.tuple #[]) ∧ Only (w.heap.size + 1) W w' ∧
        w'.heap[w.heap.size + 1]? = some (.cells (mdV ⟨#[67]⟩ E (ba x2) false false (some ⟨rr, 0, none⟩) false false ((cntC x2).1 : Nat) ((cntC x2).2 : Nat) 0 0) 37 (0, 0))) := fun rr W hW => by
        have := put_c (w.heap.size + 1) (ba x2) W (by rw [ba_size]; exact hxl2) hW
        rw [bl_ba] at this; exact this
      have HCu := cut_is (s := s) (q := n1 + n2 + 4) hs 58
      obtain ⟨fl, hfl⟩ : ∃ fl, fl = flagsOf ((bl s).drop (n1 + n2 + 4)) := ⟨_, rfl⟩
      obtain ⟨c1, hc1⟩ : ∃ c1, c1 = ba (Lib.cut ((bl s).drop (n1 + n2 + 4)) [58]).2.1 := ⟨_, rfl⟩
      obtain ⟨c2, hc2⟩ : ∃ c2, c2 = (Lib.cut ((bl s).drop (n1 + n2 + 4)) [58]).2.2 := ⟨_, rfl⟩
      rw [← hc1, ← hc2, show (Lib.cut ((bl s).drop (n1 + n2 + 4)) [58]).1 = fl from hfl.symm] at HCu
      rw [← hfl] at hR
      clear hc1 hc2
      have hfle : fl.length ≤ 1000000 := by
        rw [hfl]; unfold flagsOf Lib.cut
        split
        · have := bl_length s; simp; omega
        · have := bl_length s; simp; omega
      clear hfl
      have HFl : Hid (∀ (rr : Nat) (W : World), W.heap[w.heap.size + 1]? = some (.cells (mdV ⟨#[67]⟩ E (ba x2) false false (some ⟨rr, 0, none⟩) false false ((cntC x2).1 : Nat) ((cntC x2).2 : Nat) 0 0) 37 (0, 0)) → Calls Tryz.prog 27 #[.pointer (some ⟨w.heap.size + 1, 0, none⟩), .string (ba fl)] W fun e w' => e = .returned (.bool (flagL false false fl).1) ∧ Only (w.heap.size + 1) W w' ∧
        w'.heap[w.heap.size + 1]? = some (.cells (mdV ⟨#[67]⟩ E (ba x2) false false (some ⟨rr, 0, none⟩) (flagL false false fl).2.1 (flagL false false fl).2.2 ((cntC x2).1 : Nat) ((cntC x2).2 : Nat) 0 0) 37 (0, 0))) := fun rr W hW => by
        have := flag_s (w.heap.size + 1) (ba fl) W (by rw [ba_size]; exact hfle) hW
        rw [bl_ba] at this; exact this
      rcases hF : flagL false false fl with ⟨fo, al, on⟩
      rw [hF] at HFl hR
      obtain ⟨mks, hmks⟩ : ∃ mks : Int, mks = ((cntC x2).1 : Nat) := ⟨_, rfl⟩
      obtain ⟨ots, hots⟩ : ∃ ots : Int, ots = ((cntC x2).2 : Nat) := ⟨_, rfl⟩
      rw [← hmks, ← hots] at HPu HFl
      have HQ : Hid (mks = ((cntC x2).1 : Nat) ∧ ots = ((cntC x2).2 : Nat)) := ⟨hmks, hots⟩
      clear hmks hots hF
      have hbs : (ba fl).size = fl.length := ba_size fl
      have HRR : Hid (R = if (fo, al, on).1 = false then .bad 12 else .ok { md := changeMdC x2 al on, rx := some (ba x1, kx) } (n1 + n2 + 4 + fl.length)) := hR
      clear hR
      go_enter Tryz.func17, Tryz.ntmps17
      go_wp2_with fail
      go_region_held3 (fun _ => True) (trivial) (first | (go_at_call 15; refine (HU1.out _).mono ?_; rintro e w3 ⟨rfl, hb3⟩))
      obtain ⟨hr3, hm3, hL3⟩ := HN.out _ w3 rfl hb3
      have HR3 : Hid (w3.heap[w.heap.size]? = some (.cells zeroMd 37 (0, 0)) ∧ w3.heap[w.heap.size + 1]? = some (.cells newC 37 (0, 0)) ∧ Below w.heap.size w w3 ∧ w.heap.size + 2 ≤ w3.heap.size) := ⟨hr3, hm3, hL3, by have := hb3.size; simpa using this⟩
      clear hb3 hr3 hm3 hL3
      go_wp2_with fail
      refine (HLF.out _ HR3.out.2.1).mono ?_
      rintro e w4 ⟨ho4, rfl, rr, hrr, hmd, hm4⟩
      have HR4 : Hid (w4.heap[w.heap.size]? = some (.cells zeroMd 37 (0, 0)) ∧ Below w.heap.size w w4 ∧ w.heap.size + 2 ≤ w4.heap.size ∧ w4.heap[w.heap.size + 1]? = some (.cells (mdV ⟨#[67]⟩ E E false false (some ⟨rr, 0, none⟩) false false 0 0 0 0) 37 (0, 0)) ∧ w.heap.size ≤ rr ∧ X.Made rr (ba x1) kx w4) := ⟨(ho4.block _ (by have := HR3.out.2.2.2; omega) (by omega)).trans HR3.out.1, wrote_below ho4 (by omega) (by have := HR3.out.2.2.2; omega) HR3.out.2.2.1, Nat.le_trans HR3.out.2.2.2 ho4.size, hm4, by have := HR3.out.2.2.2; omega, hmd⟩
      clear ho4 hm4 HR3 hrr hmd
      go_wp2_with fail
      go_region_held3 (fun _ => True) (trivial) (first | (go_at_call 15; refine (HU2.out _).mono ?_; rintro e w5 ⟨rfl, hb5⟩))
      have HR5 : Hid (w5.heap[w.heap.size]? = some (.cells zeroMd 37 (0, 0)) ∧ Below w.heap.size w w5 ∧ w.heap.size + 2 ≤ w5.heap.size ∧ w5.heap[w.heap.size + 1]? = some (.cells (mdV ⟨#[67]⟩ E E false false (some ⟨rr, 0, none⟩) false false 0 0 0 0) 37 (0, 0)) ∧ w.heap.size ≤ rr ∧ X.Made rr (ba x1) kx w5) := by
        obtain ⟨g1, g2, g3, g4, g5, g6⟩ := HR4.out
        have z : w4.drew.heap.size = w4.heap.size := rfl
        exact ⟨(hb5.block w.heap.size (by omega)).trans g1, g2.drew.trans (hb5.mono (by omega)), by have := hb5.size; omega, (hb5.block (w.heap.size + 1) (by omega)).trans g4, g5, (g6.below (Below.refl _ w4).drew).below hb5⟩
      clear hb5 HR4
      go_wp2_with fail
      refine (HPu.out rr _ HR5.out.2.2.2.1).mono ?_
      rintro e w6 ⟨rfl, ho6, hm6⟩
      have HR6 : Hid (w6.heap[w.heap.size]? = some (.cells zeroMd 37 (0, 0)) ∧ Below w.heap.size w w6 ∧ w.heap.size + 2 ≤ w6.heap.size ∧ w6.heap[w.heap.size + 1]? = some (.cells (mdV ⟨#[67]⟩ E (ba x2) false false (some ⟨rr, 0, none⟩) false false mks ots 0 0) 37 (0, 0)) ∧ w.heap.size ≤ rr ∧ X.Made rr (ba x1) kx w6) := ⟨(ho6.block _ (by omega)).trans HR5.out.1, ho6.below (by omega) HR5.out.2.1, by rw [ho6.size]; exact HR5.out.2.2.1, hm6, HR5.out.2.2.2.2.1, made_md HR5.out.2.2.2.2.2 ho6 HR5.out.2.2.2.1⟩
      clear ho6 hm6 HR5
      go_wp2_with fail
      refine (HCu.out _ (HM.out _ HR6.out.2.1)).mono ?_
      rintro e w7 ⟨rfl, k7, hw7⟩
      have hb7 : Below w6.heap.size w6 w7 := by rw [hw7]; exact below_drewN (Below.refl _ _) k7
      clear hw7
      have HR7 : Hid (w7.heap[w.heap.size]? = some (.cells zeroMd 37 (0, 0)) ∧ Below w.heap.size w w7 ∧ w7.heap[w.heap.size + 1]? = some (.cells (mdV ⟨#[67]⟩ E (ba x2) false false (some ⟨rr, 0, none⟩) false false mks ots 0 0) 37 (0, 0)) ∧ w.heap.size ≤ rr ∧ X.Made rr (ba x1) kx w7) := by
        obtain ⟨g1, g2, g3, g4, g5, g6⟩ := HR6.out
        exact ⟨(hb7.block w.heap.size (by omega)).trans g1, g2.trans (hb7.mono (by omega)), (hb7.block (w.heap.size + 1) (by omega)).trans g4, g5, g6.below hb7⟩
      clear hb7 HR6
      go_wp2_with fail
      refine (HFl.out rr _ HR7.out.2.2.1).mono ?_
      rintro e w8 ⟨rfl, ho8, hm8⟩
      have hr8 : w8.heap[w.heap.size]? = some (.cells zeroMd 37 (0, 0)) := (ho8.block _ (by omega)).trans HR7.out.1
      have HL : Hid (Below w.heap.size w w8) := ho8.below (by omega) HR7.out.2.1
      have HX : Hid (w.heap.size ≤ rr ∧ X.Made rr (ba x1) kx w8) := ⟨HR7.out.2.2.2.1, made_md HR7.out.2.2.2.2 ho8 HR7.out.2.2.1⟩
      clear ho8 HR7
      obtain ⟨⟨r0, r1, r2, r3, r4, r5, r6, r7, r8, r9, r10, r11⟩, hfz⟩ := mod_cells hr8
      have HBk : Hid (w8.heap[w.heap.size]? = some (.cells zeroMd 37 (0, 0))) := hr8
      clear hr8
      obtain ⟨⟨p0, p1, p2, p3, p4, p5, p6, p7, p8, p9, p10, p11⟩, hfy⟩ := mod_cells hm8
      clear hm8
      cases fo with
      | false =>
        have HR : Hid (R = .bad 12) := HRR.out.trans (if_pos rfl)
        clear HRR
        go_wp2
        have hWb : Below w.heap.size w (setMd w8 w.heap.size E E E false false none false false 0 0 0 0) := setMd_below HL.out (Nat.le_refl _)
        have hWh := setMd_heap (kind := E) (a := E) (c := E) (bg := false) (en := false) (ex := none) (al := false) (on := false) (mks := 0) (ots := 0) (frm := 0) (upto := 0) HBk.out
        obtain ⟨W, hW⟩ : ∃ W, W = setMd w8 w.heap.size E E E false false none false false 0 0 0 0 := ⟨_, rfl⟩
        rw [← hW] at hWh hWb
        obtain ⟨⟨q0, q1, q2, q3, q4, q5, q6, q7, q8, q9, q10, q11⟩, _⟩ := mod_cells hWh
        show bodyPost Tryz.prog Tryz.f17 _ Exit.ret _ (setMd w8 w.heap.size E E E false false none false false 0 0 0 0)
        rw [← hW]
        refine bodyPost_ret (v := .tuple #[.agg zeroMd, .int .i64 0, .int .i64 12]) (by simp [results, Tryz.results17, go_sem, q0, q1, q2, q3, q4, q5, q6, q7, q8, q9, q10, q11]; try rfl) rfl ⟨hWb, by rw [HR.out]; rfl⟩
      | true =>
        have HR : Hid (R = .ok { md := changeMdC x2 al on, rx := some (ba x1, kx) } (n1 + n2 + 4 + fl.length)) := HRR.out.trans (if_neg (by simp))
        clear HRR
        go_wp2
        have hWb : Below w.heap.size w (setMd w8 w.heap.size ⟨#[67]⟩ E (ba x2) false false (some ⟨rr, 0, none⟩) al on mks ots 0 0) := setMd_below HL.out (Nat.le_refl _)
        have hWh := setMd_heap (kind := ⟨#[67]⟩) (a := E) (c := ba x2) (bg := false) (en := false) (ex := some ⟨rr, 0, none⟩) (al := al) (on := on) (mks := mks) (ots := ots) (frm := 0) (upto := 0) HBk.out
        obtain ⟨W, hW⟩ : ∃ W, W = setMd w8 w.heap.size ⟨#[67]⟩ E (ba x2) false false (some ⟨rr, 0, none⟩) al on mks ots 0 0 := ⟨_, rfl⟩
        rw [← hW] at hWh hWb
        obtain ⟨⟨q0, q1, q2, q3, q4, q5, q6, q7, q8, q9, q10, q11⟩, _⟩ := mod_cells hWh
        show bodyPost Tryz.prog Tryz.f17 _ Exit.ret _ (setMd w8 w.heap.size ⟨#[67]⟩ E (ba x2) false false (some ⟨rr, 0, none⟩) al on mks ots 0 0)
        rw [← hW]
        refine bodyPost_ret (v := .tuple #[.agg (mdV ⟨#[67]⟩ E (ba x2) false false (some ⟨rr, 0, none⟩) al on mks ots 0 0), .int .i64 ((2 : Int) + n1 + 1 + (n2 + 1) + fl.length), .int .i64 0]) (by simp [results, Tryz.results17, go_sem, q0, q1, q2, q3, q4, q5, q6, q7, q8, q9, q10, q11]; try rfl) rfl ⟨hWb, ?_⟩
        rw [HR.out]
        refine ⟨{ changeMdC x2 al on with ex := some ⟨rr, 0, none⟩ }, ?_, rr, HX.out.1, rfl, ?_⟩
        · unfold Rd.val Md.cells changeMdC
          obtain ⟨g4, g5⟩ := HQ.out
          rw [g4, g5]
          simp only [Ending.returned.injEq, Value.tuple.injEq]
          rw [show (2 : Int) + n1 + 1 + (n2 + 1) + fl.length = ((n1 + n2 + 4 + fl.length : Nat) : Int) by omega]
        · rw [hW]; exact made_md HX.out.2 (setMd_only _ _ _ _ _ _ _ _ _ _ _ _ _ _) HBk.out
end Go.Proofs.YtedepknbaakkhabGreatDoor
