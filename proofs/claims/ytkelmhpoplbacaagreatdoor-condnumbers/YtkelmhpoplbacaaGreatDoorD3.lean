/-
  What upTo, enclosed and side do.
-/
import Derived.Test.YtkelmhpoplbacaaGreatDoorD2
import Derived.Test.YtkelmhpoplbacaaGreatDoorY6
namespace Go.Proofs.YtkelmhpoplbacaaGreatDoor.Cd
open Go.RowKit Go.Shelf Ex

/-- A call under way: the reader in block b; the box of the fault that is answered lies right behind what was there. -/
structure Fx (b : Nat) (s : ByteArray) (a d : Nat) (w W : World) : Prop where
  cr : Cr b s a d W
  wt : Wt b w W
  hb : b < w.heap.size
  bx : W.heap[w.heap.size]? = some (.cells #[.int .i64 0, .int .i64 0] 43 (0, 0))
section
variable {b : Nat} {s : ByteArray} {a d : Nat} {w W W' : World}
theorem Fx.start (h : Cr b s a d w) : Fx b s a d w (w.alloc (.cells #[.int .i64 0, .int .i64 0] 43)) :=
  ⟨h.alloc _, Wt.below ((Below.refl _ _).alloc (Nat.le_refl _) _), h.lt, heap_alloc_new _ _⟩
theorem Fx.bl (h : Fx b s a d w W) : w.heap.size < W.heap.size := (Array.getElem?_eq_some_iff.1 h.bx).1
theorem Fx.next (h : Fx b s a d w W) {a' d' : Nat} (hc : Cr b s a' d' W') (hw : Wt b W W') : Fx b s a' d' w W' :=
  ⟨hc, h.wt.trans hw, h.hb, (hw.block _ h.bl (by have := h.hb; omega)).trans h.bx⟩
theorem Fx.below (h : Fx b s a d w W) (hb : Below W.heap.size W W') : Fx b s a d w W' := h.next (h.cr.below hb) (Wt.below hb)
theorem Fx.on (hb : Below W.heap.size W W') (h : Fx b s a d w W) : Fx b s a d w W' := h.below hb
theorem Fx.at_ (h : Fx b s a d w W) (k : Nat) (z : Int) (hz : z = (k : Int)) : Fx b s k d w (W.setCell ⟨b, 1, none⟩ (.int .i64 z)) := h.next (h.cr.at_ k z hz) ((Wt.refl b W).set _)
theorem Fx.deep_ (h : Fx b s a d w W) (k : Nat) (z : Int) (hz : z = (k : Int)) : Fx b s a k w (W.setCell ⟨b, 2, none⟩ (.int .i64 z)) := h.next (h.cr.deep_ k z hz) ((Wt.refl b W).set _)
theorem Fx.drew (h : Fx b s a d w W) : Fx b s a d w W.drew := ⟨h.cr, h.wt.drew, h.hb, h.bx⟩
theorem Fx.drewN (h : Fx b s a d w W) (n : Nat) : Fx b s a d w (W.drewN n) := ⟨h.cr, h.wt.drewN n, h.hb, h.bx⟩
theorem Fx.b0 (h : Fx b s a d w W) : W.cell? ⟨w.heap.size, 0, none⟩ = some (.int .i64 0) := cellb h.bx 0 rfl
theorem Fx.b1 (h : Fx b s a d w W) : W.cell? ⟨w.heap.size, 1, none⟩ = some (.int .i64 0) := cellb h.bx 1 rfl
theorem Fx.bf (h : Fx b s a d w W) (i : Nat) : W.frozen? ⟨w.heap.size, i, none⟩ = false := by simp [World.frozen?, h.bx]
theorem Wt.new {g i : Nat} (h : Wt b w W) (hg : w.heap.size ≤ g) (x : Value) : Wt b w (W.setCell ⟨g, i, none⟩ x) :=
  ⟨h.os, h.tape, h.output, by simpa [World.setCell] using h.size, fun j hj hn => by
    have hne : j ≠ g := by omega
    exact (Below.heap_setCell _ _ _ _ hne).trans (h.block j hj hn)⟩
/-- The fault is written, and the call ends. -/
theorem Fx.fin (h : Fx b s a d w W) (x y : Value) : Cr b s a d ((W.setCell ⟨w.heap.size, 0, none⟩ x).setCell ⟨w.heap.size, 1, none⟩ y) ∧ Wt b w ((W.setCell ⟨w.heap.size, 0, none⟩ x).setCell ⟨w.heap.size, 1, none⟩ y) := by
  have hn : b ≠ w.heap.size := by have := h.hb; omega
  exact ⟨(h.cr.set _ hn).set _ hn, (h.wt.new (Nat.le_refl _) _).new (Nat.le_refl _) _⟩
theorem Fx.fin0 (h : Fx b s a d w W) (x y : Value) : ((W.setCell ⟨w.heap.size, 0, none⟩ x).setCell ⟨w.heap.size, 1, none⟩ y).heap[w.heap.size]? = some (.cells #[x, y] 43 (0, 0)) :=
  heap_setb (heap_setb h.bx _) _
end
def UpPost (b : Nat) (s : ByteArray) (a d : Nat) (r : Bool × Nat) (w : World) (e : Ending) (w' : World) : Prop :=
  Wt b w w' ∧ if r.1 then e = .returned (.tuple #[.string (s.extract a r.2), fV 0 0]) ∧ Cr b s r.2 d w' else e = .returned (.tuple #[.string E0, fV 13 (r.2 : Int)]) ∧ ∃ a', Cr b s a' d w'

theorem index_neg (x : UInt8) : ∀ l : List UInt8, l.contains x = false → Lib.indexByte l x = -1 := by
  intro l
  induction l with
  | nil => intro _; rfl
  | cons y r ih =>
    intro h
    have h2 : ¬ x ∈ y :: r := fun e => by rw [← List.contains_iff_mem] at e; rw [e] at h; cases h
    have hy : (y == x) = false := by rw [beq_eq_false_iff_ne]; exact fun e => h2 (e ▸ List.mem_cons_self)
    have hr : r.contains x = false := by rw [← Bool.not_eq_true, List.contains_iff_mem]; exact fun e => h2 (List.mem_cons_of_mem _ e)
    unfold Lib.indexByte
    rw [hy, ih hr]; rfl
theorem index_pos (x : UInt8) : ∀ l : List UInt8, l.contains x = true → 0 ≤ Lib.indexByte l x := by
  intro l
  induction l with
  | nil => intro h; cases h
  | cons y r ih =>
    intro h
    rw [List.contains_iff_mem] at h
    unfold Lib.indexByte
    by_cases hy : y = x
    · rw [if_pos (by simp [hy])]; exact Int.le_refl _
    · rw [if_neg (by simp [hy])]
      have hr : r.contains x = true := by
        rw [List.contains_iff_mem]
        rcases List.mem_cons.1 h with e | e
        · exact absurd e.symm hy
        · exact e
      have := ih hr
      rw [if_neg (by simp; omega)]
      omega
theorem use_drop {s : ByteArray} {k : Nat} (h : k < s.size) (hx : s[k] = 36) : useN (bl (s.extract k s.size)) = (endN ((bl s).drop k)).getD 0 := by
  have e : bl (s.extract k s.size) = (bl s).drop k := by rw [bl_extract, List.take_of_length_le (by rw [bl_length]; exact Nat.le_refl _)]
  rw [e, drop_at s k h]
  unfold useN
  dsimp only
  rw [if_pos hx]
theorem ext_sz (s : ByteArray) (k : Nat) : (s.extract k s.size).size = s.size - k := by
  rw [← bl_length, bl_extract, List.length_drop, List.length_take, bl_length]; omega
set_option maxRecDepth 20000 in
set_option maxHeartbeats 2000000 in
theorem upTo_any (b : Nat) (s p : ByteArray) (hs : s.size ≤ 1000000) (a d : Nat) (ha : a ≤ s.size) (w : World) (h : Cr b s a d w) :
    Calls Tryz.prog 156 #[.pointer (some ⟨b, 0, none⟩), .string p] w (UpPost b s a d (untilP (bl s) (bl p) a) w) := by
  have HI : Hid (∀ (x : UInt8) W, Calls Tryz.prog 149 #[.string p, .int .u8 (x.toNat : Int)] W fun e w' => e = .returned (.int .i64 (Lib.indexByte (bl p) x)) ∧ W = w') := fun x W => (Tryz.strings_IndexByte p (x.toNat : Int) W).mono fun e w' h => ⟨by rw [h.1, u8_back]; rfl, h.2.symm⟩
  have HU : Hid (∀ k W, k ≤ s.size → Calls Tryz.prog 167 #[.string (s.extract k s.size)] W fun e w' => e = .returned (.int .i64 (useN (bl (s.extract k s.size)) : Nat)) ∧ Below W.heap.size W w') := fun k W _ => useN_any _ W (by rw [ext_sz]; omega)
  have HS : Hid (∀ (k : Nat), k ≤ s.size → ∀ W, (Instr.slice 9 (.string s) (some (.int .i64 (k : Int))) none none).run Tryz.prog W = .ok (.string (s.extract k s.size)) W) := fun k hk W => slf s k hk W
  have HT : Hid (∀ (i j : Nat), i ≤ j → j ≤ s.size → ∀ W, (Instr.slice 9 (.string s) (some (.int .i64 (i : Int))) (some (.int .i64 (j : Int))) none).run Tryz.prog W = .ok (.string (s.extract i j)) W) := fun i j h1 h2 W => slc s i j h1 h2 _ _ rfl rfl W
  obtain ⟨z, hz⟩ : ∃ z, z = untilP (bl s) (bl p) a := ⟨_, rfl⟩
  rw [← hz]
  have HZ : Hid (untilP (bl s) (bl p) a = z) := hz.symm
  have H0 : Hid (Fx b s a d w (w.alloc (.cells #[.int .i64 0, .int .i64 0] 43))) := Fx.start h
  have c1 := H0.out.cr.c1
  clear h hz
  go_enter Tryz.func156, Tryz.ntmps156
  go_wp2_with fail
  go_loopw [] (fun wr => ∃ k : Nat, a ≤ k ∧ k ≤ s.size ∧ Hid (Fx b s k d w wr ∧ untilP (bl s) (bl p) k = z)) (fun wr => s.size - posOf b wr)
  case atStart => exact ⟨a, Nat.le_refl _, ha, H0.out, HZ.out⟩
  case round =>
    obtain ⟨k, hak, hk, HF⟩ := hrel
    clear c1 H0 HZ
    have c0 := HF.out.1.cr.c0
    have c1 := HF.out.1.cr.c1
    have f1 := HF.out.1.cr.fr 1
    by_cases hlt : k < s.size
    · have hli : (k : Int) < (s.size : Int) := by omega
      have hdec : decide ((k : Int) < (s.size : Int)) = true := decide_eq_true hli
      cases hc : (bl p).contains s[k]
      · by_cases h36 : s[k] = 36
        · have hxN : s[k].toNat = 36 := by rw [h36]; rfl
          have HBx : Hid (∀ W, Calls Tryz.prog 149 #[.string p, .int .u8 36] W fun e w' => e = .returned (.int .i64 (-1)) ∧ W = w') := fun W => by have := HI.out 36 W; rw [index_neg 36 _ (by rw [← h36]; exact hc)] at this; exact this
          have hU := HU.out k
          rw [use_drop hlt h36] at hU
          have hsl := HS.out k hk
          obtain ⟨u, hu⟩ : ∃ u, u = s.extract k s.size := ⟨_, rfl⟩
          rw [← hu] at hU hsl
          clear hu
          cases he : endN ((bl s).drop k) with
          | none =>
            have HE : Hid (z = (false, k)) := by
              unfold Hid
              rw [← HF.out.2]
              exact until_bad hlt hc h36 he
            rw [he] at hU
            have HU2 : Hid (∀ W, Calls Tryz.prog 167 #[.string u] W fun e w' => e = .returned (.int .i64 0) ∧ Below W.heap.size W w') := fun W => hU W hk
            have HW : Hid (∀ W, Calls Tryz.prog 34 #[.int .i64 (k : Int)] W fun e w' => e = .returned (fV 13 (k : Int)) ∧ Below W.heap.size W w') := fun W => wrong_any _ W
            clear hc h36 he hU HI HU HS HT
            go_wp2_with fail
            go_region_held3 (fun W => W.cell? ⟨b, 0, none⟩ = some (.string s) ∧ W.cell? ⟨b, 1, none⟩ = some (.int .i64 (k : Int))) (first | exact ⟨HF.out.1.cr.c0, HF.out.1.cr.c1⟩ | exact ⟨HF.out.1.cr.drew.c0, HF.out.1.cr.drew.c1⟩) (first | (go_at_call 149; refine (HBx.out _).mono ?_; rintro e w' ⟨rfl, rfl⟩))
            go_wp2_with fail
            go_quiet (fail)
            go_wp2_with fail
            go_region_held3 (fun W => W.cell? ⟨b, 0, none⟩ = some (.string s) ∧ W.cell? ⟨b, 1, none⟩ = some (.int .i64 (k : Int))) (first | exact ⟨HF.out.1.cr.c0, HF.out.1.cr.c1⟩ | exact ⟨(Cr.on hb1 HF.out.1.cr).c0, (Cr.on hb1 HF.out.1.cr).c1⟩) (first | (go_at_call 167; refine (HU2.out _).mono ?_; rintro e w1 ⟨rfl, hb1⟩))
            have H1 : Hid (Fx b s k d w w1) := Fx.on hb1 (HF.out.1.drewN _)
            have d1 := H1.out.cr.c1
            clear hb1 c0 c1 f1
            go_wp2_with fail
            refine (HW.out _).mono ?_
            rintro e w2 ⟨rfl, hb2⟩
            have H2 : Hid (Fx b s k d w w2) := H1.out.below hb2
            have g0 := H2.out.b0
            have g1 := H2.out.b1
            have gf0 := H2.out.bf 0
            have gf1 := H2.out.bf 1
            clear hb2 d1
            go_wp2
            refine bodyPost_ret (v := .tuple #[.string E0, fV 13 (k : Int)]) (by simp [results, Tryz.results156, go_sem, g0, g1]) rfl ?_
            rw [HE.out]
            exact ⟨(H2.out.fin _ _).2, rfl, k, (H2.out.fin _ _).1⟩
          | some m =>
            have hm := end_le he
            rw [drop_len] at hm
            have HE : Hid (untilP (bl s) (bl p) (k + m) = z) := by
              unfold Hid
              rw [← HF.out.2]
              exact (until_use hlt hc h36 he).symm
            rw [he] at hU
            have HU2 : Hid (∀ W, Calls Tryz.prog 167 #[.string u] W fun e w' => e = .returned (.int .i64 (m : Int)) ∧ Below W.heap.size W w') := fun W => hU W hk
            have hm0 : ¬ (m : Int) = 0 := by omega
            have hm1 : ((m : Int) == 0) = false := by simpa using hm0
            clear hc h36 he hU HI HU HS HT
            go_wp2_with fail
            go_region_held3 (fun W => W.cell? ⟨b, 0, none⟩ = some (.string s) ∧ W.cell? ⟨b, 1, none⟩ = some (.int .i64 (k : Int))) (first | exact ⟨HF.out.1.cr.c0, HF.out.1.cr.c1⟩ | exact ⟨HF.out.1.cr.drew.c0, HF.out.1.cr.drew.c1⟩) (first | (go_at_call 149; refine (HBx.out _).mono ?_; rintro e w' ⟨rfl, rfl⟩))
            go_wp2_with fail
            go_quiet (fail)
            go_wp2_with fail
            go_region_held3 (fun W => W.cell? ⟨b, 0, none⟩ = some (.string s) ∧ W.cell? ⟨b, 1, none⟩ = some (.int .i64 (k : Int))) (first | exact ⟨HF.out.1.cr.c0, HF.out.1.cr.c1⟩ | exact ⟨(Cr.on hb1 HF.out.1.cr).c0, (Cr.on hb1 HF.out.1.cr).c1⟩) (first | (go_at_call 167; refine (HU2.out _).mono ?_; rintro e w1 ⟨rfl, hb1⟩))
            have H1 : Hid (Fx b s k d w w1) := Fx.on hb1 (HF.out.1.drewN _)
            have d1 := H1.out.cr.c1
            have df := H1.out.cr.fr 1
            clear hb1 c0 c1 f1
            go_wp2_with fail
            go_roundw
            case rel => exact ⟨k + m, by omega, by omega, H1.out.at_ (k + m) _ (by omega), HE.out⟩
            case measure =>
              refine Nat.lt_of_le_of_lt (Nat.le_of_eq (congrArg (fun q => s.size - q) (H1.out.at_ (k + m) _ (by omega)).cr.pos)) ?_
              rw [HF.out.1.cr.pos]
              omega
        · obtain ⟨x, hx⟩ : ∃ x, x = s[k] := ⟨_, rfl⟩
          have hxN : s[k].toNat = x.toNat := by rw [hx]
          have n36 : ¬ (x.toNat : Int) = 36 := by
            have h : ¬ x.toNat = 36 := fun h => h36 (by rw [← hx]; exact UInt8.toNat_inj.1 (by rw [h]; rfl))
            omega
          have n36b : ((x.toNat : Int) == 36) = false := by simpa using n36
          have HBx : Hid (∀ W, Calls Tryz.prog 149 #[.string p, .int .u8 (x.toNat : Int)] W fun e w' => e = .returned (.int .i64 (-1)) ∧ W = w') := fun W => by have := HI.out x W; rw [index_neg x _ (by rw [hx]; exact hc)] at this; exact this
          have HE : Hid (untilP (bl s) (bl p) (k + 1) = z) := by
            unfold Hid
            rw [← HF.out.2]
            exact (until_go hlt hc h36).symm
          clear hc h36 hx HI HU HS HT
          go_wp2_with fail
          go_region_held3 (fun W => W.cell? ⟨b, 0, none⟩ = some (.string s) ∧ W.cell? ⟨b, 1, none⟩ = some (.int .i64 (k : Int))) (first | exact ⟨HF.out.1.cr.c0, HF.out.1.cr.c1⟩ | exact ⟨HF.out.1.cr.drew.c0, HF.out.1.cr.drew.c1⟩) (first | (go_at_call 149; refine (HBx.out _).mono ?_; rintro e w' ⟨rfl, rfl⟩))
          go_wp2_with fail
          go_quiet (fail)
          go_wp2_with fail
          go_roundw
          case rel => exact ⟨k + 1, by omega, by omega, (HF.out.1.drewN _).at_ (k + 1) _ (by omega), HE.out⟩
          case measure =>
            refine Nat.lt_of_le_of_lt (Nat.le_of_eq (congrArg (fun q => s.size - q) ((HF.out.1.drewN _).at_ (k + 1) _ (by omega)).cr.pos)) ?_
            rw [HF.out.1.cr.pos]
            omega
      · obtain ⟨x, hx⟩ : ∃ x, x = s[k] := ⟨_, rfl⟩
        have hxN : s[k].toNat = x.toNat := by rw [hx]
        have hpos := index_pos x (bl p) (by rw [hx]; exact hc)
        obtain ⟨m, hm⟩ : ∃ m, m = Lib.indexByte (bl p) x := ⟨_, rfl⟩
        have hmn : ¬ m < 0 := by omega
        have hmd : decide (m < 0) = false := decide_eq_false hmn
        have HBx : Hid (∀ W, Calls Tryz.prog 149 #[.string p, .int .u8 (x.toNat : Int)] W fun e w' => e = .returned (.int .i64 m) ∧ W = w') := fun W => by have := HI.out x W; rw [← hm] at this; exact this
        have HE : Hid (z = (true, k)) := by
          unfold Hid
          rw [← HF.out.2]
          exact until_hit hlt hc
        have hsl := HT.out a k hak hk
        obtain ⟨u, hu⟩ : ∃ u, u = s.extract a k := ⟨_, rfl⟩
        rw [← hu] at hsl
        have HUe : Hid (u = s.extract a k) := hu
        have g0 := HF.out.1.b0
        have g1 := HF.out.1.b1
        have gf0 := HF.out.1.bf 0
        have gf1 := HF.out.1.bf 1
        clear hu hc hx hpos hm HI HU HS HT
        go_wp2_with fail
        go_region_held3 (fun W => W.cell? ⟨b, 0, none⟩ = some (.string s) ∧ W.cell? ⟨b, 1, none⟩ = some (.int .i64 (k : Int))) (first | exact ⟨HF.out.1.cr.c0, HF.out.1.cr.c1⟩ | exact ⟨HF.out.1.cr.drew.c0, HF.out.1.cr.drew.c1⟩) (first | (go_at_call 149; refine (HBx.out _).mono ?_; rintro e w' ⟨rfl, rfl⟩))
        go_wp2_with fail
        go_region_with (fail)
        all_goals
          go_wp2
          refine bodyPost_ret (v := .tuple #[.string u, fV 0 0]) (by simp [results, Tryz.results156, go_sem, g0, g1]) rfl ?_
          rw [HE.out, HUe.out]
          first | exact ⟨(Fx.fin (HF.out.1.drewN _) _ _).2, rfl, (Fx.fin (HF.out.1.drewN _) _ _).1⟩ | exact ⟨(HF.out.1.fin _ _).2.drew, rfl, (HF.out.1.fin _ _).1.drew⟩ | exact ⟨(HF.out.1.fin _ _).2.drew.drew, rfl, (HF.out.1.fin _ _).1.drew.drew⟩
    · have HE : Hid (z = (true, k)) := by
        unfold Hid
        rw [← HF.out.2]
        exact until_end hlt
      have hli : ¬ (k : Int) < (s.size : Int) := by omega
      have hdec : decide ((k : Int) < (s.size : Int)) = false := decide_eq_false hli
      have hsl := HT.out a k hak hk
      obtain ⟨u, hu⟩ : ∃ u, u = s.extract a k := ⟨_, rfl⟩
      rw [← hu] at hsl
      have HUe : Hid (u = s.extract a k) := hu
      have g0 := HF.out.1.b0
      have g1 := HF.out.1.b1
      have gf0 := HF.out.1.bf 0
      have gf1 := HF.out.1.bf 1
      clear hu HI HU HS HT
      go_wp2_with fail
      go_quiet (fail)
      go_wp2_with fail
      go_region_with (fail)
      all_goals
        go_wp2
        refine bodyPost_ret (v := .tuple #[.string u, fV 0 0]) (by simp [results, Tryz.results156, go_sem, g0, g1]) rfl ?_
        rw [HE.out, HUe.out]
        first | exact ⟨(Fx.fin (HF.out.1.drewN _) _ _).2, rfl, (Fx.fin (HF.out.1.drewN _) _ _).1⟩ | exact ⟨(HF.out.1.fin _ _).2.drew, rfl, (HF.out.1.fin _ _).1.drew⟩ | exact ⟨(HF.out.1.fin _ _).2.drew.drew, rfl, (HF.out.1.fin _ _).1.drew.drew⟩
end Go.Proofs.YtkelmhpoplbacaaGreatDoor.Cd
