/-
  read: of S, of a plain word, of a=b.
-/
import Derived.Test.YthcbagggalehgaaGreatDoorM5
namespace Go.Proofs.YthcbagggalehgaaGreatDoor
open Go.RowKit Go.Shelf

theorem one_new (w : World) : Hid (∀ W, Below (w.heap.size + 1) (w.alloc (.cells zeroMd 157)) W → W.heap[w.heap.size]? = some (.cells zeroMd 157 (0, 0)) ∧ Below w.heap.size w W) := fun W hB => by
  refine ⟨?_, ((Below.refl _ w).alloc (Nat.le_refl _) _).trans (hB.mono (by omega))⟩
  rw [hB.block w.heap.size (by omega)]; exact heap_alloc_new w _

set_option maxRecDepth 20000 in
set_option maxHeartbeats 1600000 in
theorem read_s (s : ByteArray) (w : World) (hs : s.size ≤ 1000000) (h2 : 2 ≤ s.size) (hk : headIs s 83 = true) (hp : partsB s[1] = true) (hmx : Mx w) :
    Calls Tryz.prog 101 #[.string s] w fun e w' => e = .returned (changeS s[1] (bl s)).val ∧ Below w.heap.size w w' := by
  have HP := pre_is hk
  have HM := pre_is (head_not (d := 77) hk (by decide))
  have HN := pre_is (head_not (d := 78) hk (by decide))
  obtain ⟨R, hR⟩ : ∃ R, R = changeS s[1] (bl s) := ⟨_, rfl⟩
  have HC : Hid (∀ W, Mx W → Calls Tryz.prog 109 #[.string s] W fun e w' => e = .returned R.val ∧ Below W.heap.size W w') := fun W hW => by
    rw [hR]; exact change_s s W hs h2 (ext_head hk) s[1] rfl hW
  rw [← hR]
  obtain ⟨dn, hdn⟩ : ∃ dn : Int, dn = (s[1].toNat : Int) := ⟨_, rfl⟩
  have HPa : Hid (∀ W, Calls Tryz.prog 108 #[.int .u8 dn] W fun e w' => e = .returned (.bool true) ∧ W = w') := fun W => by
    have := parts_any s[1] dn W hdn; rw [hp] at this; exact this
  have hgk : (s[1].toNat : Int) = dn := hdn.symm
  have h1i : (1 : Int) < (s.size : Int) := by omega
  have HMx : Hid (∀ W, Below w.heap.size w W → Mx W) := fun W hB => hmx.below hB hmx.pos
  have HB0 := one_new w
  clear hdn hp hk hmx hR
  go_enter Tryz.func101, Tryz.ntmps101
  go_wp2_with fail
  refine (HM.out _).mono ?_
  rintro e w' ⟨rfl, rfl⟩
  go_wp2_with fail
  refine (HN.out _).mono ?_
  rintro e w' ⟨rfl, rfl⟩
  go_wp2_with fail
  refine (HP.out _).mono ?_
  rintro e w' ⟨rfl, rfl⟩
  go_wp2_with fail
  refine (HPa.out _).mono ?_
  rintro e w' ⟨rfl, rfl⟩
  go_wp2_with fail
  refine (HC.out _ (HMx.out _ ((Below.refl _ w).alloc (Nat.le_refl _) _))).mono ?_
  rintro e w2 ⟨rfl, hb2⟩
  rw [World.size_alloc] at hb2
  obtain ⟨hblk, hlow⟩ := HB0.out w2 hb2
  obtain ⟨⟨r0, r1, r2, r3, r4, r5, r6, r7, r8, r9, r10, r11⟩, hfz⟩ := mod_cells hblk
  have HBk : Hid (w2.heap[w.heap.size]? = some (.cells zeroMd 157 (0, 0))) := hblk
  clear hblk
  cases R with
  | bad why =>
    dsimp only [Rd.val]
    go_wp2
    obtain ⟨W, hW⟩ : ∃ W, W = setMd w2 w.heap.size E E E false false none false false 0 0 0 0 := ⟨_, rfl⟩
    have hWb : Below w.heap.size w W := by rw [hW]; exact setMd_below hlow (Nat.le_refl _)
    have hWh := setMd_heap (kind := E) (a := E) (c := E) (bg := false) (en := false) (ex := none) (al := false) (on := false) (mks := 0) (ots := 0) (frm := 0) (upto := 0) HBk.out
    rw [← hW] at hWh
    obtain ⟨⟨q0, q1, q2, q3, q4, q5, q6, q7, q8, q9, q10, q11⟩, _⟩ := mod_cells hWh
    show bodyPost Tryz.prog Tryz.f101 _ Exit.ret _ (setMd w2 w.heap.size E E E false false none false false 0 0 0 0)
    rw [← hW]
    refine bodyPost_ret (v := .tuple #[.agg zeroMd, .int .i64 0, .int .i64 why]) (by simp [results, Tryz.results101, go_sem, q0, q1, q2, q3, q4, q5, q6, q7, q8, q9, q10, q11]; try rfl) rfl ⟨rfl, hWb⟩
  | ok m n =>
    obtain ⟨kind, a, c, bg, en, ex, al, on, mks, ots, frm, upto⟩ := m
    dsimp only [Rd.val, Md.cells]
    go_wp2
    obtain ⟨W, hW⟩ : ∃ W, W = setMd w2 w.heap.size kind a c bg en ex al on mks ots frm upto := ⟨_, rfl⟩
    have hWb : Below w.heap.size w W := by rw [hW]; exact setMd_below hlow (Nat.le_refl _)
    have hWh := setMd_heap (kind := kind) (a := a) (c := c) (bg := bg) (en := en) (ex := ex) (al := al) (on := on) (mks := mks) (ots := ots) (frm := frm) (upto := upto) HBk.out
    rw [← hW] at hWh
    obtain ⟨⟨q0, q1, q2, q3, q4, q5, q6, q7, q8, q9, q10, q11⟩, _⟩ := mod_cells hWh
    show bodyPost Tryz.prog Tryz.f101 _ Exit.ret _ (setMd w2 w.heap.size kind a c bg en ex al on mks ots frm upto)
    rw [← hW]
    refine bodyPost_ret (v := .tuple #[.agg (mdV kind a c bg en ex al on mks ots frm upto), .int .i64 n, .int .i64 0]) (by simp [results, Tryz.results101, go_sem, q0, q1, q2, q3, q4, q5, q6, q7, q8, q9, q10, q11]; try rfl) rfl ⟨rfl, hWb⟩

/-- A text that begins with none of the letters that take more. -/
def Plain (s : ByteArray) : Prop := headIs s 77 = false ∧ headIs s 78 = false ∧ headIs s 83 = false ∧ headIs s 67 = false ∧ headIs s 91 = false
def wordsL : List ByteArray := [⟨#[84]⟩, ⟨#[72]⟩, ⟨#[69]⟩, ⟨#[82]⟩, ⟨#[79]⟩, ⟨#[79, 114]⟩, ⟨#[117]⟩, ⟨#[114]⟩, ⟨#[116, 108]⟩, ⟨#[116, 117]⟩, ⟨#[81]⟩]

set_option maxRecDepth 20000 in
set_option maxHeartbeats 3200000 in
theorem read_word (s t : ByteArray) (n : Nat) (f : Bool) (w : World) (hs : s.size ≤ 1000000) (hk : Plain s) (hu : untilL 58 (bl s) = (bl t, n, f)) (ht : t ∈ wordsL) :
    Calls Tryz.prog 101 #[.string s] w fun e w' => e = .returned (Rd.ok { kind := t } n).val ∧ Below w.heap.size w w' := by
  have HM := pre_is hk.1
  have HN := pre_is hk.2.1
  have HS := pre_is hk.2.2.1
  have HC := pre_is hk.2.2.2.1
  have HL := pre_is hk.2.2.2.2
  have HU : Hid (∀ W, Calls Tryz.prog 107 #[.string s, .int .u8 58] W fun x w' => x = .returned (.tuple #[.string t, .int .i64 n, .bool f]) ∧ Below W.heap.size W w') := fun W => by
    have := until_any s 58 W hs
    unfold untilV at this
    rw [hu, ba_bl] at this
    exact this
  have hnb : n ≤ 1000000 := by have := (until_len 58 (bl s)).2; rw [hu, bl_length] at this; simp only at this; omega
  have HB0 := one_new w
  clear hk hu
  dsimp only [Rd.val, Md.cells]
  obtain ⟨kd, hkd⟩ : ∃ kd, kd = t := ⟨_, rfl⟩
  have HK : Hid (kd = t) := hkd
  clear hkd
  unfold wordsL at ht
  simp only [List.mem_cons, List.not_mem_nil, or_false] at ht
  rcases ht with rfl | rfl | rfl | rfl | rfl | rfl | rfl | rfl | rfl | rfl | rfl
  all_goals
    go_enter Tryz.func101, Tryz.ntmps101
    go_wp2_with fail
    refine (HM.out _).mono ?_
    rintro e w' ⟨rfl, rfl⟩
    go_wp2_with fail
    refine (HN.out _).mono ?_
    rintro e w' ⟨rfl, rfl⟩
    go_wp2_with fail
    refine (HS.out _).mono ?_
    rintro e w' ⟨rfl, rfl⟩
    go_wp2_with fail
    refine (HC.out _).mono ?_
    rintro e w' ⟨rfl, rfl⟩
    go_wp2_with fail
    refine (HL.out _).mono ?_
    rintro e w' ⟨rfl, rfl⟩
    go_wp2_with fail
    refine (HU.out _).mono ?_
    rintro e w2 ⟨rfl, hb2⟩
    rw [World.size_alloc] at hb2
    obtain ⟨hblk, hlow⟩ := HB0.out w2 hb2
    obtain ⟨⟨r0, r1, r2, r3, r4, r5, r6, r7, r8, r9, r10, r11⟩, hfz⟩ := mod_cells hblk
    have HBk : Hid (w2.heap[w.heap.size]? = some (.cells zeroMd 157 (0, 0))) := hblk
    clear hblk
    go_wp2
    obtain ⟨W, hW⟩ : ∃ W, W = setMd w2 w.heap.size kd E E false false none false false 0 0 0 0 := ⟨_, rfl⟩
    have hWb : Below w.heap.size w W := by rw [hW]; exact setMd_below hlow (Nat.le_refl _)
    have hWh := setMd_heap (kind := kd) (a := E) (c := E) (bg := false) (en := false) (ex := none) (al := false) (on := false) (mks := 0) (ots := 0) (frm := 0) (upto := 0) HBk.out
    rw [← hW] at hWh
    obtain ⟨⟨q0, q1, q2, q3, q4, q5, q6, q7, q8, q9, q10, q11⟩, _⟩ := mod_cells hWh
    show bodyPost Tryz.prog Tryz.f101 _ Exit.ret _ (setMd w2 w.heap.size _ E E false false none false false 0 0 0 0)
    rw [← HK.out, ← hW]
    refine bodyPost_ret (v := .tuple #[.agg (mdV kd E E false false none false false 0 0 0 0), .int .i64 n, .int .i64 0]) (by simp [results, Tryz.results101, go_sem, q0, q1, q2, q3, q4, q5, q6, q7, q8, q9, q10, q11]; try rfl) rfl ⟨rfl, hWb⟩
end Go.Proofs.YthcbagggalehgaaGreatDoor
