/-
  M15 DQ12
-/
import Derived.Test.YtpcpcfnmcfjomaaGreatDoorK19
import Derived.Test.YtpcpcfnmcfjomaaGreatDoorK16
namespace Go.Proofs.YtpcpcfnmcfjomaaGreatDoor
open Go.RowKit Go.Shelf
def fnL : List (ByteArray × Nat) := [(⟨#[77]⟩, 45), (⟨#[78]⟩, 46), (⟨#[83]⟩, 47), (⟨#[67]⟩, 48), (⟨#[84]⟩, 49), (⟨#[72]⟩, 50), (⟨#[69]⟩, 51), (⟨#[82]⟩, 52), (⟨#[116, 108]⟩, 53), (⟨#[116, 117]⟩, 54), (⟨#[61]⟩, 55)]
def allL : List ByteArray := [⟨#[79]⟩, ⟨#[79, 114]⟩, ⟨#[117]⟩, ⟨#[114]⟩, ⟨#[81]⟩, ⟨#[35]⟩, ⟨#[42]⟩, ⟨#[91]⟩]
set_option maxRecDepth 20000 in
set_option maxHeartbeats 1600000 in
theorem toWord_fn (b : Nat) (kd : ByteArray) (f : Nat) (hm : (kd, f) ∈ fnL) (w : World) (h : w.cell? ⟨b, 0, none⟩ = some (.string kd)) :
    Calls Tryz.prog 25 #[.pointer (some ⟨b, 0, none⟩)] w fun e w' => e = .returned (.func (Fn.func f) #[.pointer (some ⟨b, 0, none⟩)] #[]) ∧ w = w' := by
  unfold fnL at hm
  simp only [List.mem_cons, List.not_mem_nil, or_false, Prod.mk.injEq] at hm
  rcases hm with ⟨rfl, rfl⟩ | ⟨rfl, rfl⟩ | ⟨rfl, rfl⟩ | ⟨rfl, rfl⟩ | ⟨rfl, rfl⟩ | ⟨rfl, rfl⟩ | ⟨rfl, rfl⟩ | ⟨rfl, rfl⟩ | ⟨rfl, rfl⟩ | ⟨rfl, rfl⟩ | ⟨rfl, rfl⟩
  all_goals
    go_enter Tryz.func25, Tryz.ntmps25
    go_wp2
    go_ret
    exact ⟨rfl, rfl⟩
set_option maxRecDepth 20000 in
set_option maxHeartbeats 1600000 in
theorem toWord_nil (b : Nat) (kd : ByteArray) (hm : kd ∈ allL) (w : World) (h : w.cell? ⟨b, 0, none⟩ = some (.string kd)) :
    Calls Tryz.prog 25 #[.pointer (some ⟨b, 0, none⟩)] w fun e w' => e = .returned .nilFunc ∧ w = w' := by
  unfold allL at hm
  simp only [List.mem_cons, List.not_mem_nil, or_false] at hm
  rcases hm with rfl | rfl | rfl | rfl | rfl | rfl | rfl | rfl
  all_goals
    go_enter Tryz.func25, Tryz.ntmps25
    go_wp2
    go_ret
    exact ⟨rfl, rfl⟩
theorem sizeL_take (l : List ByteArray) (k : Nat) (hk : k < l.length) : sizeL (l.take (k + 1)) = sizeL (l.take k) + l[k].size := by
  rw [List.take_succ_eq_append_getElem hk, sizeL_snoc]
theorem sizeL_le (l : List ByteArray) (B : Nat) (h : ∀ y ∈ l, y.size ≤ B) : sizeL l ≤ l.length * B := by
  induction l with
  | nil => simp [sizeL]
  | cons x t ih =>
    have h1 := ih fun y hy => h y (List.mem_cons_of_mem _ hy)
    have h2 := h x (List.mem_cons_self)
    simp only [sizeL, List.map_cons, List.sum_cons, List.length_cons, Nat.succ_mul] at h1 ⊢
    omega
set_option maxRecDepth 20000 in
set_option maxHeartbeats 1600000 in
theorem few_any (a : Option Addr) (n c : Nat) (l : List ByteArray) (B : Nat) (w : World) (h : Words B w (.slice a n c) l) (hn : n ≤ 1000000) (hs : ∀ y ∈ l, y.size ≤ 1000000) :
    Calls Tryz.prog 13 #[.slice a n c] w fun e w' => e = .returned (.bool (decide (n ≤ 4096 ∧ sizeL l ≤ 65536))) ∧ w = w' := by
  have hnl := h.len
  have HW : Hid (Words B w (.slice a n c) l ∧ n = l.length) := ⟨h, hnl⟩
  have HS : Hid (∀ k, sizeL (l.take k) ≤ 1000000000000) := fun k => by
    have := sizeL_le (l.take k) 1000000 (fun y hy => hs y (List.mem_of_mem_take hy))
    have h2 : (l.take k).length ≤ 1000000 := by rw [List.length_take]; omega
    have := Nat.mul_le_mul_right 1000000 h2
    omega
  obtain ⟨R, hR⟩ : ∃ R, R = decide (n ≤ 4096 ∧ sizeL l ≤ 65536) := ⟨_, rfl⟩
  rw [← hR]
  have HR : Hid (R = decide (n ≤ 4096 ∧ sizeL l ≤ 65536)) := hR
  clear h hnl hs hR
  go_enter Tryz.func13, Tryz.ntmps13
  go_wp2
  go_loopw [3, 8] (fun v3 vi wr => ∃ k z : Nat, k ≤ n ∧ vi = .int .i64 k ∧ v3 = .int .i64 z ∧ z ≤ 1000000000000 ∧ Hid (z = sizeL (l.take k)) ∧ w = wr) (fun _ vi _ => n - (intOf vi).toNat)
  case atStart => exact ⟨0, 0, Nat.zero_le _, rfl, rfl, Nat.zero_le _, rfl, rfl⟩
  case round =>
    obtain ⟨k, z, hk, rfl, rfl, hz, HZ, rfl⟩ := hrel
    by_cases hlt : k < n
    · have hil : (k : Int) < (n : Int) := by omega
      have hkl : k < l.length := by rw [← HW.out.2]; exact hlt
      obtain ⟨b0, o0, ha, _, e1⟩ := HW.out.1.pick k hkl
      subst ha
      obtain ⟨x, hx⟩ : ∃ x, x = l[k] := ⟨_, rfl⟩
      rw [← hx] at e1
      have HZ2 : Hid (z + x.size = sizeL (l.take (k + 1))) := by unfold Hid; rw [sizeL_take l k hkl, HZ.out, hx]
      have hz2 : z + x.size ≤ 1000000000000 := by rw [HZ2.out]; exact HS.out _
      clear hx hkl
      go_wp2
      go_roundw
      case rel => exact ⟨k + 1, z + x.size, by omega, by go_num, by go_num, hz2, HZ2, trivial⟩
      case measure => simp [intOf]; omega
    · obtain rfl : k = n := by omega
      have HE : Hid (z = sizeL l) := by unfold Hid; rw [HZ.out, HW.out.2, List.take_length]
      by_cases h1 : k ≤ 4096
      · by_cases h2 : z ≤ 65536
        · have t1 : (k : Int) ≤ 4096 := by omega
          have t2 : (z : Int) ≤ 65536 := by omega
          have HR2 : Hid (R = true) := HR.out.trans (decide_eq_true ⟨h1, by rw [← HE.out]; exact h2⟩)
          clear HR
          go_wp2
          go_ret
          exact ⟨by rw [HR2.out]; rfl, rfl⟩
        · have t1 : (k : Int) ≤ 4096 := by omega
          have t2 : decide ((z : Int) ≤ 65536) = false := by simp; omega
          have HR2 : Hid (R = false) := HR.out.trans (decide_eq_false (fun e => h2 (by rw [HE.out]; exact e.2)))
          clear HR
          go_wp2
          go_ret
          exact ⟨by rw [HR2.out]; rfl, rfl⟩
      · have t1 : decide ((k : Int) ≤ 4096) = false := by simp; omega
        have HR2 : Hid (R = false) := HR.out.trans (decide_eq_false (fun e => h1 e.1))
        clear HR
        go_wp2
        go_ret
        exact ⟨by rw [HR2.out]; rfl, rfl⟩
end Go.Proofs.YtpcpcfnmcfjomaaGreatDoor
namespace Go.Proofs.YtpcpcfnmcfjomaaGreatDoor.DQ
open Go.RowKit Go.Shelf
theorem sorted_all : ∀ (k : Nat) (l : List ByteArray) (v : Value) (w : World), l.length < k → l.length ≤ 1000000 → Ws w.heap.size w v l → Calls Tryz.prog 30 #[v] w (ListPost w (sortD k l))
  | 0, _, _, _, h, _, _ => absurd h (Nat.not_lt_zero _)
  | k + 1, l, v, w, h, hl, hv => sorted_step k (sorted_all k) l v w h hl hv
def sortA (l : List ByteArray) : List ByteArray := sortD (l.length + 1) l
theorem sorted_any (l : List ByteArray) (v : Value) (w : World) (hl : l.length ≤ 1000000) (hv : Ws w.heap.size w v l) : Calls Tryz.prog 30 #[v] w (ListPost w (sortA l)) := sorted_all _ l v w (Nat.lt_succ_self _) hl hv
theorem sizeL_mono (l : List ByteArray) (k : Nat) : sizeL (l.take k) ≤ sizeL l := by
  have h : sizeL l = sizeL (l.take k) + sizeL (l.drop k) := by
    unfold sizeL
    rw [← List.sum_append, ← List.map_append, List.take_append_drop]
  omega
set_option maxRecDepth 20000 in
set_option maxHeartbeats 1600000 in
theorem much_any (a : Option Addr) (n c : Nat) (l : List ByteArray) (B : Nat) (w : World) (h : Words B w (.slice a n c) l) (hn : n ≤ 1000000) (hs : ∀ y ∈ l, y.size ≤ 1000000) :
    Calls Tryz.prog 17 #[.slice a n c] w fun e w' => e = .returned (.bool (decide (4096 < n ∨ 65536 < sizeL l))) ∧ w = w' := by
  have hnl := h.len
  have HW : Hid (Words B w (.slice a n c) l ∧ n = l.length) := ⟨h, hnl⟩
  have HS : Hid (∀ y ∈ l, y.size ≤ 1000000) := hs
  obtain ⟨R, hR⟩ : ∃ R, R = decide (4096 < n ∨ 65536 < sizeL l) := ⟨_, rfl⟩
  rw [← hR]
  have HR : Hid (R = decide (4096 < n ∨ 65536 < sizeL l)) := hR
  clear h hnl hs hR
  go_enter Tryz.func17, Tryz.ntmps17
  go_wp2
  go_loopw [3, 4] (fun v3 vi wr => ∃ k z : Nat, k ≤ n ∧ vi = .int .i64 k ∧ v3 = .int .i64 z ∧ z ≤ 65536 ∧ Hid (z = sizeL (l.take k)) ∧ w = wr) (fun _ vi _ => n - (intOf vi).toNat)
  case atStart => exact ⟨0, 0, Nat.zero_le _, rfl, rfl, Nat.zero_le _, rfl, rfl⟩
  case round =>
    obtain ⟨k, z, hk, rfl, rfl, hz, HZ, rfl⟩ := hrel
    by_cases hlt : k < n
    · have hil : (k : Int) < (n : Int) := by omega
      have hkl : k < l.length := by rw [← HW.out.2]; exact hlt
      obtain ⟨b0, o0, ha, _, e1⟩ := HW.out.1.pick k hkl
      subst ha
      obtain ⟨x, hx⟩ : ∃ x, x = l[k] := ⟨_, rfl⟩
      rw [← hx] at e1
      have HZ2 : Hid (z + x.size = sizeL (l.take (k + 1))) := by unfold Hid; rw [sizeL_take l k hkl, HZ.out, hx]
      have hx1 : x.size ≤ 1000000 := by rw [hx]; exact HS.out _ (List.getElem_mem _)
      clear hx hkl
      by_cases hbig : 65536 < z + x.size
      · have hb1 : (65536 : Int) < (z : Int) + (x.size : Int) := by omega
        have hb2 : decide ((65536 : Int) < (z : Int) + (x.size : Int)) = true := decide_eq_true hb1
        have HRt : Hid (R = true) := by
          unfold Hid
          rw [HR.out, decide_eq_true]
          have := sizeL_mono l (k + 1)
          rw [← HZ2.out] at this
          exact .inr (by omega)
        go_wp2
        go_ret
        exact ⟨by rw [HRt.out]; rfl, rfl⟩
      · have hb1 : ¬ (65536 : Int) < (z : Int) + (x.size : Int) := by omega
        have hb2 : decide ((65536 : Int) < (z : Int) + (x.size : Int)) = false := decide_eq_false hb1
        go_wp2
        go_roundw
        case rel => exact ⟨k + 1, z + x.size, by omega, by go_num, by go_num, by omega, HZ2, trivial⟩
        case measure => simp [intOf]; omega
    · obtain rfl : k = n := by omega
      have hil : ¬ (k : Int) < (k : Int) := by omega
      have HRe : Hid (R = decide ((4096 : Int) < (k : Int))) := by
        unfold Hid
        have e : sizeL l ≤ 65536 := by
          have := HZ.out
          rw [List.take_of_length_le (by rw [← HW.out.2]; exact Nat.le_refl _)] at this
          omega
        rw [HR.out, decide_eq_decide]
        omega
      go_wp2
      go_ret
      exact ⟨by rw [HRe.out]; rfl, rfl⟩
theorem turn_step (l : List ByteArray) (k : Nat) (hk : k < l.length) : (l.drop (k + 1)).reverse ++ [l[k]] = (l.drop k).reverse := by
  rw [List.drop_eq_getElem_cons hk, List.reverse_cons]
set_option maxRecDepth 20000 in
set_option maxHeartbeats 3200000 in
theorem turned_any (a : Option Addr) (n c : Nat) (l : List ByteArray) (w : World) (h0 : Ws w.heap.size w (.slice a n c) l) (hn : n ≤ 1000000) :
    Calls Tryz.prog 31 #[.slice a n c] w fun e w' => ListPost w l.reverse e w' := by
  have h := h0.words
  have hnl := h.len
  obtain ⟨i0, hi, hz0, hz1, hz2⟩ := info_of infoS9
  have HW : Hid (Words w.heap.size w (.slice a n c) l ∧ n = l.length) := ⟨h, hnl⟩
  have hnil : Hid (w.ownsRow w.heap.size 9 1 (.slice none 0 0) 0 []) := ⟨rfl, .inl ⟨rfl, rfl⟩⟩
  have HB0 : Hid (Below w.heap.size w w) := Below.refl _ _
  clear h hnl h0
  go_enter Tryz.func31, Tryz.ntmps31
  go_wp2
  go_loopw [3, 4] (fun v3 vi wr => ∃ k m : Nat, k ≤ n ∧ k + m = n ∧ vi = .int .i64 ((k : Int) - 1) ∧ Hid (wr.ownsRow w.heap.size 9 1 v3 m ((l.drop k).reverse.map Value.string)) ∧ Hid (Below w.heap.size w wr)) (fun _ vi _ => (intOf vi + 1).toNat)
  case atStart => exact ⟨n, 0, Nat.le_refl _, rfl, rfl, by unfold Hid; rw [HW.out.2, List.drop_length]; exact hnil.out, HB0⟩
  case round =>
    obtain ⟨k, m, hk, hkm, rfl, HO, HB⟩ := hrel
    obtain ⟨a3, c3, hv3⟩ := dm_slice HO.out
    subst hv3
    cases k with
    | zero =>
      have hil : ¬ (0 : Int) ≤ ((0 : Nat) : Int) - 1 := by omega
      have HE : Hid (wr.ownsRow w.heap.size 9 1 (.slice a3 m c3) l.reverse.length (l.reverse.map Value.string)) := by
        have := HO.out
        rw [List.drop_zero] at this
        unfold Hid
        rw [List.length_reverse, ← HW.out.2, show n = m by omega]; exact this
      go_wp2
      go_ret
      exact ⟨_, rfl, ws_owns HE.out (Nat.le_refl _), HB.out⟩
    | succ k =>
      have hil : (0 : Int) ≤ ((k + 1 : Nat) : Int) - 1 := by omega
      have hkl : k < l.length := by rw [← HW.out.2]; omega
      obtain ⟨b0, o0, ha, hb0, e1⟩ := HW.out.1.pick k hkl
      subst ha
      obtain ⟨x, hx⟩ : ∃ x, x = l[k] := ⟨_, rfl⟩
      rw [← hx] at e1
      have HX : Hid ((l.drop (k + 1)).reverse.map Value.string ++ [.string x] = (l.drop k).reverse.map Value.string) := by
        unfold Hid
        rw [hx, ← turn_step l k hkl, List.map_append]; rfl
      have e2 : wr.cell? ⟨b0, o0 + k, none⟩ = some (.string x) := by rw [HB.out.cell (p := ⟨b0, o0 + k, none⟩) hb0]; exact e1
      have hz : w.heap.size ≤ wr.heap.size := HB.out.size
      have hk1 : ((k + 1 : Nat) : Int) - 1 = (k : Int) := by omega
      rw [hk1]
      rw [hk1] at hil
      have hrow := HO.out
      clear hx hkl e1 HO
      have HC1 : Hid (∀ (j : Nat) (u : Value), [Value.string x][j]? = some u → (wr.alloc (.cells #[.string x] 9)).cell? ((⟨wr.heap.size, 0, none⟩ : Addr).add j) = some u) := World.news_of_block (Cd.heap_new _ _)
      go_wp2_with (at_builtin; refine wpList_append_own_at _ rfl _ _ 24 rfl w.heap.size 9 i0 (.string ⟨#[]⟩) 1 16 Tryz.underlying24 hi hz0 hz1 hz2 rfl (by decide) _ _ _ rfl (hrow.alloc _) ⟨wr.heap.size, 0, none⟩ 1 1 [.string x] rfl rfl HC1.out (by intro u hu; simp at hu; subst hu; rfl) (by unfold maxLen; omega) (by omega) (by simp; omega) ?_)
      intro v' w2 hown' hgrow _ hat
      have HO2 : Hid (w2.ownsRow w.heap.size 9 1 v' (m + 1) ((l.drop k).reverse.map Value.string)) := by
        unfold Hid; rw [← HX.out, List.map_reverse, List.map_drop]; exact hown'
      have HB2 : Hid (Below w.heap.size w w2) := ((HB.out.alloc hz _).grown hgrow (by simp; omega) (fun j hj => by
        obtain ⟨_, ⟨hv, _⟩ | ⟨g, cap, cur, hv, hg, _⟩⟩ := hrow
        · rw [hv] at hj; simp [Value.ownBlock] at hj
        · rw [hv] at hj; simp [Value.ownBlock] at hj; omega))
      obtain ⟨a5, c5, hv5⟩ := dm_slice hown'
      subst hv5
      clear hown' hgrow hat hrow e2
      go_wp2
      go_roundw
      case rel => exact ⟨k, m + 1, by omega, by omega, by go_num, HO2, HB2⟩
      case measure => simp [intOf]
end Go.Proofs.YtpcpcfnmcfjomaaGreatDoor.DQ
