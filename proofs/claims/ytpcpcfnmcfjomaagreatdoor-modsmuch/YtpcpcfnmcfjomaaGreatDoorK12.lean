/-
  QL0 DQ3
-/
import Derived.Test.YtpcpcfnmcfjomaaGreatDoorK11
import Derived.Deep.RegionHeld3
namespace Go.Proofs.YtpcpcfnmcfjomaaGreatDoor
open Go.RowKit Go.Shelf
theorem info9 : (Tryz.prog.info? 9).map (fun i => (i.zero, i.size, i.bytes)) = some (some (.string ⟨#[]⟩), 1, 16) := by kernel_rfl
theorem made_one (z : Value) (n : Nat) : madeCells #[z] n = (List.replicate n z).toArray := by
  simp [madeCells]
  apply Array.ext
  · simp
  · intro i h1 h2
    simp [Nat.mod_one]
theorem make_byte (w : World) (n : Nat) (hn : n ≤ 1000000) : (Instr.makeSlice 25 (.int .u16 (n : Int)) (.int .u16 (n : Int))).run Tryz.prog w = .ok (.slice (some ⟨w.heap.size, 0, none⟩) n n) (w.alloc (.cells (List.replicate n (.int .u8 0)).toArray 5)) := by
  obtain ⟨i0, hif, hz0, hz1, hz2⟩ := DQ.info_of DQ.info5
  have hmk := run_makeSlice (P := Tryz.prog) w 25 5 i0 (.int .u8 0) Tryz.underlying25 hif hz0 .u16 .u16 (n : Int) (n : Int) (by omega) (by omega) (by rw [hz1]; simp; omega) (by rw [hz2]; omega) (by omega)
  rw [hmk, hz1]
  simp only [Int.toNat_natCast, Nat.mul_one]
  rw [show (Value.int .u8 0).cells = #[.int .u8 0] from rfl, made_one]
theorem make_str (w : World) (n : Nat) (hn : n ≤ 1000000) : (Instr.makeSlice 24 (.int .i64 (n : Int)) (.int .i64 (n : Int))).run Tryz.prog w = .ok (.slice (some ⟨w.heap.size, 0, none⟩) n n) (w.alloc (.cells (List.replicate n (.string E)).toArray 9)) := by
  obtain ⟨i0, hif, hz0, hz1, hz2⟩ := DQ.info_of info9
  have hmk := run_makeSlice (P := Tryz.prog) w 24 9 i0 (.string ⟨#[]⟩) Tryz.underlying24 hif hz0 .i64 .i64 (n : Int) (n : Int) (by omega) (by omega) (by rw [hz1]; simp; omega) (by rw [hz2]; omega) (by omega)
  rw [hmk, hz1]
  simp only [Int.toNat_natCast, Nat.mul_one]
  rw [show (Value.string ⟨#[]⟩).cells = #[.string ⟨#[]⟩] from rfl, made_one]
def Vs (g : Nat) (t : TypeId) (l : List Value) (W : World) : Prop := W.heap[g]? = some (.cells l.toArray t (0, 0))
theorem Vs.lt {g : Nat} {t : TypeId} {l : List Value} {W : World} (h : Vs g t l W) : g < W.heap.size := (Array.getElem?_eq_some_iff.1 h).1
theorem Vs.cell {g : Nat} {t : TypeId} {l : List Value} {W : World} (h : Vs g t l W) (i : Nat) (v : Value) (hi : l[i]? = some v) : W.cell? ⟨g, i, none⟩ = some v := by
  have h1 : W.heap[g]? = some (.cells l.toArray t (0, 0)) := h
  simp only [World.cell?, h1]
  simpa using hi
theorem Vs.frozen {g : Nat} {t : TypeId} {l : List Value} {W : World} (h : Vs g t l W) (j : Nat) : W.frozen? ⟨g, j, none⟩ = false := by
  have h1 : W.heap[g]? = some (.cells l.toArray t (0, 0)) := h
  simp [World.frozen?, h1]
theorem Vs.put {g : Nat} {t : TypeId} {l : List Value} {W : World} (h : Vs g t l W) (i : Nat) (v : Value) : Vs g t (l.set i v) (W.setCell ⟨g, i, none⟩ v) := by
  have h1 : W.heap[g]? = some (.cells l.toArray t (0, 0)) := h
  unfold Vs
  rw [heap_set h1]; simp
theorem Vs.apart {g : Nat} {t : TypeId} {l : List Value} {W : World} (h : Vs g t l W) (b i : Nat) (v : Value) (hb : b ≠ g) : Vs g t l (W.setCell ⟨b, i, none⟩ v) := by
  have h1 : W.heap[g]? = some (.cells l.toArray t (0, 0)) := h
  unfold Vs
  rw [← h1]
  simp [World.setCell, Array.getElem?_modify, hb]
theorem Vs.below {g : Nat} {t : TypeId} {l : List Value} {W W' : World} (h : Vs g t l W) (hb : Below W.heap.size W W') : Vs g t l W' := (hb.block g h.lt).trans h
def fillV (k n : Nat) : List Value := List.replicate k (.int .u8 97) ++ List.replicate (n - k) (.int .u8 0)
theorem fill_set (k n : Nat) (h : k < n) : (fillV k n).set k (.int .u8 97) = fillV (k + 1) n := by
  unfold fillV
  rw [List.set_append_right _ _ (by simp), List.length_replicate, Nat.sub_self, show n - k = (n - (k + 1)) + 1 by omega, List.replicate_succ, List.set_cons_zero, List.replicate_succ' (n := k), List.append_assoc]
  rfl
theorem fill_get (k n : Nat) (h : k < n) : (fillV k n)[k]? = some (.int .u8 0) := by
  unfold fillV
  rw [List.getElem?_append_right (by simp), List.length_replicate, Nat.sub_self, List.getElem?_replicate, if_pos (by omega)]
theorem fill_conv (g n : Nat) (W : World) (h : Vs g 5 (fillV n n) W) : (convert 25 9 (.slice (some ⟨g, 0, none⟩) n n)).run Tryz.prog W = .ok (.string (ba (List.replicate n 97))) W := by
  have := run_convert_bytes_back W 25 9 5 ⟨g, 0, none⟩ n (List.replicate n 97) Tryz.underlying25 Tryz.underlying5 Tryz.underlying9 fun i hi => ?_
  · rw [List.length_replicate] at this; exact this
  · rw [List.length_replicate] at hi
    have hc := h.cell i (.int .u8 97) (by unfold fillV; rw [List.getElem?_append_left (by simpa using hi), List.getElem?_replicate, if_pos hi])
    have hg : ((List.replicate n (97 : UInt8))[i]'(by simpa using hi)) = 97 := by simp
    rw [hg]
    simp only [Addr.add]
    split
    · rename_i h0; subst h0; exact hc
    · simpa using hc
def wordsOf (n : Nat) (x : ByteArray) : List ByteArray := if n = 0 then [] else x :: List.replicate (n - 1) E
theorem words_len (n : Nat) (x : ByteArray) : (wordsOf n x).length = n := by unfold wordsOf; split <;> simp <;> omega
def Both (s : ByteArray) (v : Value) (W : World) : Prop := ∃ (r : Nat) (e : Int), 0 ≤ e ∧ e ≤ 12 ∧ (Calls Tryz.prog 5 #[.string s, v] W fun x w' => Below W.heap.size W w' ∧ ∃ a' c', x = .returned (.tuple #[.slice a' r c', .int .i64 e])) ∧
  ∀ W', Below W.heap.size W W' → Calls Tryz.prog 6 #[.string s, v] W' fun x w' => Below W'.heap.size W' w' ∧ ∃ a' c', x = .returned (.tuple #[.slice a' r c', .int .i64 e])
set_option maxRecDepth 20000 in
set_option maxHeartbeats 1600000 in
theorem much_long (many long : Nat) (s : ByteArray) (w : World) (hs : 60 < s.size) (hsz : s.size ≤ 140737488355328) (hal : Calls Tryz.prog 4 #[] w fun e w' => e = .returned (.bool true) ∧ Below w.heap.size w w') :
    Calls Tryz.prog 3 #[.int .u16 (many : Int), .int .u16 (long : Int), .string s] w fun e w' => e = .returned (.bool true) ∧ Below w.heap.size w w' := by
  have HAl : Hid (Calls Tryz.prog 4 #[] w fun e w' => e = .returned (.bool true) ∧ Below w.heap.size w w') := hal
  have h1 : (60 : Int) < (s.size : Int) := by omega
  clear hal hs
  go_enter Tryz.func3, Tryz.ntmps3
  go_wp2_with fail
  refine HAl.out.mono ?_
  rintro e w1 ⟨rfl, hb⟩
  go_wp2
  go_ret
  exact ⟨rfl, hb⟩
theorem no_push {l : List UInt8} {k : Nat} {c : UInt8} (h : NoSC (l.take k)) (hc : l[k]? = some c) (h1 : c ≠ 83) (h2 : c ≠ 67) : NoSC (l.take (k + 1)) := by
  intro d hd
  rw [List.take_add_one, hc] at hd
  rcases List.mem_append.1 hd with hd | hd
  · exact h d hd
  · obtain rfl : d = c := by simpa using hd
    exact ⟨h1, h2⟩
theorem take_all' (l : List UInt8) : l.take l.length = l := List.take_length
set_option maxRecDepth 20000 in
set_option maxHeartbeats 1600000 in
theorem much_none (many long : Nat) (s : ByteArray) (w : World) (hm : many < 65536) (hs : s.size ≤ 60) (hal : ∀ W, Below w.heap.size w W → Calls Tryz.prog 4 #[] W fun e w' => e = .returned (.bool true) ∧ Below W.heap.size W w') (h0 : many % 5000 = 0)
    (H : NoSC (bl s) → ∀ g (l : List ByteArray) W, Vs g 9 (l.map Value.string) W → Below w.heap.size w W → w.heap.size ≤ g → l.length ≤ 5000 → (∀ y ∈ l, y.size ≤ 65535) → Both s (.slice (some ⟨g, 0, none⟩) l.length l.length) W) :
    Calls Tryz.prog 3 #[.int .u16 (many : Int), .int .u16 (long : Int), .string s] w fun e w' => e = .returned (.bool true) ∧ Below w.heap.size w w' := by
  have HAl : Hid (∀ W, Below w.heap.size w W → Calls Tryz.prog 4 #[] W fun e w' => e = .returned (.bool true) ∧ Below W.heap.size W w') := hal
  obtain ⟨W1, hW1⟩ : ∃ W1, W1 = w.alloc (.cells #[] 9) := ⟨_, rfl⟩
  have hmk : (Instr.makeSlice 24 (.int .i64 0) (.int .i64 0)).run Tryz.prog w = .ok (.slice (some ⟨w.heap.size, 0, none⟩) 0 0) W1 := by rw [hW1]; exact make_str w 0 (by omega)
  have HB1 : Hid (Below w.heap.size w W1) := by rw [hW1]; exact (Below.refl _ w).alloc (Nat.le_refl _) _
  have HH : Hid (NoSC (bl s) → Both s (.slice (some ⟨w.heap.size, 0, none⟩) 0 0) W1) := fun hn => H hn w.heap.size [] W1 (by rw [hW1]; exact heap_alloc_new w _) HB1.out (Nat.le_refl _) (Nat.zero_le _) (fun y hy => by simp at hy)
  have h1 : ¬ (60 : Int) < (s.size : Int) := by omega
  have hm0 : (many : Int) % 5000 = 0 := by omega
  have hmt : (many : Int).tmod 5000 = 0 := by rw [Int.tmod_eq_emod_of_nonneg (by omega)]; exact hm0
  clear hal H hW1
  go_enter Tryz.func3, Tryz.ntmps3
  go_wp2
  clear hmk
  go_loopw [11] (fun vi wr => ∃ k : Nat, k ≤ s.size ∧ vi = .int .i64 k ∧ Hid (NoSC ((bl s).take k)) ∧ W1 = wr) (fun vi _ => s.size - (intOf vi).toNat)
  case atStart => exact ⟨0, Nat.zero_le _, rfl, (fun c hc => by simp at hc), rfl⟩
  case round =>
    obtain ⟨k, hk, rfl, HN, rfl⟩ := hrel
    by_cases hlt : k < s.size
    · have hil : (k : Int) < (s.size : Int) := by omega
      have hc := bl_get s k hlt
      obtain ⟨c, hcc⟩ : ∃ c, c = s[k] := ⟨_, rfl⟩
      obtain ⟨cn, hcn⟩ : ∃ cn : Int, cn = (s[k].toNat : Int) := ⟨_, rfl⟩
      have hgk : (s[k].toNat : Int) = cn := hcn.symm
      rw [← hcc] at hc
      have HC : Hid (cn = (c.toNat : Int) ∧ (bl s)[k]? = some c) := ⟨by rw [hcn, hcc], hc⟩
      clear hcn hcc hc
      by_cases h67 : cn = 67
      · have t1 : (cn == 67) = true := by rw [h67]; rfl
        go_wp2_with fail
        refine (HAl.out _ HB1.out).mono ?_
        rintro e w1 ⟨rfl, hb⟩
        have HB2 : Hid (Below w.heap.size w w1) := HB1.out.trans (hb.mono HB1.out.size)
        clear hb
        go_wp2
        go_ret
        exact ⟨rfl, HB2.out⟩
      · have t1 : (cn == 67) = false := by rw [beq_eq_false_iff_ne]; exact h67
        by_cases h83 : cn = 83
        · have t2 : (cn == 83) = true := by rw [h83]; rfl
          go_wp2_with fail
          refine (HAl.out _ HB1.out).mono ?_
          rintro e w1 ⟨rfl, hb⟩
          have HB2 : Hid (Below w.heap.size w w1) := HB1.out.trans (hb.mono HB1.out.size)
          clear hb
          go_wp2
          go_ret
          exact ⟨rfl, HB2.out⟩
        · have t2 : (cn == 83) = false := by rw [beq_eq_false_iff_ne]; exact h83
          have HN2 : Hid (NoSC ((bl s).take (k + 1))) := no_push HN.out HC.out.2 (fun e => h83 (by rw [HC.out.1, e]; rfl)) (fun e => h67 (by rw [HC.out.1, e]; rfl))
          clear HN
          go_wp2
          go_roundw
          case rel => exact ⟨k + 1, by omega, by go_num, HN2, trivial⟩
          case measure => simp [intOf]; omega
    · obtain rfl : k = s.size := by omega
      have hil : ¬ (s.size : Int) < (s.size : Int) := by omega
      obtain ⟨r, e0, he1, he2, hA, hR⟩ := HH.out (by have := HN.out; rw [← bl_length, take_all'] at this; exact this)
      have HA : Hid (Calls Tryz.prog 5 #[.string s, .slice (some ⟨w.heap.size, 0, none⟩) 0 0] W1 fun x w' => Below W1.heap.size W1 w' ∧ ∃ a' c', x = .returned (.tuple #[.slice a' r c', .int .i64 e0])) := hA
      have HR : Hid (∀ W', Below W1.heap.size W1 W' → Calls Tryz.prog 6 #[.string s, .slice (some ⟨w.heap.size, 0, none⟩) 0 0] W' fun x w' => Below W'.heap.size W' w' ∧ ∃ a' c', x = .returned (.tuple #[.slice a' r c', .int .i64 e0])) := hR
      clear hA hR HN
      go_wp2_with fail
      refine HA.out.mono ?_
      rintro e w2 ⟨hb2, a2, c2, rfl⟩
      have HB2 : Hid (Below w.heap.size w w2 ∧ Below W1.heap.size W1 w2) := ⟨HB1.out.trans (hb2.mono HB1.out.size), hb2⟩
      clear hb2
      go_wp2_with fail
      refine (HR.out _ HB2.out.2).mono ?_
      rintro e w3 ⟨hb3, a3, c3, rfl⟩
      have HB3 : Hid (Below w.heap.size w w3) := HB2.out.1.trans (hb3.mono HB2.out.1.size)
      clear hb3
      go_wp2_with fail
      refine (HAl.out _ HB3.out).mono ?_
      rintro e w4 ⟨rfl, hb4⟩
      have HB4 : Hid (Below w.heap.size w w4) := HB3.out.trans (hb4.mono HB3.out.size)
      clear hb4
      go_wp2
      go_ret
      exact ⟨rfl, HB4.out⟩
set_option maxRecDepth 20000 in
set_option maxHeartbeats 3200000 in
theorem much_some (many long n : Nat) (s : ByteArray) (w : World) (hm : many < 65536) (hl : long < 65536) (hs : s.size ≤ 60) (hal : ∀ W, Below w.heap.size w W → Calls Tryz.prog 4 #[] W fun e w' => e = .returned (.bool true) ∧ Below W.heap.size W w') (hn : many % 5000 = n) (hn1 : 0 < n)
    (H : NoSC (bl s) → ∀ g (l : List ByteArray) W, Vs g 9 (l.map Value.string) W → Below w.heap.size w W → w.heap.size ≤ g → l.length ≤ 5000 → (∀ y ∈ l, y.size ≤ 65535) → Both s (.slice (some ⟨g, 0, none⟩) l.length l.length) W) :
    Calls Tryz.prog 3 #[.int .u16 (many : Int), .int .u16 (long : Int), .string s] w fun e w' => e = .returned (.bool true) ∧ Below w.heap.size w w' := by
  have HAl : Hid (∀ W, Below w.heap.size w W → Calls Tryz.prog 4 #[] W fun e w' => e = .returned (.bool true) ∧ Below W.heap.size W w') := hal
  obtain ⟨W0, hW0⟩ : ∃ W0, W0 = w.alloc (.cells (List.replicate n (.string E)).toArray 9) := ⟨_, rfl⟩
  obtain ⟨W2, hW2⟩ : ∃ W2, W2 = W0.alloc (.cells (List.replicate long (.int .u8 0)).toArray 5) := ⟨_, rfl⟩
  have hn5 : n ≤ 5000 := by omega
  have hmk : (Instr.makeSlice 24 (.int .i64 (n : Int)) (.int .i64 (n : Int))).run Tryz.prog w = .ok (.slice (some ⟨w.heap.size, 0, none⟩) n n) W0 := by rw [hW0]; exact make_str w n (by omega)
  have hmk2 : (Instr.makeSlice 25 (.int .u16 (long : Int)) (.int .u16 (long : Int))).run Tryz.prog W0 = .ok (.slice (some ⟨W0.heap.size, 0, none⟩) long long) W2 := by rw [hW2]; exact make_byte W0 long (by omega)
  have hz0 : W0.heap.size = w.heap.size + 1 := by rw [hW0]; simp
  have HI : Hid (Vs (w.heap.size + 1) 5 (fillV 0 long) W2 ∧ Vs w.heap.size 9 (List.replicate n (.string E)) W2 ∧ Below w.heap.size w W2) := by
    have b0 : Below w.heap.size w W0 := by rw [hW0]; exact (Below.refl _ w).alloc (Nat.le_refl _) _
    have v0 : Vs w.heap.size 9 (List.replicate n (.string E)) W0 := by rw [hW0]; exact heap_alloc_new w _
    refine ⟨?_, v0.below ?_, ?_⟩
    · rw [← hz0, hW2]; exact heap_alloc_new W0 _
    · rw [hW2]; exact (Below.refl _ W0).alloc (Nat.le_refl _) _
    · rw [hW2]; exact b0.alloc b0.size _
  rw [hz0] at hmk2
  have HH : Hid (∀ W, NoSC (bl s) → Vs w.heap.size 9 ((wordsOf n (ba (List.replicate long 97))).map Value.string) W → Below w.heap.size w W → Both s (.slice (some ⟨w.heap.size, 0, none⟩) n n) W) := fun W h1 h2 h3 => by
    have := H h1 w.heap.size (wordsOf n (ba (List.replicate long 97))) W h2 h3 (Nat.le_refl _) (by rw [words_len]; omega) (fun y hy => by
      unfold wordsOf at hy
      rw [if_neg (by omega)] at hy
      rcases List.mem_cons.1 hy with rfl | hy
      · rw [ba_size, List.length_replicate]; omega
      · rw [(List.mem_replicate.1 hy).2]; exact Nat.zero_le _)
    rw [words_len] at this
    exact this
  have HW : Hid ((List.replicate n (Value.string E)).set 0 (.string (ba (List.replicate long 97))) = (wordsOf n (ba (List.replicate long 97))).map Value.string) := by
    unfold Hid wordsOf
    rw [if_neg (by omega)]
    obtain ⟨m, rfl⟩ : ∃ m, n = m + 1 := ⟨n - 1, by omega⟩
    rw [List.replicate_succ, List.set_cons_zero, List.map_cons, List.map_replicate]; rfl
  have h1 : ¬ (60 : Int) < (s.size : Int) := by omega
  have hm0 : (many : Int) % 5000 = (n : Int) := by omega
  have hmt : (many : Int).tmod 5000 = (n : Int) := by rw [Int.tmod_eq_emod_of_nonneg (by omega)]; exact hm0
  have hni : (0 : Int) < (n : Int) := by omega
  have hlb : long ≤ 65535 := by omega
  clear hal H hW0 hW2 hz0 hn
  go_enter Tryz.func3, Tryz.ntmps3
  go_wp2
  clear hmk hmk2
  go_loopw [31] (fun vi wr => ∃ k : Nat, k ≤ long ∧ vi = .int .i64 k ∧ Hid (Vs (w.heap.size + 1) 5 (fillV k long) wr ∧ Vs w.heap.size 9 (List.replicate n (.string E)) wr ∧ Below w.heap.size w wr)) (fun vi _ => long - (intOf vi).toNat)
  case atStart => exact ⟨0, Nat.zero_le _, rfl, HI.out⟩
  case round =>
    obtain ⟨k, hk, rfl, HV⟩ := hrel
    by_cases hlt : k < long
    · have hil : (k : Int) < (long : Int) := by omega
      have hc0 := HV.out.1.cell k _ (fill_get k long hlt)
      have hfz := HV.out.1.frozen k
      have HV2 : Hid (Vs (w.heap.size + 1) 5 (fillV (k + 1) long) (wr.setCell ⟨w.heap.size + 1, k, none⟩ (.int .u8 97)) ∧ Vs w.heap.size 9 (List.replicate n (.string E)) (wr.setCell ⟨w.heap.size + 1, k, none⟩ (.int .u8 97)) ∧ Below w.heap.size w (wr.setCell ⟨w.heap.size + 1, k, none⟩ (.int .u8 97))) :=
        ⟨by have := HV.out.1.put k (.int .u8 97); rw [fill_set k long hlt] at this; exact this, HV.out.2.1.apart _ _ _ (Nat.succ_ne_self _), HV.out.2.2.setCell (Nat.le_succ _) _⟩
      clear HV
      go_wp2
      go_roundw
      case rel => exact ⟨k + 1, by omega, by go_num, HV2⟩
      case measure => simp [intOf]; omega
    · obtain rfl : k = long := by omega
      have hil : ¬ (k : Int) < (k : Int) := by omega
      have hcv := fill_conv (w.heap.size + 1) k wr HV.out.1
      have hc0 := HV.out.2.1.cell 0 (.string E) (by rw [List.getElem?_replicate, if_pos hn1])
      have hfz := HV.out.2.1.frozen 0
      obtain ⟨x, hx⟩ : ∃ x, x = ba (List.replicate k 97) := ⟨_, rfl⟩
      rw [← hx] at hcv HH HW
      obtain ⟨W1, hW1⟩ : ∃ W1, W1 = wr.setCell ⟨w.heap.size, 0, none⟩ (.string x) := ⟨_, rfl⟩
      have HB1 : Hid (Below w.heap.size w W1) := by rw [hW1]; exact HV.out.2.2.setCell (Nat.le_refl _) _
      have HH1 : Hid (NoSC (bl s) → Both s (.slice (some ⟨w.heap.size, 0, none⟩) n n) W1) := fun hns => HH.out W1 hns (by have := HV.out.2.1.put 0 (.string x); rw [HW.out, ← hW1] at this; exact this) HB1.out
      clear HV HH HW hx
      go_wp2
      rw [← hW1]
      clear hW1 hcv hc0 hfz
      go_loopw [11] (fun vi wr => ∃ q : Nat, q ≤ s.size ∧ vi = .int .i64 q ∧ Hid (NoSC ((bl s).take q)) ∧ W1 = wr) (fun vi _ => s.size - (intOf vi).toNat)
      case atStart => exact ⟨0, Nat.zero_le _, rfl, (fun c hc => by simp at hc), rfl⟩
      case round =>
        obtain ⟨q, hk, rfl, HN, rfl⟩ := hrel
        by_cases hlt : q < s.size
        · have hil : (q : Int) < (s.size : Int) := by omega
          have hc := bl_get s q hlt
          obtain ⟨c, hcc⟩ : ∃ c, c = s[q] := ⟨_, rfl⟩
          obtain ⟨cn, hcn⟩ : ∃ cn : Int, cn = (s[q].toNat : Int) := ⟨_, rfl⟩
          have hgk : (s[q].toNat : Int) = cn := hcn.symm
          rw [← hcc] at hc
          have HC : Hid (cn = (c.toNat : Int) ∧ (bl s)[q]? = some c) := ⟨by rw [hcn, hcc], hc⟩
          clear hcn hcc hc
          by_cases h67 : cn = 67
          · have t1 : (cn == 67) = true := by rw [h67]; rfl
            go_wp2_with fail
            refine (HAl.out _ HB1.out).mono ?_
            rintro e w1 ⟨rfl, hb⟩
            have HB2 : Hid (Below w.heap.size w w1) := HB1.out.trans (hb.mono HB1.out.size)
            clear hb
            go_wp2
            go_ret
            exact ⟨rfl, HB2.out⟩
          · have t1 : (cn == 67) = false := by rw [beq_eq_false_iff_ne]; exact h67
            by_cases h83 : cn = 83
            · have t2 : (cn == 83) = true := by rw [h83]; rfl
              go_wp2_with fail
              refine (HAl.out _ HB1.out).mono ?_
              rintro e w1 ⟨rfl, hb⟩
              have HB2 : Hid (Below w.heap.size w w1) := HB1.out.trans (hb.mono HB1.out.size)
              clear hb
              go_wp2
              go_ret
              exact ⟨rfl, HB2.out⟩
            · have t2 : (cn == 83) = false := by rw [beq_eq_false_iff_ne]; exact h83
              have HN2 : Hid (NoSC ((bl s).take (q + 1))) := no_push HN.out HC.out.2 (fun e => h83 (by rw [HC.out.1, e]; rfl)) (fun e => h67 (by rw [HC.out.1, e]; rfl))
              clear HN
              go_wp2
              go_roundw
              case rel => exact ⟨q + 1, by omega, by go_num, HN2, trivial⟩
              case measure => simp [intOf]; omega
        · obtain rfl : q = s.size := by omega
          have hil : ¬ (s.size : Int) < (s.size : Int) := by omega
          obtain ⟨r, e0, he1, he2, hA, hR⟩ := HH1.out (by have := HN.out; rw [← bl_length, take_all'] at this; exact this)
          have HA : Hid (Calls Tryz.prog 5 #[.string s, .slice (some ⟨w.heap.size, 0, none⟩) n n] W1 fun x w' => Below W1.heap.size W1 w' ∧ ∃ a' c', x = .returned (.tuple #[.slice a' r c', .int .i64 e0])) := hA
          have HR : Hid (∀ W', Below W1.heap.size W1 W' → Calls Tryz.prog 6 #[.string s, .slice (some ⟨w.heap.size, 0, none⟩) n n] W' fun x w' => Below W'.heap.size W' w' ∧ ∃ a' c', x = .returned (.tuple #[.slice a' r c', .int .i64 e0])) := hR
          clear hA hR HN
          go_wp2_with fail
          refine HA.out.mono ?_
          rintro e w2 ⟨hb2, a2, c2, rfl⟩
          have HB2 : Hid (Below w.heap.size w w2 ∧ Below W1.heap.size W1 w2) := ⟨HB1.out.trans (hb2.mono HB1.out.size), hb2⟩
          clear hb2
          go_wp2_with fail
          refine (HR.out _ HB2.out.2).mono ?_
          rintro e w3 ⟨hb3, a3, c3, rfl⟩
          have HB3 : Hid (Below w.heap.size w w3) := HB2.out.1.trans (hb3.mono HB2.out.1.size)
          clear hb3
          go_wp2_with fail
          refine (HAl.out _ HB3.out).mono ?_
          rintro e w4 ⟨rfl, hb4⟩
          have HB4 : Hid (Below w.heap.size w w4) := HB3.out.trans (hb4.mono HB3.out.size)
          clear hb4
          go_wp2
          go_ret
          exact ⟨rfl, HB4.out⟩
end Go.Proofs.YtpcpcfnmcfjomaaGreatDoor
namespace Go.Proofs.YtpcpcfnmcfjomaaGreatDoor.DQ
open Go.RowKit Go.Shelf
def numD : List UInt8 → Nat → Nat → Option Nat
  | [], _, a => some a
  | c :: t, i, a => if c.toNat < 48 ∨ 57 < c.toNat then none else if 6 ≤ i then none else numD t (i + 1) (a * 10 + (c.toNat - 48))
def signL (l : List UInt8) : List UInt8 := if l.head? = some 45 then l.tail else l
def numA (l : List UInt8) : Int × Bool := match numD (signL l) 0 0 with
  | none => (0, false)
  | some n => (if l.head? = some 45 then -(n : Int) else (n : Int), !(signL l).isEmpty)
theorem numD_bad {c : UInt8} {t : List UInt8} {i a : Nat} (h : c.toNat < 48 ∨ 57 < c.toNat) : numD (c :: t) i a = none := by unfold numD; rw [if_pos h]
theorem numD_many {c : UInt8} {t : List UInt8} {i a : Nat} (h : 6 ≤ i) : numD (c :: t) i a = none := by
  unfold numD
  split
  · rfl
  · rfl
theorem numD_go {c : UInt8} {t : List UInt8} {i a : Nat} (h : ¬ (c.toNat < 48 ∨ 57 < c.toNat)) (hi : ¬ 6 ≤ i) : numD (c :: t) i a = numD t (i + 1) (a * 10 + (c.toNat - 48)) := by
  rw [numD, if_neg h, if_neg hi]
theorem numA_none {l : List UInt8} (h : numD (signL l) 0 0 = none) : numA l = (0, false) := by unfold numA; rw [h]
def NumV (l : List UInt8) : Value := .tuple #[.int .i64 (numA l).1, .bool (numA l).2]
set_option maxRecDepth 20000 in
set_option maxHeartbeats 1600000 in
theorem number_any (s : ByteArray) (w : World) (hs : s.size ≤ 1000000) :
    Calls Tryz.prog 67 #[.string s] w fun e w' => e = .returned (NumV (bl s)) ∧ w = w' := by
  by_cases h0 : (bl s).head? = some 45
  · obtain ⟨t, ht⟩ : ∃ t, t = s.extract 1 s.size := ⟨_, rfl⟩
    have hpos : 0 < s.size := by
      rw [← bl_length]
      cases hb : bl s with
      | nil => rw [hb] at h0; cases h0
      | cons c l => simp
    have hz : s[0].toNat = 45 := by
      have := bl_get s 0 hpos
      rw [List.head?_eq_getElem?, this] at h0
      have := Option.some.inj h0
      rw [this]; rfl
    have hzi : ((s[0].toNat : Int) == 45) = true := by rw [hz]; rfl
    have hts : t.size + 1 = s.size := by rw [ht]; simp; omega
    have HT : Hid (signL (bl s) = bl t ∧ ((bl s).head? = some 45) = True) := by
      refine ⟨?_, by rw [h0]; simp⟩
      unfold signL
      rw [if_pos h0, ht, bl_extract, take_all]
      simp
    have ht2 : t.size ≤ 1000000 := by omega
    have hpi : (0 : Int) < (s.size : Int) := by omega
    have HX : Hid (t = s.extract 1 s.size) := ht
    clear hz h0 hts ht
    go_enter Tryz.func67, Tryz.ntmps67
    go_wp2
    try rw [← HX.out]
    go_loopw [5, 6] (fun vn vi wr => ∃ k a : Nat, k ≤ t.size ∧ vi = .int .i64 (k : Int) ∧ vn = .int .i64 (a : Int) ∧ k ≤ 6 ∧ a < 1000000 ∧ Hid (a < 10 ^ k) ∧ Hid (numD (bl t) 0 0 = numD ((bl t).drop k) k a) ∧ w = wr) (fun _ vi _ => t.size - (intOf vi).toNat)
    case atStart => exact ⟨0, 0, Nat.zero_le _, rfl, rfl, by omega, by omega, by unfold Hid; simp, rfl, rfl⟩
    case round =>
      obtain ⟨k, a, hk, rfl, rfl, hk6, ha, HA, HU, rfl⟩ := hrel
      by_cases hlt : k < t.size
      · have hil : (k : Int) < (t.size : Int) := by omega
        have hd := drop_bl t k hlt
        obtain ⟨c, hc⟩ : ∃ c, c = t[k] := ⟨_, rfl⟩
        obtain ⟨cn, hcn⟩ : ∃ cn : Int, cn = (t[k].toNat : Int) := ⟨_, rfl⟩
        have hgk : (t[k].toNat : Int) = cn := hcn.symm
        rw [← hc] at hd
        have HCC : Hid (cn = (c.toNat : Int)) := by rw [hcn, hc]; rfl
        have hc0 : 0 ≤ cn := by omega
        have hc1 : cn < 256 := by rw [HCC.out]; have := UInt8.toNat_lt c; omega
        clear hcn hc
        by_cases g1 : cn < 48
        · have HV : Hid (numA (bl s) = (0, false)) := numA_none (by rw [HT.out.1, HU.out, hd]; exact numD_bad (.inl (by have := HCC.out; omega)))
          clear HU hd
          go_wp2
          go_ret2
          exact ⟨by unfold NumV; rw [HV.out]; rfl, rfl⟩
        · by_cases g2 : 57 < cn
          · have HV : Hid (numA (bl s) = (0, false)) := numA_none (by rw [HT.out.1, HU.out, hd]; exact numD_bad (.inr (by have := HCC.out; omega)))
            clear HU hd
            go_wp2
            go_ret2
            exact ⟨by unfold NumV; rw [HV.out]; rfl, rfl⟩
          · have hlo : 0 ≤ cn - 48 := by omega
            have hhi : cn - 48 ≤ 9 := by omega
            by_cases g3 : k = 6
            · subst g3
              have HV : Hid (numA (bl s) = (0, false)) := numA_none (by rw [HT.out.1, HU.out, hd]; exact numD_many (Nat.le_refl _))
              clear HU hd
              go_wp2
              go_ret2
              exact ⟨by unfold NumV; rw [HV.out]; rfl, rfl⟩
            · have g4 : ¬ (6 : Int) ≤ (k : Int) := by omega
              obtain ⟨d, hdd⟩ : ∃ d : Nat, d = c.toNat - 48 := ⟨_, rfl⟩
              have hdc : cn - 48 = (d : Int) := by have := HCC.out; omega
              have HS : Hid (numD (bl t) 0 0 = numD ((bl t).drop (k + 1)) (k + 1) (a * 10 + d)) := by
                refine HU.out.trans ?_
                rw [hd, numD_go (by have := HCC.out; omega) (by omega), hdd]
              have HA2 : Hid (a * 10 + d < 10 ^ (k + 1)) := by
                have h1 := HA.out
                unfold Hid; rw [Nat.pow_succ]; omega
              have HA3 : Hid (a * 10 + d < 1000000) := by
                have h1 := HA2.out
                have h2 : (10 : Nat) ^ (k + 1) ≤ 10 ^ 6 := Nat.pow_le_pow_right (by decide) (by omega)
                unfold Hid; omega
              have HDC : Hid (cn - 48 = (d : Int)) := hdc
              clear HU hd hdd hdc HA
              go_wp2
              go_roundw
              case rel => exact ⟨k + 1, a * 10 + d, by omega, by go_num, by first | (rw [HDC.out]; go_num) | go_num, by omega, HA3.out, HA2, HS, trivial⟩
              case measure => simp [intOf]; omega
      · obtain rfl : k = t.size := by omega
        have HV : Hid (numA (bl s) = (-((a : Nat) : Int), !(bl t).isEmpty)) := by
          have h := HU.out
          rw [drop_all] at h
          unfold Hid numA
          rw [HT.out.1, h]
          simp [numD, HT.out.2]
        have hE : (!(bl t).isEmpty) = decide (0 < t.size) := by
          rw [← bl_length]
          cases bl t <;> simp
        have HE : Hid _ := hE
        clear hE HU
        by_cases g0 : t.size = 0
        · have g1 : ¬ (0 : Int) < (t.size : Int) := by omega
          go_wp2
          go_ret2
          exact ⟨by unfold NumV; rw [HV.out, HE.out]; simp [g0], rfl⟩
        · have g1 : (0 : Int) < (t.size : Int) := by omega
          go_wp2
          go_ret2
          exact ⟨by unfold NumV; rw [HV.out, HE.out]; simp [Nat.pos_of_ne_zero g0], rfl⟩
  · have HT : Hid (signL (bl s) = bl s ∧ ((bl s).head? = some 45) = False) := by
      refine ⟨?_, by simpa using h0⟩
      unfold signL
      rw [if_neg h0]
    by_cases hpos : 0 < s.size
    · have hpi : (0 : Int) < (s.size : Int) := by omega
      have hzi : ((s[0].toNat : Int) == 45) = false := by
        rw [← Bool.not_eq_true, beq_iff_eq]
        intro e
        apply h0
        rw [List.head?_eq_getElem?, bl_get s 0 hpos]
        congr 1
        rw [u8_eq_iff]
        have : (45 : UInt8).toNat = 45 := rfl
        omega
      clear h0
      go_enter Tryz.func67, Tryz.ntmps67
      go_wp2
      go_loopw [5, 6] (fun vn vi wr => ∃ k a : Nat, k ≤ s.size ∧ vi = .int .i64 (k : Int) ∧ vn = .int .i64 (a : Int) ∧ k ≤ 6 ∧ a < 1000000 ∧ Hid (a < 10 ^ k) ∧ Hid (numD (bl s) 0 0 = numD ((bl s).drop k) k a) ∧ w = wr) (fun _ vi _ => s.size - (intOf vi).toNat)
      case atStart => exact ⟨0, 0, Nat.zero_le _, rfl, rfl, by omega, by omega, by unfold Hid; simp, rfl, rfl⟩
      case round =>
        obtain ⟨k, a, hk, rfl, rfl, hk6, ha, HA, HU, rfl⟩ := hrel
        by_cases hlt : k < s.size
        · have hil : (k : Int) < (s.size : Int) := by omega
          have hd := drop_bl s k hlt
          obtain ⟨c, hc⟩ : ∃ c, c = s[k] := ⟨_, rfl⟩
          obtain ⟨cn, hcn⟩ : ∃ cn : Int, cn = (s[k].toNat : Int) := ⟨_, rfl⟩
          have hgk : (s[k].toNat : Int) = cn := hcn.symm
          rw [← hc] at hd
          have HCC : Hid (cn = (c.toNat : Int)) := by rw [hcn, hc]; rfl
          have hc0 : 0 ≤ cn := by omega
          have hc1 : cn < 256 := by rw [HCC.out]; have := UInt8.toNat_lt c; omega
          clear hcn hc
          by_cases g1 : cn < 48
          · have HV : Hid (numA (bl s) = (0, false)) := numA_none (by rw [HT.out.1, HU.out, hd]; exact numD_bad (.inl (by have := HCC.out; omega)))
            clear HU hd
            go_wp2
            go_ret2
            exact ⟨by unfold NumV; rw [HV.out]; rfl, rfl⟩
          · by_cases g2 : 57 < cn
            · have HV : Hid (numA (bl s) = (0, false)) := numA_none (by rw [HT.out.1, HU.out, hd]; exact numD_bad (.inr (by have := HCC.out; omega)))
              clear HU hd
              go_wp2
              go_ret2
              exact ⟨by unfold NumV; rw [HV.out]; rfl, rfl⟩
            · have hlo : 0 ≤ cn - 48 := by omega
              have hhi : cn - 48 ≤ 9 := by omega
              by_cases g3 : k = 6
              · subst g3
                have HV : Hid (numA (bl s) = (0, false)) := numA_none (by rw [HT.out.1, HU.out, hd]; exact numD_many (Nat.le_refl _))
                clear HU hd
                go_wp2
                go_ret2
                exact ⟨by unfold NumV; rw [HV.out]; rfl, rfl⟩
              · have g4 : ¬ (6 : Int) ≤ (k : Int) := by omega
                obtain ⟨d, hdd⟩ : ∃ d : Nat, d = c.toNat - 48 := ⟨_, rfl⟩
                have hdc : cn - 48 = (d : Int) := by have := HCC.out; omega
                have HS : Hid (numD (bl s) 0 0 = numD ((bl s).drop (k + 1)) (k + 1) (a * 10 + d)) := by
                  refine HU.out.trans ?_
                  rw [hd, numD_go (by have := HCC.out; omega) (by omega), hdd]
                have HA2 : Hid (a * 10 + d < 10 ^ (k + 1)) := by
                  have h1 := HA.out
                  unfold Hid; rw [Nat.pow_succ]; omega
                have HA3 : Hid (a * 10 + d < 1000000) := by
                  have h1 := HA2.out
                  have h2 : (10 : Nat) ^ (k + 1) ≤ 10 ^ 6 := Nat.pow_le_pow_right (by decide) (by omega)
                  unfold Hid; omega
                have HDC : Hid (cn - 48 = (d : Int)) := hdc
                clear HU hd hdd hdc HA
                go_wp2
                go_roundw
                case rel => exact ⟨k + 1, a * 10 + d, by omega, by go_num, by first | (rw [HDC.out]; go_num) | go_num, by omega, HA3.out, HA2, HS, trivial⟩
                case measure => simp [intOf]; omega
        · obtain rfl : k = s.size := by omega
          have HV : Hid (numA (bl s) = (((a : Nat) : Int), !(bl s).isEmpty)) := by
            have h := HU.out
            rw [drop_all] at h
            unfold Hid numA
            rw [HT.out.1, h]
            simp [numD, HT.out.2]
          have hE : (!(bl s).isEmpty) = decide (0 < s.size) := by
            rw [← bl_length]
            cases bl s <;> simp
          have HE : Hid _ := hE
          clear hE HU
          by_cases g0 : s.size = 0
          · have g1 : ¬ (0 : Int) < (s.size : Int) := by omega
            go_wp2
            go_ret2
            exact ⟨by unfold NumV; rw [HV.out, HE.out]; simp [g0], rfl⟩
          · have g1 : (0 : Int) < (s.size : Int) := by omega
            go_wp2
            go_ret2
            exact ⟨by unfold NumV; rw [HV.out, HE.out]; simp [Nat.pos_of_ne_zero g0], rfl⟩
    · have hpi : ¬ (0 : Int) < (s.size : Int) := by omega
      clear h0
      go_enter Tryz.func67, Tryz.ntmps67
      go_wp2
      go_loopw [5, 6] (fun vn vi wr => vi = .int .i64 0 ∧ vn = .int .i64 0 ∧ w = wr) (fun _ vi _ => 0)
      case atStart => exact ⟨rfl, rfl, rfl⟩
      case round =>
        obtain ⟨rfl, rfl, rfl⟩ := hrel
        have HV : Hid (numA (bl s) = (0, false)) := by
          have h : bl s = [] := List.length_eq_zero_iff.1 (by rw [bl_length]; omega)
          unfold Hid numA
          rw [HT.out.1, h]
          simp [numD]
        go_wp2
        go_ret2
        exact ⟨by unfold NumV; rw [HV.out]; rfl, rfl⟩
end Go.Proofs.YtpcpcfnmcfjomaaGreatDoor.DQ
