/-
  A modifier in memory; what read answers of M and N.
-/
import Derived.Test.YthcbagggalehgaaGreatDoorM1
namespace Go.Proofs.YthcbagggalehgaaGreatDoor
open Go.RowKit Go.Shelf

structure Md where
  kind : ByteArray
  a : ByteArray := E
  b : ByteArray := E
  bg : Bool := false
  en : Bool := false
  ex : Option Addr := none
  al : Bool := false
  on : Bool := false
  mks : Int := 0
  ots : Int := 0
  frm : Int := 0
  upto : Int := 0
abbrev mdV (kind a b : ByteArray) (bg en : Bool) (ex : Option Addr) (al on : Bool) (mks ots frm upto : Int) : Array Value := #[.string kind, .string a, .string b, .bool bg, .bool en, .pointer ex, .bool al, .bool on, .int .i64 mks, .int .i64 ots, .int .i64 frm, .int .i64 upto]
def Md.cells (m : Md) : Array Value := mdV m.kind m.a m.b m.bg m.en m.ex m.al m.on m.mks m.ots m.frm m.upto
abbrev zeroMd : Array Value := mdV E E E false false none false false 0 0 0 0
def headIs (s : ByteArray) (c : UInt8) : Bool := decide ((bl s).head? = some c)
theorem pre_any (s : ByteArray) (c : UInt8) (W : World) : Calls Tryz.prog 27 #[.string s, .string ⟨#[c]⟩] W fun e w' => e = .returned (.bool (headIs s c)) ∧ W = w' := by
  refine (Tryz.strings_HasPrefix s ⟨#[c]⟩ W).mono ?_
  rintro e w' ⟨rfl, rfl⟩
  refine ⟨ret_bool ?_, rfl⟩
  show Lib.hasPrefix (bl s) [c] = _
  unfold Lib.hasPrefix headIs
  cases bl s with
  | nil => simp [List.isPrefixOf]
  | cons k t =>
    by_cases h : k = c
    · simp [List.isPrefixOf, h]
    · simp [List.isPrefixOf, h, Ne.symm h]

/-- The cells of a block. -/
theorem mod_cells {W : World} {b : Nat} {kind a c : ByteArray} {bg en : Bool} {ex : Option Addr} {al on : Bool} {mks ots frm upto : Int} {T : TypeId} (h : W.heap[b]? = some (.cells (mdV kind a c bg en ex al on mks ots frm upto) T (0, 0))) :
    (W.cell? ⟨b, 0, none⟩ = some (.string kind) ∧ W.cell? ⟨b, 1, none⟩ = some (.string a) ∧ W.cell? ⟨b, 2, none⟩ = some (.string c) ∧ W.cell? ⟨b, 3, none⟩ = some (.bool bg) ∧ W.cell? ⟨b, 4, none⟩ = some (.bool en) ∧ W.cell? ⟨b, 5, none⟩ = some (.pointer ex) ∧ W.cell? ⟨b, 6, none⟩ = some (.bool al) ∧ W.cell? ⟨b, 7, none⟩ = some (.bool on) ∧ W.cell? ⟨b, 8, none⟩ = some (.int .i64 mks) ∧ W.cell? ⟨b, 9, none⟩ = some (.int .i64 ots) ∧ W.cell? ⟨b, 10, none⟩ = some (.int .i64 frm) ∧ W.cell? ⟨b, 11, none⟩ = some (.int .i64 upto)) ∧ ∀ i, W.frozen? ⟨b, i, none⟩ = false := by
  refine ⟨?_, fun i => by simp [World.frozen?, h]⟩
  simp only [World.cell?, h]
  exact ⟨rfl, rfl, rfl, rfl, rfl, rfl, rfl, rfl, rfl, rfl, rfl, rfl⟩

/-- A whole modifier is written into a block. -/
def setMd (w : World) (b : Nat) (kind a c : ByteArray) (bg en : Bool) (ex : Option Addr) (al on : Bool) (mks ots frm upto : Int) : World :=
  ((((((((((((w.setCell ⟨b, 0, none⟩ (.string kind)).setCell ⟨b, 1, none⟩ (.string a)).setCell ⟨b, 2, none⟩ (.string c)).setCell ⟨b, 3, none⟩ (.bool bg)).setCell ⟨b, 4, none⟩ (.bool en)).setCell ⟨b, 5, none⟩ (.pointer ex)).setCell ⟨b, 6, none⟩ (.bool al)).setCell ⟨b, 7, none⟩ (.bool on)).setCell ⟨b, 8, none⟩ (.int .i64 mks)).setCell ⟨b, 9, none⟩ (.int .i64 ots)).setCell ⟨b, 10, none⟩ (.int .i64 frm)).setCell ⟨b, 11, none⟩ (.int .i64 upto))
theorem setMd_heap {w : World} {b : Nat} {kind a c : ByteArray} {bg en : Bool} {ex : Option Addr} {al on : Bool} {mks ots frm upto : Int} {kind' a' c' : ByteArray} {bg' en' : Bool} {ex' : Option Addr} {al' on' : Bool} {mks' ots' frm' upto' : Int} {T : TypeId}
    (h : w.heap[b]? = some (.cells (mdV kind' a' c' bg' en' ex' al' on' mks' ots' frm' upto') T (0, 0))) : (setMd w b kind a c bg en ex al on mks ots frm upto).heap[b]? = some (.cells (mdV kind a c bg en ex al on mks ots frm upto) T (0, 0)) := by
  unfold setMd
  have h1 := heap_set (i := 0) h (.string kind)
  rw [show (mdV kind' a' c' bg' en' ex' al' on' mks' ots' frm' upto').setIfInBounds 0 (.string kind) = mdV kind a' c' bg' en' ex' al' on' mks' ots' frm' upto' from rfl] at h1
  have h2 := heap_set (i := 1) h1 (.string a)
  rw [show (mdV kind a' c' bg' en' ex' al' on' mks' ots' frm' upto').setIfInBounds 1 (.string a) = mdV kind a c' bg' en' ex' al' on' mks' ots' frm' upto' from rfl] at h2
  have h3 := heap_set (i := 2) h2 (.string c)
  rw [show (mdV kind a c' bg' en' ex' al' on' mks' ots' frm' upto').setIfInBounds 2 (.string c) = mdV kind a c bg' en' ex' al' on' mks' ots' frm' upto' from rfl] at h3
  have h4 := heap_set (i := 3) h3 (.bool bg)
  rw [show (mdV kind a c bg' en' ex' al' on' mks' ots' frm' upto').setIfInBounds 3 (.bool bg) = mdV kind a c bg en' ex' al' on' mks' ots' frm' upto' from rfl] at h4
  have h5 := heap_set (i := 4) h4 (.bool en)
  rw [show (mdV kind a c bg en' ex' al' on' mks' ots' frm' upto').setIfInBounds 4 (.bool en) = mdV kind a c bg en ex' al' on' mks' ots' frm' upto' from rfl] at h5
  have h6 := heap_set (i := 5) h5 (.pointer ex)
  rw [show (mdV kind a c bg en ex' al' on' mks' ots' frm' upto').setIfInBounds 5 (.pointer ex) = mdV kind a c bg en ex al' on' mks' ots' frm' upto' from rfl] at h6
  have h7 := heap_set (i := 6) h6 (.bool al)
  rw [show (mdV kind a c bg en ex al' on' mks' ots' frm' upto').setIfInBounds 6 (.bool al) = mdV kind a c bg en ex al on' mks' ots' frm' upto' from rfl] at h7
  have h8 := heap_set (i := 7) h7 (.bool on)
  rw [show (mdV kind a c bg en ex al on' mks' ots' frm' upto').setIfInBounds 7 (.bool on) = mdV kind a c bg en ex al on mks' ots' frm' upto' from rfl] at h8
  have h9 := heap_set (i := 8) h8 (.int .i64 mks)
  rw [show (mdV kind a c bg en ex al on mks' ots' frm' upto').setIfInBounds 8 (.int .i64 mks) = mdV kind a c bg en ex al on mks ots' frm' upto' from rfl] at h9
  have h10 := heap_set (i := 9) h9 (.int .i64 ots)
  rw [show (mdV kind a c bg en ex al on mks ots' frm' upto').setIfInBounds 9 (.int .i64 ots) = mdV kind a c bg en ex al on mks ots frm' upto' from rfl] at h10
  have h11 := heap_set (i := 10) h10 (.int .i64 frm)
  rw [show (mdV kind a c bg en ex al on mks ots frm' upto').setIfInBounds 10 (.int .i64 frm) = mdV kind a c bg en ex al on mks ots frm upto' from rfl] at h11
  have h12 := heap_set (i := 11) h11 (.int .i64 upto)
  rw [show (mdV kind a c bg en ex al on mks ots frm upto').setIfInBounds 11 (.int .i64 upto) = mdV kind a c bg en ex al on mks ots frm upto from rfl] at h12
  exact h12
theorem setMd_below {w0 w : World} {b B : Nat} {kind a c : ByteArray} {bg en : Bool} {ex : Option Addr} {al on : Bool} {mks ots frm upto : Int} (h : Below B w0 w) (hB : B ≤ b) : Below B w0 (setMd w b kind a c bg en ex al on mks ots frm upto) := by
  unfold setMd
  exact (((((((((((h.setCell hB _).setCell hB _).setCell hB _).setCell hB _).setCell hB _).setCell hB _).setCell hB _).setCell hB _).setCell hB _).setCell hB _).setCell hB _).setCell hB _

theorem ext_head {s : ByteArray} {c : UInt8} (h : headIs s c = true) : s.extract 0 1 = ⟨#[c]⟩ := by
  apply bl_inj
  rw [bl_extract]
  unfold headIs at h
  have := of_decide_eq_true h
  cases hb : bl s with
  | nil => rw [hb] at this; simp at this
  | cons k t => rw [hb] at this; simp at this; rw [this]; rfl
theorem head_pos {s : ByteArray} {c : UInt8} (h : headIs s c = true) : 1 ≤ s.size := by
  rw [← bl_length]
  unfold headIs at h
  have := of_decide_eq_true h
  cases hb : bl s with
  | nil => rw [hb] at this; simp at this
  | cons k t => simp
theorem head_not {s : ByteArray} {c d : UInt8} (h : headIs s c = true) (hd : d ≠ c) : headIs s d = false := by
  unfold headIs at h ⊢
  rw [of_decide_eq_true h]
  simp [Ne.symm hd]
theorem pre_is {s : ByteArray} {c : UInt8} {x : Bool} (h : headIs s c = x) : Hid (∀ W, Calls Tryz.prog 27 #[.string s, .string ⟨#[c]⟩] W fun e w' => e = .returned (.bool x) ∧ W = w') := fun W => by
  have := pre_any s c W; rw [h] at this; exact this
set_option maxRecDepth 20000 in
set_option maxHeartbeats 1600000 in
theorem read_m (s : ByteArray) (w : World) (hs : s.size ≤ 1000000) (h1 : 1 ≤ s.size) (hk : headIs s 77 = true) :
    Calls Tryz.prog 101 #[.string s] w fun e w' => e = .returned (.tuple #[.agg (mdV (s.extract 0 1) (ba (untilL 58 (bl (s.extract 1 s.size))).1) E false false none false false 0 0 0 0), .int .i64 ((untilL 58 (bl (s.extract 1 s.size))).2.1 + 1), .int .i64 0]) ∧ Below w.heap.size w w' := by
  have HP : Hid (∀ W, Calls Tryz.prog 27 #[.string s, .string ⟨#[77]⟩] W fun e w' => e = .returned (.bool true) ∧ W = w') := fun W => by
    have := pre_any s 77 W; rw [hk] at this; exact this
  have hxs : (s.extract 1 s.size).size ≤ 1000000 := by simp; omega
  have HU : Hid (∀ W, Calls Tryz.prog 107 #[.string (s.extract 1 s.size), .int .u8 58] W fun x w' => x = .returned (.tuple #[.string (ba (untilL 58 (bl (s.extract 1 s.size))).1), .int .i64 (untilL 58 (bl (s.extract 1 s.size))).2.1, .bool (untilL 58 (bl (s.extract 1 s.size))).2.2]) ∧ Below W.heap.size W w') := fun W => until_any _ 58 W hxs
  have hul := (until_len 58 (bl (s.extract 1 s.size))).2
  rw [bl_length] at hul
  obtain ⟨tx, htx⟩ : ∃ tx, tx = ba (untilL 58 (bl (s.extract 1 s.size))).1 := ⟨_, rfl⟩
  obtain ⟨tn, htn⟩ : ∃ tn, tn = (untilL 58 (bl (s.extract 1 s.size))).2.1 := ⟨_, rfl⟩
  obtain ⟨tf, htf⟩ : ∃ tf, tf = (untilL 58 (bl (s.extract 1 s.size))).2.2 := ⟨_, rfl⟩
  rw [← htx, ← htn, ← htf] at HU
  rw [← htx, ← htn]
  rw [← htn] at hul
  have hbnd : tn ≤ 1000000 := by omega
  have h1i : (1 : Int) ≤ (s.size : Int) := by omega
  have HB0 : Hid (∀ W, Below (w.heap.size + 1) (w.alloc (.cells zeroMd 157)) W → W.heap[w.heap.size]? = some (.cells zeroMd 157 (0, 0)) ∧ Below w.heap.size w W) := fun W hB => by
    refine ⟨?_, ((Below.refl _ w).alloc (Nat.le_refl _) _).trans (hB.mono (by omega))⟩
    rw [hB.block w.heap.size (by omega)]; exact heap_alloc_new w _
  clear htx htn htf hk hul hxs
  go_enter Tryz.func101, Tryz.ntmps101
  go_wp2_with fail
  refine (HP.out _).mono ?_
  rintro e w' ⟨rfl, rfl⟩
  go_wp2_with fail
  refine (HU.out _).mono ?_
  rintro e w2 ⟨rfl, hb2⟩
  rw [World.size_alloc] at hb2
  obtain ⟨hblk, hlow⟩ := HB0.out w2 hb2
  obtain ⟨⟨r0, r1, r2, r3, r4, r5, r6, r7, r8, r9, r10, r11⟩, hfz⟩ := mod_cells hblk
  have HBk : Hid (w2.heap[w.heap.size]? = some (.cells zeroMd 157 (0, 0))) := hblk
  clear hblk
  go_wp2
  obtain ⟨W, hW⟩ : ∃ W, W = setMd w2 w.heap.size (s.extract 0 1) tx E false false none false false 0 0 0 0 := ⟨_, rfl⟩
  have hWb : Below w.heap.size w W := by rw [hW]; exact setMd_below hlow (Nat.le_refl _)
  have hWh := setMd_heap (kind := s.extract 0 1) (a := tx) (c := E) (bg := false) (en := false) (ex := none) (al := false) (on := false) (mks := 0) (ots := 0) (frm := 0) (upto := 0) HBk.out
  rw [← hW] at hWh
  obtain ⟨⟨q0, q1, q2, q3, q4, q5, q6, q7, q8, q9, q10, q11⟩, _⟩ := mod_cells hWh
  show bodyPost Tryz.prog Tryz.f101 _ Exit.ret _ (setMd w2 w.heap.size (s.extract 0 1) tx E false false none false false 0 0 0 0)
  rw [← hW]
  refine bodyPost_ret (v := .tuple #[.agg (mdV (s.extract 0 1) tx E false false none false false 0 0 0 0), .int .i64 (tn + 1), .int .i64 0]) (by simp [results, Tryz.results101, go_sem, q0, q1, q2, q3, q4, q5, q6, q7, q8, q9, q10, q11]; try rfl) rfl ⟨rfl, hWb⟩
set_option maxRecDepth 20000 in
set_option maxHeartbeats 1600000 in
theorem read_n (s : ByteArray) (w : World) (hs : s.size ≤ 1000000) (h1 : 1 ≤ s.size) (hk : headIs s 78 = true) :
    Calls Tryz.prog 101 #[.string s] w fun e w' => e = .returned (.tuple #[.agg (mdV (s.extract 0 1) (ba (untilL 58 (bl (s.extract 1 s.size))).1) E false false none false false 0 0 0 0), .int .i64 ((untilL 58 (bl (s.extract 1 s.size))).2.1 + 1), .int .i64 0]) ∧ Below w.heap.size w w' := by
  have HP := pre_is hk
  have HM := pre_is (head_not (d := 77) hk (by decide))
  have hxs : (s.extract 1 s.size).size ≤ 1000000 := by simp; omega
  have HU : Hid (∀ W, Calls Tryz.prog 107 #[.string (s.extract 1 s.size), .int .u8 58] W fun x w' => x = .returned (.tuple #[.string (ba (untilL 58 (bl (s.extract 1 s.size))).1), .int .i64 (untilL 58 (bl (s.extract 1 s.size))).2.1, .bool (untilL 58 (bl (s.extract 1 s.size))).2.2]) ∧ Below W.heap.size W w') := fun W => until_any _ 58 W hxs
  have hul := (until_len 58 (bl (s.extract 1 s.size))).2
  rw [bl_length] at hul
  obtain ⟨tx, htx⟩ : ∃ tx, tx = ba (untilL 58 (bl (s.extract 1 s.size))).1 := ⟨_, rfl⟩
  obtain ⟨tn, htn⟩ : ∃ tn, tn = (untilL 58 (bl (s.extract 1 s.size))).2.1 := ⟨_, rfl⟩
  obtain ⟨tf, htf⟩ : ∃ tf, tf = (untilL 58 (bl (s.extract 1 s.size))).2.2 := ⟨_, rfl⟩
  rw [← htx, ← htn, ← htf] at HU
  rw [← htx, ← htn]
  rw [← htn] at hul
  have hbnd : tn ≤ 1000000 := by omega
  have h1i : (1 : Int) ≤ (s.size : Int) := by omega
  have HB0 : Hid (∀ W, Below (w.heap.size + 1) (w.alloc (.cells zeroMd 157)) W → W.heap[w.heap.size]? = some (.cells zeroMd 157 (0, 0)) ∧ Below w.heap.size w W) := fun W hB => by
    refine ⟨?_, ((Below.refl _ w).alloc (Nat.le_refl _) _).trans (hB.mono (by omega))⟩
    rw [hB.block w.heap.size (by omega)]; exact heap_alloc_new w _
  clear htx htn htf hk hul hxs
  go_enter Tryz.func101, Tryz.ntmps101
  go_wp2_with fail
  refine (HM.out _).mono ?_
  rintro e w' ⟨rfl, rfl⟩
  go_wp2_with fail
  refine (HP.out _).mono ?_
  rintro e w' ⟨rfl, rfl⟩
  go_wp2_with fail
  refine (HU.out _).mono ?_
  rintro e w2 ⟨rfl, hb2⟩
  rw [World.size_alloc] at hb2
  obtain ⟨hblk, hlow⟩ := HB0.out w2 hb2
  obtain ⟨⟨r0, r1, r2, r3, r4, r5, r6, r7, r8, r9, r10, r11⟩, hfz⟩ := mod_cells hblk
  have HBk : Hid (w2.heap[w.heap.size]? = some (.cells zeroMd 157 (0, 0))) := hblk
  clear hblk
  go_wp2
  obtain ⟨W, hW⟩ : ∃ W, W = setMd w2 w.heap.size (s.extract 0 1) tx E false false none false false 0 0 0 0 := ⟨_, rfl⟩
  have hWb : Below w.heap.size w W := by rw [hW]; exact setMd_below hlow (Nat.le_refl _)
  have hWh := setMd_heap (kind := s.extract 0 1) (a := tx) (c := E) (bg := false) (en := false) (ex := none) (al := false) (on := false) (mks := 0) (ots := 0) (frm := 0) (upto := 0) HBk.out
  rw [← hW] at hWh
  obtain ⟨⟨q0, q1, q2, q3, q4, q5, q6, q7, q8, q9, q10, q11⟩, _⟩ := mod_cells hWh
  show bodyPost Tryz.prog Tryz.f101 _ Exit.ret _ (setMd w2 w.heap.size (s.extract 0 1) tx E false false none false false 0 0 0 0)
  rw [← hW]
  refine bodyPost_ret (v := .tuple #[.agg (mdV (s.extract 0 1) tx E false false none false false 0 0 0 0), .int .i64 (tn + 1), .int .i64 0]) (by simp [results, Tryz.results101, go_sem, q0, q1, q2, q3, q4, q5, q6, q7, q8, q9, q10, q11]; try rfl) rfl ⟨rfl, hWb⟩
end Go.Proofs.YthcbagggalehgaaGreatDoor
