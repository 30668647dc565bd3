/-
  M2 M3
-/
import Derived.Test.YtpcpcfnmcfjomaaGreatDoorK05
namespace Go.Proofs.YtpcpcfnmcfjomaaGreatDoor
open Go.RowKit Go.Shelf
structure Md where
  kind : ByteArray
  a : ByteArray := E
  b : ByteArray := E
  bg : Bool := false
  en : Bool := false
  ex : Option Addr := none
  al : Bool := false
  on : Bool := false
  mks : Int := 0
  ots : Int := 0
  frm : Int := 0
  upto : Int := 0
abbrev mdV (kind a b : ByteArray) (bg en : Bool) (ex : Option Addr) (al on : Bool) (mks ots frm upto : Int) : Array Value := #[.string kind, .string a, .string b, .bool bg, .bool en, .pointer ex, .bool al, .bool on, .int .i64 mks, .int .i64 ots, .int .i64 frm, .int .i64 upto]
def Md.cells (m : Md) : Array Value := mdV m.kind m.a m.b m.bg m.en m.ex m.al m.on m.mks m.ots m.frm m.upto
abbrev zeroMd : Array Value := mdV E E E false false none false false 0 0 0 0
def headIs (s : ByteArray) (c : UInt8) : Bool := decide ((bl s).head? = some c)
theorem pre_any (s : ByteArray) (c : UInt8) (W : World) : Calls Tryz.prog 19 #[.string s, .string ⟨#[c]⟩] W fun e w' => e = .returned (.bool (headIs s c)) ∧ W = w' := by
  refine (Tryz.strings_HasPrefix s ⟨#[c]⟩ W).mono ?_
  rintro e w' ⟨rfl, rfl⟩
  refine ⟨ret_bool ?_, rfl⟩
  show Lib.hasPrefix (bl s) [c] = _
  unfold Lib.hasPrefix headIs
  cases bl s with
  | nil => simp [List.isPrefixOf]
  | cons k t =>
    by_cases h : k = c
    · simp [List.isPrefixOf, h]
    · simp [List.isPrefixOf, h, Ne.symm h]
theorem mod_cells {W : World} {b : Nat} {kind a c : ByteArray} {bg en : Bool} {ex : Option Addr} {al on : Bool} {mks ots frm upto : Int} {T : TypeId} (h : W.heap[b]? = some (.cells (mdV kind a c bg en ex al on mks ots frm upto) T (0, 0))) :
    (W.cell? ⟨b, 0, none⟩ = some (.string kind) ∧ W.cell? ⟨b, 1, none⟩ = some (.string a) ∧ W.cell? ⟨b, 2, none⟩ = some (.string c) ∧ W.cell? ⟨b, 3, none⟩ = some (.bool bg) ∧ W.cell? ⟨b, 4, none⟩ = some (.bool en) ∧ W.cell? ⟨b, 5, none⟩ = some (.pointer ex) ∧ W.cell? ⟨b, 6, none⟩ = some (.bool al) ∧ W.cell? ⟨b, 7, none⟩ = some (.bool on) ∧ W.cell? ⟨b, 8, none⟩ = some (.int .i64 mks) ∧ W.cell? ⟨b, 9, none⟩ = some (.int .i64 ots) ∧ W.cell? ⟨b, 10, none⟩ = some (.int .i64 frm) ∧ W.cell? ⟨b, 11, none⟩ = some (.int .i64 upto)) ∧ ∀ i, W.frozen? ⟨b, i, none⟩ = false := by
  refine ⟨?_, fun i => by simp [World.frozen?, h]⟩
  simp only [World.cell?, h]
  exact ⟨rfl, rfl, rfl, rfl, rfl, rfl, rfl, rfl, rfl, rfl, rfl, rfl⟩
def setMd (w : World) (b : Nat) (kind a c : ByteArray) (bg en : Bool) (ex : Option Addr) (al on : Bool) (mks ots frm upto : Int) : World :=
  ((((((((((((w.setCell ⟨b, 0, none⟩ (.string kind)).setCell ⟨b, 1, none⟩ (.string a)).setCell ⟨b, 2, none⟩ (.string c)).setCell ⟨b, 3, none⟩ (.bool bg)).setCell ⟨b, 4, none⟩ (.bool en)).setCell ⟨b, 5, none⟩ (.pointer ex)).setCell ⟨b, 6, none⟩ (.bool al)).setCell ⟨b, 7, none⟩ (.bool on)).setCell ⟨b, 8, none⟩ (.int .i64 mks)).setCell ⟨b, 9, none⟩ (.int .i64 ots)).setCell ⟨b, 10, none⟩ (.int .i64 frm)).setCell ⟨b, 11, none⟩ (.int .i64 upto))
theorem setMd_heap {w : World} {b : Nat} {kind a c : ByteArray} {bg en : Bool} {ex : Option Addr} {al on : Bool} {mks ots frm upto : Int} {kind' a' c' : ByteArray} {bg' en' : Bool} {ex' : Option Addr} {al' on' : Bool} {mks' ots' frm' upto' : Int} {T : TypeId}
    (h : w.heap[b]? = some (.cells (mdV kind' a' c' bg' en' ex' al' on' mks' ots' frm' upto') T (0, 0))) : (setMd w b kind a c bg en ex al on mks ots frm upto).heap[b]? = some (.cells (mdV kind a c bg en ex al on mks ots frm upto) T (0, 0)) := by
  unfold setMd
  have h1 := heap_set (i := 0) h (.string kind)
  rw [show (mdV kind' a' c' bg' en' ex' al' on' mks' ots' frm' upto').setIfInBounds 0 (.string kind) = mdV kind a' c' bg' en' ex' al' on' mks' ots' frm' upto' from rfl] at h1
  have h2 := heap_set (i := 1) h1 (.string a)
  rw [show (mdV kind a' c' bg' en' ex' al' on' mks' ots' frm' upto').setIfInBounds 1 (.string a) = mdV kind a c' bg' en' ex' al' on' mks' ots' frm' upto' from rfl] at h2
  have h3 := heap_set (i := 2) h2 (.string c)
  rw [show (mdV kind a c' bg' en' ex' al' on' mks' ots' frm' upto').setIfInBounds 2 (.string c) = mdV kind a c bg' en' ex' al' on' mks' ots' frm' upto' from rfl] at h3
  have h4 := heap_set (i := 3) h3 (.bool bg)
  rw [show (mdV kind a c bg' en' ex' al' on' mks' ots' frm' upto').setIfInBounds 3 (.bool bg) = mdV kind a c bg en' ex' al' on' mks' ots' frm' upto' from rfl] at h4
  have h5 := heap_set (i := 4) h4 (.bool en)
  rw [show (mdV kind a c bg en' ex' al' on' mks' ots' frm' upto').setIfInBounds 4 (.bool en) = mdV kind a c bg en ex' al' on' mks' ots' frm' upto' from rfl] at h5
  have h6 := heap_set (i := 5) h5 (.pointer ex)
  rw [show (mdV kind a c bg en ex' al' on' mks' ots' frm' upto').setIfInBounds 5 (.pointer ex) = mdV kind a c bg en ex al' on' mks' ots' frm' upto' from rfl] at h6
  have h7 := heap_set (i := 6) h6 (.bool al)
  rw [show (mdV kind a c bg en ex al' on' mks' ots' frm' upto').setIfInBounds 6 (.bool al) = mdV kind a c bg en ex al on' mks' ots' frm' upto' from rfl] at h7
  have h8 := heap_set (i := 7) h7 (.bool on)
  rw [show (mdV kind a c bg en ex al on' mks' ots' frm' upto').setIfInBounds 7 (.bool on) = mdV kind a c bg en ex al on mks' ots' frm' upto' from rfl] at h8
  have h9 := heap_set (i := 8) h8 (.int .i64 mks)
  rw [show (mdV kind a c bg en ex al on mks' ots' frm' upto').setIfInBounds 8 (.int .i64 mks) = mdV kind a c bg en ex al on mks ots' frm' upto' from rfl] at h9
  have h10 := heap_set (i := 9) h9 (.int .i64 ots)
  rw [show (mdV kind a c bg en ex al on mks ots' frm' upto').setIfInBounds 9 (.int .i64 ots) = mdV kind a c bg en ex al on mks ots frm' upto' from rfl] at h10
  have h11 := heap_set (i := 10) h10 (.int .i64 frm)
  rw [show (mdV kind a c bg en ex al on mks ots frm' upto').setIfInBounds 10 (.int .i64 frm) = mdV kind a c bg en ex al on mks ots frm upto' from rfl] at h11
  have h12 := heap_set (i := 11) h11 (.int .i64 upto)
  rw [show (mdV kind a c bg en ex al on mks ots frm upto').setIfInBounds 11 (.int .i64 upto) = mdV kind a c bg en ex al on mks ots frm upto from rfl] at h12
  exact h12
theorem setMd_below {w0 w : World} {b B : Nat} {kind a c : ByteArray} {bg en : Bool} {ex : Option Addr} {al on : Bool} {mks ots frm upto : Int} (h : Below B w0 w) (hB : B ≤ b) : Below B w0 (setMd w b kind a c bg en ex al on mks ots frm upto) := by
  unfold setMd
  exact (((((((((((h.setCell hB _).setCell hB _).setCell hB _).setCell hB _).setCell hB _).setCell hB _).setCell hB _).setCell hB _).setCell hB _).setCell hB _).setCell hB _).setCell hB _
theorem ext_head {s : ByteArray} {c : UInt8} (h : headIs s c = true) : s.extract 0 1 = ⟨#[c]⟩ := by
  apply bl_inj
  rw [bl_extract]
  unfold headIs at h
  have := of_decide_eq_true h
  cases hb : bl s with
  | nil => rw [hb] at this; simp at this
  | cons k t => rw [hb] at this; simp at this; rw [this]; rfl
theorem head_pos {s : ByteArray} {c : UInt8} (h : headIs s c = true) : 1 ≤ s.size := by
  rw [← bl_length]
  unfold headIs at h
  have := of_decide_eq_true h
  cases hb : bl s with
  | nil => rw [hb] at this; simp at this
  | cons k t => simp
theorem head_not {s : ByteArray} {c d : UInt8} (h : headIs s c = true) (hd : d ≠ c) : headIs s d = false := by
  unfold headIs at h ⊢
  rw [of_decide_eq_true h]
  simp [Ne.symm hd]
theorem pre_is {s : ByteArray} {c : UInt8} {x : Bool} (h : headIs s c = x) : Hid (∀ W, Calls Tryz.prog 19 #[.string s, .string ⟨#[c]⟩] W fun e w' => e = .returned (.bool x) ∧ W = w') := fun W => by
  have := pre_any s c W; rw [h] at this; exact this
set_option maxRecDepth 20000 in
set_option maxHeartbeats 1600000 in
theorem read_m (s : ByteArray) (w : World) (hs : s.size ≤ 1000000) (h1 : 1 ≤ s.size) (hk : headIs s 77 = true) :
    Calls Tryz.prog 12 #[.string s] w fun e w' => e = .returned (.tuple #[.agg (mdV (s.extract 0 1) (ba (untilL 58 (bl (s.extract 1 s.size))).1) E false false none false false 0 0 0 0), .int .i64 ((untilL 58 (bl (s.extract 1 s.size))).2.1 + 1), .int .i64 0]) ∧ Below w.heap.size w w' := by
  have HP : Hid (∀ W, Calls Tryz.prog 19 #[.string s, .string ⟨#[77]⟩] W fun e w' => e = .returned (.bool true) ∧ W = w') := fun W => by
    have := pre_any s 77 W; rw [hk] at this; exact this
  have hxs : (s.extract 1 s.size).size ≤ 1000000 := by simp; omega
  have HU : Hid (∀ W, Calls Tryz.prog 20 #[.string (s.extract 1 s.size), .int .u8 58] W fun x w' => x = .returned (.tuple #[.string (ba (untilL 58 (bl (s.extract 1 s.size))).1), .int .i64 (untilL 58 (bl (s.extract 1 s.size))).2.1, .bool (untilL 58 (bl (s.extract 1 s.size))).2.2]) ∧ Below W.heap.size W w') := fun W => until_any _ 58 W hxs
  have hul := (until_len 58 (bl (s.extract 1 s.size))).2
  rw [bl_length] at hul
  obtain ⟨tx, htx⟩ : ∃ tx, tx = ba (untilL 58 (bl (s.extract 1 s.size))).1 := ⟨_, rfl⟩
  obtain ⟨tn, htn⟩ : ∃ tn, tn = (untilL 58 (bl (s.extract 1 s.size))).2.1 := ⟨_, rfl⟩
  obtain ⟨tf, htf⟩ : ∃ tf, tf = (untilL 58 (bl (s.extract 1 s.size))).2.2 := ⟨_, rfl⟩
  rw [← htx, ← htn, ← htf] at HU
  rw [← htx, ← htn]
  rw [← htn] at hul
  have hbnd : tn ≤ 1000000 := by omega
  have h1i : (1 : Int) ≤ (s.size : Int) := by omega
  have HB0 : Hid (∀ W, Below (w.heap.size + 1) (w.alloc (.cells zeroMd 45)) W → W.heap[w.heap.size]? = some (.cells zeroMd 45 (0, 0)) ∧ Below w.heap.size w W) := fun W hB => by
    refine ⟨?_, ((Below.refl _ w).alloc (Nat.le_refl _) _).trans (hB.mono (by omega))⟩
    rw [hB.block w.heap.size (by omega)]; exact heap_alloc_new w _
  clear htx htn htf hk hul hxs
  go_enter Tryz.func12, Tryz.ntmps12
  go_wp2_with fail
  refine (HP.out _).mono ?_
  rintro e w' ⟨rfl, rfl⟩
  go_wp2_with fail
  refine (HU.out _).mono ?_
  rintro e w2 ⟨rfl, hb2⟩
  rw [World.size_alloc] at hb2
  obtain ⟨hblk, hlow⟩ := HB0.out w2 hb2
  obtain ⟨⟨r0, r1, r2, r3, r4, r5, r6, r7, r8, r9, r10, r11⟩, hfz⟩ := mod_cells hblk
  have HBk : Hid (w2.heap[w.heap.size]? = some (.cells zeroMd 45 (0, 0))) := hblk
  clear hblk
  go_wp2
  obtain ⟨W, hW⟩ : ∃ W, W = setMd w2 w.heap.size (s.extract 0 1) tx E false false none false false 0 0 0 0 := ⟨_, rfl⟩
  have hWb : Below w.heap.size w W := by rw [hW]; exact setMd_below hlow (Nat.le_refl _)
  have hWh := setMd_heap (kind := s.extract 0 1) (a := tx) (c := E) (bg := false) (en := false) (ex := none) (al := false) (on := false) (mks := 0) (ots := 0) (frm := 0) (upto := 0) HBk.out
  rw [← hW] at hWh
  obtain ⟨⟨q0, q1, q2, q3, q4, q5, q6, q7, q8, q9, q10, q11⟩, _⟩ := mod_cells hWh
  show bodyPost Tryz.prog Tryz.f12 _ Exit.ret _ (setMd w2 w.heap.size (s.extract 0 1) tx E false false none false false 0 0 0 0)
  rw [← hW]
  refine bodyPost_ret (v := .tuple #[.agg (mdV (s.extract 0 1) tx E false false none false false 0 0 0 0), .int .i64 (tn + 1), .int .i64 0]) (by simp [results, Tryz.results12, go_sem, q0, q1, q2, q3, q4, q5, q6, q7, q8, q9, q10, q11]; try rfl) rfl ⟨rfl, hWb⟩
set_option maxRecDepth 20000 in
set_option maxHeartbeats 1600000 in
theorem read_n (s : ByteArray) (w : World) (hs : s.size ≤ 1000000) (h1 : 1 ≤ s.size) (hk : headIs s 78 = true) :
    Calls Tryz.prog 12 #[.string s] w fun e w' => e = .returned (.tuple #[.agg (mdV (s.extract 0 1) (ba (untilL 58 (bl (s.extract 1 s.size))).1) E false false none false false 0 0 0 0), .int .i64 ((untilL 58 (bl (s.extract 1 s.size))).2.1 + 1), .int .i64 0]) ∧ Below w.heap.size w w' := by
  have HP := pre_is hk
  have HM := pre_is (head_not (d := 77) hk (by decide))
  have hxs : (s.extract 1 s.size).size ≤ 1000000 := by simp; omega
  have HU : Hid (∀ W, Calls Tryz.prog 20 #[.string (s.extract 1 s.size), .int .u8 58] W fun x w' => x = .returned (.tuple #[.string (ba (untilL 58 (bl (s.extract 1 s.size))).1), .int .i64 (untilL 58 (bl (s.extract 1 s.size))).2.1, .bool (untilL 58 (bl (s.extract 1 s.size))).2.2]) ∧ Below W.heap.size W w') := fun W => until_any _ 58 W hxs
  have hul := (until_len 58 (bl (s.extract 1 s.size))).2
  rw [bl_length] at hul
  obtain ⟨tx, htx⟩ : ∃ tx, tx = ba (untilL 58 (bl (s.extract 1 s.size))).1 := ⟨_, rfl⟩
  obtain ⟨tn, htn⟩ : ∃ tn, tn = (untilL 58 (bl (s.extract 1 s.size))).2.1 := ⟨_, rfl⟩
  obtain ⟨tf, htf⟩ : ∃ tf, tf = (untilL 58 (bl (s.extract 1 s.size))).2.2 := ⟨_, rfl⟩
  rw [← htx, ← htn, ← htf] at HU
  rw [← htx, ← htn]
  rw [← htn] at hul
  have hbnd : tn ≤ 1000000 := by omega
  have h1i : (1 : Int) ≤ (s.size : Int) := by omega
  have HB0 : Hid (∀ W, Below (w.heap.size + 1) (w.alloc (.cells zeroMd 45)) W → W.heap[w.heap.size]? = some (.cells zeroMd 45 (0, 0)) ∧ Below w.heap.size w W) := fun W hB => by
    refine ⟨?_, ((Below.refl _ w).alloc (Nat.le_refl _) _).trans (hB.mono (by omega))⟩
    rw [hB.block w.heap.size (by omega)]; exact heap_alloc_new w _
  clear htx htn htf hk hul hxs
  go_enter Tryz.func12, Tryz.ntmps12
  go_wp2_with fail
  refine (HM.out _).mono ?_
  rintro e w' ⟨rfl, rfl⟩
  go_wp2_with fail
  refine (HP.out _).mono ?_
  rintro e w' ⟨rfl, rfl⟩
  go_wp2_with fail
  refine (HU.out _).mono ?_
  rintro e w2 ⟨rfl, hb2⟩
  rw [World.size_alloc] at hb2
  obtain ⟨hblk, hlow⟩ := HB0.out w2 hb2
  obtain ⟨⟨r0, r1, r2, r3, r4, r5, r6, r7, r8, r9, r10, r11⟩, hfz⟩ := mod_cells hblk
  have HBk : Hid (w2.heap[w.heap.size]? = some (.cells zeroMd 45 (0, 0))) := hblk
  clear hblk
  go_wp2
  obtain ⟨W, hW⟩ : ∃ W, W = setMd w2 w.heap.size (s.extract 0 1) tx E false false none false false 0 0 0 0 := ⟨_, rfl⟩
  have hWb : Below w.heap.size w W := by rw [hW]; exact setMd_below hlow (Nat.le_refl _)
  have hWh := setMd_heap (kind := s.extract 0 1) (a := tx) (c := E) (bg := false) (en := false) (ex := none) (al := false) (on := false) (mks := 0) (ots := 0) (frm := 0) (upto := 0) HBk.out
  rw [← hW] at hWh
  obtain ⟨⟨q0, q1, q2, q3, q4, q5, q6, q7, q8, q9, q10, q11⟩, _⟩ := mod_cells hWh
  show bodyPost Tryz.prog Tryz.f12 _ Exit.ret _ (setMd w2 w.heap.size (s.extract 0 1) tx E false false none false false 0 0 0 0)
  rw [← hW]
  refine bodyPost_ret (v := .tuple #[.agg (mdV (s.extract 0 1) tx E false false none false false 0 0 0 0), .int .i64 (tn + 1), .int .i64 0]) (by simp [results, Tryz.results12, go_sem, q0, q1, q2, q3, q4, q5, q6, q7, q8, q9, q10, q11]; try rfl) rfl ⟨rfl, hWb⟩
end Go.Proofs.YtpcpcfnmcfjomaaGreatDoor
namespace Go.Proofs.YtpcpcfnmcfjomaaGreatDoor
open Go.RowKit Go.Shelf
abbrev cutF (a : ByteArray) : ByteArray := ⟨(Lib.trimPrefix (bl a) [94]).toArray⟩
abbrev cutL (a : ByteArray) : ByteArray := ⟨(Lib.trimSuffix (bl a) [36]).toArray⟩
set_option maxRecDepth 20000 in
set_option maxHeartbeats 1600000 in
theorem lookFor_s (b : Nat) (x : ByteArray) (w : World) (hx : x.size ≤ 1000000) {a c : ByteArray} {bg en : Bool} {ex : Option Addr} {al on : Bool} {mks ots frm upto : Int}
    (h : w.heap[b]? = some (.cells (mdV ⟨#[83]⟩ a c bg en ex al on mks ots frm upto) 45 (0, 0))) :
    Calls Tryz.prog 40 #[.pointer (some ⟨b, 0, none⟩), .string x] w fun e w' => e = .returned (.bool true) ∧ Only b w w' ∧
      w'.heap[b]? = some (.cells (mdV ⟨#[83]⟩ (cutL (cutF x)) c (Lib.hasPrefix (bl x) [94]) (Lib.hasSuffix (bl (cutF x)) [36]) ex al on mks ots frm upto) 45 (0, 0)) := by
  have HP : Hid (∀ W, Calls Tryz.prog 84 #[.string x, .string ⟨#[94]⟩] W fun e w' => e = .returned (.tuple #[.string (cutF x), .bool (Lib.hasPrefix (bl x) [94])]) ∧ W = w') := fun W =>
    (Tryz.strings_CutPrefix x ⟨#[94]⟩ W).mono (by rintro e w' ⟨rfl, rfl⟩; exact ⟨rfl, rfl⟩)
  have hle : (cutF x).size ≤ 1000000 := by
    refine Nat.le_trans ?_ hx
    show (Lib.trimPrefix (bl x) [94]).toArray.size ≤ _
    unfold Lib.trimPrefix
    rw [← bl_length]
    split
    · simp
    · simp
  obtain ⟨y, hy⟩ : ∃ y, y = cutF x := ⟨_, rfl⟩
  rw [← hy] at HP hle ⊢
  have HS : Hid (∀ W, Calls Tryz.prog 85 #[.string y, .string ⟨#[36]⟩] W fun e w' => e = .returned (.tuple #[.string (cutL y), .bool (Lib.hasSuffix (bl y) [36])]) ∧ W = w') := fun W =>
    (Tryz.strings_CutSuffix y ⟨#[36]⟩ W (by omega)).mono (by rintro e w' ⟨rfl, rfl⟩; exact ⟨rfl, rfl⟩)
  obtain ⟨p, hp⟩ : ∃ p, p = Lib.hasPrefix (bl x) [94] := ⟨_, rfl⟩
  obtain ⟨q, hq⟩ : ∃ q, q = Lib.hasSuffix (bl y) [36] := ⟨_, rfl⟩
  obtain ⟨z, hz⟩ : ∃ z, z = cutL y := ⟨_, rfl⟩
  rw [← hp] at HP ⊢
  rw [← hq, ← hz] at HS ⊢
  clear hy hp hq hz
  obtain ⟨⟨r0, r1, r2, r3, r4, r5, r6, r7, r8, r9, r10, r11⟩, hfz⟩ := mod_cells h
  have HBk : Hid (w.heap[b]? = some (.cells (mdV ⟨#[83]⟩ a c bg en ex al on mks ots frm upto) 45 (0, 0))) := h
  clear h
  go_enter Tryz.func40, Tryz.ntmps40
  go_wp2_with fail
  refine (HP.out _).mono ?_
  rintro e w' ⟨rfl, rfl⟩
  go_wp2_with fail
  refine (HS.out _).mono ?_
  rintro e w' ⟨rfl, rfl⟩
  go_wp2
  go_ret
  refine ⟨rfl, ((Only.set b 3 w _).trans (Only.set b 1 _ _)).trans (Only.set b 4 _ _), ?_⟩
  exact heap_set (heap_set (heap_set HBk.out _) _) _
def andsL (l : List UInt8) : Nat := (l.filter (· = 38)).length
theorem ands_snoc (l : List UInt8) (c : UInt8) : andsL (l ++ [c]) = andsL l + (if c = 38 then 1 else 0) := by
  unfold andsL; rw [List.filter_append, List.length_append]
  by_cases h : c = 38 <;> simp [h]
set_option maxRecDepth 20000 in
set_option maxHeartbeats 1600000 in
theorem put_s (b : Nat) (x : ByteArray) (w : World) (hx : x.size ≤ 1000000) {a c : ByteArray} {bg en : Bool} {ex : Option Addr} {al on : Bool} {frm upto : Int}
    (h : w.heap[b]? = some (.cells (mdV ⟨#[83]⟩ a c bg en ex al on 0 0 frm upto) 45 (0, 0))) :
    Calls Tryz.prog 41 #[.pointer (some ⟨b, 0, none⟩), .string x] w fun e w' => e = .returned (.tuple #[]) ∧ Only b w w' ∧
      w'.heap[b]? = some (.cells (mdV ⟨#[83]⟩ a x bg en ex al on (andsL (bl x)) (x.size - andsL (bl x) : Nat) frm upto) 45 (0, 0)) := by
  obtain ⟨⟨r0, r1, r2, r3, r4, r5, r6, r7, r8, r9, r10, r11⟩, hfz⟩ := mod_cells h
  have HBk : Hid (w.heap[b]? = some (.cells (mdV ⟨#[83]⟩ a c bg en ex al on 0 0 frm upto) 45 (0, 0))) := h
  clear h
  go_enter Tryz.func41, Tryz.ntmps41
  go_wp2
  go_loopw [4] (fun vi wr => ∃ k m : Nat, k ≤ x.size ∧ m = andsL ((bl x).take k) ∧ m ≤ k ∧ vi = .int .i64 k ∧ Hid (Only b w wr) ∧ wr.heap[b]? = some (.cells (mdV ⟨#[83]⟩ a x bg en ex al on m (k - m : Nat) frm upto) 45 (0, 0)))
    (fun vi _ => x.size - (intOf vi).toNat)
  case atStart =>
    refine ⟨0, 0, Nat.zero_le _, rfl, Nat.le_refl _, rfl, Only.set b 2 w _, ?_⟩
    exact heap_set HBk.out _
  case round =>
    obtain ⟨k, m, hk, hm, hmk, rfl, HO, hh⟩ := hrel
    clear r0 r1 r2 r3 r4 r5 r6 r7 r8 r9 r10 r11 hfz
    obtain ⟨⟨r0, r1, r2, r3, r4, r5, r6, r7, r8, r9, r10, r11⟩, hfz⟩ := mod_cells hh
    have HH : Hid (wr.heap[b]? = some (.cells (mdV ⟨#[83]⟩ a x bg en ex al on m (k - m : Nat) frm upto) 45 (0, 0))) := hh
    clear hh
    have hmb : m ≤ 1000000 := by omega
    have hkb : k - m ≤ 1000000 := by omega
    by_cases hlt : k < x.size
    · have hil : (k : Int) < (x.size : Int) := by omega
      have ht := take_snoc x k hlt
      obtain ⟨cc, hc⟩ : ∃ cc, cc = x[k] := ⟨_, rfl⟩
      obtain ⟨cn, hcn⟩ : ∃ cn : Int, cn = (x[k].toNat : Int) := ⟨_, rfl⟩
      have hgk : (x[k].toNat : Int) = cn := hcn.symm
      rw [← hc] at ht
      have HCC : Hid (cn = (cc.toNat : Int)) := by rw [hcn, hc]; rfl
      clear hcn hc
      have hs := ands_snoc ((bl x).take k) cc
      rw [← ht, ← hm] at hs
      clear ht
      by_cases h38 : cc = 38
      · have t1 : (cn == 38) = true := by rw [HCC.out, h38]; rfl
        rw [if_pos h38] at hs
        have HS : Hid (andsL ((bl x).take (k + 1)) = m + 1) := hs
        clear hs hm
        go_wp2
        go_roundw
        case rel =>
          refine ⟨k + 1, m + 1, by omega, HS.out.symm, by omega, by go_num, HO.out.trans (Only.set b 8 _ _), ?_⟩
          rw [show k + 1 - (m + 1) = k - m by omega]
          exact heap_set HH.out _
        case measure => simp [intOf]; omega
      · have t1 : (cn == 38) = false := by rw [HCC.out]; rw [← Bool.not_eq_true, beq_iff_eq]; intro e1; apply h38; rw [u8_eq_iff]; have : (38 : UInt8).toNat = 38 := rfl; omega
        rw [if_neg h38] at hs
        have HS : Hid (andsL ((bl x).take (k + 1)) = m) := hs
        clear hs hm
        by_cases h92 : cc = 92
        · have t2 : (cn == 92) = true := by rw [HCC.out, h92]; rfl
          go_wp2
          go_roundw
          case rel =>
            refine ⟨k + 1, m, by omega, HS.out.symm, by omega, by go_num, HO.out.trans (Only.set b 9 _ _), ?_⟩
            rw [show k + 1 - m = (k - m) + 1 by omega]
            exact heap_set HH.out _
          case measure => simp [intOf]; omega
        · have t2 : (cn == 92) = false := by rw [HCC.out]; rw [← Bool.not_eq_true, beq_iff_eq]; intro e1; apply h92; rw [u8_eq_iff]; have : (92 : UInt8).toNat = 92 := rfl; omega
          go_wp2
          go_roundw
          case rel =>
            refine ⟨k + 1, m, by omega, HS.out.symm, by omega, by go_num, HO.out.trans (Only.set b 9 _ _), ?_⟩
            rw [show k + 1 - m = (k - m) + 1 by omega]
            exact heap_set HH.out _
          case measure => simp [intOf]; omega
    · go_wp2
      refine bodyPost_end (v := .tuple #[]) (by simp [results, Tryz.results41, go_sem]) rfl ?_
      obtain rfl : k = x.size := by omega
      rw [take_all] at hm
      rw [← hm]
      exact ⟨rfl, HO.out, HH.out⟩
def flagL : Bool → Bool → List UInt8 → Bool × Bool × Bool
  | al, on, [] => (true, al, on)
  | al, on, c :: t => if c = 103 ∧ al = false then flagL true on t else if c = 49 ∧ on = false then flagL al true t else (false, al, on)
set_option maxRecDepth 20000 in
set_option maxHeartbeats 1600000 in
theorem flag_s (b : Nat) (x : ByteArray) (w : World) (hx : x.size ≤ 1000000) {kind a c : ByteArray} {bg en : Bool} {ex : Option Addr} {mks ots frm upto : Int}
    (h : w.heap[b]? = some (.cells (mdV kind a c bg en ex false false mks ots frm upto) 45 (0, 0))) :
    Calls Tryz.prog 42 #[.pointer (some ⟨b, 0, none⟩), .string x] w fun e w' => e = .returned (.bool (flagL false false (bl x)).1) ∧ Only b w w' ∧
      w'.heap[b]? = some (.cells (mdV kind a c bg en ex (flagL false false (bl x)).2.1 (flagL false false (bl x)).2.2 mks ots frm upto) 45 (0, 0)) := by
  obtain ⟨F, hF⟩ : ∃ F, F = flagL false false (bl x) := ⟨_, rfl⟩
  rw [← hF]
  have HF : Hid (F = flagL false false (bl x)) := hF
  clear hF
  have HBk : Hid (w.heap[b]? = some (.cells (mdV kind a c bg en ex false false mks ots frm upto) 45 (0, 0))) := h
  clear h
  go_enter Tryz.func42, Tryz.ntmps42
  go_wp2
  go_loopw [8] (fun vi wr => ∃ (k : Nat) (al on : Bool), k ≤ x.size ∧ vi = .int .i64 k ∧ Hid (F = flagL al on ((bl x).drop k)) ∧ Hid (Only b w wr) ∧ wr.heap[b]? = some (.cells (mdV kind a c bg en ex al on mks ots frm upto) 45 (0, 0)))
    (fun vi _ => x.size - (intOf vi).toNat)
  case atStart => exact ⟨0, false, false, Nat.zero_le _, rfl, HF, Only.refl _ _, HBk.out⟩
  case round =>
    obtain ⟨k, al, on, hk, rfl, HU, HO, hh⟩ := hrel
    obtain ⟨⟨r0, r1, r2, r3, r4, r5, r6, r7, r8, r9, r10, r11⟩, hfz⟩ := mod_cells hh
    have HH : Hid (wr.heap[b]? = some (.cells (mdV kind a c bg en ex al on mks ots frm upto) 45 (0, 0))) := hh
    clear hh
    by_cases hlt : k < x.size
    · have hil : (k : Int) < (x.size : Int) := by omega
      have hd := drop_bl x k hlt
      obtain ⟨cc, hc⟩ : ∃ cc, cc = x[k] := ⟨_, rfl⟩
      obtain ⟨cn, hcn⟩ : ∃ cn : Int, cn = (x[k].toNat : Int) := ⟨_, rfl⟩
      have hgk : (x[k].toNat : Int) = cn := hcn.symm
      rw [← hc] at hd
      have HCC : Hid (cn = (cc.toNat : Int)) := by rw [hcn, hc]; rfl
      clear hcn hc
      have HU2 : Hid (F = if cc = 103 ∧ al = false then flagL true on ((bl x).drop (k + 1)) else if cc = 49 ∧ on = false then flagL al true ((bl x).drop (k + 1)) else (false, al, on)) := by
        unfold Hid; rw [HU.out, hd]; rfl
      clear HU hd
      by_cases h103 : cc = 103
      · have t1 : (cn == 103) = true := by rw [HCC.out, h103]; rfl
        have t2 : (cn == 49) = false := by rw [HCC.out, h103]; rfl
        cases al with
        | false =>
          have HU3 : Hid (F = flagL true on ((bl x).drop (k + 1))) := HU2.out.trans (if_pos ⟨h103, rfl⟩)
          clear HU2
          go_wp2
          go_roundw
          case rel => exact ⟨k + 1, true, on, by omega, by go_num, HU3, HO.out.trans (Only.set b 6 _ _), heap_set HH.out _⟩
          case measure => simp [intOf]; omega
        | true =>
          have HU3 : Hid (F = (false, true, on)) := HU2.out.trans ((if_neg (by simp)).trans (if_neg (fun x => absurd (h103.symm.trans x.1) (by decide))))
          clear HU2
          go_wp2
          go_ret
          rw [HU3.out]
          exact ⟨rfl, HO.out, HH.out⟩
      · have t1 : (cn == 103) = false := by rw [HCC.out]; rw [← Bool.not_eq_true, beq_iff_eq]; intro e1; apply h103; rw [u8_eq_iff]; have : (103 : UInt8).toNat = 103 := rfl; omega
        have HU3 : Hid (F = if cc = 49 ∧ on = false then flagL al true ((bl x).drop (k + 1)) else (false, al, on)) := HU2.out.trans (if_neg (fun x => h103 x.1))
        clear HU2
        by_cases h49 : cc = 49
        · have t2 : (cn == 49) = true := by rw [HCC.out, h49]; rfl
          cases on with
          | false =>
            have HU4 : Hid (F = flagL al true ((bl x).drop (k + 1))) := HU3.out.trans (if_pos ⟨h49, rfl⟩)
            clear HU3
            go_wp2
            go_roundw
            case rel => exact ⟨k + 1, al, true, by omega, by go_num, HU4, HO.out.trans (Only.set b 7 _ _), heap_set HH.out _⟩
            case measure => simp [intOf]; omega
          | true =>
            have HU4 : Hid (F = (false, al, true)) := HU3.out.trans (if_neg (by simp))
            clear HU3
            go_wp2
            go_ret
            rw [HU4.out]
            exact ⟨rfl, HO.out, HH.out⟩
        · have t2 : (cn == 49) = false := by rw [HCC.out]; rw [← Bool.not_eq_true, beq_iff_eq]; intro e1; apply h49; rw [u8_eq_iff]; have : (49 : UInt8).toNat = 49 := rfl; omega
          have HU4 : Hid (F = (false, al, on)) := HU3.out.trans (if_neg (fun x => h49 x.1))
          clear HU3
          go_wp2
          go_ret
          rw [HU4.out]
          exact ⟨rfl, HO.out, HH.out⟩
    · obtain rfl : k = x.size := by omega
      have HU4 : Hid (F = (true, al, on)) := by unfold Hid; rw [HU.out, drop_all]; rfl
      clear HU
      go_wp2
      go_ret
      rw [HU4.out]
      exact ⟨rfl, HO.out, HH.out⟩
end Go.Proofs.YtpcpcfnmcfjomaaGreatDoor
