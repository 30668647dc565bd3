/-
  QC2 DQ1 DQ2
-/
import Derived.Test.YtpcpcfnmcfjomaaGreatDoorK10
import Derived.Test.YtpcpcfnmcfjomaaGreatDoorK09
import Derived.Test.YtpcpcfnmcfjomaaGreatDoorK05
import Derived.Lib.ItoaLen
import Derived.Lib.ConvBytes
import Derived.Lib.BufferRead
import Derived.Deep.AppendLies
namespace Go.Proofs.YtpcpcfnmcfjomaaGreatDoor
open Go.RowKit Go.Shelf
namespace X
structure Fr (D : Nat → Prop) (w w' : World) : Prop where
  os : w'.os = w.os
  tape : w'.tape = w.tape
  output : w'.output = w.output
  size : w.heap.size ≤ w'.heap.size
  block : ∀ j, j < w.heap.size → ¬ D j → w'.heap[j]? = w.heap[j]?
theorem Fr.refl (D : Nat → Prop) (w : World) : Fr D w w := ⟨rfl, rfl, rfl, Nat.le_refl _, fun _ _ _ => rfl⟩
theorem Fr.trans {D : Nat → Prop} {w w1 w2 : World} (h : Fr D w w1) (h2 : Fr D w1 w2) : Fr D w w2 :=
  ⟨h2.os.trans h.os, h2.tape.trans h.tape, h2.output.trans h.output, Nat.le_trans h.size h2.size, fun j hj hd => (h2.block j (Nat.lt_of_lt_of_le hj h.size) hd).trans (h.block j hj hd)⟩
theorem Fr.of_below {D : Nat → Prop} {w w' : World} (h : Below w.heap.size w w') : Fr D w w' := ⟨h.os, h.tape, h.output, h.size, fun j hj _ => h.block j hj⟩
end X
structure Um where
  md : Md
inductive Ru where
  | bad (why : Nat)
  | ok (u : Um) (n : Nat)
def Fits (m : Md) (u : Um) (_ : Nat) (_ : World) : Prop := m = u.md
def RuPost (r : Ru) (w : World) (e : Ending) (w' : World) : Prop := Below w.heap.size w w' ∧ match r with
  | .bad why => e = .returned (Rd.bad why).val
  | .ok u n => ∃ m, e = .returned (Rd.ok m n).val ∧ Fits m u w.heap.size w'
theorem fits_below {m : Md} {u : Um} {lo : Nat} {w w' : World} (h : Fits m u lo w) (_ : Below w.heap.size w w') : Fits m u lo w' := h
def NoSC (l : List UInt8) : Prop := ∀ c ∈ l, c ≠ 83 ∧ c ≠ 67
theorem NoSC.drop {l : List UInt8} (h : NoSC l) (k : Nat) : NoSC (l.drop k) := fun c hc => h c (List.mem_of_mem_drop hc)
theorem NoSC.head {l : List UInt8} (h : NoSC l) : ¬ l.head? = some 83 ∧ ¬ l.head? = some 67 := by
  cases l with
  | nil => exact ⟨(fun e => nomatch e), (fun e => nomatch e)⟩
  | cons c r =>
    have := h c (by simp)
    exact ⟨fun e => this.1 (Option.some.inj e), fun e => this.2 (Option.some.inj e)⟩
set_option maxRecDepth 20000 in
set_option maxHeartbeats 3200000 in
theorem read_b (s : ByteArray) (w : World) (hs : s.size ≤ 1000000) (h1 : 1 ≤ s.size) (hk : headIs s 91 = true) (hmx : Mx w) (hE : Ey w) :
    Calls Tryz.prog 12 #[.string s] w fun e w' => e = .returned (choR (bl s)).val ∧ Below w.heap.size w w' := by
  have HL := pre_is hk
  have HM := pre_is (head_not (d := 77) hk (by decide))
  have HN := pre_is (head_not (d := 78) hk (by decide))
  have HS := pre_is (head_not (d := 83) hk (by decide))
  have HCC := pre_is (head_not (d := 67) hk (by decide))
  obtain ⟨R, hR⟩ : ∃ R, R = choR (bl s) := ⟨_, rfl⟩
  have HC : Hid (∀ W, Mx W → Ey W → Calls Tryz.prog 23 #[.string s] W fun e w' => e = .returned R.val ∧ Below W.heap.size W w') := fun W hW hY => by
    rw [hR]; exact readChoice_any s W hs h1 hW hY
  rw [← hR]
  have HMx : Hid (∀ W, Below w.heap.size w W → Mx W) := fun W hB => hmx.below hB hmx.pos
  have HEy : Hid (∀ W, Below w.heap.size w W → Ey W) := fun W hB => hE.below hB hE.pos
  have HB0 := one_new w
  clear hk hmx hR hE
  go_enter Tryz.func12, Tryz.ntmps12
  go_wp2_with fail
  refine (HM.out _).mono ?_
  rintro e w' ⟨rfl, rfl⟩
  go_wp2_with fail
  refine (HN.out _).mono ?_
  rintro e w' ⟨rfl, rfl⟩
  go_wp2_with fail
  refine (HS.out _).mono ?_
  rintro e w' ⟨rfl, rfl⟩
  go_wp2_with fail
  refine (HCC.out _).mono ?_
  rintro e w' ⟨rfl, rfl⟩
  go_wp2_with fail
  refine (HL.out _).mono ?_
  rintro e w' ⟨rfl, rfl⟩
  go_wp2_with fail
  refine (HC.out _ (HMx.out _ ((Below.refl _ w).alloc (Nat.le_refl _) _)) (HEy.out _ ((Below.refl _ w).alloc (Nat.le_refl _) _))).mono ?_
  rintro e w2 ⟨rfl, hb2⟩
  rw [World.size_alloc] at hb2
  obtain ⟨hblk, hlow⟩ := HB0.out w2 hb2
  obtain ⟨⟨r0, r1, r2, r3, r4, r5, r6, r7, r8, r9, r10, r11⟩, hfz⟩ := mod_cells hblk
  have HBk : Hid (w2.heap[w.heap.size]? = some (.cells zeroMd 45 (0, 0))) := hblk
  clear hblk
  cases R with
  | bad why =>
    dsimp only [Rd.val]
    go_wp2
    obtain ⟨W, hW⟩ : ∃ W, W = setMd w2 w.heap.size E E E false false none false false 0 0 0 0 := ⟨_, rfl⟩
    have hWb : Below w.heap.size w W := by rw [hW]; exact setMd_below hlow (Nat.le_refl _)
    have hWh := setMd_heap (kind := E) (a := E) (c := E) (bg := false) (en := false) (ex := none) (al := false) (on := false) (mks := 0) (ots := 0) (frm := 0) (upto := 0) HBk.out
    rw [← hW] at hWh
    obtain ⟨⟨q0, q1, q2, q3, q4, q5, q6, q7, q8, q9, q10, q11⟩, _⟩ := mod_cells hWh
    show bodyPost Tryz.prog Tryz.f12 _ Exit.ret _ (setMd w2 w.heap.size E E E false false none false false 0 0 0 0)
    rw [← hW]
    refine bodyPost_ret (v := .tuple #[.agg zeroMd, .int .i64 0, .int .i64 why]) (by simp [results, Tryz.results12, go_sem, q0, q1, q2, q3, q4, q5, q6, q7, q8, q9, q10, q11]; try rfl) rfl ⟨rfl, hWb⟩
  | ok m n =>
    obtain ⟨kind, a, c, bg, en, ex, al, on, mks, ots, frm, upto⟩ := m
    dsimp only [Rd.val, Md.cells]
    go_wp2
    obtain ⟨W, hW⟩ : ∃ W, W = setMd w2 w.heap.size kind a c bg en ex al on mks ots frm upto := ⟨_, rfl⟩
    have hWb : Below w.heap.size w W := by rw [hW]; exact setMd_below hlow (Nat.le_refl _)
    have hWh := setMd_heap (kind := kind) (a := a) (c := c) (bg := bg) (en := en) (ex := ex) (al := al) (on := on) (mks := mks) (ots := ots) (frm := frm) (upto := upto) HBk.out
    rw [← hW] at hWh
    obtain ⟨⟨q0, q1, q2, q3, q4, q5, q6, q7, q8, q9, q10, q11⟩, _⟩ := mod_cells hWh
    show bodyPost Tryz.prog Tryz.f12 _ Exit.ret _ (setMd w2 w.heap.size kind a c bg en ex al on mks ots frm upto)
    rw [← hW]
    refine bodyPost_ret (v := .tuple #[.agg (mdV kind a c bg en ex al on mks ots frm upto), .int .i64 n, .int .i64 0]) (by simp [results, Tryz.results12, go_sem, q0, q1, q2, q3, q4, q5, q6, q7, q8, q9, q10, q11]; try rfl) rfl ⟨rfl, hWb⟩
open Classical in
noncomputable def plainU (l : List UInt8) : Ru :=
  if ba (untilL 58 l).1 ∈ wordsL then .ok { md := { kind := ba (untilL 58 l).1 } } (untilL 58 l).2.1
  else if (Lib.cut (untilL 58 l).1 [61]).2.2 = true then .ok { md := { kind := ⟨#[61]⟩, a := ba (Lib.cut (untilL 58 l).1 [61]).1, b := ba (Lib.cut (untilL 58 l).1 [61]).2.1 } } (untilL 58 l).2.1 else .bad 12
def Ru.of : Rd → Ru
  | .bad why => .bad why
  | .ok m n => .ok { md := m } n
open Classical in
noncomputable def readU (s : List UInt8) : Ru :=
  if s.head? = some 77 ∨ s.head? = some 78 then .ok { md := { kind := ba (s.take 1), a := ba (untilL 58 (s.drop 1)).1 } } ((untilL 58 (s.drop 1)).2.1 + 1)
  else if s.head? = some 91 then Ru.of (choR s)
  else plainU s
theorem ru_of {r : Rd} {w : World} {e : Ending} {w' : World} (h : e = .returned r.val ∧ Below w.heap.size w w') : RuPost (.of r) w e w' := by
  cases r with
  | bad why => exact ⟨h.2, h.1⟩
  | ok m n => exact ⟨h.2, m, h.1, rfl⟩
theorem ru_of_ok {r : Rd} {u : Um} {n : Nat} (h : Ru.of r = .ok u n) : ∃ m, r = .ok m n ∧ u = { md := m } := by
  cases r with
  | bad w => cases h
  | ok m k => cases h; exact ⟨_, rfl, rfl⟩
theorem head_t {s : ByteArray} {c : UInt8} (h : (bl s).head? = some c) : headIs s c = true := by unfold headIs; simpa using h
theorem head_f {s : ByteArray} {c : UInt8} (h : ¬ (bl s).head? = some c) : headIs s c = false := by unfold headIs; simpa using h
theorem plain_ru {s : ByteArray} {w : World} (hnw : ba (untilL 58 (bl s)).1 ∉ wordsL)
    (h : ∀ (t : ByteArray) (n : Nat) (f : Bool), untilL 58 (bl s) = (bl t, n, f) → t ∉ wordsL → Calls Tryz.prog 12 #[.string s] w fun e w' => e = .returned (if (Lib.cut (bl t) [61]).2.2 = true then (Rd.ok { kind := ⟨#[61]⟩, a := ba (Lib.cut (bl t) [61]).1, b := ba (Lib.cut (bl t) [61]).2.1 } n) else .bad 12).val ∧ Below w.heap.size w w') :
    Calls Tryz.prog 12 #[.string s] w (RuPost (plainU (bl s)) w) := by
  rcases hu : untilL 58 (bl s) with ⟨t, n, f⟩
  rw [hu] at hnw
  refine (h (ba t) n f (by rw [hu, bl_ba]) hnw).mono ?_
  rintro e w' ⟨he, hb⟩
  unfold plainU
  rw [hu, if_neg hnw]
  rw [bl_ba] at he
  dsimp only
  by_cases hc : (Lib.cut t [61]).2.2 = true
  · rw [if_pos hc] at he ⊢
    exact ⟨hb, _, he, rfl⟩
  · rw [if_neg hc] at he ⊢
    exact ⟨hb, he⟩
theorem read_any_ (s : ByteArray) (w : World) (hs : s.size ≤ 1000000) (hn : NoSC (bl s)) (hmx : Mx w) (hE : Ey w) : Calls Tryz.prog 12 #[.string s] w (RuPost (readU (bl s)) w) := by
  by_cases h1 : (bl s).head? = some 77 ∨ (bl s).head? = some 78
  · have hr : readU (bl s) = .ok { md := { kind := ba ((bl s).take 1), a := ba (untilL 58 ((bl s).drop 1)).1 } } ((untilL 58 ((bl s).drop 1)).2.1 + 1) := if_pos h1
    have hx : s.extract 0 1 = ba ((bl s).take 1) := bl_inj (by rw [bl_ba, bl_extract]; rfl)
    rw [hr]
    have fin : ∀ (e : Ending) (w' : World), (e = .returned (.tuple #[.agg (mdV (s.extract 0 1) (ba (untilL 58 (bl (s.extract 1 s.size))).1) E false false none false false 0 0 0 0), .int .i64 ((untilL 58 (bl (s.extract 1 s.size))).2.1 + 1), .int .i64 0]) ∧ Below w.heap.size w w') → RuPost (.ok { md := { kind := ba ((bl s).take 1), a := ba (untilL 58 ((bl s).drop 1)).1 } } ((untilL 58 ((bl s).drop 1)).2.1 + 1)) w e w' := fun e w' h => by
      refine ⟨h.2, _, ?_, rfl⟩
      rw [h.1, hx, bl_rest]; rfl
    rcases h1 with h1 | h1
    · have hk := head_t h1
      exact (read_m s w hs (head_pos hk) hk).mono fin
    · have hk := head_t h1
      exact (read_n s w hs (head_pos hk) hk).mono fin
  · have n77 := head_f fun h => h1 (.inl h)
    have n78 := head_f fun h => h1 (.inr h)
    by_cases h3 : (bl s).head? = some 91
    · have hr : readU (bl s) = Ru.of (choR (bl s)) := by unfold readU; rw [if_neg h1, if_pos h3]
      rw [hr]
      have hk := head_t h3
      exact (read_b s w hs (head_pos hk) hk hmx hE).mono fun e w' h => ru_of h
    · have hr : readU (bl s) = plainU (bl s) := by unfold readU; rw [if_neg h1, if_neg h3]
      rw [hr]
      have hp : Plain s := ⟨n77, n78, head_f hn.head.1, head_f hn.head.2, head_f h3⟩
      by_cases hw : ba (untilL 58 (bl s)).1 ∈ wordsL
      · rcases hu : untilL 58 (bl s) with ⟨t, n, f⟩
        rw [hu] at hw
        refine (read_word s (ba t) n f w hs hp (by rw [hu, bl_ba]) hw).mono ?_
        rintro e w' ⟨he, hb⟩
        unfold plainU
        rw [hu, if_pos hw]
        exact ⟨hb, _, he, rfl⟩
      · exact plain_ru hw fun t n f hu ht => read_eq s t n f w hs hp hu ht hmx
end Go.Proofs.YtpcpcfnmcfjomaaGreatDoor
namespace Go.Proofs.YtpcpcfnmcfjomaaGreatDoor.DQ
open Go.RowKit Go.Shelf
theorem u8_eq_iff (a b : UInt8) : a = b ↔ a.toNat = b.toNat := ⟨fun h => by rw [h], UInt8.toNat_inj.mp⟩
theorem info_of {T : TypeId} {z : Option Value} {n b : Nat} (h : (Tryz.prog.info? T).map (fun i => (i.zero, i.size, i.bytes)) = some (z, n, b)) : ∃ i, Tryz.prog.info? T = some i ∧ i.zero = z ∧ i.size = n ∧ i.bytes = b := by
  cases hi : Tryz.prog.info? T with
  | none => rw [hi] at h; cases h
  | some i => rw [hi] at h; simp at h; exact ⟨i, rfl, h.1, h.2.1, h.2.2⟩
theorem owns_nil (base : Nat) (e : TypeId) (size : Nat) (w : World) : w.ownsRow base e size (.slice none 0 0) 0 [] := World.ownsRow_nil _ _ _ _
theorem bl_app (x y : ByteArray) : bl (x ++ y) = bl x ++ bl y := by simp [bl]
theorem Cd.heap_new (w : World) (o : Obj) : (w.alloc o).heap[w.heap.size]? = some o := by
  show (w.heap.push o)[w.heap.size]? = _
  simp
theorem add_none (b i j : Nat) : (⟨b, i, none⟩ : Addr).add j = ⟨b, i + j, none⟩ := by
  simp [Addr.add]
theorem conv_dig (x : Int) (h0 : 0 ≤ x) (h1 : x ≤ 255) (b : Nat) (w : World) (hblk : w.heap[b]? = some (.cells #[.int .u8 x] 5)) : (convert 25 9 (.slice (some ⟨b, 0, none⟩) 1 1)).run Tryz.prog w = .ok (.string ⟨#[UInt8.ofNat x.toNat]⟩) w := by
  refine run_convert_bytes_back _ 25 9 5 ⟨b, 0, none⟩ 1 [UInt8.ofNat x.toNat] Tryz.underlying25 Tryz.underlying5 Tryz.underlying9 fun i hi => ?_
  have hi3 : i = 0 := by have : i < 1 := hi; omega
  subst hi3
  rw [add_none]
  simp [World.cell?, hblk]
  omega
structure Fo (N : Nat) (first : Bool) (u : Nat) (l : List UInt8) : Prop where
  todo : first = true ∨ 0 < u → Lib.decDigits N = Lib.decDigits u ++ l
  done : ¬ (first = true ∨ 0 < u) → Lib.decDigits N = l
theorem Fo.start (N : Nat) : Fo N true N [] := ⟨fun _ => by simp, fun h => absurd (.inl rfl) h⟩
theorem dec_big {u : Nat} (h : ¬ u < 10) : Lib.decDigits u = Lib.decDigits (u / 10) ++ [UInt8.ofNat (48 + u % 10)] := by
  rw [Lib.decDigits, dif_neg h]
theorem Fo.step {N : Nat} {first : Bool} {u : Nat} {l : List UInt8} (h : Fo N first u l) (hf : first = true ∨ 0 < u) : Fo N false (u / 10) (UInt8.ofNat (48 + u % 10) :: l) := by
  have e := h.todo hf
  refine ⟨fun h1 => ?_, fun h1 => ?_⟩
  · have hu : ¬ u < 10 := by
      rcases h1 with h1 | h1
      · cases h1
      · omega
    rw [e, dec_big hu]
    simp
  · have hu : u < 10 := by
      have : ¬ 0 < u / 10 := fun h2 => h1 (.inr h2)
      omega
    rw [e, Lib.decDigits_one hu, Nat.mod_eq_of_lt hu]
    rfl
theorem Fo.len {N : Nat} {first : Bool} {u : Nat} {l : List UInt8} (h : Fo N first u l) (hN : N < 18446744073709551616) : l.length ≤ 20 := by
  have h2 : (Lib.decDigits N).length ≤ 20 := by rw [Lib.decDigits_length]; exact Lib.nDigits_le20 N hN
  by_cases hf : first = true ∨ 0 < u
  · have := h.todo hf
    rw [this, List.length_append] at h2
    omega
  · have := h.done hf
    rw [← this]; exact h2
def boolN : Value → Nat
  | .bool true => 1
  | _ => 0
def FoAt (N : Nat) (f : Bool) (x : Int) (s : ByteArray) : Prop := ∃ u : Nat, x = (u : Int) ∧ u ≤ 9223372036854775807 ∧ Fo N f u (bl s)
theorem FoAt.step {N : Nat} {f : Bool} {x : Int} {s : ByteArray} (h : FoAt N f x s) (hf : f = true ∨ 0 < x) : FoAt N false (x / 10) ((⟨#[UInt8.ofNat (48 + x % 10).toNat]⟩ : ByteArray) ++ s) := by
  obtain ⟨u, rfl, hu, hF⟩ := h
  refine ⟨u / 10, by omega, by omega, ?_⟩
  rw [bl_app]
  have e : (48 + (u : Int) % 10).toNat = 48 + u % 10 := by omega
  rw [e]
  exact hF.step (hf.imp id (fun h => by omega))
theorem FoAt.lo {N : Nat} {f : Bool} {x : Int} {s : ByteArray} (h : FoAt N f x s) : 0 ≤ x ∧ x ≤ 9223372036854775807 := by
  obtain ⟨u, rfl, hu, _⟩ := h
  omega
theorem FoAt.len {N : Nat} {f : Bool} {x : Int} {s : ByteArray} (h : FoAt N f x s) (hN : N ≤ 9223372036854775807) : s.size ≤ 20 := by
  obtain ⟨u, rfl, hu, hF⟩ := h
  rw [← bl_length]
  exact hF.len (by omega)
theorem FoAt.done {N : Nat} {s : ByteArray} (h : FoAt N false 0 s) : s = ba (Lib.decDigits N) := by
  obtain ⟨u, hu0, hu, hF⟩ := h
  apply bl_inj
  rw [bl_ba, hF.done (by rintro (h | h); cases h; omega)]
set_option maxHeartbeats 1000000 in
set_option maxRecDepth 20000 in
theorem digits_any (n : Nat) (hn : n ≤ 9223372036854775807) (w : World) :
    Calls Tryz.prog 69 #[.int .i64 ((n : Int))] w fun e w' => e = .returned (.string (ba (Lib.decDigits n))) ∧ Below w.heap.size w w' := by
  obtain ⟨a0, ha0⟩ : ∃ a0 : Int, a0 = (n : Int) := ⟨_, rfl⟩
  rw [← ha0]
  have h0 : ¬ a0 < 0 := by omega
  have h00 : 0 ≤ a0 := by omega
  have h1 : a0 ≤ 9223372036854775807 := by omega
  have HS : Hid (FoAt n true a0 ⟨#[]⟩) := ⟨n, by omega, by omega, Fo.start n⟩
  have HN : Hid (n ≤ 9223372036854775807) := by unfold Hid; omega
  clear ha0 hn
  go_enter Tryz.func69, Tryz.ntmps69
  go_wp2
  go_loopw [0, 3, 4] (fun vu vs vf wr => ∃ (x : Int) (s : ByteArray) (f : Bool), vu = .int .i64 x ∧ vs = .string s ∧ vf = .bool f ∧ Hid (FoAt n f x s) ∧ Hid (Below w.heap.size w wr)) (fun vu _ vf _ => 2 * (intOf vu).toNat + boolN vf)
  case atStart => exact ⟨_, _, true, rfl, rfl, rfl, HS, Below.refl _ _⟩
  case round =>
    obtain ⟨x, s, f, rfl, rfl, rfl, HF, HB⟩ := hrel
    obtain ⟨hx0, hx1⟩ := HF.out.lo
    have hsz := HF.out.len HN.out
    clear HS
    have hgo : ∀ (hf : f = true ∨ 0 < x), Hid (FoAt n false (x / 10) ((⟨#[UInt8.ofNat (48 + x % 10).toNat]⟩ : ByteArray) ++ s)) := fun hf => HF.out.step hf
    have hcv := conv_dig (48 + x % 10) (by omega) (by omega) wr.heap.size (wr.alloc (.cells #[.int .u8 (48 + x % 10)] 5)) (Cd.heap_new wr _)
    have HB1 : Hid (Below w.heap.size w (wr.alloc (.cells #[.int .u8 (48 + x % 10)] 5))) := HB.out.alloc HB.out.size _
    have hz : ¬ 9223372036854775807 < (⟨#[UInt8.ofNat (48 + x % 10).toNat]⟩ : ByteArray).size + s.size := by
      have : (⟨#[UInt8.ofNat (48 + x % 10).toNat]⟩ : ByteArray).size = 1 := rfl
      omega
    cases f
    · by_cases h : 0 < x
      · have HG := hgo (.inr h)
        clear hgo HF
        go_wp2
        exact ⟨⟨_, _, false, rfl, rfl, rfl, HG, HB1⟩, by simp [intOf, boolN]; omega⟩
      · obtain rfl : x = 0 := by omega
        have HD : Hid (s = ba (Lib.decDigits n)) := HF.out.done
        clear hgo HF hcv HB1 hz
        go_wp2
        go_ret
        exact ⟨by rw [HD.out]; rfl, HB.out⟩
    · have HG := hgo (.inl rfl)
      clear hgo HF
      go_wp2
      exact ⟨⟨_, _, false, rfl, rfl, rfl, HG, HB1⟩, by simp [intOf, boolN]; omega⟩
def nthI (n : Int) (m : Nat) : Int := if n < 0 then m + n + 1 else n
set_option maxRecDepth 20000 in
set_option maxHeartbeats 800000 in
theorem nth_any (n : Int) (m : Nat) (w : World) (h1 : -10000000 ≤ n) (h2 : n ≤ 10000000) (hm : m ≤ 1000000) :
    Calls Tryz.prog 70 #[.int .i64 n, .int .i64 m] w fun e w' => e = .returned (.tuple #[.int .i64 (nthI n m - 1), .bool (decide (1 ≤ nthI n m ∧ nthI n m ≤ m))]) ∧ w = w' := by
  unfold nthI
  by_cases hn : n < 0
  · rw [if_pos hn]
    have hlo : -10000000 ≤ (m : Int) + n := by omega
    have hhi : (m : Int) + n ≤ 2000000 := by omega
    by_cases a1 : 1 ≤ (m : Int) + n + 1
    · by_cases a2 : (m : Int) + n + 1 ≤ (m : Int)
      · rw [decide_eq_true ⟨a1, a2⟩]
        go_enter Tryz.func70, Tryz.ntmps70
        go_wp2
        go_ret2
        exact ⟨by first | rfl | (rw [show (m : Int) + n + 1 - 1 = (m : Int) + n by omega]; rfl), rfl⟩
      · rw [decide_eq_false (fun h => a2 h.2)]
        go_enter Tryz.func70, Tryz.ntmps70
        go_wp2
        go_ret2
        exact ⟨by first | rfl | (rw [show (m : Int) + n + 1 - 1 = (m : Int) + n by omega]; rfl), rfl⟩
    · rw [decide_eq_false (fun h => a1 h.1)]
      go_enter Tryz.func70, Tryz.ntmps70
      go_wp2
      go_ret2
      exact ⟨by first | rfl | (rw [show (m : Int) + n + 1 - 1 = (m : Int) + n by omega]; rfl), rfl⟩
  · rw [if_neg hn]
    by_cases a1 : 1 ≤ n
    · by_cases a2 : n ≤ (m : Int)
      · rw [decide_eq_true ⟨a1, a2⟩]
        go_enter Tryz.func70, Tryz.ntmps70
        go_wp2
        go_ret2
        exact ⟨rfl, rfl⟩
      · rw [decide_eq_false (fun h => a2 h.2)]
        go_enter Tryz.func70, Tryz.ntmps70
        go_wp2
        go_ret2
        exact ⟨rfl, rfl⟩
    · rw [decide_eq_false (fun h => a1 h.1)]
      go_enter Tryz.func70, Tryz.ntmps70
      go_wp2
      go_ret2
      exact ⟨rfl, rfl⟩
end Go.Proofs.YtpcpcfnmcfjomaaGreatDoor.DQ
namespace Go.Proofs.YtpcpcfnmcfjomaaGreatDoor.DQ
open Go.RowKit Go.Shelf
theorem info5 : (Tryz.prog.info? 5).map (fun i => (i.zero, i.size, i.bytes)) = some (some (.int .u8 0), 1, 1) := by kernel_rfl
theorem run_conv {w : World} {base : Nat} {v : Value} {l : List UInt8} (h : w.ownsRow base 5 1 v l.length (Lib.byteCells l)) : (convert 25 9 v).run Tryz.prog w = .ok (.string (ba l)) w := by
  obtain ⟨hxl, ⟨hv, hn0⟩ | ⟨g, cap, cur, hv, hg, hcur, hcap, hcm, hcs, hct⟩⟩ := h
  · have hqn : l = [] := List.length_eq_zero_iff.mp hn0
    rw [hv, hqn]
    exact Lib.run_convert_nil_bytes w 25 9 5 0 Tryz.underlying25 Tryz.underlying5 Tryz.underlying9
  · rw [hv]
    refine run_convert_bytes_back w 25 9 5 ⟨g, 0, none⟩ cap l Tryz.underlying25 Tryz.underlying5 Tryz.underlying9 ?_
    intro j hj
    have hjc : cur.toList[j]? = some (.int .u8 (l[j].toNat : Int)) := by
      have h2 : (cur.toList.take (l.length * 1))[j]? = (Lib.byteCells l)[j]? := by rw [hct]
      rw [List.getElem?_take_of_lt (by omega)] at h2
      rw [h2]; simp [Lib.byteCells, List.getElem?_map, List.getElem?_eq_getElem hj]
    have hc : w.cell? ⟨g, j, none⟩ = some (.int .u8 (l[j].toNat : Int)) := by
      simp only [World.cell?, hcur]
      simpa using hjc
    simp only [Addr.add]
    split
    · rename_i h0; subst h0; exact hc
    · simpa using hc
theorem bytes_slice {base : Nat} {w : World} {v : Value} {n : Nat} {xs : List Value} (h : w.ownsRow base 5 1 v n xs) : ∃ a cap, v = .slice a n cap := by
  rcases h.2 with ⟨rfl, rfl⟩ | ⟨g, cap, cur, rfl, _⟩
  · exact ⟨_, _, rfl⟩
  · exact ⟨_, _, rfl⟩
def plainV (s : ByteArray) : Value := .tuple #[.string (ba (untilL 58 (bl s)).1), .int .i64 (untilL 58 (bl s)).2.1]
set_option maxRecDepth 20000 in
set_option maxHeartbeats 1600000 in
theorem plain_any (s : ByteArray) (w : World) (hs : s.size ≤ 1000000) :
    Calls Tryz.prog 27 #[.string s] w fun x w' => x = .returned (plainV s) ∧ Below w.heap.size w w' := by
  obtain ⟨i0, hi, hz0, hz1, hz2⟩ := info_of info5
  unfold plainV
  go_enter Tryz.func27, Tryz.ntmps27
  go_wp2
  go_loopw [4, 5] (fun v vi wr => ∃ (k : Nat) (acc : List UInt8), k ≤ s.size ∧ acc.length ≤ k ∧ vi = .int .i64 k ∧ wr.ownsRow w.heap.size 5 1 v acc.length (Lib.byteCells acc) ∧ Hid (untilL 58 (bl s) = (acc ++ (untilL 58 ((bl s).drop k)).1, k + (untilL 58 ((bl s).drop k)).2.1, (untilL 58 ((bl s).drop k)).2.2)) ∧ Below w.heap.size w wr)
    (fun _ vi _ => s.size - (intOf vi).toNat)
  case atStart => exact ⟨0, [], Nat.zero_le _, Nat.le_refl _, rfl, owns_nil _ _ _ _, by unfold Hid; simp, Below.refl _ _⟩
  case round =>
    obtain ⟨k, acc, hk, hacc, rfl, hown, HU, hb⟩ := hrel
    have hbs := hb.size
    by_cases hlt : k < s.size
    · have hil : (k : Int) < (s.size : Int) := by omega
      have hd := drop_bl s k hlt
      obtain ⟨c, hc⟩ : ∃ c, c = s[k] := ⟨_, rfl⟩
      obtain ⟨cn, hcn⟩ : ∃ cn : Int, cn = (s[k].toNat : Int) := ⟨_, rfl⟩
      have hgk : (s[k].toNat : Int) = cn := hcn.symm
      rw [← hc] at hd
      have HCC : Hid (cn = (c.toNat : Int)) := by rw [hcn, hc]; rfl
      clear hcn hc
      by_cases h58 : c = 58
      · have e1 : cn = 58 := by rw [HCC.out, h58]; rfl
        have HV : Hid (untilL 58 (bl s) = (acc, k, true)) := by
          refine HU.out.trans ?_; rw [hd, until_end (fun x => absurd (h58.symm.trans x.1) (by decide)) h58]; exact trip (List.append_nil _) rfl
        have hcv := run_conv hown
        obtain ⟨a4, c4, rfl⟩ := bytes_slice hown
        clear HU hd
        go_wp2
        go_ret2
        exact ⟨by rw [HV.out]; rfl, hb⟩
      · have e1 : ¬ cn = 58 := by rw [HCC.out]; intro h; exact h58 ((u8_eq_iff _ _).2 (by have : (58 : UInt8).toNat = 58 := rfl; omega))
        have HW : Hid (¬ c = 58) := h58
        by_cases h92 : c = 92
        · have t1 : (cn == 92) = true := by rw [HCC.out, h92]; rfl
          by_cases hk1 : k + 1 < s.size
          · have hi1 : (k : Int) + 1 < (s.size : Int) := by omega
            have hd1 := drop_bl s (k + 1) hk1
            obtain ⟨d, hde⟩ : ∃ d, d = s[k + 1] := ⟨_, rfl⟩
            obtain ⟨dn, hdn⟩ : ∃ dn : Int, dn = (s[k + 1].toNat : Int) := ⟨_, rfl⟩
            have hgk1 : (s[k + 1].toNat : Int) = dn := hdn.symm
            rw [← hde] at hd1
            have HDD : Hid (dn = (d.toNat : Int)) := by rw [hdn, hde]; rfl
            clear hdn hde
            have hto : ((k : Int) + 1).toNat = k + 1 := by omega
            by_cases hde2 : d = 58
            · have t2 : (dn == 58) = true := by rw [HDD.out, hde2]; rfl
              have HV : Hid (untilL 58 (bl s) = ((acc ++ [58]) ++ (untilL 58 ((bl s).drop (k + 2))).1, (k + 2) + (untilL 58 ((bl s).drop (k + 2))).2.1, (untilL 58 ((bl s).drop (k + 2))).2.2)) := by
                refine HU.out.trans ?_
                rw [hd, hd1, until_two h92 hde2]
                exact trip (by rw [List.append_assoc]; rfl) (by show k + ((untilL 58 ((bl s).drop (k + 2))).2.1 + 2) = _; omega)
              have HBy : Hid (Lib.byteCells (acc ++ [58]) = Lib.byteCells acc ++ [.int .u8 dn]) := by
                unfold Hid; rw [HDD.out, hde2]; simp [Lib.byteCells]
              clear HU hd hd1
              have HC1 : Hid (∀ (j : Nat) (u : Value), [Value.int .u8 dn][j]? = some u → (wr.alloc (.cells #[.int .u8 dn] 5)).cell? ((⟨wr.heap.size, 0, none⟩ : Addr).add j) = some u) := World.news_of_block (Cd.heap_new _ _)
              go_wp2_with (at_builtin; refine wpList_append_own _ rfl _ _ 25 rfl w.heap.size 5 i0 (.int .u8 0) 1 1 Tryz.underlying25 hi hz0 hz1 hz2 rfl (by decide) _ _ _ rfl (hown.alloc _) ⟨wr.heap.size, 0, none⟩ 1 1 [.int .u8 dn] rfl rfl HC1.out (by intro u hu; simp at hu; subst hu; rfl) (by unfold maxLen; omega) (by omega) (by simp; omega) ?_)
              intro v' w1 hown' hgrow _
              have H1 : Hid (w1.ownsRow w.heap.size 5 1 v' (acc ++ [58]).length (Lib.byteCells (acc ++ [58])) ∧ Below w.heap.size w w1) := by
                refine ⟨?_, (hb.alloc hbs _).grown hgrow (by simp; omega) (fun k hk => (hown.lt k hk).1)⟩
                rw [HBy.out, List.length_append]; exact hown'
              clear hown' hgrow hown hb
              go_wp2
              go_roundw
              case rel => exact ⟨k + 2, acc ++ [58], by omega, by simp; omega, by go_num, H1.out.1, HV, H1.out.2⟩
              case measure => simp [intOf]; omega
            · have t2 : (dn == 58) = false := by rw [HDD.out]; rw [← Bool.not_eq_true, beq_iff_eq]; intro e1; apply hde2; rw [u8_eq_iff]; have : (58 : UInt8).toNat = 58 := rfl; omega
              have HV : Hid (untilL 58 (bl s) = ((acc ++ [c]) ++ (untilL 58 ((bl s).drop (k + 1))).1, (k + 1) + (untilL 58 ((bl s).drop (k + 1))).2.1, (untilL 58 ((bl s).drop (k + 1))).2.2)) := by
                refine HU.out.trans ?_
                rw [hd, until_go (fun x => hde2 (by have := x.2; rw [hd1] at this; simpa using this)) HW.out]
                exact trip (by rw [List.append_assoc]; rfl) (by show k + ((untilL 58 ((bl s).drop (k + 1))).2.1 + 1) = _; omega)
              have HBy : Hid (Lib.byteCells (acc ++ [c]) = Lib.byteCells acc ++ [.int .u8 cn]) := by
                unfold Hid; rw [HCC.out]; simp [Lib.byteCells]
              clear HU hd hd1
              have HC1 : Hid (∀ (j : Nat) (u : Value), [Value.int .u8 cn][j]? = some u → (wr.alloc (.cells #[.int .u8 cn] 5)).cell? ((⟨wr.heap.size, 0, none⟩ : Addr).add j) = some u) := World.news_of_block (Cd.heap_new _ _)
              go_wp2_with (at_builtin; refine wpList_append_own _ rfl _ _ 25 rfl w.heap.size 5 i0 (.int .u8 0) 1 1 Tryz.underlying25 hi hz0 hz1 hz2 rfl (by decide) _ _ _ rfl (hown.alloc _) ⟨wr.heap.size, 0, none⟩ 1 1 [.int .u8 cn] rfl rfl HC1.out (by intro u hu; simp at hu; subst hu; rfl) (by unfold maxLen; omega) (by omega) (by simp; omega) ?_)
              intro v' w1 hown' hgrow _
              have H1 : Hid (w1.ownsRow w.heap.size 5 1 v' (acc ++ [c]).length (Lib.byteCells (acc ++ [c])) ∧ Below w.heap.size w w1) := by
                refine ⟨?_, (hb.alloc hbs _).grown hgrow (by simp; omega) (fun k hk => (hown.lt k hk).1)⟩
                rw [HBy.out, List.length_append]; exact hown'
              clear hown' hgrow hown hb
              go_wp2
              go_roundw
              case rel => exact ⟨k + 1, acc ++ [c], by omega, by simp; omega, by go_num, H1.out.1, HV, H1.out.2⟩
              case measure => simp [intOf]; omega
          · have hi1 : ¬ (k : Int) + 1 < (s.size : Int) := by omega
            have HV : Hid (untilL 58 (bl s) = ((acc ++ [c]) ++ (untilL 58 ((bl s).drop (k + 1))).1, (k + 1) + (untilL 58 ((bl s).drop (k + 1))).2.1, (untilL 58 ((bl s).drop (k + 1))).2.2)) := by
              refine HU.out.trans ?_
              have hn : (bl s).drop (k + 1) = [] := List.drop_of_length_le (by rw [bl_length]; omega)
              rw [hd, until_go (fun x => by have := x.2; rw [hn] at this; cases this) HW.out]
              exact trip (by rw [List.append_assoc]; rfl) (by show k + ((untilL 58 ((bl s).drop (k + 1))).2.1 + 1) = _; omega)
            have HBy : Hid (Lib.byteCells (acc ++ [c]) = Lib.byteCells acc ++ [.int .u8 cn]) := by
              unfold Hid; rw [HCC.out]; simp [Lib.byteCells]
            clear HU hd
            have HC1 : Hid (∀ (j : Nat) (u : Value), [Value.int .u8 cn][j]? = some u → (wr.alloc (.cells #[.int .u8 cn] 5)).cell? ((⟨wr.heap.size, 0, none⟩ : Addr).add j) = some u) := World.news_of_block (Cd.heap_new _ _)
            go_wp2_with (at_builtin; refine wpList_append_own _ rfl _ _ 25 rfl w.heap.size 5 i0 (.int .u8 0) 1 1 Tryz.underlying25 hi hz0 hz1 hz2 rfl (by decide) _ _ _ rfl (hown.alloc _) ⟨wr.heap.size, 0, none⟩ 1 1 [.int .u8 cn] rfl rfl HC1.out (by intro u hu; simp at hu; subst hu; rfl) (by unfold maxLen; omega) (by omega) (by simp; omega) ?_)
            intro v' w1 hown' hgrow _
            have H1 : Hid (w1.ownsRow w.heap.size 5 1 v' (acc ++ [c]).length (Lib.byteCells (acc ++ [c])) ∧ Below w.heap.size w w1) := by
              refine ⟨?_, (hb.alloc hbs _).grown hgrow (by simp; omega) (fun k hk => (hown.lt k hk).1)⟩
              rw [HBy.out, List.length_append]; exact hown'
            clear hown' hgrow hown hb
            go_wp2
            go_roundw
            case rel => exact ⟨k + 1, acc ++ [c], by omega, by simp; omega, by go_num, H1.out.1, HV, H1.out.2⟩
            case measure => simp [intOf]; omega
        · have t1 : (cn == 92) = false := by rw [HCC.out]; rw [← Bool.not_eq_true, beq_iff_eq]; intro e1; apply h92; rw [u8_eq_iff]; have : (92 : UInt8).toNat = 92 := rfl; omega
          have HV : Hid (untilL 58 (bl s) = ((acc ++ [c]) ++ (untilL 58 ((bl s).drop (k + 1))).1, (k + 1) + (untilL 58 ((bl s).drop (k + 1))).2.1, (untilL 58 ((bl s).drop (k + 1))).2.2)) := by
            refine HU.out.trans ?_
            rw [hd, until_go (fun x => h92 x.1) HW.out]
            exact trip (by rw [List.append_assoc]; rfl) (by show k + ((untilL 58 ((bl s).drop (k + 1))).2.1 + 1) = _; omega)
          have HBy : Hid (Lib.byteCells (acc ++ [c]) = Lib.byteCells acc ++ [.int .u8 cn]) := by
            unfold Hid; rw [HCC.out]; simp [Lib.byteCells]
          clear HU hd
          have HC1 : Hid (∀ (j : Nat) (u : Value), [Value.int .u8 cn][j]? = some u → (wr.alloc (.cells #[.int .u8 cn] 5)).cell? ((⟨wr.heap.size, 0, none⟩ : Addr).add j) = some u) := World.news_of_block (Cd.heap_new _ _)
          go_wp2_with (at_builtin; refine wpList_append_own _ rfl _ _ 25 rfl w.heap.size 5 i0 (.int .u8 0) 1 1 Tryz.underlying25 hi hz0 hz1 hz2 rfl (by decide) _ _ _ rfl (hown.alloc _) ⟨wr.heap.size, 0, none⟩ 1 1 [.int .u8 cn] rfl rfl HC1.out (by intro u hu; simp at hu; subst hu; rfl) (by unfold maxLen; omega) (by omega) (by simp; omega) ?_)
          intro v' w1 hown' hgrow _
          have H1 : Hid (w1.ownsRow w.heap.size 5 1 v' (acc ++ [c]).length (Lib.byteCells (acc ++ [c])) ∧ Below w.heap.size w w1) := by
            refine ⟨?_, (hb.alloc hbs _).grown hgrow (by simp; omega) (fun k hk => (hown.lt k hk).1)⟩
            rw [HBy.out, List.length_append]; exact hown'
          clear hown' hgrow hown hb
          go_wp2
          go_roundw
          case rel => exact ⟨k + 1, acc ++ [c], by omega, by simp; omega, by go_num, H1.out.1, HV, H1.out.2⟩
          case measure => simp [intOf]; omega
    · obtain rfl : k = s.size := by omega
      have HV : Hid (untilL 58 (bl s) = (acc, s.size, false)) := by
        refine HU.out.trans ?_; rw [drop_all]; exact trip (List.append_nil _) rfl
      have hcv := run_conv hown
      obtain ⟨a4, c4, rfl⟩ := bytes_slice hown
      clear HU
      go_wp2
      go_ret2
      exact ⟨by rw [HV.out]; rfl, hb⟩
end Go.Proofs.YtpcpcfnmcfjomaaGreatDoor.DQ
