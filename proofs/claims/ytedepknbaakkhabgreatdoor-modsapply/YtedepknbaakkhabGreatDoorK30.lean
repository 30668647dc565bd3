/-
  PRepl
-/
import Derived.Test.YtedepknbaakkhabGreatDoorK29
set_option maxRecDepth 20000
namespace Go.Proofs.YtedepknbaakkhabGreatDoor.X
open Go.RowKit Go.Shelf RxSem
theorem owns_kept {w w' : World} {base bb n k : Nat} {v : Value} {T T2 : TypeId} {xs : List Value} {cc : Array Value} (h : w.ownsRow base T k v n xs) (ho : Lib.OthersKept 5 (some bb) w w') (hT : T ≠ 5) (hbb : w.heap[bb]? = some (.cells cc T2 (0, 0))) (hT2 : T ≠ T2) : w'.ownsRow base T k v n xs := by
  refine ⟨h.1, ?_⟩
  rcases h.2 with hh | ⟨g, cap, cur, rfl, h1, h2, h3⟩
  · exact .inl hh
  · refine .inr ⟨g, cap, cur, rfl, h1, ho g _ h2 (fun e => ?_) (fun c fz e => ?_), h3⟩
    · cases e
      rw [hbb] at h2
      simp at h2
      exact hT2 h2.2.symm
    · simp at e
      exact hT e.2.1
theorem Made.cells {b : Nat} {t : ByteArray} {k : List Nd} {w : World} (h : Made b t k w) : ∃ c, w.heap[b]? = some (.cells c 113 (0, 0)) := by
  cases h with
  | fresh v base L hb => exact ⟨_, hb⟩
  | found gs cap SL h => exact ⟨_, h.blk⟩
theorem Made.others {b bb : Nat} {t : ByteArray} {k : List Nd} {w w' : World} {cc : Array Value} (h : Made b t k w) (ho : Lib.OthersKept 5 (some bb) w w') (hbb : w.heap[bb]? = some (.cells cc 57 (0, 0))) : Made b t k w' := by
  have hn : ∀ (j : Nat) (c : Array Value) (T : TypeId), w.heap[j]? = some (.cells c T (0, 0)) → T ≠ 5 → T ≠ 57 → w'.heap[j]? = some (.cells c T (0, 0)) := fun j c T hj h5 hT => ho j _ hj (fun e => by
      cases e
      rw [hbb] at hj
      simp at hj
      exact hT hj.2.symm) (fun c fz e => by simp at e; exact h5 e.2.1)
  cases h with
  | fresh v base L hb hr hok hsp hL => exact .fresh v base L (hn _ _ _ hb (by decide) (by decide)) (owns_kept hr ho (by decide) hbb (by decide)) hok hsp hL
  | found gs cap SL h =>
    obtain ⟨cur, h2, h3⟩ := h.stp
    exact .found gs cap SL ⟨hn _ _ _ h.blk (by decide) (by decide), ⟨cur, hn _ _ _ h2 (by decide) (by decide), h3⟩, h.abs, h.oks, h.few⟩
theorem putL_len (s y : List UInt8) : ∀ (l : List (Nat × Nat)) (f : Nat), Chain s.length f l → (putL s y f l).length ≤ (s.length - f) + y.length * ((s.length - f) + l.length)
  | [], f, _ => by simp [putL]
  | m :: r, f, h => by
    have h1 := putL_len s y r m.2 h.2.2
    have h2 := fillL_len ((s.drop m.1).take (m.2 - m.1)) y
    have h3 := h.2.2.le
    have h4 := h.1
    have h5 := h.2.1
    have h6 : ((s.drop m.1).take (m.2 - m.1)).length = m.2 - m.1 := by rw [List.length_take, List.length_drop]; omega
    rw [h6] at h2
    have h7 : ((s.drop f).take (m.1 - f)).length = m.1 - f := by rw [List.length_take, List.length_drop]; omega
    simp only [putL, List.length_append, h7, List.length_cons]
    have h8 : y.length * ((s.length - f) + (r.length + 1)) = y.length * (m.1 - f) + y.length * (m.2 - m.1 + 1) + y.length * ((s.length - m.2) + r.length) := by
      rw [← Nat.mul_add, ← Nat.mul_add]
      congr 1
      omega
    rw [h8]
    omega
structure PI (B : Nat) (s y : ByteArray) (C : List (Nat × Nat)) (w1 : World) (j f : Nat) (o : List UInt8) (wr : World) : Prop where
  ib : Lib.IsBuilderF 57 5 B B (Lib.byteCells o) wr
  bel : Below B w1 wr
  oth : Lib.OthersKept 5 (some B) w1 wr
  ch : Chain s.size f (C.drop j)
  eq : putL (bl s) (bl y) 0 C = o ++ putL (bl s) (bl y) f (C.drop j)
theorem bcell {T e : TypeId} {B b : Nat} {bs : List Value} {w : World} (h : Lib.IsBuilderF T e B b bs w) : ∃ cc, w.heap[b]? = some (.cells cc T (0, 0)) := by
  rcases h with ⟨_, v, h, _⟩ | ⟨_, v, h, _⟩
  · exact ⟨_, h⟩
  · exact ⟨_, h⟩
theorem ibf_below {T e : TypeId} {B b : Nat} {bs : List Value} {W W' : World} (h : Lib.IsBuilderF T e B b bs W) (hb : Below W.heap.size W W') : Lib.IsBuilderF T e B b bs W' := by
  rcases h with h | h
  · have hlt := h.lt
    obtain ⟨hB, v, hv, hown, hne⟩ := h
    exact .inl ⟨hB, v, (hb.block b hlt).trans hv, hown.kept (row := none) ⟨hb.os, hb.tape, hb.output, hb.size, fun k hk _ => hb.block k hk⟩ (Classical.em _), hne⟩
  · have hlt := h.lt
    obtain ⟨hB, v, hv, hown, hne⟩ := h
    exact .inr ⟨hB, v, (hb.block b hlt).trans hv, hown.kept (row := none) ⟨hb.os, hb.tape, hb.output, hb.size, fun k hk _ => hb.block k hk⟩ (Classical.em _), hne⟩
theorem oth_below {e : TypeId} {b : Option Nat} {W W' : World} (hb : Below W.heap.size W W') : Lib.OthersKept e b W W' := fun k _ h _ _ => (hb.block k (Array.getElem?_eq_some_iff.1 h).1).trans h
theorem span_get (C : List (Nat × Nat)) (j : Nat) (hj : j < C.length) : (C.flatMap spanC)[j * 2]? = some (.int .i64 (C[j].1 : Int)) ∧ (C.flatMap spanC)[j * 2 + 1]? = some (.int .i64 (C[j].2 : Int)) := by
  have h1 := flat_get spanC 2 (fun _ => rfl) C j 0 hj (by omega)
  have h2 := flat_get spanC 2 (fun _ => rfl) C j 1 hj (by omega)
  rw [Nat.mul_comm 2 j] at h1 h2
  exact ⟨h1, h2⟩
set_option maxHeartbeats 600000 in
theorem replace_any (hst : StepsC) (b : Nat) (t s y : ByteArray) (k : List Nd) (al : Bool) (w : World) (h : Made b t k w) (hs : s.size ≤ 90000) (hy : y.size ≤ 1000) : Calls Tryz.prog 62 #[.pointer (some ⟨b, 0, none⟩), .string s, .string y, .bool al] w fun e w' => ∃ K, e = .returned (.string ⟨(putL (bl s) (bl y) 0 (chosenOf al K)).toArray⟩) ∧ LM (bl s) (.alt k) 0 K ∧ Made b t k w' ∧ Wrote b w w' := by
  obtain ⟨B, hB⟩ : ∃ B, B = w.heap.size := ⟨_, rfl⟩
  obtain ⟨w0, hw0, hB0, hS0, hk0⟩ := one_box w (.cells #[.pointer none, .slice none 0 0] 57)
  have HR : Hid (Calls Tryz.prog 96 #[.pointer (some ⟨b, 0, none⟩), .string s, .bool al] w0 (RepPost b t s k al w0)) := replaced_any hst b t s k al w0 (h.below hB0) hs
  have hbl := h.lt
  have HWS : Hid (∀ (o : List UInt8) (u : ByteArray) (W : World), Lib.IsBuilderF 57 5 B B (Lib.byteCells o) W → o.length ≤ 200000000 → u.size ≤ 90000 → B ≤ W.heap.size → Calls Tryz.prog 94 #[.pointer (some ⟨B, 0, none⟩), .string u] W fun e w' => e = .returned (.tuple #[.int .i64 u.size, .nilIface]) ∧ Lib.IsBuilderF 57 5 B B (Lib.byteCells (o ++ bl u)) w' ∧ Below B W w' ∧ Lib.OthersKept 5 (some B) W w') := fun o u W h1 h2 h4 h3 =>
    (Tryz.Builder_WriteString_k B B (Lib.byteCells o) u W h1 (by rw [Lib.byteCells_length]; omega) h3).mono fun e w' h => ⟨h.1, .inr (by rw [Lib.byteCells_append, ← show Lib.strCells u = Lib.byteCells (bl u) from rfl]; exact h.2.1), h.2.2⟩
  have HFI : Hid (∀ (o : List UInt8) (m : ByteArray) (W : World), Lib.IsBuilderF 57 5 B B (Lib.byteCells o) W → o.length ≤ 300000000 → m.size ≤ 90000 → B ≤ W.heap.size → Calls Tryz.prog 97 #[.pointer (some ⟨B, 0, none⟩), .string y, .string m] W fun e w' => e = .returned (.tuple #[]) ∧ Lib.IsBuilderF 57 5 B B (Lib.byteCells (o ++ fillL (bl m) (bl y))) w' ∧ Below B W w' ∧ Lib.OthersKept 5 (some B) W w') := fun o m W h1 h2 h4 h3 => fill_any B B o y m W h1 (by omega) hy (by omega) h3
  have HST : Hid (∀ (o : List UInt8) (W : World), Lib.IsBuilderF 57 5 B B (Lib.byteCells o) W → B ≤ W.heap.size → Calls Tryz.prog 23 #[.pointer (some ⟨B, 0, none⟩)] W fun e w' => e = .returned (.string ⟨o.toArray⟩) ∧ Lib.IsBuilderF 57 5 B B (Lib.byteCells o) w' ∧ Below B W w' ∧ Lib.OthersKept 5 (some B) W w') := fun o W h1 h2 => Tryz.Builder_String_any_k B B o W h1 h2
  have HW : Hid (B = w.heap.size ∧ Below w.heap.size w w0 ∧ w0.heap.size = w.heap.size + 1 ∧ w0.heap[B]? = some (.cells #[.pointer none, .slice none 0 0] 57 (0, 0)) ∧ b < B) := ⟨hB, hB0, hS0, by rw [hB]; exact hk0, by omega⟩
  rw [← hB] at hk0
  clear h hB0 hS0 hk0 hst hbl
  go_enter Tryz.func62, Tryz.ntmps62
  go_wp2_with fail
  rw [← hw0]
  rw [← hB]
  clear hw0 hB
  refine HR.out.mono ?_
  clear HR
  rintro e w1 ⟨K, v, rfl, hLM, hrow, hmade, hwr⟩
  obtain ⟨C, hC⟩ : ∃ C, C = chosenOf al K := ⟨_, rfl⟩
  rw [← hC] at hrow
  have hch : Chain s.size 0 C := by rw [hC, ← bl_length]; exact chosen_chain hLM
  have hCl : C.length ≤ 90001 := by
    have h1 := lm_len hLM
    rw [bl_length] at h1
    have h2 : C.length ≤ K.length := by
      rw [hC]; unfold chosenOf; split
      · exact chs_len K
      · simp; omega
    omega
  have hb1 : w1.heap[B]? = some (.cells #[.pointer none, .slice none 0 0] 57 (0, 0)) := by
    obtain ⟨g1, g2, g3, g4, g5⟩ := HW.out
    rw [hwr.block B (by omega) (by omega)]; exact g4
  have HI0 : Hid (PI B s y C w1 0 0 [] w1) := ⟨.inl ⟨Nat.le_refl _, .slice none 0 0, hb1, World.ownsRowF_of (World.ownsRow_nil _ _ _ _), by simp [Value.ownBlock]⟩, Below.refl _ _, Lib.OthersKept.refl _ _ _, by simpa using hch, by simp⟩
  have HL : Hid ((putL (bl s) (bl y) 0 C).length ≤ 180200000) := by
    have h1 := putL_len (bl s) (bl y) C 0 (by rw [bl_length]; exact hch)
    rw [bl_length, bl_length] at h1
    have h2 : y.size * (s.size - 0 + C.length) ≤ 1000 * 180001 := Nat.mul_le_mul hy (by omega)
    show _ ≤ _
    omega
  have hBw1 : B ≤ w1.heap.size := by have := hwr.size; have := HW.out.2.2.1; have := HW.out.1; omega
  obtain ⟨n, hn⟩ : ∃ n, n = C.length := ⟨_, rfl⟩
  rw [← hn] at hrow
  obtain ⟨a1, c1, hv1⟩ := row_slice hrow
  subst hv1
  have HK : Hid (LM (bl s) (.alt k) 0 K ∧ C = chosenOf al K ∧ Made b t k w1 ∧ Wrote b w0 w1 ∧ n = C.length ∧ w1.ownsRow w0.heap.size 127 2 (.slice a1 n c1) n (C.flatMap spanC) ∧ w1.heap[B]? = some (.cells #[.pointer none, .slice none 0 0] 57 (0, 0))) := ⟨hLM, hC, hmade, hwr, hn, hrow, hb1⟩
  have hn2 : n ≤ 90001 := by omega
  clear hLM hC hmade hwr hrow hb1 hch hCl hn
  go_wp2_with fail
  go_loopw [10, 18] (fun vt vi wr => ∃ (j f : Nat) (o : List UInt8), j ≤ n ∧ f ≤ s.size ∧ vt = .int .i64 (f : Int) ∧ vi = .int .i64 (j : Int) ∧ Hid (PI B s y C w1 j f o wr)) (fun _ vi _ => n - (intOf vi).toNat)
  case atStart => exact ⟨0, 0, [], Nat.zero_le _, Nat.zero_le _, rfl, rfl, HI0.out⟩
  case round =>
    clear HI0
    obtain ⟨j, f, o, hj, hfs, rfl, rfl, HI⟩ := hrel
    have hol : o.length ≤ 180200000 := by
      have h1 := congrArg List.length HI.out.eq
      have h2 := HL.out
      simp only [List.length_append] at h1
      omega
    have hsz : B ≤ wr.heap.size := Nat.le_trans hBw1 HI.out.bel.size
    by_cases hlt : j < n
    · have hl2 : (j : Int) < (n : Int) := by omega
      have hjC : j < C.length := by rw [← HK.out.2.2.2.2.1]; exact hlt
      obtain ⟨cc, hcc⟩ := bcell HI.out.ib
      have hrow : wr.ownsRow w0.heap.size 127 2 (.slice a1 n c1) n (C.flatMap spanC) := owns_kept HK.out.2.2.2.2.2.1 HI.out.oth (by decide) HK.out.2.2.2.2.2.2 (by decide)
      obtain ⟨g, hg⟩ : ∃ g, a1 = some ⟨g, 0, none⟩ := by
        rcases hrow.2 with ⟨h1, h2⟩ | ⟨g, cap', cur, h1, _⟩
        · omega
        · simp at h1; exact ⟨g, h1.1⟩
      subst hg
      obtain ⟨bg, en, hCj⟩ : ∃ bg en, C[j] = (bg, en) := ⟨_, _, rfl⟩
      have hdr : C.drop j = (bg, en) :: C.drop (j + 1) := by rw [List.drop_eq_getElem_cons hjC, hCj]
      have hch := HI.out.ch
      rw [hdr] at hch
      have hq1 : f ≤ bg := hch.1
      have hq2 : bg ≤ en := hch.2.1
      have hq3 : en ≤ s.size := hch.2.2.le
      have hgt := span_get C j hjC
      rw [hCj] at hgt
      have e0 : wr.cell? ⟨g, j * 2, none⟩ = some (.int .i64 (bg : Int)) := row_cell hrow _ _ hgt.1
      have e1 : wr.cell? ⟨g, j * 2 + 1, none⟩ = some (.int .i64 (en : Int)) := row_cell hrow _ _ hgt.2
      obtain ⟨wa, hwa, hBa, hSa, hka⟩ := one_box wr (.cells #[.int .i64 (bg : Int), .int .i64 (en : Int)] 127)
      have v0 : wa.cell? ⟨wr.heap.size, 0, none⟩ = some (.int .i64 (bg : Int)) := by simp only [World.cell?, hka]; rfl
      have v1 : wa.cell? ⟨wr.heap.size, 1, none⟩ = some (.int .i64 (en : Int)) := by simp only [World.cell?, hka]; rfl
      have i1 : (f : Int) ≤ (bg : Int) := by omega
      have i2 : (bg : Int) ≤ (en : Int) := by omega
      have i3 : (en : Int) ≤ (s.size : Int) := by omega
      have i4 : (bg : Int) ≤ (s.size : Int) := by omega
      have HD : Hid (C.drop j = (bg, en) :: C.drop (j + 1) ∧ Chain s.size en (C.drop (j + 1)) ∧ wa.heap[wr.heap.size]? = some (.cells #[.int .i64 (bg : Int), .int .i64 (en : Int)] 127 (0, 0)) ∧ Below wr.heap.size wr wa ∧ wa.heap.size = wr.heap.size + 1) := ⟨hdr, hch.2.2, hka, hBa, hSa⟩
      have HX : Hid (bl (s.extract f bg) = ((bl s).drop f).take (bg - f) ∧ bl (s.extract bg en) = ((bl s).drop bg).take (en - bg) ∧ (s.extract f bg).size ≤ 90000 ∧ (s.extract bg en).size ≤ 90000) := ⟨by rw [bl_extract, List.drop_take], by rw [bl_extract, List.drop_take], by simp; omega, by simp; omega⟩
      clear hrow hdr hch hgt hka hBa hSa hCj hcc
      go_wp2_with fail
      rw [← hwa]
      clear hwa
      refine (HWS.out o (s.extract f bg) wa (ibf_below HI.out.ib HD.out.2.2.2.1) (by omega) HX.out.2.2.1 (Nat.le_trans hsz HD.out.2.2.2.1.size)).mono ?_
      rintro e w2 ⟨rfl, h1, h2, h3⟩
      have hm2 : w2.heap[wr.heap.size]? = some (.cells #[.int .i64 (bg : Int), .int .i64 (en : Int)] 127 (0, 0)) := h3 _ _ HD.out.2.2.1 (fun e => by have e' := Option.some.inj e; obtain ⟨cc, hcc⟩ := bcell HI.out.ib; have := (Array.getElem?_eq_some_iff.1 hcc).1; omega) (fun c fz e => by simp at e)
      have H2 : Hid (Lib.IsBuilderF 57 5 B B (Lib.byteCells (o ++ ((bl s).drop f).take (bg - f))) w2 ∧ Below B w1 w2 ∧ Lib.OthersKept 5 (some B) w1 w2 ∧ w2.heap[wr.heap.size]? = some (.cells #[.int .i64 (bg : Int), .int .i64 (en : Int)] 127 (0, 0))) := ⟨by rw [← HX.out.1]; exact h1, (HI.out.bel.trans (HD.out.2.2.2.1.mono hsz)).trans h2, (HI.out.oth.trans (oth_below HD.out.2.2.2.1)).trans h3, hm2⟩
      have x0 : w2.cell? ⟨wr.heap.size, 0, none⟩ = some (.int .i64 (bg : Int)) := by simp only [World.cell?, hm2]; rfl
      have x1 : w2.cell? ⟨wr.heap.size, 1, none⟩ = some (.int .i64 (en : Int)) := by simp only [World.cell?, hm2]; rfl
      clear v0 v1 e0 e1 h1 h2 h3 hm2
      go_wp2_with fail
      refine (HFI.out _ (s.extract bg en) w2 H2.out.1 (by simp; omega) HX.out.2.2.2 (Nat.le_trans hBw1 H2.out.2.1.size)).mono ?_
      rintro e w3 ⟨rfl, h1, h2, h3⟩
      have hm3 : w3.heap[wr.heap.size]? = some (.cells #[.int .i64 (bg : Int), .int .i64 (en : Int)] 127 (0, 0)) := h3 _ _ H2.out.2.2.2 (fun e => by have e' := Option.some.inj e; obtain ⟨cc, hcc⟩ := bcell HI.out.ib; have := (Array.getElem?_eq_some_iff.1 hcc).1; omega) (fun c fz e => by simp at e)
      have H3 : Hid (PI B s y C w1 (j + 1) en (o ++ ((bl s).drop f).take (bg - f) ++ fillL (((bl s).drop bg).take (en - bg)) (bl y)) w3) := ⟨by rw [← HX.out.2.1]; exact h1, H2.out.2.1.trans h2, H2.out.2.2.1.trans h3, HD.out.2.1, by rw [HI.out.eq, HD.out.1, putL]; simp only [List.append_assoc]⟩
      have y1 : w3.cell? ⟨wr.heap.size, 1, none⟩ = some (.int .i64 (en : Int)) := by simp only [World.cell?, hm3]; rfl
      clear x0 x1 h1 h2 h3 hm3 HD HX
      go_wp2_with fail
      go_roundw
      case rel => exact ⟨j + 1, en, _, by omega, by omega, rfl, by go_num, H3⟩
      case measure => simp [intOf]; omega
    · have hl2 : ¬ (j : Int) < (n : Int) := by omega
      have hd : C.drop j = [] := List.drop_of_length_le (by rw [← HK.out.2.2.2.2.1]; omega)
      have heq := HI.out.eq
      rw [hd, putL] at heq
      have i1 : (f : Int) ≤ (s.size : Int) := by omega
      have HX : Hid (bl (s.extract f s.size) = (bl s).drop f ∧ (s.extract f s.size).size ≤ 90000) := ⟨by rw [bl_extract, List.take_of_length_le (by rw [bl_length]; exact Nat.le_refl _)], by simp; omega⟩
      have HQ : Hid (putL (bl s) (bl y) 0 C = o ++ (bl s).drop f) := heq
      clear hd heq
      go_wp2_with fail
      refine (HWS.out o (s.extract f s.size) wr HI.out.ib (by omega) HX.out.2 hsz).mono ?_
      rintro e w2 ⟨rfl, h1, h2, h3⟩
      have H2 : Hid (Lib.IsBuilderF 57 5 B B (Lib.byteCells (putL (bl s) (bl y) 0 C)) w2 ∧ Below B w1 w2 ∧ Lib.OthersKept 5 (some B) w1 w2) := ⟨by rw [HQ.out, ← HX.out.1]; exact h1, HI.out.bel.trans h2, HI.out.oth.trans h3⟩
      clear h1 h2 h3 HX HQ
      go_wp2_with fail
      refine (HST.out _ w2 H2.out.1 (Nat.le_trans hBw1 H2.out.2.1.size)).mono ?_
      rintro e w3 ⟨rfl, h1, h2, h3⟩
      have H3 : Hid (Below B w1 w3 ∧ Lib.OthersKept 5 (some B) w1 w3) := ⟨H2.out.2.1.trans h2, H2.out.2.2.trans h3⟩
      clear h1 h2 h3
      go_wp2_with fail
      go_ret
      obtain ⟨g1, g2, g3, g4, g5, g6, g7⟩ := HK.out
      obtain ⟨k1, k2, k3, k4, k5⟩ := HW.out
      refine ⟨K, by rw [← g2]; rfl, g1, g3.others H3.out.2 g7, ?_⟩
      exact ⟨(H3.out.1.os.trans g4.os).trans k2.os, (H3.out.1.tape.trans g4.tape).trans k2.tape, (H3.out.1.output.trans g4.output).trans k2.output, Nat.le_trans k2.size (Nat.le_trans g4.size H3.out.1.size), fun i hi hne => by
        rw [H3.out.1.block i (by omega), g4.block i (by omega) hne]
        exact k2.block i hi⟩
end Go.Proofs.YtedepknbaakkhabGreatDoor.X
