/-
  An expression that nobody made.
-/
import Derived.Test.YtmmhajlfbjjocabPAlive
namespace Go.Proofs.Ytmmhajlfbjjocab
open Go.RowKit Go.Shelf RxSem
attribute [local go_sem] Oper.semAt_some

/-- Nil, or one that was not compiled. -/
def Nob (v : Value) (w : World) : Prop := v = .pointer none ∨ ∃ b : Nat, v = .pointer (some ⟨b, 0, none⟩) ∧ ∃ c, w.heap[b]? = some (.cells c 38 (0, 0)) ∧ c[0]? = some (.bool false) ∧ c[1]? = some (.string ⟨#[]⟩)
theorem Nob.below {v : Value} {w w' : World} (h : Nob v w) (hb : Below w.heap.size w w') : Nob v w' := by
  rcases h with h | ⟨b, h, c, h1, h2⟩
  · exact .inl h
  · exact .inr ⟨b, h, c, (hb.block b (Array.getElem?_eq_some_iff.1 h1).1).trans h1, h2⟩
set_option maxRecDepth 20000 in
set_option maxHeartbeats 400000 in
theorem each_none (v : Value) (s : ByteArray) (f : Int) (fv : Value) (w : World) (h : Nob v w) : Calls Try.prog 9 #[v, .string s, .int .i64 f, fv] w fun e w' => e = .returned (.tuple #[]) ∧ w' = w := by
  have hnot : ∀ (x : Bool) (w : World), (Op.unary .not (.bool x)).run Try.prog w = .ok (.bool (!x)) w := fun _ _ => rfl
  rcases h with rfl | ⟨b, rfl, c, h1, h2, h3⟩
  · go_enter Try.func9, Try.ntmps9
    go_wp2_with fail
    first | go_end0 | (simp only [Exit.inBlock, Exit.then]; refine bodyPost_ret (results_none rfl _ _ _) rfl ?_) | refine bodyPost_ret (results_none rfl _ _ _) rfl ?_
    exact ⟨rfl, rfl⟩
  · have c0 : w.cell? ⟨b, 0, none⟩ = some (.bool false) := by simp only [World.cell?, h1]; exact h2
    clear h1 h2 h3
    go_enter Try.func9, Try.ntmps9
    go_wp2_with fail
    first | go_end0 | (simp only [Exit.inBlock, Exit.then]; refine bodyPost_ret (results_none rfl _ _ _) rfl ?_) | refine bodyPost_ret (results_none rfl _ _ _) rfl ?_
    exact ⟨rfl, rfl⟩
set_option maxRecDepth 20000 in
set_option maxHeartbeats 400000 in
theorem find_none (v : Value) (s : ByteArray) (f : Int) (w : World) (h : Nob v w) : Calls Try.prog 4 #[v, .string s, .int .i64 f] w fun e w' => e = .returned (findV (0, 0, false)) ∧ Below w.heap.size w w' := by
  obtain ⟨W0, hW, hB, hS, k1, k2⟩ := two w (.cells #[.int .i64 0, .int .i64 0] 48) (.cells #[.bool false] 4)
  have HE : Hid (∀ fv, Calls Try.prog 9 #[v, .string s, .int .i64 f, fv] W0 fun e w' => e = .returned (.tuple #[]) ∧ w' = W0) := fun fv => each_none v s f fv W0 (h.below hB)
  have hmf : ∀ (fn : Fn) (first cap : Array Value) (w : World), (Instr.makeFunc fn first cap).run Try.prog w = .ok (.func fn first cap) w := fun _ _ _ _ => rfl
  have c0 : W0.cell? ⟨w.heap.size, 0, none⟩ = some (.int .i64 0) := by simp only [World.cell?, k1]; rfl
  have c1 : W0.cell? ⟨w.heap.size, 1, none⟩ = some (.int .i64 0) := by simp only [World.cell?, k1]; rfl
  have c2 : W0.cell? ⟨w.heap.size + 1, 0, none⟩ = some (.bool false) := by simp only [World.cell?, k2]; rfl
  have HX : Hid (Below w.heap.size w W0) := hB
  clear h hB hS k1 k2
  go_enter Try.func4, Try.ntmps4
  go_wp2_with fail
  rw [← hW]
  clear hW
  refine (HE.out _).mono ?_
  rintro e w1 ⟨rfl, rfl⟩
  go_wp2_with fail
  go_quiet (fail)
  go_wp2_with fail
  refine bodyPost_ret (by simp [results, Try.results4, go_sem]; try rfl) rfl ?_
  exact ⟨rfl, below_drewN HX.out _⟩
set_option maxRecDepth 20000 in
set_option maxHeartbeats 400000 in
theorem is_none (v : Value) (s : ByteArray) (w : World) (h : Nob v w) : Calls Try.prog 5 #[v, .string s] w fun e w' => e = .returned (.bool false) ∧ Below w.heap.size w w' := by
  have HF : Hid (Calls Try.prog 4 #[v, .string s, .int .i64 0] w fun e w' => e = .returned (findV (0, 0, false)) ∧ Below w.heap.size w w') := find_none v s 0 w h
  clear h
  go_enter Try.func5, Try.ntmps5
  go_wp2_with fail
  refine HF.out.mono ?_
  rintro e w1 ⟨rfl, h1⟩
  have H1 : Hid (Below w.heap.size w w1) := h1
  clear h1 HF
  simp only [findV]
  go_wp2_with fail
  go_ret
  exact ⟨rfl, H1.out⟩
set_option maxRecDepth 20000 in
set_option maxHeartbeats 400000 in
theorem text_none (v : Value) (w : World) (h : Nob v w) : Calls Try.prog 7 #[v] w fun e w' => e = .returned (.string ⟨#[]⟩) ∧ w = w' := by
  rcases h with rfl | ⟨b, rfl, c, h1, h2, h3⟩
  · go_enter Try.func7, Try.ntmps7
    go_wp2_with fail
    go_ret
    exact ⟨rfl, rfl⟩
  · have c1 : w.cell? ⟨b, 1, none⟩ = some (.string ⟨#[]⟩) := by simp only [World.cell?, h1]; exact h3
    clear h1 h2 h3
    go_enter Try.func7, Try.ntmps7
    go_wp2_with fail
    go_ret
    exact ⟨rfl, rfl⟩
theorem fr_own {w3 W W' : World} {row : Option Nat} (h : Fr (fun _ => False) w3 W) (hg : W.grownBy W' row) (hr : ∀ r, row = some r → w3.heap.size ≤ r) : Fr (fun _ => False) w3 W' :=
  ⟨hg.os.trans h.os, hg.tape.trans h.tape, hg.output.trans h.output, Nat.le_trans h.size hg.size, fun j hj hd => by
    rw [hg.block j (Nat.lt_of_lt_of_le hj h.size) (fun e => by have := hr j (by first | exact e | exact e.symm); omega)]
    exact h.block j hj hd⟩
set_option maxRecDepth 100000 in
set_option maxHeartbeats 1000000 in
theorem replaced_none (v0 : Value) (s : ByteArray) (al : Bool) (w : World) (h : Nob v0 w) : Calls Try.prog 11 #[v0, .string s, .bool al] w fun e w' => e = .returned (.slice none 0 0) ∧ Below w.heap.size w w' := by
  refine (callsIn_wide (n := 6)).1 ?_
  obtain ⟨wA, hwA, hSA, hBA, hA0, hA1, hA2⟩ : ∃ wA, wA = ((w.alloc (.cells #[.bool al] 4)).alloc (.cells #[.slice none 0 0] 55)).alloc (.cells #[.slice none 0 0] 55) ∧ wA.heap.size = w.heap.size + 3 ∧ Below w.heap.size w wA ∧ wA.heap[w.heap.size]? = some (.cells #[.bool al] 4 (0, 0)) ∧ wA.heap[w.heap.size + 1]? = some (.cells #[.slice none 0 0] 55 (0, 0)) ∧ wA.heap[w.heap.size + 1 + 1]? = some (.cells #[.slice none 0 0] 55 (0, 0)) := by
    refine ⟨_, rfl, by simp, (((Below.refl _ _).alloc (Nat.le_refl _) _).alloc (by simp) _).alloc (by simp; omega) _, ?_, ?_, ?_⟩
    · rw [Below.heap_alloc _ _ _ (by simp; omega), Below.heap_alloc _ _ _ (by simp)]; exact heap_alloc_new _ _
    · rw [Below.heap_alloc _ _ _ (by simp)]
      have := heap_alloc_new (w.alloc (.cells #[.bool al] 4)) (.cells #[.slice none 0 0] 55)
      simpa using this
    · have := heap_alloc_new ((w.alloc (.cells #[.bool al] 4)).alloc (.cells #[.slice none 0 0] 55)) (.cells #[.slice none 0 0] 55)
      simpa using this
  have HE : Hid (Calls Try.prog 9 #[v0, .string s, .int .i64 0, .func (.func 19) #[] #[.pointer (some ⟨w.heap.size + 1, 0, none⟩)]] wA fun e w' => e = .returned (.tuple #[]) ∧ w' = wA) := each_none v0 s 0 _ wA (h.below hBA)
  have HA : Hid (wA.heap.size = w.heap.size + 3 ∧ Below w.heap.size w wA ∧ wA.heap[w.heap.size]? = some (.cells #[.bool al] 4 (0, 0)) ∧ wA.heap[w.heap.size + 1 + 1]? = some (.cells #[.slice none 0 0] 55 (0, 0))) := ⟨hSA, hBA, hA0, hA2⟩
  have c0 : wA.cell? ⟨w.heap.size + 1, 0, none⟩ = some (.slice none 0 0) := by simp only [World.cell?, hA1]; rfl
  have hlt1 : w.heap.size + 1 < wA.heap.size := by omega
  clear h hSA hBA hA0 hA1 hA2
  refine callsIn_of_wp_marks Try.func11 rfl trivial ?_ rfl
  simp only [Try.ntmps11, List.size_toArray, List.length_cons, List.length_nil, Nat.reduceAdd, Nat.reduceSub, Array.replicate_succ, Array.replicate_zero, List.push_toArray, List.append_toArray, List.nil_append, List.cons_append]
  gi_wp2_with fail
  refine ⟨trivial, ?_⟩
  rw [← hwA]
  clear hwA
  refine (callsIn_wide.2 HE.out).mono ?_
  rintro e w1 ⟨rfl, hw1⟩
  obtain ⟨m, hm⟩ : ∃ m : Nat, m = 0 := ⟨_, rfl⟩
  subst hw1
  clear HE
  gi_wp2_with fail
  refine ⟨trivial, ?_⟩
  obtain ⟨w2, hw2, hB2, hS2, h20, h21⟩ : ∃ w2, w2 = (w1.alloc (.cells #[.int .i64 0] 3)).alloc (.cells #[.slice none 0 0] 55) ∧ Below w1.heap.size w1 w2 ∧ w2.heap.size = w1.heap.size + 2 ∧ w2.heap[w1.heap.size]? = some (.cells #[.int .i64 0] 3 (0, 0)) ∧ w2.heap[w1.heap.size + 1]? = some (.cells #[.slice none 0 0] 55 (0, 0)) := by
    refine ⟨_, rfl, ((Below.refl _ _).alloc (Nat.le_refl _) _).alloc (by simp) _, by simp, ?_, ?_⟩
    · rw [Below.heap_alloc _ _ _ (by simp)]; exact heap_alloc_new _ _
    · have := heap_alloc_new (w1.alloc (.cells #[.int .i64 0] 3)) (.cells #[.slice none 0 0] 55)
      simpa using this
  refine (backward_in _ none 0 0 _).mono ?_
  rintro e w3 ⟨rfl, hw3⟩
  rw [← hw2] at hw3
  subst hw3
  have hHeld : Held (w1.heap.size + 1) (.slice none 0 0) [] w3 := ⟨by simp only [World.cell?, h21]; rfl, .inl ⟨rfl, rfl⟩⟩
  have hbc3 : w3.heap[w.heap.size + 1 + 1]? = some (.cells #[.slice none 0 0] 55 (0, 0)) := by
    obtain ⟨x1, x2, x3, x4⟩ := HA.out
    exact (hB2.block _ (by omega)).trans x4
  have H2 : Hid (Below w1.heap.size w1 w3 ∧ Held (w1.heap.size + 1) (.slice none 0 0) [] w3 ∧ w3.heap[w.heap.size + 1 + 1]? = some (.cells #[.slice none 0 0] 55 (0, 0)) ∧ w3.heap.size = w1.heap.size + 2) := ⟨hB2, hHeld, hbc3, hS2⟩
  have hBs : (w1.alloc (.cells #[.int .i64 0] 3)).heap.size = w1.heap.size + 1 := by simp
  rw [hBs]
  clear hB2 hHeld hbc3 h20 h21 c0 hw2 hBs hS2 hlt1
  gi_wp2_with fail
  obtain ⟨bc, hbc⟩ : ∃ bc, bc = w.heap.size + 1 + 1 := ⟨_, rfl⟩
  obtain ⟨Bn, hBn⟩ : ∃ Bn, Bn = w1.heap.size + 1 := ⟨_, rfl⟩
  obtain ⟨bf, hbf⟩ : ∃ bf, bf = w1.heap.size := ⟨_, rfl⟩
  obtain ⟨ba, hba⟩ : ∃ ba, ba = w.heap.size := ⟨_, rfl⟩
  rw [← hbc, ← hBn] at H2
  rw [← hbc, ← hBn, ← hbf, ← hba]
  have HL : Hid (bc = w.heap.size + 1 + 1 ∧ Bn = w1.heap.size + 1 ∧ bf = w1.heap.size ∧ ba = w.heap.size ∧ w3.heap.size = w1.heap.size + 2 ∧ w1.heap.size = w.heap.size + 3) := ⟨hbc, hBn, hbf, hba, H2.out.2.2.2, HA.out.1⟩
  have hlt2 : ∀ g, (Value.slice none 0 0).ownBlock = some g → False := fun g hg => by simp [Value.ownBlock] at hg
  have HEnd : Hid (∀ (W : World) (D : Nat), Fr (fun _ => False) w3 W → w3.heap.size ≤ D → Below w.heap.size w (W.putObj D (.deferred none))) := by
    intro W D hR hD
    have hg := grownBy_putObj' W D (.deferred none)
    have hR' := fr_own hR hg (fun r e => by cases e; exact hD)
    obtain ⟨x1, x2, x3, x4⟩ := HA.out
    have hB2 := H2.out.1
    have hs3 := H2.out.2.2.2
    refine ⟨((hR'.os.trans hB2.os)).trans x2.os, ((hR'.tape.trans hB2.tape)).trans x2.tape, ((hR'.output.trans hB2.output)).trans x2.output, by have := hR'.size; omega, fun j hj => ?_⟩
    rw [hR'.block j (by omega) (fun h => h), hB2.block j (by omega)]
    exact x2.block j hj
  have hBn3 : Bn < w3.heap.size := by have := H2.out.2.2.2; omega
  have hbc3 : bc < w3.heap.size := by have := H2.out.2.2.2; have := HA.out.1; omega
  refine wpIn_rangeFunc_ownH rfl (by omega) (gf := 30) (lb := #[.pointer (some ⟨Bn, 0, none⟩)]) rfl trivial (enters_of Try.func30 (by kernel_rfl) rfl)
    (backward_stops _ (by omega) Bn (.slice none 0 0) [] (by simp) w3 H2.out.2.1 (by omega) (fun g hg => (hlt2 g hg).elim)) (fun h1 h2 => h1.trans h2) (fun W l o o' hl h1 h2 h3 k hk => ?kb) (Below.refl _ _) (fun _ => rfl)
    (fun pre W => pre = [] ∧ Fr (fun _ => False) w3 W)
    (fun cd pre W => False)
    (fun s W W' row hs hg hr => ⟨hs.1, fr_own hs.2 hg (fun r e => (hr r e).1)⟩)
    (fun cd s W W' row hs hg hr => hs)
    ⟨rfl, Fr.refl _ _⟩
    (fun x a' W => True)
    ?hax ?assign ?body ?done ?stop
  case kb =>
    have hl1 := (Array.getElem?_eq_some_iff.1 h1).1
    have hk3 : k < w3.heap.size := by
      rcases hk with rfl | hk
      · omega
      · exact (hlt2 k hk).elim
    exact (grownBy_putObj' W l o').block k (by omega) (fun e => by have := Option.some.inj e; omega)
  case hax =>
    rintro x a' s W W' row _ hg hr
    trivial
  case assign =>
    rintro l pre x W Kk ⟨hpre, hR⟩ hK
    have HK : Hid (_ ∧ _) := ⟨hK, hR⟩
    have hszW := hR.size
    clear hbc hBn hbf hba
    clear hK hR
    simp only [encS]
    gi_wp2
    obtain ⟨hK, hR⟩ := HK.out
    refine hK _ _ ⟨by simp, fun k o _ hk _ => (Below.heap_alloc _ _ _ (Array.getElem?_eq_some_iff.1 hk).1).trans hk⟩ (fun k hk => Below.heap_alloc _ _ _ (by
      rcases hk with rfl | hk
      · omega
      · exact (hlt2 k hk).elim)) ⟨hpre, fr_own (row := none) hR ⟨rfl, rfl, rfl, by simp, fun k hk _ => Below.heap_alloc _ _ _ hk⟩ (fun r e => by cases e)⟩ trivial
  case body =>
    rintro l pre x a' W hl hlr ⟨hpre, hR⟩ _ hN
    rw [seqOf_len] at hN
    simp at hN
  case done =>
    rintro D ys W hD rfl ⟨hpre, hR⟩ hK
    have hcw : W.heap[bc]? = some (.cells #[.slice none 0 0] 55 (0, 0)) := (hR.block bc hbc3 (fun h => h)).trans H2.out.2.2.1
    have hc : W.cell? ⟨bc, 0, none⟩ = some (.slice none 0 0) := by simp only [World.cell?, hcw]; rfl
    have HR : Hid (Fr (fun _ => False) w3 W) := hR
    clear hR hcw
    clear hbc hBn hbf hba
    gi_wp2
    refine ⟨by simp, .inl ⟨_, _, rfl, run_takeDeferred hK, ?_⟩⟩
    refine ⟨_, results_tmp rfl _ _ _, ?_⟩
    exact ⟨rfl, HEnd.out W D HR.out hD⟩
  case stop =>
    rintro D cd pre W hD hSp h hK
    exact h.elim
set_option maxRecDepth 20000 in
set_option maxHeartbeats 600000 in
theorem replace_none (v : Value) (s y : ByteArray) (al : Bool) (w : World) (h : Nob v w) (hs : s.size ≤ 140737488355328) : Calls Try.prog 6 #[v, .string s, .string y, .bool al] w fun e w' => e = .returned (.string s) ∧ Below w.heap.size w w' := by
  obtain ⟨w0, hw0, hB0, hS0, hk0⟩ := one_box w (.cells #[.pointer none, .slice none 0 0] 54)
  have HR : Hid (Calls Try.prog 11 #[v, .string s, .bool al] w0 fun e w' => e = .returned (.slice none 0 0) ∧ Below w0.heap.size w0 w') := replaced_none v s al w0 (h.below hB0)
  obtain ⟨B, hB⟩ : ∃ B, B = w.heap.size := ⟨_, rfl⟩
  have HWS : Hid (∀ (W : World), Lib.IsBuilderF 54 5 B B (Lib.byteCells []) W → B ≤ W.heap.size → Calls Try.prog 12 #[.pointer (some ⟨B, 0, none⟩), .string s] W fun e w' => e = .returned (.tuple #[.int .i64 s.size, .nilIface]) ∧ Lib.IsBuilderF 54 5 B B (Lib.byteCells (bl s)) w' ∧ Below B W w') := fun W h1 h3 =>
    (Try.Builder_WriteString_k B B (Lib.byteCells []) s W h1 (by rw [Lib.byteCells_length]; simp; omega) h3).mono fun e w' h => ⟨h.1, .inr (by have := h.2.1; simpa [Lib.byteCells, Lib.strCells, bl] using this), h.2.2.1⟩
  have HST : Hid (∀ (W : World), Lib.IsBuilderF 54 5 B B (Lib.byteCells (bl s)) W → B ≤ W.heap.size → Calls Try.prog 14 #[.pointer (some ⟨B, 0, none⟩)] W fun e w' => e = .returned (.string s) ∧ Below B W w') := fun W h1 h2 =>
    (Try.Builder_String_any_k B B (bl s) W h1 h2).mono fun e w' h => ⟨by rw [h.1]; rfl, h.2.2.1⟩
  have HW : Hid (B = w.heap.size ∧ Below w.heap.size w w0 ∧ w0.heap.size = w.heap.size + 1 ∧ w0.heap[B]? = some (.cells #[.pointer none, .slice none 0 0] 54 (0, 0))) := ⟨hB, hB0, hS0, by rw [hB]; exact hk0⟩
  clear h hB0 hS0 hk0
  go_enter Try.func6, Try.ntmps6
  go_wp2_with fail
  rw [← hw0]
  rw [← hB]
  clear hw0 hB
  refine HR.out.mono ?_
  clear HR
  rintro e w1 ⟨rfl, hb1⟩
  have H1 : Hid (Lib.IsBuilderF 54 5 B B (Lib.byteCells []) w1 ∧ Below B w w1) := by
    obtain ⟨g1, g2, g3, g4⟩ := HW.out
    have g5 : w1.heap[B]? = some (.cells #[.pointer none, .slice none 0 0] 54 (0, 0)) := (hb1.block B (by omega)).trans g4
    refine ⟨.inl ⟨Nat.le_refl _, .slice none 0 0, g5, World.ownsRowF_of (World.ownsRow_nil _ _ _ _), by simp [Value.ownBlock]⟩, ?_⟩
    rw [g1]
    exact g2.trans (hb1.mono (by omega))
  clear hb1
  have hBw : B ≤ w1.heap.size := by have := H1.out.2.size; have := HW.out.1; omega
  go_wp2_with fail
  go_loopw [10, 18] (fun vt vi wr => vt = .int .i64 0 ∧ vi = .int .i64 0 ∧ w1 = wr) (fun _ _ _ => 0)
  case atStart => exact ⟨rfl, rfl, rfl⟩
  case round =>
    obtain ⟨rfl, rfl, hw⟩ := hrel
    subst hw
    go_wp2_with fail
    refine (HWS.out w1 H1.out.1 hBw).mono ?_
    rintro e w2 ⟨rfl, h1, h2⟩
    have H2 : Hid (Lib.IsBuilderF 54 5 B B (Lib.byteCells (bl s)) w2 ∧ Below B w w2) := ⟨h1, H1.out.2.trans h2⟩
    clear h1 h2
    go_wp2_with fail
    refine (HST.out w2 H2.out.1 (Nat.le_trans (Nat.le_of_eq HW.out.1) H2.out.2.size)).mono ?_
    rintro e w3 ⟨rfl, h1⟩
    have H3 : Hid (Below B w w3) := H2.out.2.trans h1
    clear h1
    go_wp2_with fail
    go_ret
    refine ⟨rfl, ?_⟩
    have := H3.out
    rw [HW.out.1] at this
    exact this
end Go.Proofs.Ytmmhajlfbjjocab
