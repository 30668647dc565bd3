/-
  What Read answers.
-/
import Derived.Test.YtefhpoklehmlhaaDoorL3c
import Derived.Maps.AppendAt
namespace Go.Proofs.YtefhpoklehmlhaaDoor
open Go.RowKit Go.Shelf

theorem infoL : (Tryd.prog.info? 30).map (fun i => (i.zero, i.size, i.bytes)) = some (some (.agg #[.string ⟨#[]⟩, .int .i64 0, .bool false]), 3, 32) := by kernel_rfl
def fV (y n : Nat) : Value := .agg #[.int .i64 (y : Int), .int .i64 (n : Int)]
def ReadPost (s : ByteArray) (w : World) (e : Ending) (w' : World) : Prop :=
  ∃ v, e = .returned (.tuple #[v, fV (Ln.readL (bl s)).why (Ln.readL (bl s)).at_]) ∧ w'.ownsRow w.heap.size 30 3 v (Ln.readL (bl s)).lines.length (lnsV (Ln.readL (bl s)).lines) ∧ Below w.heap.size w w'
theorem words_drop {B b o n c : Nat} {W : World} {R : List (List UInt8)} (h : Words B W (.slice (some ⟨b, o, none⟩) n c) (R.map ba)) {k : Nat} (hk : k < n) (t : Nat) (ht : k + t ≤ n) : Words B W (.slice (some ⟨b, o + k, none⟩) t (c - k)) (((R.drop k).take t).map ba) := by
  obtain ⟨a, n', c', h1, h2, h4, h3⟩ := h
  simp only [Value.slice.injEq] at h1
  obtain ⟨rfl, rfl, rfl⟩ := h1
  rw [List.length_map] at h2
  refine ⟨_, _, _, rfl, by simp; omega, by omega, fun i hi => ?_⟩
  have hi' : i < t := by simp at hi; omega
  obtain ⟨b', o', e1, e2, e3⟩ := h3 (k + i) (by simp; omega)
  simp only [Option.some.injEq, Addr.mk.injEq, and_true] at e1
  obtain ⟨rfl, rfl⟩ := e1
  refine ⟨b, o + k, rfl, e2, ?_⟩
  rw [Nat.add_assoc, e3]
  simp
theorem words_from {B b o n c : Nat} {W : World} {R : List (List UInt8)} (h : Words B W (.slice (some ⟨b, o, none⟩) n c) (R.map ba)) {k : Nat} (hk : k < n) : Words B W (.slice (some ⟨b, o + k, none⟩) (n - k) (c - k)) ((R.drop k).map ba) := by
  have hn : n = R.length := by
    obtain ⟨a, n', c', h1, h2, _⟩ := h
    simp only [Value.slice.injEq] at h1
    rw [h1.2.1, h2, List.length_map]
  have := words_drop h hk (n - k) (by omega)
  rwa [List.take_of_length_le (by simp; omega)] at this
theorem lnsV_snoc (l : List Ln.Ln) (x : Ln.Ln) : lnsV (l ++ [x]) = lnsV l ++ lnC x := by simp [lnsV]
theorem owns_base {base base' : Nat} {e : TypeId} {size n : Nat} {w : World} {v : Value} {xs : List Value} (h : w.ownsRow base e size v n xs) (hb : base' ≤ base) : w.ownsRow base' e size v n xs := by
  obtain ⟨hxl, ⟨hv, hn⟩ | ⟨g, cap, cur, hv, hg, rest⟩⟩ := h
  · exact ⟨hxl, .inl ⟨hv, hn⟩⟩
  · exact ⟨hxl, .inr ⟨g, cap, cur, hv, by omega, rest⟩⟩
theorem owns_nil (base : Nat) (e : TypeId) (size : Nat) (w : World) : w.ownsRow base e size (.slice none 0 0) 0 [] := World.ownsRow_nil _ _ _ _
theorem row_set {w : World} {base b : Nat} {v : Value} {e : TypeId} {k n : Nat} {xs : List Value} {i : Nat} (h : w.ownsRow base e k v n xs) (hb : v.ownBlock ≠ some b) (x : Value) : (w.setCell ⟨b, i, none⟩ x).ownsRow base e k v n xs := by
  refine ⟨h.1, ?_⟩
  rcases h.2 with h0 | ⟨g, cap, cur, hv, hg, hgg, rest⟩
  · exact .inl h0
  · refine .inr ⟨g, cap, cur, hv, hg, ?_, rest⟩
    rw [Below.heap_setCell _ _ _ _ (fun e => hb (by rw [hv, e]; rfl))]
    exact hgg
theorem emit_no {k : Nat} {g : List (List UInt8)} (h : Ln.blank (Ln.wholeT g) = true) : Ln.emit k g = [] := by unfold Ln.emit; rw [if_pos h]
theorem emit_yes {k : Nat} {g : List (List UInt8)} (h : Ln.blank (Ln.wholeT g) = false) : Ln.emit k g = [⟨Ln.wholeT g, k + 1, Ln.isCmd g⟩] := by unfold Ln.emit; rw [if_neg (by rw [h]; simp)]

theorem bare_len (s : List UInt8) : (Ln.bareT s).length ≤ s.length := by
  unfold Ln.bareT
  have h1 := right_le (Lib.replaceAll (s.take (Ln.note s)) [92, 35] [35]) [32, 9]
  have h2 := repl_len (s.take (Ln.note s))
  rw [List.length_take] at h2
  omega
theorem whole_len (R : List (List UInt8)) : (Ln.wholeT R).length ≤ wt R := by
  unfold Ln.wholeT
  split
  · exact cmd_len R
  · exact Nat.le_trans (bare_len _) (join_len true R)

/-- What stands at the head of a round of Read. -/
structure RI (R : List (List UInt8)) (rv : Value) (fb : Nat) (w1 : World) (k : Nat) (acc : List Ln.Ln) (v : Value) (wr : World) : Prop where
  bel : Below w1.heap.size w1 wr
  own : wr.ownsRow w1.heap.size 30 3 v acc.length (lnsV acc)
  len : acc.length ≤ 4096
  eq : Ln.linesA 0 [] R = acc ++ Ln.linesA k [] (R.drop k)
  wd : Words w1.heap.size wr rv (R.map ba)
  fbk : wr.heap[fb]? = some (.cells #[.int .i64 0, .int .i64 0] 25 (0, 0))
  mx : Mx wr
  flt : fb < w1.heap.size

theorem RI.below {R : List (List UInt8)} {rv : Value} {fb : Nat} {w1 : World} {k : Nat} {acc : List Ln.Ln} {v : Value} {wr w4 : World} (h : RI R rv fb w1 k acc v wr) (hb : Below wr.heap.size wr w4) : RI R rv fb w1 k acc v w4 :=
  ⟨below_trans h.bel hb h.bel.size, owns_below h.own hb, h.len, h.eq, h.wd.below (hb.mono h.bel.size), (hb.block fb (Nat.lt_of_lt_of_le h.flt h.bel.size)).trans h.fbk, h.mx.below hb h.mx.pos, h.flt⟩

set_option maxRecDepth 20000 in
set_option maxHeartbeats 800000 in
theorem read_far (s : ByteArray) (w : World) (hs : 65536 < s.size) (hs2 : s.size ≤ 9223372036854775807) :
    Calls Tryd.prog 9 #[.string s] w (ReadPost s w) := by
  have HE : Hid (Ln.readL (bl s) = ⟨[], 5, 0⟩) := Ln.readL_far (by rw [bl_length]; exact hs)
  have hsi : (65536 : Int) < (s.size : Int) := by omega
  go_enter Tryd.func9, Tryd.ntmps9
  go_wp2_with fail
  refine bodyPost_ret (v := .tuple #[.slice none 0 0, .agg #[.int .i64 5, .int .i64 0]]) (by simp [results, Tryd.results9, go_sem]; try rfl) rfl ?_
  exact ⟨_, by rw [HE.out]; rfl, by rw [HE.out]; exact owns_nil _ _ _ _, (Below.refl _ _).alloc (Nat.le_refl _) _⟩

theorem box2 {w : World} {b : Nat} {a0 a1 : Value} {T : TypeId} (h : w.heap[b]? = some (.cells #[a0, a1] T (0, 0))) (x y : Value) :
    (w.setCell ⟨b, 0, none⟩ x).cell? ⟨b, 0, none⟩ = some x ∧ ((w.setCell ⟨b, 0, none⟩ x).setCell ⟨b, 1, none⟩ y).cell? ⟨b, 1, none⟩ = some y := by
  have h1 := heap_set (i := 0) h x
  have h2 := heap_set (i := 1) h1 y
  exact ⟨cell_in h1 0 rfl, cell_in h2 1 rfl⟩
theorem below_set2 {w w1 : World} {B b : Nat} (h : Below B w w1) (hb : B ≤ b) (x y : Value) : Below B w ((w1.setCell ⟨b, 0, none⟩ x).setCell ⟨b, 1, none⟩ y) :=
  (h.setCell (p := ⟨b, 0, none⟩) hb x).setCell (p := ⟨b, 1, none⟩) hb y
theorem owns_set2 {w1 : World} {base B b : Nat} {e : TypeId} {size n : Nat} {v : Value} {xs : List Value} (h : w1.ownsRow base e size v n xs) (hb : b < base) (hB : B ≤ base) (x y : Value) : ((w1.setCell ⟨b, 0, none⟩ x).setCell ⟨b, 1, none⟩ y).ownsRow B e size v n xs := by
  refine owns_base ?_ hB
  obtain ⟨hxl, ⟨hv, hn⟩ | ⟨g, cap, cur, hv, hg, hcur, rest⟩⟩ := h
  · exact ⟨hxl, .inl ⟨hv, hn⟩⟩
  · refine ⟨hxl, .inr ⟨g, cap, cur, hv, hg, ?_, rest⟩⟩
    rw [Below.heap_setCell _ _ _ _ (by show g ≠ b; omega), Below.heap_setCell _ _ _ _ (by show g ≠ b; omega)]
    exact hcur
theorem opens_last (R : List (List UInt8)) (n : Nat) (h : n + 1 = R.length) : Ln.opens R = Ln.takes R[n] := by
  unfold Ln.opens
  rw [List.getLast?_eq_getElem?, show R.length - 1 = n by omega, List.getElem?_eq_getElem (by omega)]

set_option maxRecDepth 20000 in
set_option maxHeartbeats 800000 in
theorem read_main (s : ByteArray) (w : World) (hs : s.size ≤ 65536) (hm : Mx w) :
    Calls Tryd.prog 9 #[.string s] w (ReadPost s w) := by
  have HRW : Hid (∀ W, Mx W → Calls Tryd.prog 21 #[.string s] W fun e w' => ∃ v, e = .returned v ∧ Below W.heap.size W w' ∧ Words w'.heap.size w' v ((Ln.raws (bl s)).map ba)) := fun W hM => raws_any s W (by omega) hM
  have hsi : ¬ (65536 : Int) < (s.size : Int) := by omega
  obtain ⟨R, hR⟩ : ∃ R, R = Ln.raws (bl s) := ⟨_, rfl⟩
  have HR : Hid (R = Ln.raws (bl s) ∧ s.size ≤ 65536) := ⟨hR, hs⟩
  have hwt : wt R ≤ 65537 := by have := (Ln.raws_len (bl s)).1; rw [bl_length] at this; unfold wt; rw [hR]; omega
  have HWT : Hid (wt R ≤ 65537) := hwt
  have hnl : R.length ≤ 65537 := Nat.le_trans (wt_len R) hwt
  rw [← hR] at HRW
  have HM : Hid (Mx w) := hm
  clear hR hwt hm
  go_enter Tryd.func9, Tryd.ntmps9
  go_wp2_with fail
  refine (HRW.out _ (HM.out.below ((Below.refl w.heap.size _).alloc (Nat.le_refl _) _) HM.out.pos)).mono ?_
  rintro e w1 ⟨rv, rfl, hb1, hw1⟩
  have hbw : Below w.heap.size w w1 := below_trans ((Below.refl _ _).alloc (Nat.le_refl _) _) hb1 (by simp)
  have HB1 : Hid (Below w.heap.size w w1 ∧ Mx w1 ∧ w1.heap[w.heap.size]? = some (.cells #[.int .i64 0, .int .i64 0] 25 (0, 0)) ∧ w.heap.size < w1.heap.size) := ⟨hbw, HM.out.below hbw HM.out.pos, box_kept hb1, by have := hb1.size; simp at this; omega⟩
  have HW1 : Hid (Words w1.heap.size w1 rv (R.map ba)) := hw1
  clear hb1 hbw hw1
  have c0 := cell_in HB1.out.2.2.1 0 rfl
  have c1 := cell_in HB1.out.2.2.1 1 rfl
  have f0 : w1.frozen? ⟨w.heap.size, 0, none⟩ = false := by simp [World.frozen?, HB1.out.2.2.1]
  have f1 : w1.frozen? ⟨w.heap.size, 1, none⟩ = false := by simp [World.frozen?, HB1.out.2.2.1]
  by_cases hne : R = []
  · subst hne
    obtain ⟨a, n, c, rfl, hn, hcap, _⟩ := HW1.out
    simp at hn
    subst hn
    have HE : Hid (Ln.readL (bl s) = ⟨[], 0, 0⟩) := by
      have h := HR.out.1
      unfold Hid
      rw [Ln.readL_ok (by rw [bl_length]; have := HR.out.2; omega) (by rw [← h]; rfl) (by rw [← h]; simp [Ln.linesA]), ← h]; rfl
    obtain ⟨g0, g1⟩ := box2 HB1.out.2.2.1 (.int .i64 0) (.int .i64 0)
    go_wp2_with fail
    refine wp_loop_rounds 1 ?_
    rw [rounds_succ]
    go_wp2_with fail
    refine bodyPost_ret (v := .tuple #[.slice none 0 0, .agg #[.int .i64 0, .int .i64 0]]) (by simp [results, Tryd.results9, go_sem, g0, g1]; try rfl) rfl ?_
    exact ⟨_, by rw [HE.out]; rfl, by rw [HE.out]; exact owns_nil _ _ _ _, below_set2 HB1.out.1 (Nat.le_refl _) _ _⟩
  · obtain ⟨b, o, c, rfl, hb, hc, hcell⟩ := HW1.out.at (by simpa using hne)
    rw [List.length_map] at hc HW1 ⊢
    obtain ⟨n, hn⟩ : ∃ n, n + 1 = R.length := ⟨R.length - 1, by have := List.length_pos_iff.2 hne; omega⟩
    have hcell2 : w1.cell? ⟨b, o + n, none⟩ = some (.string (ba R[n])) := by
      have := hcell n (by simp; omega)
      rwa [List.getElem_map] at this
    have hop := opens_last R n hn
    obtain ⟨x, hx⟩ : ∃ x, x = ba R[n] := ⟨_, rfl⟩
    have HT : Hid (∀ W, Calls Tryd.prog 22 #[.string x] W fun e w' => e = .returned (.bool (Ln.opens R)) ∧ W = w') := fun W => by
      have h1 := wt_mem (List.getElem_mem (l := R) (n := n) (by omega))
      have h2 := HWT.out
      have := takes_any x W (by rw [hx, ba_size]; omega)
      rw [hop]
      rwa [hx, bl_ba, ← hx] at this
    rw [← hx] at hcell2
    have HN : Hid (n + 1 = R.length) := hn
    rw [← hn] at hc HW1 hnl ⊢
    have hto : ((n : Int) + 1 - 1).toNat = n := by omega
    clear hx hop hcell hb hne hn
    cases ho : Ln.opens R with
    | true =>
      have HE : Hid (Ln.readL (bl s) = ⟨[], 4, n + 1⟩) := by
        have h := HR.out.1
        unfold Hid
        rw [Ln.readL_open (by rw [bl_length]; have := HR.out.2; omega) (by rw [← h]; exact ho), ← h, HN.out]
      rw [ho] at HT
      clear ho
      obtain ⟨g0, g1⟩ := box2 HB1.out.2.2.1 (.int .i64 4) (.int .i64 ((n : Int) + 1))
      go_wp2_with (go_at_call 22; refine (HT.out _).mono ?_; rintro e w' ⟨rfl, rfl⟩)
      refine bodyPost_ret (v := .tuple #[.slice none 0 0, .agg #[.int .i64 4, .int .i64 ((n : Int) + 1)]]) (by simp [results, Tryd.results9, go_sem, g0, g1]; try rfl) rfl ?_
      exact ⟨_, by rw [HE.out]; rfl, by rw [HE.out]; exact owns_nil _ _ _ _, below_set2 HB1.out.1 (Nat.le_refl _) _ _⟩
    | false =>
      rw [ho] at HT
      have HO : Hid (Ln.opens R = false) := ho
      clear ho
      go_wp2_with (go_at_call 22; refine (HT.out _).mono ?_; rintro e w' ⟨rfl, rfl⟩)
      clear hcell2 hto HT c0 c1 f0 f1
      have HTG : Hid (∀ k W v, k < n + 1 → Words W.heap.size W v ((R.drop k).map ba) → Calls Tryd.prog 23 #[v] W fun e w' => e = .returned (.int .i64 (Ln.tog (R.drop k) : Nat)) ∧ W = w') := fun k W v hk hv => by
        have hN := HN.out
        have hW := HWT.out
        refine together_any (R.drop k) v W (by intro e; have := congrArg List.length e; simp at this; omega) (by simp; omega) (fun r hr => ?_) hv
        have := wt_mem (List.mem_of_mem_drop hr)
        omega
      have HWH : Hid (∀ k t W v, k < n + 1 → 1 ≤ t → Mx W → Words W.heap.size W v (((R.drop k).take t).map ba) → Calls Tryd.prog 24 #[v] W fun e w' => e = .returned (.agg #[.string (ba (Ln.wholeT ((R.drop k).take t))), .int .i64 0, .bool (Ln.isCmd ((R.drop k).take t))]) ∧ Below W.heap.size W w') := fun k t W v hk ht hM hv => by
        have hN := HN.out
        have hW := HWT.out
        refine whole_any ((R.drop k).take t) v W (by intro e; have := congrArg List.length e; simp at this; omega) ?_ hM hv
        have h1 := wt_take (R.drop k) t
        have h2 := wt_drop R k
        omega
      obtain ⟨i0, hi, hz0, hz1, hz2⟩ := info_parts infoL
      go_loopw [6, 7, 8] (fun v vb ve wr => ∃ (k : Nat) (acc : List Ln.Ln), k ≤ n + 1 ∧ vb = .int .i64 (k : Int) ∧ ve = .int .i64 (k : Int) ∧ Hid (RI R (.slice (some ⟨b, o, none⟩) (n + 1) c) w.heap.size w1 k acc v wr)) (fun _ vb _ _ => n + 1 - (intOf vb).toNat)
      case atStart => exact ⟨0, [], Nat.zero_le _, rfl, rfl, Below.refl _ _, owns_nil _ _ _ _, by simp, by simp, HW1.out, HB1.out.2.2.1, HB1.out.2.1, HB1.out.2.2.2⟩
      case round =>
        obtain ⟨k, acc, hk, rfl, rfl, HI⟩ := hrel
        by_cases hlt : k < n + 1
        · have hil : (k : Int) < (n : Int) + 1 := by omega
          have hic : (k : Int) ≤ (c : Int) := by omega
          have hkc : ¬ c = k := by omega
          have HD1 := HTG.out k wr _ hlt ((words_from HI.out.wd hlt).mono HI.out.bel.size)
          have htp := Ln.tog_pos (R.drop k)
          have htl := Ln.tog_le (R.drop k) (by have hN := HN.out; intro e; have := congrArg List.length e; simp at this; omega)
          rw [List.length_drop, ← HN.out] at htl
          obtain ⟨t, ht⟩ : ∃ t, t = Ln.tog (R.drop k) := ⟨_, rfl⟩
          rw [← ht] at HD1 htp htl
          have HD2 := HWH.out k t wr _ hlt htp HI.out.mx ((words_drop HI.out.wd hlt t (by omega)).mono HI.out.bel.size)
          have H1 : Hid (Calls Tryd.prog 23 #[.slice (some ⟨b, o + k, none⟩) (n + 1 - k) (c - k)] wr fun e w' => e = .returned (.int .i64 (t : Nat)) ∧ wr = w') := HD1
          have H2 : Hid (Calls Tryd.prog 24 #[.slice (some ⟨b, o + k, none⟩) t (c - k)] wr fun e w' => e = .returned (.agg #[.string (ba (Ln.wholeT ((R.drop k).take t))), .int .i64 0, .bool (Ln.isCmd ((R.drop k).take t))]) ∧ Below wr.heap.size wr w') := HD2
          clear HD1 HD2
          have hkt : (k : Int) + (t : Int) ≤ (n : Int) + 1 := by omega
          have HTT : Hid (t = Ln.tog (R.drop k)) := ht
          clear ht
          go_wp2_with fail
          refine H1.out.mono ?_
          rintro e w' ⟨rfl, rfl⟩
          have hktn : ((k : Int) + (t : Int)).toNat = k + t := by omega
          have hkt2 : k + t - k = t := by omega
          have hkt3 : (k : Int) ≤ (k : Int) + (t : Int) := by omega
          obtain ⟨tx, htx⟩ : ∃ tx, tx = Ln.wholeT ((R.drop k).take t) := ⟨_, rfl⟩
          obtain ⟨cm, hcm⟩ : ∃ cm, cm = Ln.isCmd ((R.drop k).take t) := ⟨_, rfl⟩
          have HG : Hid (Ln.linesA k [] (R.drop k) = Ln.emit k ((R.drop k).take t) ++ Ln.linesA (k + t) [] (R.drop (k + t)) ∧ tx = Ln.wholeT ((R.drop k).take t) ∧ cm = Ln.isCmd ((R.drop k).take t)) := by
            refine ⟨?_, htx, hcm⟩
            have := Ln.linesA_tog (R.drop k) k [] (by have hN := HN.out; intro e; have := congrArg List.length e; simp at this; omega)
            rw [← HTT.out] at this
            simpa using this
          have hxs : tx.length ≤ 65537 := by
            have h1 := whole_len ((R.drop k).take t)
            have h2 := wt_take (R.drop k) t
            have h3 := wt_drop R k
            have h4 := HWT.out
            rw [htx]; omega
          rw [← htx, ← hcm] at H2
          clear htx hcm
          obtain ⟨ty, hty⟩ : ∃ ty, ty = ba tx := ⟨_, rfl⟩
          rw [← hty] at H2
          have hys : ty.size ≤ 65537 := by rw [hty, ba_size]; exact hxs
          obtain ⟨z, hz⟩ : ∃ z, z = ba (Lib.trimS (bl ty) [32, 9]) := ⟨_, rfl⟩
          have HTR : Hid (∀ W, Calls Tryd.prog 25 #[.string ty, .string ⟨#[32, 9]⟩] W fun e w' => e = .returned (.string z) ∧ Below W.heap.size W w') := fun W => by rw [hz]; exact trim_blank ty W (by omega)
          have HTY : Hid (ty = ba tx ∧ bl z = Lib.trimS tx [32, 9]) := ⟨hty, by rw [hz, bl_ba, hty, bl_ba]⟩
          clear hty hz hxs
          go_wp2_with fail
          refine H2.out.mono ?_
          rintro e w2 ⟨rfl, h1⟩
          have HB2 : Hid (Below wr.heap.size wr w2) := h1
          clear h1
          go_wp2_with fail
          refine (HTR.out _).mono ?_
          rintro e w4 ⟨rfl, h1⟩
          have hbx := box_kept h1
          have h24 : Below wr.heap.size wr w4 := below_trans (HB2.out.alloc HB2.out.size _) h1 (Nat.le_trans HB2.out.size (by simp))
          have HI4 : Hid (RI R (.slice (some ⟨b, o, none⟩) (n + 1) c) w.heap.size w1 k acc u6 w4) := HI.out.below h24
          have hbl := HB2.out.size
          have hbl1 := HI.out.bel.size
          have HX : Hid (w4.heap[w2.heap.size]? = some (.cells #[.string ty, .int .i64 0, .bool cm] 30 (0, 0)) ∧ w1.heap.size ≤ w2.heap.size ∧ w2.heap.size < w4.heap.size) := ⟨hbx, Nat.le_trans hbl1 hbl, (Array.getElem?_eq_some_iff.1 hbx).1⟩
          clear h1 hbx h24 hbl hbl1
          by_cases hbz : bl z = []
          · have hz0 : z = ⟨#[]⟩ := bl_inj hbz
            subst hz0
            have HI5 : Hid (RI R (.slice (some ⟨b, o, none⟩) (n + 1) c) w.heap.size w1 (k + t) acc u6 w4) := by
              have h := HI4.out
              refine ⟨h.bel, h.own, h.len, ?_, h.wd, h.fbk, h.mx, h.flt⟩
              rw [h.eq, HG.out.1, emit_no, List.nil_append]
              unfold Ln.blank
              rw [← HG.out.2.1, ← HTY.out.2]; rfl
            clear HI HI4 hbz
            go_wp2_with fail
            go_roundw
            case rel => exact ⟨k + t, acc, by omega, by go_num, by go_num, HI5⟩
            case measure => simp [intOf]; omega
          · have t1 : ¬ z.toList = [] := by rw [Lib.toList_data]; exact hbz
            have t2 : z.toList.isEmpty = false := nonempty hbz
            have HEM : Hid (Ln.emit k ((R.drop k).take t) = [⟨tx, k + 1, cm⟩]) := by
              unfold Hid
              rw [HG.out.2.1, HG.out.2.2]
              refine emit_yes ?_
              unfold Ln.blank
              rw [← HG.out.2.1, ← HTY.out.2]
              simpa using hbz
            have d0 := cell_in HX.out.1 0 rfl
            have d1 := cell_in HX.out.1 1 rfl
            have d2 := cell_in HX.out.1 2 rfl
            have g1 : w4.frozen? ⟨w2.heap.size, 1, none⟩ = false := by simp [World.frozen?, HX.out.1]
            have hrow := HI4.out.own
            obtain ⟨a, cap, ha⟩ : ∃ a cap, u6 = .slice a acc.length cap := by
              rcases hrow.2 with ⟨h1, h2⟩ | ⟨g, cap, cur, rfl, _⟩
              · exact ⟨_, _, by rw [h1, h2]⟩
              · exact ⟨_, _, rfl⟩
            subst ha
            have hal := HI4.out.len
            obtain ⟨m, hme⟩ : ∃ m, m = acc.length := ⟨_, rfl⟩
            have HME : Hid (m = acc.length) := hme
            rw [← hme] at hrow HI4 HI hal ⊢
            have hnr : (Value.slice a m cap).ownBlock ≠ some w2.heap.size := fun e => by
              have h1 := (HI.out.own.lt _ e).2
              have h2 := HB2.out.size
              omega
            clear hbz hme HI
            by_cases hm : m = 4096
            · subst hm
              have e0 := cell_in HI4.out.fbk 0 rfl
              have e1 := cell_in HI4.out.fbk 1 rfl
              have q0 : w4.frozen? ⟨w.heap.size, 0, none⟩ = false := by simp [World.frozen?, HI4.out.fbk]
              have q1 : w4.frozen? ⟨w.heap.size, 1, none⟩ = false := by simp [World.frozen?, HI4.out.fbk]
              have hnb : ¬ w.heap.size = w2.heap.size := by have := HI4.out.flt; have := HX.out.2.1; omega
              clear hrow
              go_wp2_with fail
              have k1 : (w4.setCell ⟨w2.heap.size, 1, none⟩ (.int .i64 ((k : Int) + 1))).cell? ⟨w2.heap.size, 1, none⟩ = some (.int .i64 ((k : Int) + 1)) := cell_in (heap_set (i := 1) HX.out.1 _) 1 rfl
              have k2 : (w4.setCell ⟨w2.heap.size, 1, none⟩ (.int .i64 ((k : Int) + 1))).heap[w.heap.size]? = some (.cells #[.int .i64 0, .int .i64 0] 25 (0, 0)) := by
                rw [Below.heap_setCell _ _ _ _ (by show w.heap.size ≠ w2.heap.size; exact hnb)]; exact HI4.out.fbk
              have k3 : Below w1.heap.size w1 (w4.setCell ⟨w2.heap.size, 1, none⟩ (.int .i64 ((k : Int) + 1))) := HI4.out.bel.setCell (p := ⟨w2.heap.size, 1, none⟩) HX.out.2.1 _
              generalize w4.setCell ⟨w2.heap.size, 1, none⟩ (.int .i64 ((k : Int) + 1)) = w5 at k1 k2 k3 ⊢
              have HK2 : Hid (w5.heap[w.heap.size]? = some (.cells #[.int .i64 0, .int .i64 0] 25 (0, 0)) ∧ Below w1.heap.size w1 w5) := ⟨k2, k3⟩
              clear d0 d1 d2 g1 e0 e1 q0 q1
              have e0 := cell_in k2 0 rfl
              have e1 := cell_in k2 1 rfl
              have q0 : w5.frozen? ⟨w.heap.size, 0, none⟩ = false := by simp [World.frozen?, k2]
              have q1 : w5.frozen? ⟨w.heap.size, 1, none⟩ = false := by simp [World.frozen?, k2]
              clear k2 k3
              have hmix : Tryd.prog.follows .mixedOrders = true := by kernel_rfl
              go_region_o
              go_wp2_with fail
              obtain ⟨j0, j1⟩ := box2 HK2.out.1 (.int .i64 5) (.int .i64 ((k : Int) + 1))
              have j1' : ((w5.setCell ⟨w.heap.size, 0, none⟩ (.int .i64 5)).setCell ⟨w.heap.size, 1, none⟩ (.int .i64 ((k : Int) + 1))).drew.cell? ⟨w.heap.size, 1, none⟩ = some (.int .i64 ((k : Int) + 1)) := j1
              have HE : Hid (Ln.readL (bl s) = ⟨[], 5, k + 1⟩) := by
                unfold Hid
                have h := HR.out.1
                rw [Ln.readL_many (x := ⟨tx, k + 1, cm⟩) (by rw [bl_length]; have := HR.out.2; omega) (by rw [← h]; exact HO.out) ?_]
                rw [← h, HI4.out.eq, HG.out.1, HEM.out, List.getElem?_append_right (by rw [← HME.out]; exact Nat.le_refl _), ← HME.out]
                rfl
              refine bodyPost_ret (v := .tuple #[.slice none 0 0, .agg #[.int .i64 5, .int .i64 ((k : Int) + 1)]]) (by simp [results, Tryd.results9, go_sem, j0, j1']; try rfl) rfl ?_
              exact ⟨_, by rw [HE.out]; rfl, by rw [HE.out]; exact owns_nil _ _ _ _, (below_set2 (below_trans HB1.out.1 HK2.out.2 (Nat.le_of_lt HB1.out.2.2.2)) (Nat.le_refl _) _ _).drew⟩
            · have hmi : ¬ (m : Int) = 4096 := by omega
              have hmb : ((m : Int) == 4096) = false := by simpa using hmi
              have hrow5 := row_set (i := 1) hrow hnr (.int .i64 ((k : Int) + 1))
              have hb5 : Below w1.heap.size w1 (w4.setCell ⟨w2.heap.size, 1, none⟩ (.int .i64 ((k : Int) + 1))) := HI4.out.bel.setCell (p := ⟨w2.heap.size, 1, none⟩) HX.out.2.1 _
              have hsz : (w4.setCell ⟨w2.heap.size, 1, none⟩ (.int .i64 ((k : Int) + 1))).heap.size = w4.heap.size := by simp [World.setCell]
              have hsz4 := HI4.out.bel.size
              clear hrow
              go_wp2_with (at_builtin; refine wpList_append_own _ rfl _ _ 22 rfl w1.heap.size 30 i0 (.agg #[.string ⟨#[]⟩, .int .i64 0, .bool false]) 3 32 Tryd.underlying22 hi hz0 hz1 hz2 rfl (by decide) _ _ _ rfl (hrow5.alloc _) ⟨w4.heap.size, 0, none⟩ 1 1 [.string ty, .int .i64 ((k : Int) + 1), .bool cm] rfl rfl ?c1 ?c2 ?c3 ?c4 ?c5 ?_)
              case c1 =>
                intro j u hj
                rw [add_none, Nat.zero_add]
                refine cell_in (cs := #[.string ty, .int .i64 ((k : Int) + 1), .bool cm]) (T := 30) ?_ j (by simpa using hj)
                rw [← hsz]
                show ((w4.setCell ⟨w2.heap.size, 1, none⟩ (.int .i64 ((k : Int) + 1))).heap.push _)[(w4.setCell ⟨w2.heap.size, 1, none⟩ (.int .i64 ((k : Int) + 1))).heap.size]? = _
                exact Array.getElem?_push_size
              case c2 => exact fun u hu => lns_one [⟨bl ty, k + 1, cm⟩] u (by simp only [lnsV, List.flatMap_cons, List.flatMap_nil, lnC, List.append_nil, ba_bl]; simpa using hu)
              case c3 => unfold maxLen; omega
              case c4 => omega
              case c5 => simp; omega
              intro v' w6 hown' hgrow _
              have hb6 : Below w1.heap.size w1 w6 := (hb5.alloc (by rw [hsz]; exact hsz4) _).grown hgrow (by simp; omega) (fun k hk => (hrow5.lt k hk).1)
              have HI6 : Hid (RI R (.slice (some ⟨b, o, none⟩) (n + 1) c) w.heap.size w1 (k + t) (acc ++ [⟨tx, k + 1, cm⟩]) v' w6) := by
                refine ⟨hb6, ?_, ?_, ?_, HW1.out.below hb6, (hb6.block _ HB1.out.2.2.2).trans HB1.out.2.2.1, HB1.out.2.1.below hb6 HB1.out.2.1.pos, HB1.out.2.2.2⟩
                · rw [List.length_append, ← HME.out, lnsV_snoc]
                  have e1 : lnC ⟨tx, k + 1, cm⟩ = [.string ty, .int .i64 ((k : Int) + 1), .bool cm] := by rw [HTY.out.1]; rfl
                  rw [e1]; exact hown'
                · rw [List.length_append, ← HME.out]; simp; omega
                · rw [HI4.out.eq, HG.out.1, HEM.out]; simp
              clear hown' hgrow hb6 hrow5 hb5 HI4
              go_wp2_with fail
              go_roundw
              case rel => exact ⟨k + t, _, by omega, by go_num, by go_num, HI6⟩
              case measure => simp [intOf]; omega
        · have hke : ¬ (k : Int) < (n : Int) + 1 := by omega
          have HE : Hid (Ln.readL (bl s) = ⟨acc, 0, 0⟩) := by
            unfold Hid
            have h := HR.out.1
            have h2 : Ln.linesA 0 [] R = acc := by
              rw [HI.out.eq, List.drop_of_length_le (by have := HN.out; omega)]; simp [Ln.linesA]
            rw [Ln.readL_ok (by rw [bl_length]; have := HR.out.2; omega) (by rw [← h]; exact HO.out) (by rw [← h, h2]; exact HI.out.len), ← h, h2]
          have e0 := cell_in HI.out.fbk 0 rfl
          have e1 := cell_in HI.out.fbk 1 rfl
          have q0 : wr.frozen? ⟨w.heap.size, 0, none⟩ = false := by simp [World.frozen?, HI.out.fbk]
          have q1 : wr.frozen? ⟨w.heap.size, 1, none⟩ = false := by simp [World.frozen?, HI.out.fbk]
          obtain ⟨g0, g1⟩ := box2 HI.out.fbk (.int .i64 0) (.int .i64 0)
          go_wp2_with fail
          refine bodyPost_ret (v := .tuple #[u6, .agg #[.int .i64 0, .int .i64 0]]) (by simp [results, Tryd.results9, go_sem, g0, g1]; try rfl) rfl ?_
          exact ⟨_, by rw [HE.out]; rfl, by rw [HE.out]; exact owns_set2 HI.out.own HI.out.flt (Nat.le_of_lt HI.out.flt) _ _, below_set2 (below_trans HB1.out.1 HI.out.bel (Nat.le_of_lt HB1.out.2.2.2)) (Nat.le_refl _) _ _⟩

theorem read_any (s : ByteArray) (w : World) (hs : s.size ≤ 9223372036854775807) (hm : Mx w) : Calls Tryd.prog 9 #[.string s] w (ReadPost s w) := by
  by_cases h : 65536 < s.size
  · exact read_far s w h hs
  · exact read_main s w (by omega) hm
end Go.Proofs.YtefhpoklehmlhaaDoor
