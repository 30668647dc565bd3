/-
  What Bind answers.
-/
import Derived.Test.YtgbleikjdecikaaDoorBB4
namespace Go.Proofs.YtgbleikjdecikaaDoor
open Go.RowKit Go.Shelf
open Ex (useN Fr)

/-- A line with a value in place of a name. -/
def bindZ (name value : ByteArray) (x : Lz) : Lz := ⟨ba (bindL (usesB name) (quoteD (bl value)) (bl x.text)), x.at_, x.cmd⟩
theorem usesB_len (name : ByteArray) : (usesB name).length ≤ 3 := by
  unfold usesB
  have h1 := mem_take (useA name) []
  have h2 := mem_take (useB name) (takeU (useA name) [])
  have h3 := mem_take (useC name) (takeU (useB name) (takeU (useA name) []))
  simp only [List.length_nil] at h1
  split <;> omega
theorem take_set3 {xs P : List Value} {k n : Nat} (hx : xs.length = n * 3) (hk : k < n) (hP : xs.take (k * 3) = P) (a b c : Value) : (((xs.set (k * 3) a).set (k * 3 + 1) b).set (k * 3 + 2) c).take ((k + 1) * 3) = P ++ [a, b, c] := by
  have hl : P.length = k * 3 := by rw [← hP, List.length_take]; omega
  have hd : (xs.drop (k * 3)).length = n * 3 - k * 3 := by rw [List.length_drop, hx]
  obtain ⟨x0, x1, x2, r, hr⟩ : ∃ x0 x1 x2 r, xs.drop (k * 3) = x0 :: x1 :: x2 :: r := by
    match h : xs.drop (k * 3), hd with
    | [], hd => simp at hd; omega
    | [_], hd => simp at hd; omega
    | [_, _], hd => simp at hd; omega
    | x0 :: x1 :: x2 :: r, _ => exact ⟨x0, x1, x2, r, rfl⟩
  have e : xs = P ++ x0 :: x1 :: x2 :: r := by rw [← hP, ← hr, List.take_append_drop]
  rw [e, ← hl]
  simp only [List.set_append_right _ _ (Nat.le_refl _), List.set_append_right _ _ (Nat.le_add_right _ _), Nat.sub_self, Nat.add_sub_cancel_left, List.set_cons_zero, List.set_cons_succ]
  have : (k + 1) * 3 = P.length + 3 := by rw [hl, Nat.succ_mul]
  rw [this, List.take_length_add_append]; rfl
theorem row3 {w : World} {base n c g : Nat} {xs : List Value} (h : w.ownsRow base 43 3 (.slice (some ⟨g, 0, none⟩) n c) n xs) {k : Nat} (hk : k < n) :
    (∃ u, w.cell? ⟨g, k * 3, none⟩ = some u) ∧ (∃ u, w.cell? ⟨g, k * 3 + 1, none⟩ = some u) ∧ (∃ u, w.cell? ⟨g, k * 3 + 2, none⟩ = some u) ∧ w.frozen? ⟨g, k * 3, none⟩ = false ∧ w.frozen? ⟨g, k * 3 + 1, none⟩ = false ∧ w.frozen? ⟨g, k * 3 + 2, none⟩ = false := by
  have hx : xs.length = n * 3 := h.1
  rcases row_src h with ⟨h1, h2, _⟩ | ⟨g', cap, hv, hg, hcap, hl, hc⟩
  · omega
  · simp only [Value.slice.injEq, Option.some.injEq, Addr.mk.injEq, and_true, true_and] at hv
    obtain ⟨rfl, rfl⟩ := hv
    have key : ∀ j, j < n * 3 → ∃ u, w.cell? ⟨g, j, none⟩ = some u := fun j hj => by
      have := hc j _ (List.getElem?_eq_getElem (by omega))
      rw [add_none, Nat.zero_add] at this; exact ⟨_, this⟩
    exact ⟨key _ (by omega), key _ (by omega), key _ (by omega), V.frozen_row h _, V.frozen_row h _, V.frozen_row h _⟩
theorem lz_map_snoc (f : Lz → Lz) (l : List Lz) (k : Nat) (x : Lz) (h : l[k]? = some x) : lzsV ((l.take (k + 1)).map f) = lzsV ((l.take k).map f) ++ lzC (f x) := by
  have hk := (List.getElem?_eq_some_iff.1 h)
  obtain ⟨h1, h2⟩ := hk
  rw [List.take_succ_eq_append_getElem h1, h2, List.map_append]
  exact lzsV_snoc _ _
/-- What the loop of Bind keeps: the row that is filled. -/
def BD (l : List Lz) (f : Lz → Lz) (g : Nat) (w3 wr : World) (n k : Nat) : Prop := ∃ xs, wr.ownsRow g 43 3 (.slice (some ⟨g, 0, none⟩) n n) n xs ∧ xs.take (k * 3) = lzsV ((l.take k).map f) ∧ Below g w3 wr
theorem owns_base {w : World} {base base' n k : Nat} {v : Value} {e : TypeId} {xs : List Value} (h : w.ownsRow base e k v n xs) (hb : base' ≤ base) : w.ownsRow base' e k v n xs := by
  refine ⟨h.1, ?_⟩
  rcases h.2 with h0 | ⟨g, cap, cur, hv, hg, rest⟩
  · exact .inl h0
  · exact .inr ⟨g, cap, cur, hv, by omega, rest⟩
set_option maxRecDepth 20000 in
set_option maxHeartbeats 1600000 in
theorem bind_any (v : Value) (l : List Lz) (name value : ByteArray) (w : World) (hm : Mx w) (hl : l.length ≤ 1000000) (hn : name.size ≤ 900000) (hv : value.size ≤ 400000) (hz : ∀ x ∈ l, x.text.size ≤ 1000000 ∧ (2 * value.size + 1) * x.text.size ≤ 500000000) (hW : LZ w.heap.size w v l) :
    Calls Tryd.prog 15 #[v, .string name, .string value] w fun e w' => ∃ v', e = .returned v' ∧ w'.ownsRow w.heap.size 43 3 v' l.length (lzsV (l.map (bindZ name value))) ∧ Below w.heap.size w w' := by
  obtain ⟨i0, hi, hz0, hz1, hz2⟩ := info_of infoL
  obtain ⟨a, c, rfl, hc⟩ := hW.slice
  obtain ⟨n, hnn⟩ : ∃ n, n = l.length := ⟨_, rfl⟩
  rw [← hnn] at hl hc hW
  obtain ⟨f, hf⟩ : ∃ f, f = bindZ name value := ⟨_, rfl⟩
  obtain ⟨q, hq⟩ : ∃ q, q = ba (quoteD (bl value)) := ⟨_, rfl⟩
  obtain ⟨U, hU⟩ : ∃ U, U = usesB name := ⟨_, rfl⟩
  have HNB : Hid (Calls Tryd.prog 23 #[.string name, .string value] w fun e w' => ∃ vU, e = .returned (.agg #[vU, .string q]) ∧ Words w'.heap.size w' vU U ∧ Below w.heap.size w w') := by
    rw [hq, hU]; exact newB_any name value w hm hn (by omega)
  have hqs : q.size ≤ 2 * value.size := by
    have := quoteD_len (bl value)
    rw [bl_length] at this
    rw [hq, ba_size]; exact this
  have hUl : U.length ≤ 1000 := by rw [hU]; have := usesB_len name; omega
  have HTX : Hid (∀ (x : Lz) (vU : Value) (W : World), x ∈ l → Words W.heap.size W vU U → Calls Tryd.prog 24 #[.agg #[vU, .string q], .string x.text] W fun e w' => e = .returned (.string (f x).text) ∧ Below W.heap.size W w') := fun x vU W hx hWd => by
    have hx2 := hz x hx
    have h9 : (q.size + 1) * x.text.size ≤ (2 * value.size + 1) * x.text.size := Nat.mul_le_mul_right _ (by omega)
    have := text_any vU U q x.text W hWd hUl hx2.1 (by omega) (by omega)
    rw [hf]
    unfold bindZ
    rw [← hU]
    have e : bl q = quoteD (bl value) := by rw [hq, bl_ba]
    rw [e] at this
    exact this
  have HW : Hid (n = l.length ∧ LZ w.heap.size w (.slice a n c) l ∧ ∀ x, (f x).at_ = x.at_ ∧ (f x).cmd = x.cmd) := ⟨hnn, hW, fun x => by rw [hf]; exact ⟨rfl, rfl⟩⟩
  rw [← hnn, ← hf]
  clear hnn hW hf hq hU hz hqs hUl hm
  go_enter Tryd.func15, Tryd.ntmps15
  go_wp2_with fail
  refine HNB.out.mono ?_
  rintro e w2 ⟨vU, rfl, hwd, hb2⟩
  have hsv : IsS vU := by obtain ⟨a, n, c, hv, _⟩ := hwd; exact ⟨a, n, c, hv⟩
  obtain ⟨ua, un, uc, rfl⟩ := hsv
  obtain ⟨w3, hw3⟩ : ∃ w3, w3 = w2.alloc (.cells #[.slice ua un uc, .string q] 70) := ⟨_, rfl⟩
  have z3 : w3.heap[w2.heap.size]? = some (.cells #[.slice ua un uc, .string q] 70 (0, 0)) := by rw [hw3]; exact alloc_last _ _
  have h23 : Below w2.heap.size w2 w3 := by rw [hw3]; exact (Below.refl _ _).alloc (Nat.le_refl _) _
  have H3 : Hid (w3.heap[w2.heap.size]? = some (.cells #[.slice ua un uc, .string q] 70 (0, 0)) ∧ Words w3.heap.size w3 (.slice ua un uc) U ∧ Below w.heap.size w w3) := ⟨z3, (hwd.below h23).mono h23.size, hb2.trans (h23.mono hb2.size)⟩
  clear z3 h23 hwd hb2
  have hs3 : w3.heap.size = w2.heap.size + 1 := by rw [hw3]; simp
  go_wp2_with (first | (at_make; refine wpList_make_full _ rfl _ _ 31 rfl w3.heap.size 43 i0 (.agg #[.string ⟨#[]⟩, .int .i64 0, .bool false]) 3 Tryd.underlying31 hi hz0 hz1 .i64 .i64 (n : Int) (n : Int) n rfl rfl rfl rfl ?m1 ?m2 ?m3 ?_) | fail)
  case m1 => rw [hz2]; omega
  case m2 => unfold maxLen; omega
  case m3 => rw [hw3]; exact Nat.le_refl _
  intro w4 hown hgrow
  have HB0 : Hid (BD l f (w2.heap.size + 1) w3 w4 n 0) := by
    refine ⟨_, hown, by simp [lzsV], ?_⟩
    rw [← hw3] at hgrow
    rw [← hs3]
    exact (Below.refl _ _).grown hgrow (Nat.le_refl _) (fun k hk => by cases hk)
  obtain ⟨gr, hgr⟩ : ∃ gr, gr = w2.heap.size + 1 := ⟨_, rfl⟩
  have hs3' : Hid (w3.heap.size = gr) := by unfold Hid; rw [hgr]; exact hs3
  rw [← hgr] at HB0 ⊢
  have hgl : Hid (w2.heap.size < gr) := by unfold Hid; omega
  clear hown hgrow hw3 hs3 hgr
  go_wp2_with fail
  go_loopw [19] (fun vi wr => ∃ k : Nat, k ≤ n ∧ vi = .int .i64 (k : Int) ∧ Hid (BD l f gr w3 wr n k)) (fun vi _ => n - (intOf vi).toNat)
  case atStart => exact ⟨0, Nat.zero_le _, rfl, HB0⟩
  case round =>
    obtain ⟨k, hk, rfl, HI⟩ := hrel
    by_cases hlt : k < n
    · have hil : (k : Int) < (n : Int) := by omega
      have hkl : k < l.length := by rw [← HW.out.1]; exact hlt
      obtain ⟨x, hx⟩ : ∃ x, l[k]? = some x := ⟨_, List.getElem?_eq_getElem hkl⟩
      obtain ⟨bb, oo, rfl, hbB, d0, d1, d2⟩ := HW.out.2.1.pick hx
      obtain ⟨xs, hown, htk, hbw⟩ := HI.out
      have hw3s : w.heap.size ≤ w3.heap.size := H3.out.2.2.size
      have hgs := hs3'.out
      have hwr : Below w.heap.size w wr := H3.out.2.2.trans (hbw.mono (by omega))
      have c0 := (hwr.cell (p := ⟨bb, oo + k * 3, none⟩) hbB).trans d0
      have c1 := (hwr.cell (p := ⟨bb, oo + k * 3 + 1, none⟩) hbB).trans d1
      have c2 := (hwr.cell (p := ⟨bb, oo + k * 3 + 2, none⟩) hbB).trans d2
      have HTx := fun W h => HTX.out x (.slice ua un uc) W (List.mem_of_getElem? hx) h
      obtain ⟨y, hy⟩ : ∃ y, y = (f x).text := ⟨_, rfl⟩
      rw [← hy] at HTx
      have HSN : Hid (lzsV ((l.take (k + 1)).map f) = lzsV ((l.take k).map f) ++ [.string y, .int .i64 x.at_, .bool x.cmd]) := by
        unfold Hid
        rw [lz_map_snoc f l k x hx]
        unfold lzC
        rw [hy, (HW.out.2.2 x).1, (HW.out.2.2 x).2]
      have hgl2 : gr < wr.heap.size := (hown.lt gr rfl).2
      obtain ⟨w5, hw5⟩ : ∃ w5, w5 = wr.alloc (.cells #[.string x.text, .int .i64 x.at_, .bool x.cmd] 43) := ⟨_, rfl⟩
      have z5 : w5.heap[wr.heap.size]? = some (.cells #[.string x.text, .int .i64 x.at_, .bool x.cmd] 43 (0, 0)) := by rw [hw5]; exact alloc_last _ _
      have h35 : Below gr w3 w5 := by rw [hw5]; exact hbw.alloc (by omega) _
      have hown5 : w5.ownsRow gr 43 3 (.slice (some ⟨gr, 0, none⟩) n n) n xs := by rw [hw5]; exact hown.alloc _
      have hwds : Words w5.heap.size w5 (.slice ua un uc) U := by
        have h1 : Words gr w3 (.slice ua un uc) U := by rw [← hgs]; exact H3.out.2.1
        exact (h1.below h35).mono (by have := h35.size; omega)
      have zb : w5.heap[w2.heap.size]? = some (.cells #[.slice ua un uc, .string q] 70 (0, 0)) := (h35.block _ hgl.out).trans H3.out.1
      have e0 := cell_in z5 0 rfl
      have e1 := cell_in z5 1 rfl
      have e2 := cell_in z5 2 rfl
      have HTx : Hid (Calls Tryd.prog 24 #[.agg #[.slice ua un uc, .string q], .string x.text] w5 fun e w' => e = .returned (.string y) ∧ Below w5.heap.size w5 w') := HTx w5 hwds
      have zw : wr.heap[w2.heap.size]? = some (.cells #[.slice ua un uc, .string q] 70 (0, 0)) := (hbw.block _ hgl.out).trans H3.out.1
      have u0 := cell_in zw 0 rfl
      have u1 := cell_in zw 1 rfl
      have hlw : w2.heap.size < wr.heap.size := by have := hgl.out; omega
      have H5 : Hid (∀ W, Below w5.heap.size w5 W → W.heap[wr.heap.size]? = some (.cells #[.string x.text, .int .i64 x.at_, .bool x.cmd] 43 (0, 0)) ∧ W.ownsRow gr 43 3 (.slice (some ⟨gr, 0, none⟩) n n) n xs ∧ Below gr w3 W) := fun W hW => ⟨(hW.block _ (Array.getElem?_eq_some_iff.1 z5).1).trans z5, owns_below hown5 hW, h35.trans (hW.mono (by have := h35.size; omega))⟩
      have HXS : Hid (xs.length = n * 3 ∧ xs.take (k * 3) = lzsV ((l.take k).map f)) := ⟨hown.1, htk⟩
      clear d0 d1 d2 hwr hx hy hown htk hbw hown5 hwds zb z5 h35 HI hgs hw3s hbB zw
      obtain ⟨xt, xa, xc⟩ := x
      simp only at c0 c1 c2 HTx e0 e1 e2 H5 HSN hw5
      go_wp2_with fail
      rw [← hw5]
      clear hw5 c0 c1 c2
      refine HTx.out.mono ?_
      rintro e w6 ⟨rfl, h6⟩
      obtain ⟨z6, hown6, hb6⟩ := H5.out w6 h6
      have f0 := cell_in z6 0 rfl
      have f3 : w6.frozen? ⟨wr.heap.size, 0, none⟩ = false := by simp [World.frozen?, z6]
      obtain ⟨w7, hw7⟩ : ∃ w7, w7 = w6.setCell ⟨wr.heap.size, 0, none⟩ (.string y) := ⟨_, rfl⟩
      have z7 : w7.heap[wr.heap.size]? = some (.cells #[.string y, .int .i64 xa, .bool xc] 43 (0, 0)) := by rw [hw7]; exact heap_set z6 _
      have hown7 : w7.ownsRow gr 43 3 (.slice (some ⟨gr, 0, none⟩) n n) n xs := by rw [hw7]; exact row_set hown6 (fun e => by have : gr = wr.heap.size := (by simpa [Value.ownBlock] using e); omega) _
      obtain ⟨⟨m0, p0⟩, ⟨m1, p1⟩, ⟨m2, p2⟩, r0, r1, r2⟩ := row3 hown6 hlt
      have f1 := cell_in z6 1 rfl
      have f2 := cell_in z6 2 rfl
      have hne1 : gr ≠ wr.heap.size := by omega
      have hne2 : wr.heap.size ≠ gr := by omega
      have hb7 : Below gr w3 w7 := by rw [hw7]; exact hb6.setCell (p := ⟨wr.heap.size, 0, none⟩) (by show gr ≤ wr.heap.size; omega) _
      clear h6 z6 hown6 hb6 H5 HTx e0 e1 e2 u0 u1
      have HR : Hid (BD l f gr w3 (((w7.setCell ⟨gr, k * 3, none⟩ (.string y)).setCell ⟨gr, k * 3 + 1, none⟩ (.int .i64 xa)).setCell ⟨gr, k * 3 + 2, none⟩ (.bool xc)) n (k + 1)) := by
        refine ⟨_, V.owns_put (V.owns_put (V.owns_put hown7 _) _) _, ?_, ((hb7.setCell (p := ⟨gr, k * 3, none⟩) (Nat.le_refl _) _).setCell (p := ⟨gr, k * 3 + 1, none⟩) (Nat.le_refl _) _).setCell (p := ⟨gr, k * 3 + 2, none⟩) (Nat.le_refl _) _⟩
        rw [take_set3 HXS.out.1 hlt HXS.out.2, HSN.out]
      rw [hw7] at HR
      clear hown7 hb7 z7 hw7
      go_wp2
      go_roundw
      case rel => exact ⟨k + 1, by omega, by go_num, HR⟩
      case measure => simp [intOf]; omega
    · have hil : ¬ (k : Int) < (n : Int) := by omega
      have hkn : k = n := by omega
      have HF : Hid (wr.ownsRow w.heap.size 43 3 (.slice (some ⟨gr, 0, none⟩) n n) n (lzsV (l.map f)) ∧ Below w.heap.size w wr) := by
        obtain ⟨xs, hown, htk, hbw⟩ := HI.out
        have h1 := H3.out.2.2.size
        have h2 := hs3'.out
        refine ⟨?_, H3.out.2.2.trans (hbw.mono (by omega))⟩
        have hx : xs = lzsV (l.map f) := by
          have h3 : xs.length = n * 3 := hown.1
          rw [hkn, List.take_of_length_le (by omega), List.take_of_length_le (by rw [← HW.out.1]; exact Nat.le_refl _)] at htk
          exact htk
        rw [hx] at hown
        exact owns_base hown (by omega)
      clear HI
      go_wp2
      go_ret
      exact ⟨_, rfl, HF.out.1, HF.out.2⟩
end Go.Proofs.YtgbleikjdecikaaDoor
