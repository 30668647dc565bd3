/-
  The document's own reader: ways, and Compile; what the statement RxCompiles answers.
-/
import Derived.Test.YtmmhajlfbjjocaaGreatRB
import Derived.Deep.RegionLaw
import Derived.Test.YtmmhajlfbjjocaaGreatR2
import Derived.Test.YtmmhajlfbjjocaaGreatR2b
namespace Go.Proofs.YtmmhajlfbjjocaaGreat
open Go.RowKit Go.Shelf RxSem


/-- What stands behind a way. -/
def Tail (o : Nat) (r : List UInt8) (res : Res) : Prop := (r.head? ≠ some 124 ∧ res = .ok [] r) ∨ ∃ t, r = 124 :: t ∧ P .ways o t res
theorem ways_cases {o : Nat} {t : List UInt8} {res : Res} (h : P .ways o t res) : (∃ y left, P .way o t (.bad y left) ∧ res = .bad y left) ∨ ∃ k r1 res2, P .way o t (.ok k r1) ∧ Tail o r1 res2 ∧ res = appR [.seq k] res2 := by
  cases h with
  | waysBad _ _ y l h1 => exact .inl ⟨y, l, h1, rfl⟩
  | waysOne _ _ r1 k h1 h2 => exact .inr ⟨k, r1, _, h1, .inl ⟨h2, rfl⟩, rfl⟩
  | waysNext _ _ r1 r2 k m h1 h2 => exact .inr ⟨k, _, _, h1, .inr ⟨r1, rfl, h2⟩, rfl⟩
  | waysLater _ _ r1 k y l h1 h2 => exact .inr ⟨k, _, _, h1, .inr ⟨r1, rfl, h2⟩, rfl⟩
/-- While ways are gathered: the node's box lies at Bn. -/
structure VG (Bn : Nat) (b : Nat) (s : ByteArray) (o : Nat) (w : World) (K : List Nd) (v : Value) (j : Nat) (W : World) : Prop where
  bi : BI b s j o 0 0 w W
  bn : w.heap.size < Bn
  nb : W.heap[Bn]? = some (.cells #[.int .i64 5, .slice none 0 0, v] 35 (0, 0))
  row : ∃ xs, W.ownsRow (w.heap.size + 1) 35 3 v K.length xs ∧ v.ownBlock ≠ some Bn ∧ NC W (fun q => w.heap.size < q ∧ q ≠ Bn ∧ v.ownBlock ≠ some q) K xs
structure VB (Bn : Nat) (b : Nat) (s : ByteArray) (w : World) (r : Res) (W : World) : Prop where
  ex : ∃ (i o' y left : Nat) (v : Value), r = .bad y left ∧ y ≠ 0 ∧ i ≤ s.size ∧ o' ≤ 17 ∧ BI b s i o' (y : Int) ((s.size - left : Nat) : Int) w W ∧ IsSl v ∧ W.heap[Bn]? = some (.cells #[.int .i64 5, .slice none 0 0, v] 35 (0, 0))
theorem VG.below {Bn b : Nat} {s : ByteArray} {o : Nat} {w : World} {K : List Nd} {v : Value} {j : Nat} {W W' : World} (h : VG Bn b s o w K v j W) (hb : Below W.heap.size W W') : VG Bn b s o w K v j W' := by
  obtain ⟨xs, h1, h2, h3⟩ := h.row
  exact ⟨h.bi.below hb, h.bn, (hb.block _ (Array.getElem?_eq_some_iff.1 h.nb).1).trans h.nb, xs, owns_below h1 hb, h2, NC_keep (fun q hq hl => ⟨hq, hb.block q hl⟩) _ _ h3⟩
theorem VG.wrote {Bn b : Nat} {s : ByteArray} {o : Nat} {w : World} {K : List Nd} {v : Value} {j j' : Nat} {W W' : World} (h : VG Bn b s o w K v j W) (hw : Wrote b W W') (hp : Par b s j' o 0 0 W') : VG Bn b s o w K v j' W' := by
  obtain ⟨xs, h1, h2, h3⟩ := h.row
  have hb := h.bi.bw
  have hn := h.bn
  refine ⟨h.bi.wrote hw hp, hn, (hw.block _ (Array.getElem?_eq_some_iff.1 h.nb).1 (by omega)).trans h.nb, xs, owns_wrote h1 hw (fun e => ?_), h2, NC_keep (fun q hq hl => ⟨hq, hw.block q hl (by omega)⟩) _ _ h3⟩
  have := (h1.lt b e).1
  omega
theorem VG.grow {Bn b : Nat} {s : ByteArray} {o : Nat} {w : World} {K : List Nd} {v v' : Value} {j : Nat} {W W1 W2 : World} {n : Nd} {k : Int} {sv kv : Value} {xs : List Value} (h : VG Bn b s o w K v j W) (h1 : Below W.heap.size W W1) (hrow : W.ownsRow (w.heap.size + 1) 35 3 v K.length xs) (hvb : v.ownBlock ≠ some Bn) (hnc : NC W (fun q => w.heap.size < q ∧ q ≠ Bn ∧ v.ownBlock ≠ some q) K xs) (hown : W2.ownsRow (w.heap.size + 1) 35 3 v' (K.length + 1) (xs ++ [.int .i64 k, sv, kv])) (hg : W1.grownBy W2 v.ownBlock) (ho : v'.ownBlock = v.ownBlock ∨ v'.ownBlock = some W1.heap.size) (hn : NA W (fun q => w.heap.size < q ∧ q ≠ Bn ∧ v.ownBlock ≠ some q) n k sv kv) : VG Bn b s o w (K ++ [n]) v' j (W2.setCell ⟨Bn, 2, none⟩ v') := by
  have hbw := h.bi.bw
  have hbn := h.bn
  have hlow : ∀ q, q < w.heap.size + 1 → v.ownBlock ≠ some q := fun q hq e => by have := (hrow.lt q e).1; omega
  have hkeep : ∀ q, q < W.heap.size → v.ownBlock ≠ some q → W2.heap[q]? = W.heap[q]? := fun q hq hne => by
    rw [hg.block q (Nat.lt_of_lt_of_le hq h1.size) (fun e => hne (by first | exact e | exact e.symm))]
    exact h1.block q hq
  have hnbl := (Array.getElem?_eq_some_iff.1 h.nb).1
  have hnb2 : W2.heap[Bn]? = some (.cells #[.int .i64 5, .slice none 0 0, v] 35 (0, 0)) := (hkeep _ hnbl hvb).trans h.nb
  have hO : Only Bn W2 (W2.setCell ⟨Bn, 2, none⟩ v') := Only.set _ _ _ _
  have hvn : v'.ownBlock ≠ some Bn := fun e => by
    rcases ho with e1 | e1
    · exact hvb (by rw [← e1]; exact e)
    · rw [e1] at e
      have := Option.some.inj e
      have := h1.size
      omega
  have hw2 : Wrote b w W2 := ⟨(hg.os.trans h1.os).trans h.bi.wr.os, (hg.tape.trans h1.tape).trans h.bi.wr.tape, (hg.output.trans h1.output).trans h.bi.wr.output, Nat.le_trans h.bi.wr.size (Nat.le_trans h1.size hg.size), fun q hq hb => (hkeep q (Nat.lt_of_lt_of_le hq h.bi.wr.size) (hlow q (by omega))).trans (h.bi.wr.block q hq hb)⟩
  refine ⟨⟨?_, ?_, ⟨hO.os.trans hw2.os, hO.tape.trans hw2.tape, hO.output.trans hw2.output, by rw [hO.size]; exact hw2.size, fun q hq hb => (hO.block q (by omega)).trans (hw2.block q hq hb)⟩, hbw⟩, hbn, ?_, xs ++ [.int .i64 k, sv, kv], ?_, hvn, ?_⟩
  · exact (hO.block b (by omega)).trans ((hkeep b h.bi.par.lt (hlow b (by omega))).trans h.bi.par)
  · exact (hO.block _ (by omega)).trans ((hkeep _ (Array.getElem?_eq_some_iff.1 h.bi.box).1 (hlow _ (by omega))).trans h.bi.box)
  · exact (heap_set hnb2 _).trans rfl
  · have := row_set hown hvn v' (i := 2)
    simpa using this
  · have hnc2 := NC_snoc hn K xs hrow.1 hnc
    refine NC_keep (fun q hq hl => ⟨⟨hq.1, hq.2.1, ?_⟩, ?_⟩) _ _ hnc2
    · rw [hO.block q hq.2.1]
      exact hkeep q hl hq.2.2
    · intro e
      rcases ho with e1 | e1
      · exact hq.2.2 (by rw [← e1]; exact e)
      · rw [e1] at e
        have := Option.some.inj e
        have := h1.size
        omega
theorem vb_grow {Bn b : Nat} {s : ByteArray} {i o : Nat} {y a : Int} {w W W1 W2 : World} {v v' : Value} {n : Nat} {xs : List Value} (h : BI b s i o y a w W) (hbn : w.heap.size < Bn) (hnb : W.heap[Bn]? = some (.cells #[.int .i64 5, .slice none 0 0, v] 35 (0, 0))) (h1 : Below W.heap.size W W1) (hrow : W.ownsRow (w.heap.size + 1) 35 3 v n xs) (hvb : v.ownBlock ≠ some Bn) (hg : W1.grownBy W2 v.ownBlock) : BI b s i o y a w (W2.setCell ⟨Bn, 2, none⟩ v') ∧ (W2.setCell ⟨Bn, 2, none⟩ v').heap[Bn]? = some (.cells #[.int .i64 5, .slice none 0 0, v'] 35 (0, 0)) := by
  have hbw := h.bw
  have hlow : ∀ q, q < w.heap.size + 1 → v.ownBlock ≠ some q := fun q hq e => by have := (hrow.lt q e).1; omega
  have hkeep : ∀ q, q < W.heap.size → v.ownBlock ≠ some q → W2.heap[q]? = W.heap[q]? := fun q hq hne => by
    rw [hg.block q (Nat.lt_of_lt_of_le hq h1.size) (fun e => hne (by first | exact e | exact e.symm))]
    exact h1.block q hq
  have hnbl := (Array.getElem?_eq_some_iff.1 hnb).1
  have hnb2 : W2.heap[Bn]? = some (.cells #[.int .i64 5, .slice none 0 0, v] 35 (0, 0)) := (hkeep _ hnbl hvb).trans hnb
  have hO : Only Bn W2 (W2.setCell ⟨Bn, 2, none⟩ v') := Only.set _ _ _ _
  have hw2 : Wrote b w W2 := ⟨(hg.os.trans h1.os).trans h.wr.os, (hg.tape.trans h1.tape).trans h.wr.tape, (hg.output.trans h1.output).trans h.wr.output, Nat.le_trans h.wr.size (Nat.le_trans h1.size hg.size), fun q hq hb => (hkeep q (Nat.lt_of_lt_of_le hq h.wr.size) (hlow q (by omega))).trans (h.wr.block q hq hb)⟩
  exact ⟨⟨(hO.block b (by omega)).trans ((hkeep b h.par.lt (hlow b (by omega))).trans h.par), (hO.block _ (by omega)).trans ((hkeep _ (Array.getElem?_eq_some_iff.1 h.box).1 (hlow _ (by omega))).trans h.box), ⟨hO.os.trans hw2.os, hO.tape.trans hw2.tape, hO.output.trans hw2.output, by rw [hO.size]; exact hw2.size, fun q hq hb => (hO.block q (by omega)).trans (hw2.block q hq hb)⟩, hbw⟩, (heap_set hnb2 _).trans rfl⟩
theorem VG.na {Bn b : Nat} {s : ByteArray} {o : Nat} {w : World} {K : List Nd} {v : Value} {j : Nat} {W Y : World} (h : VG Bn b s o w K v j W) (hy : ∀ q, q ≠ w.heap.size → Y.heap[q]? = W.heap[q]?) : NA Y (fun q => w.heap.size ≤ q) (.alt K) 5 (.slice none 0 0) v := by
  obtain ⟨xs, h1, _, h2⟩ := h.row
  rw [NA]
  refine ⟨rfl, rfl, ?_⟩
  rcases h1.2 with ⟨e1, e2⟩ | ⟨g, cap, cur, e1, e2, e3, e4, e5, e6, e7⟩
  · exact .inl ⟨e1, List.length_eq_zero_iff.1 e2⟩
  · refine .inr ⟨g, cap, cur, e1, by omega, (hy g (by omega)).trans e3, ?_⟩
    have h3 := NC_more (cur.toList.drop (K.length * 3)) _ _ h2
    rw [← e7, List.take_append_drop] at h3
    exact NC_keep (fun q hq _ => ⟨by omega, hy q (by omega)⟩) _ _ h3
theorem step_append_at {P : Program} (w : World) {ops : Array Oper} {o : Oper} {a : Go.Act} {K : Go.Act → World → Prop} {Q : Exit → Go.Act → World → Prop} {E : Prop} (hgd : o.guard = none) (s x : Operand) (t : TypeId)
    (ho : o.op = .call { callee := .builtin .append, args := #[s, x], argTypes := #[t, t] })
    (base : Nat) (e : TypeId) (i : TypeInfo) (z : Value) (size bytes : Nat) (ht : P.underlying t = some (.slice e)) (hi : P.info? e = some i) (hz : i.zero = some z)
    (hsize : i.size = size) (hby : i.bytes = bytes) (hzs : z.cells.size = size) (hsz : 0 < size)
    (v : Value) (n : Nat) (xs : List Value) (hs : a.eval s = v) (hown : w.ownsRow base e size v n xs)
    (ad : Addr) (m c : Nat) (news : List Value) (hx : a.eval x = .slice (some ad) m c) (hl : news.length = m * size) (hnews : ∀ j u, news[j]? = some u → w.cell? (ad.add j) = some u) (h1 : ∀ u ∈ news, u.oneCell' = true)
    (h63 : n + m ≤ maxLen) (hbytes : (n + m) * bytes ≤ 140737488355328) (hbase : base ≤ w.heap.size)
    (h : ∀ v' w', w'.ownsRow base e size v' (n + m) (xs ++ news) → w.grownBy w' v.ownBlock → (v'.ownBlock = v.ownBlock ∨ v'.ownBlock = some w.heap.size) → K (a.put o.dst v') w') :
    if Region.wanted o (yielded ops a.tmps) = true then Oper.wp P o a w K Q else E := by
  have hw : Region.wanted o (yielded ops a.tmps) = true := by simp [Region.wanted, hgd]
  rw [if_pos hw]
  obtain ⟨v', w', hr, h2, h3, h4, h5⟩ := run_append_own_at (P := P) w base t o.type e i z size bytes ht hi hz hsize hby hzs hsz v n xs hown ad m c news hl hnews h1 h63 hbytes hbase
  unfold Oper.wp execOp
  simp only [ho, resolve, invoke, builtin, Sem.run_bind, Sem.run_pure, Result.andThen_ok, List.map_toArray, List.map_cons, List.map_nil, hs, hx, hr]
  exact h v' w' h2 h3 h5
theorem run_kid (w : World) (ty : TypeId) (base : Nat) (v : Value) (n : Nat) (xs : List Value) (hown : w.ownsRow base 35 3 v n xs) (hn : n ≤ 2000) (hbase : base ≤ w.heap.size) (k : Int) (sv kv : Value) (hsv : sv.oneCell' = true) (hkv : kv.oneCell' = true) : ∃ v' w', (Builtin.append_ #[33, 33] ty #[v, .slice (some ⟨w.heap.size, 0, none⟩) 1 1]).run Tryz.prog (w.alloc (.cells #[.int .i64 k, sv, kv] 35)) = .ok v' w' ∧ w'.ownsRow base 35 3 v' (n + 1) (xs ++ [.int .i64 k, sv, kv]) ∧ (w.alloc (.cells #[.int .i64 k, sv, kv] 35)).grownBy w' v.ownBlock ∧ (v'.ownBlock = v.ownBlock ∨ v'.ownBlock = some (w.alloc (.cells #[.int .i64 k, sv, kv] 35)).heap.size) := by
  obtain ⟨i0, hif, hz0, hz1, hz2⟩ := info_parts infoN
  obtain ⟨v', w', hr, h2, h3, h4, h5⟩ := run_append_own_at (P := Tryz.prog) (w.alloc (.cells #[.int .i64 k, sv, kv] 35)) base 33 ty 35 i0 (.agg #[.int .i64 0, .slice none 0 0, .slice none 0 0]) 3 56 Tryz.underlying33 hif hz0 hz1 hz2 rfl (by decide) v n xs (hown.alloc _) ⟨w.heap.size, 0, none⟩ 1 1 [.int .i64 k, sv, kv] rfl (by
    intro j' u hj'
    match j', hj' with
    | 0, hj' => simp at hj'; subst hj'; simp [Addr.add]
    | 1, hj' => simp at hj'; subst hj'; simp [Addr.add]
    | 2, hj' => simp at hj'; subst hj'; simp [Addr.add]
    | j' + 3, hj' => simp at hj') (by
    intro u hu
    simp only [List.mem_cons, List.not_mem_nil, or_false] at hu
    rcases hu with rfl | rfl | rfl
    · rfl
    · exact hsv
    · exact hkv) (by unfold maxLen; omega) (by omega) (by simp; omega)
  exact ⟨v', w', hr, h2, h3, h5⟩
theorem step_kid (w : World) {ops : Array Oper} {o : Oper} {a : Go.Act} {K : Go.Act → World → Prop} {Q : Exit → Go.Act → World → Prop} {E : Prop} (hgd : o.guard = none) (s x : Operand)
    (ho : o.op = .call { callee := .builtin .append, args := #[s, x], argTypes := #[33, 33] })
    (v v' : Value) (w1 w' : World) (hs : a.eval s = v) (hx : a.eval x = .slice (some ⟨w.heap.size, 0, none⟩) 1 1)
    (hrun : (Builtin.append_ #[33, 33] o.type #[v, .slice (some ⟨w.heap.size, 0, none⟩) 1 1]).run Tryz.prog w1 = .ok v' w')
    (h : K (a.put o.dst v') w') :
    if Region.wanted o (yielded ops a.tmps) = true then Oper.wp Tryz.prog o a w1 K Q else E := by
  have hw : Region.wanted o (yielded ops a.tmps) = true := by simp [Region.wanted, hgd]
  rw [if_pos hw]
  unfold Oper.wp execOp
  simp only [ho, resolve, invoke, builtin, Sem.run_bind, Sem.run_pure, Result.andThen_ok, List.map_toArray, List.map_cons, List.map_nil, hs, hx, hrun]
  exact h
theorem grown_box {w3 w9 : World} {o : Obj} {v : Value} {Bn : Nat} {c : Obj} (hg : (w3.alloc o).grownBy w9 v.ownBlock) (hb : w3.heap[Bn]? = some c) (hv : v.ownBlock ≠ some Bn) : w9.heap[Bn]? = some c := by
  have hl := (Array.getElem?_eq_some_iff.1 hb).1
  rw [hg.block Bn (by simp; omega) (fun e => hv (by first | exact e | exact e.symm)), Below.heap_alloc _ _ _ hl]
  exact hb
theorem frozen_of {w9 : World} {Bn : Nat} {c : Array Value} {T : TypeId} (hb : w9.heap[Bn]? = some (.cells c T (0, 0))) (q : Nat) : w9.frozen? ⟨Bn, q, none⟩ = false := by simp [World.frozen?, hb]
theorem appR_snoc (K : List Nd) (n : Nd) (res : Res) : appR K (appR [n] res) = appR (K ++ [n]) res := by
  cases res <;> simp [appR]
theorem ways_tr {o : Nat} {t : List UInt8} {res : Res} (h : P .ways o t res) : ∃ tr, P .way o t tr ∧ ((∃ y left, tr = .bad y left ∧ res = .bad y left) ∨ ∃ k r1 res2, tr = .ok k r1 ∧ Tail o r1 res2 ∧ res = appR [.seq k] res2) := by
  rcases ways_cases h with ⟨y, left, h1, h2⟩ | ⟨k, r1, res2, h1, h2, h3⟩
  · exact ⟨_, h1, .inl ⟨y, left, rfl, h2⟩⟩
  · exact ⟨_, h1, .inr ⟨k, r1, res2, rfl, h2, h3⟩⟩
theorem way_left {o : Nat} {t : List UInt8} {tr : Res} (h : P .way o t tr) : ∀ k r1, tr = .ok k r1 → r1.length ≤ t.length := fun _ _ e => (h.len e).1
set_option maxRecDepth 20000 in
set_option maxHeartbeats 2000000 in
theorem rways_any (m : Nat) (hT : RWay m) : RWays m := by
  intro b s i o w r h hs hi hm ho hP
  obtain ⟨wa, hwa, hBI⟩ := BI.start h
  have HB : Hid (BI b s i o 0 0 w wa) := hBI
  obtain ⟨B, hB⟩ : ∃ B, B = w.heap.size := ⟨_, rfl⟩
  have HBw : Hid (B = w.heap.size) := hB
  have HWy : Hid (∀ j W tr, Par b s j o 0 0 W → j ≤ s.size → i ≤ j → P .way o ((bl s).drop j) tr → Calls Tryz.prog 31 #[.pointer (some ⟨b, 0, none⟩)] W (PPost .seq b s o W tr)) := fun j W tr h1 h2 h3 h4 => hT b s j o W tr h1 hs h2 (by omega) ho h4
  have HPk : Hid (∀ (j : Nat) (hj : j < s.size) W, Par b s j o 0 0 W → Calls Tryz.prog 17 #[.pointer (some ⟨b, 0, none⟩)] W fun e w' => e = .returned (.tuple #[.int .u8 (s[j].toNat : Int), .bool true]) ∧ Par b s j o 0 0 w' ∧ Below W.heap.size W w') := fun j hj W hP => peek_some b s j o 0 W hP hj
  have HPn : Hid (∀ j o' y a W, s.size ≤ j ∨ y ≠ 0 → Par b s j o' y a W → Calls Tryz.prog 17 #[.pointer (some ⟨b, 0, none⟩)] W fun e w' => e = .returned (.tuple #[.int .u8 0, .bool false]) ∧ Par b s j o' y a w' ∧ Below W.heap.size W w') := fun j o' y a W h1 h2 => peek_none b s j o' y a W h2 h1
  clear hBI h
  obtain ⟨tr, hw, hcs⟩ := ways_tr hP
  have HCs : Hid _ := hcs
  have hwl := way_left hw
  have HWc : Hid (Calls Tryz.prog 31 #[.pointer (some ⟨b, 0, none⟩)] wa (PPost .seq b s o wa tr)) := HWy.out i wa _ HB.out.par hi (Nat.le_refl _) hw
  clear hw hcs hP
  go_enter Tryz.func16, Tryz.ntmps16
  go_wp2_with fail
  rw [← hwa, ← hB]
  clear hwa hB
  refine HWc.out.mono ?_
  rintro e w3 ⟨hw3, k, sv, kv, rfl, ⟨a2, n2, c2, rfl⟩, ⟨a3, n3, c3, rfl⟩, hpost⟩
  obtain ⟨Bn, hBn⟩ : ∃ Bn, Bn = w3.heap.size + 1 := ⟨_, rfl⟩
  obtain ⟨W0, hW0, hB0, hS0, q1, q2⟩ := two w3 (.cells #[.int .i64 k, .slice a2 n2 c2, .slice a3 n3 c3] 35) (.cells #[.int .i64 5, .slice none 0 0, .slice (some ⟨w3.heap.size, 0, none⟩) 1 1] 35)
  have HBn : Hid (w.heap.size < Bn) := by
    have := HB.out.facts.2.2.2.2
    have := hw3.size
    show w.heap.size < Bn
    omega
  have H0 : Hid ((∃ (j : Nat) (K : List Nd) (v : Value) (r' : Res), i ≤ j ∧ j ≤ s.size ∧ K.length ≤ j + 1 ∧ Hid (VG Bn b s o w K v j W0 ∧ Tail o ((bl s).drop j) r' ∧ r = appR K r')) ∨ Hid (VB Bn b s w r W0)) := by
    have hbz := HB.out.facts.2.2.2.2
    have hsz3 := hw3.size
    have hbw := HB.out.bw
    rcases HCs.out with ⟨y, left, htr, hrr⟩ | ⟨k0, r1, res2, htr, htl, hrr⟩
    · subst htr
      obtain ⟨hy, i', o', hi', ho', hpar⟩ := hpost
      exact .inr ⟨i', o', y, left, _, hrr, hy, hi', ho', (HB.out.wrote hw3 hpar).below hB0, ⟨_, _, _, rfl⟩, by rw [hBn]; exact q2⟩
    · subst htr
      obtain ⟨hr1, hr2, hpar, hna⟩ := hpost
      obtain ⟨q, hq9⟩ : ∃ q, q = s.size - r1.length := ⟨_, rfl⟩
      rw [← hq9] at hpar hr2
      have hl9 := hwl _ _ rfl
      rw [drop_len] at hl9
      refine .inl ⟨q, [.seq k0], .slice (some ⟨w3.heap.size, 0, none⟩) 1 1, res2, by omega, by omega, by simp, ⟨(HB.out.wrote hw3 hpar).below hB0, HBn.out, by rw [hBn]; exact q2, [.int .i64 k, .slice a2 n2 c2, .slice a3 n3 c3], ⟨rfl, .inr ⟨w3.heap.size, 1, _, rfl, by omega, q1, Nat.le_refl _, by unfold maxLen; omega, rfl, rfl⟩⟩, ?_, ?_⟩, by rw [← hr2]; exact htl, hrr⟩
      · intro e
        simp [Value.ownBlock] at e
        omega
      · rw [NC]
        refine ⟨k, _, _, [], rfl, NA_keep (fun x hx hl => ⟨⟨by omega, by omega, ?_⟩, hB0.block x hl⟩) _ _ _ _ hna, by rw [NC]; trivial⟩
        intro e
        simp [Value.ownBlock] at e
        omega
  clear hpost hw3 hB0 hS0 q1 q2 HCs hwl HWc HB
  simp only [nodeV]
  go_wp2_with fail
  rw [← hW0, ← hBn]
  clear hW0 hBn
  go_loopw [] (fun wr => (∃ (j : Nat) (K : List Nd) (v : Value) (r' : Res), i ≤ j ∧ j ≤ s.size ∧ K.length ≤ j + 1 ∧ Hid (VG Bn b s o w K v j wr ∧ Tail o ((bl s).drop j) r' ∧ r = appR K r')) ∨ Hid (VB Bn b s w r wr)) (fun wr => WM b s wr)
  case atStart => exact H0.out
  case round =>
    clear H0
    rcases hrel with ⟨j, K, v, r', hij, hj, hKj, HG⟩ | HW
    · obtain ⟨xs, hrow, hvb, hnc⟩ := HG.out.1.row
      obtain ⟨n1, hn1⟩ : ∃ n1, n1 = K.length := ⟨_, rfl⟩
      obtain ⟨a1, c1, hv⟩ := row_slice hrow
      rw [← hn1] at hv hKj
      have HN1 : Hid (n1 = K.length) := hn1
      subst hv
      have HI : Hid (VG Bn b s o w K (.slice a1 n1 c1) j wr) := HG.out.1
      have hTl := HG.out.2.1
      have HQr : Hid (r = appR K r') := HG.out.2.2
      have HM : Hid (WM b s wr = s.size - j + 1) := by
        show _ = _
        rw [WM_eq HG.out.1.bi.par, if_pos rfl]
      clear hrow hnc hvb HG hn1
      by_cases hjs : j < s.size
      · obtain ⟨x0, hx0⟩ : ∃ x : Nat, s[j].toNat = x := ⟨_, rfl⟩
        have HPk2 : Hid (∀ W, Par b s j o 0 0 W → Calls Tryz.prog 17 #[.pointer (some ⟨b, 0, none⟩)] W fun e w' => e = .returned (.tuple #[.int .u8 (x0 : Int), .bool true]) ∧ Par b s j o 0 0 w' ∧ Below W.heap.size W w') := fun W hW => by rw [← hx0]; exact HPk.out j hjs W hW
        by_cases h124 : x0 = 124
        · subst h124
          have hPw : P .ways o ((bl s).drop (j + 1)) r' := by
            have e0 := (u8_eq_iff s[j] 124).2 hx0
            rw [fi_drop hjs, e0] at hTl
            rcases hTl with ⟨h1, _⟩ | ⟨t, h1, h2⟩
            · exact absurd rfl h1
            · simp only [List.cons.injEq, true_and] at h1
              rw [h1]; exact h2
          clear hTl
          go_wp2_with fail
          refine (HPk2.out wr HI.out.bi.par).mono ?_
          rintro e w1 ⟨rfl, _, h1⟩
          have H1 : Hid (VG Bn b s o w K (.slice a1 n1 c1) j w1) := HI.out.below h1
          clear h1 HI
          have d1 : w1.cell? ⟨b, 1, none⟩ = some (.int .i64 (j : Int)) := H1.out.bi.par.cell 1
          have fz := H1.out.bi.par.frozen
          obtain ⟨m0, m1, m2⟩ := node_cells H1.out.nb
          have hBnb : ¬ Bn = b := by have := HBn.out; have := H1.out.bi.bw; omega
          have hbBn : ¬ b = Bn := fun e => hBnb e.symm
          obtain ⟨X, hX⟩ : ∃ X, X = w1.setCell ⟨b, 1, none⟩ (.int .i64 ((j : Int) + 1)) := ⟨_, rfl⟩
          have HX : Hid (VG Bn b s o w K (.slice a1 n1 c1) (j + 1) X) := by
            rw [hX]
            exact H1.out.wrote ((Wrote.refl b w1).set _) (H1.out.bi.par.at (j + 1) _ (by simp))
          obtain ⟨tr, hw, hcs⟩ := ways_tr hPw
          have HWp : Hid (P .way o ((bl s).drop (j + 1)) tr) := hw
          have HCs : Hid _ := hcs
          have hwl := way_left hw
          clear hw hcs hPw
          have mX : X.cell? ⟨Bn, 2, none⟩ = some (.slice a1 n1 c1) := (node_cells HX.out.nb).2.2
          go_wp2_with fail
          rw [← hX]
          clear hX d1 fz m0 m1 m2
          have hn2000 : n1 ≤ 2000 := by omega
          have hj1s : j + 1 ≤ s.size := by omega
          have hij1 : i ≤ j + 1 := by omega
          have HGo : Hid (∀ w3 : World, Wrote b X w3 → ∃ xs, w3.ownsRow (w.heap.size + 1) 35 3 (.slice a1 n1 c1) n1 xs ∧ (Value.slice a1 n1 c1).ownBlock ≠ some Bn ∧ NC w3 (fun q => w.heap.size < q ∧ q ≠ Bn ∧ (Value.slice a1 n1 c1).ownBlock ≠ some q) K xs ∧ w3.heap[Bn]? = some (.cells #[.int .i64 5, .slice none 0 0, .slice a1 n1 c1] 35 (0, 0)) ∧ (∀ x, (Value.slice a1 n1 c1).ownBlock = some x → x < X.heap.size) ∧ Bn < w3.heap.size ∧ w.heap.size + 1 ≤ w3.heap.size ∧ w3.cell? ⟨Bn, 2, none⟩ = some (.slice a1 n1 c1)) := fun w3 hw3 => by
            obtain ⟨xs, h1, h2, h3⟩ := HX.out.row
            rw [← HN1.out] at h1
            have hbw := HX.out.bi.bw
            have hbn := HX.out.bn
            have hnb3 := (hw3.block _ (Array.getElem?_eq_some_iff.1 HX.out.nb).1 (by omega)).trans HX.out.nb
            have hl3 := (Array.getElem?_eq_some_iff.1 hnb3).1
            exact ⟨xs, owns_wrote h1 hw3 (fun e => by have := (h1.lt b e).1; omega), h2, NC_keep (fun q hq hl => ⟨hq, hw3.block q hl (by omega)⟩) _ _ h3, hnb3, fun x hx => (h1.lt x hx).2, hl3, by omega, (node_cells hnb3).2.2⟩
          go_region_law (first | (refine step_kid w3 rfl (.tmp 30) (.tmp 33) rfl (.slice a1 n1 c1) _ _ _ rfl rfl hrun ?_) | (refine (if_pos rfl).mpr ?_; go_wp2_with (first | (go_at_call 31; refine (HWy.out (j + 1) X.drew tr (show Par b s (j + 1) o 0 0 X.drew from HX.out.bi.par) hj1s hij1 HWp.out).mono ?_; rintro e w3 ⟨hw3', k, sv, kv, rfl, ⟨a2, n2, c2, rfl⟩, ⟨a3, n3, c3, rfl⟩, hpost⟩; have hw3 : Wrote b X w3 := (Wrote.refl b X).drew.trans hw3'; obtain ⟨xs, hrow, hvb, hnc, hnb3, hlow1, hBnl, hbs, hm3⟩ := HGo.out w3 hw3; obtain ⟨v9, w9, hrun, hown', hgrow, hloc⟩ := run_kid w3 33 (w.heap.size + 1) (.slice a1 n1 c1) n1 xs hrow hn2000 hbs k (.slice a2 n2 c2) (.slice a3 n3 c3) rfl rfl; have hb9 := grown_box hgrow hnb3 hvb; have p2 := (node_cells hb9).2.2; have g9 := frozen_of hb9; obtain ⟨a9, c9, hv9⟩ := row_slice hown'; subst hv9; simp only [nodeV]) | fail)))
          all_goals
            have hB8 := (Below.refl w3.heap.size w3).alloc (Nat.le_refl _) (.cells #[.int .i64 k, .slice a2 n2 c2, .slice a3 n3 c3] 35)
            have H9 : Hid ((∃ (j' : Nat) (K' : List Nd) (v : Value) (r' : Res), i ≤ j' ∧ j' ≤ s.size ∧ K'.length ≤ j' + 1 ∧ Hid (VG Bn b s o w K' v j' (w9.setCell ⟨Bn, 2, none⟩ (.slice a9 (n1 + 1) c9)) ∧ Tail o ((bl s).drop j') r' ∧ r = appR K' r') ∧ j < j') ∨ Hid (VB Bn b s w r (w9.setCell ⟨Bn, 2, none⟩ (.slice a9 (n1 + 1) c9)))) := by
              have hpo := hpost
              have hxw := HX.out
              have hN1 := HN1.out
              rcases HCs.out with ⟨y, left, htr, hrr⟩ | ⟨k0, r1, res2, htr, htl, hrr⟩
              · subst htr
                obtain ⟨hy, i', o', hi', ho', hpar⟩ := hpo
                have hq := vb_grow (v' := .slice a9 (n1 + 1) c9) (hxw.bi.wrote hw3 hpar) hxw.bn hnb3 hB8 hrow hvb hgrow
                exact .inr ⟨i', o', y, left, _, by rw [HQr.out, hrr]; rfl, hy, hi', ho', hq.1, ⟨_, _, _, rfl⟩, hq.2⟩
              · subst htr
                obtain ⟨hr1, hr2, hpar, hna⟩ := hpo
                obtain ⟨q, hq9⟩ : ∃ q, q = s.size - r1.length := ⟨_, rfl⟩
                rw [← hq9] at hpar hr2
                have hl9 := hwl _ _ rfl
                rw [drop_len] at hl9
                have hvg := hxw.wrote hw3 hpar
                have hna9 : NA w3 (fun q => w.heap.size < q ∧ q ≠ Bn ∧ (Value.slice a1 n1 c1).ownBlock ≠ some q) (.seq k0) k (.slice a2 n2 c2) (.slice a3 n3 c3) := NA_keep (fun x hx hl => ⟨⟨by have hx' : X.heap.size ≤ x := hx; have := hxw.bi.facts.2.2.2.2; omega, by have hx' : X.heap.size ≤ x := hx; have := (Array.getElem?_eq_some_iff.1 hxw.nb).1; omega, fun e => by have hx' : X.heap.size ≤ x := hx; have := hlow1 x e; omega⟩, rfl⟩) _ _ _ _ hna
                rw [hN1] at hrow hown' hgrow hloc hnc hvb hna9 hvg
                have hg9 := VG.grow (v' := .slice a9 (K.length + 1) c9) hvg hB8 hrow hvb hnc hown' hgrow (by simpa using hloc) hna9
                rw [← hN1] at hg9
                refine .inl ⟨q, K ++ [.seq k0], _, res2, by omega, by omega, by simp only [List.length_append, List.length_singleton]; omega, ⟨hg9, by rw [← hr2]; exact htl, ?_⟩, by omega⟩
                rw [HQr.out, hrr]
                exact appR_snoc K _ res2
            clear hown' hgrow hloc hrow hnc hb9 hB8 hBnl hbs hvb hnb3 hlow1 hwl hpost hw3 hw3'
            go_wp2_with fail
            rcases H9.out with ⟨j', K', v', r', e1, e2, e3, e4, e5⟩ | e1
            · refine ⟨.inl ⟨j', K', v', r', e1, e2, e3, e4⟩, ?_⟩
              rw [HM.out, WM_eq e4.out.1.bi.par, if_pos rfl]
              omega
            · refine ⟨.inr e1, ?_⟩
              obtain ⟨i', o', y, left, v', e2, e3, e4, e5, e6, e7, e8⟩ := e1.out.ex
              rw [HM.out, WM_eq e6.par, if_neg (by omega)]
              omega
        · have n124 : ¬ (x0 : Int) = 124 := by omega
          have b124 : ((x0 : Int) == 124) = false := by simp; omega
          have hr : r = .ok K ((bl s).drop j) := by
            rcases hTl with ⟨_, h1⟩ | ⟨t, h1, _⟩
            · rw [HQr.out, h1]; simp [appR]
            · rw [fi_drop hjs] at h1
              simp only [List.cons.injEq] at h1
              exact absurd (by rw [← hx0, h1.1]; rfl) h124
          subst hr
          clear hTl
          go_wp2_with fail
          refine (HPk2.out wr HI.out.bi.par).mono ?_
          rintro e w1 ⟨rfl, _, h1⟩
          have H1 : Hid (VG Bn b s o w K (.slice a1 n1 c1) j w1) := HI.out.below h1
          have hnb := H1.out.nb
          clear h1 HI
          obtain ⟨fB, z0, z1, z2, hBl⟩ := H1.out.bi.facts
          rw [← HBw.out] at fB z0 z1 z2 hBl
          obtain ⟨k0, k1, k2⟩ := node_cells hnb
          have hnB : ¬ Bn = B := by have := HBw.out; have := HBn.out; omega
          have hBn9 : ¬ B = Bn := fun e => hnB e.symm
          go_wp2_with fail
          obtain ⟨Y, hY, ⟨r0, r1', r2⟩, y2, y3, y4⟩ := H1.out.bi.fin (.int .i64 5) (.slice none 0 0) (.slice a1 n1 c1)
          rw [← HBw.out] at hY r0 r1' r2 y4
          rw [← hY]
          refine bodyPost_ret (by simp [results, Tryz.results16, go_sem, r0, r1', r2]; try rfl) rfl ?_
          have hbk : s.size - (s.size - j) = j := by omega
          have hB9 := HBw.out
          exact ⟨y3, _, _, _, rfl, ⟨_, _, _, rfl⟩, ⟨_, _, _, rfl⟩, by rw [drop_len]; omega, by rw [drop_len, hbk], by rw [drop_len, hbk]; exact y2, H1.out.na (fun q hq => y4 q (by omega))⟩
      · have hr : r = .ok K ((bl s).drop j) := by
          rcases hTl with ⟨_, h1⟩ | ⟨t, h1, _⟩
          · rw [HQr.out, h1]; simp [appR]
          · rw [List.drop_of_length_le (by rw [bl_length]; omega)] at h1
            cases h1
        subst hr
        clear hTl
        go_wp2_with fail
        refine (HPn.out j o 0 0 wr (.inl (by omega)) HI.out.bi.par).mono ?_
        rintro e w1 ⟨rfl, _, h1⟩
        have H1 : Hid (VG Bn b s o w K (.slice a1 n1 c1) j w1) := HI.out.below h1
        have hnb := H1.out.nb
        clear h1 HI
        obtain ⟨fB, z0, z1, z2, hBl⟩ := H1.out.bi.facts
        rw [← HBw.out] at fB z0 z1 z2 hBl
        obtain ⟨k0, k1, k2⟩ := node_cells hnb
        have hnB : ¬ Bn = B := by have := HBw.out; have := HBn.out; omega
        have hBn9 : ¬ B = Bn := fun e => hnB e.symm
        go_wp2_with fail
        obtain ⟨Y, hY, ⟨r0, r1', r2⟩, y2, y3, y4⟩ := H1.out.bi.fin (.int .i64 5) (.slice none 0 0) (.slice a1 n1 c1)
        rw [← HBw.out] at hY r0 r1' r2 y4
        rw [← hY]
        refine bodyPost_ret (by simp [results, Tryz.results16, go_sem, r0, r1', r2]; try rfl) rfl ?_
        have hbk : s.size - (s.size - j) = j := by omega
        have hB9 := HBw.out
        exact ⟨y3, _, _, _, rfl, ⟨_, _, _, rfl⟩, ⟨_, _, _, rfl⟩, by rw [drop_len]; omega, by rw [drop_len, hbk], by rw [drop_len, hbk]; exact y2, H1.out.na (fun q hq => y4 q (by omega))⟩
    · obtain ⟨i', o', y, left, v, hr, hy, hi', ho', hbi, ⟨a1, n1, c1, rfl⟩, hnb⟩ := HW.out.ex
      subst hr
      have HI : Hid (BI b s i' o' (y : Int) ((s.size - left : Nat) : Int) w wr) := hbi
      have HNb : Hid (wr.heap[Bn]? = some (.cells #[.int .i64 5, .slice none 0 0, .slice a1 n1 c1] 35 (0, 0))) := hnb
      have hyz : ¬ (y : Int) = 0 := by omega
      clear hbi hnb HW
      go_wp2_with fail
      refine (HPn.out i' o' _ _ wr (.inr hyz) HI.out.par).mono ?_
      rintro e w1 ⟨rfl, _, h1⟩
      have H1 : Hid (BI b s i' o' (y : Int) ((s.size - left : Nat) : Int) w w1 ∧ w1.heap[Bn]? = some (.cells #[.int .i64 5, .slice none 0 0, .slice a1 n1 c1] 35 (0, 0))) := ⟨HI.out.below h1, (h1.block _ (Array.getElem?_eq_some_iff.1 HNb.out).1).trans HNb.out⟩
      clear h1 HI HNb
      obtain ⟨fB, z0, z1, z2, hBl⟩ := H1.out.1.facts
      rw [← HBw.out] at fB z0 z1 z2 hBl
      obtain ⟨k0, k1, k2⟩ := node_cells H1.out.2
      have hnB : ¬ Bn = B := by have := HBw.out; have := HBn.out; omega
      have hBn9 : ¬ B = Bn := fun e => hnB e.symm
      go_wp2_with fail
      obtain ⟨Y, hY, ⟨r0, r1', r2⟩, y2, y3, y4⟩ := H1.out.1.fin (.int .i64 5) (.slice none 0 0) (.slice a1 n1 c1)
      rw [← HBw.out] at hY r0 r1' r2 y4
      rw [← hY]
      refine bodyPost_ret (by simp [results, Tryz.results16, go_sem, r0, r1', r2]; try rfl) rfl ?_
      exact ⟨y3, _, _, _, rfl, ⟨_, _, _, rfl⟩, ⟨_, _, _, rfl⟩, hy, i', o', hi', ho', y2⟩

theorem rset_any (b : Nat) (s : ByteArray) (i o : Nat) (w : World) (h : Par b s i o 0 0 w) (hs : s.size ≤ 1000) (hi : i ≤ s.size) (ho : o ≤ 100) : Calls Tryz.prog 60 #[.pointer (some ⟨b, 0, none⟩)] w (SetPost b s o w (setR ((bl s).drop i))) := by
  by_cases hlt : i < s.size
  · by_cases h94 : s[i] = 94
    · exact rset_turn b s i o w h hs hi ho hlt h94
    · exact rset_plain b s i o w h hs hi ho hlt h94
  · exact rset_end b s i o w h hs hi ho hlt
theorem reader_all : ∀ m, RThing m ∧ RWay m ∧ RWays m
  | 0 => by
    have h1 : RThing 0 := fun b s i o w r h hs hi hm ho hP => by omega
    exact ⟨h1, rway_any 0 h1, rways_any 0 (rway_any 0 h1)⟩
  | m + 1 => by
    have ih := reader_all m
    have h1 : RThing (m + 1) := rthing_any rset_any (m + 1) (fun b s i o w r a h hs hi hm ho hc ha hP => rgroup_any m ih.2.2 b s i o w r a h hs hi hm ho hc ha hP)
    exact ⟨h1, rway_any _ h1, rways_any _ (rway_any _ h1)⟩
/-- What the document's Compile gives. -/
def RComp (c : List Nd ⊕ (Nat × Nat)) (w : World) (e : Ending) (w' : World) : Prop := Below w.heap.size w w' ∧ ∃ k sv kv, IsSl sv ∧ IsSl kv ∧ match c with
  | .inl K => e = .returned (.tuple #[nodeV k sv kv, faultV 0 0]) ∧ NA w' (fun j => w.heap.size ≤ j) (.alt K) k sv kv
  | .inr (y, a) => e = .returned (.tuple #[nodeV k sv kv, faultV y a])
theorem res_rcomp {tmps : Array Value} {B : Nat} {w9 : World} {x0 x1 x2 z0 z1 : Value} (h2 : tmps[2]? = some (.pointer (some ⟨B, 0, none⟩))) (h3 : tmps[3]? = some (.pointer (some ⟨B + 1, 0, none⟩))) (k1 : w9.heap[B]? = some (.cells #[x0, x1, x2] 35 (0, 0))) (k2 : w9.heap[B + 1]? = some (.cells #[z0, z1] 29 (0, 0))) :
    (results Tryz.f7 tmps).run Tryz.prog w9 = .ok (.tuple #[.agg #[x0, x1, x2], .agg #[z0, z1]]) w9 := by
  obtain ⟨r0, r1, r2⟩ := node_cells k1
  have q0 : w9.cell? ⟨B + 1, 0, none⟩ = some z0 := by simp only [World.cell?, k2]; rfl
  have q1 : w9.cell? ⟨B + 1, 1, none⟩ = some z1 := by simp only [World.cell?, k2]; rfl
  simp [results, Tryz.results7, go_sem, h2, h3, r0, r1, r2, q0, q1]
structure CI (b : Nat) (s : ByteArray) (i o : Nat) (y a : Int) (w W : World) : Prop where
  par : Par b s i o y a W
  nbx : W.heap[w.heap.size]? = some (.cells #[.int .i64 0, .slice none 0 0, .slice none 0 0] 35 (0, 0))
  fbx : W.heap[w.heap.size + 1]? = some (.cells #[.int .i64 0, .int .i64 0] 29 (0, 0))
  bel : Below w.heap.size w W
  hb : b = w.heap.size + 2
theorem CI.below {b : Nat} {s : ByteArray} {i o : Nat} {y a : Int} {w W W' : World} (h : CI b s i o y a w W) (hb : Below W.heap.size W W') : CI b s i o y a w W' :=
  ⟨h.par.below hb, (hb.block _ (Array.getElem?_eq_some_iff.1 h.nbx).1).trans h.nbx, (hb.block _ (Array.getElem?_eq_some_iff.1 h.fbx).1).trans h.fbx, h.bel.trans (hb.mono h.bel.size), h.hb⟩
theorem CI.wrote {b : Nat} {s : ByteArray} {i o i' o' : Nat} {y a y' a' : Int} {w W W' : World} (h : CI b s i o y a w W) (hw : Wrote b W W') (hp : Par b s i' o' y' a' W') : CI b s i' o' y' a' w W' := by
  have hb := h.hb
  exact ⟨hp, (hw.block _ (Array.getElem?_eq_some_iff.1 h.nbx).1 (by omega)).trans h.nbx, (hw.block _ (Array.getElem?_eq_some_iff.1 h.fbx).1 (by omega)).trans h.fbx, h.bel.trans (hw.below (by omega) h.bel.size), hb⟩
set_option maxRecDepth 20000 in
set_option maxHeartbeats 1000000 in
theorem rcompile_long (s : ByteArray) (w : World) (hl : 200 < s.size) : Calls Tryz.prog 7 #[.string s] w (RComp (.inr (5, 0)) w) := by
  have hl2 : (200 : Int) < (s.size : Int) := by omega
  obtain ⟨W, hW, hB, hS, k1, k2⟩ := two w (.cells #[.int .i64 0, .slice none 0 0, .slice none 0 0] 35) (.cells #[.int .i64 5, .int .i64 0] 29)
  have HX : Hid (Below w.heap.size w W ∧ W.heap[w.heap.size]? = some (.cells #[.int .i64 0, .slice none 0 0, .slice none 0 0] 35 (0, 0)) ∧ W.heap[w.heap.size + 1]? = some (.cells #[.int .i64 5, .int .i64 0] 29 (0, 0))) := ⟨hB, k1, k2⟩
  clear hB hS k1 k2
  go_enter Tryz.func7, Tryz.ntmps7
  go_wp2_with fail
  rw [← hW]
  refine bodyPost_ret (res_rcomp rfl rfl HX.out.2.1 HX.out.2.2) rfl ?_
  exact ⟨HX.out.1, 0, _, _, sl_nil, sl_nil, rfl⟩
theorem CI.fin {b : Nat} {s : ByteArray} {i o : Nat} {y a : Int} {w W : World} (h : CI b s i o y a w W) (x0 x1 x2 z0 z1 : Value) : ∃ Y, Y = (((((W.setCell ⟨w.heap.size, 0, none⟩ x0).setCell ⟨w.heap.size, 1, none⟩ x1).setCell ⟨w.heap.size, 2, none⟩ x2).setCell ⟨w.heap.size + 1, 0, none⟩ z0).setCell ⟨w.heap.size + 1, 1, none⟩ z1).drew ∧ Y.heap[w.heap.size]? = some (.cells #[x0, x1, x2] 35 (0, 0)) ∧ Y.heap[w.heap.size + 1]? = some (.cells #[z0, z1] 29 (0, 0)) ∧ Below w.heap.size w Y ∧ ∀ q, q ≠ w.heap.size → q ≠ w.heap.size + 1 → Y.heap[q]? = W.heap[q]? := by
  have o1 := only3 W w.heap.size x0 x1 x2
  have n1 := node_store x0 x1 x2 h.nbx rfl
  generalize ((W.setCell ⟨w.heap.size, 0, none⟩ x0).setCell ⟨w.heap.size, 1, none⟩ x1).setCell ⟨w.heap.size, 2, none⟩ x2 = Z at o1 n1 ⊢
  have f1 : Z.heap[w.heap.size + 1]? = some (.cells #[.int .i64 0, .int .i64 0] 29 (0, 0)) := (o1.block _ (by omega)).trans h.fbx
  have o2 : Only (w.heap.size + 1) Z ((Z.setCell ⟨w.heap.size + 1, 0, none⟩ z0).setCell ⟨w.heap.size + 1, 1, none⟩ z1) := (Only.set _ _ _ _).trans (Only.set _ _ _ _)
  have f2 : ((Z.setCell ⟨w.heap.size + 1, 0, none⟩ z0).setCell ⟨w.heap.size + 1, 1, none⟩ z1).heap[w.heap.size + 1]? = some (.cells #[z0, z1] 29 (0, 0)) := by
    rw [heap_set (heap_set f1 _) _]
    rfl
  generalize (Z.setCell ⟨w.heap.size + 1, 0, none⟩ z0).setCell ⟨w.heap.size + 1, 1, none⟩ z1 = Y at o2 f2 ⊢
  exact ⟨Y.drew, rfl, (o2.block _ (by omega)).trans n1, f2, ⟨(o2.os.trans o1.os).trans h.bel.os, (o2.tape.trans o1.tape).trans h.bel.tape, (o2.output.trans o1.output).trans h.bel.output, by show w.heap.size ≤ Y.heap.size; rw [o2.size, o1.size]; exact h.bel.size, fun q hq => ((o2.block q (by omega)).trans (o1.block q (by omega))).trans (h.bel.block q hq)⟩, fun q h1 h2 => (o2.block q h2).trans (o1.block q h1)⟩
theorem CI.fin0 {b : Nat} {s : ByteArray} {i o : Nat} {y a : Int} {w W : World} (h : CI b s i o y a w W) (x0 x1 x2 z0 z1 : Value) : ∃ Y, Y = (((((W.setCell ⟨w.heap.size, 0, none⟩ x0).setCell ⟨w.heap.size, 1, none⟩ x1).setCell ⟨w.heap.size, 2, none⟩ x2).setCell ⟨w.heap.size + 1, 0, none⟩ z0).setCell ⟨w.heap.size + 1, 1, none⟩ z1) ∧ Y.heap[w.heap.size]? = some (.cells #[x0, x1, x2] 35 (0, 0)) ∧ Y.heap[w.heap.size + 1]? = some (.cells #[z0, z1] 29 (0, 0)) ∧ Below w.heap.size w Y ∧ ∀ q, q ≠ w.heap.size → q ≠ w.heap.size + 1 → Y.heap[q]? = W.heap[q]? := by
  have o1 := only3 W w.heap.size x0 x1 x2
  have n1 := node_store x0 x1 x2 h.nbx rfl
  generalize ((W.setCell ⟨w.heap.size, 0, none⟩ x0).setCell ⟨w.heap.size, 1, none⟩ x1).setCell ⟨w.heap.size, 2, none⟩ x2 = Z at o1 n1 ⊢
  have f1 : Z.heap[w.heap.size + 1]? = some (.cells #[.int .i64 0, .int .i64 0] 29 (0, 0)) := (o1.block _ (by omega)).trans h.fbx
  have o2 : Only (w.heap.size + 1) Z ((Z.setCell ⟨w.heap.size + 1, 0, none⟩ z0).setCell ⟨w.heap.size + 1, 1, none⟩ z1) := (Only.set _ _ _ _).trans (Only.set _ _ _ _)
  have f2 : ((Z.setCell ⟨w.heap.size + 1, 0, none⟩ z0).setCell ⟨w.heap.size + 1, 1, none⟩ z1).heap[w.heap.size + 1]? = some (.cells #[z0, z1] 29 (0, 0)) := by
    rw [heap_set (heap_set f1 _) _]
    rfl
  generalize (Z.setCell ⟨w.heap.size + 1, 0, none⟩ z0).setCell ⟨w.heap.size + 1, 1, none⟩ z1 = Y at o2 f2 ⊢
  exact ⟨Y, rfl, (o2.block _ (by omega)).trans n1, f2, ⟨(o2.os.trans o1.os).trans h.bel.os, (o2.tape.trans o1.tape).trans h.bel.tape, (o2.output.trans o1.output).trans h.bel.output, by show w.heap.size ≤ Y.heap.size; rw [o2.size, o1.size]; exact h.bel.size, fun q hq => ((o2.block q (by omega)).trans (o1.block q (by omega))).trans (h.bel.block q hq)⟩, fun q h1 h2 => (o2.block q h2).trans (o1.block q h1)⟩
set_option maxRecDepth 20000 in
set_option maxHeartbeats 1000000 in
theorem rcompile_bad (s : ByteArray) (y l : Nat) (w : World) (hl : s.size ≤ 200) (hP : P .ways 0 (bl s) (.bad y l)) : Calls Tryz.prog 7 #[.string s] w (RComp (.inr (y, s.size - l)) w) := by
  obtain ⟨b, hb⟩ : ∃ b, b = w.heap.size + 2 := ⟨_, rfl⟩
  have hl2 : ¬ (200 : Int) < (s.size : Int) := by omega
  obtain ⟨W0, hW0, hC⟩ : ∃ W0, W0 = ((w.alloc (.cells #[.int .i64 0, .slice none 0 0, .slice none 0 0] 35)).alloc (.cells #[.int .i64 0, .int .i64 0] 29)).alloc (.cells #[.string s, .int .i64 0, .int .i64 0, .int .i64 0, .int .i64 0] 65) ∧ CI b s 0 0 0 0 w W0 := by
    obtain ⟨W, hW, hB, hS, k1, k2⟩ := two w (.cells #[.int .i64 0, .slice none 0 0, .slice none 0 0] 35) (.cells #[.int .i64 0, .int .i64 0] 29)
    obtain ⟨W1, hW1, hB1, hS1, k3⟩ := one_box W (.cells #[.string s, .int .i64 0, .int .i64 0, .int .i64 0, .int .i64 0] 65)
    refine ⟨W1, by rw [hW1, hW], ?_, (hB1.block _ (by omega)).trans k1, (hB1.block _ (by omega)).trans k2, hB.trans (hB1.mono hB.size), hb⟩
    have e : b = W.heap.size := by omega
    rw [e]
    exact k3
  have HC : Hid (CI b s 0 0 0 0 w W0) := hC
  have HW : Hid (Calls Tryz.prog 16 #[.pointer (some ⟨b, 0, none⟩)] W0 (PPost .alt b s 0 W0 (.bad y l))) := (reader_all s.size).2.2 b s 0 0 W0 _ hC.par (by omega) (Nat.zero_le _) (by omega) (by omega) (by simpa using hP)
  clear hC hP
  have HBB : Hid (w.heap.size + 1 + 1 = b ∧ b = w.heap.size + 2) := ⟨by omega, hb⟩
  clear hb
  go_enter Tryz.func7, Tryz.ntmps7
  go_wp2_with fail
  rw [← hW0, HBB.out.1]
  clear hW0
  obtain ⟨B, hB⟩ : ∃ B, B = w.heap.size := ⟨_, rfl⟩
  have HBw : Hid (B = w.heap.size ∧ b = B + 2) := ⟨hB, by have := HBB.out.2; omega⟩
  rw [← hB]
  clear hB
  refine HW.out.mono ?_
  rintro e w3 ⟨hw3, k, sv, kv, rfl, ⟨a2, n2, c2, rfl⟩, ⟨a3, n3, c3, rfl⟩, hy, i', o', hi', ho', hpar⟩
  have hyz : ¬ (y : Int) = 0 := by omega
  have hyb : ((y : Int) == 0) = false := by simp; omega
  have H3 : Hid (CI b s i' o' (y : Int) ((s.size - l : Nat) : Int) w w3) := HC.out.wrote hw3 hpar
  clear hw3 hpar HW
  simp only [nodeV]
  go_wp2_with fail
  obtain ⟨w4, hw4, hB4, hS4, hk4⟩ := one_box w3 (.cells #[.int .i64 k, .slice a2 n2 c2, .slice a3 n3 c3] 35)
  rw [← hw4]
  clear hw4
  have H4 : Hid (CI b s i' o' (y : Int) ((s.size - l : Nat) : Int) w w4) := H3.out.below hB4
  have HPn : Hid (∀ W, Par b s i' o' (y : Int) ((s.size - l : Nat) : Int) W → Calls Tryz.prog 17 #[.pointer (some ⟨b, 0, none⟩)] W fun e w' => e = .returned (.tuple #[.int .u8 0, .bool false]) ∧ Par b s i' o' (y : Int) ((s.size - l : Nat) : Int) w' ∧ Below W.heap.size W w') := fun W h2 => peek_none b s i' o' _ _ W h2 (.inr hyz)
  clear hB4 hS4 hk4
  refine (HPn.out w4 H4.out.par).mono ?_
  rintro e w5 ⟨rfl, _, h5⟩
  have H5 : Hid (CI b s i' o' (y : Int) ((s.size - l : Nat) : Int) w w5) := H4.out.below h5
  clear h5
  have d3 : w5.cell? ⟨b, 3, none⟩ = some (.int .i64 (y : Int)) := H5.out.par.cell 3
  have d4 : w5.cell? ⟨b, 4, none⟩ = some (.int .i64 ((s.size - l : Nat) : Int)) := H5.out.par.cell 4
  have fN : ∀ q, w5.frozen? ⟨B, q, none⟩ = false := fun q => by rw [HBw.out.1]; exact frozen_of H5.out.nbx q
  have fF : ∀ q, w5.frozen? ⟨B + 1, q, none⟩ = false := fun q => by rw [HBw.out.1]; exact frozen_of H5.out.fbx q
  obtain ⟨z0, z1, z2⟩ := node_cells H5.out.nbx
  have v0 : w5.cell? ⟨w.heap.size + 1, 0, none⟩ = some (.int .i64 0) := by simp only [World.cell?, H5.out.fbx]; rfl
  have v1 : w5.cell? ⟨w.heap.size + 1, 1, none⟩ = some (.int .i64 0) := by simp only [World.cell?, H5.out.fbx]; rfl
  rw [← HBw.out.1] at z0 z1 z2 v0 v1
  have hbB : ¬ b = B := by have := HBw.out; omega
  have hBb : ¬ B = b := fun e => hbB e.symm
  have hbB1 : ¬ b = B + 1 := by have := HBw.out; omega
  have hB1b : ¬ B + 1 = b := fun e => hbB1 e.symm
  have hBl : B < w5.heap.size := by rw [HBw.out.1]; exact (Array.getElem?_eq_some_iff.1 H5.out.nbx).1
  have hB1l : B + 1 < w5.heap.size := by rw [HBw.out.1]; exact (Array.getElem?_eq_some_iff.1 H5.out.fbx).1
  go_wp2_with fail
  go_region_with (fail)
  all_goals go_wp2_with fail
  all_goals
    obtain ⟨Y, hY, y1, y2, y3, _⟩ := H5.out.fin (.int .i64 0) (.slice none 0 0) (.slice none 0 0) (.int .i64 (y : Int)) (.int .i64 ((s.size - l : Nat) : Int))
    rw [← HBw.out.1] at hY y1 y2
    rw [← hY]
    refine bodyPost_ret (res_rcomp rfl rfl y1 y2) rfl ?_
    exact ⟨y3, 0, _, _, sl_nil, sl_nil, rfl⟩
set_option maxRecDepth 20000 in
set_option maxHeartbeats 1000000 in
theorem rcompile_many (s : ByteArray) (K : List Nd) (r : List UInt8) (w : World) (hl : s.size ≤ 200) (hP : P .ways 0 (bl s) (.ok K (41 :: r))) : Calls Tryz.prog 7 #[.string s] w (RComp (.inr (3, s.size - (r.length + 1))) w) := by
  obtain ⟨b, hb⟩ : ∃ b, b = w.heap.size + 2 := ⟨_, rfl⟩
  have hl2 : ¬ (200 : Int) < (s.size : Int) := by omega
  obtain ⟨W0, hW0, hC⟩ : ∃ W0, W0 = ((w.alloc (.cells #[.int .i64 0, .slice none 0 0, .slice none 0 0] 35)).alloc (.cells #[.int .i64 0, .int .i64 0] 29)).alloc (.cells #[.string s, .int .i64 0, .int .i64 0, .int .i64 0, .int .i64 0] 65) ∧ CI b s 0 0 0 0 w W0 := by
    obtain ⟨W, hW, hB, hS, k1, k2⟩ := two w (.cells #[.int .i64 0, .slice none 0 0, .slice none 0 0] 35) (.cells #[.int .i64 0, .int .i64 0] 29)
    obtain ⟨W1, hW1, hB1, hS1, k3⟩ := one_box W (.cells #[.string s, .int .i64 0, .int .i64 0, .int .i64 0, .int .i64 0] 65)
    refine ⟨W1, by rw [hW1, hW], ?_, (hB1.block _ (by omega)).trans k1, (hB1.block _ (by omega)).trans k2, hB.trans (hB1.mono hB.size), hb⟩
    have e : b = W.heap.size := by omega
    rw [e]
    exact k3
  have HC : Hid (CI b s 0 0 0 0 w W0) := hC
  have HW : Hid (Calls Tryz.prog 16 #[.pointer (some ⟨b, 0, none⟩)] W0 (PPost .alt b s 0 W0 (.ok K (41 :: r)))) := (reader_all s.size).2.2 b s 0 0 W0 _ hC.par (by omega) (Nat.zero_le _) (by omega) (by omega) (by simpa using hP)
  clear hC hP
  have HBB : Hid (w.heap.size + 1 + 1 = b ∧ b = w.heap.size + 2) := ⟨by omega, hb⟩
  clear hb
  go_enter Tryz.func7, Tryz.ntmps7
  go_wp2_with fail
  rw [← hW0, HBB.out.1]
  clear hW0
  obtain ⟨B, hB⟩ : ∃ B, B = w.heap.size := ⟨_, rfl⟩
  have HBw : Hid (B = w.heap.size ∧ b = B + 2) := ⟨hB, by have := HBB.out.2; omega⟩
  rw [← hB]
  clear hB
  refine HW.out.mono ?_
  rintro e w3 ⟨hw3, k, sv, kv, rfl, ⟨a2, n2, c2, rfl⟩, ⟨a3, n3, c3, rfl⟩, hr1, hr2, hpar, hna⟩
  obtain ⟨q, hq⟩ : ∃ q, q = s.size - (r.length + 1) := ⟨_, rfl⟩
  simp only [List.length_cons] at hr1 hr2 hpar
  rw [← hq] at hr2 hpar
  have hq1 : q < s.size := by omega
  have hq2 : s[q] = 41 := by
    rw [fi_drop hq1] at hr2
    simp only [List.cons.injEq] at hr2
    exact hr2.1.symm
  have hqn : s[q].toNat = 41 := by rw [hq2]; rfl
  have H3 : Hid (CI b s q 0 0 0 w w3) := HC.out.wrote hw3 hpar
  have HQ : Hid (q = s.size - (r.length + 1)) := hq
  have HPk : Hid (∀ W, Par b s q 0 0 0 W → Calls Tryz.prog 17 #[.pointer (some ⟨b, 0, none⟩)] W fun e w' => e = .returned (.tuple #[.int .u8 41, .bool true]) ∧ Par b s q 0 0 0 w' ∧ Below W.heap.size W w') := fun W hP => by
    have := peek_some b s q 0 0 W hP hq1
    rw [hqn] at this
    exact this
  have HFl : Hid (∀ W, Par b s q 0 0 0 W → Calls Tryz.prog 18 #[.pointer (some ⟨b, 0, none⟩), .int .i64 3, .int .i64 (q : Int)] W fun e w' => e = .returned (.tuple #[]) ∧ Par b s q 0 3 (q : Int) w' ∧ Wrote b W w') := fun W hP => (fails_any b s q 0 0 0 3 (q : Int) W hP).mono fun e w' h => by simpa using h
  clear hw3 hpar HW hna hr1 hr2 hq hq2 hqn
  simp only [nodeV]
  go_wp2_with fail
  obtain ⟨w4, hw4, hB4, hS4, hk4⟩ := one_box w3 (.cells #[.int .i64 k, .slice a2 n2 c2, .slice a3 n3 c3] 35)
  rw [← hw4]
  clear hw4
  have H4 : Hid (CI b s q 0 0 0 w w4) := H3.out.below hB4
  clear hB4 hS4 hk4
  refine (HPk.out w4 H4.out.par).mono ?_
  rintro e w6 ⟨rfl, _, h5⟩
  have H6 : Hid (CI b s q 0 0 0 w w6) := H4.out.below h5
  clear h5
  have d1 : w6.cell? ⟨b, 1, none⟩ = some (.int .i64 (q : Int)) := H6.out.par.cell 1
  go_wp2_with fail
  refine (HFl.out w6 H6.out.par).mono ?_
  rintro e w5 ⟨rfl, h6, h7⟩
  have H5 : Hid (CI b s q 0 3 (q : Int) w w5) := H6.out.wrote h7 h6
  clear h6 h7 d1
  have d3 : w5.cell? ⟨b, 3, none⟩ = some (.int .i64 3) := H5.out.par.cell 3
  have d4 : w5.cell? ⟨b, 4, none⟩ = some (.int .i64 (q : Int)) := H5.out.par.cell 4
  have fN : ∀ q, w5.frozen? ⟨B, q, none⟩ = false := fun q => by rw [HBw.out.1]; exact frozen_of H5.out.nbx q
  have fF : ∀ q, w5.frozen? ⟨B + 1, q, none⟩ = false := fun q => by rw [HBw.out.1]; exact frozen_of H5.out.fbx q
  obtain ⟨z0, z1, z2⟩ := node_cells H5.out.nbx
  have v0 : w5.cell? ⟨w.heap.size + 1, 0, none⟩ = some (.int .i64 0) := by simp only [World.cell?, H5.out.fbx]; rfl
  have v1 : w5.cell? ⟨w.heap.size + 1, 1, none⟩ = some (.int .i64 0) := by simp only [World.cell?, H5.out.fbx]; rfl
  rw [← HBw.out.1] at z0 z1 z2 v0 v1
  have hbB : ¬ b = B := by have := HBw.out; omega
  have hBb : ¬ B = b := fun e => hbB e.symm
  have hbB1 : ¬ b = B + 1 := by have := HBw.out; omega
  have hB1b : ¬ B + 1 = b := fun e => hbB1 e.symm
  have hBl : B < w5.heap.size := by rw [HBw.out.1]; exact (Array.getElem?_eq_some_iff.1 H5.out.nbx).1
  have hB1l : B + 1 < w5.heap.size := by rw [HBw.out.1]; exact (Array.getElem?_eq_some_iff.1 H5.out.fbx).1
  go_wp2_with fail
  go_region_with (fail)
  all_goals go_wp2_with fail
  all_goals
    obtain ⟨Y, hY, y1, y2, y3, _⟩ := H5.out.fin (.int .i64 0) (.slice none 0 0) (.slice none 0 0) (.int .i64 3) (.int .i64 (q : Int))
    rw [← HBw.out.1] at hY y1 y2
    rw [← hY]
    refine bodyPost_ret (res_rcomp rfl rfl y1 y2) rfl ?_
    exact ⟨y3, 0, _, _, sl_nil, sl_nil, by rw [← HQ.out]; rfl⟩
set_option maxRecDepth 20000 in
set_option maxHeartbeats 1000000 in
theorem rcompile_ok (s : ByteArray) (K : List Nd) (w : World) (hl : s.size ≤ 200) (hP : P .ways 0 (bl s) (.ok K [])) : Calls Tryz.prog 7 #[.string s] w (RComp (.inl K) w) := by
  obtain ⟨b, hb⟩ : ∃ b, b = w.heap.size + 2 := ⟨_, rfl⟩
  have hl2 : ¬ (200 : Int) < (s.size : Int) := by omega
  obtain ⟨W0, hW0, hC⟩ : ∃ W0, W0 = ((w.alloc (.cells #[.int .i64 0, .slice none 0 0, .slice none 0 0] 35)).alloc (.cells #[.int .i64 0, .int .i64 0] 29)).alloc (.cells #[.string s, .int .i64 0, .int .i64 0, .int .i64 0, .int .i64 0] 65) ∧ CI b s 0 0 0 0 w W0 := by
    obtain ⟨W, hW, hB, hS, k1, k2⟩ := two w (.cells #[.int .i64 0, .slice none 0 0, .slice none 0 0] 35) (.cells #[.int .i64 0, .int .i64 0] 29)
    obtain ⟨W1, hW1, hB1, hS1, k3⟩ := one_box W (.cells #[.string s, .int .i64 0, .int .i64 0, .int .i64 0, .int .i64 0] 65)
    refine ⟨W1, by rw [hW1, hW], ?_, (hB1.block _ (by omega)).trans k1, (hB1.block _ (by omega)).trans k2, hB.trans (hB1.mono hB.size), hb⟩
    have e : b = W.heap.size := by omega
    rw [e]
    exact k3
  have HC : Hid (CI b s 0 0 0 0 w W0) := hC
  have HW : Hid (Calls Tryz.prog 16 #[.pointer (some ⟨b, 0, none⟩)] W0 (PPost .alt b s 0 W0 (.ok K []))) := (reader_all s.size).2.2 b s 0 0 W0 _ hC.par (by omega) (Nat.zero_le _) (by omega) (by omega) (by simpa using hP)
  clear hC hP
  have HBB : Hid (w.heap.size + 1 + 1 = b ∧ b = w.heap.size + 2) := ⟨by omega, hb⟩
  clear hb
  go_enter Tryz.func7, Tryz.ntmps7
  go_wp2_with fail
  rw [← hW0, HBB.out.1]
  clear hW0
  obtain ⟨B, hB⟩ : ∃ B, B = w.heap.size := ⟨_, rfl⟩
  have HBw : Hid (B = w.heap.size ∧ b = B + 2) := ⟨hB, by have := HBB.out.2; omega⟩
  rw [← hB]
  clear hB
  refine HW.out.mono ?_
  rintro e w3 ⟨hw3, k, sv, kv, rfl, ⟨a2, n2, c2, rfl⟩, ⟨a3, n3, c3, rfl⟩, hr1, hr2, hpar, hna⟩
  have H3 : Hid (CI b s s.size 0 0 0 w w3 ∧ NA w3 (fun x => W0.heap.size ≤ x) (.alt K) k (.slice a2 n2 c2) (.slice a3 n3 c3) ∧ W0.heap.size ≤ w3.heap.size) := ⟨HC.out.wrote hw3 (by simpa using hpar), hna, hw3.size⟩
  have HPn : Hid (∀ W, Par b s s.size 0 0 0 W → Calls Tryz.prog 17 #[.pointer (some ⟨b, 0, none⟩)] W fun e w' => e = .returned (.tuple #[.int .u8 0, .bool false]) ∧ Par b s s.size 0 0 0 w' ∧ Below W.heap.size W w') := fun W h2 => peek_none b s s.size 0 0 0 W h2 (.inl (Nat.le_refl _))
  clear hw3 hpar HW hna hr1 hr2
  simp only [nodeV]
  go_wp2_with fail
  obtain ⟨w4, hw4, hB4, hS4, hk4⟩ := one_box w3 (.cells #[.int .i64 k, .slice a2 n2 c2, .slice a3 n3 c3] 35)
  rw [← hw4]
  clear hw4
  obtain ⟨Bk, hBk⟩ : ∃ Bk, Bk = w3.heap.size := ⟨_, rfl⟩
  rw [← hBk] at hk4 ⊢
  have HBk : Hid (Bk = w3.heap.size) := hBk
  have H4 : Hid (CI b s s.size 0 0 0 w w4 ∧ NA w4 (fun x => W0.heap.size ≤ x) (.alt K) k (.slice a2 n2 c2) (.slice a3 n3 c3) ∧ w4.heap[Bk]? = some (.cells #[.int .i64 k, .slice a2 n2 c2, .slice a3 n3 c3] 35 (0, 0))) := ⟨H3.out.1.below hB4, NA_keep (fun x hx hl => ⟨hx, hB4.block x hl⟩) _ _ _ _ H3.out.2.1, hk4⟩
  clear hB4 hS4 hk4 hBk
  refine (HPn.out w4 H4.out.1.par).mono ?_
  rintro e w5 ⟨rfl, _, h5⟩
  have H5 : Hid (CI b s s.size 0 0 0 w w5) := H4.out.1.below h5
  have H6 : Hid (NA w5 (fun x => W0.heap.size ≤ x) (.alt K) k (.slice a2 n2 c2) (.slice a3 n3 c3) ∧ w5.heap[Bk]? = some (.cells #[.int .i64 k, .slice a2 n2 c2, .slice a3 n3 c3] 35 (0, 0))) := ⟨NA_keep (fun x hx hl => ⟨hx, h5.block x hl⟩) _ _ _ _ H4.out.2.1, (h5.block _ (Array.getElem?_eq_some_iff.1 H4.out.2.2).1).trans H4.out.2.2⟩
  clear h5
  obtain ⟨kk0, kk1, kk2⟩ := node_cells H6.out.2
  have hW0b : w.heap.size + 2 < W0.heap.size := by have := HC.out.par.lt; have := HC.out.hb; omega
  have hkB : ¬ Bk = B := by have := HBk.out; have := H3.out.2.2; have := HBw.out.1; omega
  have hBk2 : ¬ B = Bk := fun e => hkB e.symm
  have hkB1 : ¬ Bk = B + 1 := by have := HBk.out; have := H3.out.2.2; have := HBw.out.1; omega
  have hB1k : ¬ B + 1 = Bk := fun e => hkB1 e.symm
  have d3 : w5.cell? ⟨b, 3, none⟩ = some (.int .i64 0) := H5.out.par.cell 3
  have d4 : w5.cell? ⟨b, 4, none⟩ = some (.int .i64 0) := H5.out.par.cell 4
  have fN : ∀ q, w5.frozen? ⟨B, q, none⟩ = false := fun q => by rw [HBw.out.1]; exact frozen_of H5.out.nbx q
  have fF : ∀ q, w5.frozen? ⟨B + 1, q, none⟩ = false := fun q => by rw [HBw.out.1]; exact frozen_of H5.out.fbx q
  obtain ⟨z0, z1, z2⟩ := node_cells H5.out.nbx
  have v0 : w5.cell? ⟨w.heap.size + 1, 0, none⟩ = some (.int .i64 0) := by simp only [World.cell?, H5.out.fbx]; rfl
  have v1 : w5.cell? ⟨w.heap.size + 1, 1, none⟩ = some (.int .i64 0) := by simp only [World.cell?, H5.out.fbx]; rfl
  rw [← HBw.out.1] at z0 z1 z2 v0 v1
  have hbB : ¬ b = B := by have := HBw.out; omega
  have hBb : ¬ B = b := fun e => hbB e.symm
  have hbB1 : ¬ b = B + 1 := by have := HBw.out; omega
  have hB1b : ¬ B + 1 = b := fun e => hbB1 e.symm
  have hBl : B < w5.heap.size := by rw [HBw.out.1]; exact (Array.getElem?_eq_some_iff.1 H5.out.nbx).1
  have hB1l : B + 1 < w5.heap.size := by rw [HBw.out.1]; exact (Array.getElem?_eq_some_iff.1 H5.out.fbx).1
  go_wp2_with fail
  all_goals
    obtain ⟨Y, hY, y1, y2, y3, y4⟩ := H5.out.fin0 (.int .i64 k) (.slice a2 n2 c2) (.slice a3 n3 c3) (.int .i64 0) (.int .i64 0)
    rw [← HBw.out.1] at hY y1 y2
    rw [← hY]
    refine bodyPost_ret (res_rcomp rfl rfl y1 y2) rfl ?_
    refine ⟨y3, k, _, _, ⟨_, _, _, rfl⟩, ⟨_, _, _, rfl⟩, rfl, ?_⟩
    exact NA_keep (fun x hx hl => ⟨by omega, y4 x (by omega) (by omega)⟩) _ _ _ _ H6.out.1
theorem rcompile_any (s : ByteArray) (c : List Nd ⊕ (Nat × Nat)) (hc : Comp (bl s) c) (w : World) : Calls Tryz.prog 7 #[.string s] w (RComp c w) := by
  cases hc with
  | long h => exact rcompile_long s w (by rw [bl_length] at h; exact h)
  | bad y l h h1 => rw [bl_length] at h ⊢; exact rcompile_bad s y l w h h1
  | many K r h h1 => rw [bl_length] at h ⊢; exact rcompile_many s K r w h h1
  | ok K h h1 => rw [bl_length] at h; exact rcompile_ok s K w h h1

theorem comp_why {p : List UInt8} {why a : Nat} (h : Comp p (.inr (why, a))) : why ≠ 0 := by
  by_cases hl : p.length ≤ 200
  · obtain ⟨l, h1, _⟩ := h.flat hl
    exact sc_why h1 rfl
  · cases h with
    | long => omega
    | bad w l h' => omega
    | many k r h' => omega
end Go.Proofs.YtmmhajlfbjjocaaGreat
