/-
  The worlds of two numbers, what is asked and answered in them, and the law.
-/
import Derived.Test.YtkelmhpoplbacaaGreatDoorX14
import Derived.Test.YtkelmhpoplbacaaGreatDoorGE
import Derived.Maps.OwnSet
import Derived.Maps.Ext
import Derived.BigRegion
import Derived.Lib.ItoaLen
namespace Go.Proofs.YtkelmhpoplbacaaGreatDoor.Ex
open Go.RowKit Go.Shelf
open V (VS VSet RSet Rel Vl Turn RTurn newM isSc rel_none new_any put_any rput_any)

abbrev Vr2 := List (ByteArray × ByteArray)
def putsV (s : VS) (l : Vr2) : VS := l.foldl (fun s x => (s.put 3 x.1 x.2).1) s
theorem puts_snoc (l : Vr2) (k : Nat) (h : k < l.length) : putsV VS.none_ (l.take (k + 1)) = ((putsV VS.none_ (l.take k)).put 3 l[k].1 l[k].2).1 := by
  unfold putsV; rw [List.take_succ_eq_append_getElem h, List.foldl_append]; rfl
/-- Variables that can be read, one behind the other. -/
def VarsAt (B : Nat) (w : World) (v : Value) (l : Vr2) : Prop := ∃ a n c, v = .slice a n c ∧ n = l.length ∧ ∀ i (h : i < l.length), ∃ b o, a = some ⟨b, o, none⟩ ∧ b < B ∧ w.cell? ⟨b, o + i * 2, none⟩ = some (.string l[i].1) ∧ w.cell? ⟨b, o + i * 2 + 1, none⟩ = some (.string l[i].2)
theorem VarsAt.below {B : Nat} {w w' : World} {v : Value} {l : Vr2} (h : VarsAt B w v l) (hb : Below B w w') : VarsAt B w' v l := by
  obtain ⟨a, n, c, h1, h2, h3⟩ := h
  refine ⟨a, n, c, h1, h2, fun i hi => ?_⟩
  obtain ⟨b, o, e1, e2, e3, e4⟩ := h3 i hi
  exact ⟨b, o, e1, e2, by rw [hb.cell (p := ⟨b, o + i * 2, none⟩) e2]; exact e3, by rw [hb.cell (p := ⟨b, o + i * 2 + 1, none⟩) e2]; exact e4⟩
/-- The program's set and the document's side by side. -/
structure Side (B : Nat) (M : Int → Nat) (br : Nat) (s : VS) (w W : World) : Prop where
  prog : VSet B B M s W
  doc : ∃ vL L, RSet B br vL L W ∧ Rel L s
  low : Below B w W
section
variable {B br : Nat} {M : Int → Nat} {s : VS} {w W W' : World}
theorem Side.below (h : Side B M br s w W) (hb : Below W.heap.size W W') : Side B M br s w W' := by
  obtain ⟨vL, L, h1, h2⟩ := h.doc
  exact ⟨h.prog.below hb, ⟨vL, L, h1.below hb, h2⟩, h.low.trans (hb.mono (Nat.le_of_lt h.prog.lt))⟩
theorem rset_turn {base : Nat} {vL : Value} {L : Vl} (h : RSet base br vL L W) (hv : VSet B B M s W) (ht : Turn M W W') : RSet base br vL L W' := by
  have hnb : ∀ n, isSc n = true → br ≠ M n := fun n hn e => by
    obtain ⟨es, clock, hm⟩ := (hv.map n hn).isMap
    have := h.blk; rw [e, hm] at this; cases this
  refine ⟨(ht.block br h.lt hnb).trans h.blk, ⟨h.row.1, ?_⟩, h.hb⟩
  rcases h.row.2 with h0 | ⟨g, cap, cur, hvv, hg, hgg, rest⟩
  · exact .inl h0
  · refine .inr ⟨g, cap, cur, hvv, hg, ?_, rest⟩
    rw [ht.block g (Array.getElem?_eq_some_iff.1 hgg).1 (fun n hn e => ?_)]
    · exact hgg
    · obtain ⟨es, clock, hm⟩ := (hv.map n hn).isMap
      rw [e, hm] at hgg; cases hgg
theorem vset_rturn {base : Nat} {vL : Value} {L : Vl} (h : VSet B B M s W) (hr : RSet base br vL L W) (ht : RTurn br W W') : VSet B B M s W' := by
  refine h.of_block (ht.block B h.lt fun e => ?_) fun n hn => ht.block (M n) (h.ltm hn) fun e => ?_
  · have h1 := h.blk; have h2 := hr.blk; rw [e, h2] at h1; simp at h1
  · obtain ⟨es, clock, hm⟩ := (h.map n hn).isMap
    have h2 := hr.blk; rw [← e, hm] at h2; cases h2
end

end Go.Proofs.YtkelmhpoplbacaaGreatDoor.Ex
namespace Go.Proofs.YtkelmhpoplbacaaGreatDoor.Cd
open Go.RowKit Go.Shelf Ex
open V (VS VSet RSet Rel Vl Turn RTurn newM isSc rel_none new_any put_any rput_any)
def entD : DataW Unit := .agg []
def entR : Value → Option (DataW Unit × List MemPlace) := fun _ => some (entD, [])
theorem new_map (w : World) : ∃ w', (Instr.mapUpdate 77 (.map (some w.heap.size)) (.string ⟨#[47]⟩) (.agg #[.string ⟨#[]⟩, .int .i64 0, .bool true])).run Tryz.prog (w.alloc (.map #[] 0)) = .ok () w' ∧ (w.alloc (.map #[] 0)).grownBy w' (some w.heap.size) := by
  have hown : (w.alloc (.map #[] 0)).ownsMap Tryz.prog 9 entR w.heap.size 0 (.map []) := World.ownsMap_made w Tryz.prog 9 entR
  obtain ⟨w', hrun, hown', ht⟩ := hown.store (Go.Maps.string_keyed Tryz.underlying9) Tryz.underlying77 (by decide) (WideMaps.keyOf_string_mk (P := Tryz.prog) Tryz.underlying9 (s := ⟨#[47]⟩) (by decide)) (rfl : entR (.agg #[.string ⟨#[]⟩, .int .i64 0, .bool true]) = some (entD, []))
  exact ⟨w', hrun, ht.grown⟩
set_option maxRecDepth 20000 in
set_option maxHeartbeats 400000 in
theorem vnew_any (w : World) : Calls Tryz.prog 9 #[.int .i64 1000] w fun e w' => (∃ b, e = .returned (.tuple #[.pointer (some ⟨b, 0, none⟩), .int .i64 0])) ∧ Below w.heap.size w w' := by
  have hmm := @run_makeMap Tryz.prog
  obtain ⟨w2, hup, hg2⟩ := new_map w
  go_enter Tryz.func9, Tryz.ntmps9
  go_wp2
  go_ret2
  have hs2 : w.heap.size + 1 ≤ w2.heap.size := by have := hg2.size; simpa using this
  have hb2 : Below w.heap.size w w2 := ((Below.refl _ w).alloc (Nat.le_refl _) _).grown hg2 (by simp) (fun k hk => by cases hk; exact Nat.le_refl _)
  exact ⟨⟨w2.heap.size, rfl⟩, hb2.alloc (by omega) _⟩
set_option maxRecDepth 20000 in
set_option maxHeartbeats 400000 in
theorem qnew_any (w : World) : Calls Tryz.prog 10 #[.int .i64 1000] w fun e w' => (∃ g c, e = .returned (.tuple #[.agg #[.int .i64 1000, .int .i64 0, .slice (some ⟨g, 0, none⟩) 1 c, .bool false, .slice none 0 0], .int .i64 0])) ∧ Below w.heap.size w w' := by
  go_enter Tryz.func10, Tryz.ntmps10
  go_wp2
  refine bodyPost_ret (v := .tuple #[.agg #[.int .i64 1000, .int .i64 0, .slice (some ⟨w.heap.size + 1, 0, none⟩) 1 1, .bool false, .slice none 0 0], .int .i64 0]) (by simp [results, Tryz.results10, go_sem]; try rfl) rfl ?_
  exact ⟨⟨_, _, rfl⟩, ((Below.refl _ _).alloc (Nat.le_refl _) _).alloc (by simp) _⟩
def nS : Value := .slice none 0 0
def WdPost (l : Vr2) (fuel : Int) (w : World) (e : Ending) (w' : World) : Prop := ∃ (B bs br bq : Nat) (M : Int → Nat), e = .returned (.tuple #[.agg #[.pointer (some ⟨B, 0, none⟩), .pointer (some ⟨bs, 0, none⟩), .slice none 0 0, .slice none 0 0, .slice none 0 0, .int .i64 fuel], .agg #[.pointer (some ⟨br, 0, none⟩), .pointer (some ⟨bq, 0, none⟩), .slice none 0 0, .slice none 0 0, .slice none 0 0, .int .i64 fuel]]) ∧ w.heap.size ≤ B ∧ VSet B B M (putsV VS.none_ l) w' ∧ Below w.heap.size w w'
/-- The three boxes of worlds. -/
structure Bw (vl : Value) (fuel : Int) (w W : World) : Prop where
  b0 : W.heap[w.heap.size]? = some (.cells #[vl, .slice none 0 0, .slice none 0 0, .slice none 0 0, .slice none 0 0, .int .i64 fuel] 38 (0, 0))
  b1 : W.heap[w.heap.size + 1]? = some (.cells #[.pointer none, .pointer none, .slice none 0 0, .slice none 0 0, .slice none 0 0, .int .i64 0] 26 (0, 0))
  b2 : W.heap[w.heap.size + 2]? = some (.cells #[.pointer none, .pointer none, .slice none 0 0, .slice none 0 0, .slice none 0 0, .int .i64 0] 30 (0, 0))
theorem Bw.low {vl : Value} {fuel : Int} {w W1 W : World} {B : Nat} (h : Bw vl fuel w W1) (hB : w.heap.size + 2 < B) (hb : Below B W1 W) : Bw vl fuel w W :=
  ⟨(hb.block _ (by omega)).trans h.b0, (hb.block _ (by omega)).trans h.b1, (hb.block _ (by omega)).trans h.b2⟩
/-- What is left behind. -/
structure Kw (B : Nat) (M : Int → Nat) (s : VS) (w W : World) : Prop where
  v : VSet B B M s W
  b : Below w.heap.size w W
  l : w.heap.size + 2 < B
theorem Kw.drew {B : Nat} {M : Int → Nat} {s : VS} {w W : World} (h : Kw B M s w W) : Kw B M s w W.drew := ⟨h.v.below ((Below.refl _ _).drew), h.b.drew, h.l⟩
theorem Kw.one {B : Nat} {M : Int → Nat} {s : VS} {w W : World} (h : Kw B M s w W) {g i : Nat} (hg : w.heap.size ≤ g) (hg2 : g < B) (x : Value) : Kw B M s w (W.setCell ⟨g, i, none⟩ x) := by
  refine ⟨h.v.of_block ?_ fun n hn => ?_, h.b.setCell hg _, h.l⟩
  · have hne : B ≠ g := by omega
    exact Below.heap_setCell _ _ _ _ hne
  · have hne : M n ≠ g := by have := h.v.hm n hn; omega
    exact Below.heap_setCell _ _ _ _ hne
theorem Kw.set6 {B : Nat} {M : Int → Nat} {s : VS} {w W : World} (h : Kw B M s w W) (d : Nat) (hd : d ≤ 2) (a b c e f g : Value) : Kw B M s w ((((((W.setCell ⟨w.heap.size + d, 0, none⟩ a).setCell ⟨w.heap.size + d, 1, none⟩ b).setCell ⟨w.heap.size + d, 2, none⟩ c).setCell ⟨w.heap.size + d, 3, none⟩ e).setCell ⟨w.heap.size + d, 4, none⟩ f).setCell ⟨w.heap.size + d, 5, none⟩ g) := by
  have h1 : w.heap.size ≤ w.heap.size + d := by omega
  have h2 : w.heap.size + d < B := by have := h.l; omega
  exact (((((h.one h1 h2 _).one h1 h2 _).one h1 h2 _).one h1 h2 _).one h1 h2 _).one h1 h2 _
theorem kw_post {B bs br bq : Nat} {M : Int → Nat} {l : Vr2} {fuel : Int} {w W : World} (h : Kw B M (putsV VS.none_ l) w W) : WdPost l fuel w (.returned (.tuple #[.agg #[.pointer (some ⟨B, 0, none⟩), .pointer (some ⟨bs, 0, none⟩), .slice none 0 0, .slice none 0 0, .slice none 0 0, .int .i64 fuel], .agg #[.pointer (some ⟨br, 0, none⟩), .pointer (some ⟨bq, 0, none⟩), .slice none 0 0, .slice none 0 0, .slice none 0 0, .int .i64 fuel]])) W :=
  ⟨B, bs, br, bq, M, rfl, by have := h.l; omega, h.v, h.b⟩
/-- What of the scene is read at the end. -/
abbrev Scn (fuel : Int) (w W : World) : Prop := W.cell? ⟨w.heap.size, 2, none⟩ = some (.slice none 0 0) ∧ W.cell? ⟨w.heap.size, 3, none⟩ = some (.slice none 0 0) ∧ W.cell? ⟨w.heap.size, 4, none⟩ = some (.slice none 0 0) ∧ W.cell? ⟨w.heap.size, 5, none⟩ = some (.int .i64 fuel)
theorem Scn.drew {fuel : Int} {w W : World} (h : Scn fuel w W) : Scn fuel w W.drew := h
theorem Scn.one {fuel : Int} {w W : World} (h : Scn fuel w W) {g i : Nat} (hg : w.heap.size ≠ g) (x : Value) : Scn fuel w (W.setCell ⟨g, i, none⟩ x) := by
  have e : (W.setCell ⟨g, i, none⟩ x).heap[w.heap.size]? = W.heap[w.heap.size]? := Below.heap_setCell _ _ _ _ hg
  have k : ∀ (o : Nat) (v : Value), W.cell? ⟨w.heap.size, o, none⟩ = some v → (W.setCell ⟨g, i, none⟩ x).cell? ⟨w.heap.size, o, none⟩ = some v := fun o v hv => by rw [← hv]; simp only [World.cell?, e]
  exact ⟨k _ _ h.1, k _ _ h.2.1, k _ _ h.2.2.1, k _ _ h.2.2.2⟩
theorem Scn.set6 {fuel : Int} {w W : World} (h : Scn fuel w W) (d : Nat) (hd : 0 < d) (a b c e f g : Value) : Scn fuel w ((((((W.setCell ⟨w.heap.size + d, 0, none⟩ a).setCell ⟨w.heap.size + d, 1, none⟩ b).setCell ⟨w.heap.size + d, 2, none⟩ c).setCell ⟨w.heap.size + d, 3, none⟩ e).setCell ⟨w.heap.size + d, 4, none⟩ f).setCell ⟨w.heap.size + d, 5, none⟩ g) := by
  have hn : w.heap.size ≠ w.heap.size + d := by omega
  exact (((((h.one hn _).one hn _).one hn _).one hn _).one hn _).one hn _
set_option maxRecDepth 20000 in
set_option maxHeartbeats 40000000 in
theorem worlds_any (a : Option Addr) (n c : Nat) (l : Vr2) (fuel : Int) (w : World) (hn : n ≤ 140737488355328) (h : VarsAt w.heap.size w (.slice a n c) l) (hl : ∀ x ∈ l, x.1.size ≤ 140737488355328 ∧ x.2.size ≤ 140737488355328) :
    Calls Tryz.prog 4 #[.agg #[.slice a n c, .slice none 0 0, .slice none 0 0, .slice none 0 0, .slice none 0 0, .int .i64 fuel]] w (WdPost l fuel w) := by
  obtain ⟨W1, hW1, hb1, hz1, hB1⟩ : ∃ W1, W1 = ((w.alloc (.cells #[.slice a n c, .slice none 0 0, .slice none 0 0, .slice none 0 0, .slice none 0 0, .int .i64 fuel] 38)).alloc (.cells #[.pointer none, .pointer none, .slice none 0 0, .slice none 0 0, .slice none 0 0, .int .i64 0] 26)).alloc (.cells #[.pointer none, .pointer none, .slice none 0 0, .slice none 0 0, .slice none 0 0, .int .i64 0] 30) ∧ Below w.heap.size w W1 ∧ W1.heap.size = w.heap.size + 3 ∧ Bw (.slice a n c) fuel w W1 := by
    refine ⟨_, rfl, (((Below.refl _ _).alloc (Nat.le_refl _) _).alloc (by simp) _).alloc (by simp; omega) _, by simp, ?_, ?_, ?_⟩
    · rw [Below.heap_alloc _ _ _ (by simp; omega), Below.heap_alloc _ _ _ (by simp)]; exact heap_alloc_new _ _
    · rw [Below.heap_alloc _ _ _ (by simp)]; exact heap_alloc_new'
    · have := heap_alloc_new ((w.alloc (.cells #[.slice a n c, .slice none 0 0, .slice none 0 0, .slice none 0 0, .slice none 0 0, .int .i64 fuel] 38)).alloc (.cells #[.pointer none, .pointer none, .slice none 0 0, .slice none 0 0, .slice none 0 0, .int .i64 0] 26)) (.cells #[.pointer none, .pointer none, .slice none 0 0, .slice none 0 0, .slice none 0 0, .int .i64 0] 30)
      simpa using this
  obtain ⟨B, hB⟩ : ∃ B, B = W1.heap.size := ⟨_, rfl⟩
  have HNw : Hid (Calls Tryz.prog 8 #[] W1 fun e w' => e = .returned (.pointer (some ⟨B, 0, none⟩)) ∧ VSet B B (newM B) VS.none_ w' ∧ Below W1.heap.size W1 w') := by rw [hB]; exact new_any W1
  have hnl : n = l.length := by obtain ⟨a', n', c', h1, h2, _⟩ := h; simp only [Value.slice.injEq] at h1; rw [h1.2.1]; exact h2
  have HH : Hid (VarsAt w.heap.size w (.slice a n c) l ∧ n = l.length ∧ (∀ x ∈ l, x.1.size ≤ 140737488355328 ∧ x.2.size ≤ 140737488355328) ∧ B = W1.heap.size ∧ w.heap.size + 2 < B ∧ Below w.heap.size w W1) := ⟨h, hnl, hl, hB, by omega, hb1⟩
  have HB1 : Hid (Bw (.slice a n c) fuel w W1) := hB1
  clear h hl hnl hB hb1 hz1 hB1
  go_enter Tryz.func4, Tryz.ntmps4
  go_wp2_with fail
  rw [← hW1]
  clear hW1
  refine HNw.out.mono ?_
  rintro e w1 ⟨rfl, hv1, hb1⟩
  have H1 : Hid (VSet B B (newM B) VS.none_ w1 ∧ Below B W1 w1) := ⟨hv1, by rw [HH.out.2.2.2.1]; exact hb1⟩
  clear hv1 hb1 HNw
  obtain ⟨w2, hw2⟩ : ∃ w2, w2 = w1.alloc (.cells #[.slice none 0 0] 51) := ⟨_, rfl⟩
  obtain ⟨br, hbr⟩ : ∃ br, br = w1.heap.size := ⟨_, rfl⟩
  have H2 : Hid (Side B (newM B) br VS.none_ W1 w2) := by
    have hba : Below w1.heap.size w1 w2 := by rw [hw2]; exact (Below.refl _ _).alloc (Nat.le_refl _) _
    have hbb : B ≤ w1.heap.size := by rw [HH.out.2.2.2.1]; exact H1.out.2.size
    refine ⟨H1.out.1.below hba, ⟨.slice none 0 0, [], ⟨?_, World.ownsRow_nil _ _ _ _, by rw [hbr]; exact hbb⟩, rel_none⟩, H1.out.2.trans (hba.mono hbb)⟩
    rw [hw2, hbr]; exact heap_alloc_new _ _
  have HVn : Hid (∀ W, Calls Tryz.prog 9 #[.int .i64 1000] W fun e w' => (∃ b, e = .returned (.tuple #[.pointer (some ⟨b, 0, none⟩), .int .i64 0])) ∧ Below W.heap.size W w') := vnew_any
  have HQn : Hid (∀ W, Calls Tryz.prog 10 #[.int .i64 1000] W fun e w' => (∃ g c, e = .returned (.tuple #[.agg #[.int .i64 1000, .int .i64 0, .slice (some ⟨g, 0, none⟩) 1 c, .bool false, .slice none 0 0], .int .i64 0])) ∧ Below W.heap.size W w') := qnew_any
  go_wp2_with fail
  rw [← hw2, ← hbr]
  clear hw2 hbr H1
  refine (HVn.out _).mono ?_
  rintro e w3 ⟨⟨bs, rfl⟩, hb3⟩
  have H3 : Hid (Side B (newM B) br VS.none_ W1 w3) := H2.out.below hb3
  clear hb3 H2
  go_wp2_with fail
  refine (HQn.out _).mono ?_
  rintro e w4 ⟨⟨gq, cq, rfl⟩, hb4⟩
  have h4 := H3.out.below hb4
  clear hb4 H3
  obtain ⟨W5, bq, hW5, hbq, h5⟩ : ∃ W5 bq, W5 = w4.alloc (.cells #[.int .i64 1000, .int .i64 0, .slice (some ⟨gq, 0, none⟩) 1 cq, .bool false, .slice none 0 0] 57) ∧ bq = w4.heap.size ∧ Side B (newM B) br VS.none_ W1 W5 := ⟨_, _, rfl, rfl, h4.below ((Below.refl _ _).alloc (Nat.le_refl _) _)⟩
  have H5 : Hid (Side B (newM B) br VS.none_ W1 W5) := h5
  have HBx : Hid (∀ W, Below B W1 W → Bw (.slice a n c) fuel w W) := fun W h => HB1.out.low HH.out.2.2.2.2.1 h
  clear h4 h5
  go_upto_region 5 with fail
  rw [← hW5, ← hbq]
  clear hW5 hbq
  have z0 := cellb (HBx.out _ H5.out.low).b0 0 rfl
  have HP : Hid (∀ (s : VS) (q v : ByteArray) (W : World), VSet B B (newM B) s W → v.size ≤ 140737488355328 → Calls Tryz.prog 11 #[.pointer (some ⟨B, 0, none⟩), .int .i64 3, .string q, .string v] W fun e w' => e = .returned (.int .i64 (s.put 3 q v).2) ∧ VSet B B (newM B) (s.put 3 q v).1 w' ∧ Turn (newM B) W w') := fun s q v W h1 h2 => put_any 3 q v W h1 h2
  have HRP : Hid (∀ (s : VS) (vL : Value) (L : Vl) (q v : ByteArray) (W : World), RSet B br vL L W → Rel L s → q.size ≤ 140737488355328 → v.size ≤ 150000000000000 → Calls Tryz.prog 12 #[.pointer (some ⟨br, 0, none⟩), .int .i64 3, .string q, .string v] W fun e w' => e = .returned (.int .i64 (s.put 3 q v).2) ∧ V.Left B br (s.put 3 q v).1 W w') := fun s vL L q v W h1 h2 h3 h4 => rput_any 3 q v W h1 h2 h3 h4
  go_wp2_with fail
  clear z0
  go_loopw [28] (fun vi wr => ∃ k : Nat, k ≤ n ∧ vi = .int .i64 (k : Int) ∧ Hid (Side B (newM B) br (putsV VS.none_ (l.take k)) W1 wr)) (fun vi _ => n - (intOf vi).toNat)
  case atStart => exact ⟨0, Nat.zero_le _, rfl, H5.out⟩
  case round =>
    clear H5
    obtain ⟨k, hk, rfl, HS⟩ := hrel
    by_cases hlt : k < n
    · have hil : (k : Int) < (n : Int) := by omega
      have hkl : k < l.length := by rw [← HH.out.2.1]; exact hlt
      have hVr := HH.out.1.below (w' := wr) (HH.out.2.2.2.2.2.trans (HS.out.low.mono (by have := HH.out.2.2.2.2.1; omega)))
      obtain ⟨a', n', c', e1, e2, e3⟩ := hVr
      simp only [Value.slice.injEq] at e1
      obtain ⟨b, o, e4, e5, e6, e7⟩ := e3 k hkl
      rw [← e1.1] at e4
      subst e4
      have hsz := HH.out.2.2.1 l[k] (List.getElem_mem hkl)
      obtain ⟨q, hq⟩ : ∃ q, q = l[k].1 := ⟨_, rfl⟩
      obtain ⟨v, hv⟩ : ∃ v, v = l[k].2 := ⟨_, rfl⟩
      rw [← hq, ← hv] at hsz
      rw [← hq] at e6
      rw [← hv] at e7
      have HNX : Hid (putsV VS.none_ (l.take (k + 1)) = ((putsV VS.none_ (l.take k)).put 3 q v).1) := by rw [hq, hv]; exact puts_snoc l k hkl
      obtain ⟨s, hs⟩ : ∃ s, s = putsV VS.none_ (l.take k) := ⟨_, rfl⟩
      rw [← hs] at HS HNX
      obtain ⟨w3, hw3, hb3, hbox⟩ : ∃ w3, w3 = wr.alloc (.cells #[.string q, .string v] 35) ∧ Below wr.heap.size wr w3 ∧ w3.heap[wr.heap.size]? = some (.cells #[.string q, .string v] 35 (0, 0)) := ⟨_, rfl, (Below.refl _ _).alloc (Nat.le_refl _) _, heap_alloc_new _ _⟩
      have H3 : Hid (Side B (newM B) br s W1 w3 ∧ w3.heap[wr.heap.size]? = some (.cells #[.string q, .string v] 35 (0, 0)) ∧ q.size ≤ 140737488355328 ∧ v.size ≤ 140737488355328) := ⟨HS.out.below hb3, hbox, hsz⟩
      have z0 := V.cell_in hbox 0 rfl
      have z1 := V.cell_in hbox 1 rfl
      clear e1 e2 e3 e5 hsz hq hv hs hb3 hbox
      go_wp2_with fail
      rw [← hw3]
      clear hw3
      refine (HP.out s q v w3 H3.out.1.prog H3.out.2.2.2).mono ?_
      rintro e w4 ⟨rfl, hv4, ht4⟩
      have H4 : Hid (VSet B B (newM B) (s.put 3 q v).1 w4 ∧ (∃ vL L, RSet B br vL L w4 ∧ Rel L s) ∧ Below B W1 w4 ∧ w4.heap[wr.heap.size]? = some (.cells #[.string q, .string v] 35 (0, 0))) := by
        obtain ⟨vL, L, g1, g2⟩ := H3.out.1.doc
        have l1 := (Array.getElem?_eq_some_iff.1 H3.out.2.1).1
        refine ⟨hv4, ⟨vL, L, rset_turn g1 H3.out.1.prog ht4, g2⟩, ?_, ?_⟩
        · have hlo := H3.out.1.low
          exact ⟨ht4.os.trans hlo.os, ht4.tape.trans hlo.tape, ht4.output.trans hlo.output, Nat.le_trans hlo.size ht4.size, fun j hj => (ht4.block j (by have := H3.out.1.prog.lt; omega) (fun n hn e => by have := H3.out.1.prog.hm n hn; omega)).trans (hlo.block j hj)⟩
        · rw [ht4.block _ l1 (fun n hn e => ?_)]
          · exact H3.out.2.1
          · obtain ⟨es, clock, hm⟩ := (H3.out.1.prog.map n hn).isMap
            have h9 := H3.out.2.1; rw [e, hm] at h9; cases h9
      have y0 := V.cell_in H4.out.2.2.2 0 rfl
      have y1 := V.cell_in H4.out.2.2.2 1 rfl
      obtain ⟨vL, L, g1, g2⟩ := H4.out.2.1
      have HR4 : Hid (Calls Tryz.prog 12 #[.pointer (some ⟨br, 0, none⟩), .int .i64 3, .string q, .string v] w4 fun e w' => e = .returned (.int .i64 (s.put 3 q v).2) ∧ V.Left B br (s.put 3 q v).1 w4 w') := HRP.out s vL L q v w4 g1 g2 H3.out.2.2.1 (Nat.le_trans H3.out.2.2.2 (by omega))
      have HG1 : Hid (RSet B br vL L w4) := g1
      clear hv4 ht4 z0 z1 g1 g2 e6 e7
      go_wp2_with fail
      refine HR4.out.mono ?_
      rintro e w5 ⟨rfl, vL5, L5, g1, g2, g3⟩
      have H5 : Hid (Side B (newM B) br (s.put 3 q v).1 W1 w5) := by
        refine ⟨vset_rturn H4.out.1 HG1.out g3, ⟨vL5, L5, g1, g2⟩, ?_⟩
        have hlo := H4.out.2.2.1
        exact ⟨g3.os.trans hlo.os, g3.tape.trans hlo.tape, g3.output.trans hlo.output, Nat.le_trans hlo.size g3.size, fun j hj => (g3.block j (by have := H4.out.1.lt; omega) (by have := HG1.out.hb; omega)).trans (hlo.block j hj)⟩
      clear g1 g2 g3 HR4
      go_wp2_with fail
      go_roundw
      case rel => exact ⟨k + 1, by omega, by go_num, by rw [HNX.out]; exact H5.out⟩
      case measure => simp [intOf]; omega
    · have hil : ¬ (k : Int) < (n : Int) := by omega
      have hkn : k = n := by omega
      have hta : l.take k = l := List.take_of_length_le (by rw [← HH.out.2.1]; omega)
      rw [hta] at HS
      have hbw := HBx.out _ HS.out.low
      have z0 := cellb hbw.b0 0 rfl
      have z1 := cellb hbw.b0 1 rfl
      have z2 := cellb hbw.b0 2 rfl
      have z3 := cellb hbw.b0 3 rfl
      have z4 := cellb hbw.b0 4 rfl
      have z5 := cellb hbw.b0 5 rfl
      have HBw : Hid (Bw (.slice a n c) fuel w wr) := hbw
      clear hkn hta hbw
      go_wp2_with fail
      refine wp_loop_rounds 1 ?_
      rw [rounds_succ]
      go_wp2_with fail
      have f1 : ∀ i, wr.frozen? ⟨w.heap.size + 1, i, none⟩ = false := fun i => by simp [World.frozen?, HBw.out.b1]
      have f2 : ∀ i, wr.frozen? ⟨w.heap.size + 2, i, none⟩ = false := fun i => by simp [World.frozen?, HBw.out.b2]
      have p0 := cellb HBw.out.b1 0 rfl
      have r0 := cellb HBw.out.b2 0 rfl
      have p1 := cellb HBw.out.b1 1 rfl
      have r1 := cellb HBw.out.b2 1 rfl
      have p2 := cellb HBw.out.b1 2 rfl
      have r2 := cellb HBw.out.b2 2 rfl
      have p3 := cellb HBw.out.b1 3 rfl
      have r3 := cellb HBw.out.b2 3 rfl
      have p4 := cellb HBw.out.b1 4 rfl
      have r4 := cellb HBw.out.b2 4 rfl
      have p5 := cellb HBw.out.b1 5 rfl
      have r5 := cellb HBw.out.b2 5 rfl
      have HZ : Hid (Scn fuel w wr) := ⟨z2, z3, z4, z5⟩
      have HKw : Hid (Kw B (newM B) (putsV VS.none_ l) w wr) := ⟨HS.out.prog, HH.out.2.2.2.2.2.trans (HS.out.low.mono (by have := HH.out.2.2.2.2.1; omega)), HH.out.2.2.2.2.1⟩
      clear HH HS HBw
      clear z0 z1 z2 z3 z4 z5 HP HRP HVn HQn HBx HB1
      go_region_held3 (fun W => W.cell? ⟨w.heap.size, 2, none⟩ = some (.slice none 0 0) ∧ W.cell? ⟨w.heap.size, 3, none⟩ = some (.slice none 0 0) ∧ W.cell? ⟨w.heap.size, 4, none⟩ = some (.slice none 0 0) ∧ W.cell? ⟨w.heap.size, 5, none⟩ = some (.int .i64 fuel)) (first | with_reducible exact HZ.out | with_reducible exact HZ.out.drew | with_reducible exact (HZ.out.set6 1 (by omega) _ _ _ _ _ _).drew | with_reducible exact (HZ.out.set6 2 (by omega) _ _ _ _ _ _).drew | with_reducible exact ((HZ.out.set6 1 (by omega) _ _ _ _ _ _).set6 2 (by omega) _ _ _ _ _ _).drew | with_reducible exact ((HZ.out.set6 2 (by omega) _ _ _ _ _ _).set6 1 (by omega) _ _ _ _ _ _).drew) (fail)
      all_goals
        go_wp2
        refine bodyPost_ret (v := .tuple #[.agg #[.pointer (some ⟨B, 0, none⟩), .pointer (some ⟨bs, 0, none⟩), .slice none 0 0, .slice none 0 0, .slice none 0 0, .int .i64 fuel], .agg #[.pointer (some ⟨br, 0, none⟩), .pointer (some ⟨bq, 0, none⟩), .slice none 0 0, .slice none 0 0, .slice none 0 0, .int .i64 fuel]]) (by simp [results, Tryz.results4, go_sem, p0, p1, p2, p3, p4, p5, r0, r1, r2, r3, r4, r5]; try rfl) rfl ?_
        refine kw_post (M := newM B) ?_
        first
          | with_reducible exact ((HKw.out.set6 1 (by omega) _ _ _ _ _ _).set6 2 (by omega) _ _ _ _ _ _).drew
          | with_reducible exact ((HKw.out.set6 2 (by omega) _ _ _ _ _ _).set6 1 (by omega) _ _ _ _ _ _).drew
          | with_reducible exact (HKw.out.drew.set6 1 (by omega) _ _ _ _ _ _).set6 2 (by omega) _ _ _ _ _ _
          | with_reducible exact (HKw.out.drew.set6 2 (by omega) _ _ _ _ _ _).set6 1 (by omega) _ _ _ _ _ _
          | with_reducible exact ((HKw.out.set6 1 (by omega) _ _ _ _ _ _).set6 2 (by omega) _ _ _ _ _ _).drew.drew
          | with_reducible exact ((HKw.out.set6 2 (by omega) _ _ _ _ _ _).set6 1 (by omega) _ _ _ _ _ _).drew.drew
end Go.Proofs.YtkelmhpoplbacaaGreatDoor.Cd
namespace Go.Proofs.YtkelmhpoplbacaaGreatDoor.N
open Go.RowKit Go.Shelf

theorem Cd.heap_new (w : World) (o : Obj) : (w.alloc o).heap[w.heap.size]? = some o := by
  show (w.heap.push o)[w.heap.size]? = _
  simp
theorem add_none (b i j : Nat) : (⟨b, i, none⟩ : Addr).add j = ⟨b, i + j, none⟩ := by
  simp [Addr.add]
theorem conv_dig (x : Int) (h0 : 0 ≤ x) (h1 : x ≤ 255) (b : Nat) (w : World) (hblk : w.heap[b]? = some (.cells #[.int .u8 x] 5)) : (convert 64 9 (.slice (some ⟨b, 0, none⟩) 1 1)).run Tryz.prog w = .ok (.string ⟨#[UInt8.ofNat x.toNat]⟩) w := by
  refine run_convert_bytes_back _ 64 9 5 ⟨b, 0, none⟩ 1 [UInt8.ofNat x.toNat] Tryz.underlying64 Tryz.underlying5 Tryz.underlying9 fun i hi => ?_
  have hi3 : i = 0 := by have : i < 1 := hi; omega
  subst hi3
  rw [add_none]
  simp [World.cell?, hblk]
  omega
/-- What stands behind some rounds: the digits that are written, and those that are to come. -/
structure Fo (N : Nat) (first : Bool) (u : Nat) (l : List UInt8) : Prop where
  todo : first = true ∨ 0 < u → Lib.decDigits N = Lib.decDigits u ++ l
  done : ¬ (first = true ∨ 0 < u) → Lib.decDigits N = l
theorem Fo.start (N : Nat) : Fo N true N [] := ⟨fun _ => by simp, fun h => absurd (.inl rfl) h⟩
theorem dec_big {u : Nat} (h : ¬ u < 10) : Lib.decDigits u = Lib.decDigits (u / 10) ++ [UInt8.ofNat (48 + u % 10)] := by
  rw [Lib.decDigits, dif_neg h]
theorem Fo.step {N : Nat} {first : Bool} {u : Nat} {l : List UInt8} (h : Fo N first u l) (hf : first = true ∨ 0 < u) : Fo N false (u / 10) (UInt8.ofNat (48 + u % 10) :: l) := by
  have e := h.todo hf
  refine ⟨fun h1 => ?_, fun h1 => ?_⟩
  · have hu : ¬ u < 10 := by
      rcases h1 with h1 | h1
      · cases h1
      · omega
    rw [e, dec_big hu]
    simp
  · have hu : u < 10 := by
      have : ¬ 0 < u / 10 := fun h2 => h1 (.inr h2)
      omega
    rw [e, Lib.decDigits_one hu, Nat.mod_eq_of_lt hu]
    rfl

theorem Fo.len {N : Nat} {first : Bool} {u : Nat} {l : List UInt8} (h : Fo N first u l) (hN : N < 18446744073709551616) : l.length ≤ 20 := by
  have h2 : (Lib.decDigits N).length ≤ 20 := by rw [Lib.decDigits_length]; exact Lib.nDigits_le20 N hN
  by_cases hf : first = true ∨ 0 < u
  · have := h.todo hf
    rw [this, List.length_append] at h2
    omega
  · have := h.done hf
    rw [← this]; exact h2
def boolN : Value → Nat
  | .bool true => 1
  | _ => 0
/-- All that a round's head says. -/
def FoAt (N : Nat) (f : Bool) (x : Int) (s : ByteArray) : Prop := ∃ u : Nat, x = (u : Int) ∧ u ≤ 9223372036854775807 ∧ Fo N f u (bl s)
theorem FoAt.step {N : Nat} {f : Bool} {x : Int} {s : ByteArray} (h : FoAt N f x s) (hf : f = true ∨ 0 < x) : FoAt N false (x / 10) ((⟨#[UInt8.ofNat (48 + x % 10).toNat]⟩ : ByteArray) ++ s) := by
  obtain ⟨u, rfl, hu, hF⟩ := h
  refine ⟨u / 10, by omega, by omega, ?_⟩
  rw [bl_app]
  have e : (48 + (u : Int) % 10).toNat = 48 + u % 10 := by omega
  rw [e]
  exact hF.step (hf.imp id (fun h => by omega))
theorem FoAt.lo {N : Nat} {f : Bool} {x : Int} {s : ByteArray} (h : FoAt N f x s) : 0 ≤ x ∧ x ≤ 9223372036854775807 := by
  obtain ⟨u, rfl, hu, _⟩ := h
  omega
theorem FoAt.len {N : Nat} {f : Bool} {x : Int} {s : ByteArray} (h : FoAt N f x s) (hN : N ≤ 9223372036854775807) : s.size ≤ 20 := by
  obtain ⟨u, rfl, hu, hF⟩ := h
  rw [← bl_length]
  exact hF.len (by omega)
theorem FoAt.done {N : Nat} {s : ByteArray} (h : FoAt N false 0 s) : s = ba (Lib.decDigits N) := by
  obtain ⟨u, hu0, hu, hF⟩ := h
  apply bl_inj
  rw [bl_ba, hF.done (by rintro (h | h); cases h; omega)]

set_option maxHeartbeats 1000000 in
set_option maxRecDepth 20000 in
theorem digits_pos (n : Nat) (hn : n ≤ 9223372036854775807) (w : World) :
    Calls Tryz.prog 5 #[.int .i64 ((n : Int))] w fun e w' => e = .returned (.string (ba (Lib.decDigits n))) ∧ Below w.heap.size w w' := by
  obtain ⟨a0, ha0⟩ : ∃ a0 : Int, a0 = (n : Int) := ⟨_, rfl⟩
  rw [← ha0]
  have h0 : ¬ a0 < 0 := by omega
  have h00 : 0 ≤ a0 := by omega
  have h1 : a0 ≤ 9223372036854775807 := by omega
  have HS : Hid (FoAt n true a0 ⟨#[]⟩) := ⟨n, by omega, by omega, Fo.start n⟩
  have HN : Hid (n ≤ 9223372036854775807) := by unfold Hid; omega
  clear ha0 hn
  go_enter Tryz.func5, Tryz.ntmps5
  go_wp2
  go_loopw [0, 3, 4] (fun vu vs vf wr => ∃ (x : Int) (s : ByteArray) (f : Bool), vu = .int .i64 x ∧ vs = .string s ∧ vf = .bool f ∧ Hid (FoAt n f x s) ∧ Hid (Below w.heap.size w wr)) (fun vu _ vf _ => 2 * (intOf vu).toNat + boolN vf)
  case atStart => exact ⟨_, _, true, rfl, rfl, rfl, HS, Below.refl _ _⟩
  case round =>
    obtain ⟨x, s, f, rfl, rfl, rfl, HF, HB⟩ := hrel
    obtain ⟨hx0, hx1⟩ := HF.out.lo
    have hsz := HF.out.len HN.out
    clear HS
    have hgo : ∀ (hf : f = true ∨ 0 < x), Hid (FoAt n false (x / 10) ((⟨#[UInt8.ofNat (48 + x % 10).toNat]⟩ : ByteArray) ++ s)) := fun hf => HF.out.step hf
    have hcv := conv_dig (48 + x % 10) (by omega) (by omega) wr.heap.size (wr.alloc (.cells #[.int .u8 (48 + x % 10)] 5)) (Cd.heap_new wr _)
    have HB1 : Hid (Below w.heap.size w (wr.alloc (.cells #[.int .u8 (48 + x % 10)] 5))) := HB.out.alloc HB.out.size _
    have hz : ¬ 9223372036854775807 < (⟨#[UInt8.ofNat (48 + x % 10).toNat]⟩ : ByteArray).size + s.size := by
      have : (⟨#[UInt8.ofNat (48 + x % 10).toNat]⟩ : ByteArray).size = 1 := rfl
      omega
    cases f
    · by_cases h : 0 < x
      · have HG := hgo (.inr h)
        clear hgo HF
        go_wp2
        exact ⟨⟨_, _, false, rfl, rfl, rfl, HG, HB1⟩, by simp [intOf, boolN]; omega⟩
      · obtain rfl : x = 0 := by omega
        have HD : Hid (s = ba (Lib.decDigits n)) := HF.out.done
        clear hgo HF hcv HB1 hz
        go_wp2
        go_ret
        exact ⟨by rw [HD.out]; rfl, HB.out⟩
    · have HG := hgo (.inl rfl)
      clear hgo HF
      go_wp2
      exact ⟨⟨_, _, false, rfl, rfl, rfl, HG, HB1⟩, by simp [intOf, boolN]; omega⟩

set_option maxHeartbeats 1000000 in
theorem digits_neg (n : Nat) (hn0 : 0 < n) (hn : n ≤ 9223372036854775807) (w : World) :
    Calls Tryz.prog 5 #[.int .i64 (-(n : Int))] w fun e w' => e = .returned (.string (ba (45 :: Lib.decDigits n))) ∧ Below w.heap.size w w' := by
  have HP : Hid (Calls Tryz.prog 5 #[.int .i64 (n : Int)] w fun e w' => e = .returned (.string (ba (Lib.decDigits n))) ∧ Below w.heap.size w w') := digits_pos n hn w
  have hz : (Lib.decDigits n).length ≤ 20 := by rw [Lib.decDigits_length]; exact Lib.nDigits_le20 n (by omega)
  have he : (⟨#[45]⟩ : ByteArray) ++ ba (Lib.decDigits n) = ba (45 :: Lib.decDigits n) := by
    apply bl_inj
    rw [bl_app, bl_ba, bl_ba]; rfl
  have hsz : (ba (Lib.decDigits n)).size ≤ 20 := by rw [ba_size]; exact hz
  have HE : Hid ((⟨#[45]⟩ : ByteArray) ++ ba (Lib.decDigits n) = ba (45 :: Lib.decDigits n)) := he
  generalize ba (Lib.decDigits n) = u at HP hsz HE
  obtain ⟨a0, ha0⟩ : ∃ a0 : Int, a0 = -(n : Int) := ⟨_, rfl⟩
  have h1 : a0 < 0 := by omega
  have h2 : -a0 = (n : Int) := by omega
  have h3 : -9223372036854775807 ≤ a0 := by omega
  rw [← h2] at HP
  rw [← ha0]
  have hz : ¬ 9223372036854775807 < (⟨#[45]⟩ : ByteArray).size + u.size := by
    have : (⟨#[45]⟩ : ByteArray).size = 1 := rfl
    omega
  clear h2 ha0 hn hn0 he
  go_enter Tryz.func5, Tryz.ntmps5
  go_wp2_with fail
  refine HP.out.mono ?_
  rintro e w1 ⟨rfl, hb1⟩
  have H1 : Hid (Below w.heap.size w w1) := hb1
  clear hb1
  go_wp2
  go_ret
  refine ⟨?_, H1.out⟩
  rw [← HE.out]
  rfl
/-- The digits of a number. -/
def digL (n : Int) : List UInt8 := if n < 0 then 45 :: Lib.decDigits n.natAbs else Lib.decDigits n.natAbs
theorem digits_any (n : Int) (h0 : -1099511627776 ≤ n) (h1 : n ≤ 1099511627776) (w : World) :
    Calls Tryz.prog 5 #[.int .i64 n] w fun e w' => e = .returned (.string (ba (digL n))) ∧ Below w.heap.size w w' := by
  unfold digL
  by_cases h : n < 0
  · rw [if_pos h]
    have := digits_neg n.natAbs (by omega) (by omega) w
    rw [show -(n.natAbs : Int) = n by omega] at this
    exact this
  · rw [if_neg h]
    have := digits_pos n.natAbs (by omega) w
    rw [show (n.natAbs : Int) = n by omega] at this
    exact this
theorem digL_len (n : Int) (h0 : -1099511627776 ≤ n) (h1 : n ≤ 1099511627776) : (digL n).length ≤ 21 := by
  have : (Lib.decDigits n.natAbs).length ≤ 20 := by rw [Lib.decDigits_length]; exact Lib.nDigits_le20 _ (by omega)
  unfold digL
  split
  · simp; omega
  · omega
theorem digL_parse (n : Int) (h0 : -1099511627776 ≤ n) (h1 : n ≤ 1099511627776) : parseG (digL n) = (n, 0) := by
  unfold digL
  split
  · rename_i h
    rw [(digs_dec _).minus, num_dec]
    unfold valG most
    rw [if_neg (by omega)]
    simp only [if_true, Prod.mk.injEq, and_true]
    omega
  · rename_i h
    rw [(digs_dec _).parse, num_dec]
    unfold valG most
    rw [if_neg (by omega)]
    simp only [Bool.false_eq_true, if_false, Prod.mk.injEq, and_true]
    omega
theorem plus_parse (n : Int) (h0 : 0 ≤ n) (h1 : n ≤ 1099511627776) : parseG (43 :: 48 :: digL n) = (n, 0) := by
  unfold digL
  rw [if_neg (by omega), ((digs_dec _).nought).plus, nought_val, num_dec]
  unfold valG most
  rw [if_neg (by omega)]
  simp only [Bool.false_eq_true, if_false, Prod.mk.injEq, and_true]
  omega
end Go.Proofs.YtkelmhpoplbacaaGreatDoor.N
namespace Go.Proofs.YtkelmhpoplbacaaGreatDoor.Cd
open Go.RowKit Go.Shelf Ex

theorem sev_more {T sep : List UInt8} {one : Nat → RR Tr → Prop} {a p p' q : Nat} {t : Tr} {l : List Tr} (h1 : one a (.ok p t)) (hn : nextP T p sep = (true, p')) (h2 : Sev T sep one p' (.ok q l)) : Sev T sep one a (.ok q (t :: l)) := by
  have := Sev.more (r := .ok q l) h1 (by rw [hn]) (by rw [hn]; exact h2)
  exact this
theorem sev_last {T sep : List UInt8} {one : Nat → RR Tr → Prop} {a p p' : Nat} {t : Tr} (h1 : one a (.ok p t)) (hn : nextP T p sep = (false, p')) : Sev T sep one a (.ok p' [t]) := by
  have := Sev.last (T := T) (sep := sep) h1 (by rw [hn])
  rw [hn] at this; exact this
theorem part_test {s : ByteArray} {k a q : Nat} {r : RR Tr} (hq : skipP (bl s) a = q) (h33 : ¬ (bl s)[q]? = some 33) (h40 : ¬ (bl s)[q]? = some 40) (hr : testR s q = r) : PartR s (k + 1) a r := by
  unfold PartR
  rw [hq, if_neg h33, if_neg h40, hr]
/-- One way of parts. -/
theorem read_ways {s : ByteArray} {p q : Nat} {ts : List Tr} (h0 : skipP (bl s) 0 = 0) (h1 : Sev (bl s) [38, 38] (PartR s 32) 0 (.ok p ts)) (h2 : nextP (bl s) p [124, 124] = (false, q)) (h3 : ¬ skipP (bl s) q < s.size) : ReadR s (.ok (skipP (bl s) q) (.some_ 0 [.all_ 0 ts])) := by
  refine ⟨.ok q (.some_ 0 [.all_ 0 ts]), ⟨.ok q [.all_ 0 ts], ?_, ?_⟩, ?_⟩
  · exact sev_last ⟨.ok p ts, h1, by rw [h0]; rfl⟩ h2
  · rw [h0]; rfl
  · show _ = if skipP (bl s) q < s.size then RR.bad 13 (skipP (bl s) q) else RR.ok (skipP (bl s) q) (Tr.some_ 0 [.all_ 0 ts])
    rw [if_neg h3]
theorem hc_tree {w1 : World} {P : Nat → Prop} (hP : ∀ g, P g → g < w1.heap.size) (x : Wo) (v : Value) (ts : List Tr) (n m : Nat) (b : Bool) (h : TV w1 P v (.some_ n [.all_ m ts])) (hl : ts.length ≤ 1000) (hU : ∀ vs, TVs w1 P vs ts → Unt w1.heap.size w1 x false vs b 0 0) : HC w1.heap.size w1 x v b 0 0 := by
  cases h with
  | @some_ _ _ v1 vs hrow hlen hel =>
    match vs, hlen with
    | [va], _ =>
      have hva := hel 0 va _ rfl rfl
      have hHa : HC w1.heap.size w1 x va b 0 0 := by
        cases hva with
        | @all_ _ _ v2 vs2 hrow2 hlen2 hel2 => exact hc_all x m v2 vs2 (by omega) b 0 0 (hU vs2 ⟨hlen2, hel2⟩) (hrow2.kept fun g hg => ⟨hP g hg, rfl⟩)
      refine hc_some x n v1 [va] (by simp) b 0 0 ?_ (hrow.kept fun g hg => ⟨hP g hg, rfl⟩)
      cases b
      · exact .go hHa .nil
      · exact .stop hHa
set_option maxRecDepth 20000 in
set_option maxHeartbeats 2000000 in
theorem holds_top (x : Wo) (s : ByteArray) (hs : s.size ≤ 65536) (p : Nat) (t : Tr) (hR : ReadR s (.ok p t)) (b : Bool) (w : World) (ht : Tb w) (hH : ∀ (w1 : World) (P : Nat → Prop) (v : Value), (∀ g, P g → g < w1.heap.size) → TV w1 P v t → Below w.heap.size w w1 → HC w1.heap.size w1 x v b 0 0) :
    Calls Tryz.prog 6 #[.string s, x.val] w fun e w' => e = .returned (.tuple #[.bool b, fV 0 0]) ∧ Below w.heap.size w w' := by
  obtain ⟨W1, hW1, hb1, hx1, hy1, hz1⟩ := box_W1 x w
  have hT1 : Tb W1 := ht.below hb1 ht.low
  have HRd : Hid (Calls Tryz.prog 15 #[.string s] W1 fun e w' => ∃ T xx, e = .returned (.tuple #[.iface T xx, fV 0 0]) ∧ TV w' (New W1 w') (.iface T xx) t ∧ Below W1.heap.size W1 w') := (read_any s hs W1 hT1).mono fun e w' hx => by
    obtain ⟨r, hr, hp⟩ := hx
    rw [read_one hr hR] at hp
    obtain ⟨h1, T, xx, h2, h3⟩ := hp
    exact ⟨T, xx, h2, h3, h1⟩
  have H1 : Hid (Below w.heap.size w W1 ∧ W1.heap[w.heap.size]? = some (.cells #[x.pv, x.ps, x.g, x.t, x.c, .int .i64 x.f] 26 (0, 0)) ∧ W1.heap[w.heap.size + 1]? = some (.cells #[.int .i64 0, .int .i64 0] 43 (0, 0))) := ⟨hb1, hx1, hy1⟩
  have HH : Hid (∀ (w1 : World) (P : Nat → Prop) (v : Value), (∀ g, P g → g < w1.heap.size) → TV w1 P v t → Below w.heap.size w w1 → HC w1.heap.size w1 x v b 0 0) := hH
  clear hT1 ht hR hH hb1 hx1 hy1 hz1
  go_enter Tryz.func6, Tryz.ntmps6
  go_wp2_with fail
  rw [← hW1]
  clear hW1
  refine HRd.out.mono ?_
  rintro e w2 ⟨T, xx, rfl, htv, hb2⟩
  have hHc := HH.out w2 (New W1 w2) _ (fun g hg => hg.2) htv (H1.out.1.trans (hb2.mono H1.out.1.size))
  obtain ⟨W3, g, hW3, hg, hbx, hb23⟩ : ∃ W3 g, W3 = w2.alloc (.cells #[.int .i64 0, .int .i64 0] 43) ∧ g = w2.heap.size ∧ W3.heap[g]? = some (.cells #[.int .i64 0, .int .i64 0] 43 (0, 0)) ∧ Below w2.heap.size w2 W3 := ⟨_, _, rfl, rfl, heap_alloc_new _ _, (Below.refl _ _).alloc (Nat.le_refl _) _⟩
  have hb13 : Below W1.heap.size W1 W3 := hb2.trans (hb23.mono hb2.size)
  have hx3 := (hb13.block _ (Array.getElem?_eq_some_iff.1 H1.out.2.1).1).trans H1.out.2.1
  have hy3 := (hb13.block _ (Array.getElem?_eq_some_iff.1 H1.out.2.2).1).trans H1.out.2.2
  have HC3 : Hid (Calls Tryz.prog 16 #[x.val, .iface T xx] W3 (HoPost b 0 0 W3)) := hHc W3 hb23 hb23.size
  have H3 : Hid (Below w.heap.size w W3 ∧ W3.heap[w.heap.size + 1]? = some (.cells #[.int .i64 0, .int .i64 0] 43 (0, 0))) := ⟨H1.out.1.trans (hb13.mono H1.out.1.size), hy3⟩
  go_upto_region 2 with fail
  rw [← hW3, ← hg]
  clear hW3 hg hb2 hb23 hb13 htv hHc
  have q0 := cellb hbx 0 rfl
  have q1 := cellb hbx 1 rfl
  have x0 := cellb hx3 0 rfl
  have x1 := cellb hx3 1 rfl
  have x2 := cellb hx3 2 rfl
  have x3 := cellb hx3 3 rfl
  have x4 := cellb hx3 4 rfl
  have x5 := cellb hx3 5 rfl
  clear hbx hx3 hy3
  go_wp2_with fail
  refine HC3.out.mono ?_
  rintro e w4 ⟨rfl, hb4⟩
  have hy4 := (hb4.block _ (Array.getElem?_eq_some_iff.1 H3.out.2).1).trans H3.out.2
  have H4 : Hid (Below w.heap.size w w4) := H3.out.1.trans (hb4.mono H3.out.1.size)
  have g0 := cellb hy4 0 rfl
  have g1 := cellb hy4 1 rfl
  have gf : ∀ i, w4.frozen? ⟨w.heap.size + 1, i, none⟩ = false := fun i => by simp [World.frozen?, hy4]
  clear hb4 hy4 q0 q1 x0 x1 x2 x3 x4 x5
  go_wp2
  refine bodyPost_ret (v := .tuple #[.bool b, fV 0 0]) (by simp [results, Tryz.results6, go_sem, g0, g1]; try rfl) rfl ?_
  exact ⟨rfl, fin_low (fin_low H4.out (by omega) _) (by omega) _⟩
end Go.Proofs.YtkelmhpoplbacaaGreatDoor.Cd
namespace Go.Proofs.YtkelmhpoplbacaaGreatDoor.Ex
open Go.RowKit Go.Shelf
open V (VS VSet)

def envN (s : VS) : Env := ⟨s.get, fun _ _ => none⟩
theorem get_size {s : VS} (h : s.Ok) {q v : ByteArray} (hg : s.get q = some v) : v.size ≤ 65536 := by
  unfold V.VS.get at hg
  split at hg
  · rename_i u hu; cases hg; exact V.VS.look_size h hu
  · split at hg
    · rename_i u hu; cases hg; exact V.VS.look_size h hu
    · split at hg
      · rename_i u hu; cases hg; exact V.VS.look_size h hu
      · exact V.VS.look_size h hg
theorem cx_n {base b : Nat} {M : Int → Nat} {s : VS} {w : World} (h : VSet base b M s w) : Cx w.heap.size w (.pointer (some ⟨b, 0, none⟩)) (envN s) :=
  ⟨fun W q hW hq => V.get_any q W (h.below hW) (by omega), fun q v hg => get_size h.ok hg, fun m t x hx => (by cases hx), fun m t u hu => (by cases hu)⟩
theorem plain_scan (T : List UInt8) : ∀ (l : List UInt8) (p : Nat) (t : List UInt8), (∀ x ∈ l, x ≠ 36) → T.drop p = l ++ t → scanF T T.length ⟨p, [], []⟩ = scanF T T.length ⟨p + l.length, [], []⟩
  | [], p, t, _, _ => rfl
  | x :: r, p, t, h, hd => by
    have hx : x ≠ 36 := h x (by simp)
    obtain ⟨h1, h2, h3⟩ := drop_split hd
    rw [← scan_step T _ ⟨p, [], []⟩ h2 (by simp only; omega), step_out hd hx, plain_scan T r (p + 1) t (fun y hy => h y (by simp [hy])) h3]
    simp only [List.length_cons]
    rw [show p + 1 + r.length = p + (r.length + 1) by omega]
theorem plain_none (l : List UInt8) (h : ∀ x ∈ l, x ≠ 36) : scanL l = [] := by
  unfold scanL scan0
  rw [plain_scan l l 0 [] h (by simp), scan_end l _ _ (by simp)]
theorem ext_all (q : ByteArray) : q.extract 0 q.size = q := by
  apply bl_inj; rw [bl_extract, List.take_of_length_le (by rw [bl_length]; exact Nat.le_refl _)]; rfl
theorem e0_app (q : ByteArray) : E0 ++ q = q := by
  apply bl_inj
  show bl (E0 ++ q) = bl q
  unfold bl; simp [E0]
/-- A plain text means itself. -/
theorem plain_text (ev : Env) (k : Nat) (within : List ByteArray) (fuel : Nat) (q : ByteArray) (hq : ∀ x ∈ bl q, x ≠ 36) (hz : q.size ≤ 65536) : textG ev (k + 1) within fuel q = .ok q fuel := by
  unfold textG
  rw [plain_none (bl q) hq]
  unfold meanG endG addF
  dsimp only
  rw [if_pos ⟨Nat.zero_le _, Nat.le_refl _⟩, ext_all, if_neg (by show ¬ 65536 < 0 + q.size; omega), e0_app]
  rfl
/-- A use of a variable whose value is plain means the value. -/
theorem use_text (ev : Env) (k : Nat) (fuel : Nat) (q nm v : ByteArray) (nf nt : Nat) (hscan : scanL (bl q) = [⟨0, q.size, nf, nt, 0, 0⟩]) (hq0 : 0 < q.size) (hq1 : q.size ≤ 1000) (hnf : 0 < nf) (hn1 : nf ≤ nt) (hn2 : nt ≤ q.size) (hnm : q.extract nf nt = nm) (hnz : nm.size ≤ 100) (hg : ev.get nm = some v) (hv : ∀ x ∈ bl v, x ≠ 36) (hvz : v.size ≤ 1000) (hf : 1 + v.size ≤ fuel) :
    ∃ f, textG ev (k + 2) [] fuel q = .ok v f := by
  have hvar : varF (textG ev (k + 1)) [] (fuel - 1) nm v = .ok v (fuel - 1 - v.size) := by
    unfold varF
    rw [if_neg (by intro h; rcases h with h | h; exact absurd h (by decide); cases h), if_neg (by omega)]
    exact plain_text ev k _ _ v hv (by omega)
  refine ⟨fuel - 1 - v.size, ?_⟩
  unfold textG
  rw [hscan]
  simp only [List.length_singleton]
  have ext00 : q.extract 0 0 = E0 := by apply bl_inj; rw [bl_extract]; simp [bl]
  have hd : dollarF ev (textG ev (k + 1)) [] (fun a b l f => meanG ev (textG ev (k + 1)) [] q 1 E0 a b l f) ⟨0, q.size, nf, nt, 0, 0⟩ [] fuel = .ok v [] (fuel - 1 - v.size) := by
    unfold dollarF
    rw [if_neg (by simp only; omega), if_neg (by simp only; omega), if_neg (by omega)]
    have m1 : meanG ev (textG ev (k + 1)) [] q 1 E0 nf nt [] (fuel - 1) = .ok nm [] (fuel - 1) := by
      unfold meanG endG addF
      dsimp only
      rw [if_pos ⟨hn1, hn2⟩, hnm, if_neg (by show ¬ 65536 < 0 + nm.size; omega), e0_app]
    have m2 : meanG ev (textG ev (k + 1)) [] q 1 E0 0 0 [] (fuel - 1) = .ok E0 [] (fuel - 1) := by
      unfold meanG endG addF
      dsimp only
      rw [if_pos ⟨Nat.le_refl _, Nat.zero_le _⟩, ext00, if_neg (by show ¬ 65536 < 0 + 0; omega)]
      rfl
    dsimp only
    rw [m1]
    dsimp only [Mes.and]
    rw [m2]
    dsimp only
    have hu : useF ev (textG ev (k + 1)) [] (fuel - 1) nm E0 = .ok v (fuel - 1 - v.size) := by
      unfold useF
      rw [if_neg (by decide), if_neg (by decide), hg]
      show allF ev E0 (varF (textG ev (k + 1)) [] (fuel - 1) nm v) = _
      rw [hvar]; rfl
    rw [hu]; rfl
  unfold meanG
  dsimp only
  rw [if_pos hq0, if_pos ⟨Nat.zero_le _, Nat.zero_le _⟩]
  unfold addF
  rw [ext00, if_neg (by show ¬ 65536 < 0 + 0; omega), hd]
  dsimp only [Mes.and]
  rw [if_neg (by show ¬ 65536 < (E0 ++ E0).size + v.size; have : (E0 ++ E0).size = 0 := rfl; omega)]
  unfold meanG endG addF
  dsimp only
  have exq : q.extract q.size q.size = E0 := by apply bl_inj; rw [bl_extract, List.drop_take, Nat.sub_self, List.take_zero]; rfl
  rw [if_pos ⟨Nat.le_refl _, Nat.le_refl _⟩, exq, if_neg (by
    have h1 : (E0 ++ E0 ++ v).size = v.size := by rw [show E0 ++ E0 = E0 from rfl, e0_app]
    have h2 : E0.size = 0 := rfl
    omega)]
  have : E0 ++ E0 ++ v ++ E0 = v := by
    rw [show E0 ++ E0 = E0 from rfl, e0_app]
    apply bl_inj
    unfold bl; simp [E0]
  rw [this]; rfl
end Go.Proofs.YtkelmhpoplbacaaGreatDoor.Ex
namespace Go.Proofs.YtkelmhpoplbacaaGreatDoor.Cd
open Go.RowKit Go.Shelf Ex
open V (VS VSet)
theorem me_of {base b : Nat} {M : Int → Nat} {sv : VS} {w : World} (h : VSet base b M sv w) (x : Wo) (hx : x.pv = .pointer (some ⟨b, 0, none⟩)) (fuel : Nat) (hf : x.f = (fuel : Int)) (hf2 : fuel ≤ 10000000) (s t : ByteArray) (hs : s.size ≤ 1000000) (k f : Nat) (ht : textG (envN sv) k [] fuel s = .ok t f) : MeC w.heap.size w x s t := fun W hW _ => by
  rw [hx, hf]
  have := top_any (ev := envN sv) s (fuel : Int) fuel (by omega) W (cx_n (h.below hW)) hs hf2 k (by rw [ht]; exact fun e => by cases e)
  rw [ht] at this
  exact this.mono fun e w' hx => ⟨⟨f, hx.2⟩, hx.1⟩
end Go.Proofs.YtkelmhpoplbacaaGreatDoor.Cd
namespace Go.Proofs.YtkelmhpoplbacaaGreatDoor.Cd
open Go.RowKit Go.Shelf Ex
open V (VS VSet)

set_option maxHeartbeats 1000000 in
theorem check_bad (s : ByteArray) (hs : s.size ≤ 65536) (y : Int) (n : Nat) (hR : ReadR s (.bad y n)) (w : World) (ht : Tb w) : Calls Tryz.prog 17 #[.string s] w fun e w' => e = .returned (fV y (n : Int)) ∧ Below w.heap.size w w' := by
  obtain ⟨W1, hW1, hb1, hx1⟩ : ∃ W1, W1 = w.alloc (.cells #[.int .i64 0, .int .i64 0] 43) ∧ Below w.heap.size w W1 ∧ W1.heap[w.heap.size]? = some (.cells #[.int .i64 0, .int .i64 0] 43 (0, 0)) := ⟨_, rfl, (Below.refl _ _).alloc (Nat.le_refl _) _, heap_alloc_new _ _⟩
  have HRd : Hid (Calls Tryz.prog 15 #[.string s] W1 fun e w' => (∃ v, e = .returned (.tuple #[v, fV y (n : Int)])) ∧ Below W1.heap.size W1 w') := (read_any s hs W1 (ht.below hb1 ht.low)).mono fun e w' hx => by
    obtain ⟨r, hr, hp⟩ := hx
    rw [read_one hr hR] at hp
    exact ⟨hp.2, hp.1⟩
  have H1 : Hid (Below w.heap.size w W1 ∧ W1.heap[w.heap.size]? = some (.cells #[.int .i64 0, .int .i64 0] 43 (0, 0))) := ⟨hb1, hx1⟩
  clear hR ht hb1 hx1
  go_enter Tryz.func17, Tryz.ntmps17
  go_wp2_with fail
  rw [← hW1]
  clear hW1
  refine HRd.out.mono ?_
  rintro e w2 ⟨⟨v, rfl⟩, hb2⟩
  obtain ⟨W3, g, hW3, hg, hbx, hb23⟩ : ∃ W3 g, W3 = w2.alloc (.cells #[.int .i64 y, .int .i64 (n : Int)] 43) ∧ g = w2.heap.size ∧ W3.heap[g]? = some (.cells #[.int .i64 y, .int .i64 (n : Int)] 43 (0, 0)) ∧ Below w2.heap.size w2 W3 := ⟨_, _, rfl, rfl, heap_alloc_new _ _, (Below.refl _ _).alloc (Nat.le_refl _) _⟩
  have hb13 : Below W1.heap.size W1 W3 := hb2.trans (hb23.mono hb2.size)
  have hy3 := (hb13.block _ (Array.getElem?_eq_some_iff.1 H1.out.2).1).trans H1.out.2
  have H3 : Hid (Below w.heap.size w W3) := H1.out.1.trans (hb13.mono H1.out.1.size)
  go_upto_region 2 with fail
  rw [← hW3, ← hg]
  clear hW3 hg hb2 hb23 hb13
  have q0 := cellb hbx 0 rfl
  have q1 := cellb hbx 1 rfl
  have g0 := cellb hy3 0 rfl
  have g1 := cellb hy3 1 rfl
  have gf : ∀ i, W3.frozen? ⟨w.heap.size, i, none⟩ = false := fun i => by simp [World.frozen?, hy3]
  clear hbx hy3
  go_wp2
  refine bodyPost_ret (v := fV y (n : Int)) (by simp [results, Tryz.results17, go_sem, g0, g1]; try rfl) rfl ?_
  exact ⟨rfl, fin_low (fin_low H3.out (Nat.le_refl _) _) (Nat.le_refl _) _⟩

def aS : ByteArray := ⟨#[100, 101, 102, 105, 110, 101, 100, 40, 65, 41, 32, 38, 38, 32, 36, 123, 65, 125, 32, 62, 32, 51]⟩
def bA : ByteArray := ⟨#[65]⟩
def b3 : ByteArray := ⟨#[51]⟩
def b10 : ByteArray := ⟨#[49, 48]⟩
def bUA : ByteArray := ⟨#[36, 123, 65, 125]⟩
def aT : List Tr := [.look 0 wDefined bA, .cmp 14 gGt ⟨bUA, false⟩ ⟨b3, false⟩]
theorem aS_read : ReadR aS (.ok 22 (.some_ 0 [.all_ 0 aT])) := by
  have h1 : PartR aS 32 0 (.ok 10 (.look 0 wDefined bA)) := part_test (q := 0) (by kernel_rfl) (by decide +kernel) (by decide +kernel) (by kernel_rfl)
  have h2 : PartR aS 32 13 (.ok 22 (.cmp 14 gGt ⟨bUA, false⟩ ⟨b3, false⟩)) := part_test (q := 14) (by kernel_rfl) (by decide +kernel) (by decide +kernel) (by kernel_rfl)
  have h3 : Sev (bl aS) [38, 38] (PartR aS 32) 0 (.ok 22 aT) := sev_more h1 (p' := 13) (by kernel_rfl) (sev_last h2 (p' := 22) (by kernel_rfl))
  have := read_ways (s := aS) (q := 22) (by kernel_rfl) h3 (by kernel_rfl) (by decide +kernel)
  rw [show skipP (bl aS) 22 = 22 by kernel_rfl] at this
  exact this
def oS : ByteArray := ⟨#[40]⟩
theorem oS_read : ReadR oS (.bad 13 1) := by
  have h1 : PartR oS 31 1 (.bad 13 1) := part_test (q := 1) (by kernel_rfl) (by decide +kernel) (by decide +kernel) (by kernel_rfl)
  have h2 : CondR (bl oS) (PartR oS 31) 1 (.bad 13 1) := ⟨.bad 13 1, .bad ⟨.bad 13 1, .bad h1, rfl⟩, rfl⟩
  have h3 : PartR oS 32 0 (.bad 13 1) := by
    unfold PartR
    have e0 : skipP (bl oS) 0 = 0 := by kernel_rfl
    rw [e0, if_neg (by decide +kernel), if_pos (by decide +kernel)]
    exact ⟨_, h2, rfl⟩
  exact ⟨.bad 13 1, ⟨.bad 13 1, .bad ⟨.bad 13 1, .bad h3, rfl⟩, rfl⟩, rfl⟩
/-- The world of the alive probe, with a variable or without: what its condition answers. -/
theorem alive_holds {base b : Nat} {M : Int → Nat} {sv : VS} {w : World} (h : VSet base b M sv w) (x : Wo) (hx : x.pv = .pointer (some ⟨b, 0, none⟩)) (hf : x.f = 50) (ht : Tb w) (ad : Addr) (hE : N.Er ad w) (fo : Bool)
    (hA : ∃ f, textG (envN sv) 34 [] 50 bA = .ok bA f) (hg : (sv.get bA).isSome = fo)
    (hU : fo = true → ∃ f, textG (envN sv) 34 [] 50 bUA = .ok b10 f) (h3 : ∃ f, textG (envN sv) 34 [] 50 b3 = .ok b3 f) :
    Calls Tryz.prog 6 #[.string aS, x.val] w fun e w' => e = .returned (.tuple #[.bool fo, fV 0 0]) ∧ Below w.heap.size w w' := by
  refine holds_top x aS (by decide) 22 _ aS_read fo w ht fun w1 P v hP htv hb1 => ?_
  have hv1 := h.below hb1
  have hE1 : ∀ W, Below w1.heap.size w1 W → N.Er ad W := fun W hW => (hE.below hb1).below hW
  refine hc_tree hP x v aT 0 0 fo htv (by decide) fun vs hvs => ?_
  obtain ⟨hlen, hel⟩ := hvs
  match vs, hlen with
  | [v1, v2], _ =>
    have t1 := hel 0 v1 _ rfl rfl
    have t2 := hel 1 v2 _ rfl rfl
    cases t1
    cases t2
    obtain ⟨fA, hA⟩ := hA
    obtain ⟨f3, h3⟩ := h3
    have mA := me_of hv1 x hx 50 hf (by decide) bA bA (by decide) 34 fA hA
    have hl : HC w1.heap.size w1 x (.iface 118 (.agg #[.int .i64 ((0 : Nat) : Int), .string wDefined, .string bA])) fo 0 0 := hc_lookup x _ wDefined bA fo fun W hW hB => finds_def x bA bA _ fo mA (fun W' hW' _ => by
      rw [hx, ← hg]
      exact (V.get_any bA W' (hv1.below hW') (by decide)).mono fun e w' hx => hx) W hW hB
    cases fo
    · exact .stop hl
    · obtain ⟨fU, hU⟩ := hU rfl
      have mU := me_of hv1 x hx 50 hf (by decide) bUA b10 (by decide) 34 fU hU
      have m3 := me_of hv1 x hx 50 hf (by decide) b3 b3 (by decide) 34 f3 h3
      have hc : HC w1.heap.size w1 x (.iface 127 (.agg #[.int .i64 ((14 : Nat) : Int), .string gGt, .string bUA, .bool false, .string b3, .bool false])) true 0 0 := hc_comparison x _ gGt bUA b3 false false true fun W hW hB => by
        have := cmp_gGt x ((14 : Nat) : Int) bUA b3 b10 b3 10 3 mU m3 (by decide) (by decide) (by kernel_rfl) (by kernel_rfl) ad hE1 W hW hB
        exact this
      exact .go hl (.go hc .nil)
end Go.Proofs.YtkelmhpoplbacaaGreatDoor.Cd
namespace Go.Proofs.YtkelmhpoplbacaaGreatDoor.Cd
open Go.RowKit Go.Shelf Ex
open V (VS VSet)

def aV : Vr2 := [(bA, b10)]
theorem a_A (l : Vr2) (h : l = aV ∨ l = []) : ∃ f, textG (envN (putsV VS.none_ l)) 34 [] 50 bA = .ok bA f := by
  rcases h with rfl | rfl
  · exact ⟨50, by kernel_rfl⟩
  · exact ⟨50, by kernel_rfl⟩
theorem a_3 (l : Vr2) (h : l = aV ∨ l = []) : ∃ f, textG (envN (putsV VS.none_ l)) 34 [] 50 b3 = .ok b3 f := by
  rcases h with rfl | rfl
  · exact ⟨50, by kernel_rfl⟩
  · exact ⟨50, by kernel_rfl⟩
theorem a_U : textG (envN (putsV VS.none_ aV)) 34 [] 50 bUA = .ok b10 47 := by kernel_rfl
theorem a_g : ((putsV VS.none_ aV).get bA).isSome = true := by kernel_rfl
theorem a_g0 : ((putsV VS.none_ []).get bA).isSome = false := by kernel_rfl
theorem eq00 (W : World) : Sem.run Tryz.prog (binOp .eql 43 (fV 0 0) (fV 0 0)) W = .ok (.bool true) W := by kernel_rfl
theorem ne131 (W : World) : Sem.run Tryz.prog (binOp .neq 43 (fV 13 1) (fV 0 0)) W = .ok (.bool true) W := by kernel_rfl
/-- What every call of a law leans on. -/
structure Gd (ad : Addr) (w : World) : Prop where
  tb : Tb w
  er : N.Er ad w
theorem Gd.below {ad : Addr} {w w' : World} (h : Gd ad w) (hb : Below w.heap.size w w') : Gd ad w' := ⟨h.tb.below hb h.tb.low, h.er.below hb⟩
theorem wd_box {w : World} (x y : Array Value) : ∃ W' g, W' = (w.alloc (.cells x 26)).alloc (.cells y 30) ∧ g = w.heap.size ∧ Below w.heap.size w W' ∧ W'.heap[g]? = some (.cells x 26 (0, 0)) :=
  ⟨_, _, rfl, rfl, ((Below.refl _ _).alloc (Nat.le_refl _) _).alloc (by simp) _, (Below.heap_alloc _ _ _ (by simp)).trans (heap_alloc_new _ _)⟩
set_option maxRecDepth 20000 in
set_option maxHeartbeats 4000000 in
theorem alive_any (ad : Addr) (w : World) (h : Gd ad w) : Calls Tryz.prog 7 #[] w fun e w' => e = .returned (.bool true) ∧ Below w.heap.size w w' := by
  obtain ⟨W1, hW1, hb1, hx1⟩ : ∃ W1, W1 = w.alloc (.cells #[.string ⟨#[65]⟩, .string ⟨#[49, 48]⟩] 35) ∧ Below w.heap.size w W1 ∧ W1.heap[w.heap.size]? = some (.cells #[.string ⟨#[65]⟩, .string ⟨#[49, 48]⟩] 35 (0, 0)) := ⟨_, rfl, (Below.refl _ _).alloc (Nat.le_refl _) _, heap_alloc_new _ _⟩
  have HW1 : Hid (Calls Tryz.prog 4 #[.agg #[.slice (some ⟨w.heap.size, 0, none⟩) 1 1, .slice none 0 0, .slice none 0 0, .slice none 0 0, .slice none 0 0, .int .i64 50]] W1 (WdPost aV 50 W1)) := by
    refine worlds_any _ 1 1 aV 50 W1 (by decide) ⟨_, _, _, rfl, rfl, fun i hi => ⟨w.heap.size, 0, rfl, (Array.getElem?_eq_some_iff.1 hx1).1, ?_⟩⟩ ?_
    · match i, hi with
      | 0, _ => exact ⟨cellb hx1 0 rfl, cellb hx1 1 rfl⟩
    · intro x hx
      simp only [aV, List.mem_cons, List.not_mem_nil, or_false] at hx
      subst hx; decide
  have HW2 : Hid (∀ W, Calls Tryz.prog 4 #[.agg #[.slice none 0 0, .slice none 0 0, .slice none 0 0, .slice none 0 0, .slice none 0 0, .int .i64 50]] W (WdPost [] 50 W)) := fun W => worlds_any none 0 0 [] 50 W (by decide) ⟨_, _, _, rfl, rfl, fun i hi => absurd hi (Nat.not_lt_zero _)⟩ (fun x hx => by cases hx)
  have HG : Hid (∀ W, Below w.heap.size w W → Gd ad W) := fun W hW => h.below hW
  have HCk : Hid (∀ W, Gd ad W → Calls Tryz.prog 17 #[.string ⟨#[40]⟩] W fun e w' => e = .returned (fV 13 1) ∧ Below W.heap.size W w') := fun W hW => check_bad oS (by decide) 13 1 oS_read W hW.tb
  have H1 : Hid (Below w.heap.size w W1) := hb1
  have e00 := eq00
  have n131 := ne131
  clear h hb1 hx1
  go_enter Tryz.func7, Tryz.ntmps7
  go_wp2_with fail
  rw [← hW1]
  clear hW1
  refine HW1.out.mono ?_
  rintro e w2 ⟨B, bs, br, bq, M, rfl, hBl, hv2, hb2⟩
  obtain ⟨W3, g3, hW3, hg3, hb3, hx3⟩ := wd_box (w := w2) #[.pointer (some ⟨B, 0, none⟩), .pointer (some ⟨bs, 0, none⟩), .slice none 0 0, .slice none 0 0, .slice none 0 0, .int .i64 50] #[.pointer (some ⟨br, 0, none⟩), .pointer (some ⟨bq, 0, none⟩), .slice none 0 0, .slice none 0 0, .slice none 0 0, .int .i64 50]
  have H3 : Hid (Below w.heap.size w W3 ∧ VSet B B M (putsV VS.none_ aV) W3 ∧ W3.heap[g3]? = some (.cells #[.pointer (some ⟨B, 0, none⟩), .pointer (some ⟨bs, 0, none⟩), .slice none 0 0, .slice none 0 0, .slice none 0 0, .int .i64 50] 26 (0, 0))) := ⟨(H1.out.trans (hb2.mono H1.out.size)).trans (hb3.mono (H1.out.trans (hb2.mono H1.out.size)).size), hv2.below hb3, hx3⟩
  go_upto_region 2 with fail
  rw [← hW3, ← hg3]
  clear hW3 hg3 hb2 hb3 hx3 hv2 hBl HW1
  go_wp2_with fail
  refine (HW2.out _).mono ?_
  rintro e w4 ⟨B2, bs2, br2, bq2, M2, rfl, hBl, hv4, hb4⟩
  obtain ⟨W5, g5, hW5, hg5, hb5, hx5⟩ := wd_box (w := w4) #[.pointer (some ⟨B2, 0, none⟩), .pointer (some ⟨bs2, 0, none⟩), .slice none 0 0, .slice none 0 0, .slice none 0 0, .int .i64 50] #[.pointer (some ⟨br2, 0, none⟩), .pointer (some ⟨bq2, 0, none⟩), .slice none 0 0, .slice none 0 0, .slice none 0 0, .int .i64 50]
  have hb35 : Below W3.heap.size W3 W5 := hb4.trans (hb5.mono hb4.size)
  have H5 : Hid (Below w.heap.size w W5 ∧ VSet B B M (putsV VS.none_ aV) W5 ∧ W5.heap[g3]? = some (.cells #[.pointer (some ⟨B, 0, none⟩), .pointer (some ⟨bs, 0, none⟩), .slice none 0 0, .slice none 0 0, .slice none 0 0, .int .i64 50] 26 (0, 0)) ∧ VSet B2 B2 M2 (putsV VS.none_ []) W5 ∧ W5.heap[g5]? = some (.cells #[.pointer (some ⟨B2, 0, none⟩), .pointer (some ⟨bs2, 0, none⟩), .slice none 0 0, .slice none 0 0, .slice none 0 0, .int .i64 50] 26 (0, 0))) := ⟨H3.out.1.trans (hb35.mono H3.out.1.size), H3.out.2.1.below hb35, (hb35.block _ (Array.getElem?_eq_some_iff.1 H3.out.2.2).1).trans H3.out.2.2, hv4.below hb5, hx5⟩
  go_upto_region 3 with fail
  rw [← hW5, ← hg5]
  clear hW5 hg5 hb4 hb5 hx5 hv4 hBl HW2 hb35 H3
  have HH1 : Hid (∀ W, Below W5.heap.size W5 W → Calls Tryz.prog 6 #[.string aS, .agg #[.pointer (some ⟨B, 0, none⟩), .pointer (some ⟨bs, 0, none⟩), .slice none 0 0, .slice none 0 0, .slice none 0 0, .int .i64 50]] W fun e w' => e = .returned (.tuple #[.bool true, fV 0 0]) ∧ Below W.heap.size W w') := fun W hW => alive_holds (H5.out.2.1.below hW) ⟨.pointer (some ⟨B, 0, none⟩), .pointer (some ⟨bs, 0, none⟩), .slice none 0 0, .slice none 0 0, .slice none 0 0, 50⟩ rfl rfl (HG.out _ (H5.out.1.trans (hW.mono H5.out.1.size))).tb ad (HG.out _ (H5.out.1.trans (hW.mono H5.out.1.size))).er true (a_A aV (.inl rfl)) a_g (fun _ => ⟨_, a_U⟩) (a_3 aV (.inl rfl))
  have HH2 : Hid (∀ W, Below W5.heap.size W5 W → Calls Tryz.prog 6 #[.string aS, .agg #[.pointer (some ⟨B2, 0, none⟩), .pointer (some ⟨bs2, 0, none⟩), .slice none 0 0, .slice none 0 0, .slice none 0 0, .int .i64 50]] W fun e w' => e = .returned (.tuple #[.bool false, fV 0 0]) ∧ Below W.heap.size W w') := fun W hW => alive_holds (H5.out.2.2.2.1.below hW) ⟨.pointer (some ⟨B2, 0, none⟩), .pointer (some ⟨bs2, 0, none⟩), .slice none 0 0, .slice none 0 0, .slice none 0 0, 50⟩ rfl rfl (HG.out _ (H5.out.1.trans (hW.mono H5.out.1.size))).tb ad (HG.out _ (H5.out.1.trans (hW.mono H5.out.1.size))).er false (a_A [] (.inr rfl)) a_g0 (fun h => by cases h) (a_3 [] (.inr rfl))
  unfold aS at HH1 HH2
  have x0 := cellb H5.out.2.2.1 0 rfl
  have x1 := cellb H5.out.2.2.1 1 rfl
  have x2 := cellb H5.out.2.2.1 2 rfl
  have x3 := cellb H5.out.2.2.1 3 rfl
  have x4 := cellb H5.out.2.2.1 4 rfl
  have x5 := cellb H5.out.2.2.1 5 rfl
  go_wp2_with fail
  refine (HH1.out _ (Below.refl _ _)).mono ?_
  rintro e w6 ⟨rfl, hb6⟩
  obtain ⟨W7, g7, hW7, hg7, hb7, hx7⟩ : ∃ W7 g7, W7 = w6.alloc (.cells #[.int .i64 0, .int .i64 0] 43) ∧ g7 = w6.heap.size ∧ Below W5.heap.size W5 W7 ∧ W7.heap[g7]? = some (.cells #[.int .i64 0, .int .i64 0] 43 (0, 0)) := ⟨_, _, rfl, rfl, hb6.alloc hb6.size _, heap_alloc_new _ _⟩
  have H7 : Hid (Below W5.heap.size W5 W7 ∧ W7.heap[g7]? = some (.cells #[.int .i64 0, .int .i64 0] 43 (0, 0))) := ⟨hb7, hx7⟩
  go_upto_region 4 with fail
  rw [← hW7, ← hg7]
  clear hW7 hg7 hb6 hx7 x0 x1 x2 x3 x4 x5
  have hy7 := (hb7.block _ (Array.getElem?_eq_some_iff.1 H5.out.2.2.2.2).1).trans H5.out.2.2.2.2
  have x0 := cellb hy7 0 rfl
  have x1 := cellb hy7 1 rfl
  have x2 := cellb hy7 2 rfl
  have x3 := cellb hy7 3 rfl
  have x4 := cellb hy7 4 rfl
  have x5 := cellb hy7 5 rfl
  clear hy7 hb7
  go_wp2_with fail
  refine (HH2.out _ H7.out.1).mono ?_
  rintro e w8 ⟨rfl, hb8⟩
  obtain ⟨W9, g9, hW9, hg9, hb9, hx9⟩ : ∃ W9 g9, W9 = w8.alloc (.cells #[.int .i64 0, .int .i64 0] 43) ∧ g9 = w8.heap.size ∧ Below W7.heap.size W7 W9 ∧ W9.heap[g9]? = some (.cells #[.int .i64 0, .int .i64 0] 43 (0, 0)) := ⟨_, _, rfl, rfl, hb8.alloc hb8.size _, heap_alloc_new _ _⟩
  have hb59 := H7.out.1.trans (hb9.mono H7.out.1.size)
  have H9 : Hid (Below w.heap.size w W9) := H5.out.1.trans (hb59.mono H5.out.1.size)
  go_upto_region 5 with fail
  rw [← hW9, ← hg9]
  have hy9 := (hb9.block _ (Array.getElem?_eq_some_iff.1 H7.out.2).1).trans H7.out.2
  have y0 := cellb hy9 0 rfl
  have y1 := cellb hy9 1 rfl
  have z0 := cellb hx9 0 rfl
  have z1 := cellb hx9 1 rfl
  clear hW9 hg9 hb8 hb9 hx9 hy9 hb59 x0 x1 x2 x3 x4 x5
  go_wp2_with fail
  refine (HCk.out _ (HG.out _ H9.out)).mono ?_
  rintro e w10 ⟨rfl, hb10⟩
  have H10 : Hid (Below w.heap.size w w10) := H9.out.trans (hb10.mono H9.out.size)
  clear hb10
  go_wp2
  go_ret
  exact ⟨rfl, H10.out⟩
end Go.Proofs.YtkelmhpoplbacaaGreatDoor.Cd
namespace Go.Proofs.YtkelmhpoplbacaaGreatDoor.Cd
open Go.RowKit Go.Shelf Ex
open V (VS VSet)

def bB : ByteArray := ⟨#[66]⟩
def bUB : ByteArray := ⟨#[36, 66]⟩
def nV (u v : ByteArray) : Vr2 := [(bA, u), (bB, v)]
/-- The six conditions. -/
def cS (g : ByteArray) : ByteArray := bUA ++ g ++ bUB
def cT (g : ByteArray) : List Tr := [.cmp 0 g ⟨bUA, false⟩ ⟨bUB, false⟩]
theorem c_read (g : ByteArray) (hg : g ∈ signL) : ReadR (cS g) (.ok (cS g).size (.some_ 0 [.all_ 0 (cT g)])) := by
  have hall : ∀ g ∈ signL, skipP (bl (cS g)) 0 = 0 ∧ ¬ (bl (cS g))[0]? = some 33 ∧ ¬ (bl (cS g))[0]? = some 40 ∧ nextP (bl (cS g)) (cS g).size [38, 38] = (false, (cS g).size) ∧ nextP (bl (cS g)) (cS g).size [124, 124] = (false, (cS g).size) ∧ skipP (bl (cS g)) (cS g).size = (cS g).size := by decide +kernel
  have ht : testR (cS g) 0 = .ok (cS g).size (.cmp 0 g ⟨bUA, false⟩ ⟨bUB, false⟩) := by
    simp only [signL, List.mem_cons, List.not_mem_nil, or_false] at hg
    rcases hg with rfl | rfl | rfl | rfl | rfl | rfl <;> kernel_rfl
  obtain ⟨e0, e1, e2, e3, e4, e5⟩ := hall g hg
  have h1 : PartR (cS g) 32 0 (.ok (cS g).size (.cmp 0 g ⟨bUA, false⟩ ⟨bUB, false⟩)) := part_test (q := 0) e0 e1 e2 ht
  have := read_ways (s := cS g) (q := (cS g).size) e0 (sev_last h1 e3) e4 (by rw [e5]; omega)
  rw [e5] at this
  exact this
theorem put3 (S : VS) (q v : ByteArray) (hq : V.VS.ok 3 q = true) (h3 : (S 3).length ≤ 10) (hv : v.size ≤ 1000) : S.put 3 q v = (S.upd 3 ((S 3).set q v), 0) := by
  unfold V.VS.put V.VS.give
  rw [hq, if_pos rfl, if_neg (by rintro (e | e); · omega
                                 · omega)]
theorem nV_get (u v : ByteArray) (hu : u.size ≤ 1000) (hv : v.size ≤ 1000) : (putsV VS.none_ (nV u v)).get bA = some u ∧ (putsV VS.none_ (nV u v)).get bB = some v := by
  have e : putsV VS.none_ (nV u v) = ((VS.none_.put 3 bA u).1.put 3 bB v).1 := rfl
  have e1 : VS.none_.put 3 bA u = (VS.none_.upd 3 ((VS.none_ 3).set bA u), 0) := put3 _ _ _ (by decide +kernel) (by decide) hu
  have e2 : (VS.none_.upd 3 ((VS.none_ 3).set bA u)).put 3 bB v = ((VS.none_.upd 3 ((VS.none_ 3).set bA u)).upd 3 (((VS.none_.upd 3 ((VS.none_ 3).set bA u)) 3).set bB v), 0) := put3 _ _ _ (by decide +kernel) (by rw [V.VS.upd_same, V.Sc.length_set]; split <;> decide) hv
  rw [e, e1]
  dsimp only
  rw [e2]
  dsimp only
  have o1 : ∀ j : Int, j ≠ 3 → ((VS.none_.upd 3 ((VS.none_ 3).set bA u)).upd 3 (((VS.none_.upd 3 ((VS.none_ 3).set bA u)) 3).set bB v)) j = [] := fun j hj => by rw [V.VS.upd_other _ _ hj, V.VS.upd_other _ _ hj]; rfl
  unfold V.VS.get
  rw [o1 1 (by decide), o1 2 (by decide), V.VS.upd_same, V.VS.upd_same]
  refine ⟨?_, ?_⟩
  · rw [V.Sc.look_set_other _ _ _ _ (by decide), V.Sc.look_set_same]; rfl
  · rw [V.Sc.look_set_same]; rfl
theorem digs_plain {l : List UInt8} (h : N.Digs l) : ∀ x ∈ l, x ≠ 36 := fun x hx e => by
  have := h.2 x hx
  subst e
  exact absurd this.1 (by decide)
theorem dig_plain (n : Int) : ∀ x ∈ N.digL n, x ≠ 36 := by
  unfold N.digL
  split
  · intro x hx
    rcases List.mem_cons.1 hx with rfl | hx
    · decide
    · exact digs_plain (N.digs_dec _) x hx
  · exact digs_plain (N.digs_dec _)
/-- What each of the six conditions answers. -/
theorem cond_holds {base b : Nat} {M : Int → Nat} {w : World} (a m : Int) (ha0 : -1099511627776 ≤ a) (ha1 : a ≤ 1099511627776) (hm0 : 0 ≤ m) (hm1 : m ≤ 1099511627776) (u v : ByteArray) (hu : bl u = N.digL a) (hv : bl v = 43 :: 48 :: N.digL m) (h : VSet base b M (putsV VS.none_ (nV u v)) w) (x : Wo) (hx : x.pv = .pointer (some ⟨b, 0, none⟩)) (hf : x.f = 200) (ht : Tb w) (ad : Addr) (hE : N.Er ad w) (g : ByteArray) (hg : g ∈ signL) :
    Calls Tryz.prog 6 #[.string (cS g), x.val] w fun e w' => e = .returned (.tuple #[.bool (sgnF g (Lib.compareInt a m)), fV 0 0]) ∧ Below w.heap.size w w' := by
  have hul : u.size ≤ 21 := by rw [← bl_length, hu]; exact N.digL_len a ha0 ha1
  have hvl : v.size ≤ 23 := by
    have := N.digL_len m (by omega) hm1
    rw [← bl_length, hv]; simp; omega
  obtain ⟨gA, gB⟩ := nV_get u v (by omega) (by omega)
  have hsz : ∀ g ∈ signL, (cS g).size ≤ 65536 := by decide +kernel
  obtain ⟨fA, tA⟩ := use_text (envN (putsV VS.none_ (nV u v))) 32 200 bUA bA u 2 3 (by kernel_rfl) (by decide) (by decide) (by decide) (by decide) (by decide) (by kernel_rfl) (by decide) gA (by rw [hu]; exact dig_plain a) (by omega) (by omega)
  obtain ⟨fB, tB⟩ := use_text (envN (putsV VS.none_ (nV u v))) 32 200 bUB bB v 1 2 (by kernel_rfl) (by decide) (by decide) (by decide) (by decide) (by decide) (by kernel_rfl) (by decide) gB (by
    rw [hv]
    intro x hx
    rcases List.mem_cons.1 hx with rfl | hx
    · decide
    · rcases List.mem_cons.1 hx with rfl | hx
      · decide
      · exact dig_plain m x hx) (by omega) (by omega)
  refine holds_top x (cS g) (hsz g hg) _ _ (c_read g hg) _ w ht fun w1 P v' hP htv hb1 => ?_
  have hv1 := h.below hb1
  have hE1 : ∀ W, Below w1.heap.size w1 W → N.Er ad W := fun W hW => (hE.below hb1).below hW
  refine hc_tree hP x v' (cT g) 0 0 _ htv (by show 1 ≤ 1000; omega) fun vs hvs => ?_
  obtain ⟨hlen, hel⟩ := hvs
  match vs, hlen with
  | [v1], _ =>
    have t1 := hel 0 v1 _ rfl rfl
    cases t1
    have mA := me_of hv1 x hx 200 hf (by decide) bUA u (by decide) 34 fA tA
    have mB := me_of hv1 x hx 200 hf (by decide) bUB v (by decide) 34 fB tB
    have pA : N.parseG (bl u) = (a, 0) := by rw [hu]; exact N.digL_parse a ha0 ha1
    have pB : N.parseG (bl v) = (m, 0) := by rw [hv]; exact N.plus_parse m hm0 hm1
    have hc : HC w1.heap.size w1 x (.iface 127 (.agg #[.int .i64 ((0 : Nat) : Int), .string g, .string bUA, .bool false, .string bUB, .bool false])) (sgnF g (Lib.compareInt a m)) 0 0 := hc_comparison x _ g bUA bUB false false _ fun W hW hB => by
      simp only [signL, List.mem_cons, List.not_mem_nil, or_false] at hg
      rcases hg with rfl | rfl | rfl | rfl | rfl | rfl
      · exact cmp_gEq x _ bUA bUB u v a m mA mB (by omega) (by omega) pA pB ad hE1 W hW hB
      · exact cmp_gNe x _ bUA bUB u v a m mA mB (by omega) (by omega) pA pB ad hE1 W hW hB
      · exact cmp_gLe x _ bUA bUB u v a m mA mB (by omega) (by omega) pA pB ad hE1 W hW hB
      · exact cmp_gGe x _ bUA bUB u v a m mA mB (by omega) (by omega) pA pB ad hE1 W hW hB
      · exact cmp_gLt x _ bUA bUB u v a m mA mB (by omega) (by omega) pA pB ad hE1 W hW hB
      · exact cmp_gGt x _ bUA bUB u v a m mA mB (by omega) (by omega) pA pB ad hE1 W hW hB
    cases hb : sgnF g (Lib.compareInt a m)
    · rw [hb] at hc; exact .stop hc
    · rw [hb] at hc; exact .go hc .nil
theorem sg_eq (a m : Int) : sgnF gEq (Lib.compareInt a m) = decide (a = m) := by
  show decide (Lib.compareInt a m = 0) = _
  unfold Lib.compareInt
  rw [Bool.eq_iff_iff]; simp only [decide_eq_true_eq]
  split <;> (try split) <;> constructor <;> intro h <;> omega
theorem sg_ne (a m : Int) : sgnF gNe (Lib.compareInt a m) = !decide (a = m) := by rw [← sg_eq]; rfl
theorem sg_lt (a m : Int) : sgnF gLt (Lib.compareInt a m) = decide (a < m) := by
  show decide (Lib.compareInt a m < 0) = _
  unfold Lib.compareInt
  rw [Bool.eq_iff_iff]; simp only [decide_eq_true_eq]
  split <;> (try split) <;> constructor <;> intro h <;> omega
theorem sg_le (a m : Int) : sgnF gLe (Lib.compareInt a m) = decide (a ≤ m) := by
  show decide (Lib.compareInt a m ≤ 0) = _
  unfold Lib.compareInt
  rw [Bool.eq_iff_iff]; simp only [decide_eq_true_eq]
  split <;> (try split) <;> constructor <;> intro h <;> omega
theorem sg_gt (a m : Int) : sgnF gGt (Lib.compareInt a m) = decide (m < a) := by
  show decide (0 < Lib.compareInt a m) = _
  unfold Lib.compareInt
  rw [Bool.eq_iff_iff]; simp only [decide_eq_true_eq]
  split <;> (try split) <;> constructor <;> intro h <;> omega
theorem sg_ge (a m : Int) : sgnF gGe (Lib.compareInt a m) = decide (m ≤ a) := by
  show decide (0 ≤ Lib.compareInt a m) = _
  unfold Lib.compareInt
  rw [Bool.eq_iff_iff]; simp only [decide_eq_true_eq]
  split <;> (try split) <;> constructor <;> intro h <;> omega
end Go.Proofs.YtkelmhpoplbacaaGreatDoor.Cd
namespace Go.Proofs.YtkelmhpoplbacaaGreatDoor.Cd
open Go.RowKit Go.Shelf Ex
open V (VS VSet)

/-- The six signs, in the law's order, and what is asked of each. -/
def lawL (a m : Int) : List (ByteArray × Bool) := [(gEq, a == m), (gNe, a != m), (gLt, decide (a < m)), (gLe, decide (a ≤ m)), (gGt, decide (m < a)), (gGe, decide (m ≤ a))]
theorem law_ok (a m : Int) (i : Nat) (hi : i < 6) : ((lawL a m)[i]'hi).1 ∈ signL ∧ sgnF ((lawL a m)[i]'hi).1 (Lib.compareInt a m) = ((lawL a m)[i]'hi).2 := by
  match i, hi with
  | 0, _ => exact ⟨by show gEq ∈ signL; simp [signL], sg_eq a m⟩
  | 1, _ => exact ⟨by show gNe ∈ signL; simp [signL], sg_ne a m⟩
  | 2, _ => exact ⟨by show gLt ∈ signL; simp [signL], sg_lt a m⟩
  | 3, _ => exact ⟨by show gLe ∈ signL; simp [signL], sg_le a m⟩
  | 4, _ => exact ⟨by show gGt ∈ signL; simp [signL], sg_gt a m⟩
  | 5, _ => exact ⟨by show gGe ∈ signL; simp [signL], sg_ge a m⟩
theorem signs_len : ∀ g ∈ signL, g.size ≤ 2 := by decide
theorem ne00 (W : World) : Sem.run Tryz.prog (binOp .neq 43 (fV 0 0) (fV 0 0)) W = .ok (.bool false) W := by kernel_rfl
set_option maxRecDepth 20000 in
set_option maxHeartbeats 8000000 in
theorem numbers_law (a b : Int) (ad : Addr) (w : World) (h : Gd ad w) : Calls Tryz.prog 3 #[.int .i64 a, .int .i64 b] w fun e w' => e = .returned (.bool true) ∧ Below w.heap.size w w' := by
  obtain ⟨a1, ha1⟩ : ∃ a1, a1 = a.tmod 1099511627776 := ⟨_, rfl⟩
  obtain ⟨b1, hb1⟩ : ∃ b1, b1 = b.tmod 1099511627776 := ⟨_, rfl⟩
  have hA : -1099511627776 ≤ a1 ∧ a1 ≤ 1099511627776 := by
    rw [ha1]
    have h1 := Int.tmod_lt_of_pos a (b := 1099511627776) (by decide)
    have h2 := Int.lt_tmod_of_pos a (b := 1099511627776) (by decide)
    omega
  have hBd : -1099511627776 ≤ b1 ∧ b1 ≤ 1099511627776 := by
    rw [hb1]
    have h1 := Int.tmod_lt_of_pos b (b := 1099511627776) (by decide)
    have h2 := Int.lt_tmod_of_pos b (b := 1099511627776) (by decide)
    omega
  obtain ⟨m, hm⟩ : ∃ m : Int, m = max b1 0 := ⟨_, rfl⟩
  have hM : 0 ≤ m ∧ m ≤ 1099511627776 := by omega
  have HD : Hid (∀ W, Calls Tryz.prog 5 #[.int .i64 a1] W fun e w' => e = .returned (.string (ba (N.digL a1))) ∧ Below W.heap.size W w') := fun W => N.digits_any a1 hA.1 hA.2 W
  have HD2 : Hid (∀ W, Calls Tryz.prog 5 #[.int .i64 m] W fun e w' => e = .returned (.string (ba (N.digL m))) ∧ Below W.heap.size W w') := fun W => N.digits_any m (by omega) hM.2 W
  have hul : (ba (N.digL a1)).size ≤ 21 := by rw [ba_size]; exact N.digL_len a1 hA.1 hA.2
  have hml : (ba (N.digL m)).size ≤ 21 := by rw [ba_size]; exact N.digL_len m (by omega) hM.2
  have hub : bl (ba (N.digL a1)) = N.digL a1 := bl_ba _
  have hvb : bl ((⟨#[43, 48]⟩ : ByteArray) ++ ba (N.digL m)) = 43 :: 48 :: N.digL m := by
    have e : bl ((⟨#[43, 48]⟩ : ByteArray) ++ ba (N.digL m)) = bl (⟨#[43, 48]⟩ : ByteArray) ++ bl (ba (N.digL m)) := by simp [bl]
    rw [e, bl_ba]; rfl
  generalize ba (N.digL a1) = u at HD hul hub
  generalize ba (N.digL m) = t at HD2 hml hvb
  have hzt : ¬ 9223372036854775807 < (⟨#[43, 48]⟩ : ByteArray).size + t.size := by
    have : (⟨#[43, 48]⟩ : ByteArray).size = 2 := rfl
    omega
  have hvz : ((⟨#[43, 48]⟩ : ByteArray) ++ t).size ≤ 100 := by
    rw [ByteArray.size_append]
    have : (⟨#[43, 48]⟩ : ByteArray).size = 2 := rfl
    omega
  obtain ⟨v, hv⟩ : ∃ v, v = (⟨#[43, 48]⟩ : ByteArray) ++ t := ⟨_, rfl⟩
  rw [← hv] at hvb hvz
  have HV : Hid ((⟨#[43, 48]⟩ : ByteArray) ++ t = v) := hv.symm
  have HWd : Hid (∀ (g : Nat) W, W.heap[g]? = some (.cells #[.string ⟨#[65]⟩, .string u, .string ⟨#[66]⟩, .string v] 35 (0, 0)) → Calls Tryz.prog 4 #[.agg #[.slice (some ⟨g, 0, none⟩) 2 2, .slice none 0 0, .slice none 0 0, .slice none 0 0, .slice none 0 0, .int .i64 200]] W (WdPost (nV u v) 200 W)) := fun g W hx => by
    refine worlds_any _ 2 2 (nV u v) 200 W (by decide) ⟨_, _, _, rfl, rfl, fun i hi => ⟨g, 0, rfl, (Array.getElem?_eq_some_iff.1 hx).1, ?_⟩⟩ ?_
    · match i, hi with
      | 0, _ => exact ⟨cellb hx 0 rfl, cellb hx 1 rfl⟩
      | 1, _ => exact ⟨cellb hx 2 rfl, cellb hx 3 rfl⟩
    · intro x hx
      simp only [nV, List.mem_cons, List.not_mem_nil, or_false] at hx
      rcases hx with rfl | rfl
      · exact ⟨by show 1 ≤ _; omega, by show u.size ≤ _; omega⟩
      · exact ⟨by show 1 ≤ _; omega, by show v.size ≤ _; omega⟩
  have HG : Hid (∀ W, Below w.heap.size w W → Gd ad W) := fun W hW => h.below hW
  have HAl : Hid (∀ W, Gd ad W → Calls Tryz.prog 7 #[] W fun e w' => e = .returned (.bool true) ∧ Below W.heap.size W w') := fun W hW => alive_any ad W hW
  have HCd : Hid (∀ (B bs : Nat) (M : Int → Nat) W g, VSet B B M (putsV VS.none_ (nV u v)) W → Gd ad W → g ∈ signL → Calls Tryz.prog 6 #[.string (cS g), .agg #[.pointer (some ⟨B, 0, none⟩), .pointer (some ⟨bs, 0, none⟩), .slice none 0 0, .slice none 0 0, .slice none 0 0, .int .i64 200]] W fun e w' => e = .returned (.tuple #[.bool (sgnF g (Lib.compareInt a1 m)), fV 0 0]) ∧ Below W.heap.size W w') := fun B bs M W g h1 h2 h3 => cond_holds a1 m hA.1 hA.2 hM.1 hM.2 u v hub hvb h1 ⟨.pointer (some ⟨B, 0, none⟩), .pointer (some ⟨bs, 0, none⟩), .slice none 0 0, .slice none 0 0, .slice none 0 0, 200⟩ rfl rfl h2.tb ad h2.er g h3
  have hwa : IntKind.i64.wrap (a.tmod 1099511627776) = a1 := by rw [IntKind.wrap_i64, ← ha1]; omega
  have hwb : IntKind.i64.wrap (b.tmod 1099511627776) = b1 := by rw [IntKind.wrap_i64, ← hb1]; omega
  have ha1' := ha1.symm
  have hb1' := hb1.symm
  have hm' := hm.symm
  clear h hub hvb ha1 hb1 hm hv
  go_enter Tryz.func3, Tryz.ntmps3
  go_wp2_with fail
  refine (HD.out _).mono ?_
  rintro e w1 ⟨rfl, hb1⟩
  have H1 : Hid (Below w.heap.size w w1) := hb1
  clear hb1
  go_wp2_with fail
  refine (HD2.out _).mono ?_
  rintro e w2 ⟨rfl, hb2⟩
  have H2 : Hid (Below w.heap.size w w2) := H1.out.trans (hb2.mono H1.out.size)
  clear hb2 H1
  have hvv := HV.out
  obtain ⟨W3, g3, hW3, hg3, hb3, hx3⟩ : ∃ W3 g3, W3 = w2.alloc (.cells #[.string ⟨#[65]⟩, .string u, .string ⟨#[66]⟩, .string v] 35) ∧ g3 = w2.heap.size ∧ Below w.heap.size w W3 ∧ W3.heap[g3]? = some (.cells #[.string ⟨#[65]⟩, .string u, .string ⟨#[66]⟩, .string v] 35 (0, 0)) := ⟨_, _, rfl, rfl, H2.out.alloc H2.out.size _, heap_alloc_new _ _⟩
  go_wp2_with fail
  rw [← hW3, ← hg3]
  clear hW3 hg3
  refine (HWd.out g3 _ hx3).mono ?_
  rintro e w4 ⟨B, bs, br, bq, M, rfl, hBl, hv4, hb4⟩
  obtain ⟨W5, g5, hW5, hg5, hb5, hx5⟩ := wd_box (w := w4) #[.pointer (some ⟨B, 0, none⟩), .pointer (some ⟨bs, 0, none⟩), .slice none 0 0, .slice none 0 0, .slice none 0 0, .int .i64 200] #[.pointer (some ⟨br, 0, none⟩), .pointer (some ⟨bq, 0, none⟩), .slice none 0 0, .slice none 0 0, .slice none 0 0, .int .i64 200]
  have hb04 := hb3.trans (hb4.mono hb3.size)
  have H5 : Hid (Below w.heap.size w W5 ∧ VSet B B M (putsV VS.none_ (nV u v)) W5 ∧ W5.heap[g5]? = some (.cells #[.pointer (some ⟨B, 0, none⟩), .pointer (some ⟨bs, 0, none⟩), .slice none 0 0, .slice none 0 0, .slice none 0 0, .int .i64 200] 26 (0, 0))) := ⟨hb04.trans (hb5.mono hb04.size), hv4.below hb5, hx5⟩
  go_upto_region 3 with fail
  rw [← hW5, ← hg5]
  clear hW5 hg5 hb3 hb4 hb5 hx5 hx3 hv4 hBl hb04 HWd hvv H2
  obtain ⟨W6, g6, hW6, hg6, hb6, hx6⟩ : ∃ W6 g6, W6 = W5.alloc (.cells #[.string ⟨#[61, 61]⟩, .bool (a1 == m), .string ⟨#[33, 61]⟩, .bool (a1 != m), .string ⟨#[60]⟩, .bool (decide (a1 < m)), .string ⟨#[60, 61]⟩, .bool (decide (a1 ≤ m)), .string ⟨#[62]⟩, .bool (decide (m < a1)), .string ⟨#[62, 61]⟩, .bool (decide (m ≤ a1))] 39) ∧ g6 = W5.heap.size ∧ Below W5.heap.size W5 W6 ∧ W6.heap[g6]? = some (.cells #[.string ⟨#[61, 61]⟩, .bool (a1 == m), .string ⟨#[33, 61]⟩, .bool (a1 != m), .string ⟨#[60]⟩, .bool (decide (a1 < m)), .string ⟨#[60, 61]⟩, .bool (decide (a1 ≤ m)), .string ⟨#[62]⟩, .bool (decide (m < a1)), .string ⟨#[62, 61]⟩, .bool (decide (m ≤ a1))] 39 (0, 0)) := ⟨_, _, rfl, rfl, (Below.refl _ _).alloc (Nat.le_refl _) _, heap_alloc_new _ _⟩
  have HRow : Hid (∀ W, Below W6.heap.size W6 W → ∀ (i : Nat) (hi : i < 6), W.cell? ⟨g6, i * 2, none⟩ = some (.string ((lawL a1 m)[i]'hi).1) ∧ W.cell? ⟨g6, i * 2 + 1, none⟩ = some (.bool ((lawL a1 m)[i]'hi).2)) := fun W hW i hi => by
    have h6 := (hW.block _ (Array.getElem?_eq_some_iff.1 hx6).1).trans hx6
    match i, hi with
    | 0, _ => exact ⟨cellb h6 0 rfl, cellb h6 1 rfl⟩
    | 1, _ => exact ⟨cellb h6 2 rfl, cellb h6 3 rfl⟩
    | 2, _ => exact ⟨cellb h6 4 rfl, cellb h6 5 rfl⟩
    | 3, _ => exact ⟨cellb h6 6 rfl, cellb h6 7 rfl⟩
    | 4, _ => exact ⟨cellb h6 8 rfl, cellb h6 9 rfl⟩
    | 5, _ => exact ⟨cellb h6 10 rfl, cellb h6 11 rfl⟩
  have H6 : Hid (Below W5.heap.size W5 W6 ∧ Below w.heap.size w W6 ∧ VSet B B M (putsV VS.none_ (nV u v)) W6 ∧ W6.heap[g5]? = some (.cells #[.pointer (some ⟨B, 0, none⟩), .pointer (some ⟨bs, 0, none⟩), .slice none 0 0, .slice none 0 0, .slice none 0 0, .int .i64 200] 26 (0, 0))) := ⟨hb6, H5.out.1.trans (hb6.mono H5.out.1.size), H5.out.2.1.below hb6, (hb6.block _ (Array.getElem?_eq_some_iff.1 H5.out.2.2).1).trans H5.out.2.2⟩
  go_upto_region 5 with fail
  rw [← hW6, ← hg6]
  clear hW6 hg6 hb6 hx6
  have n00 := ne00
  go_loopw [57] (fun vi wr => ∃ i : Nat, vi = .int .i64 (i : Int) ∧ i ≤ 6 ∧ Hid (Below W6.heap.size W6 wr)) (fun vi _ => 6 - (intOf vi).toNat)
  case atStart => exact ⟨0, rfl, by omega, Below.refl _ _⟩
  case round =>
    obtain ⟨i, rfl, hi, HF⟩ := hrel
    by_cases hlt : i < 6
    · have hli : (i : Int) < 6 := by omega
      obtain ⟨c0, c1⟩ := HRow.out wr HF.out i hlt
      obtain ⟨hg, hw⟩ := law_ok a1 m i hlt
      generalize ((lawL a1 m)[i]'hlt).1 = g at c0 hg hw
      generalize ((lawL a1 m)[i]'hlt).2 = q at c1 hw
      have hgl := signs_len g hg
      obtain ⟨W7, g7, hW7, hg7, hb7, hx7⟩ : ∃ W7 g7, W7 = wr.alloc (.cells #[.string g, .bool q] 39) ∧ g7 = wr.heap.size ∧ Below W6.heap.size W6 W7 ∧ W7.heap[g7]? = some (.cells #[.string g, .bool q] 39 (0, 0)) := ⟨_, _, rfl, rfl, HF.out.alloc HF.out.size _, heap_alloc_new _ _⟩
      have H7 : Hid (Below W6.heap.size W6 W7 ∧ W7.heap[g7]? = some (.cells #[.string g, .bool q] 39 (0, 0))) := ⟨hb7, hx7⟩
      have HC := HCd.out B bs M W7 g (H6.out.2.2.1.below hb7) (HG.out _ (H6.out.2.1.trans (hb7.mono H6.out.2.1.size))) hg
      rw [hw] at HC
      have HC7 : Hid (Calls Tryz.prog 6 #[.string ((⟨#[36, 123, 65, 125]⟩ : ByteArray) ++ g ++ ⟨#[36, 66]⟩), .agg #[.pointer (some ⟨B, 0, none⟩), .pointer (some ⟨bs, 0, none⟩), .slice none 0 0, .slice none 0 0, .slice none 0 0, .int .i64 200]] W7 fun e w' => e = .returned (.tuple #[.bool q, fV 0 0]) ∧ Below W7.heap.size W7 w') := HC
      have hbn : ∀ (p q : Bool) (w : World), Sem.run Tryz.prog (binOp .neq 4 (.bool p) (.bool q)) w = .ok (.bool (p != q)) w := fun _ _ _ => rfl
      have hqq : (q != q) = false := by cases q <;> rfl
      have z1 : ¬ 9223372036854775807 < (⟨#[36, 123, 65, 125]⟩ : ByteArray).size + g.size := by
        have : (⟨#[36, 123, 65, 125]⟩ : ByteArray).size = 4 := rfl
        omega
      have z2 : ¬ 9223372036854775807 < ((⟨#[36, 123, 65, 125]⟩ : ByteArray) ++ g).size + (⟨#[36, 66]⟩ : ByteArray).size := by
        rw [ByteArray.size_append]
        have : (⟨#[36, 123, 65, 125]⟩ : ByteArray).size = 4 := rfl
        have : (⟨#[36, 66]⟩ : ByteArray).size = 2 := rfl
        omega
      have hx57 := (hb7.block _ (Array.getElem?_eq_some_iff.1 H6.out.2.2.2).1).trans H6.out.2.2.2
      clear HC hw hg
      go_upto_region 7 with fail
      rw [← hW7, ← hg7]
      clear hW7 hg7 c0 c1
      have x0 := cellb hx57 0 rfl
      have x1 := cellb hx57 1 rfl
      have x2 := cellb hx57 2 rfl
      have x3 := cellb hx57 3 rfl
      have x4 := cellb hx57 4 rfl
      have x5 := cellb hx57 5 rfl
      have y0 := cellb hx7 0 rfl
      clear hx57 hx7 hb7
      go_wp2_with fail
      refine HC7.out.mono ?_
      rintro e w8 ⟨rfl, hb8⟩
      obtain ⟨W9, g9, hW9, hg9, hb9, hx9⟩ : ∃ W9 g9, W9 = w8.alloc (.cells #[.int .i64 0, .int .i64 0] 43) ∧ g9 = w8.heap.size ∧ Below W7.heap.size W7 W9 ∧ W9.heap[g9]? = some (.cells #[.int .i64 0, .int .i64 0] 43 (0, 0)) := ⟨_, _, rfl, rfl, hb8.alloc hb8.size _, heap_alloc_new _ _⟩
      have H9 : Hid (Below W6.heap.size W6 W9) := H7.out.1.trans (hb9.mono H7.out.1.size)
      have hy9 := (hb9.block _ (Array.getElem?_eq_some_iff.1 H7.out.2).1).trans H7.out.2
      go_upto_region 8 with fail
      rw [← hW9, ← hg9]
      have q0 := cellb hx9 0 rfl
      have q1 := cellb hx9 1 rfl
      have y1 := cellb hy9 1 rfl
      clear hW9 hg9 hb8 hb9 hx9 hy9 x0 x1 x2 x3 x4 x5 y0 HC7
      go_wp2_with fail
      go_roundw
      case rel => exact ⟨i + 1, by go_num, by omega, H9.out⟩
      case measure => simp [intOf]; omega
    · have hli : ¬ (i : Int) < 6 := by omega
      have hb0 := H6.out.2.1.trans (HF.out.mono H6.out.2.1.size)
      have H0 : Hid (Below w.heap.size w wr ∧ Gd ad wr) := ⟨hb0, HG.out _ hb0⟩
      clear hb0
      go_wp2_with fail
      refine (HAl.out _ H0.out.2).mono ?_
      rintro e w8 ⟨rfl, hb8⟩
      have H8 : Hid (Below w.heap.size w w8) := H0.out.1.trans (hb8.mono H0.out.1.size)
      clear hb8
      go_wp2
      go_ret
      exact ⟨rfl, H8.out⟩
end Go.Proofs.YtkelmhpoplbacaaGreatDoor.Cd
