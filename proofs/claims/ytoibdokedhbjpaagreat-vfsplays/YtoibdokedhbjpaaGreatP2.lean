/-
  The document's own store: what it notes, its clock, its home, what it reads.
-/
import Derived.Test.YtoibdokedhbjpaaGreatP1
import Derived.Laws.AppendOwnNone
namespace Go.Proofs.YtoibdokedhbjpaaGreat
open Go.RowKit Go.Shelf Go.Maps

theorem row_src {w : World} {base : Nat} {e : TypeId} {size n : Nat} {v : Value} {xs : List Value} (h : w.ownsRow base e size v n xs) :
    (v = .slice none 0 0 ∧ n = 0 ∧ xs = []) ∨ ∃ g cap, v = .slice (some ⟨g, 0, none⟩) n cap ∧ g < w.heap.size ∧ n ≤ cap ∧ xs.length = n * size ∧ ∀ j u, xs[j]? = some u → w.cell? ((⟨g, 0, none⟩ : Addr).add j) = some u := by
  have h0 := h
  obtain ⟨hxl, ⟨hv, hn⟩ | ⟨g, cap, cur, hv, hg, hcur, hcap, hcm, hcs, hct⟩⟩ := h
  · left; refine ⟨hv, hn, ?_⟩
    rw [hn, Nat.zero_mul] at hxl; exact List.length_eq_zero_iff.1 hxl
  · right
    refine ⟨g, cap, hv, (Array.getElem?_eq_some_iff.1 hcur).1, hcap, hxl, ?_⟩
    subst hv
    exact h0.cells (g := g) rfl
theorem notesV_one (l : List (Int × ByteArray)) : ∀ u ∈ notesV l, u.oneCell' = true := by
  intro u hu
  unfold notesV at hu
  obtain ⟨x, _, hx⟩ := List.mem_flatMap.1 hu
  simp only [List.mem_cons, List.not_mem_nil, or_false] at hx
  rcases hx with rfl | rfl <;> rfl
theorem filesV_one (l : Fs) : ∀ u ∈ filesV l, u.oneCell' = true := by
  intro u hu
  unfold filesV at hu
  obtain ⟨x, _, hx⟩ := List.mem_flatMap.1 hu
  simp only [fileV, List.mem_cons, List.not_mem_nil, or_false] at hx
  rcases hx with rfl | rfl | rfl | rfl <;> rfl
theorem infoTo : (Tryz.prog.info? 74).map (fun i => (i.zero, i.size, i.bytes)) = some (some (.agg #[.int .i64 0, .string ⟨#[]⟩]), 2, 24) := by kernel_rfl
theorem infoFi : (Tryz.prog.info? 70).map (fun i => (i.zero, i.size, i.bytes)) = some (some (.agg #[.string ⟨#[]⟩, .string ⟨#[]⟩, .int .i64 0, .bool false]), 4, 48) := by kernel_rfl

section
variable {base br : Nat} {vL vN : Value} {s : St} {w : World}
theorem RSt.putN (h : RSt base br vL vN s w) {vN' : Value} {l : List (Int × ByteArray)} (hN : w.ownsRow base 74 2 vN' l.length (notesV l)) : RSt base br vL vN' { s with notes := l } (w.setCell ⟨br, 4, none⟩ vN') := by
  have hne : vN'.ownBlock ≠ some br := fun e => by
    obtain ⟨cur, hc⟩ := row_type hN e
    have := h.blk; rw [hc] at this; simp at this
  exact ⟨heap_set h.blk _, row_set h.row h.notL _, row_set hN hne _, h.hb⟩
theorem RSt.putL (h : RSt base br vL vN s w) {vL' : Value} {L : Fs} (hL : w.ownsRow base 70 4 vL' L.length (filesV L)) : RSt base br vL' vN { s with L := L } (w.setCell ⟨br, 2, none⟩ vL') := by
  have hne : vL'.ownBlock ≠ some br := fun e => by
    obtain ⟨cur, hc⟩ := row_type hL e
    have := h.blk; rw [hc] at this; simp at this
  exact ⟨heap_set h.blk _, row_set hL hne _, row_set h.nts h.notN _, h.hb⟩
theorem RSt.putNow (h : RSt base br vL vN s w) (x : Int) : RSt base br vL vN { s with now := x } (w.setCell ⟨br, 1, none⟩ (.int .i64 x)) :=
  ⟨heap_set h.blk _, row_set h.row h.notL _, row_set h.nts h.notN _, h.hb⟩
/-- What a call of the document's store leaves: notes that are the elder ones or new. -/
def Fresh (n : Nat) (v v' : Value) : Prop := v' = v ∨ ∀ g, v'.ownBlock = some g → n ≤ g
theorem Fresh.trans {n n' : Nat} {v v' v'' : Value} (h : Fresh n v v') (k : Fresh n' v' v'') (hn : n ≤ n') : Fresh n v v'' := by
  rcases k with rfl | k
  · exact h
  · exact .inr fun g hg => Nat.le_trans hn (k g hg)

set_option maxRecDepth 20000 in
set_option maxHeartbeats 1000000 in
theorem rnote_any (k : Int) (q : ByteArray) (w : World) (h : RSt base br vL vN s w) (hn : s.notes.length ≤ 4096) :
    Calls Tryz.prog 50 #[rptr br, .int .i64 k, .string q] w fun e w' => e = .returned (.tuple #[]) ∧ ∃ vN', RSt base br vL vN' (s.note k q) w' ∧ RTurn br w w' ∧ Fresh w.heap.size vN vN' := by
  obtain ⟨i0, hi, hz0, hz1, hz2⟩ := info_parts infoTo
  have c3 := h.c3
  have c4 := h.c4
  have hbl := h.lt
  have hbs := h.sized
  obtain ⟨n, hnl⟩ : ∃ n, n = s.notes.length := ⟨_, rfl⟩
  have hrow := h.nts
  rw [← hnl] at hn hrow
  have HS : Hid (RSt base br vL vN s w ∧ n = s.notes.length) := ⟨h, hnl⟩
  by_cases hc : s.noting = true ∧ n < 4096
  · obtain ⟨hnt, hlt⟩ := hc
    have HN : Hid (s.note k q = { s with notes := s.notes ++ [(k, q)] }) := by
      unfold Hid St.note; rw [hnt, ← hnl]; simp [hlt]
    rw [hnt] at c3
    have hil : (n : Int) < 4096 := by omega
    have HE : Hid (∀ w2 v2, Below w.heap.size w w2 → w2.ownsRow w.heap.size 74 2 v2 (n + 1) (notesV s.notes ++ [.int .i64 k, .string q]) → ∃ vN', RSt base br vL vN' (s.note k q) (w2.setCell ⟨br, 4, none⟩ v2) ∧ RTurn br w (w2.setCell ⟨br, 4, none⟩ v2) ∧ Fresh w.heap.size vN vN' ∧ w2.cell? ⟨br, 4, none⟩ = some vN ∧ w2.frozen? ⟨br, 4, none⟩ = false) := by
      intro w2 v2 hb hr
      have h2 := HS.out.1.below hb
      refine ⟨v2, ?_, (RTurn.of_below hb).trans (RTurn.set _ _ _ _), .inr fun g hg => (hr.lt g hg).1, h2.c4, h2.fr 4⟩
      rw [HN.out]
      refine h2.putN (l := s.notes ++ [(k, q)]) (owns_base ?_ hbs)
      rw [List.length_append, ← HS.out.2]
      have e : notesV (s.notes ++ [(k, q)]) = notesV s.notes ++ [.int .i64 k, .string q] := by unfold notesV; rw [List.flatMap_append]; rfl
      rw [e]; exact hr
    have hone := notesV_one s.notes
    rcases row_src hrow with ⟨rfl, hn0, hxs⟩ | ⟨g, cap, rfl, hg, hcap, hxl, hcells⟩
    · subst hn0
      rw [hxs] at HE
      clear hnt hnl h hrow hone hxs HN
      go_enter Tryz.func50, Tryz.ntmps50
      go_wp2_with (first | (at_builtin; refine wpList_append_own_none _ rfl _ _ 28 rfl w.heap.size 74 i0 2 Tryz.underlying28 hi _ _ _ rfl (World.ownsRow_nil _ _ _ _) rfl ?_) | (at_builtin; refine wpList_append_own _ rfl _ _ 28 rfl w.heap.size 74 i0 (.agg #[.int .i64 0, .string ⟨#[]⟩]) 2 24 Tryz.underlying28 hi hz0 hz1 hz2 rfl (by decide) _ _ _ rfl (World.ownsRow_nil _ _ _ _) ⟨w.heap.size, 0, none⟩ 1 1 [.int .i64 k, .string q] rfl rfl (by intro j u hj; match j, hj with | 0, hj => simp at hj; subst hj; simp [Addr.add] | 1, hj => simp at hj; subst hj; simp [Addr.add]) (by intro u hu; simp only [List.mem_cons, List.not_mem_nil, or_false] at hu; rcases hu with rfl | rfl <;> rfl) (by unfold maxLen; omega) (by omega) (by first | (simp; done) | (simp; omega)) ?_; intro v2 w2 hown2 hgrow2 _; obtain ⟨vN', hR, hT, hF, d4, f4⟩ := HE.out w2 v2 (((Below.refl _ _).alloc (Nat.le_refl _) _).grown hgrow2 (by first | (simp; done) | (simp; omega)) (fun k hk => by cases hk)) hown2; obtain ⟨av, nv, cv, hv2⟩ : ∃ a n c, v2 = .slice a n c := (by rcases hown2.2 with ⟨h, _⟩ | ⟨g, cap, cur, h, _⟩ <;> exact ⟨_, _, _, h⟩); subst hv2; have HR : Hid _ := hR; have HT : Hid _ := hT; have HF : Hid _ := hF; clear hown2 hgrow2 hR hT hF))
      go_end0
      exact ⟨rfl, vN', Hid.out ‹_›, Hid.out ‹_›, Hid.out ‹_›⟩
    · obtain ⟨xs, hxs⟩ : ∃ xs, xs = notesV s.notes := ⟨_, rfl⟩
      rw [← hxs] at HE hrow hxl hcells hone
      clear hnt hnl h hrow hxs HN
      go_enter Tryz.func50, Tryz.ntmps50
      go_wp2_with (at_builtin; refine wpList_append_own _ rfl (.const (.slice none 0 0)) (.tmp 22) 28 rfl w.heap.size 74 i0 (.agg #[.int .i64 0, .string ⟨#[]⟩]) 2 24 Tryz.underlying28 hi hz0 hz1 hz2 rfl (by decide) _ _ _ rfl (World.ownsRow_nil _ _ _ _) ⟨g, 0, none⟩ n cap xs rfl hxl hcells hone (by unfold maxLen; omega) (by omega) (Nat.le_refl _) ?_)
      intro v1 w1 hown1 hgrow1 _
      have hb1 : Below w.heap.size w w1 := (Below.refl _ _).grown hgrow1 (Nat.le_refl _) (fun k hk => by cases hk)
      have hs1 := hb1.size
      have hown1' : w1.ownsRow w.heap.size 74 2 v1 n xs := by simpa using hown1
      clear hown1 hgrow1 c3 c4
      go_wp2_with (at_builtin; refine wpList_append_own _ rfl (.tmp 23) (.tmp 27) 28 rfl w.heap.size 74 i0 (.agg #[.int .i64 0, .string ⟨#[]⟩]) 2 24 Tryz.underlying28 hi hz0 hz1 hz2 rfl (by decide) _ _ _ rfl (hown1'.alloc _) ⟨w1.heap.size, 0, none⟩ 1 1 [.int .i64 k, .string q] rfl rfl (by intro j u hj; match j, hj with | 0, hj => simp at hj; subst hj; simp [Addr.add] | 1, hj => simp at hj; subst hj; simp [Addr.add]) (by intro u hu; simp only [List.mem_cons, List.not_mem_nil, or_false] at hu; rcases hu with rfl | rfl <;> rfl) (by unfold maxLen; omega) (by omega) (by first | (simp; done) | (simp; omega)) ?_)
      intro v2 w2 hown2 hgrow2 _
      obtain ⟨vN', hR, hT, hF, d4, f4⟩ := HE.out w2 v2 ((hb1.alloc hs1 _).grown hgrow2 (by first | (simp; done) | (simp; omega)) (fun k hk => (hown1'.lt k hk).1)) hown2
      obtain ⟨av, nv, cv, hv2⟩ : ∃ a n c, v2 = .slice a n c := by
        rcases hown2.2 with ⟨h, _⟩ | ⟨g, cap, cur, h, _⟩
        · exact ⟨_, _, _, h⟩
        · exact ⟨_, _, _, h⟩
      subst hv2
      have HR : Hid (RSt base br vL vN' (s.note k q) (w2.setCell ⟨br, 4, none⟩ (.slice av nv cv)) ∧ RTurn br w (w2.setCell ⟨br, 4, none⟩ (.slice av nv cv)) ∧ Fresh w.heap.size (.slice (some ⟨g, 0, none⟩) n cap) vN') := ⟨hR, hT, hF⟩
      clear hown2 hgrow2 hown1' hR hT hF hb1
      go_wp2
      go_end0
      exact ⟨rfl, vN', HR.out.1, HR.out.2.1, HR.out.2.2⟩
  · have HN : Hid (s.note k q = s) := by
      unfold Hid St.note; rw [← hnl]
      split
      · rename_i h1; simp at h1; exact absurd h1 hc
      · rfl
    rcases row_src hrow with ⟨rfl, hn0, hxs⟩ | ⟨g, cap, rfl, hg, hcap, hxl, hcells⟩
    · subst hn0
      cases hnt : s.noting with
      | true => exact absurd ⟨hnt, by omega⟩ hc
      | false =>
        rw [hnt] at c3
        clear hnt hnl h hrow hxs hc
        go_enter Tryz.func50, Tryz.ntmps50
        go_wp2
        go_end0
        exact ⟨rfl, _, by rw [HN.out]; exact HS.out.1, RTurn.refl _ _, .inl rfl⟩
    · cases hnt : s.noting with
      | true =>
        have hnil : ¬ (n : Int) < 4096 := by
          intro h4; exact hc ⟨hnt, by omega⟩
        rw [hnt] at c3
        clear hnt hnl h hrow hc hcells hxl
        go_enter Tryz.func50, Tryz.ntmps50
        go_wp2
        go_end0
        exact ⟨rfl, _, by rw [HN.out]; exact HS.out.1, RTurn.refl _ _, .inl rfl⟩
      | false =>
        rw [hnt] at c3
        clear hnt hnl h hrow hc hcells hxl
        go_enter Tryz.func50, Tryz.ntmps50
        go_wp2
        go_end0
        exact ⟨rfl, _, by rw [HN.out]; exact HS.out.1, RTurn.refl _ _, .inl rfl⟩

set_option maxRecDepth 20000 in
set_option maxHeartbeats 400000 in
theorem rlater_any (n : Int) (w : World) (h : RSt base br vL vN s w) (h0 : 0 ≤ s.now) (h1 : s.now ≤ 2000000000000000000) (hn : -9223372036854775808 ≤ n ∧ n ≤ 9223372036854775807) :
    Calls Tryz.prog 39 #[rptr br, .int .i64 n] w fun e w' => e = .returned (.tuple #[]) ∧ RSt base br vL vN (s.later n) w' ∧ RTurn br w w' := by
  have c1 := h.c1
  have f1 := h.fr 1
  have HS : Hid (RSt base br vL vN s w) := h
  by_cases hc : n < 0 ∨ 1099511627776 < n ∨ 1152921504606846976 < s.now
  · have HL : Hid (s.later n = s) := by unfold Hid St.later; rw [if_pos hc]
    have HC : Hid (n < 0 ∨ 1099511627776 < n ∨ 1152921504606846976 < s.now) := hc
    clear hc h
    go_enter Tryz.func39, Tryz.ntmps39
    go_wp2
    all_goals first
      | (exfalso; have := HC.out; omega)
      | (go_end0; exact ⟨rfl, by rw [HL.out]; exact HS.out, RTurn.refl _ _⟩)
  · have HL : Hid (s.later n = { s with now := s.now + n }) := by unfold Hid St.later; rw [if_neg hc]
    have a1 : 0 ≤ n := by omega
    have a2 : n ≤ 1099511627776 := by omega
    have a3 : s.now ≤ 1152921504606846976 := by omega
    clear hc h
    go_enter Tryz.func39, Tryz.ntmps39
    go_wp2
    all_goals first
      | (exfalso; omega)
      | (go_end0; exact ⟨rfl, by rw [HL.out]; exact HS.out.putNow _, RTurn.set _ _ _ _⟩)

set_option maxRecDepth 20000 in
set_option maxHeartbeats 400000 in
theorem rnotes_any (f : Bool) (w : World) (h : RSt base br vL vN s w) :
    Calls Tryz.prog 10 #[rptr br, .bool f] w fun e w' => e = .returned vN ∧ RSt base br vL (.slice none 0 0) (s.tell f) w' ∧ w'.ownsRow base 74 2 vN s.notes.length (notesV s.notes) ∧ RTurn br w w' := by
  have c4 := h.c4
  have c3 := h.c3
  have f3 := h.fr 3
  have f4 := h.fr 4
  have hsl : ∃ a n cap, vN = .slice a n cap := by
    rcases h.nts.2 with ⟨rfl, _⟩ | ⟨g, cap, cur, rfl, _⟩
    · exact ⟨_, _, _, rfl⟩
    · exact ⟨_, _, _, rfl⟩
  obtain ⟨a, n, cap, rfl⟩ := hsl
  have HE : Hid (∀ W, W = (w.setCell ⟨br, 4, none⟩ (.slice none 0 0)).setCell ⟨br, 3, none⟩ (.bool f) → RSt base br vL (.slice none 0 0) (s.tell f) W ∧ W.ownsRow base 74 2 (.slice a n cap) s.notes.length (notesV s.notes) ∧ RTurn br w W) := by
    intro W hW
    subst hW
    have h1 : (w.setCell ⟨br, 4, none⟩ (.slice none 0 0)).heap[br]? = _ := heap_set h.blk _
    refine ⟨⟨heap_set h1 _, row_set (row_set h.row h.notL _) h.notL _, World.ownsRow_nil _ _ _ _, h.hb⟩, row_set (row_set h.nts h.notN _) h.notN _, (RTurn.set _ _ _ _).trans (RTurn.set _ _ _ _)⟩
  clear h
  go_enter Tryz.func10, Tryz.ntmps10
  go_wp2
  go_ret
  obtain ⟨e1, e2, e3⟩ := HE.out _ rfl
  exact ⟨rfl, e1, e2, e3⟩
end
end Go.Proofs.YtoibdokedhbjpaaGreat
