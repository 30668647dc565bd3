/-
  What New, Later and Notes answer and leave.
-/
import Derived.Test.YtoibdokedhbjpaaGreatMethB
namespace Go.Proofs.YtoibdokedhbjpaaGreat
open Go.RowKit Go.Shelf Go.Maps

section
variable {base b m : Nat} {v : Value} {s : St}

set_option maxRecDepth 20000 in
set_option maxHeartbeats 400000 in
theorem later_any (n : Int) (w : World) (h : Store base b m v s w) (hn : s.now ≤ 1152921504606846976) :
    Calls Tryz.prog 32 #[ptr b, .int .i64 n] w fun e w' => e = .returned (.tuple #[]) ∧ Store base b m v (s.later n) w' ∧ Turn b m v v w w' := by
  have HR : Hid (Calls Tryz.prog 27 #[ptr b] w fun e w' => e = .returned (.bool true) ∧ w = w') := (ready_any w h).mono fun e w' h => ⟨h.1, h.2.symm⟩
  have HA : Hid (Calls Tryz.prog 43 #[.pointer (some ⟨b, 2, none⟩)] w fun e w' => e = .returned (.int .i64 s.now) ∧ w = w') := (aload_any w h.c2).mono fun e w' h => ⟨h.1, h.2.symm⟩
  have HS : Hid (Store base b m v s w) := h
  have h0 := h.ok.now0
  have hni : ¬ (1152921504606846976 : Int) < s.now := by omega
  by_cases hneg : n < 0
  · have HL : Hid (s.later n = s) := by unfold Hid St.later; rw [if_pos (.inl hneg)]
    clear h
    go_enter Tryz.func32, Tryz.ntmps32
    go_wp2_with fail
    refine HR.out.mono ?_
    rintro e w' ⟨rfl, rfl⟩
    go_wp2
    refine bodyPost_ret (results_none rfl _ _ _) rfl ?_
    exact ⟨rfl, by rw [HL.out]; exact HS.out, Turn.refl _ _ _ _⟩
  · by_cases hbig : 1099511627776 < n
    · have HL : Hid (s.later n = s) := by unfold Hid St.later; rw [if_pos (.inr (.inl hbig))]
      clear h
      go_enter Tryz.func32, Tryz.ntmps32
      go_wp2_with fail
      refine HR.out.mono ?_
      rintro e w' ⟨rfl, rfl⟩
      go_wp2
      refine bodyPost_ret (results_none rfl _ _ _) rfl ?_
      exact ⟨rfl, by rw [HL.out]; exact HS.out, Turn.refl _ _ _ _⟩
    · have HL : Hid (s.later n = { s with now := s.now + n }) := by unfold Hid St.later; rw [if_neg (by omega)]
      have HD : Hid (Calls Tryz.prog 55 #[.pointer (some ⟨b, 2, none⟩), .int .i64 n] w fun e w' => e = .returned (.int .i64 (s.now + n)) ∧ w' = w.setCell ⟨b, 2, none⟩ (.int .i64 (s.now + n))) := aadd_any w h.c2 (h.frozen 2) (by omega) (by omega)
      have HE : Hid (Store base b m v { s with now := s.now + n } (w.setCell ⟨b, 2, none⟩ (.int .i64 (s.now + n)))) := h.clock _ (by omega)
      clear h
      go_enter Tryz.func32, Tryz.ntmps32
      go_wp2_with fail
      refine HR.out.mono ?_
      rintro e w' ⟨rfl, rfl⟩
      go_wp2_with fail
      refine HA.out.mono ?_
      rintro e w' ⟨rfl, rfl⟩
      go_wp2_with fail
      refine HD.out.mono ?_
      rintro e w' ⟨rfl, rfl⟩
      go_wp2
      go_end0
      exact ⟨rfl, by rw [HL.out]; exact HE.out, Turn.set _ _ _ _ _ _⟩

set_option maxRecDepth 20000 in
set_option maxHeartbeats 400000 in
theorem notes_any (f : Bool) (w : World) (h : Store base b m v s w) :
    Calls Tryz.prog 9 #[ptr b, .bool f] w fun e w' => e = .returned v ∧ Store base b m (.slice none 0 0) (s.tell f) w' ∧ w'.ownsRow base 74 2 v s.notes.length (notesV s.notes) ∧ Turn b m v (.slice none 0 0) w w' := by
  have HR : Hid (Calls Tryz.prog 27 #[ptr b] w fun e w' => e = .returned (.bool true) ∧ w = w') := (ready_any w h).mono fun e w' h => ⟨h.1, h.2.symm⟩
  have c5 := h.c5
  have c4 := h.c4
  have f5 := h.frozen 5
  have f4 := h.frozen 4
  have hsl : ∃ a n cap, v = .slice a n cap := by
    rcases h.row.2 with ⟨rfl, _⟩ | ⟨g, cap, cur, rfl, _⟩
    · exact ⟨_, _, _, rfl⟩
    · exact ⟨_, _, _, rfl⟩
  obtain ⟨a, n, cap, rfl⟩ := hsl
  have HE : Hid (Store base b m (.slice none 0 0) (s.tell f) ((w.setCell ⟨b, 5, none⟩ (.slice none 0 0)).setCell ⟨b, 4, none⟩ (.bool f)) ∧ ((w.setCell ⟨b, 5, none⟩ (.slice none 0 0)).setCell ⟨b, 4, none⟩ (.bool f)).ownsRow base 74 2 (.slice a n cap) s.notes.length (notesV s.notes) ∧ Turn b m (.slice a n cap) (.slice none 0 0) w ((w.setCell ⟨b, 5, none⟩ (.slice none 0 0)).setCell ⟨b, 4, none⟩ (.bool f))) := by
    refine ⟨h.begin f, row_set (row_set h.row h.vb _) h.vb _, ?_⟩
    have h1 := (Turn.set b m (.slice a n cap) w 5 (.slice none 0 0)).trans (Turn.set b m (.slice a n cap) _ 4 (.bool f))
    exact ⟨h1.os, h1.tape, h1.output, h1.size, h1.block, fun g hg => by cases hg⟩
  clear h
  go_enter Tryz.func9, Tryz.ntmps9
  go_wp2_with fail
  refine HR.out.mono ?_
  rintro e w' ⟨rfl, rfl⟩
  go_wp2
  go_ret
  exact ⟨rfl, HE.out⟩
end

theorem new_ok {room : Int} (h0 : 0 ≤ room) (h1 : room ≤ 1048576) : (St.new room).Ok := by
  have hu : Fs.used (St.new room).L = 0 := rfl
  refine ⟨h0, h1, Int.le_refl _, ?_, (by show 1 ≤ 512; decide), ?_, fun x hx => ?_, fun x hx => ?_, (by show 0 ≤ 4096; decide)⟩
  · exact List.pairwise_cons.2 ⟨(fun _ h => absurd h (by simp)), List.Pairwise.nil⟩
  · rw [hu]; exact h0
  · simp [St.new] at hx; subst hx; exact ⟨by decide, by decide⟩
  · simp [St.new] at hx; subst hx; exact Int.le_refl _

set_option maxRecDepth 20000 in
set_option maxHeartbeats 400000 in
theorem new_bad (room : Int) (w : World) (h : room < 0 ∨ 1048576 < room) :
    Calls Tryz.prog 4 #[.int .i64 room] w fun e w' => e = .returned (.tuple #[.pointer none, .int .i64 1]) ∧ w' = w := by
  by_cases h0 : room < 0
  · go_enter Tryz.func4, Tryz.ntmps4
    go_wp2
    go_ret2
    exact ⟨rfl, rfl⟩
  · have h1 : 1048576 < room := by omega
    go_enter Tryz.func4, Tryz.ntmps4
    go_wp2
    go_ret2
    exact ⟨rfl, rfl⟩

theorem new_map (w : World) : ∃ w', (Instr.mapUpdate 61 (.map (some w.heap.size)) (.string ⟨#[47]⟩) (.agg #[.string ⟨#[]⟩, .int .i64 0, .bool true])).run Tryz.prog (w.alloc (.map #[] 0)) = .ok () w' ∧ Files w' w.heap.size [(topB, ⟨E, 0, true⟩)] ∧ (w.alloc (.map #[] 0)).grownBy w' (some w.heap.size) := by
  have hown : (w.alloc (.map #[] 0)).ownsMap Tryz.prog 9 entR w.heap.size 0 (.map []) := World.ownsMap_made w Tryz.prog 9 entR
  have hR : Rep (.map []) [] := ⟨List.Pairwise.nil, rfl, fun q => rfl, fun q e z h => by cases h⟩
  obtain ⟨w', hrun, hown', ht⟩ := hown.store keyed9 Tryz.underlying61 (by decide) (WideMaps.keyOf_string_mk (P := Tryz.prog) Tryz.underlying9 (s := topB) (by decide)) (entR_mk ⟨E, 0, true⟩)
  have hR' := hR.put (hown.tidy keyed9) topB ⟨E, 0, true⟩
  exact ⟨w', hrun, ⟨_, ownsMap_exact hown' hR'.size, hR'⟩, ht.grown⟩

set_option maxRecDepth 20000 in
set_option maxHeartbeats 400000 in
theorem new_any (room : Int) (w : World) (h0 : 0 ≤ room) (h1 : room ≤ 1048576) :
    Calls Tryz.prog 4 #[.int .i64 room] w fun e w' => ∃ b, e = .returned (.tuple #[ptr b, .int .i64 0]) ∧ Store w.heap.size b w.heap.size (.slice none 0 0) (St.new room) w' ∧ Below w.heap.size w w' := by
  have h0' : ¬ room < 0 := by omega
  have h1' : ¬ 1048576 < room := by omega
  have hmm := @run_makeMap Tryz.prog
  obtain ⟨w2, hup, hf2, hg2⟩ := new_map w
  go_enter Tryz.func4, Tryz.ntmps4
  go_wp2
  go_ret2
  have hs2 : w.heap.size + 1 ≤ w2.heap.size := by have := hg2.size; simpa using this
  have hb2 : Below w.heap.size w w2 := ((Below.refl _ w).alloc (Nat.le_refl _) _).grown hg2 (by simp) (fun k hk => by cases hk; exact Nat.le_refl _)
  refine ⟨w2.heap.size, rfl, ⟨heap_alloc_new w2 _, hf2.of_block (Below.heap_alloc _ _ _ (by omega)), World.ownsRow_nil _ _ _ _, by omega, Nat.le_refl _, new_ok h0 h1⟩, hb2.alloc (by omega) _⟩
end Go.Proofs.YtoibdokedhbjpaaGreat
