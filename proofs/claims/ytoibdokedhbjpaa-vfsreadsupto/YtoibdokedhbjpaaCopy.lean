/-
  What Copy answers: a store as this one, without notes, in blocks of its own.
-/
import Derived.Test.YtoibdokedhbjpaaMethC
import Derived.Shelf.SlMaps.Clone
namespace Go.Proofs.Ytoibdokedhbjpaa
open Go.RowKit Go.Shelf Go.Maps

set_option maxRecDepth 20000 in
set_option maxHeartbeats 1000000 in
theorem clone_any (b : Nat) (es : Array MapEntry) (clock : Nat) (w : World) (hb : w.heap[b]? = some (.map es clock)) :
    Calls Try.prog 30 #[.map (some b)] w fun e w' => e = .returned (.map (some w.heap.size)) ∧ w' = w.alloc (.map es clock) := by
  have hq := fun w => run_eql_map_nil_sl (P := Try.prog) w 54 _ _ (some b) Try.underlying54
  go_enter Try.func30, Try.ntmps30
  go_wp2
  rw [run_callFunc_extern Try.func44 (by kernel_rfl) (by kernel_rfl) (by kernel_rfl) (e := Extern.MapsClone.clone) (by kernel_rfl), run_maps_clone_sl w 54 hb]
  simp only [Result.andThen]
  rw [Oper.upon_value]
  go_wp2
  rw [run_typeAssert_map_sl _ 54 20 _ _ _ Try.underlying54]
  simp only [Result.andThen]
  rw [Oper.upon_value]
  go_wp2
  go_ret
  exact ⟨rfl, rfl⟩

theorem store64 (w : World) {b i : Nat} {x y : Int} (hc : w.cell? ⟨b, i, none⟩ = some (.int .i64 x)) (hz : w.frozen? ⟨b, i, none⟩ = false) :
    (callFunc 45 #[.pointer (some ⟨b, i, none⟩), .int .i64 y]).run Try.prog w = .ok (.value (.tuple #[])) (w.setCell ⟨b, i, none⟩ (.int .i64 y)) :=
  run_call_store Try.func45 (by kernel_rfl) (by kernel_rfl) (by kernel_rfl) (by kernel_rfl) hc hz
set_option maxRecDepth 20000 in
set_option maxHeartbeats 400000 in
theorem astore_any {b i : Nat} {x y : Int} (w : World) (hc : w.cell? ⟨b, i, none⟩ = some (.int .i64 x)) (hz : w.frozen? ⟨b, i, none⟩ = false) :
    Calls Try.prog 31 #[.pointer (some ⟨b, i, none⟩), .int .i64 y] w fun e w' => e = .returned (.tuple #[]) ∧ w' = w.setCell ⟨b, i, none⟩ (.int .i64 y) := by
  have ha := store64 (y := y) w hc hz
  go_enter Try.func31, Try.ntmps31
  go_wp2
  go_end0
  exact ⟨rfl, rfl⟩

theorem copy_ok {s : St} (o : s.Ok) : s.copy.Ok := ⟨o.room0, o.room1, o.now0, o.uniq, o.len, o.used, o.path, o.time, by simp [St.copy]⟩
theorem owns_base2 {b b' : Nat} {e : TypeId} {size : Nat} {W : World} {v : Value} {n : Nat} {xs : List Value} (h : W.ownsRow b e size v n xs) (hb : b' ≤ b) : W.ownsRow b' e size v n xs := owns_base h hb
theorem Store.base {base base' b m : Nat} {v : Value} {s : St} {w : World} (h : Store base b m v s w) (hb : base' ≤ base) : Store base' b m v s w :=
  ⟨h.blk, h.map, owns_base2 h.row hb, Nat.le_trans hb h.hb, Nat.le_trans hb h.hm, h.ok⟩

set_option maxRecDepth 20000 in
set_option maxHeartbeats 1000000 in
theorem copy_any {base b m : Nat} {v : Value} {s : St} (w : World) (h : Store base b m v s w) :
    Calls Try.prog 12 #[ptr b] w fun e w' => ∃ b' m', e = .returned (ptr b') ∧ Store w.heap.size b' m' (.slice none 0 0) s.copy w' ∧ Below w.heap.size w w' := by
  have HR : Hid (Calls Try.prog 29 #[ptr b] w fun e w' => e = .returned (.bool true) ∧ w = w') := (ready_any w h).mono fun e w' h => ⟨h.1, h.2.symm⟩
  obtain ⟨D, hown, hRep⟩ := h.map
  obtain ⟨es, clock, hb, F, hs, hD⟩ := hown
  have HS : Hid (∀ W, Below w.heap.size w W → Store base b m v s W) := fun W hB => h.below hB
  have HC : Hid (∀ W, Below w.heap.size w W → Calls Try.prog 30 #[.map (some m)] W fun e w' => e = .returned (.map (some W.heap.size)) ∧ w' = W.alloc (.map es clock)) := fun W hB => clone_any m es clock W ((hB.block m h.ltm).trans hb)
  have HF : Hid (∀ W : World, Files (W.alloc (.map es clock)) W.heap.size s.L) := fun W => ⟨D, ⟨es, clock, (MapKept.heap_alloc W _).1, F, hs, hD⟩, hRep⟩
  have HK : Hid (∀ W, Below w.heap.size w W → Below w.heap.size w W ∧ W.cell? ⟨b, 1, none⟩ = some (.int .i64 s.room) ∧ W.cell? ⟨b, 3, none⟩ = some (.map (some m))) := fun W hB => ⟨hB, (h.below hB).c1, (h.below hB).c3⟩
  have hbl := h.lt
  have hok := h.ok
  clear hs hD F hRep hb h
  go_enter Try.func12, Try.ntmps12
  go_wp2_with fail
  refine HR.out.mono ?_
  rintro e w' ⟨rfl, rfl⟩
  go_wp2_with fail
  go_region_held3 (fun W => Below w.heap.size w W ∧ W.cell? ⟨b, 1, none⟩ = some (.int .i64 s.room) ∧ W.cell? ⟨b, 3, none⟩ = some (.map (some m)))
    (exact HK.out _ (by first | exact (Below.refl _ _).drew | exact ((Below.refl _ _).alloc (Nat.le_refl _) _).drew | exact (((Below.refl _ _).alloc (Nat.le_refl _) _).alloc (by simp) _).drew))
    (first | (go_at_call 30; refine (HC.out _ (Below.refl _ _).drew).mono ?_; rintro e w3 ⟨rfl, rfl⟩))
  obtain ⟨W2, hW2⟩ : ∃ W2, W2 = ((w.alloc (.map es clock)).alloc (.cells #[.bool true, .int .i64 s.room, .int .i64 0, .map (some w.heap.size), .bool false, .slice none 0 0] 56)).drew := ⟨_, rfl⟩
  rw [← hW2]
  have hb2 : Below w.heap.size w W2 := by rw [hW2]; exact (((Below.refl _ _).alloc (Nat.le_refl _) _).alloc (by simp) _).drew
  have hblk : W2.heap[w.heap.size + 1]? = some (.cells #[.bool true, .int .i64 s.room, .int .i64 0, .map (some w.heap.size), .bool false, .slice none 0 0] 56 (0, 0)) := by
    have := heap_alloc_new (w.alloc (.map es clock)) (.cells #[.bool true, .int .i64 s.room, .int .i64 0, .map (some w.heap.size), .bool false, .slice none 0 0] 56)
    rw [World.size_alloc] at this
    rw [hW2]; exact this
  have hfl : Files W2 w.heap.size s.L := by
    rw [hW2]
    exact (HF.out w).of_block (Below.heap_alloc (w.alloc (.map es clock)) _ _ (by simp))
  clear hW2
  have HL : Hid (Calls Try.prog 32 #[.pointer (some ⟨b, 2, none⟩)] W2.drew fun e w' => e = .returned (.int .i64 s.now) ∧ W2.drew = w') := (aload_any W2.drew (HS.out W2 hb2).drew.c2).mono fun e w' h => ⟨h.1, h.2.symm⟩
  have HA : Hid (Calls Try.prog 31 #[.pointer (some ⟨w.heap.size + 1, 2, none⟩), .int .i64 s.now] W2.drew fun e w' => e = .returned (.tuple #[]) ∧ w' = W2.drew.setCell ⟨w.heap.size + 1, 2, none⟩ (.int .i64 s.now)) :=
    astore_any W2.drew (by show W2.cell? _ = some (.int .i64 0); simp only [World.cell?, hblk]; rfl) (by show W2.frozen? _ = false; simp [World.frozen?, hblk])
  have HE : Hid (Store w.heap.size (w.heap.size + 1) w.heap.size (.slice none 0 0) s.copy (W2.drew.setCell ⟨w.heap.size + 1, 2, none⟩ (.int .i64 s.now)) ∧ Below w.heap.size w (W2.drew.setCell ⟨w.heap.size + 1, 2, none⟩ (.int .i64 s.now))) := by
    refine ⟨⟨heap_set (w := W2.drew) hblk _, Files.of_block (w := W2) hfl (Below.heap_setCell _ _ _ _ (by simp)), World.ownsRow_nil _ _ _ _, by omega, Nat.le_refl _, copy_ok hok⟩, hb2.drew.setCell (by simp) _⟩
  clear hblk hfl hb2 HF HK HC HS
  go_wp2_with fail
  go_region_held3 (fun _ => True) (trivial) (first | (go_at_call 32; refine HL.out.mono ?_; rintro e w' ⟨rfl, rfl⟩) | (go_at_call 31; refine HA.out.mono ?_; rintro e w' ⟨rfl, hw'⟩))
  go_wp2
  go_ret
  subst hw'
  exact ⟨_, _, rfl, HE.out.1, HE.out.2⟩
end Go.Proofs.Ytoibdokedhbjpaa
