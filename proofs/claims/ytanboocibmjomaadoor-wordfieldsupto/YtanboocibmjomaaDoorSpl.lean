/-
  What the program's Split, Fields and Count answer.
-/
import Derived.Test.YtanboocibmjomaaDoorWd
import Derived.Test.YtanboocibmjomaaDoorWords
namespace Go.Proofs.YtanboocibmjomaaDoor
open Go.RowKit Go.Shelf

set_option maxRecDepth 20000 in
set_option maxHeartbeats 400000 in
theorem push2_any {base b : Nat} {ws : List ByteArray} {v : Value} (x : ByteArray) (w : World) (hbb : base ≤ w.heap.size) (hlen : ws.length ≤ 4096) (hblk : w.heap[b]? = some (.cells #[v] 22 (0, 0))) (hrow : w.ownsRow base 9 1 v ws.length (ws.map Value.string)) (hvb : v.ownBlock ≠ some b) :
    Calls Tryd.prog 26 #[.string x, .pointer (some ⟨b, 0, none⟩)] w fun e w' => e = .returned (.tuple #[]) ∧ Lst base b (ws ++ [x]) w' ∧ Some1 b v.ownBlock w w' := by
  obtain ⟨i0, hi, hz0, hz1, hz2⟩ := info_parts infoS
  obtain ⟨n, hn⟩ : ∃ n, n = ws.length := ⟨_, rfl⟩
  have hbl : b < w.heap.size := (Array.getElem?_eq_some_iff.1 hblk).1
  have hsl : ∃ a cap, v = .slice a n cap := by
    rw [hn]
    rcases hrow.2 with ⟨h1, h2⟩ | ⟨g, cap, cur, rfl, _⟩
    · exact ⟨none, 0, by rw [h1, h2]⟩
    · exact ⟨_, _, rfl⟩
  obtain ⟨a, cap, rfl⟩ := hsl
  rw [← hn] at hrow hlen
  have hil : (n : Int) ≤ 4096 := by omega
  have HW : Hid (n = ws.length ∧ w.heap[b]? = some (.cells #[.slice a n cap] 22 (0, 0))) := ⟨hn, hblk⟩
  have c0 : w.cell? ⟨b, 0, none⟩ = some (.slice a n cap) := by simp only [World.cell?, hblk]; rfl
  clear hn hblk
  go_enter Tryd.func26, Tryd.ntmps26
  go_wp2_with (at_builtin; refine wpList_append_own_at _ rfl _ _ 22 rfl base 9 i0 (.string ⟨#[]⟩) 1 16 Tryd.underlying22 hi hz0 hz1 hz2 rfl (by decide) _ _ _ rfl (hrow.alloc _) ⟨w.heap.size, 0, none⟩ 1 1 [.string x] rfl rfl ?c1 ?c2 ?c3 ?c4 ?c5 ?_)
  case c1 =>
    intro j u hj
    match j, hj with
    | 0, hj => simp at hj; subst hj; simp [Addr.add]
  case c2 => intro u hu; simp at hu; subst hu; rfl
  case c3 => unfold maxLen; omega
  case c4 => omega
  case c5 => simp; omega
  intro v0 w3 hown' hgrow _ hloc
  obtain ⟨g', cap', hv0⟩ : ∃ g' cap', v0 = .slice (some ⟨g', 0, none⟩) (n + 1) cap' := by
    rcases hown'.2 with ⟨_, h0⟩ | ⟨g', cap', cur', hv', _⟩
    · omega
    · exact ⟨g', cap', hv'⟩
  subst hv0
  have hb3 : w3.heap[b]? = some (.cells #[.slice a n cap] 22 (0, 0)) := by
    rw [hgrow.block b (by simp; omega) (fun e => hvb e.symm)]; exact (Below.heap_alloc _ _ _ hbl).trans HW.out.2
  have d5 : w3.cell? ⟨b, 0, none⟩ = some (.slice a n cap) := by simp only [World.cell?, hb3]; rfl
  have f5 : w3.frozen? ⟨b, 0, none⟩ = false := by simp [World.frozen?, hb3]
  have hs3 := hgrow.size
  have HT : Hid (Some1 b (Value.slice a n cap).ownBlock w w3) := by
    refine ⟨hgrow.os, hgrow.tape, hgrow.output, by simp at hs3; omega, fun j hj _ hv => ?_⟩
    rw [hgrow.block j (by simp; omega) (fun e => hv e.symm)]; exact Below.heap_alloc _ _ _ hj
  have HO : Hid (w3.ownsRow base 9 1 (.slice (some ⟨g', 0, none⟩) (n + 1) cap') (ws ++ [x]).length ((ws ++ [x]).map Value.string)) := by
    unfold Hid
    rw [List.map_append, List.length_append, ← HW.out.1]
    exact hown'
  have HB : Hid (w3.heap[b]? = some (.cells #[.slice a n cap] 22 (0, 0))) := hb3
  clear hown' hgrow hloc hb3 hs3 hrow c0
  go_wp2
  go_end0
  have hv : (Value.slice (some ⟨g', 0, none⟩) (n + 1) cap').ownBlock ≠ some b := fun e => by
    obtain ⟨cur, hc⟩ := row_type HO.out e
    have := HB.out
    rw [hc] at this; simp at this
  refine ⟨rfl, ⟨_, heap_set HB.out _, row_set HO.out hv _, hv⟩, ⟨HT.out.os, HT.out.tape, HT.out.output, by rw [size_set]; exact HT.out.size, fun j hj hb hg => ?_⟩⟩
  rw [Below.heap_setCell _ _ _ _ hb]; exact HT.out.block j hj hb hg

set_option maxHeartbeats 400000 in
theorem full2_any {b n cap : Nat} {a : Option Addr} (x : ByteArray) (w : World) (hlen : 4096 < n) (hblk : w.heap[b]? = some (.cells #[.slice a n cap] 22 (0, 0))) :
    Calls Tryd.prog 26 #[.string x, .pointer (some ⟨b, 0, none⟩)] w fun e w' => e = .returned (.tuple #[]) ∧ w = w' := by
  have hil : ¬ (n : Int) ≤ 4096 := by omega
  have c0 : w.cell? ⟨b, 0, none⟩ = some (.slice a n cap) := by simp only [World.cell?, hblk]; rfl
  clear hlen hblk
  go_enter Tryd.func26, Tryd.ntmps26
  go_wp2
  go_end0
  exact ⟨rfl, rfl⟩
end Go.Proofs.YtanboocibmjomaaDoor
