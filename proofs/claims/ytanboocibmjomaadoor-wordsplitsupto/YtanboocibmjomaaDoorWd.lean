/-
  What the program's Split, Fields and Count answer.
-/
import Derived.Test.YtanboocibmjomaaDoorNext
import Derived.Test.YtanboocibmjomaaDoorBetween
import Derived.Test.YtanboocibmjomaaDoorShelf
import Derived.Maps.AppendAt
namespace Go.Proofs.YtanboocibmjomaaDoor
open Go.RowKit Go.Shelf

theorem index_blank (c : UInt8) : ∃ X : Int, Lib.indexByte [32, 9] c = X ∧ (0 ≤ X ↔ K.isB c = true) := by
  refine ⟨_, rfl, ?_⟩
  unfold K.isB
  by_cases h1 : c = 32
  · subst h1; decide
  by_cases h2 : c = 9
  · subst h2; decide
  have g : ∀ x : UInt8, c ≠ x → (x == c) = false := fun x h => by simpa using fun e => h e.symm
  have g' : ∀ x : UInt8, c ≠ x → (c == x) = false := fun x h => by simpa using h
  simp [Lib.indexByte, g 32 h1, g 9 h2, g' 32 h1, g' 9 h2]

/-- What is a blank, asked of a byte alone. -/
theorem blank0_any (c : UInt8) (w : World) :
    Calls Tryd.prog 43 #[.int .u8 c.toNat] w fun e w' => e = .returned (.bool (K.isB c)) ∧ w = w' := by
  obtain ⟨X, hX, hX0⟩ := index_blank c
  have HO : Hid (∀ W, Calls Tryd.prog 24 #[.string ⟨#[32, 9]⟩, .int .u8 c.toNat] W fun e w' => e = .returned (.int .i64 X) ∧ W = w') := by
    intro W
    have h := Tryd.strings_IndexByte ⟨#[32, 9]⟩ c.toNat W
    rw [u8_back] at h
    rw [← hX]; exact h.mono fun e w' h => ⟨h.1, h.2.symm⟩
  clear hX
  cases hb : K.isB c
  · have hx : ¬ 0 ≤ X := by rw [hX0, hb]; simp
    clear hX0 hb
    go_enter Tryd.func43, Tryd.ntmps43
    go_wp2_with fail
    refine (HO.out _).mono ?_
    rintro e w' ⟨rfl, rfl⟩
    go_wp2
    go_ret
    exact ⟨ret_bool (by simpa using hx), rfl⟩
  · have hx : 0 ≤ X := by rw [hX0, hb]
    clear hX0 hb
    go_enter Tryd.func43, Tryd.ntmps43
    go_wp2_with fail
    refine (HO.out _).mono ?_
    rintro e w' ⟨rfl, rfl⟩
    go_wp2
    go_ret
    exact ⟨ret_bool (by simp), rfl⟩

set_option maxHeartbeats 400000 in
/-- What is a blank, asked within a text. -/
theorem blank1_any (b : Nat) (r : K.Rd) (c : UInt8) (w : World) (h : Box b r w) :
    Calls Tryd.prog 22 #[.int .u8 c.toNat, .pointer (some ⟨b, 0, none⟩)] w fun e w' => e = .returned (.bool (r.blank c)) ∧ Box b (r.step c) w' ∧ Only b w w' := by
  obtain ⟨X, hX, hX0⟩ := index_blank c
  have HO : Hid (∀ W, Calls Tryd.prog 24 #[.string ⟨#[32, 9]⟩, .int .u8 c.toNat] W fun e w' => e = .returned (.int .i64 X) ∧ W = w') := by
    intro W
    have h := Tryd.strings_IndexByte ⟨#[32, 9]⟩ c.toNat W
    rw [u8_back] at h
    rw [← hX]; exact h.mono fun e w' h => ⟨h.1, h.2.symm⟩
  have HN : Hid (Calls Tryd.prog 23 #[.pointer (some ⟨b, 0, none⟩), .int .u8 c.toNat] w fun e w' => e = .returned (.int .i64 (r.kind c : Nat)) ∧ Box b (r.step c) w' ∧ Only b w w') := next_any b r c w h
  have HE : Hid (r.blank c = (r.kind c == 0 && K.isB c)) := rfl
  obtain ⟨n, hn⟩ : ∃ n, n = r.kind c := ⟨_, rfl⟩
  rw [← hn] at HN HE
  clear hX h hn
  have hn0 : (n = 0) ∨ ¬ (n = 0) := by omega
  rcases hn0 with rfl | hn0
  · cases hb : K.isB c
    · have hx : ¬ 0 ≤ X := by rw [hX0, hb]; simp
      rw [hb] at HE
      clear hX0 hb
      go_enter Tryd.func22, Tryd.ntmps22
      go_wp2_with (first | (go_at_call 23; refine HN.out.mono ?_; rintro e w1 ⟨rfl, hB1, hO1⟩; have HB1 : Hid _ := hB1; have HO1 : Hid _ := hO1; clear hB1 hO1) | (go_at_call 24; refine (HO.out _).mono ?_; rintro e w' ⟨rfl, rfl⟩))
      go_ret
      exact ⟨ret_bool (by rw [HE.out]; simpa using hx), Hid.out ‹_›, Hid.out ‹_›⟩
    · have hx : 0 ≤ X := by rw [hX0, hb]
      rw [hb] at HE
      clear hX0 hb
      go_enter Tryd.func22, Tryd.ntmps22
      go_wp2_with (first | (go_at_call 23; refine HN.out.mono ?_; rintro e w1 ⟨rfl, hB1, hO1⟩; have HB1 : Hid _ := hB1; have HO1 : Hid _ := hO1; clear hB1 hO1) | (go_at_call 24; refine (HO.out _).mono ?_; rintro e w' ⟨rfl, rfl⟩))
      go_ret
      exact ⟨ret_bool (by rw [HE.out]; simp), Hid.out ‹_›, Hid.out ‹_›⟩
  · have hni : ¬ (n : Int) = 0 := by omega
    have hnb : ((n : Int) == 0) = false := by simpa using hni
    have HE2 : Hid (r.blank c = false) := by unfold Hid; rw [HE.out]; simp [hn0]
    clear HE
    go_enter Tryd.func22, Tryd.ntmps22
    go_wp2_with (go_at_call 23; refine HN.out.mono ?_; rintro e w1 ⟨rfl, hB1, hO1⟩; have HB1 : Hid _ := hB1; have HO1 : Hid _ := hO1; clear hB1 hO1)
    go_ret
    exact ⟨ret_bool (by rw [HE2.out]), Hid.out ‹_›, Hid.out ‹_›⟩

/-- A box that holds a list of texts. -/
structure Lst (base b : Nat) (ws : List ByteArray) (w : World) : Prop where
  ex : ∃ v, w.heap[b]? = some (.cells #[v] 22 (0, 0)) ∧ w.ownsRow base 9 1 v ws.length (ws.map Value.string) ∧ v.ownBlock ≠ some b
theorem row_type {w : World} {base : Nat} {v : Value} {e : TypeId} {n k : Nat} {xs : List Value} (h : w.ownsRow base e k v n xs) {g : Nat} (hg : v.ownBlock = some g) : ∃ cur, w.heap[g]? = some (.cells cur e (0, 0)) := by
  rcases h.2 with ⟨rfl, _⟩ | ⟨g', cap, cur, rfl, _, hc, _⟩
  · cases hg
  · cases hg; exact ⟨cur, hc⟩
theorem infoS : (Tryd.prog.info? 9).map (fun i => (i.zero, i.size, i.bytes)) = some (some (.string ⟨#[]⟩), 1, 16) := by kernel_rfl
/-- One block is written, and memory is made. -/
structure Some1 (b : Nat) (g : Option Nat) (w w' : World) : Prop where
  os : w'.os = w.os
  tape : w'.tape = w.tape
  output : w'.output = w.output
  size : w.heap.size ≤ w'.heap.size
  block : ∀ j, j < w.heap.size → j ≠ b → g ≠ some j → w'.heap[j]? = w.heap[j]?

set_option maxRecDepth 20000 in
set_option maxHeartbeats 400000 in
theorem push_any {base b : Nat} {ws : List ByteArray} {v : Value} (x : ByteArray) (w : World) (hbb : base ≤ w.heap.size) (hlen : ws.length ≤ 4000000) (hblk : w.heap[b]? = some (.cells #[v] 22 (0, 0))) (hrow : w.ownsRow base 9 1 v ws.length (ws.map Value.string)) (hvb : v.ownBlock ≠ some b) :
    Calls Tryd.prog 35 #[.string x, .pointer (some ⟨b, 0, none⟩)] w fun e w' => e = .returned (.tuple #[]) ∧ Lst base b (ws ++ [x]) w' ∧ Some1 b v.ownBlock w w' := by
  obtain ⟨i0, hi, hz0, hz1, hz2⟩ := info_parts infoS
  obtain ⟨n, hn⟩ : ∃ n, n = ws.length := ⟨_, rfl⟩
  have hbl : b < w.heap.size := (Array.getElem?_eq_some_iff.1 hblk).1
  have hsl : ∃ a cap, v = .slice a n cap := by
    rw [hn]
    rcases hrow.2 with ⟨h1, h2⟩ | ⟨g, cap, cur, rfl, _⟩
    · exact ⟨none, 0, by rw [h1, h2]⟩
    · exact ⟨_, _, rfl⟩
  obtain ⟨a, cap, rfl⟩ := hsl
  rw [← hn] at hrow hlen
  have HW : Hid (n = ws.length ∧ w.heap[b]? = some (.cells #[.slice a n cap] 22 (0, 0))) := ⟨hn, hblk⟩
  have c0 : w.cell? ⟨b, 0, none⟩ = some (.slice a n cap) := by simp only [World.cell?, hblk]; rfl
  clear hn hblk
  go_enter Tryd.func35, Tryd.ntmps35
  go_wp2_with (at_builtin; refine wpList_append_own_at _ rfl _ _ 22 rfl base 9 i0 (.string ⟨#[]⟩) 1 16 Tryd.underlying22 hi hz0 hz1 hz2 rfl (by decide) _ _ _ rfl (hrow.alloc _) ⟨w.heap.size, 0, none⟩ 1 1 [.string x] rfl rfl ?c1 ?c2 ?c3 ?c4 ?c5 ?_)
  case c1 =>
    intro j u hj
    match j, hj with
    | 0, hj => simp at hj; subst hj; simp [Addr.add]
  case c2 => intro u hu; simp at hu; subst hu; rfl
  case c3 => unfold maxLen; omega
  case c4 => omega
  case c5 => simp; omega
  intro v0 w3 hown' hgrow _ hloc
  obtain ⟨g', cap', hv0⟩ : ∃ g' cap', v0 = .slice (some ⟨g', 0, none⟩) (n + 1) cap' := by
    rcases hown'.2 with ⟨_, h0⟩ | ⟨g', cap', cur', hv', _⟩
    · omega
    · exact ⟨g', cap', hv'⟩
  subst hv0
  have hb3 : w3.heap[b]? = some (.cells #[.slice a n cap] 22 (0, 0)) := by
    rw [hgrow.block b (by simp; omega) (fun e => hvb e.symm)]; exact (Below.heap_alloc _ _ _ hbl).trans HW.out.2
  have d5 : w3.cell? ⟨b, 0, none⟩ = some (.slice a n cap) := by simp only [World.cell?, hb3]; rfl
  have f5 : w3.frozen? ⟨b, 0, none⟩ = false := by simp [World.frozen?, hb3]
  have hs3 := hgrow.size
  have HT : Hid (Some1 b (Value.slice a n cap).ownBlock w w3) := by
    refine ⟨hgrow.os, hgrow.tape, hgrow.output, by simp at hs3; omega, fun j hj _ hv => ?_⟩
    rw [hgrow.block j (by simp; omega) (fun e => hv e.symm)]; exact Below.heap_alloc _ _ _ hj
  have HO : Hid (w3.ownsRow base 9 1 (.slice (some ⟨g', 0, none⟩) (n + 1) cap') (ws ++ [x]).length ((ws ++ [x]).map Value.string)) := by
    unfold Hid
    rw [List.map_append, List.length_append, ← HW.out.1]
    exact hown'
  have HB : Hid (w3.heap[b]? = some (.cells #[.slice a n cap] 22 (0, 0))) := hb3
  clear hown' hgrow hloc hb3 hs3 hrow c0
  go_wp2
  go_end0
  have hv : (Value.slice (some ⟨g', 0, none⟩) (n + 1) cap').ownBlock ≠ some b := fun e => by
    obtain ⟨cur, hc⟩ := row_type HO.out e
    have := HB.out
    rw [hc] at this; simp at this
  refine ⟨rfl, ⟨_, heap_set HB.out _, row_set HO.out hv _, hv⟩, ⟨HT.out.os, HT.out.tape, HT.out.output, by rw [size_set]; exact HT.out.size, fun j hj hb hg => ?_⟩⟩
  rw [Below.heap_setCell _ _ _ _ hb]; exact HT.out.block j hj hb hg
end Go.Proofs.YtanboocibmjomaaDoor
