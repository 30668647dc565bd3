/-
  What a line's reader does, and Build.
-/
import Derived.Test.YtbciedpjaajhcaaDoorBU
import Derived.Test.YtbciedpjaajhcaaDoorBD
import Derived.Test.YtbciedpjaajhcaaDoorBF2
namespace Go.Proofs.YtbciedpjaajhcaaDoor
open Go.RowKit Go.Shelf
open Ex (Fr)

theorem StA.sized {base b : Nat} {w : World} {s : Sx} {vD vO : Value} {G : List (List Value × List Nat)} (h : StA base b w s vD vO G) : base ≤ w.heap.size := by
  have := h.ge b (by simp); omega
theorem flat_one : ∀ ns : List ByteArray, (ns.map fun n => [Value.string n]).flatten = ns.map Value.string
  | [] => rfl
  | a :: l => by rw [List.map_cons, List.flatten_cons, flat_one l]; rfl
set_option maxRecDepth 20000 in
set_option maxHeartbeats 400000 in
theorem plain_any {base b : Nat} {w : World} {s : Sx} {vD vO : Value} {G : List (List Value × List Nat)} (h : StA base b w s vD vO G) (hN : s.Le 1000000) (x : Lz) (wd t : ByteArray) :
    Calls Tryd.prog 34 #[.pointer (some ⟨b, 0, none⟩), lnV x, .string wd, .string t] w (StepPost base b w (.ok (Sx.addTo s.done s.op (.pl x)))) := by
  obtain ⟨w1, hw1⟩ : ∃ w1, w1 = w.alloc (.cells #[.string x.text, .int .i64 x.at_, .bool x.cmd] 43) := ⟨_, rfl⟩
  have hb1 : Below w.heap.size w w1 := by rw [hw1]; exact (Below.refl _ _).alloc (Nat.le_refl _) _
  have hz1 : w1.heap[w.heap.size]? = some (.cells #[.string x.text, .int .i64 x.at_, .bool x.cmd] 43 (0, 0)) := by rw [hw1]; exact alloc_last _ _
  have c0 := cell_in hz1 0 rfl
  have c1 := cell_in hz1 1 rfl
  have c2 := cell_in hz1 2 rfl
  have HA : Hid (Calls Tryd.prog 52 #[.pointer (some ⟨b, 0, none⟩), .agg #[.int .i64 1, .string x.text, .int .i64 x.at_, .bool x.cmd, .slice none 0 0, .slice none 0 0, .string ⟨#[]⟩, .slice none 0 0]] w1 (AddPost base b w1 (Sx.addTo s.done s.op (.pl x)))) :=
    add_any (h.below hb1) hN ⟨⟨_, _, _, rfl⟩, ⟨_, _, _, rfl⟩, ⟨_, _, _, rfl⟩⟩ (nd_pl _ x)
  have HB : Hid (Below base w w1) := hb1.mono h.sized
  clear h hz1 hb1
  go_enter Tryd.func34, Tryd.ntmps34
  go_wp2_with fail
  rw [← hw1]
  clear hw1
  go_wp2_with fail
  refine HA.out.mono ?_
  rintro e w' ⟨rfl, h1, h2⟩
  have H1 : Hid _ := h1
  have H2 : Hid _ := h2
  clear h1 h2
  go_wp2_with fail
  go_ret
  exact ⟨rfl, H1.out, HB.out.trans H2.out⟩
set_option maxRecDepth 20000 in
set_option maxHeartbeats 400000 in
theorem begin_many (b : Nat) (vD : Value) (a : Option Addr) (c : Nat) (k : Int) (l : Lz) (vB vN : Value) (li : ByteArray) (vK : Value) (w : World) (hblk : w.heap[b]? = some (.cells #[vD, .slice a 32 c] 50 (0, 0))) :
    Calls Tryd.prog 48 #[.pointer (some ⟨b, 0, none⟩), .agg #[.int .i64 k, .string l.text, .int .i64 l.at_, .bool l.cmd, vB, vN, .string li, vK]] w fun e w' => e = .returned (.int .i64 5) ∧ Below w.heap.size w w' := by
  have hbl : b < w.heap.size := (Array.getElem?_eq_some_iff.1 hblk).1
  have c1 : w.cell? ⟨b, 1, none⟩ = some (.slice a 32 c) := cell_in hblk 1 rfl
  have HB : Hid (Below w.heap.size w (w.alloc (.cells #[.int .i64 k, .string l.text, .int .i64 l.at_, .bool l.cmd, vB, vN, .string li, vK] 47))) := (Below.refl _ _).alloc (Nat.le_refl _) _
  clear hblk
  go_enter Tryd.func48, Tryd.ntmps48
  go_wp2
  go_ret
  exact ⟨rfl, HB.out⟩
/-- begin, at a world behind the one whose state is known. -/
theorem begin_any {base b : Nat} {w0 w : World} {s : Sx} {vD vO : Value} {G : List (List Value × List Nat)} (h : StA base b w0 s vD vO G) (hw : Below w0.heap.size w0 w) {k : Int} {l : Lz} {vB vN : Value} {li : ByteArray} {vK : Value} (hsl : IsS vB ∧ IsS vN ∧ IsS vK) (f : Fm) (hb : List Nat) (hbn : hb.Nodup) (hbl : ∀ x ∈ hb, w0.heap.size ≤ x ∧ x < w.heap.size)
    (hfm : ∀ (w' : World) (H' : Nat → Prop), Fr (fun j => j = b ∨ vO.ownBlock = some j) w w' → (∀ x, H' x → x < w0.heap.size ∨ x ∈ hb ∨ w.heap.size ≤ x) → FmAt base H' w' (31 - s.op.length) (ndC k l vB vN li vK) hb f) :
    Calls Tryd.prog 48 #[.pointer (some ⟨b, 0, none⟩), .agg #[.int .i64 k, .string l.text, .int .i64 l.at_, .bool l.cmd, vB, vN, .string li, vK]] w (StepPost base b w (if s.op.length = 32 then .bad 5 else .ok ⟨s.done, s.op ++ [f]⟩)) := by
  have h1 := h.below hw
  have hbs := h1.sized
  by_cases hl : s.op.length = 32
  · rw [if_pos hl]
    obtain ⟨a, c, hvO⟩ := V.owns_slice h1.rowO
    have hblk := h1.blk
    rw [hvO, hl] at hblk
    exact (begin_many b vD a c k l vB vN li vK w hblk).mono fun e w' h => h
  · rw [if_neg hl]
    have hlt : s.op.length < 32 := by have := h.few; omega
    refine (begin_few base b s.op.length vD vO _ k l vB vN li vK hsl w hbs h1.blk h1.rowO hlt).mono fun e w' ⟨e1, hg⟩ => ⟨e1, ?_, ?_⟩
    · have hf : Fr (fun j => j = b ∨ vO.ownBlock = some j) w w' := by obtain ⟨g, c', _, _, _, hf, _⟩ := hg; exact hf
      exact st_push h hw hlt hb hbn hbl (fun H' hH => hfm w' H' hf hH) hg
    · obtain ⟨g, c', _, _, _, hf, _⟩ := hg
      exact hf.to_below hbs (fun x hx => by
        rcases hx with rfl | hx
        · exact (h1.ge x (by simp)).1
        · exact (h1.ge x (by simp [mem_ob, hx])).1)
set_option maxRecDepth 20000 in
set_option maxHeartbeats 800000 in
theorem openIf_any {base b : Nat} {w : World} {s : Sx} {vD vO : Value} {G : List (List Value × List Nat)} (h : StA base b w s vD vO G) (x : Lz) (wd t : ByteArray) :
    Calls Tryd.prog 29 #[.pointer (some ⟨b, 0, none⟩), lnV x, .string wd, .string t] w (StepPost base b w (if s.op.length = 32 then .bad 5 else .ok ⟨s.done, s.op ++ [.cn x [] wd t x.at_ []]⟩)) := by
  obtain ⟨R, hR⟩ : ∃ R : Rs, R = if s.op.length = 32 then .bad 5 else .ok ⟨s.done, s.op ++ [.cn x [] wd t x.at_ []]⟩ := ⟨_, rfl⟩
  rw [← hR]
  obtain ⟨w1, hw1⟩ : ∃ w1, w1 = w.alloc (.cells #[.string x.text, .int .i64 x.at_, .bool x.cmd] 43) := ⟨_, rfl⟩
  have hs1 : w1.heap.size = w.heap.size + 1 := by rw [hw1]; simp
  obtain ⟨w2, hw2⟩ : ∃ w2, w2 = w1.alloc (.cells #[.string wd, .string t, .int .i64 x.at_, .slice none 0 0] 66) := ⟨_, rfl⟩
  have hs2 : w2.heap.size = w.heap.size + 2 := by rw [hw2]; simp [hs1]
  obtain ⟨w3, hw3⟩ : ∃ w3, w3 = w2.alloc (.cells #[.string wd, .string t, .int .i64 x.at_, .slice none 0 0] 66) := ⟨_, rfl⟩
  have hs3 : w3.heap.size = w.heap.size + 3 := by rw [hw3]; simp [hs2]
  have hz1 : w1.heap[w.heap.size]? = some (.cells #[.string x.text, .int .i64 x.at_, .bool x.cmd] 43 (0, 0)) := by rw [hw1]; exact alloc_last _ _
  have hz2 : w2.heap[w1.heap.size]? = some (.cells #[.string wd, .string t, .int .i64 x.at_, .slice none 0 0] 66 (0, 0)) := by rw [hw2]; exact alloc_last _ _
  have hz3 : w3.heap[w2.heap.size]? = some (.cells #[.string wd, .string t, .int .i64 x.at_, .slice none 0 0] 66 (0, 0)) := by rw [hw3]; exact alloc_last _ _
  have hb3 : Below w.heap.size w w3 := by
    rw [hw3, hw2, hw1]
    exact (((Below.refl _ _).alloc (Nat.le_refl _) _).alloc (by simp) _).alloc (by simp; omega) _
  have hrow : w3.ownsRow base 66 4 (.slice (some ⟨w2.heap.size, 0, none⟩) 1 1) 1 (bkC wd t x.at_ nilS) := by
    refine ⟨rfl, .inr ⟨w2.heap.size, 1, _, rfl, by have := h.sized; omega, hz3, Nat.le_refl _, by decide, rfl, rfl⟩⟩
  have HA : Hid (Calls Tryd.prog 48 #[.pointer (some ⟨b, 0, none⟩), .agg #[.int .i64 2, .string x.text, .int .i64 x.at_, .bool x.cmd, .slice (some ⟨w2.heap.size, 0, none⟩) 1 1, .slice none 0 0, .string ⟨#[]⟩, .slice none 0 0]] w3 (StepPost base b w3 R)) := by
    rw [hR]
    refine begin_any h hb3 ⟨⟨_, _, _, rfl⟩, ⟨_, _, _, rfl⟩, ⟨_, _, _, rfl⟩⟩ _ [w2.heap.size] (by simp) (fun y hy => by simp at hy; subst hy; omega) (fun w' H' hf hH => ?_)
    refine ⟨_, nilS, [], rfl, ?_, .nil, ⟨[], owns_nil _ _ _ _, .nil⟩, rfl⟩
    refine Ex.row_fr (D := fun j => j = b ∨ vO.ownBlock = some j) hrow hf (fun g hg e => ?_)
    have hg2 : g = w2.heap.size := by simpa [Value.ownBlock] using hg.symm
    have : g < w.heap.size := by
      rcases e with rfl | e
      · exact (h.ge g (by simp)).2
      · exact (h.ge g (by simp [mem_ob, e])).2
    omega
  have HB : Hid (Below base w w3) := hb3.mono h.sized
  have HB0 : Hid (Below w.heap.size w w3) := hb3
  have e2 : w2.heap.size = w.heap.size + 1 + 1 := by omega
  rw [e2, hw3, hw2, hw1] at HA
  rw [hw3, hw2, hw1] at HB HB0
  clear h hz1 hb3 hrow hz2 hz3 hw3 hw2 hw1 hs1 hs2 hs3 hR e2
  go_enter Tryd.func29, Tryd.ntmps29
  go_wp2_with fail
  refine HA.out.mono ?_
  intro e w' h
  cases R with
  | bad k =>
    obtain ⟨rfl, h⟩ := h
    have H : Hid _ := h
    clear h
    go_wp2_with fail
    go_ret
    exact ⟨rfl, HB0.out.trans (H.out.mono HB0.out.size)⟩
  | ok s' =>
    obtain ⟨rfl, h⟩ := h
    have H : Hid _ := h
    clear h
    go_wp2_with fail
    go_ret
    exact ⟨rfl, H.out.1, HB.out.trans H.out.2⟩
set_option maxRecDepth 20000 in
set_option maxHeartbeats 800000 in
theorem openFor_any {base b : Nat} {w : World} {s : Sx} {vD vO : Value} {G : List (List Value × List Nat)} (h : StA base b w s vD vO G) (x : Lz) (wd t : ByteArray) (ht : t.size ≤ 1000000) :
    Calls Tryd.prog 30 #[.pointer (some ⟨b, 0, none⟩), lnV x, .string wd, .string t] w (StepPost base b w (match forText t with
    | none => .bad 3
    | some (ns, li) => if s.op.length = 32 then .bad 5 else .ok ⟨s.done, s.op ++ [.fr x ns li []]⟩)) := by
  obtain ⟨w1, hw1⟩ : ∃ w1, w1 = w.alloc (.cells #[.string x.text, .int .i64 x.at_, .bool x.cmd] 43) := ⟨_, rfl⟩
  have hb1 : Below w.heap.size w w1 := by rw [hw1]; exact (Below.refl _ _).alloc (Nat.le_refl _) _
  have hz1 : w1.heap[w.heap.size]? = some (.cells #[.string x.text, .int .i64 x.at_, .bool x.cmd] 43 (0, 0)) := by rw [hw1]; exact alloc_last _ _
  have hs1 : w1.heap.size = w.heap.size + 1 := by rw [hw1]; simp
  have HFT : Hid (Calls Tryd.prog 49 #[.string t] w1 (ForPost t w1)) := for_any t w1 ht
  have HST : Hid (StA base b w s vD vO G) := h
  have HZ : Hid (Below w.heap.size w w1 ∧ w1.heap[w.heap.size]? = some (.cells #[.string x.text, .int .i64 x.at_, .bool x.cmd] 43 (0, 0)) ∧ w1.heap.size = w.heap.size + 1) := ⟨hb1, hz1, hs1⟩
  clear h hb1 hz1 hs1
  cases hft : forText t with
  | none =>
    dsimp only
    have HF0 : Hid (forText t = none) := hft
    clear hft
    go_enter Tryd.func30, Tryd.ntmps30
    go_wp2_with fail
    rw [← hw1]
    clear hw1
    refine HFT.out.mono ?_
    rintro e w2 ⟨v, s', rfl, h2, _⟩
    have h3 : (forText t).isSome = false := by rw [HF0.out]; rfl
    rw [h3]
    have HB : Hid (Below w.heap.size w w2) := HZ.out.1.trans (h2.mono HZ.out.1.size)
    clear h2 h3
    go_wp2_with fail
    go_ret
    exact ⟨rfl, HB.out⟩
  | some p =>
    obtain ⟨ns, li⟩ := p
    dsimp only
    have HF0 : Hid (forText t = some (ns, li)) := hft
    clear hft
    obtain ⟨R, hR⟩ : ∃ R : Rs, R = if s.op.length = 32 then .bad 5 else .ok ⟨s.done, s.op ++ [.fr x ns li []]⟩ := ⟨_, rfl⟩
    have HR : Hid _ := hR
    rw [← hR]
    clear hR
    go_enter Tryd.func30, Tryd.ntmps30
    go_wp2_with fail
    rw [← hw1]
    clear hw1
    refine HFT.out.mono ?_
    rintro e w2 ⟨v, s', rfl, h2, hns⟩
    have h3 : (forText t).isSome = true := by rw [HF0.out]; rfl
    rw [h3]
    obtain ⟨rfl, hrow⟩ := hns ns li HF0.out
    have hB2 : Below w.heap.size w w2 := HZ.out.1.trans (h2.mono HZ.out.1.size)
    have hz2 : w2.heap[w.heap.size]? = some (.cells #[.string x.text, .int .i64 x.at_, .bool x.cmd] 43 (0, 0)) := (h2.block _ (by have := HZ.out.2.2; omega)).trans HZ.out.2.1
    have hsl : IsS v := by obtain ⟨a, c, e⟩ := V.owns_slice hrow; exact ⟨a, _, c, e⟩
    have HA : Hid (Calls Tryd.prog 48 #[.pointer (some ⟨b, 0, none⟩), .agg #[.int .i64 3, .string x.text, .int .i64 x.at_, .bool x.cmd, .slice none 0 0, v, .string s', .slice none 0 0]] w2 (StepPost base b w2 R)) := by
      rw [HR.out]
      refine begin_any HST.out hB2 ⟨⟨_, _, _, rfl⟩, hsl, ⟨_, _, _, rfl⟩⟩ _ [] (by simp) (fun y hy => by simp at hy) (fun w' H' hf hH => ?_)
      refine ⟨v, nilS, rfl, ?_, ⟨[], owns_nil _ _ _ _, .nil⟩, rfl⟩
      have hr' : w'.ownsRow w1.heap.size 9 1 v ns.length (ns.map Value.string) := Ex.row_fr (D := fun j => j = b ∨ vO.ownBlock = some j) hrow hf (fun g hg e => by
        have h5 := (hrow.lt g hg).1
        have h6 := HZ.out.2.2
        have : g < w.heap.size := by
          rcases e with rfl | e
          · exact (HST.out.ge g (by simp)).2
          · exact (HST.out.ge g (by simp [mem_ob, e])).2
        omega)
      refine row_cold (base := w1.heap.size) (e := 9) ?_ ?_ (fun g hg hh => ?_)
      · rw [List.length_map]
        rw [flat_one]; exact hr'
      · intro c hc
        obtain ⟨n, _, rfl⟩ := List.mem_map.1 hc; rfl
      · have h5 := hrow.lt g (mem_ob.1 hg)
        have h6 := HZ.out.2.2
        rcases hH g hh with h7 | h7 | h7
        · omega
        · cases h7
        · omega
    have HB : Hid (Below base w w2) := hB2.mono HST.out.sized
    have HB0 : Hid (Below w.heap.size w w2) := hB2
    have c0 := cell_in hz2 0 rfl
    have c1 := cell_in hz2 1 rfl
    have c2 := cell_in hz2 2 rfl
    obtain ⟨va, vn, vc, rfl⟩ := hsl
    clear h2 h3 hrow hB2 hz2 hns
    go_wp2_with fail
    refine HA.out.mono ?_
    intro e w' h
    cases R with
    | bad k =>
      obtain ⟨rfl, h⟩ := h
      have H : Hid _ := h
      clear h
      go_wp2_with fail
      go_ret
      exact ⟨rfl, HB0.out.trans (H.out.mono HB0.out.size)⟩
    | ok s' =>
      obtain ⟨rfl, h⟩ := h
      have H : Hid _ := h
      clear h
      go_wp2_with fail
      go_ret
      exact ⟨rfl, H.out.1, HB.out.trans H.out.2⟩
end Go.Proofs.YtbciedpjaajhcaaDoor
