/-
  What part does.
-/
import Derived.Test.YtbciedpjaajhcaaDoorBW0
namespace Go.Proofs.YtbciedpjaajhcaaDoor
open Go.RowKit Go.Shelf
open Ex (Fr)

theorem ne_list {x : ByteArray} {l : List UInt8} (h : ¬ x = ⟨l.toArray⟩) : ¬ x.toList = l ∧ (x.toList == l) = false := by
  have h1 : ¬ x.toList = l := fun e => h (by rw [← e, Lib.toList_data])
  exact ⟨h1, by simpa using h1⟩
theorem ne_empty {x : ByteArray} (h : ¬ x = E) : ¬ x.toList = [] ∧ x.toList.isEmpty = false := by
  have h1 := (ne_list (l := []) h).1
  exact ⟨h1, nonempty (fun e => h1 (by rw [Lib.toList_data]; exact e))⟩
abbrev lnV (x : Lz) : Value := .agg #[.string x.text, .int .i64 x.at_, .bool x.cmd]

section
variable (b : Nat) (x : Lz) (wd t : ByteArray) (w : World)
abbrev PartBad (e : Ending) (w' : World) : Prop := e = .returned (.int .i64 3) ∧ Below w.heap.size w w'
set_option maxRecDepth 20000 in
set_option maxHeartbeats 400000 in
theorem part_none (a : Option Addr) (c : Nat) (vD : Value) (hblk : w.heap[b]? = some (.cells #[vD, .slice a 0 c] 50 (0, 0))) :
    Calls Tryd.prog 31 #[.pointer (some ⟨b, 0, none⟩), lnV x, .string wd, .string t] w (PartBad w) := by
  have hbl : b < w.heap.size := (Array.getElem?_eq_some_iff.1 hblk).1
  obtain ⟨w1, hw1⟩ : ∃ w1, w1 = w.alloc (.cells #[.string x.text, .int .i64 x.at_, .bool x.cmd] 43) := ⟨_, rfl⟩
  have HI : Hid (Calls Tryd.prog 18 #[.pointer (some ⟨b, 0, none⟩)] w1 fun e w' => e = .returned (.pointer none) ∧ w1 = w') := inner_none b a c w1 (by rw [hw1]; exact cell_in ((Below.heap_alloc _ _ _ hbl).trans hblk) 1 rfl)
  have HB : Hid (Below w.heap.size w w1) := by rw [hw1]; exact (Below.refl _ _).alloc (Nat.le_refl _) _
  go_enter Tryd.func31, Tryd.ntmps31
  go_wp2_with fail
  rw [← hw1]
  clear hw1
  refine HI.out.mono ?_
  rintro e w' ⟨rfl, rfl⟩
  go_wp2
  go_ret
  exact ⟨rfl, HB.out⟩
set_option maxRecDepth 20000 in
set_option maxHeartbeats 400000 in
theorem part_fr (gO n cO : Nat) (vD : Value) (cs : Array Value) (hn : n ≤ 1000000) (hblk : w.heap[b]? = some (.cells #[vD, .slice (some ⟨gO, 0, none⟩) (n + 1) cO] 50 (0, 0))) (hO : w.heap[gO]? = some (.cells cs 47 (0, 0))) (hk2 : cs[n * 8]? = some (.int .i64 3)) :
    Calls Tryd.prog 31 #[.pointer (some ⟨b, 0, none⟩), lnV x, .string wd, .string t] w (PartBad w) := by
  have hbl : b < w.heap.size := (Array.getElem?_eq_some_iff.1 hblk).1
  have hOl : gO < w.heap.size := (Array.getElem?_eq_some_iff.1 hO).1
  obtain ⟨w1, hw1⟩ : ∃ w1, w1 = w.alloc (.cells #[.string x.text, .int .i64 x.at_, .bool x.cmd] 43) := ⟨_, rfl⟩
  have HI : Hid (Calls Tryd.prog 18 #[.pointer (some ⟨b, 0, none⟩)] w1 fun e w' => e = .returned (.pointer (some ⟨gO, n * 8, none⟩)) ∧ ∃ q, w' = w1.drewN q) := inner_some b gO n cO w1 hn (by rw [hw1]; exact cell_in ((Below.heap_alloc _ _ _ hbl).trans hblk) 1 rfl)
  have HK2 : Hid (∀ q, (w1.drewN q).cell? ⟨gO, n * 8, none⟩ = some (.int .i64 3)) := fun q => by rw [hw1]; exact cell_in ((Below.heap_alloc _ _ _ hOl).trans hO) _ hk2
  have HB : Hid (∀ q, Below w.heap.size w (w1.drewN q)) := fun q => by rw [hw1]; exact below_drewN ((Below.refl _ _).alloc (Nat.le_refl _) _) q
  clear hk2 hO hblk
  go_enter Tryd.func31, Tryd.ntmps31
  go_wp2_with fail
  rw [← hw1]
  clear hw1
  refine HI.out.mono ?_
  rintro e w' ⟨rfl, q, rfl⟩
  have hk2 := HK2.out q
  go_wp2
  go_ret
  exact ⟨rfl, HB.out q⟩
end
section
variable (b gO n cO gB m cB : Nat) (vD : Value) (cs csB : Array Value) (wl : ByteArray) (x : Lz) (wd t : ByteArray) (w : World) (hn : n ≤ 1000000) (hm : m ≤ 1000000)
  (hblk : w.heap[b]? = some (.cells #[vD, .slice (some ⟨gO, 0, none⟩) (n + 1) cO] 50 (0, 0))) (hO : w.heap[gO]? = some (.cells cs 47 (0, 0))) (hk2 : cs[n * 8]? = some (.int .i64 2))
  (hkB : cs[n * 8 + 4]? = some (.slice (some ⟨gB, 0, none⟩) (m + 1) cB)) (hB : w.heap[gB]? = some (.cells csB 66 (0, 0))) (hwl : csB[m * 4]? = some (.string wl))
include hn hm hblk hO hk2 hkB hB hwl
set_option maxRecDepth 20000 in
set_option maxHeartbeats 800000 in
theorem part_else (hel : wl = kElse) :
    Calls Tryd.prog 31 #[.pointer (some ⟨b, 0, none⟩), lnV x, .string wd, .string t] w (PartBad w) := by
  subst hel
  have hbl : b < w.heap.size := (Array.getElem?_eq_some_iff.1 hblk).1
  have hOl : gO < w.heap.size := (Array.getElem?_eq_some_iff.1 hO).1
  have hBl : gB < w.heap.size := (Array.getElem?_eq_some_iff.1 hB).1
  obtain ⟨w1, hw1⟩ : ∃ w1, w1 = w.alloc (.cells #[.string x.text, .int .i64 x.at_, .bool x.cmd] 43) := ⟨_, rfl⟩
  have HI : Hid (Calls Tryd.prog 18 #[.pointer (some ⟨b, 0, none⟩)] w1 fun e w' => e = .returned (.pointer (some ⟨gO, n * 8, none⟩)) ∧ ∃ q, w' = w1.drewN q) := inner_some b gO n cO w1 hn (by rw [hw1]; exact cell_in ((Below.heap_alloc _ _ _ hbl).trans hblk) 1 rfl)
  have HLB : Hid (∀ q, Calls Tryd.prog 50 #[.pointer (some ⟨gO, n * 8, none⟩)] (w1.drewN q) fun e w' => e = .returned (.pointer (some ⟨gB, m * 4, none⟩)) ∧ ∃ q', w' = w1.drewN q') := fun q => (last_branch gO (n * 8) gB m cB (w1.drewN q) hm (by rw [hw1]; exact cell_in ((Below.heap_alloc _ _ _ hOl).trans hO) _ hkB)).mono fun e w' ⟨h1, q', h2⟩ => ⟨h1, q + q', by rw [h2]; exact drewN_add w1 q q'⟩
  have HK2 : Hid (∀ q, (w1.drewN q).cell? ⟨gO, n * 8, none⟩ = some (.int .i64 2) ∧ (w1.drewN q).cell? ⟨gB, m * 4, none⟩ = some (.string kElse)) := fun q => by rw [hw1]; exact ⟨cell_in ((Below.heap_alloc _ _ _ hOl).trans hO) _ hk2, cell_in ((Below.heap_alloc _ _ _ hBl).trans hB) _ hwl⟩
  have HB : Hid (∀ q, Below w.heap.size w (w1.drewN q)) := fun q => by rw [hw1]; exact below_drewN ((Below.refl _ _).alloc (Nat.le_refl _) _) q
  clear hk2 hO hblk hkB hB hwl
  go_enter Tryd.func31, Tryd.ntmps31
  go_wp2_with fail
  rw [← hw1]
  clear hw1
  refine HI.out.mono ?_
  rintro e w' ⟨rfl, q, rfl⟩
  have hk2 := (HK2.out q).1
  go_wp2_with fail
  refine (HLB.out q).mono ?_
  rintro e w' ⟨rfl, q', rfl⟩
  have hk3 := (HK2.out q').2
  go_wp2
  go_ret
  exact ⟨rfl, HB.out q'⟩
set_option maxRecDepth 20000 in
set_option maxHeartbeats 800000 in
theorem part_text (hel : ¬ wl = kElse) (hwd : wd = kElse) (ht : ¬ t = E) :
    Calls Tryd.prog 31 #[.pointer (some ⟨b, 0, none⟩), lnV x, .string wd, .string t] w (PartBad w) := by
  subst hwd
  obtain ⟨s1, s2⟩ := ne_list hel
  obtain ⟨s3, s4⟩ := ne_empty ht
  have hbl : b < w.heap.size := (Array.getElem?_eq_some_iff.1 hblk).1
  have hOl : gO < w.heap.size := (Array.getElem?_eq_some_iff.1 hO).1
  have hBl : gB < w.heap.size := (Array.getElem?_eq_some_iff.1 hB).1
  obtain ⟨w1, hw1⟩ : ∃ w1, w1 = w.alloc (.cells #[.string x.text, .int .i64 x.at_, .bool x.cmd] 43) := ⟨_, rfl⟩
  have HI : Hid (Calls Tryd.prog 18 #[.pointer (some ⟨b, 0, none⟩)] w1 fun e w' => e = .returned (.pointer (some ⟨gO, n * 8, none⟩)) ∧ ∃ q, w' = w1.drewN q) := inner_some b gO n cO w1 hn (by rw [hw1]; exact cell_in ((Below.heap_alloc _ _ _ hbl).trans hblk) 1 rfl)
  have HLB : Hid (∀ q, Calls Tryd.prog 50 #[.pointer (some ⟨gO, n * 8, none⟩)] (w1.drewN q) fun e w' => e = .returned (.pointer (some ⟨gB, m * 4, none⟩)) ∧ ∃ q', w' = w1.drewN q') := fun q => (last_branch gO (n * 8) gB m cB (w1.drewN q) hm (by rw [hw1]; exact cell_in ((Below.heap_alloc _ _ _ hOl).trans hO) _ hkB)).mono fun e w' ⟨h1, q', h2⟩ => ⟨h1, q + q', by rw [h2]; exact drewN_add w1 q q'⟩
  have HK2 : Hid (∀ q, (w1.drewN q).cell? ⟨gO, n * 8, none⟩ = some (.int .i64 2) ∧ (w1.drewN q).cell? ⟨gB, m * 4, none⟩ = some (.string wl)) := fun q => by rw [hw1]; exact ⟨cell_in ((Below.heap_alloc _ _ _ hOl).trans hO) _ hk2, cell_in ((Below.heap_alloc _ _ _ hBl).trans hB) _ hwl⟩
  have HB : Hid (∀ q, Below w.heap.size w (w1.drewN q)) := fun q => by rw [hw1]; exact below_drewN ((Below.refl _ _).alloc (Nat.le_refl _) _) q
  clear hk2 hO hblk hkB hB hwl hel ht
  go_enter Tryd.func31, Tryd.ntmps31
  go_wp2_with fail
  rw [← hw1]
  clear hw1
  refine HI.out.mono ?_
  rintro e w' ⟨rfl, q, rfl⟩
  have hk2 := (HK2.out q).1
  go_wp2_with fail
  refine (HLB.out q).mono ?_
  rintro e w' ⟨rfl, q', rfl⟩
  have hk3 := (HK2.out q').2
  go_wp2
  go_ret
  exact ⟨rfl, HB.out q'⟩
end
/-- The slot holds a row of branches that has got one more. -/
theorem grew_k {base b o n g c : Nat} {cs : Array Value} {T : TypeId} {vS : Value} {xs new : List Value} {w w2 : World} (hown : w2.ownsRow base 66 4 (.slice (some ⟨g, 0, none⟩) (n + 1) c) (n + 1) (xs ++ new)) (hblk : w2.heap[b]? = some (.cells cs T (0, 0))) (hbg : b ≠ g) (hg : vS.ownBlock = some g ∨ w.heap.size ≤ g) (hf : Fr (fun j => j = b ∨ vS.ownBlock = some j) w w2) :
    Grew base b o cs T vS 66 4 n xs new w (w2.setCell ⟨b, o, none⟩ (.slice (some ⟨g, 0, none⟩) (n + 1) c)) :=
  ⟨g, c, heap_set hblk _, row_set hown (fun e => hbg (by simpa [Value.ownBlock] using e.symm)) _, hg, hf.trans (Fr.set b o _ _ (.inl rfl)), hbg⟩
section
variable (base b gO n cO gB m cB : Nat) (vD : Value) (cs csB : Array Value) (wl : ByteArray) (x : Lz) (wd t : ByteArray) (w : World) (xs : List Value) (hb : base ≤ w.heap.size) (hn : n ≤ 1000000) (hm : m ≤ 1000000)
  (hblk : w.heap[b]? = some (.cells #[vD, .slice (some ⟨gO, 0, none⟩) (n + 1) cO] 50 (0, 0))) (hO : w.heap[gO]? = some (.cells cs 47 (0, 0))) (hk2 : cs[n * 8]? = some (.int .i64 2))
  (hkB : cs[n * 8 + 4]? = some (.slice (some ⟨gB, 0, none⟩) (m + 1) cB)) (hB : w.heap[gB]? = some (.cells csB 66 (0, 0))) (hwl : csB[m * 4]? = some (.string wl)) (hS : w.ownsRow base 66 4 (.slice (some ⟨gB, 0, none⟩) (m + 1) cB) (m + 1) xs)
include hb hn hm hblk hO hk2 hkB hB hwl hS
set_option maxRecDepth 20000 in
set_option maxHeartbeats 2000000 in
theorem part_ok (hel : ¬ wl = kElse) (hok : (¬ wd = kElse) ∨ (wd = kElse ∧ t = E)) :
    Calls Tryd.prog 31 #[.pointer (some ⟨b, 0, none⟩), lnV x, .string wd, .string t] w fun e w' => e = .returned (.int .i64 0) ∧ Grew base gO (n * 8 + 4) cs 47 (.slice (some ⟨gB, 0, none⟩) (m + 1) cB) 66 4 (m + 1) xs [.string wd, .string t, .int .i64 x.at_, .slice none 0 0] w w' := by
  obtain ⟨i0, hi, hz0, hz1, hz2⟩ := info_of infoK
  obtain ⟨s1, s2⟩ := ne_list hel
  have hxl : xs.length = (m + 1) * 4 := hS.1
  have hbl : b < w.heap.size := (Array.getElem?_eq_some_iff.1 hblk).1
  have hOl : gO < w.heap.size := (Array.getElem?_eq_some_iff.1 hO).1
  have hBl : gB < w.heap.size := (Array.getElem?_eq_some_iff.1 hB).1
  have HNE : Hid (gB ≠ gO) := fun e => by rw [e, hO] at hB; simp at hB
  obtain ⟨w1, hw1⟩ : ∃ w1, w1 = w.alloc (.cells #[.string x.text, .int .i64 x.at_, .bool x.cmd] 43) := ⟨_, rfl⟩
  have HI : Hid (Calls Tryd.prog 18 #[.pointer (some ⟨b, 0, none⟩)] w1 fun e w' => e = .returned (.pointer (some ⟨gO, n * 8, none⟩)) ∧ ∃ q, w' = w1.drewN q) := inner_some b gO n cO w1 hn (by rw [hw1]; exact cell_in ((Below.heap_alloc _ _ _ hbl).trans hblk) 1 rfl)
  have HLB : Hid (∀ q, Calls Tryd.prog 50 #[.pointer (some ⟨gO, n * 8, none⟩)] (w1.drewN q) fun e w' => e = .returned (.pointer (some ⟨gB, m * 4, none⟩)) ∧ ∃ q', w' = w1.drewN q') := fun q => (last_branch gO (n * 8) gB m cB (w1.drewN q) hm (by rw [hw1]; exact cell_in ((Below.heap_alloc _ _ _ hOl).trans hO) _ hkB)).mono fun e w' ⟨h1, q', h2⟩ => ⟨h1, q + q', by rw [h2]; exact drewN_add w1 q q'⟩
  have HK2 : Hid (∀ q, (w1.drewN q).cell? ⟨gO, n * 8, none⟩ = some (.int .i64 2) ∧ (w1.drewN q).cell? ⟨gB, m * 4, none⟩ = some (.string wl)) := fun q => by rw [hw1]; exact ⟨cell_in ((Below.heap_alloc _ _ _ hOl).trans hO) _ hk2, cell_in ((Below.heap_alloc _ _ _ hBl).trans hB) _ hwl⟩
  have HP : Hid (∀ q, (w1.drewN q).ownsRow base 66 4 (.slice (some ⟨gB, 0, none⟩) (m + 1) cB) (m + 1) xs ∧ (w1.drewN q).heap[gO]? = some (.cells cs 47 (0, 0)) ∧ (w1.drewN q).heap[w.heap.size]? = some (.cells #[.string x.text, .int .i64 x.at_, .bool x.cmd] 43 (0, 0)) ∧ base ≤ (w1.drewN q).heap.size ∧ Fr (fun j => j = gO ∨ (Value.slice (some ⟨gB, 0, none⟩) (m + 1) cB).ownBlock = some j) w (w1.drewN q)) := fun q => by
    rw [hw1]
    exact ⟨owns_below (hS.alloc _) (below_drewN (Below.refl _ _) q), (Below.heap_alloc _ _ _ hOl).trans hO, alloc_last _ _, by show base ≤ (w.heap.push _).size; simp; omega, (Fr.alloc _ _).trans (Fr.drewN _ _)⟩
  have HC : Hid (cs[n * 8 + 4]? = some (.slice (some ⟨gB, 0, none⟩) (m + 1) cB)) := hkB
  clear hk2 hO hblk hkB hB hwl hel hS
  have key : ∀ (W : World), ((∀ j u, ([.string wd, .string t, .int .i64 x.at_, .slice none 0 0] : List Value)[j]? = some u → (W.alloc (.cells #[.string wd, .string t, .int .i64 x.at_, .slice none 0 0] 66)).cell? ((⟨W.heap.size, 0, none⟩ : Addr).add j) = some u)) := fun W j u hj => by
    rw [add_none, Nat.zero_add]
    exact cell_in (cs := #[.string wd, .string t, .int .i64 x.at_, .slice none 0 0]) (T := 66) (alloc_last _ _) j (by simpa using hj)
  have key1 : ∀ u ∈ ([.string wd, .string t, .int .i64 x.at_, .slice none 0 0] : List Value), u.oneCell' = true := by
    intro u hu; simp only [List.mem_cons, List.not_mem_nil, or_false] at hu; rcases hu with rfl | rfl | rfl | rfl <;> rfl
  have HKEY : Hid _ := key
  have HKEY1 : Hid _ := key1
  clear key key1
  rcases hok with hok | ⟨rfl, rfl⟩
  · obtain ⟨s3, s4⟩ := ne_list hok
    clear hok
    go_enter Tryd.func31, Tryd.ntmps31
    go_wp2_with fail
    rw [← hw1]
    clear hw1
    refine HI.out.mono ?_
    rintro e w' ⟨rfl, q, rfl⟩
    have hk2 := (HK2.out q).1
    go_wp2_with fail
    refine (HLB.out q).mono ?_
    rintro e w' ⟨rfl, q', rfl⟩
    have hk3 := (HK2.out q').2
    go_wp2_with fail
    have HP := HP.out q'
    have HP : Hid _ := HP
    obtain ⟨w5, hw5⟩ : ∃ w5, w5 = w1.drewN q' := ⟨_, rfl⟩
    rw [← hw5] at HP ⊢
    clear hw5 hb hk2 hk3 HLB HI HK2
    have hS1 := HP.out.1
    have hblk5 := HP.out.2.1
    have hb5 := HP.out.2.2.2.1
    have e1 : w5.cell? ⟨gO, n * 8 + 4, none⟩ = some (.slice (some ⟨gB, 0, none⟩) (m + 1) cB) := cell_in hblk5 _ HC.out
    have y1 : w5.cell? ⟨w.heap.size, 1, none⟩ = some (.int .i64 x.at_) := cell_in HP.out.2.2.1 1 rfl
    have l1 : gO < w5.heap.size := (Array.getElem?_eq_some_iff.1 hblk5).1
    have HG : Hid (∀ (w2 : World) (o2 : Obj) (g c2 : Nat), (w5.drew.alloc o2).grownBy w2 (Value.slice (some ⟨gB, 0, none⟩) (m + 1) cB).ownBlock → ((Value.slice (some ⟨gB, 0, none⟩) (m + 1) cB).ownBlock = some g ∨ g = (w5.drew.alloc o2).heap.size) → w2.heap[gO]? = some (.cells cs 47 (0, 0)) ∧ gO ≠ g ∧ ((Value.slice (some ⟨gB, 0, none⟩) (m + 1) cB).ownBlock = some g ∨ w.heap.size ≤ g) ∧ Fr (fun j => j = gO ∨ (Value.slice (some ⟨gB, 0, none⟩) (m + 1) cB).ownBlock = some j) w w2) := by
      intro w2 o2 g c2 hgr hg
      have hf : Fr (fun j => (Value.slice (some ⟨gB, 0, none⟩) (m + 1) cB).ownBlock = some j) w5 w2 := ((Fr.drew _).trans (Fr.alloc _ o2)).trans (Fr.grown hgr (fun g hg => hg))
      have hz : (w5.drew.alloc o2).heap.size = w5.heap.size + 1 := by show (w5.heap.push o2).size = _; simp
      have hsz := HP.out.2.2.2.2.size
      refine ⟨(hf.block gO l1 (fun e => HNE.out (by simpa [Value.ownBlock] using e))).trans HP.out.2.1, fun e => ?_, hg.imp id (fun h => by omega), HP.out.2.2.2.2.trans (hf.mono fun j _ h => .inr h)⟩
      rcases hg with hg | hg
      · exact HNE.out (by rw [e]; simpa [Value.ownBlock] using hg)
      · omega
    clear hblk5
    go_region_law (first | (refine step_append_lies _ (by rfl) (.tmp 39) (.tmp 45) 44 (by rfl) base 66 i0 (.agg #[.string ⟨#[]⟩, .string ⟨#[]⟩, .int .i64 0, .slice none 0 0]) 4 64 Tryd.underlying44 hi hz0 hz1 hz2 rfl (by decide) (.slice (some ⟨gB, 0, none⟩) (m + 1) cB) (m + 1) xs (by rfl) (hS1.kept (row := none) ⟨rfl, rfl, rfl, by simp, fun k hk _ => Below.heap_alloc _ _ _ hk⟩ (Classical.em _)) ⟨w5.heap.size, 0, none⟩ 1 1 [.string wd, .string t, .int .i64 x.at_, .slice none 0 0] (by rfl) rfl (HKEY.out _) HKEY1.out (by decide) (by unfold maxLen; omega) (by omega) (by simp; omega) _ rfl ?_; intro g c2 w2 hown hgr hgg hg1; obtain ⟨z1, hbg, HGG, HFR⟩ := HG.out w2 _ g c2 hgr hgg; have x1 : w2.cell? ⟨gO, n * 8 + 4, none⟩ = some (.slice (some ⟨gB, 0, none⟩) (m + 1) cB) := cell_in z1 _ HC.out; have x2 : w2.frozen? ⟨gO, n * 8 + 4, none⟩ = false := (by simp [World.frozen?, z1]); have HGG : Hid _ := HGG; have HFR : Hid _ := HFR; have HZ1 : Hid _ := z1; have HOW : Hid _ := hown; clear hgg hgr z1 hown))
    all_goals
      go_wp2
      go_ret
      exact ⟨rfl, grew_k HOW.out HZ1.out hbg HGG.out HFR.out⟩
  · go_enter Tryd.func31, Tryd.ntmps31
    go_wp2_with fail
    rw [← hw1]
    clear hw1
    refine HI.out.mono ?_
    rintro e w' ⟨rfl, q, rfl⟩
    have hk2 := (HK2.out q).1
    go_wp2_with fail
    refine (HLB.out q).mono ?_
    rintro e w' ⟨rfl, q', rfl⟩
    have hk3 := (HK2.out q').2
    go_wp2_with fail
    have HP := HP.out q'
    have HP : Hid _ := HP
    obtain ⟨w5, hw5⟩ : ∃ w5, w5 = w1.drewN q' := ⟨_, rfl⟩
    rw [← hw5] at HP ⊢
    clear hw5 hb hk2 hk3 HLB HI HK2
    have hS1 := HP.out.1
    have hblk5 := HP.out.2.1
    have hb5 := HP.out.2.2.2.1
    have e1 : w5.cell? ⟨gO, n * 8 + 4, none⟩ = some (.slice (some ⟨gB, 0, none⟩) (m + 1) cB) := cell_in hblk5 _ HC.out
    have y1 : w5.cell? ⟨w.heap.size, 1, none⟩ = some (.int .i64 x.at_) := cell_in HP.out.2.2.1 1 rfl
    have l1 : gO < w5.heap.size := (Array.getElem?_eq_some_iff.1 hblk5).1
    have HG : Hid (∀ (w2 : World) (o2 : Obj) (g c2 : Nat), (w5.drew.alloc o2).grownBy w2 (Value.slice (some ⟨gB, 0, none⟩) (m + 1) cB).ownBlock → ((Value.slice (some ⟨gB, 0, none⟩) (m + 1) cB).ownBlock = some g ∨ g = (w5.drew.alloc o2).heap.size) → w2.heap[gO]? = some (.cells cs 47 (0, 0)) ∧ gO ≠ g ∧ ((Value.slice (some ⟨gB, 0, none⟩) (m + 1) cB).ownBlock = some g ∨ w.heap.size ≤ g) ∧ Fr (fun j => j = gO ∨ (Value.slice (some ⟨gB, 0, none⟩) (m + 1) cB).ownBlock = some j) w w2) := by
      intro w2 o2 g c2 hgr hg
      have hf : Fr (fun j => (Value.slice (some ⟨gB, 0, none⟩) (m + 1) cB).ownBlock = some j) w5 w2 := ((Fr.drew _).trans (Fr.alloc _ o2)).trans (Fr.grown hgr (fun g hg => hg))
      have hz : (w5.drew.alloc o2).heap.size = w5.heap.size + 1 := by show (w5.heap.push o2).size = _; simp
      have hsz := HP.out.2.2.2.2.size
      refine ⟨(hf.block gO l1 (fun e => HNE.out (by simpa [Value.ownBlock] using e))).trans HP.out.2.1, fun e => ?_, hg.imp id (fun h => by omega), HP.out.2.2.2.2.trans (hf.mono fun j _ h => .inr h)⟩
      rcases hg with hg | hg
      · exact HNE.out (by rw [e]; simpa [Value.ownBlock] using hg)
      · omega
    clear hblk5
    go_region_law (first | (refine step_append_lies _ (by rfl) (.tmp 39) (.tmp 45) 44 (by rfl) base 66 i0 (.agg #[.string ⟨#[]⟩, .string ⟨#[]⟩, .int .i64 0, .slice none 0 0]) 4 64 Tryd.underlying44 hi hz0 hz1 hz2 rfl (by decide) (.slice (some ⟨gB, 0, none⟩) (m + 1) cB) (m + 1) xs (by rfl) (hS1.kept (row := none) ⟨rfl, rfl, rfl, by simp, fun k hk _ => Below.heap_alloc _ _ _ hk⟩ (Classical.em _)) ⟨w5.heap.size, 0, none⟩ 1 1 [.string kElse, .string E, .int .i64 x.at_, .slice none 0 0] (by rfl) rfl (HKEY.out _) HKEY1.out (by decide) (by unfold maxLen; omega) (by omega) (by simp; omega) _ rfl ?_; intro g c2 w2 hown hgr hgg hg1; obtain ⟨z1, hbg, HGG, HFR⟩ := HG.out w2 _ g c2 hgr hgg; have x1 : w2.cell? ⟨gO, n * 8 + 4, none⟩ = some (.slice (some ⟨gB, 0, none⟩) (m + 1) cB) := cell_in z1 _ HC.out; have x2 : w2.frozen? ⟨gO, n * 8 + 4, none⟩ = false := (by simp [World.frozen?, z1]); have HGG : Hid _ := HGG; have HFR : Hid _ := HFR; have HZ1 : Hid _ := z1; have HOW : Hid _ := hown; clear hgg hgr z1 hown))
    all_goals
      go_wp2
      go_ret
      exact ⟨rfl, grew_k HOW.out HZ1.out hbg HGG.out HFR.out⟩
end
end Go.Proofs.YtbciedpjaajhcaaDoor
