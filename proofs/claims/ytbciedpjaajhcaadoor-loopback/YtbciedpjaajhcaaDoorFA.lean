import Derived.Test.YtbciedpjaajhcaaDoorFBM
import Derived.Test.YtbciedpjaajhcaaDoorBW0
import Derived.Test.YtbciedpjaajhcaaDoorBL
import Derived.Test.YtbciedpjaajhcaaDoorBBR
import Derived.Deep.RegionLaw
import Derived.Deep.AppendLies
import Derived.Test.YtbciedpjaajhcaaDoorBP
/-
  A line added to the lines of blocks.
-/
namespace Go.Proofs.YtbciedpjaajhcaaDoor
open Go.RowKit Go.Shelf
open Ex (Fr)

/-- The lines that are gathered: the box g and its row. -/
structure FL (base g : Nat) (v : Value) (ls : List Lz) (w : World) : Prop where
  blk : w.heap[g]? = some (.cells #[v] 57 (0, 0))
  row : w.ownsRow base 43 3 v ls.length (lzsV ls)
  low : base ≤ w.heap.size
/-- What a call that gathers does. -/
def FLPost (base g : Nat) (v : Value) (ls : List Lz) (w w' : World) : Prop := ∃ v', FL base g v' ls w' ∧ Fr (fun j => j = g ∨ v.ownBlock = some j) w w' ∧ (v'.ownBlock = v.ownBlock ∨ ∃ x, v'.ownBlock = some x ∧ w.heap.size ≤ x)

set_option maxRecDepth 20000 in
set_option maxHeartbeats 400000 in
theorem fadd (base g : Nat) (v : Value) (ls : List Lz) (t : ByteArray) (a : Int) (w : World) (h : FL base g v ls w) (hn : ls.length ≤ 4000000) :
    Calls Tryd.prog 53 #[.pointer (some ⟨g, 0, none⟩), .string t, .int .i64 a] w fun e w' => e = .returned (.tuple #[]) ∧ FLPost base g v (ls ++ [⟨t, a, false⟩]) w w' := by
  obtain ⟨i0, hi, hz0, hz1, hz2⟩ := info_of infoL
  obtain ⟨hblk, hS, hb⟩ := h
  obtain ⟨ao, co, rfl⟩ := V.owns_slice hS
  obtain ⟨n, hnl⟩ : ∃ n, n = ls.length := ⟨_, rfl⟩
  rw [← hnl] at hS hblk hn ⊢
  have c1 : w.cell? ⟨g, 0, none⟩ = some (.slice ao n co) := cell_in hblk 0 rfl
  have HP : Hid (w.heap[g]? = some (.cells #[.slice ao n co] 57 (0, 0)) ∧ w.ownsRow base 43 3 (.slice ao n co) n (lzsV ls) ∧ base ≤ w.heap.size) := ⟨hblk, hS, hb⟩
  have HNL : Hid (n = ls.length) := hnl
  clear hblk hb hnl
  go_enter Tryd.func53, Tryd.ntmps53
  have HNE : Hid ((Value.slice ao n co).ownBlock ≠ some g) := Ex.row_ne' hS HP.out.1 (by decide)
  have HN3 : Hid (∀ (jj : Nat) (u : Value), [Value.string t, .int .i64 a, .bool false][jj]? = some u → (w.alloc (.cells #[.string t, .int .i64 a, .bool false] 43)).cell? ((⟨w.heap.size, 0, none⟩ : Addr).add jj) = some u) := World.news_of_block (alloc_last _ _)
  have HN1 : Hid (∀ u ∈ [Value.string t, .int .i64 a, .bool false], u.oneCell' = true) := lz_one ⟨t, a, false⟩
  go_wp2_with (at_builtin; refine wpList_append_own_at _ rfl _ _ 31 rfl base 43 i0 (.agg #[.string ⟨#[]⟩, .int .i64 0, .bool false]) 3 32 Tryd.underlying31 hi hz0 hz1 hz2 rfl (by decide) _ _ _ rfl (hS.alloc _) ⟨w.heap.size, 0, none⟩ 1 1 [.string t, .int .i64 a, .bool false] rfl rfl HN3.out HN1.out ?c3 ?c4 ?c5 ?_)
  case c3 => unfold maxLen; omega
  case c4 => omega
  case c5 => first | exact Nat.le_trans HP.out.2.2 (by simp) | (have := HP.out.2.2; simp; omega)
  intro v' w6 hown6 hgr6 _ hat
  have hgl : g < w.heap.size := (Array.getElem?_eq_some_iff.1 HP.out.1).1
  have hblk6 : w6.heap[g]? = some (.cells #[.slice ao n co] 57 (0, 0)) :=
    ((hgr6.block g (by simp; omega) (fun e => HNE.out e.symm)).trans (Below.heap_alloc _ _ _ hgl)).trans HP.out.1
  obtain ⟨a6, c6, rfl⟩ := V.owns_slice hown6
  have H6 : Hid (w6.ownsRow base 43 3 (.slice a6 (n + 1) c6) (n + 1) (lzsV ls ++ [.string t, .int .i64 a, .bool false]) ∧ w6.heap[g]? = some (.cells #[.slice ao n co] 57 (0, 0)) ∧ Fr (fun j => j = g ∨ (Value.slice ao n co).ownBlock = some j) w w6 ∧ w.heap.size + 1 ≤ w6.heap.size ∧ ((Value.slice a6 (n + 1) c6).ownBlock = (Value.slice ao n co).ownBlock ∨ ∃ x, (Value.slice a6 (n + 1) c6).ownBlock = some x ∧ w.heap.size ≤ x)) :=
    ⟨hown6, hblk6, (Fr.alloc _ _).trans (Fr.grown hgr6 (fun j hj => .inr hj)), by have := hgr6.size; simpa using this, hat.imp_right (fun h => ⟨_, h, by simp⟩)⟩
  have e6 : w6.cell? ⟨g, 0, none⟩ = some (.slice ao n co) := cell_in hblk6 0 rfl
  have f6 : w6.frozen? ⟨g, 0, none⟩ = false := by simp [World.frozen?, hblk6]
  clear hown6 hgr6 hat hblk6 hgl hS
  go_wp2
  go_end0
  refine ⟨rfl, .slice a6 (n + 1) c6, ⟨heap_set H6.out.2.1 _, ?_, ?_⟩, H6.out.2.2.1.trans (Fr.set g 0 _ _ (.inl rfl)), H6.out.2.2.2.2⟩
  · have h1 := H6.out.1
    have h2 : (Value.slice a6 (n + 1) c6).ownBlock ≠ some g := Ex.row_ne' h1 H6.out.2.1 (by decide)
    rw [List.length_append, List.length_singleton, ← HNL.out, lzsV_snoc]
    exact row_set h1 h2 _
  · have := HP.out.2.2
    have := H6.out.2.2.2.1
    simp; omega
end Go.Proofs.YtbciedpjaajhcaaDoor

/-
  The lines of a plain block, and of a loop's blocks.
-/
namespace Go.Proofs.YtbciedpjaajhcaaDoor
open Go.RowKit Go.Shelf
open Ex (Fr)

theorem FLPost.trans {base g : Nat} {v v1 : Value} {ls1 : List Lz} {w w1 w2 : World} (h1 : Fr (fun j => j = g ∨ v.ownBlock = some j) w w1) (h2 : v1.ownBlock = v.ownBlock ∨ ∃ x, v1.ownBlock = some x ∧ w.heap.size ≤ x) (k : FLPost base g v1 ls1 w1 w2) : FLPost base g v ls1 w w2 := by
  obtain ⟨v2, k1, k2, k3⟩ := k
  refine ⟨v2, k1, h1.fresh (k2.mono fun j _ hj => ?_), ?_⟩
  · rcases hj with hj | hj
    · exact .inl (.inl hj)
    · rcases h2 with h2 | ⟨x, h2, h3⟩
      · exact .inl (.inr (h2 ▸ hj))
      · rw [h2] at hj; cases hj; exact .inr h3
  · rcases k3 with k3 | ⟨x, k3, k4⟩
    · rcases h2 with h2 | ⟨x, h2, h3⟩
      · exact .inl (k3.trans h2)
      · exact .inr ⟨x, k3.trans h2, h3⟩
    · exact .inr ⟨x, k3, Nat.le_trans h1.size k4⟩
/-- What is not hot stays while lines are gathered. -/
theorem keeps_fr {B g : Nat} {base : Nat} {v : Value} {ls : List Lz} {w w' : World} (hg : B ≤ g) (hb : B ≤ base) (hf : FL base g v ls w) (h : Fr (fun j => j = g ∨ v.ownBlock = some j) w w') : Keeps (fun j => B ≤ j) (fun j => B ≤ j) w w' :=
  ⟨h.size, fun j hj hn => h.block j hj (fun e => hn (e.elim (fun e => e ▸ hg) (fun e => Nat.le_trans hb (hf.row.lt j e).1))), fun _ _ h => h⟩

abbrev nd8 (k : Int) (l : Lz) (vB vN : Value) (li : ByteArray) (vK : Value) : Value := .agg #[.int .i64 k, .string l.text, .int .i64 l.at_, .bool l.cmd, vB, vN, .string li, vK]
abbrev pG (g : Nat) : Value := .pointer (some ⟨g, 0, none⟩)
mutual
/-- No branch has a text that is too long. -/
def smT : Nd → Prop
  | .pl _ => True
  | .cn _ bs => smBs bs
  | .fr _ _ _ ks => smNs ks
def smNs : List Nd → Prop
  | [] => True
  | n :: ns => smT n ∧ smNs ns
def smBs : List Bk → Prop
  | [] => True
  | b :: bs => smB b ∧ smBs bs
def smB : Bk → Prop
  | .mk w t _ ks => w.size ≤ 4000 ∧ t.size ≤ 4000 ∧ smNs ks
end
def BlksC (B r : Nat) : Prop := ∀ (base g : Nat) (v vN : Value) (ts : List Nd) (ls : List Lz) (w : World), B ≤ g → B ≤ base → FL base g v ls w → NdsAt (fun j => B ≤ j) w r vN ts → ls.length + (flatNs ts).length ≤ 4000000 → smNs ts →
  Calls Tryd.prog 54 #[pG g, vN, .int .i64 (r : Int)] w fun e w' => e = .returned (.bool true) ∧ FLPost base g v (ls ++ flatNs ts) w w'

set_option maxRecDepth 20000 in
set_option maxHeartbeats 400000 in
theorem fplain (base g : Nat) (v : Value) (ls : List Lz) (l : Lz) (r : Nat) (w : World) (h : FL base g v ls w) (hn : ls.length ≤ 4000000) :
    Calls Tryd.prog 19 #[pG g, nd8 1 l nilS nilS E nilS, .int .i64 (r : Int)] w fun e w' => e = .returned (.bool true) ∧ FLPost base g v (ls ++ [l]) w w' := by
  obtain ⟨t, a, c⟩ := l
  obtain ⟨i0, hi, hz0, hz1, hz2⟩ := info_of infoL
  obtain ⟨hblk, hS, hb⟩ := h
  obtain ⟨ao, co, rfl⟩ := V.owns_slice hS
  obtain ⟨n, hnl⟩ : ∃ n, n = ls.length := ⟨_, rfl⟩
  rw [← hnl] at hS hblk hn ⊢
  have c1 : w.cell? ⟨g, 0, none⟩ = some (.slice ao n co) := cell_in hblk 0 rfl
  have HNE : Hid ((Value.slice ao n co).ownBlock ≠ some g) := Ex.row_ne' hS hblk (by decide)
  have HNL : Hid (n = ls.length) := hnl
  have hgl : g < w.heap.size := (Array.getElem?_eq_some_iff.1 hblk).1
  obtain ⟨w5, hw5⟩ : ∃ w5, w5 = w.alloc (.cells #[.int .i64 1, .string t, .int .i64 a, .bool c, .slice none 0 0, .slice none 0 0, .string ⟨#[]⟩, .slice none 0 0] 47) := ⟨_, rfl⟩
  obtain ⟨xb, hxb⟩ : ∃ x, x = w.heap.size := ⟨_, rfl⟩
  have HP : Hid (w5.heap[g]? = some (.cells #[.slice ao n co] 57 (0, 0)) ∧ w5.ownsRow base 43 3 (.slice ao n co) n (lzsV ls) ∧ base ≤ w5.heap.size ∧ Fr (fun j => j = g ∨ (Value.slice ao n co).ownBlock = some j) w w5 ∧ w5.heap.size = w.heap.size + 1) := by
    rw [hw5]
    exact ⟨(Below.heap_alloc _ _ _ hgl).trans hblk, hS.alloc _, by simp; omega, Fr.alloc _ _, by simp⟩
  have hbox : w5.heap[xb]? = some (.cells #[.int .i64 1, .string t, .int .i64 a, .bool c, .slice none 0 0, .slice none 0 0, .string ⟨#[]⟩, .slice none 0 0] 47 (0, 0)) := by rw [hw5, hxb]; exact alloc_last _ _
  have e1 : w5.cell? ⟨g, 0, none⟩ = some (.slice ao n co) := cell_in HP.out.1 0 rfl
  have y0 := cell_in hbox 0 rfl
  have y1 := cell_in hbox 1 rfl
  have y2 := cell_in hbox 2 rfl
  have y3 := cell_in hbox 3 rfl
  have hS1 := HP.out.2.1
  have hb5 := HP.out.2.2.1
  have l1 : g < w5.heap.size := by have := HP.out.2.2.2.2; omega
  have HG : Hid (∀ (w2 : World) (o2 : Obj) (x c2 : Nat), (w5.drew.alloc o2).grownBy w2 (Value.slice ao n co).ownBlock → w2.ownsRow base 43 3 (.slice (some ⟨x, 0, none⟩) (n + 1) c2) (n + 1) (lzsV ls ++ [.string t, .int .i64 a, .bool c]) → ((Value.slice ao n co).ownBlock = some x ∨ x = w5.heap.size + 1) → w2.heap[g]? = some (.cells #[.slice ao n co] 57 (0, 0)) ∧ FLPost base g (.slice ao n co) (ls ++ [⟨t, a, c⟩]) w (w2.setCell ⟨g, 0, none⟩ (.slice (some ⟨x, 0, none⟩) (n + 1) c2))) := by
    intro w2 o2 x c2 hgr hown hx
    have hf : Fr (fun j => (Value.slice ao n co).ownBlock = some j) w5 w2 := ((Fr.drew _).trans (Fr.alloc _ o2)).trans (Fr.grown hgr (fun g hg => hg))
    have hbk := (hf.block g l1 HNE.out).trans HP.out.1
    have hsz := hf.size
    refine ⟨hbk, _, ⟨heap_set hbk _, ?_, ?_⟩, (HP.out.2.2.2.1.trans (hf.mono fun j _ h => .inr h)).trans (Fr.set g 0 _ _ (.inl rfl)), hx.imp (fun h => Eq.symm h) (fun h => ⟨x, rfl, ?_⟩)⟩
    · rw [List.length_append, List.length_singleton, ← HNL.out, lzsV_snoc]
      exact row_set hown (Ex.row_ne' hown hbk (by decide)) _
    · show base ≤ (w2.setCell _ _).heap.size
      have := HP.out.2.2.1
      simp; omega
    · have := HP.out.2.2.2.2; omega
  clear hblk hb hnl c1 hbox hgl hS
  go_enter Tryd.func19, Tryd.ntmps19
  go_wp2_with fail
  rw [← hw5, ← hxb]
  clear hw5 hxb
  go_region_law (first | (refine step_append_lies _ (by rfl) (.tmp 15) (.tmp 18) 31 (by rfl) base 43 i0 (.agg #[.string ⟨#[]⟩, .int .i64 0, .bool false]) 3 32 Tryd.underlying31 hi hz0 hz1 hz2 rfl (by decide) (.slice ao n co) n (lzsV ls) (by rfl) (hS1.kept (row := none) ⟨rfl, rfl, rfl, by simp, fun k hk _ => Below.heap_alloc _ _ _ hk⟩ (Classical.em _)) ⟨w5.heap.size, 0, none⟩ 1 1 [.string t, .int .i64 a, .bool c] (by rfl) rfl (World.news_of_block (alloc_last _ _)) (lz_one ⟨t, a, c⟩) (by decide) (by unfold maxLen; omega) (by omega) (by simp; omega) _ rfl ?_; intro x c2 w2 hown hgr hgg hg1; obtain ⟨z1, HGG⟩ := HG.out w2 _ x c2 hgr hown (hgg.imp_right (fun h => h.trans (by simp))); have x1 : w2.cell? ⟨g, 0, none⟩ = some (.slice ao n co) := cell_in z1 0 rfl; have x2 : w2.frozen? ⟨g, 0, none⟩ = false := (by simp [World.frozen?, z1]); have HGG : Hid _ := HGG; clear hgg hgr z1 hown))
  all_goals
    go_wp2
    go_ret
    refine ⟨rfl, ?_⟩
    have ga := HGG.out
    exact ga
end Go.Proofs.YtbciedpjaajhcaaDoor

/-
  How many the lines of blocks are, and how long.
-/
namespace Go.Proofs.YtbciedpjaajhcaaDoor
open Go.RowKit Go.Shelf

mutual
theorem loadFlatT : ∀ t : Nd, (flatT t).length ≤ 2 * t.load
  | .pl l => by unfold flatT Nd.load; simp
  | .cn l bs => by
    have := flatBs_load bs
    unfold flatT Nd.load
    rw [List.length_append, List.length_singleton]; omega
  | .fr l ns li ks => by
    have := flatNs_load ks
    unfold flatT Nd.load
    rw [List.length_cons, List.length_append, List.length_singleton]; omega
theorem flatNs_load : ∀ ts : List Nd, (flatNs ts).length ≤ 2 * loadN ts
  | [] => by unfold flatNs loadN; simp
  | t :: ts => by
    have := loadFlatT t
    have := flatNs_load ts
    unfold flatNs loadN
    rw [List.length_append]; omega
theorem flatBs_load : ∀ bs : List Bk, (flatBs bs).length ≤ 2 * loadB bs
  | [] => by unfold flatBs loadB; simp
  | b :: bs => by
    have := flatB_load b
    have := flatBs_load bs
    unfold flatBs loadB
    rw [List.length_append]; omega
theorem flatB_load : ∀ b : Bk, (flatB b).length ≤ 2 * b.load
  | .mk w t a ks => by
    have := flatNs_load ks
    unfold flatB Bk.load
    rw [List.length_cons]; omega
end
theorem sizeDot (w t : ByteArray) : w.size ≤ (dotT w t).size ∧ t.size ≤ (dotT w t).size := by
  have hb : ∀ x : ByteArray, (bl x).length = x.size := fun x => by simp [bl]
  have ha : ∀ l : List UInt8, (ba l).size = l.length := fun l => by simp [ba, ByteArray.size]
  unfold dotT
  split
  · rename_i h
    subst h
    rw [ha, List.length_cons, hb]
    exact ⟨by omega, Nat.zero_le _⟩
  · rw [ha, List.length_cons, List.length_append, List.length_cons, hb, hb]
    omega
/-- Are the lines of blocks short, no branch has a long text. -/
def shortL (ls : List Lz) : Prop := ∀ x ∈ ls, x.text.size ≤ 4000
theorem shortL_app {a b : List Lz} : shortL (a ++ b) ↔ shortL a ∧ shortL b := by
  unfold shortL
  constructor
  · intro h; exact ⟨fun x hx => h x (by simp [hx]), fun x hx => h x (by simp [hx])⟩
  · rintro ⟨h1, h2⟩ x hx
    rcases List.mem_append.1 hx with h | h
    · exact h1 x h
    · exact h2 x h
theorem shortL_cons {x : Lz} {b : List Lz} : shortL (x :: b) ↔ x.text.size ≤ 4000 ∧ shortL b := by
  unfold shortL; simp
mutual
theorem smFlatT : ∀ t : Nd, shortL (flatT t) → smT t
  | .pl l, _ => by unfold smT; trivial
  | .cn l bs, h => by
    unfold flatT at h
    unfold smT
    exact sm_flatBs bs (shortL_app.1 h).1
  | .fr l ns li ks, h => by
    unfold flatT at h
    unfold smT
    exact sm_flatNs ks (shortL_app.1 (shortL_cons.1 h).2).1
theorem sm_flatNs : ∀ ts : List Nd, shortL (flatNs ts) → smNs ts
  | [], _ => by unfold smNs; trivial
  | t :: ts, h => by
    unfold flatNs at h
    unfold smNs
    exact ⟨smFlatT t (shortL_app.1 h).1, sm_flatNs ts (shortL_app.1 h).2⟩
theorem sm_flatBs : ∀ bs : List Bk, shortL (flatBs bs) → smBs bs
  | [], _ => by unfold smBs; trivial
  | b :: bs, h => by
    unfold flatBs at h
    unfold smBs
    exact ⟨sm_flatB b (shortL_app.1 h).1, sm_flatBs bs (shortL_app.1 h).2⟩
theorem sm_flatB : ∀ b : Bk, shortL (flatB b) → smB b
  | .mk w t a ks, h => by
    unfold flatB at h
    unfold smB
    have h1 := shortL_cons.1 h
    have h2 := sizeDot w t
    exact ⟨Nat.le_trans h2.1 h1.1, Nat.le_trans h2.2 h1.1, sm_flatNs ks h1.2⟩
end
theorem ltrim_le : ∀ l : List UInt8, (ltrim l).length ≤ l.length
  | [] => Nat.le_refl _
  | c :: l => by
    cases h : isB c with
    | true => rw [ltrim_hit l h]; have := ltrim_le l; simp only [List.length_cons]; omega
    | false => rw [ltrim_miss l h]; exact Nat.le_refl _
theorem dirL_le (c : Bool) (s : List UInt8) : (dirL c s).1.length ≤ s.length ∧ (dirL c s).2.length ≤ s.length := by
  have hB : ∀ s, (dirB s).1.length ≤ s.length ∧ (dirB s).2.length ≤ s.length := fun s => by
    unfold dirB
    split
    · exact ⟨Nat.zero_le _, Nat.zero_le _⟩
    · have h := List.takeWhile_append_dropWhile (p := small) (l := s)
      have h2 := congrArg List.length h
      rw [List.length_append] at h2
      have h3 := ltrim_le (s.dropWhile small)
      show (s.takeWhile small).length ≤ s.length ∧ (ltrim (s.dropWhile small)).length ≤ s.length
      omega
  cases s with
  | nil => exact ⟨Nat.le_refl _, Nat.le_refl _⟩
  | cons x t =>
    rw [dirL]
    split
    · exact ⟨Nat.zero_le _, Nat.zero_le _⟩
    · have h1 := hB (ltrim t)
      have h2 := ltrim_le t
      simp only [List.length_cons]
      omega
theorem dir_size (x : Lz) : (dirW x).size ≤ x.text.size ∧ (dirX x).size ≤ x.text.size := by
  have hb : ∀ x : ByteArray, (bl x).length = x.size := fun x => by simp [bl]
  have ha : ∀ l : List UInt8, (ba l).size = l.length := fun l => by simp [ba, ByteArray.size]
  unfold dirW dirX
  rw [ha, ha, ← hb]
  exact dirL_le _ _
end Go.Proofs.YtbciedpjaajhcaaDoor

/-
  The lines of a loop.
-/
namespace Go.Proofs.YtbciedpjaajhcaaDoor
open Go.RowKit Go.Shelf
open Ex (Fr)

theorem dot_endfor : dotT kEndfor E = ⟨#[46, 101, 110, 100, 102, 111, 114]⟩ := by unfold dotT; rw [if_pos rfl]; rfl
theorem dot_endif : dotT kEndif E = ⟨#[46, 101, 110, 100, 105, 102]⟩ := by unfold dotT; rw [if_pos rfl]; rfl

set_option maxRecDepth 20000 in
set_option maxHeartbeats 400000 in
theorem floop (B r : Nat) (ih : BlksC B r) (base g : Nat) (v : Value) (ls : List Lz) (l : Lz) (vN : Value) (li : ByteArray) (vK : Value) (ks : List Nd) (w : World) (hBg : B ≤ g) (hBb : B ≤ base) (hBw : B ≤ w.heap.size) (h : FL base g v ls w) (hN : IsS vN) (hk : NdsAt (fun j => B ≤ j) w r vK ks) (hn : ls.length + (flatNs ks).length + 2 ≤ 4000000) (hsm : smNs ks) :
    Calls Tryd.prog 36 #[pG g, nd8 3 l nilS vN li vK, .int .i64 (r : Int)] w fun e w' => e = .returned (.bool true) ∧ FLPost base g v (ls ++ (l :: (flatNs ks ++ [⟨dotT kEndfor E, l.at_, false⟩]))) w w' := by
  obtain ⟨t, a, c⟩ := l
  obtain ⟨i0, hi, hz0, hz1, hz2⟩ := info_of infoL
  have h0 := h
  obtain ⟨hblk, hS, hb⟩ := h
  obtain ⟨aN, nN, cN, rfl⟩ := hN
  obtain ⟨aK, nK, cK, rfl⟩ : IsS vK := by
    obtain ⟨css, h, _⟩ := hk; obtain ⟨a, c, e⟩ := row_slice h; exact ⟨a, _, c, e⟩
  obtain ⟨ao, co, rfl⟩ := V.owns_slice hS
  obtain ⟨n, hnl⟩ : ∃ n, n = ls.length := ⟨_, rfl⟩
  rw [← hnl] at hS hblk h0 ⊢
  have HFL : Hid (FL base g (.slice ao n co) ls w) := h0
  have HNE : Hid ((Value.slice ao n co).ownBlock ≠ some g) := Ex.row_ne' hS hblk (by decide)
  have HNL : Hid (n = ls.length ∧ n + (flatNs ks).length + 2 ≤ 4000000) := ⟨hnl, by rw [hnl]; exact hn⟩
  have hn4 : n ≤ 4000000 := by omega
  have hgl : g < w.heap.size := (Array.getElem?_eq_some_iff.1 hblk).1
  obtain ⟨cs, hcs⟩ : ∃ cs : Array Value, cs = #[.int .i64 3, .string t, .int .i64 a, .bool c, .slice none 0 0, .slice aN nN cN, .string li, .slice aK nK cK] := ⟨_, rfl⟩
  obtain ⟨w5, hw5⟩ : ∃ w5, w5 = w.alloc (.cells #[.int .i64 3, .string t, .int .i64 a, .bool c, .slice none 0 0, .slice aN nN cN, .string li, .slice aK nK cK] 47) := ⟨_, rfl⟩
  obtain ⟨xb, hxb⟩ : ∃ x, x = w.heap.size := ⟨_, rfl⟩
  have HP : Hid (w5.heap[g]? = some (.cells #[.slice ao n co] 57 (0, 0)) ∧ w5.ownsRow base 43 3 (.slice ao n co) n (lzsV ls) ∧ base ≤ w5.heap.size ∧ Fr (fun j => j = g ∨ (Value.slice ao n co).ownBlock = some j) w w5 ∧ w5.heap.size = w.heap.size + 1) := by
    rw [hw5]
    exact ⟨(Below.heap_alloc _ _ _ hgl).trans hblk, hS.alloc _, by simp; omega, Fr.alloc _ _, by simp⟩
  have hbox0 : w5.heap[xb]? = some (.cells #[.int .i64 3, .string t, .int .i64 a, .bool c, .slice none 0 0, .slice aN nN cN, .string li, .slice aK nK cK] 47 (0, 0)) := by rw [hw5, hxb]; exact alloc_last _ _
  have HBOX : Hid (w5.heap[xb]? = some (.cells cs 47 (0, 0)) ∧ cs[7]? = some (.slice aK nK cK) ∧ cs[2]? = some (.int .i64 a) ∧ xb = w.heap.size ∧ ¬ xb = g) := by
    refine ⟨by rw [hcs]; exact hbox0, by rw [hcs]; rfl, by rw [hcs]; rfl, hxb, by omega⟩
  have e1 : w5.cell? ⟨g, 0, none⟩ = some (.slice ao n co) := cell_in HP.out.1 0 rfl
  have y1 := cell_in hbox0 1 rfl
  have y2 := cell_in hbox0 2 rfl
  have y3 := cell_in hbox0 3 rfl
  have hS1 := HP.out.2.1
  have hb5 := HP.out.2.2.1
  have l1 : g < w5.heap.size := by have := HP.out.2.2.2.2; omega
  have HG : Hid (∀ (w2 : World) (o2 : Obj) (x c2 : Nat), (w5.drew.alloc o2).grownBy w2 (Value.slice ao n co).ownBlock → w2.ownsRow base 43 3 (.slice (some ⟨x, 0, none⟩) (n + 1) c2) (n + 1) (lzsV ls ++ [.string t, .int .i64 a, .bool c]) → ((Value.slice ao n co).ownBlock = some x ∨ x = w5.heap.size + 1) → w2.heap[g]? = some (.cells #[.slice ao n co] 57 (0, 0)) ∧ FLPost base g (.slice ao n co) (ls ++ [⟨t, a, c⟩]) w (w2.setCell ⟨g, 0, none⟩ (.slice (some ⟨x, 0, none⟩) (n + 1) c2)) ∧ (w2.setCell ⟨g, 0, none⟩ (.slice (some ⟨x, 0, none⟩) (n + 1) c2)).heap[xb]? = some (.cells cs 47 (0, 0))) := by
    intro w2 o2 x c2 hgr hown hx
    have hf : Fr (fun j => (Value.slice ao n co).ownBlock = some j) w5 w2 := ((Fr.drew _).trans (Fr.alloc _ o2)).trans (Fr.grown hgr (fun g hg => hg))
    have hbk := (hf.block g l1 HNE.out).trans HP.out.1
    have hsz := hf.size
    have hxl : xb < w5.heap.size := (Array.getElem?_eq_some_iff.1 HBOX.out.1).1
    have hbx := (hf.block xb hxl (Ex.row_ne' HP.out.2.1 HBOX.out.1 (by decide))).trans HBOX.out.1
    refine ⟨hbk, ⟨_, ⟨heap_set hbk _, ?_, ?_⟩, (HP.out.2.2.2.1.trans (hf.mono fun j _ h => .inr h)).trans (Fr.set g 0 _ _ (.inl rfl)), hx.imp (fun h => Eq.symm h) (fun h => ⟨x, rfl, ?_⟩)⟩, ?_⟩
    · rw [List.length_append, List.length_singleton, ← HNL.out.1, lzsV_snoc]
      exact row_set hown (Ex.row_ne' hown hbk (by decide)) _
    · show base ≤ (w2.setCell _ _).heap.size
      have := HP.out.2.2.1
      simp; omega
    · have := HP.out.2.2.2.2; omega
    · exact (Below.heap_setCell _ _ _ _ HBOX.out.2.2.2.2).trans hbx
  have HK : Hid (NdsAt (fun j => B ≤ j) w r (.slice aK nK cK) ks) := hk
  have HSM : Hid (smNs ks) := hsm
  have HB : Hid (B ≤ g ∧ B ≤ base ∧ B ≤ w.heap.size) := ⟨hBg, hBb, hBw⟩
  clear h0 hsm hblk hb hnl hbox0 hgl hS hk hBg hBb hBw hcs hn
  go_enter Tryd.func36, Tryd.ntmps36
  go_wp2_with fail
  rw [← hw5, ← hxb]
  clear hw5 hxb
  go_region_law (first | (refine step_append_lies _ (by rfl) (.tmp 11) (.tmp 14) 31 (by rfl) base 43 i0 (.agg #[.string ⟨#[]⟩, .int .i64 0, .bool false]) 3 32 Tryd.underlying31 hi hz0 hz1 hz2 rfl (by decide) (.slice ao n co) n (lzsV ls) (by rfl) (hS1.kept (row := none) ⟨rfl, rfl, rfl, by simp, fun k hk _ => Below.heap_alloc _ _ _ hk⟩ (Classical.em _)) ⟨w5.heap.size, 0, none⟩ 1 1 [.string t, .int .i64 a, .bool c] (by rfl) rfl (World.news_of_block (alloc_last _ _)) (lz_one ⟨t, a, c⟩) (by decide) (by unfold maxLen; omega) (by omega) (by simp; omega) _ rfl ?_; intro x c2 w2 hown hgr hgg hg1; obtain ⟨z1, HGG, HGB⟩ := HG.out w2 _ x c2 hgr hown (hgg.imp_right (fun h => h.trans (by simp))); have x1 : w2.cell? ⟨g, 0, none⟩ = some (.slice ao n co) := cell_in z1 0 rfl; have x2 : w2.frozen? ⟨g, 0, none⟩ = false := (by simp [World.frozen?, z1]); have HGG : Hid (FLPost base g (.slice ao n co) (ls ++ [⟨t, a, c⟩]) w (w2.setCell ⟨g, 0, none⟩ (.slice (some ⟨x, 0, none⟩) (n + 1) c2))) := HGG; have HGB : Hid _ := HGB; clear hgg hgr z1 hown))
  all_goals
    obtain ⟨W, hW⟩ : ∃ W, W = w2.setCell ⟨g, 0, none⟩ (.slice (some ⟨x, 0, none⟩) (n + 1) c2) := ⟨_, rfl⟩
    rw [← hW] at HGG HGB
    have k7 : W.cell? ⟨xb, 7, none⟩ = some (.slice aK nK cK) := cell_in HGB.out 7 HBOX.out.2.1
    rw [hW] at k7
    go_wp2_with fail
    rw [← hW] at k7 ⊢
    clear k7 hW x1 x2
    obtain ⟨v1, hF1, hr1, ho1⟩ := HGG.out
    have hk1 := HK.out.keeps (keeps_fr HB.out.1 HB.out.2.1 HFL.out hr1)
    have H1 : Hid (FL base g v1 (ls ++ [⟨t, a, c⟩]) W ∧ Fr (fun j => j = g ∨ (Value.slice ao n co).ownBlock = some j) w W ∧ (v1.ownBlock = (Value.slice ao n co).ownBlock ∨ ∃ x, v1.ownBlock = some x ∧ w.heap.size ≤ x)) := ⟨hF1, hr1, ho1⟩
    refine (ih base g v1 _ ks (ls ++ [⟨t, a, c⟩]) W HB.out.1 HB.out.2.1 hF1 hk1 (by have := HNL.out; simp; omega) HSM.out).mono ?_
    clear hF1 hr1 ho1 hk1 HGG
    rintro e w3 ⟨rfl, v3, hF3, hr3, ho3⟩
    have hxl : xb < W.heap.size := (Array.getElem?_eq_some_iff.1 HGB.out).1
    have hb3 : w3.heap[xb]? = some (.cells cs 47 (0, 0)) := (hr3.block xb hxl (fun e => e.elim HBOX.out.2.2.2.2 (Ex.row_ne' H1.out.1.row HGB.out (by decide)))).trans HGB.out
    have k2 : w3.cell? ⟨xb, 2, none⟩ = some (.int .i64 a) := cell_in hb3 2 HBOX.out.2.2.1
    have H3 : Hid (FL base g v3 (ls ++ [⟨t, a, c⟩] ++ flatNs ks) w3 ∧ Fr (fun j => j = g ∨ v1.ownBlock = some j) W w3 ∧ (v3.ownBlock = v1.ownBlock ∨ ∃ x, v3.ownBlock = some x ∧ W.heap.size ≤ x)) := ⟨hF3, hr3, ho3⟩
    clear hF3 hr3 ho3 hb3 hxl HGB
    go_wp2_with fail
    refine (fadd base g v3 _ _ a w3 H3.out.1 (by have := HNL.out; simp; omega)).mono ?_
    rintro e w4 ⟨rfl, hP4⟩
    have H4 : Hid (FLPost base g v3 (ls ++ [⟨t, a, c⟩] ++ flatNs ks ++ [⟨⟨#[46, 101, 110, 100, 102, 111, 114]⟩, a, false⟩]) w3 w4) := hP4
    clear hP4 k2
    go_wp2
    go_ret
    refine ⟨rfl, ?_⟩
    have q := FLPost.trans H1.out.2.1 H1.out.2.2 (FLPost.trans H3.out.2.1 H3.out.2.2 H4.out)
    rw [dot_endfor]
    simpa using q
end Go.Proofs.YtbciedpjaajhcaaDoor

/-
  The lines of a condition.
-/
namespace Go.Proofs.YtbciedpjaajhcaaDoor
open Go.RowKit Go.Shelf
open Ex (Fr)

theorem dot_none (w : ByteArray) : dotT w E = (⟨#[46]⟩ : ByteArray) ++ w := by
  unfold dotT; rw [if_pos rfl]
  apply ByteArray.ext; apply Array.ext'; simp [ba, bl]
theorem dot_some {w t : ByteArray} (h : ¬ t = E) : dotT w t = ((⟨#[46]⟩ : ByteArray) ++ w) ++ ((⟨#[32]⟩ : ByteArray) ++ t) := by
  unfold dotT; rw [if_neg h]
  apply ByteArray.ext; apply Array.ext'; simp [ba, bl]
theorem flatBs_append : ∀ a b : List Bk, flatBs (a ++ b) = flatBs a ++ flatBs b
  | [], b => by simp [flatBs]
  | x :: a, b => by simp only [List.cons_append, flatBs, flatBs_append a b, List.append_assoc]
theorem flatBs_take {bs : List Bk} {j : Nat} {b : Bk} (h : bs[j]? = some b) : flatBs (bs.take (j + 1)) = flatBs (bs.take j) ++ flatB b := by
  rw [List.take_add_one, h, flatBs_append]; simp [flatBs]
theorem flatBs_le (bs : List Bk) (j : Nat) : (flatBs (bs.take j)).length ≤ (flatBs bs).length := by
  have h := flatBs_append (bs.take j) (bs.drop j)
  rw [List.take_append_drop] at h
  rw [h, List.length_append]; omega
theorem flatBs_len : ∀ bs : List Bk, bs.length ≤ (flatBs bs).length
  | [] => Nat.le_refl _
  | .mk w t a ks :: bs => by
    have := flatBs_len bs
    unfold flatBs flatB
    simp only [List.length_cons, List.length_append]; omega
theorem smBs_get : ∀ {bs : List Bk} {j : Nat} {b : Bk}, smBs bs → bs[j]? = some b → smB b
  | [], j, b, _, h => by simp at h
  | x :: bs, 0, b, hs, h => by
    unfold smBs at hs; simp at h; subst h; exact hs.1
  | x :: bs, j + 1, b, hs, h => by
    unfold smBs at hs; exact smBs_get hs.2 (by simpa using h)
/-- The gathering while branches are gone through. -/
structure CI (base g : Nat) (v : Value) (ls : List Lz) (bs : List Bk) (w : World) (xb : Nat) (cs : Array Value) (j : Nat) (v' : Value) (wr : World) : Prop where
  fl : FL base g v' (ls ++ flatBs (bs.take j)) wr
  fr : Fr (fun j => j = g ∨ v.ownBlock = some j) w wr
  own : v'.ownBlock = v.ownBlock ∨ ∃ x, v'.ownBlock = some x ∧ w.heap.size ≤ x
  box : wr.heap[xb]? = some (.cells cs 47 (0, 0))

set_option maxRecDepth 20000 in
set_option maxHeartbeats 400000 in
theorem fcond (B r : Nat) (ih : BlksC B r) (base g : Nat) (v : Value) (ls : List Lz) (l : Lz) (vB : Value) (css : List (List Value)) (bs : List Bk) (w : World) (hBg : B ≤ g) (hBb : B ≤ base) (hBw : B ≤ w.heap.size) (h : FL base g v ls w) (hB : RowAt (fun j => B ≤ j) w 4 vB css) (hbs : All2 (BkAt (fun j => B ≤ j) w r) css bs) (hn : ls.length + (flatBs bs).length + 1 ≤ 4000000) (hsm : smBs bs) :
    Calls Tryd.prog 35 #[pG g, nd8 2 l vB nilS E nilS, .int .i64 (r : Int)] w fun e w' => e = .returned (.bool true) ∧ FLPost base g v (ls ++ (flatBs bs ++ [⟨dotT kEndif E, l.at_, false⟩])) w w' := by
  obtain ⟨t, a, c⟩ := l
  obtain ⟨aB, cB, rfl⟩ := row_slice hB
  obtain ⟨m, hm⟩ : ∃ m, m = css.length := ⟨_, rfl⟩
  have hmb : m = bs.length := hm.trans hbs.length
  have HB : Hid (B ≤ g ∧ B ≤ base ∧ B ≤ w.heap.size ∧ FL base g v ls w ∧ ls.length + (flatBs bs).length + 1 ≤ 4000000 ∧ smBs bs ∧ m = bs.length) := ⟨hBg, hBb, hBw, h, hn, hsm, hmb⟩
  have HIH : Hid (BlksC B r) := ih
  have hm4 : m ≤ 4000000 := by have := flatBs_len bs; omega
  obtain ⟨w5, hw5⟩ : ∃ w5, w5 = w.alloc (.cells #[.int .i64 2, .string t, .int .i64 a, .bool c, .slice aB m cB, .slice none 0 0, .string ⟨#[]⟩, .slice none 0 0] 47) := ⟨_, rfl⟩
  obtain ⟨xb, hxb⟩ : ∃ x, x = w.heap.size := ⟨_, rfl⟩
  obtain ⟨cs, hcs⟩ : ∃ cs : Array Value, cs = #[.int .i64 2, .string t, .int .i64 a, .bool c, .slice aB m cB, .slice none 0 0, .string ⟨#[]⟩, .slice none 0 0] := ⟨_, rfl⟩
  have HCS : Hid (cs[2]? = some (.int .i64 a) ∧ xb = w.heap.size) := ⟨by rw [hcs]; rfl, hxb⟩
  have hgl : g < w.heap.size := (Array.getElem?_eq_some_iff.1 h.blk).1
  have HI0 : Hid (CI base g v ls bs w xb cs 0 v w5) := by
    rw [hw5, hcs, hxb]
    refine ⟨⟨(Below.heap_alloc _ _ _ hgl).trans h.blk, ?_, by have := h.low; simp; omega⟩, Fr.alloc _ _, .inl rfl, alloc_last _ _⟩
    rw [List.take_zero, flatBs, List.append_nil]
    exact h.row.alloc _
  have HPK : Hid (∀ j b, bs[j]? = some b → ∃ gb wd tx ba ks vK, aB = some ⟨gb, 0, none⟩ ∧ gb < w.heap.size ∧ ¬ B ≤ gb ∧ b = .mk wd tx ba ks ∧ w.cell? ⟨gb, j * 4, none⟩ = some (.string wd) ∧ w.cell? ⟨gb, j * 4 + 1, none⟩ = some (.string tx) ∧ w.cell? ⟨gb, j * 4 + 2, none⟩ = some (.int .i64 ba) ∧ w.cell? ⟨gb, j * 4 + 3, none⟩ = some vK ∧ IsS vK ∧ NdsAt (fun j => B ≤ j) w r vK ks) := by
    intro j b hb
    obtain ⟨cc, hcc, hat⟩ := hbs.get hb
    obtain ⟨wd, tx, ba, ks⟩ := b
    obtain ⟨vK, e1, e2⟩ := hat
    subst e1
    have e3 : IsS vK := by obtain ⟨css, h, _⟩ := e2; obtain ⟨a, c, e⟩ := row_slice h; exact ⟨a, _, c, e⟩
    rcases hB with ⟨_, rfl⟩ | ⟨gb, c', hv, _, hg, hng, hcells⟩
    · simp at hcc
    · injection hv with q1 q2 q3
      obtain ⟨_, hcell⟩ := hcells j _ hcc
      exact ⟨gb, wd, tx, ba, ks, vK, q1, hg, hng, rfl, hcell 0 _ rfl, hcell 1 _ rfl, hcell 2 _ rfl, hcell 3 _ rfl, e3, e2⟩
  rw [← hm]
  clear hB hbs hm hmb h hBg hBb hBw hn hsm ih hgl hcs
  go_enter Tryd.func35, Tryd.ntmps35
  go_wp2_with fail
  rw [← hw5, ← hxb]
  clear hw5 hxb
  go_loopw [13] (fun vi wr => ∃ j : Nat, j ≤ m ∧ vi = .int .i64 (j : Int) ∧ Hid (∃ v', CI base g v ls bs w xb cs j v' wr)) (fun vi _ => m - (intOf vi).toNat)
  case atStart => exact ⟨0, Nat.zero_le _, rfl, v, HI0.out⟩
  case round =>
    obtain ⟨j, hj, rfl, HJ⟩ := hrel
    by_cases hlt : j < m
    · have hil : (j : Int) < (m : Int) := by omega
      have hjl : j < bs.length := by rw [← HB.out.2.2.2.2.2.2]; exact hlt
      obtain ⟨b, hb⟩ : ∃ b, bs[j]? = some b := ⟨_, List.getElem?_eq_getElem hjl⟩
      obtain ⟨gb, wd, tx, ba, ks, vK, rfl, hgb, hnb, rfl, d0, d1, d2, d3, ⟨aK, nK, cK, rfl⟩, hks⟩ := HPK.out j b hb
      obtain ⟨v1, hC⟩ := HJ.out
      have hbg : wr.heap[gb]? = w.heap[gb]? := hC.fr.block gb hgb (fun e => hnb (e.elim (fun e => e ▸ HB.out.1) (fun e => Nat.le_trans HB.out.2.1 (HB.out.2.2.2.1.row.lt gb e).1)))
      have c0 : wr.cell? ⟨gb, j * 4, none⟩ = some (.string wd) := (cell_same hbg).trans d0
      have c1 : wr.cell? ⟨gb, j * 4 + 1, none⟩ = some (.string tx) := (cell_same hbg).trans d1
      have c2 : wr.cell? ⟨gb, j * 4 + 2, none⟩ = some (.int .i64 ba) := (cell_same hbg).trans d2
      have c3 : wr.cell? ⟨gb, j * 4 + 3, none⟩ = some (.slice aK nK cK) := (cell_same hbg).trans d3
      have hsm := smBs_get HB.out.2.2.2.2.2.1 hb
      unfold smB at hsm
      obtain ⟨hw1, ht1, hsk⟩ := hsm
      have HT : Hid (flatBs (bs.take (j + 1)) = flatBs (bs.take j) ++ (⟨dotT wd tx, ba, false⟩ :: flatNs ks)) := by unfold Hid; rw [flatBs_take hb, flatB]
      have HKS : Hid (NdsAt (fun j => B ≤ j) w r (.slice aK nK cK) ks ∧ smNs ks ∧ ls.length + (flatBs (bs.take j)).length + (1 + (flatNs ks).length) + 1 ≤ 4000000) := by
        refine ⟨hks, hsk, ?_⟩
        have h1 := flatBs_le bs (j + 1)
        rw [HT.out, List.length_append, List.length_cons] at h1
        have := HB.out.2.2.2.2.1
        omega
      obtain ⟨W, hW⟩ : ∃ W, W = wr.alloc (.cells #[.string wd, .string tx, .int .i64 ba, .slice aK nK cK] 66) := ⟨_, rfl⟩
      obtain ⟨y, hy⟩ : ∃ y, y = wr.heap.size := ⟨_, rfl⟩
      obtain ⟨ds, hds⟩ : ∃ ds : Array Value, ds = #[.string wd, .string tx, .int .i64 ba, .slice aK nK cK] := ⟨_, rfl⟩
      have hgw : g < w.heap.size := (Array.getElem?_eq_some_iff.1 HB.out.2.2.2.1.blk).1
      have hgr : g < wr.heap.size := (Array.getElem?_eq_some_iff.1 hC.fl.blk).1
      have hxr : xb < wr.heap.size := (Array.getElem?_eq_some_iff.1 hC.box).1
      have HY : Hid (¬ y = g ∧ ¬ xb = g) := ⟨by omega, by have := HCS.out.2; omega⟩
      have HW : Hid (W.heap[y]? = some (.cells ds 66 (0, 0)) ∧ ds[3]? = some (.slice aK nK cK) ∧ CI base g v ls bs w xb cs j v1 W) := by
        rw [hW, hds, hy]
        exact ⟨alloc_last _ _, rfl, ⟨⟨(Below.heap_alloc _ _ _ hgr).trans hC.fl.blk, hC.fl.row.alloc _, by have := hC.fl.low; simp; omega⟩, hC.fr.trans (Fr.alloc _ _), hC.own, (Below.heap_alloc _ _ _ hxr).trans hC.box⟩⟩
      clear d0 d1 d2 d3 hks hsk hb hC hbg hnb hjl hgb hgw hgr hxr hds HJ
      by_cases hE : tx = E
      · subst hE
        rw [dot_none] at HT
        go_wp2_with fail
        rw [← hW, ← hy]
        clear hW hy
        refine (fadd base g v1 _ _ ba W HW.out.2.2.fl (by have := HKS.out.2.2; simp; omega)).mono ?_
        rintro e w3 ⟨rfl, hP3⟩
        have q3 := FLPost.trans HW.out.2.2.fr HW.out.2.2.own hP3
        have hb3 : w3.heap[y]? = some (.cells ds 66 (0, 0)) ∧ w3.heap[xb]? = some (.cells cs 47 (0, 0)) := by
          obtain ⟨_, _, hr, _⟩ := hP3
          exact ⟨(hr.block y (Array.getElem?_eq_some_iff.1 HW.out.1).1 (fun e => e.elim HY.out.1 (Ex.row_ne' HW.out.2.2.fl.row HW.out.1 (by decide)))).trans HW.out.1, (hr.block xb (Array.getElem?_eq_some_iff.1 HW.out.2.2.box).1 (fun e => e.elim HY.out.2 (Ex.row_ne' HW.out.2.2.fl.row HW.out.2.2.box (by decide)))).trans HW.out.2.2.box⟩
        obtain ⟨v3, hF3, hr3, ho3⟩ := q3
        have k3 : w3.cell? ⟨y, 3, none⟩ = some (.slice aK nK cK) := cell_in hb3.1 3 HW.out.2.1
        have H3 : Hid (FL base g v3 (ls ++ flatBs (bs.take j) ++ [⟨(⟨#[46]⟩ : ByteArray) ++ wd, ba, false⟩]) w3 ∧ Fr (fun j => j = g ∨ v.ownBlock = some j) w w3 ∧ (v3.ownBlock = v.ownBlock ∨ ∃ x, v3.ownBlock = some x ∧ w.heap.size ≤ x) ∧ w3.heap[xb]? = some (.cells cs 47 (0, 0))) := ⟨hF3, hr3, ho3, hb3.2⟩
        clear hP3 hF3 hr3 ho3 hb3
        go_wp2_with fail
        refine (HIH.out base g v3 _ ks _ w3 HB.out.1 HB.out.2.1 H3.out.1 (HKS.out.1.keeps (keeps_fr HB.out.1 HB.out.2.1 HB.out.2.2.2.1 H3.out.2.1)) (by have := HKS.out.2.2; simp; omega) HKS.out.2.1).mono ?_
        rintro e w4 ⟨rfl, hP4⟩
        have H4 : Hid (∃ v', CI base g v ls bs w xb cs (j + 1) v' w4) := by
          have q4 := FLPost.trans H3.out.2.1 H3.out.2.2.1 hP4
          have hb4 : w4.heap[xb]? = some (.cells cs 47 (0, 0)) := by
            obtain ⟨_, _, hr, _⟩ := hP4
            exact (hr.block xb (Array.getElem?_eq_some_iff.1 H3.out.2.2.2).1 (fun e => e.elim HY.out.2 (Ex.row_ne' H3.out.1.row H3.out.2.2.2 (by decide)))).trans H3.out.2.2.2
          obtain ⟨v4, hF4, hr4, ho4⟩ := q4
          refine ⟨v4, ⟨?_, hr4, ho4, hb4⟩⟩
          rw [HT.out]
          simpa using hF4
        clear hP4 k3
        go_wp2_with fail
        go_roundw
        case rel => exact ⟨j + 1, by omega, by go_num, H4⟩
        case measure => simp [intOf]; omega
      · rw [dot_some hE] at HT
        have hE1 : ¬ tx.toList = [] := fun e => hE (by rw [Lib.toList_data] at e; apply ByteArray.ext; apply Array.ext'; simpa using e)
        have hE2 : (tx.toList == []) = false := by simpa using hE1
        clear hE
        go_wp2_with fail
        rw [← hW, ← hy]
        clear hW hy
        refine (fadd base g v1 _ _ ba W HW.out.2.2.fl (by have := HKS.out.2.2; simp; omega)).mono ?_
        rintro e w3 ⟨rfl, hP3⟩
        have q3 := FLPost.trans HW.out.2.2.fr HW.out.2.2.own hP3
        have hb3 : w3.heap[y]? = some (.cells ds 66 (0, 0)) ∧ w3.heap[xb]? = some (.cells cs 47 (0, 0)) := by
          obtain ⟨_, _, hr, _⟩ := hP3
          exact ⟨(hr.block y (Array.getElem?_eq_some_iff.1 HW.out.1).1 (fun e => e.elim HY.out.1 (Ex.row_ne' HW.out.2.2.fl.row HW.out.1 (by decide)))).trans HW.out.1, (hr.block xb (Array.getElem?_eq_some_iff.1 HW.out.2.2.box).1 (fun e => e.elim HY.out.2 (Ex.row_ne' HW.out.2.2.fl.row HW.out.2.2.box (by decide)))).trans HW.out.2.2.box⟩
        obtain ⟨v3, hF3, hr3, ho3⟩ := q3
        have k3 : w3.cell? ⟨y, 3, none⟩ = some (.slice aK nK cK) := cell_in hb3.1 3 HW.out.2.1
        have H3 : Hid (FL base g v3 (ls ++ flatBs (bs.take j) ++ [⟨((⟨#[46]⟩ : ByteArray) ++ wd) ++ ((⟨#[32]⟩ : ByteArray) ++ tx), ba, false⟩]) w3 ∧ Fr (fun j => j = g ∨ v.ownBlock = some j) w w3 ∧ (v3.ownBlock = v.ownBlock ∨ ∃ x, v3.ownBlock = some x ∧ w.heap.size ≤ x) ∧ w3.heap[xb]? = some (.cells cs 47 (0, 0))) := ⟨hF3, hr3, ho3, hb3.2⟩
        clear hP3 hF3 hr3 ho3 hb3
        go_wp2_with fail
        refine (HIH.out base g v3 _ ks _ w3 HB.out.1 HB.out.2.1 H3.out.1 (HKS.out.1.keeps (keeps_fr HB.out.1 HB.out.2.1 HB.out.2.2.2.1 H3.out.2.1)) (by have := HKS.out.2.2; simp; omega) HKS.out.2.1).mono ?_
        rintro e w4 ⟨rfl, hP4⟩
        have H4 : Hid (∃ v', CI base g v ls bs w xb cs (j + 1) v' w4) := by
          have q4 := FLPost.trans H3.out.2.1 H3.out.2.2.1 hP4
          have hb4 : w4.heap[xb]? = some (.cells cs 47 (0, 0)) := by
            obtain ⟨_, _, hr, _⟩ := hP4
            exact (hr.block xb (Array.getElem?_eq_some_iff.1 H3.out.2.2.2).1 (fun e => e.elim HY.out.2 (Ex.row_ne' H3.out.1.row H3.out.2.2.2 (by decide)))).trans H3.out.2.2.2
          obtain ⟨v4, hF4, hr4, ho4⟩ := q4
          refine ⟨v4, ⟨?_, hr4, ho4, hb4⟩⟩
          rw [HT.out]
          simpa using hF4
        clear hP4 k3
        go_wp2_with fail
        go_roundw
        case rel => exact ⟨j + 1, by omega, by go_num, H4⟩
        case measure => simp [intOf]; omega
    · have hnl : ¬ (j : Int) < (m : Int) := by omega
      obtain ⟨v1, hC⟩ := HJ.out
      have HE : Hid (FL base g v1 (ls ++ flatBs bs) wr ∧ Fr (fun j => j = g ∨ v.ownBlock = some j) w wr ∧ (v1.ownBlock = v.ownBlock ∨ ∃ x, v1.ownBlock = some x ∧ w.heap.size ≤ x)) := by
        have h1 := hC.fl
        rw [List.take_of_length_le (by have := HB.out.2.2.2.2.2.2; omega)] at h1
        exact ⟨h1, hC.fr, hC.own⟩
      have k2 : wr.cell? ⟨xb, 2, none⟩ = some (.int .i64 a) := cell_in hC.box 2 HCS.out.1
      clear hC HJ
      go_wp2_with fail
      refine (fadd base g v1 _ _ a wr HE.out.1 (by have := HB.out.2.2.2.2.1; simp; omega)).mono ?_
      rintro e w4 ⟨rfl, hP4⟩
      have H4 : Hid (FLPost base g v (ls ++ flatBs bs ++ [⟨⟨#[46, 101, 110, 100, 105, 102]⟩, a, false⟩]) w w4) := FLPost.trans HE.out.2.1 HE.out.2.2 hP4
      clear hP4 k2
      go_wp2
      go_ret
      refine ⟨rfl, ?_⟩
      rw [dot_endif]
      simpa using H4.out
end Go.Proofs.YtbciedpjaajhcaaDoor

/-
  The lines of a block, of blocks.
-/
namespace Go.Proofs.YtbciedpjaajhcaaDoor
open Go.RowKit Go.Shelf
open Ex (Fr)

theorem FL.alloc {base g : Nat} {v : Value} {ls : List Lz} {w : World} (h : FL base g v ls w) (o : Obj) : FL base g v ls (w.alloc o) :=
  ⟨(Below.heap_alloc _ _ _ (Array.getElem?_eq_some_iff.1 h.blk).1).trans h.blk, h.row.alloc _, by have := h.low; simp; omega⟩
theorem keeps_alloc {H : Nat → Prop} (w : World) (o : Obj) : Keeps H H w (w.alloc o) := .of_below ((Below.refl _ _).alloc (Nat.le_refl _) _)

set_option maxRecDepth 20000 in
set_option maxHeartbeats 400000 in
theorem fblk_cn (B r : Nat) (ih : BlksC B r) (base g : Nat) (v : Value) (ls : List Lz) (l : Lz) (vB : Value) (css : List (List Value)) (bs : List Bk) (w : World) (hBg : B ≤ g) (hBb : B ≤ base) (hBw : B ≤ w.heap.size) (h : FL base g v ls w) (hB : RowAt (fun j => B ≤ j) w 4 vB css) (hbs : All2 (BkAt (fun j => B ≤ j) w r) css bs) (hn : ls.length + (flatBs bs).length + 1 ≤ 4000000) (hsm : smBs bs) (hr : r ≤ 40) :
    Calls Tryd.prog 19 #[pG g, nd8 2 l vB nilS E nilS, .int .i64 ((r + 1 : Nat) : Int)] w fun e w' => e = .returned (.bool true) ∧ FLPost base g v (ls ++ (flatBs bs ++ [⟨dotT kEndif E, l.at_, false⟩])) w w' := by
  obtain ⟨t, a, c⟩ := l
  obtain ⟨aB, cB, rfl⟩ := row_slice hB
  obtain ⟨m, hm⟩ : ∃ m, m = css.length := ⟨_, rfl⟩
  have HC : Hid (∀ o : Obj, Calls Tryd.prog 35 #[pG g, nd8 2 ⟨t, a, c⟩ (.slice aB m cB) nilS E nilS, .int .i64 (r : Int)] (w.alloc o) fun e w' => e = .returned (.bool true) ∧ FLPost base g v (ls ++ (flatBs bs ++ [⟨dotT kEndif E, a, false⟩])) w w') := fun o =>
    (fcond B r ih base g v ls ⟨t, a, c⟩ _ css bs (w.alloc o) hBg hBb (by simp; omega) (h.alloc o) (by rw [hm]; exact hB.keeps (keeps_alloc w o)) (hbs.mono fun c b hb => hb.keeps (keeps_alloc w o)) hn hsm).mono fun e w' hp => ⟨hp.1, FLPost.trans (Fr.alloc w o) (.inl rfl) hp.2⟩
  obtain ⟨q, hq⟩ : ∃ q : Nat, q = r + 1 := ⟨_, rfl⟩
  rw [← hm, ← hq]
  have hq1 : (0 : Int) < (q : Int) := by omega
  have hq2 : q ≤ 41 := by omega
  have HQ : Hid ((q : Int) - 1 = (r : Int)) := by unfold Hid; omega
  clear hB hbs hm h hBg hBb hBw hn hsm ih hq hr
  go_enter Tryd.func19, Tryd.ntmps19
  go_wp2_with fail
  rw [HQ.out]
  refine (HC.out _).mono ?_
  rintro e w4 ⟨rfl, hP⟩
  have H4 : Hid (FLPost base g v (ls ++ (flatBs bs ++ [⟨dotT kEndif E, a, false⟩])) w w4) := hP
  clear hP hq1 hq2
  go_wp2
  go_ret
  exact ⟨rfl, H4.out⟩
set_option maxRecDepth 20000 in
set_option maxHeartbeats 400000 in
theorem fblk_fr (B r : Nat) (ih : BlksC B r) (base g : Nat) (v : Value) (ls : List Lz) (l : Lz) (vN : Value) (li : ByteArray) (vK : Value) (ks : List Nd) (w : World) (hBg : B ≤ g) (hBb : B ≤ base) (hBw : B ≤ w.heap.size) (h : FL base g v ls w) (hN : IsS vN) (hk : NdsAt (fun j => B ≤ j) w r vK ks) (hn : ls.length + (flatNs ks).length + 2 ≤ 4000000) (hsm : smNs ks) (hr : r ≤ 40) :
    Calls Tryd.prog 19 #[pG g, nd8 3 l nilS vN li vK, .int .i64 ((r + 1 : Nat) : Int)] w fun e w' => e = .returned (.bool true) ∧ FLPost base g v (ls ++ (l :: (flatNs ks ++ [⟨dotT kEndfor E, l.at_, false⟩]))) w w' := by
  obtain ⟨t, a, c⟩ := l
  obtain ⟨aN, nN, cN, rfl⟩ := hN
  obtain ⟨aK, nK, cK, rfl⟩ : IsS vK := by
    obtain ⟨css, h, _⟩ := hk; obtain ⟨a, c, e⟩ := row_slice h; exact ⟨a, _, c, e⟩
  have HC : Hid (∀ o : Obj, Calls Tryd.prog 36 #[pG g, nd8 3 ⟨t, a, c⟩ nilS (.slice aN nN cN) li (.slice aK nK cK), .int .i64 (r : Int)] (w.alloc o) fun e w' => e = .returned (.bool true) ∧ FLPost base g v (ls ++ (⟨t, a, c⟩ :: (flatNs ks ++ [⟨dotT kEndfor E, a, false⟩]))) w w') := fun o =>
    (floop B r ih base g v ls ⟨t, a, c⟩ _ li _ ks (w.alloc o) hBg hBb (by simp; omega) (h.alloc o) ⟨_, _, _, rfl⟩ (hk.keeps (keeps_alloc w o)) hn hsm).mono fun e w' hp => ⟨hp.1, FLPost.trans (Fr.alloc w o) (.inl rfl) hp.2⟩
  obtain ⟨q, hq⟩ : ∃ q : Nat, q = r + 1 := ⟨_, rfl⟩
  rw [← hq]
  have hq1 : (0 : Int) < (q : Int) := by omega
  have hq2 : q ≤ 41 := by omega
  have HQ : Hid ((q : Int) - 1 = (r : Int)) := by unfold Hid; omega
  clear hk h hBg hBb hBw hn hsm ih hq hr
  go_enter Tryd.func19, Tryd.ntmps19
  go_wp2_with fail
  rw [HQ.out]
  refine (HC.out _).mono ?_
  rintro e w4 ⟨rfl, hP⟩
  have H4 : Hid (FLPost base g v (ls ++ (⟨t, a, c⟩ :: (flatNs ks ++ [⟨dotT kEndfor E, a, false⟩]))) w w4) := hP
  clear hP hq1 hq2
  go_wp2
  go_ret
  exact ⟨rfl, H4.out⟩
theorem ndC_inj {k k' : Int} {l l' : Lz} {vB vN vK vB' vN' vK' : Value} {li li' : ByteArray} (h : ndC k l vB vN li vK = ndC k' l' vB' vN' li' vK') : k = k' ∧ l = l' ∧ vB = vB' ∧ vN = vN' ∧ li = li' ∧ vK = vK' := by
  obtain ⟨t, a, c⟩ := l
  obtain ⟨t', a', c'⟩ := l'
  simp [ndC] at h
  obtain ⟨h1, h2, h3, h4, h5, h6, h7, h8⟩ := h
  exact ⟨h1, by rw [h2, h3, h4], h5, h6, h7, h8⟩
def BlkC (B r : Nat) : Prop := ∀ (base g : Nat) (v : Value) (k : Int) (l : Lz) (vB vN : Value) (li : ByteArray) (vK : Value) (t : Nd) (ls : List Lz) (w : World), B ≤ g → B ≤ base → B ≤ w.heap.size → FL base g v ls w → NdAt (fun j => B ≤ j) w r (ndC k l vB vN li vK) t → ls.length + (flatT t).length ≤ 4000000 → smT t →
  Calls Tryd.prog 19 #[pG g, nd8 k l vB vN li vK, .int .i64 (r : Int)] w fun e w' => e = .returned (.bool true) ∧ FLPost base g v (ls ++ flatT t) w w'
theorem blk_plain {r : Nat} {base g : Nat} {v : Value} {k : Int} {l l' : Lz} {vB vN : Value} {li : ByteArray} {vK : Value} {ls : List Lz} {w : World} (h : FL base g v ls w) (hc : ndC k l vB vN li vK = ndC 1 l' nilS nilS E nilS) (hn : ls.length ≤ 4000000) :
    Calls Tryd.prog 19 #[pG g, nd8 k l vB vN li vK, .int .i64 (r : Int)] w fun e w' => e = .returned (.bool true) ∧ FLPost base g v (ls ++ flatT (.pl l')) w w' := by
  obtain ⟨rfl, rfl, rfl, rfl, rfl, rfl⟩ := ndC_inj hc
  unfold flatT
  exact fplain base g v ls l r w h hn
theorem blk_zero (B : Nat) : BlkC B 0 := by
  intro base g v k l vB vN li vK t ls w _ _ _ h hd hn _
  obtain ⟨l', rfl, e⟩ := nd_zero hd
  exact blk_plain (r := 0) h e (by omega)
theorem blk_succ (B r : Nat) (hr : r ≤ 40) (ih : BlksC B r) : BlkC B (r + 1) := by
  intro base g v k l vB vN li vK t ls w h1 h2 h3 h hd hn hs
  cases t with
  | pl l' => exact blk_plain h (nd_pl' hd) (by omega)
  | cn l' bs =>
    obtain ⟨vB', css, e, hB, hbs⟩ := nd_cn hd
    obtain ⟨rfl, rfl, rfl, rfl, rfl, rfl⟩ := ndC_inj e
    unfold flatT at hn ⊢
    unfold smT at hs
    exact fblk_cn B r ih base g v ls l vB css bs w h1 h2 h3 h hB hbs (by simp at hn; omega) hs hr
  | fr l' ns li' ks =>
    obtain ⟨vN', vK', e, hN, hk⟩ := nd_fr hd
    obtain ⟨rfl, rfl, rfl, rfl, rfl, rfl⟩ := ndC_inj e
    unfold flatT at hn ⊢
    unfold smT at hs
    have hN' : IsS vN := by obtain ⟨a, c, e⟩ := row_slice hN; exact ⟨a, _, c, e⟩
    exact fblk_fr B r ih base g v ls l vN li vK ks w h1 h2 h3 h hN' hk (by simp at hn; omega) hs hr
end Go.Proofs.YtbciedpjaajhcaaDoor

/-
  The lines of blocks.
-/
namespace Go.Proofs.YtbciedpjaajhcaaDoor
open Go.RowKit Go.Shelf
open Ex (Fr)

theorem flatNs_append : ∀ a b : List Nd, flatNs (a ++ b) = flatNs a ++ flatNs b
  | [], b => by simp [flatNs]
  | x :: a, b => by simp only [List.cons_append, flatNs, flatNs_append a b, List.append_assoc]
theorem flatNs_take {ts : List Nd} {j : Nat} {t : Nd} (h : ts[j]? = some t) : flatNs (ts.take (j + 1)) = flatNs (ts.take j) ++ flatT t := by
  rw [List.take_add_one, h, flatNs_append]; simp [flatNs]
theorem flatNs_le (ts : List Nd) (j : Nat) : (flatNs (ts.take j)).length ≤ (flatNs ts).length := by
  have h := flatNs_append (ts.take j) (ts.drop j)
  rw [List.take_append_drop] at h
  rw [h, List.length_append]; omega
theorem posFlat : ∀ t : Nd, 1 ≤ (flatT t).length
  | .pl _ => by unfold flatT; simp
  | .cn _ _ => by unfold flatT; simp
  | .fr _ _ _ _ => by unfold flatT; simp
theorem flatNs_len : ∀ ts : List Nd, ts.length ≤ (flatNs ts).length
  | [] => Nat.le_refl _
  | t :: ts => by
    have := flatNs_len ts
    have := posFlat t
    unfold flatNs
    simp only [List.length_cons, List.length_append]; omega
theorem smNs_get : ∀ {ts : List Nd} {j : Nat} {t : Nd}, smNs ts → ts[j]? = some t → smT t
  | [], j, t, _, h => by simp at h
  | x :: ts, 0, t, hs, h => by
    unfold smNs at hs; simp at h; subst h; exact hs.1
  | x :: ts, j + 1, t, hs, h => by
    unfold smNs at hs; exact smNs_get hs.2 (by simpa using h)
theorem nd_cells {H : Nat → Prop} {w : World} {r : Nat} {c : List Value} {t : Nd} (h : NdAt H w r c t) : ∃ k l aB nB cB aN nN cN li aK nK cK, c = ndC k l (.slice aB nB cB) (.slice aN nN cN) li (.slice aK nK cK) := by
  cases r with
  | zero => obtain ⟨l, _, e⟩ := nd_zero h; exact ⟨1, l, _, _, _, _, _, _, E, _, _, _, e⟩
  | succ r =>
    cases t with
    | pl l => exact ⟨1, l, _, _, _, _, _, _, E, _, _, _, nd_pl' h⟩
    | cn l bs =>
      obtain ⟨vB, css, e, hB, _⟩ := nd_cn h
      obtain ⟨a, c, rfl⟩ := row_slice hB
      exact ⟨2, l, _, _, _, _, _, _, E, _, _, _, e⟩
    | fr l ns li ks =>
      obtain ⟨vN, vK, e, hN, ⟨css, hK, _⟩⟩ := nd_fr h
      obtain ⟨a, c, rfl⟩ := row_slice hN
      obtain ⟨a', c', rfl⟩ := row_slice hK
      exact ⟨3, l, _, _, _, _, _, _, li, _, _, _, e⟩
/-- The gathering while blocks are gone through. -/
structure DI (base g : Nat) (v : Value) (ls : List Lz) (ts : List Nd) (w : World) (j : Nat) (v' : Value) (wr : World) : Prop where
  fl : FL base g v' (ls ++ flatNs (ts.take j)) wr
  fr : Fr (fun j => j = g ∨ v.ownBlock = some j) w wr
  own : v'.ownBlock = v.ownBlock ∨ ∃ x, v'.ownBlock = some x ∧ w.heap.size ≤ x

set_option maxRecDepth 20000 in
set_option maxHeartbeats 400000 in
theorem blks_of (B r : Nat) (hk : BlkC B r) : BlksC B r := by
  intro base g v vN ts ls w hBg hBb h hN hn hsm
  obtain ⟨css, hR, hts⟩ := hN
  obtain ⟨aB, cB, rfl⟩ := row_slice hR
  obtain ⟨m, hm⟩ : ∃ m, m = css.length := ⟨_, rfl⟩
  have hmb : m = ts.length := hm.trans hts.length
  have hgw : g < w.heap.size := (Array.getElem?_eq_some_iff.1 h.blk).1
  have HB : Hid (B ≤ g ∧ B ≤ base ∧ B ≤ w.heap.size ∧ FL base g v ls w ∧ ls.length + (flatNs ts).length ≤ 4000000 ∧ smNs ts ∧ m = ts.length) := ⟨hBg, hBb, by omega, h, hn, hsm, hmb⟩
  have HIH : Hid (BlkC B r) := hk
  have hm4 : m ≤ 4000000 := by have := flatNs_len ts; omega
  have HPK : Hid (∀ j t, ts[j]? = some t → ∃ gb k lt la lc aB' nB' cB' aN nN cN li aK nK cK, aB = some ⟨gb, 0, none⟩ ∧ gb < w.heap.size ∧ ¬ B ≤ gb ∧ w.cell? ⟨gb, j * 8, none⟩ = some (.int .i64 k) ∧ w.cell? ⟨gb, j * 8 + 1, none⟩ = some (.string lt) ∧ w.cell? ⟨gb, j * 8 + 2, none⟩ = some (.int .i64 la) ∧ w.cell? ⟨gb, j * 8 + 3, none⟩ = some (.bool lc) ∧ w.cell? ⟨gb, j * 8 + 4, none⟩ = some (.slice aB' nB' cB') ∧ w.cell? ⟨gb, j * 8 + 5, none⟩ = some (.slice aN nN cN) ∧ w.cell? ⟨gb, j * 8 + 6, none⟩ = some (.string li) ∧ w.cell? ⟨gb, j * 8 + 7, none⟩ = some (.slice aK nK cK) ∧ NdAt (fun j => B ≤ j) w r (ndC k ⟨lt, la, lc⟩ (.slice aB' nB' cB') (.slice aN nN cN) li (.slice aK nK cK)) t) := by
    intro j t ht
    obtain ⟨cc, hcc, hat⟩ := hts.get ht
    obtain ⟨k, ⟨lt, la, lc⟩, aB', nB', cB', aN, nN, cN, li, aK, nK, cK, e⟩ := nd_cells hat
    subst e
    rcases hR with ⟨_, rfl⟩ | ⟨gb, c', hv, _, hg, hng, hcells⟩
    · simp at hcc
    · injection hv with q1 q2 q3
      obtain ⟨_, hcell⟩ := hcells j _ hcc
      exact ⟨gb, k, lt, la, lc, aB', nB', cB', aN, nN, cN, li, aK, nK, cK, q1, hg, hng, hcell 0 _ rfl, hcell 1 _ rfl, hcell 2 _ rfl, hcell 3 _ rfl, hcell 4 _ rfl, hcell 5 _ rfl, hcell 6 _ rfl, hcell 7 _ rfl, hat⟩
  have HI0 : Hid (DI base g v ls ts w 0 v w) := ⟨by rw [List.take_zero, flatNs, List.append_nil]; exact h, Fr.refl _ _, .inl rfl⟩
  rw [← hm]
  clear hR hts hm hmb h hBg hBb hn hsm hk hgw
  go_enter Tryd.func54, Tryd.ntmps54
  go_wp2_with fail
  go_loopw [11] (fun vi wr => ∃ j : Nat, j ≤ m ∧ vi = .int .i64 (j : Int) ∧ Hid (∃ v', DI base g v ls ts w j v' wr)) (fun vi _ => m - (intOf vi).toNat)
  case atStart => exact ⟨0, Nat.zero_le _, rfl, v, HI0.out⟩
  case round =>
    obtain ⟨j, hj, rfl, HJ⟩ := hrel
    by_cases hlt : j < m
    · have hil : (j : Int) < (m : Int) := by omega
      have hjl : j < ts.length := by rw [← HB.out.2.2.2.2.2.2]; exact hlt
      obtain ⟨t, ht⟩ : ∃ t, ts[j]? = some t := ⟨_, List.getElem?_eq_getElem hjl⟩
      obtain ⟨gb, k, lt, la, lc, aB', nB', cB', aN, nN, cN, li, aK, nK, cK, rfl, hgb, hnb, d0, d1, d2, d3, d4, d5, d6, d7, hat⟩ := HPK.out j t ht
      obtain ⟨v1, hC⟩ := HJ.out
      have hbg : wr.heap[gb]? = w.heap[gb]? := hC.fr.block gb hgb (fun e => hnb (e.elim (fun e => e ▸ HB.out.1) (fun e => Nat.le_trans HB.out.2.1 (HB.out.2.2.2.1.row.lt gb e).1)))
      have c0 := (cell_same hbg (i := j * 8)).trans d0
      have c1 := (cell_same hbg (i := j * 8 + 1)).trans d1
      have c2 := (cell_same hbg (i := j * 8 + 2)).trans d2
      have c3 := (cell_same hbg (i := j * 8 + 3)).trans d3
      have c4 := (cell_same hbg (i := j * 8 + 4)).trans d4
      have c5 := (cell_same hbg (i := j * 8 + 5)).trans d5
      have c6 := (cell_same hbg (i := j * 8 + 6)).trans d6
      have c7 := (cell_same hbg (i := j * 8 + 7)).trans d7
      have HT : Hid (flatNs (ts.take (j + 1)) = flatNs (ts.take j) ++ flatT t) := flatNs_take ht
      have hlen : (ls ++ flatNs (ts.take j)).length + (flatT t).length ≤ 4000000 := by
        have h1 := flatNs_le ts (j + 1)
        rw [HT.out, List.length_append] at h1
        have := HB.out.2.2.2.2.1
        rw [List.length_append]; omega
      have hsz := hC.fr.size
      have HC : Hid (∀ o : Obj, Calls Tryd.prog 19 #[pG g, nd8 k ⟨lt, la, lc⟩ (.slice aB' nB' cB') (.slice aN nN cN) li (.slice aK nK cK), .int .i64 (r : Int)] (wr.alloc o) fun e w' => e = .returned (.bool true) ∧ ∃ v', DI base g v ls ts w (j + 1) v' w') := fun o => by
        have hkp := (keeps_fr HB.out.1 HB.out.2.1 HB.out.2.2.2.1 hC.fr).trans (keeps_alloc (H := fun j => B ≤ j) wr o)
        refine (HIH.out base g v1 k ⟨lt, la, lc⟩ _ _ li _ t _ (wr.alloc o) HB.out.1 HB.out.2.1 (by have := HB.out.2.2.1; simp; omega) (hC.fl.alloc o) (NdAt.keeps hkp _ _ _ hat) hlen (smNs_get HB.out.2.2.2.2.2.1 ht)).mono fun e w' hp => ⟨hp.1, ?_⟩
        obtain ⟨v2, q1, q2, q3⟩ := FLPost.trans (hC.fr.trans (Fr.alloc wr o)) hC.own hp.2
        refine ⟨v2, ?_, q2, q3⟩
        rw [HT.out, ← List.append_assoc]; exact q1
      clear d0 d1 d2 d3 d4 d5 d6 d7 hat hC hbg hnb hjl hgb ht hlen hsz HJ HT
      go_wp2_with fail
      refine (HC.out _).mono ?_
      rintro e w4 ⟨rfl, hP⟩
      have H4 : Hid (∃ v', DI base g v ls ts w (j + 1) v' w4) := hP
      clear hP c0 c1 c2 c3 c4 c5 c6 c7 HC
      go_wp2_with fail
      go_roundw
      case rel => exact ⟨j + 1, by omega, by go_num, H4⟩
      case measure => simp [intOf]; omega
    · have hnl : ¬ (j : Int) < (m : Int) := by omega
      have H4 : Hid (FLPost base g v (ls ++ flatNs ts) w wr) := by
        obtain ⟨v1, hC⟩ := HJ.out
        have h1 := hC.fl
        rw [List.take_of_length_le (by have := HB.out.2.2.2.2.2.2; omega)] at h1
        exact ⟨v1, h1, hC.fr, hC.own⟩
      clear HJ
      go_wp2
      go_ret
      exact ⟨rfl, H4.out⟩
/-- Blocks with any room are flattened. -/
theorem blks_any (B : Nat) : ∀ r : Nat, r ≤ 41 → BlksC B r
  | 0, _ => blks_of B 0 (blk_zero B)
  | r + 1, h => blks_of B (r + 1) (blk_succ B r (by omega) (blks_any B r (by omega)))
theorem blk_any (B r : Nat) (h : r ≤ 41) : BlkC B r := by
  cases r with
  | zero => exact blk_zero B
  | succ r => exact blk_succ B r (by omega) (blks_any B r (by omega))
end Go.Proofs.YtbciedpjaajhcaaDoor

/-
  Flat.
-/
namespace Go.Proofs.YtbciedpjaajhcaaDoor
open Go.RowKit Go.Shelf
open Ex (Fr)

set_option maxRecDepth 20000 in
set_option maxHeartbeats 400000 in
theorem flat_any (vN : Value) (ts : List Nd) (w : World) (hN : NdsAt H0 w 32 vN ts) (hn : (flatNs ts).length ≤ 4000000) (hsm : smNs ts) :
    Calls Tryd.prog 9 #[vN] w fun e w' => ∃ v', e = .returned v' ∧ w'.ownsRow w.heap.size 43 3 v' (flatNs ts).length (lzsV (flatNs ts)) ∧ Below w.heap.size w w' := by
  obtain ⟨W0, hW0⟩ : ∃ W0, W0 = w.alloc (.cells #[.slice none 0 0] 57) := ⟨_, rfl⟩
  obtain ⟨g, hg⟩ : ∃ g, g = w.heap.size := ⟨_, rfl⟩
  have hFL : FL g g nilS [] W0 := by
    rw [hW0, hg]
    exact ⟨alloc_last _ _, owns_nil _ _ _ _, by simp⟩
  have hb0 : Below w.heap.size w W0 := by rw [hW0]; exact (Below.refl _ _).alloc (Nat.le_refl _) _
  have hN0 : NdsAt (fun j => g ≤ j) w 32 vN ts := hN.keeps ⟨Nat.le_refl _, fun _ _ _ => rfl, fun j hj h => by rw [hg] at h; omega⟩
  obtain ⟨css, hR, hts⟩ := hN0
  obtain ⟨aB, cB, rfl⟩ := row_slice hR
  obtain ⟨m, hm⟩ : ∃ m, m = css.length := ⟨_, rfl⟩
  have hmb : m = ts.length := hm.trans hts.length
  have HB : Hid (FL g g nilS [] W0 ∧ (flatNs ts).length ≤ 4000000 ∧ smNs ts ∧ m = ts.length ∧ Below w.heap.size w W0 ∧ g = w.heap.size ∧ Keeps (fun j => g ≤ j) (fun j => g ≤ j) w W0) := ⟨hFL, hn, hsm, hmb, hb0, hg, Keeps.of_below hb0⟩
  have hm4 : m ≤ 4000000 := by have := flatNs_len ts; omega
  have HPK : Hid (∀ j t, ts[j]? = some t → ∃ gb k lt la lc aB' nB' cB' aN nN cN li aK nK cK, aB = some ⟨gb, 0, none⟩ ∧ gb < w.heap.size ∧ w.cell? ⟨gb, j * 8, none⟩ = some (.int .i64 k) ∧ w.cell? ⟨gb, j * 8 + 1, none⟩ = some (.string lt) ∧ w.cell? ⟨gb, j * 8 + 2, none⟩ = some (.int .i64 la) ∧ w.cell? ⟨gb, j * 8 + 3, none⟩ = some (.bool lc) ∧ w.cell? ⟨gb, j * 8 + 4, none⟩ = some (.slice aB' nB' cB') ∧ w.cell? ⟨gb, j * 8 + 5, none⟩ = some (.slice aN nN cN) ∧ w.cell? ⟨gb, j * 8 + 6, none⟩ = some (.string li) ∧ w.cell? ⟨gb, j * 8 + 7, none⟩ = some (.slice aK nK cK) ∧ NdAt (fun j => g ≤ j) w 32 (ndC k ⟨lt, la, lc⟩ (.slice aB' nB' cB') (.slice aN nN cN) li (.slice aK nK cK)) t) := by
    intro j t ht
    obtain ⟨cc, hcc, hat⟩ := hts.get ht
    obtain ⟨k, ⟨lt, la, lc⟩, aB', nB', cB', aN, nN, cN, li, aK, nK, cK, e⟩ := nd_cells hat
    subst e
    rcases hR with ⟨_, rfl⟩ | ⟨gb, c', hv, _, hg, hng, hcells⟩
    · simp at hcc
    · injection hv with q1 q2 q3
      obtain ⟨_, hcell⟩ := hcells j _ hcc
      exact ⟨gb, k, lt, la, lc, aB', nB', cB', aN, nN, cN, li, aK, nK, cK, q1, hg, hcell 0 _ rfl, hcell 1 _ rfl, hcell 2 _ rfl, hcell 3 _ rfl, hcell 4 _ rfl, hcell 5 _ rfl, hcell 6 _ rfl, hcell 7 _ rfl, hat⟩
  have HI0 : Hid (DI g g nilS [] ts W0 0 nilS W0) := ⟨by rw [List.take_zero, flatNs, List.append_nil]; exact hFL, Fr.refl _ _, .inl rfl⟩
  rw [← hm]
  clear hR hts hm hmb hn hsm hFL hb0 hN
  go_enter Tryd.func9, Tryd.ntmps9
  go_wp2_with fail
  rw [← hW0, ← hg]
  clear hW0 hg
  go_loopw [9] (fun vi wr => ∃ j : Nat, j ≤ m ∧ vi = .int .i64 (j : Int) ∧ Hid (∃ v', DI g g nilS [] ts W0 j v' wr)) (fun vi _ => m - (intOf vi).toNat)
  case atStart => exact ⟨0, Nat.zero_le _, rfl, nilS, HI0.out⟩
  case round =>
    obtain ⟨j, hj, rfl, HJ⟩ := hrel
    obtain ⟨v1, hC⟩ := HJ.out
    obtain ⟨a1, c1', rfl⟩ := V.owns_slice hC.fl.row
    obtain ⟨n1, hn1⟩ : ∃ n1, n1 = ([] ++ flatNs (ts.take j)).length := ⟨_, rfl⟩
    by_cases hlt : j < m
    · have hil : (j : Int) < (m : Int) := by omega
      have hjl : j < ts.length := by rw [← HB.out.2.2.2.1]; exact hlt
      obtain ⟨t, ht⟩ : ∃ t, ts[j]? = some t := ⟨_, List.getElem?_eq_getElem hjl⟩
      obtain ⟨gb, k, lt, la, lc, aB', nB', cB', aN, nN, cN, li, aK, nK, cK, rfl, hgb, d0, d1, d2, d3, d4, d5, d6, d7, hat⟩ := HPK.out j t ht
      have hbg : wr.heap[gb]? = w.heap[gb]? := (hC.fr.block gb (by have := HB.out.2.2.2.2.1.size; omega) (fun e => e.elim (fun e => by have := HB.out.2.2.2.2.2.1; omega) (fun e => by cases e))).trans (HB.out.2.2.2.2.1.block gb hgb)
      have c0 := (cell_same hbg (i := j * 8)).trans d0
      have c1 := (cell_same hbg (i := j * 8 + 1)).trans d1
      have c2 := (cell_same hbg (i := j * 8 + 2)).trans d2
      have c3 := (cell_same hbg (i := j * 8 + 3)).trans d3
      have c4 := (cell_same hbg (i := j * 8 + 4)).trans d4
      have c5 := (cell_same hbg (i := j * 8 + 5)).trans d5
      have c6 := (cell_same hbg (i := j * 8 + 6)).trans d6
      have c7 := (cell_same hbg (i := j * 8 + 7)).trans d7
      have e1 : wr.cell? ⟨g, 0, none⟩ = some (.slice a1 n1 c1') := by rw [hn1]; exact cell_in hC.fl.blk 0 rfl
      have HT : Hid (flatNs (ts.take (j + 1)) = flatNs (ts.take j) ++ flatT t) := flatNs_take ht
      have hlen : ([] ++ flatNs (ts.take j)).length + (flatT t).length ≤ 4000000 := by
        have h1 := flatNs_le ts (j + 1)
        rw [HT.out, List.length_append] at h1
        have := HB.out.2.1
        rw [List.nil_append]; omega
      have HC : Hid (∀ o : Obj, Calls Tryd.prog 19 #[pG g, nd8 k ⟨lt, la, lc⟩ (.slice aB' nB' cB') (.slice aN nN cN) li (.slice aK nK cK), .int .i64 32] (wr.alloc o) fun e w' => e = .returned (.bool true) ∧ ∃ v', DI g g nilS [] ts W0 (j + 1) v' w') := fun o => by
        have hkp := (HB.out.2.2.2.2.2.2.trans (keeps_fr (Nat.le_refl _) (Nat.le_refl _) HB.out.1 hC.fr)).trans (keeps_alloc (H := fun j => g ≤ j) wr o)
        refine (blk_any g 32 (by omega) g g _ k ⟨lt, la, lc⟩ _ _ li _ t _ (wr.alloc o) (Nat.le_refl _) (Nat.le_refl _) (hC.fl.alloc o).low (hC.fl.alloc o) (NdAt.keeps hkp _ _ _ hat) hlen (smNs_get HB.out.2.2.1 ht)).mono fun e w' hp => ⟨hp.1, ?_⟩
        obtain ⟨v2, q1, q2, q3⟩ := FLPost.trans (hC.fr.trans (Fr.alloc wr o)) hC.own hp.2
        refine ⟨v2, ?_, q2, q3⟩
        rw [HT.out, ← List.append_assoc]; exact q1
      have hgl : g < wr.heap.size := (Array.getElem?_eq_some_iff.1 hC.fl.blk).1
      have hn4 : n1 ≤ 4000000 := by omega
      clear d0 d1 d2 d3 d4 d5 d6 d7 hat hC hbg hjl hgb ht hlen HJ HT hn1
      go_wp2_with fail
      refine (HC.out _).mono ?_
      rintro e w4 ⟨rfl, hP⟩
      have H4 : Hid (∃ v', DI g g nilS [] ts W0 (j + 1) v' w4) := hP
      clear hP c0 c1 c2 c3 c4 c5 c6 c7 HC e1
      go_wp2_with fail
      go_roundw
      case rel => exact ⟨j + 1, by omega, by go_num, H4⟩
      case measure => simp [intOf]; omega
    · have hnl : ¬ (j : Int) < (m : Int) := by omega
      have e1 : wr.cell? ⟨g, 0, none⟩ = some (.slice a1 n1 c1') := by rw [hn1]; exact cell_in hC.fl.blk 0 rfl
      have H4 : Hid (wr.ownsRow w.heap.size 43 3 (.slice a1 n1 c1') (flatNs ts).length (lzsV (flatNs ts)) ∧ Below w.heap.size w wr) := by
        have h1 := hC.fl.row
        have h2 := hC.fr.below (base := w.heap.size) HB.out.2.2.2.2.1.size (fun j hj => hj.elim (fun e => by have := HB.out.2.2.2.2.2.1; omega) (fun e => by cases e))
        rw [← hn1, List.take_of_length_le (by have := HB.out.2.2.2.1; omega), List.nil_append] at h1
        rw [List.take_of_length_le (by have := HB.out.2.2.2.1; omega), List.nil_append] at hn1
        rw [← HB.out.2.2.2.2.2.1]
        rw [← HB.out.2.2.2.2.2.1] at h2
        rw [hn1] at h1 ⊢
        exact ⟨h1, (HB.out.2.2.2.2.2.1 ▸ HB.out.2.2.2.2.1).trans h2⟩
      clear HJ hC hn1
      go_wp2
      go_ret
      exact ⟨_, rfl, H4.out⟩
end Go.Proofs.YtbciedpjaajhcaaDoor

/-
  The lines of the blocks that short lines give are short.
-/
namespace Go.Proofs.YtbciedpjaajhcaaDoor
open Go.RowKit Go.Shelf

theorem sizeDotLe {w t : ByteArray} (h : ¬ kindW w = 0) (ht : t.size ≤ 2000) : (dotT w t).size ≤ 4000 := by
  have hw : w.size ≤ 10 := by
    rcases kind_casesF h with rfl | rfl | rfl | rfl | rfl | rfl | rfl | rfl | rfl | rfl <;> decide
  have hb : ∀ x : ByteArray, (bl x).length = x.size := fun x => by simp [bl]
  have ha : ∀ l : List UInt8, (ba l).size = l.length := fun l => by simp [ba, ByteArray.size]
  unfold dotT
  split
  · rw [ha, List.length_cons, hb]; omega
  · rw [ha, List.length_cons, List.length_append, List.length_cons, hb, hb]; omega
def shortF : Fm → Prop
  | .cn _ bs w t a ks => shortL (flatBs (bs ++ [.mk w t a ks]))
  | .fr l _ _ ks => l.text.size ≤ 4000 ∧ shortL (flatNs ks)
def shortS (s : Sx) : Prop := shortL (flatNs s.done) ∧ ∀ f ∈ s.op, shortF f
theorem short_one {t : Nd} : shortL (flatNs [t]) ↔ shortL (flatT t) := by unfold flatNs flatNs; rw [List.append_nil]
theorem addShort {f : Fm} {n : Nd} (h : shortF f) (hn : shortL (flatT n)) : shortF (f.add n) := by
  cases f with
  | cn l bs w t a ks =>
    have h : shortL (flatBs (bs ++ [.mk w t a ks])) := h
    show shortL (flatBs (bs ++ [.mk w t a (ks ++ [n])]))
    rw [flatBs_append, shortL_app, flatBs, flatBs, List.append_nil, flatB] at h ⊢
    rw [shortL_cons] at h ⊢
    exact ⟨h.1, h.2.1, by rw [flatNs_append, shortL_app]; exact ⟨h.2.2, short_one.2 hn⟩⟩
  | fr l ns li ks =>
    have h : l.text.size ≤ 4000 ∧ shortL (flatNs ks) := h
    show l.text.size ≤ 4000 ∧ shortL (flatNs (ks ++ [n]))
    exact ⟨h.1, by rw [flatNs_append, shortL_app]; exact ⟨h.2, short_one.2 hn⟩⟩
theorem closeShort {f : Fm} (h : shortF f) : shortL (flatT f.close) := by
  cases f with
  | cn l bs w t a ks =>
    unfold Fm.close flatT
    rw [shortL_app]
    refine ⟨h, shortL_cons.2 ⟨?_, fun x hx => by simp at hx⟩⟩
    show (dotT kEndif E).size ≤ 4000
    rw [dot_endif]; decide
  | fr l ns li ks =>
    unfold Fm.close flatT
    rw [shortL_cons, shortL_app]
    refine ⟨h.1, h.2, shortL_cons.2 ⟨?_, fun x hx => by simp at hx⟩⟩
    show (dotT kEndfor E).size ≤ 4000
    rw [dot_endfor]; decide
theorem short_addTo {done : List Nd} {b : List Fm} {n : Nd} (h1 : shortL (flatNs done)) (h2 : ∀ f ∈ b, shortF f) (hn : shortL (flatT n)) : shortS (Sx.addTo done b n) := by
  unfold Sx.addTo
  cases hb : b.getLast? with
  | none => exact ⟨by show shortL (flatNs (done ++ [n])); rw [flatNs_append, shortL_app]; exact ⟨h1, short_one.2 hn⟩, h2⟩
  | some f =>
    obtain ⟨l, rfl⟩ := List.getLast?_eq_some_iff.1 hb
    refine ⟨h1, fun x hx => ?_⟩
    have hx : x ∈ (l ++ [f]).dropLast ++ [f.add n] := hx
    rw [List.dropLast_concat] at hx
    rcases List.mem_append.1 hx with hx | hx
    · exact h2 x (by simp [hx])
    · simp at hx; subst hx; exact addShort (h2 f (by simp)) hn
theorem short_step {s s' : Sx} {x : Lz} (h : shortS s) (hx : x.text.size ≤ 2000) (hs : s.step x = .ok s') : shortS s' := by
  obtain ⟨done, b⟩ := s
  obtain ⟨h1, h2⟩ := h
  have h1 : shortL (flatNs done) := h1
  have h2 : ∀ f ∈ b, shortF f := h2
  have hd := (dir_size x).2
  unfold Sx.step at hs
  rcases kind_leF (dirW x) with hk | hk | hk | hk | hk | hk
  · rw [hk] at hs
    cases hs
    refine short_addTo h1 h2 ?_
    unfold flatT
    exact shortL_cons.2 ⟨by omega, fun x hx => by simp at hx⟩
  · rw [hk] at hs
    by_cases hb : b.length = 32
    · simp only [if_pos hb] at hs; cases hs
    · simp only [if_neg hb] at hs
      cases hs
      refine ⟨h1, fun f hf => ?_⟩
      rcases List.mem_append.1 hf with hf | hf
      · exact h2 f hf
      · simp at hf; subst hf
        show shortL (flatBs [.mk _ _ _ []])
        unfold flatBs flatBs flatB flatNs
        exact shortL_cons.2 ⟨sizeDotLe (by rw [hk]; decide) (by omega), fun x hx => by simp at hx⟩
  · rw [hk] at hs
    cases hf : forText (dirX x) with
    | none => simp only [hf] at hs; cases hs
    | some p =>
      obtain ⟨ns, li⟩ := p
      simp only [hf] at hs
      by_cases hb : b.length = 32
      · simp only [if_pos hb] at hs; cases hs
      · simp only [if_neg hb] at hs
        cases hs
        refine ⟨h1, fun f hf => ?_⟩
        rcases List.mem_append.1 hf with hf | hf
        · exact h2 f hf
        · simp at hf; subst hf
          exact ⟨by omega, fun x hx => by unfold flatNs at hx; simp at hx⟩
  · rw [hk] at hs
    simp only at hs
    split at hs
    · rename_i l bs w0 t0 a0 ks hg
      obtain ⟨d, rfl⟩ := List.getLast?_eq_some_iff.1 hg
      split at hs
      · cases hs
      · cases hs
        refine ⟨h1, fun f hf => ?_⟩
        have hf : f ∈ (d ++ [Fm.cn l bs w0 t0 a0 ks]).dropLast ++ [_] := hf
        rw [List.dropLast_concat] at hf
        rcases List.mem_append.1 hf with hf | hf
        · exact h2 f (by simp [hf])
        · simp at hf; subst hf
          have h3 : shortL (flatBs (bs ++ [.mk w0 t0 a0 ks])) := h2 (.cn l bs w0 t0 a0 ks) (by simp)
          show shortL (flatBs ((bs ++ [.mk w0 t0 a0 ks]) ++ [.mk _ _ _ []]))
          rw [flatBs_append, shortL_app]
          refine ⟨h3, ?_⟩
          unfold flatBs flatBs flatB flatNs
          exact shortL_cons.2 ⟨sizeDotLe (by rw [hk]; decide) (by omega), fun x hx => by simp at hx⟩
    · cases hs
  · rw [hk] at hs
    simp only at hs
    split at hs
    · rename_i l bs w0 t0 a0 ks hg
      obtain ⟨d, rfl⟩ := List.getLast?_eq_some_iff.1 hg
      split at hs
      · cases hs
      · cases hs
        rw [List.dropLast_concat]
        exact short_addTo h1 (fun f hf => h2 f (by simp [hf])) (closeShort (h2 _ (by simp)))
    · cases hs
  · rw [hk] at hs
    simp only at hs
    split at hs
    · rename_i l ns li ks hg
      obtain ⟨d, rfl⟩ := List.getLast?_eq_some_iff.1 hg
      split at hs
      · cases hs
      · cases hs
        rw [List.dropLast_concat]
        exact short_addTo h1 (fun f hf => h2 f (by simp [hf])) (closeShort (h2 _ (by simp)))
    · cases hs
theorem short_run : ∀ (l : List Lz) {s : Sx} {ts : List Nd}, shortS s → (∀ x ∈ l, x.text.size ≤ 2000) → s.run l = .good ts → shortL (flatNs ts)
  | [], s, ts, h, _, hr => by
    unfold Sx.run at hr
    split at hr
    · cases hr
    · cases hr; exact h.1
  | x :: l, s, ts, h, hl, hr => by
    unfold Sx.run at hr
    split at hr
    · cases hr
    · rename_i s' hs
      exact short_run l (short_step h (hl x (by simp)) hs) (fun y hy => hl y (by simp [hy])) hr
/-- The lines of the blocks of short lines are short. -/
theorem build_short {l : List Lz} {ts : List Nd} (h : buildL l = .good ts) (hl : ∀ x ∈ l, x.text.size ≤ 2000) : shortL (flatNs ts) :=
  short_run l (s := ⟨[], []⟩) ⟨fun x hx => by unfold flatNs at hx; simp at hx, fun f hf => by simp at hf⟩ hl h
end Go.Proofs.YtbciedpjaajhcaaDoor
