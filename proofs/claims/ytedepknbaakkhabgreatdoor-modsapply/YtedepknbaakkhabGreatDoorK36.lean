/-
  MPa MA1 MA2
-/
import Derived.Test.YtedepknbaakkhabGreatDoorK35
import Derived.Test.YtedepknbaakkhabGreatDoorK07
import Derived.Test.YtedepknbaakkhabGreatDoorK11
import Derived.Test.YtedepknbaakkhabGreatDoorK13
import Derived.Lib.LaidTab
import Derived.Lib.ItoaNum
set_option maxRecDepth 20000
namespace Go.Proofs.YtedepknbaakkhabGreatDoor
open Go.RowKit Go.Shelf
structure Held (lo : Nat) (w : World) (ms : List Md) (us : List Um) : Prop where
  len : ms.length = us.length
  fit : ∀ i (h1 : i < ms.length) (h2 : i < us.length), Fits ms[i] us[i] lo w
  own : ∀ i j (h1 : i < ms.length) (h2 : j < ms.length), i ≠ j → ms[i].ex ≠ none → ms[i].ex ≠ ms[j].ex
  non : ∀ u ∈ us, u.rx = none → u.md.ex = none
theorem fits_ex {m : Md} {u : Um} {lo : Nat} {w : World} (h : Fits m u lo w) (hg : u.rx = none → u.md.ex = none) : m.ex = none ∨ ∃ r : Nat, m.ex = some ⟨r, 0, none⟩ ∧ lo ≤ r ∧ r < w.heap.size := by
  obtain ⟨md, rx⟩ := u
  cases rx with
  | none => exact .inl (by rw [show m = md from h]; exact hg rfl)
  | some p =>
    obtain ⟨t, k⟩ := p
    obtain ⟨r, h1, h2, h3⟩ := h
    exact .inr ⟨r, by rw [h2], h1, h3.lt⟩
theorem fits_mono {m : Md} {u : Um} {lo lo' : Nat} {w : World} (h : Fits m u lo w) (hl : lo' ≤ lo) : Fits m u lo' w := by
  obtain ⟨md, rx⟩ := u
  cases rx with
  | none => exact h
  | some p =>
    obtain ⟨t, k⟩ := p
    obtain ⟨r, h1, h2, h3⟩ := h
    exact ⟨r, Nat.le_trans hl h1, h2, h3⟩
theorem Held.nil (lo : Nat) (w : World) : Held lo w [] [] := ⟨rfl, fun i h => by simp at h, fun i j h => by simp at h, fun u h => by simp at h⟩
theorem Held.below {lo : Nat} {w w' : World} {ms : List Md} {us : List Um} (h : Held lo w ms us) (hb : Below w.heap.size w w') : Held lo w' ms us :=
  ⟨h.len, fun i h1 h2 => fits_below (h.fit i h1 h2) hb, h.own, h.non⟩
theorem Held.snoc {lo : Nat} {w w' : World} {ms : List Md} {us : List Um} {m : Md} {u : Um} (h : Held lo w ms us) (hb : Below w.heap.size w w') (hf : Fits m u w.heap.size w') (hlo : lo ≤ w.heap.size) (hg : u.rx = none → u.md.ex = none) : Held lo w' (ms ++ [m]) (us ++ [u]) := by
  have hlen := h.len
  have hold : ∀ i (h1 : i < ms.length), ms[i].ex = none ∨ ∃ r : Nat, ms[i].ex = some ⟨r, 0, none⟩ ∧ r < w.heap.size := fun i h1 => by
    rcases fits_ex (h.fit i h1 (by omega)) (h.non _ (List.getElem_mem _)) with h2 | ⟨r, h2, _, h3⟩
    · exact .inl h2
    · exact .inr ⟨r, h2, h3⟩
  have hnew := fits_ex hf hg
  refine ⟨by simp [hlen], fun i h1 h2 => ?_, fun i j h1 h2 hij hne => ?_, fun v hv => ?_⟩
  · by_cases hi : i < ms.length
    · rw [List.getElem_append_left hi, List.getElem_append_left (by omega)]
      exact fits_below (h.fit i hi (by omega)) hb
    · simp only [List.length_append, List.length_singleton] at h1
      obtain rfl : i = ms.length := by omega
      rw [List.getElem_append_right (Nat.le_refl _), List.getElem_append_right (by omega)]
      simp only [Nat.sub_self, hlen, List.getElem_cons_zero]
      exact fits_mono hf hlo
  · simp only [List.length_append, List.length_singleton] at h1 h2
    by_cases hi : i < ms.length
    · rw [List.getElem_append_left hi] at hne ⊢
      by_cases hj : j < ms.length
      · rw [List.getElem_append_left hj]; exact h.own i j hi hj hij hne
      · obtain rfl : j = ms.length := by omega
        rw [List.getElem_append_right (Nat.le_refl _)]
        simp only [Nat.sub_self, List.getElem_cons_zero]
        rcases hold i hi with h3 | ⟨r, h3, h4⟩
        · exact absurd h3 hne
        · rcases hnew with h5 | ⟨r', h5, h6, _⟩
          · rw [h3, h5]; exact fun e => by cases e
          · rw [h3, h5]; intro e; have e2 := congrArg (fun o : Option Addr => o.map Addr.block) e; simp at e2; omega
    · obtain rfl : i = ms.length := by omega
      have hj : j < ms.length := by omega
      rw [List.getElem_append_right (Nat.le_refl _)] at hne ⊢
      simp only [Nat.sub_self, List.getElem_cons_zero] at hne ⊢
      rw [List.getElem_append_left hj]
      rcases hnew with h5 | ⟨r', h5, h6, _⟩
      · exact absurd h5 hne
      · rcases hold j hj with h3 | ⟨r, h3, h4⟩
        · rw [h5, h3]; exact fun e => by cases e
        · rw [h5, h3]; intro e; have e2 := congrArg (fun o : Option Addr => o.map Addr.block) e; simp at e2; omega
  · rcases List.mem_append.1 hv with hv | hv
    · exact h.non v hv
    · obtain rfl : v = u := by simpa using hv
      exact hg
theorem fits_wrote {m : Md} {u : Um} {lo b : Nat} {w w' : World} (h : Fits m u lo w) (ho : X.Wrote b w w') {T : TypeId} (hT : ¬ 113 = T ∧ ¬ 148 = T ∧ ¬ 146 = T) {cs : Array Value} (hb : w.heap[b]? = some (.cells cs T (0, 0))) : Fits m u lo w' := by
  obtain ⟨md, rx⟩ := u
  cases rx with
  | none => exact h
  | some p =>
    obtain ⟨t, k⟩ := p
    obtain ⟨r, h1, h2, h3⟩ := h
    exact ⟨r, h1, h2, made_wrote h3 ho hT hb⟩
theorem Held.wrote {lo b : Nat} {w w' : World} {ms : List Md} {us : List Um} (h : Held lo w ms us) (ho : X.Wrote b w w') {T : TypeId} (hT : ¬ 113 = T ∧ ¬ 148 = T ∧ ¬ 146 = T) {cs : Array Value} (hb : w.heap[b]? = some (.cells cs T (0, 0))) : Held lo w' ms us :=
  ⟨h.len, fun i h1 h2 => fits_wrote (h.fit i h1 h2) ho hT hb, h.own, h.non⟩
theorem Held.grown {lo : Nat} {w w' : World} {ms : List Md} {us : List Um} (h : Held lo w ms us) {base n z : Nat} {v : Value} {T : TypeId} {xs : List Value} (hr : w.ownsRow base T z v n xs) (hg : w.grownBy w' v.ownBlock) (hT : ¬ 113 = T ∧ ¬ 148 = T ∧ ¬ 146 = T) : Held lo w' ms us := by
  cases hv : v.ownBlock with
  | none => exact h.below ⟨hg.os, hg.tape, hg.output, hg.size, fun j hj => hg.block j hj (by rw [hv]; simp)⟩
  | some g =>
    obtain ⟨cur, hc⟩ := row_type hr hv
    exact h.wrote (b := g) ⟨hg.os, hg.tape, hg.output, hg.size, fun j hj hne => hg.block j hj (by rw [hv]; intro e; exact hne (Option.some.inj e))⟩ hT hc
def ParsePost (r : List Um ⊕ (Nat × Nat)) (w : World) (e : Ending) (w' : World) : Prop := Below w.heap.size w w' ∧ match r with
  | .inr f => e = .returned (.tuple #[.slice none 0 0, .agg #[.int .i64 (f.1 : Int), .int .i64 (f.2 : Int)]])
  | .inl us => ∃ v ms, e = .returned (.tuple #[v, .agg #[.int .i64 0, .int .i64 0]]) ∧ w'.ownsRow w.heap.size 37 12 v us.length (modsV ms) ∧ Held w.heap.size w' ms us
def upon (us : List Um) : List Um ⊕ (Nat × Nat) → List Um ⊕ (Nat × Nat)
  | .inl vs => .inl (us ++ vs)
  | .inr f => .inr f
theorem flt_new (w : World) (a b : Int) : Hid (∀ W, Below (w.heap.size + 1) (w.alloc (.cells #[.int .i64 0, .int .i64 0] 28)) W → W.heap[w.heap.size]? = some (.cells #[.int .i64 0, .int .i64 0] 28 (0, 0)) ∧ Below w.heap.size w W ∧ ((W.setCell ⟨w.heap.size, 0, none⟩ (.int .i64 a)).setCell ⟨w.heap.size, 1, none⟩ (.int .i64 b)).heap[w.heap.size]? = some (.cells #[.int .i64 a, .int .i64 b] 28 (0, 0)) ∧ Below w.heap.size w ((W.setCell ⟨w.heap.size, 0, none⟩ (.int .i64 a)).setCell ⟨w.heap.size, 1, none⟩ (.int .i64 b))) := fun W hB => by
  have h1 : W.heap[w.heap.size]? = some (.cells #[.int .i64 0, .int .i64 0] 28 (0, 0)) := by
    rw [hB.block w.heap.size (by omega)]; exact heap_alloc_new w _
  have h2 : Below w.heap.size w W := ((Below.refl _ w).alloc (Nat.le_refl _) _).trans (hB.mono (by omega))
  exact ⟨h1, h2, heap_set (heap_set h1 _) _, (h2.setCell (Nat.le_refl _) _).setCell (Nat.le_refl _) _⟩
set_option maxHeartbeats 3200000 in
theorem parse_any (s : ByteArray) (w : World) (hs : s.size ≤ 1000000) (h1 : 1 ≤ s.size) (hmx : Mx w) (hE : Ey w) :
    Calls Tryz.prog 6 #[.string s] w (ParsePost (allU (bl s)) w) := by
  have t1 : ¬ s.toList = [] := by rw [Lib.toList_data]; intro e; have := bl_length s; unfold bl at this; rw [e] at this; simp at this; omega
  have t2 : s.toList.isEmpty = false := by cases hh : s.toList with | nil => exact absurd hh t1 | cons => rfl
  have HRd : Hid (∀ k W, Below w.heap.size w W → Calls Tryz.prog 10 #[.string (s.extract k s.size)] W (RuPost (readU ((bl s).drop k)) W)) := fun k W hB => by
    have := read_any_ (s.extract k s.size) W (by simp; omega) (hmx.below hB hmx.pos) (hE.below hB hE.pos)
    rw [bl_rest] at this; exact this
  obtain ⟨R, hR⟩ : ∃ R, R = allU (bl s) := ⟨_, rfl⟩
  rw [← hR]
  have HR : Hid (R = upon [] (parseU (bl s) 0 0)) := by
    unfold Hid; rw [hR]; unfold allU
    rw [if_neg (fun e => t1 (by rw [Lib.toList_data]; exact e))]
    cases parseU (bl s) 0 0 <;> rfl
  clear hmx hE hR
  obtain ⟨i0, hi, hz0, hz1, hz2⟩ := info_of infoMd
  go_enter Tryz.func6, Tryz.ntmps6
  go_wp2
  go_loopw [4, 5] (fun v4 vi wr => ∃ (k c : Nat) (dn : List Md) (us : List Um), k ≤ 2 * s.size + 1 ∧ vi = .int .i64 k ∧ c ≤ 32 ∧ Hid (c = us.length ∧ Held w.heap.size wr dn us ∧ R = upon us (parseU (bl s) k c)) ∧ wr.ownsRow (w.heap.size + 1) 37 12 v4 c (modsV dn) ∧ Below (w.heap.size + 1) (w.alloc (.cells #[.int .i64 0, .int .i64 0] 28)) wr)
    (fun _ vi _ => 2 * s.size + 2 - (intOf vi).toNat)
  case atStart => exact ⟨0, 0, [], [], Nat.zero_le _, rfl, Nat.zero_le _, ⟨rfl, Held.nil _ _, HR.out⟩, World.ownsRow_nil _ _ _ _, Below.refl _ _⟩
  case round =>
    obtain ⟨k, c, dn, us, hk, rfl, hc32, HD, hrow, hb⟩ := hrel
    obtain ⟨a4, cap4, hv4⟩ := owns_slice hrow
    subst hv4
    have hbs : w.heap.size + 1 ≤ wr.heap.size := by have := hb.size; simpa using this
    have HLow : Hid (Below w.heap.size w wr) := ((Below.refl _ w).alloc (Nat.le_refl _) _).trans (hb.mono (by omega))
    by_cases hlt : k ≤ s.size
    · have hil : (k : Int) ≤ (s.size : Int) := by omega
      have h0 : (0 : Int) ≤ (k : Int) := by omega
      have hkb : k ≤ 1000000 := by omega
      have hkl : k ≤ (bl s).length := by rw [bl_length]; exact hlt
      cases hr : readU ((bl s).drop k) with
      | bad why =>
        have HRd1 := HRd.out k wr HLow.out
        rw [hr] at HRd1
        have HR2 : Hid (R = .inr (why, k)) := by unfold Hid; rw [HD.out.2.2, parse_bad hkl hr]; rfl
        have hwhy : why ≠ 0 := by rcases readU_bad hr with h | h <;> omega
        have hw0 : ((why : Int) == 0) = false := by rw [beq_eq_false_iff_ne]; omega
        have hw0' : ¬ (why : Int) = 0 := by omega
        have HRdx : Hid (Calls Tryz.prog 10 #[.string (s.extract k s.size)] wr (RuPost (.bad why) wr)) := HRd1
        clear HRd1 hr HD hwhy hkl
        go_wp2_with fail
        refine HRdx.out.mono ?_
        rintro e w1 ⟨hb1, he1⟩
        dsimp only at he1
        subst he1
        dsimp only [Rd.val]
        have hb1' := hb.trans (hb1.mono hbs)
        have hbs1 := hb1'.size
        rw [World.size_alloc] at hbs1
        clear hb1 hrow
        obtain ⟨w3, hw3⟩ : ∃ w3, w3 = w1.alloc (.cells zeroMd 37) := ⟨_, rfl⟩
        have hb3 : Below (w.heap.size + 1) (w.alloc (.cells #[.int .i64 0, .int .i64 0] 28)) w3 := by rw [hw3]; exact hb1'.alloc hbs1 _
        obtain ⟨hblk, hlow3, hF, hFb⟩ := (flt_new w (why : Int) (k : Int)).out w3 hb3
        have y0 : w3.cell? ⟨w.heap.size, 0, none⟩ = some (.int .i64 0) := by simp [World.cell?, hblk]
        have y1 : w3.cell? ⟨w.heap.size, 1, none⟩ = some (.int .i64 0) := by simp [World.cell?, hblk]
        have yf : ∀ i, w3.frozen? ⟨w.heap.size, i, none⟩ = false := fun i => by simp [World.frozen?, hblk]
        have HQ : Hid _ := And.intro hF hFb
        clear hblk hlow3 hF hFb hb1' hb3 hb
        go_upto_region 7 with fail
        rw [show w1.alloc (.cells zeroMd 37) = w3 from hw3.symm]
        clear hw3
        go_wp2
        obtain ⟨W, hW⟩ : ∃ W, W = (w3.setCell ⟨w.heap.size, 0, none⟩ (.int .i64 (why : Int))).setCell ⟨w.heap.size, 1, none⟩ (.int .i64 (k : Int)) := ⟨_, rfl⟩
        have hq := HQ.out
        rw [← hW] at hq ⊢
        have q0 : W.cell? ⟨w.heap.size, 0, none⟩ = some (.int .i64 (why : Int)) := by simp [World.cell?, hq.1]
        have q1 : W.cell? ⟨w.heap.size, 1, none⟩ = some (.int .i64 (k : Int)) := by simp [World.cell?, hq.1]
        refine bodyPost_ret (v := .tuple #[.slice none 0 0, .agg #[.int .i64 (why : Int), .int .i64 (k : Int)]]) (by simp [results, Tryz.results6, go_sem, q0, q1]; try rfl) rfl ⟨hq.2, ?_⟩
        rw [HR2.out] <;> rfl
      | ok u n =>
        have HRd1 := HRd.out k wr HLow.out
        rw [hr] at HRd1
        have HRdx : Hid (Calls Tryz.prog 10 #[.string (s.extract k s.size)] wr (RuPost (.ok u n) wr)) := HRd1
        have hnl := readU_len hr
        rw [List.length_drop, bl_length] at hnl
        have hnb : n ≤ 1000000 := by omega
        have hg := (readU_good (N := s.size) hr (by rw [List.length_drop, bl_length]; omega)).ex
        clear HRd1
        by_cases h32 : c = 32
        · have HR2 : Hid (R = .inr (5, k)) := by unfold Hid; rw [HD.out.2.2, h32, parse_many hkl hr]; rfl
          subst h32
          clear hr HD hkl hg
          go_wp2_with fail
          refine HRdx.out.mono ?_
          rintro e w1 ⟨hb1, m, rfl, _⟩
          obtain ⟨kind, a, b, bg, en, ex, al, on, mks, ots, frm, upto⟩ := m
          dsimp only [Rd.val, Md.cells]
          have hb1' := hb.trans (hb1.mono hbs)
          have hbs1 := hb1'.size
          rw [World.size_alloc] at hbs1
          clear hb1 hrow
          obtain ⟨w3, hw3⟩ : ∃ w3, w3 = w1.alloc (.cells (mdV kind a b bg en ex al on mks ots frm upto) 37) := ⟨_, rfl⟩
          have hb3 : Below (w.heap.size + 1) (w.alloc (.cells #[.int .i64 0, .int .i64 0] 28)) w3 := by rw [hw3]; exact hb1'.alloc hbs1 _
          obtain ⟨hblk, hlow3, hF, hFb⟩ := (flt_new w 5 (k : Int)).out w3 hb3
          have y0 : w3.cell? ⟨w.heap.size, 0, none⟩ = some (.int .i64 0) := by simp [World.cell?, hblk]
          have y1 : w3.cell? ⟨w.heap.size, 1, none⟩ = some (.int .i64 0) := by simp [World.cell?, hblk]
          have yf : ∀ i, w3.frozen? ⟨w.heap.size, i, none⟩ = false := fun i => by simp [World.frozen?, hblk]
          have HQ : Hid _ := And.intro hF hFb
          clear hblk hlow3 hF hFb hb1' hb3 hb
          go_upto_region 7 with fail
          rw [show w1.alloc (.cells (mdV kind a b bg en ex al on mks ots frm upto) 37) = w3 from hw3.symm]
          clear hw3
          go_wp2
          obtain ⟨W, hW⟩ : ∃ W, W = (w3.setCell ⟨w.heap.size, 0, none⟩ (.int .i64 5)).setCell ⟨w.heap.size, 1, none⟩ (.int .i64 (k : Int)) := ⟨_, rfl⟩
          have hq := HQ.out
          rw [← hW] at hq ⊢
          have q0 : W.cell? ⟨w.heap.size, 0, none⟩ = some (.int .i64 5) := by simp [World.cell?, hq.1]
          have q1 : W.cell? ⟨w.heap.size, 1, none⟩ = some (.int .i64 (k : Int)) := by simp [World.cell?, hq.1]
          refine bodyPost_ret (v := .tuple #[.slice none 0 0, .agg #[.int .i64 5, .int .i64 (k : Int)]]) (by simp [results, Tryz.results6, go_sem, q0, q1]; try rfl) rfl ⟨hq.2, ?_⟩
          rw [HR2.out] <;> rfl
        · have HD2 : Hid (c + 1 = (us ++ [u]).length ∧ Held w.heap.size wr dn us ∧ R = upon (us ++ [u]) (parseU (bl s) (k + n + 1) (c + 1)) ∧ (u.rx = none → u.md.ex = none)) := by
            refine ⟨by rw [List.length_append, ← HD.out.1]; rfl, HD.out.2.1, ?_, fun _ => hg⟩
            rw [HD.out.2.2, parse_next hkl hr h32]
            cases parseU (bl s) (k + n + 1) (c + 1) with
            | inl vs => simp [upon]
            | inr f => rfl
          have hci : ((c : Int) == 32) = false := by rw [beq_eq_false_iff_ne]; omega
          have hc31 : c + 1 ≤ 32 := by omega
          clear hr HD hkl hg h32
          go_wp2_with fail
          refine HRdx.out.mono ?_
          rintro e w1 ⟨hb1, m, rfl, hfit⟩
          have HF : Hid (Held w.heap.size w1 (dn ++ [m]) (us ++ [u]) ∧ modsV (dn ++ [m]) = modsV dn ++ m.cells.toList) := ⟨HD2.out.2.1.snoc hb1 hfit HLow.out.size HD2.out.2.2.2, modsV_app dn m⟩
          clear hfit
          obtain ⟨kind, a, b, bg, en, ex, al, on, mks, ots, frm, upto⟩ := m
          dsimp only [Rd.val, Md.cells] at HF ⊢
          have hb1' := hb.trans (hb1.mono hbs)
          have hrow1 := owns_below hrow hb1
          have hbs1 := hb1'.size
          rw [World.size_alloc] at hbs1
          clear hb hb1 hrow HLow
          go_wp2_with (at_builtin; refine wpList_append_own _ rfl _ _ 25 rfl (w.heap.size + 1) 37 i0 (.agg zeroMd) 12 104 Tryz.underlying25 hi hz0 hz1 hz2 rfl (by decide) _ _ _ rfl ((hrow1.alloc _).alloc _) ⟨w1.heap.size + 1, 0, none⟩ 1 1 (mdV kind a b bg en ex al on mks ots frm upto).toList rfl rfl (cells_new _ _ _ _ (by simp)) md_one (by unfold maxLen; omega) (by omega) (by simp; omega) ?_)
          intro v' w2 hown' hgrow _
          have hb3 : Below (w.heap.size + 1) (w.alloc (.cells #[.int .i64 0, .int .i64 0] 28)) w2 := ((hb1'.alloc hbs1 _).alloc (by simp; omega) _).grown hgrow (by simp; omega) (fun k hk => (hrow1.lt k hk).1)
          have HH : Hid (Held w.heap.size w2 (dn ++ [⟨kind, a, b, bg, en, ex, al, on, mks, ots, frm, upto⟩]) (us ++ [u])) :=
            ((HF.out.1.below ((Below.refl _ _).alloc (Nat.le_refl _) _)).below ((Below.refl _ _).alloc (Nat.le_refl _) _)).grown ((hrow1.alloc _).alloc _) hgrow (by decide)
          clear hgrow hrow1 hb1'
          obtain ⟨a3, c3, hv3⟩ := owns_slice hown'
          subst hv3
          go_wp2
          go_roundw
          case rel => exact ⟨k + n + 1, c + 1, _, us ++ [u], by omega, by go_num, hc31, ⟨HD2.out.1, HH.out, HD2.out.2.2.1⟩, by rw [HF.out.2]; exact hown', hb3⟩
          case measure => simp [intOf]; omega
    · have hil : ¬ (k : Int) ≤ (s.size : Int) := by omega
      have HRE : Hid (R = .inl us ∧ c = us.length ∧ Held w.heap.size wr dn us) := by
        refine ⟨?_, HD.out.1, HD.out.2.1⟩
        rw [HD.out.2.2, parse_end (by rw [bl_length]; omega)]
        simp [upon]
      clear HD
      obtain ⟨hblk, hlow3, hF, hFb⟩ := (flt_new w 0 0).out wr hb
      have y0 : wr.cell? ⟨w.heap.size, 0, none⟩ = some (.int .i64 0) := by simp [World.cell?, hblk]
      have y1 : wr.cell? ⟨w.heap.size, 1, none⟩ = some (.int .i64 0) := by simp [World.cell?, hblk]
      have yf : ∀ i, wr.frozen? ⟨w.heap.size, i, none⟩ = false := fun i => by simp [World.frozen?, hblk]
      have hO : (wr.setCell ⟨w.heap.size, 0, none⟩ (.int .i64 0)).setCell ⟨w.heap.size, 1, none⟩ (.int .i64 0) |>.ownsRow w.heap.size 37 12 (.slice a4 c cap4) c (modsV dn) := by
        have hne : (Value.slice a4 c cap4).ownBlock ≠ some w.heap.size := fun e => by have := (hrow.lt _ e).1; omega
        exact row_set (row_set (owns_base hrow (by omega)) hne _) hne _
      have hH : Held w.heap.size ((wr.setCell ⟨w.heap.size, 0, none⟩ (.int .i64 0)).setCell ⟨w.heap.size, 1, none⟩ (.int .i64 0)) dn us :=
        HRE.out.2.2.wrote ((Only.set _ 0 _ _).trans (Only.set _ 1 _ _)).wrote (by decide) hblk
      have HQ : Hid _ := And.intro hF (And.intro hFb (And.intro hO hH))
      clear hblk hlow3 hF hFb hO hH hrow hb
      go_wp2
      obtain ⟨W, hW⟩ : ∃ W, W = (wr.setCell ⟨w.heap.size, 0, none⟩ (.int .i64 0)).setCell ⟨w.heap.size, 1, none⟩ (.int .i64 0) := ⟨_, rfl⟩
      have hq := HQ.out
      rw [← hW] at hq ⊢
      have q0 : W.cell? ⟨w.heap.size, 0, none⟩ = some (.int .i64 0) := by simp [World.cell?, hq.1]
      have q1 : W.cell? ⟨w.heap.size, 1, none⟩ = some (.int .i64 0) := by simp [World.cell?, hq.1]
      refine bodyPost_ret (v := .tuple #[.slice a4 c cap4, .agg #[.int .i64 0, .int .i64 0]]) (by simp [results, Tryz.results6, go_sem, q0, q1]; try rfl) rfl ⟨hq.2.1, ?_⟩
      obtain ⟨e1, e2, _⟩ := HRE.out
      rw [e1]
      exact ⟨_, dn, rfl, by rw [← e2]; exact hq.2.2.1, hq.2.2.2⟩
set_option maxHeartbeats 800000 in
theorem parse_none (w : World) : Calls Tryz.prog 6 #[.string E] w (ParsePost (allU (bl E)) w) := by
  have HR : Hid (allU (bl E) = .inl []) := if_pos rfl
  obtain ⟨R, hR⟩ : ∃ R, R = allU (bl E) := ⟨_, rfl⟩
  rw [← hR] at HR ⊢
  clear hR
  go_enter Tryz.func6, Tryz.ntmps6
  go_upto_region 2 with fail
  obtain ⟨w3, hw3⟩ : ∃ w3, w3 = w.alloc (.cells #[.int .i64 0, .int .i64 0] 28) := ⟨_, rfl⟩
  have hb3 : Below (w.heap.size + 1) (w.alloc (.cells #[.int .i64 0, .int .i64 0] 28)) w3 := by rw [hw3]; exact Below.refl _ _
  obtain ⟨hblk, hlow3, hF, hFb⟩ := (flt_new w 0 0).out w3 hb3
  have y0 : w3.cell? ⟨w.heap.size, 0, none⟩ = some (.int .i64 0) := by simp [World.cell?, hblk]
  have y1 : w3.cell? ⟨w.heap.size, 1, none⟩ = some (.int .i64 0) := by simp [World.cell?, hblk]
  have yf : ∀ i, w3.frozen? ⟨w.heap.size, i, none⟩ = false := fun i => by simp [World.frozen?, hblk]
  have HQ : Hid _ := And.intro hF hFb
  rw [show w.alloc (.cells #[.int .i64 0, .int .i64 0] 28) = w3 from hw3.symm]
  clear hw3 hblk hlow3 hF hFb hb3
  go_wp2
  obtain ⟨W, hW⟩ : ∃ W, W = (w3.setCell ⟨w.heap.size, 0, none⟩ (.int .i64 0)).setCell ⟨w.heap.size, 1, none⟩ (.int .i64 0) := ⟨_, rfl⟩
  have hq := HQ.out
  rw [← hW] at hq ⊢
  have q0 : W.cell? ⟨w.heap.size, 0, none⟩ = some (.int .i64 0) := by simp [World.cell?, hq.1]
  have q1 : W.cell? ⟨w.heap.size, 1, none⟩ = some (.int .i64 0) := by simp [World.cell?, hq.1]
  refine bodyPost_ret (v := .tuple #[.slice none 0 0, .agg #[.int .i64 0, .int .i64 0]]) (by simp [results, Tryz.results6, go_sem, q0, q1]; try rfl) rfl ⟨hq.2, ?_⟩
  rw [HR.out]
  exact ⟨_, [], rfl, World.ownsRow_nil _ _ _ _, Held.nil _ _⟩
theorem parse_all (s : ByteArray) (w : World) (hs : s.size ≤ 1000000) (hmx : Mx w) (hE : Ey w) : Calls Tryz.prog 6 #[.string s] w (ParsePost (allU (bl s)) w) := by
  by_cases h1 : 1 ≤ s.size
  · exact parse_any s w hs h1 hmx hE
  · obtain rfl : s = E := bl_inj (by have := bl_length s; exact List.length_eq_zero_iff.1 (by omega))
    exact parse_none w
end Go.Proofs.YtedepknbaakkhabGreatDoor
namespace Go.Proofs.YtedepknbaakkhabGreatDoor
open Go.RowKit Go.Shelf Go.Sort
def OwnW (base : Nat) (W : World) (v : Value) (l : List ByteArray) : Prop := (v = .slice none 0 0 ∧ l = []) ∨ ∃ g o c cur, v = .slice (some ⟨g, o, none⟩) l.length c ∧ base ≤ g ∧ W.heap[g]? = some (.cells cur 9 (0, 0)) ∧ l.length ≤ c ∧ o + c ≤ cur.size ∧ ∀ i (h : i < l.length), cur[o + i]? = some (.string l[i])
theorem OwnW.of_owns {base : Nat} {W : World} {v : Value} {l : List ByteArray} (h : W.ownsRow base 9 1 v l.length (l.map Value.string)) : OwnW base W v l := by
  obtain ⟨hx, ⟨rfl, hn⟩ | ⟨g, cap, cur, rfl, hg, hcur, hcap, hcm, hcs, hct⟩⟩ := h
  · exact .inl ⟨rfl, List.length_eq_zero_iff.1 hn⟩
  · refine .inr ⟨g, 0, cap, cur, rfl, hg, hcur, hcap, by omega, fun i hi => ?_⟩
    have h2 : (cur.toList.take (l.length * 1))[i]? = (l.map Value.string)[i]? := by rw [hct]
    rw [List.getElem?_take_of_lt (by omega)] at h2
    rw [Nat.zero_add, ← Array.getElem?_toList, h2]
    simp [List.getElem?_eq_getElem hi]
theorem OwnW.words {base : Nat} {W : World} {v : Value} {l : List ByteArray} (h : OwnW base W v l) : Words W.heap.size W v l := by
  rcases h with ⟨rfl, rfl⟩ | ⟨g, o, c, cur, rfl, hg, hcur, hc, ho, hcell⟩
  · exact ⟨none, 0, 0, rfl, rfl, fun i hi => by simp at hi⟩
  · refine ⟨_, l.length, c, rfl, rfl, fun i hi => ⟨g, o, rfl, (Array.getElem?_eq_some_iff.1 hcur).1, ?_⟩⟩
    simp only [World.cell?, hcur]
    simpa using hcell i hi
theorem OwnW.base {b b' : Nat} {W : World} {v : Value} {l : List ByteArray} (h : OwnW b W v l) (hb : b' ≤ b) : OwnW b' W v l := by
  rcases h with h | ⟨g, o, c, cur, h1, hg, rest⟩
  · exact .inl h
  · exact .inr ⟨g, o, c, cur, h1, Nat.le_trans hb hg, rest⟩
theorem OwnW.slice {base : Nat} {W : World} {v : Value} {l : List ByteArray} (h : OwnW base W v l) : ∃ a c, v = .slice a l.length c := by
  rcases h with ⟨rfl, rfl⟩ | ⟨g, o, c, cur, rfl, _⟩
  · exact ⟨none, 0, rfl⟩
  · exact ⟨_, c, rfl⟩
theorem OwnW.cap {base : Nat} {W : World} {a : Option Addr} {n c : Nat} {l : List ByteArray} (h : OwnW base W (.slice a n c) l) : n ≤ c := by
  rcases h with ⟨h, rfl⟩ | ⟨g, o, c, cur, h, _, _, hc, _⟩
  · simp only [Value.slice.injEq] at h; omega
  · simp only [Value.slice.injEq] at h; omega
theorem OwnW.nil {base : Nat} {W : World} : OwnW base W (.slice none 0 0) [] := .inl ⟨rfl, rfl⟩
theorem OwnW.own {base : Nat} {W : World} {v : Value} {l : List ByteArray} (h : OwnW base W v l) {j : Nat} (hj : v.ownBlock = some j) : base ≤ j ∧ ∃ cur, W.heap[j]? = some (.cells cur 9 (0, 0)) := by
  rcases h with ⟨rfl, _⟩ | ⟨g, o, c, cur, rfl, hg, hcur, _⟩
  · simp [Value.ownBlock] at hj
  · simp [Value.ownBlock] at hj
    subst hj
    exact ⟨hg, cur, hcur⟩
theorem OwnW.below {base : Nat} {W W' : World} {v : Value} {l : List ByteArray} (h : OwnW base W v l) (hb : Below W.heap.size W W') : OwnW base W' v l := by
  rcases h with h | ⟨g, o, c, cur, h1, hg, hcur, rest⟩
  · exact .inl h
  · exact .inr ⟨g, o, c, cur, h1, hg, (hb.block g (Array.getElem?_eq_some_iff.1 hcur).1).trans hcur, rest⟩
def Tz (W : World) : Prop := Lib.TabIs Tryz.prog W "internal/strconv.uint64pow10" .u64 Lib.pow10Tab
theorem glob3 : Tryz.prog.globalNamed "internal/strconv.uint64pow10" = some 3 := by kernel_rfl
theorem Tz.pos {w : World} (h : Tz w) : 3 < w.heap.size := by
  unfold Tz Lib.TabIs World.var? at h
  rw [glob3] at h
  simp only [Option.bind_some] at h
  cases hb : w.heap[(3 : Nat)]? with
  | none => rw [hb] at h; simp at h
  | some o => exact (Array.getElem?_eq_some_iff.1 hb).1
theorem Tz.below {w w' : World} {B : Nat} (h : Tz w) (hb : Below B w w') (hB : 3 < B) : Tz w' := by
  unfold Tz Lib.TabIs World.var? at h ⊢
  rw [glob3] at h ⊢
  simp only [Option.bind_some] at h ⊢
  rw [hb.block 3 hB]; exact h
def Gz (W : World) : Prop := Mx W ∧ Tz W
theorem Gz.below {w w' : World} (h : Gz w) (hb : Below w.heap.size w w') : Gz w' := ⟨h.1.below hb h.1.pos, h.2.below hb h.2.pos⟩
def ApD (v : Value) (m : Md) (j : Nat) : Prop := v.ownBlock = some j ∨ m.ex = some ⟨j, 0, none⟩
def ApPost (g : Option (List ByteArray)) (base : Nat) (v : Value) (m : Md) (u : Um) (lo : Nat) (w : World) (e : Ending) (w' : World) : Prop := X.Fr (ApD v m) w w' ∧ Fits m u lo w' ∧ match g with
    | none => ∃ v', e = .returned (.tuple #[v', .bool false])
    | some r => ∃ v', e = .returned (.tuple #[v', .bool true]) ∧ OwnW base w' v' r
def AppliesU (u : Um) (g : List ByteArray → Option (List ByteArray)) : Prop :=
  (∀ l r, Few l → g l = some r → Few r) ∧ ∀ base v l w m lo, OwnW base w v l → Few l → Gz w → 0 < base → base ≤ w.heap.size → Fits m u lo w →
  Calls Tryz.prog 13 #[.agg m.cells, v] w (ApPost (g l) base v m u lo w)
theorem appliesU_of {u : Um} {act : ActF} (hrx : u.rx = none)
    (h : ∀ (a : Option Addr) (n c : Nat) (l : List ByteArray) (w : World), Words w.heap.size w (.slice a n c) l → n ≤ 10000 → (∀ y ∈ l, y.size ≤ 1000000) → Mx w → Calls Tryz.prog 13 #[.agg u.md.cells, .slice a n c] w fun e w' => ApplyPost w (foldA act [] false l) e w') :
    AppliesU u (foldA act [] false) := by
  refine ⟨fun l r hf hr => ?_, fun base v l w m lo ho hf hm hb hbs hfit => ?_⟩
  · have := foldA_few act l [] false r hr (Nat.zero_le _)
    simp only [List.length_nil, Nat.zero_add] at this
    exact ⟨by have := hf.1; omega, this.1⟩
  · have hmu : m = u.md := by unfold Fits at hfit; rw [hrx] at hfit; exact hfit
    have hfit' : ∀ w', Fits m u lo w' := fun w' => by unfold Fits; rw [hrx]; exact hmu
    obtain ⟨a, c, rfl⟩ := ho.slice
    rw [hmu]
    refine (h a l.length c l w ho.words (by have := hf.1; omega) (fun y hy => by have := size_mem hy; have := hf.2; omega) hm.1).mono ?_
    rintro e w' ⟨h1, h2⟩
    rw [← hmu]
    refine ⟨.of_below h1, hfit' w', ?_⟩
    cases hr : foldA act [] false l with
    | none => rw [hr] at h2; exact ⟨_, h2⟩
    | some r =>
      rw [hr] at h2
      obtain ⟨v', e1, e2⟩ := h2
      exact ⟨v', e1, (OwnW.of_owns e2).base hbs⟩
theorem get_put (o : Nat) (ts : List ByteArray) (cur : Array Value) (hc : o + ts.length ≤ cur.size) (i : Nat) (hi : i < ts.length) : (putCells encStr o (ts.map bl).toArray cur)[o + i]? = some (.string ts[i]) := by
  unfold putCells
  rw [Array.getElem?_mapIdx, Array.getElem?_eq_getElem (by omega)]
  simp only [Option.map_some, Option.some.injEq]
  rw [if_pos ⟨by omega, by simp; omega⟩]
  rw [show o + i - o = i by omega]
  have e : ((ts.map bl).toArray[i]!) = bl ts[i] := by simp [hi]
  rw [e]
  show Value.string (ba (bl ts[i])) = _
  rw [ba_bl]
theorem heap_put {w : World} {g n o : Nat} {os : Array Obj} {cur : Array Value} {e : TypeId} {fr : Nat × Nat} (d : Array (List UInt8)) (hb : w.heap[g]? = some (.cells cur e fr)) :
    (grow (putRow encStr (Sort.ahead w n) g o d) os).heap[g]? = some (.cells (putCells encStr o d cur) e fr) := by
  have hg : g < w.heap.size := (Array.getElem?_eq_some_iff.1 hb).1
  rw [heap_grow_old _ _ (by simpa using hg)]
  simp [putRow, mapBlock, Sort.ahead, Array.getElem?_modify, hb, onCells]
theorem fr_put {w : World} {g n o : Nat} {os : Array Obj} (d : Array (List UInt8)) (D : Nat → Prop) (hD : D g) : X.Fr D w (grow (putRow encStr (Sort.ahead w n) g o d) os) := by
  refine ⟨rfl, rfl, rfl, by simp, fun k hk hne => ?_⟩
  rw [heap_grow_old _ _ (by simpa using hk)]
  have : g ≠ k := fun e => hne (e ▸ hD)
  simp [putRow, mapBlock, Sort.ahead, Array.getElem?_modify, this]
theorem own_holds {W : World} {g o : Nat} {cur : Array Value} {l : List ByteArray} (hcur : W.heap[g]? = some (.cells cur 9 (0, 0))) (hcell : ∀ i (h : i < l.length), cur[o + i]? = some (.string l[i])) : Go.Sort.Holds encStr W g o (l.map bl).toArray := by
  intro j hj
  have hj' : j < l.length := by simpa using hj
  refine ⟨?_, by simp [World.frozen?, hcur]⟩
  simp only [World.cell?, hcur]
  have := hcell j hj'
  simp only [Option.isSome_none, Bool.false_eq_true, if_false]
  rw [this]
  have e : ((l.map bl).toArray[j]!) = bl l[j] := by simp [hj']
  rw [e]
  show some (Value.string l[j]) = some (Value.string (ba (bl l[j])))
  rw [ba_bl]
theorem own_put {base : Nat} {w : World} {g o c n : Nat} {cur : Array Value} {os : Array Obj} {l ts : List ByteArray} (hl : ts.length = l.length) (hbase : base ≤ g) (hcur : w.heap[g]? = some (.cells cur 9 (0, 0))) (hc : l.length ≤ c) (ho : o + c ≤ cur.size) :
    OwnW base (grow (putRow encStr (Sort.ahead w n) g o (ts.map bl).toArray) os) (.slice (some ⟨g, o, none⟩) l.length c) ts :=
  .inr ⟨g, o, c, _, by rw [hl], hbase, heap_put _ hcur, by omega, by unfold putCells; simp; exact ho, fun i hi => get_put o ts cur (by omega) i hi⟩
def InPost (base : Nat) (v : Value) (r : List ByteArray) (w : World) (e : Ending) (w' : World) : Prop := e = .returned (.tuple #[]) ∧ OwnW base w' v r ∧ X.Fr (fun j => v.ownBlock = some j) w w'
theorem sort_in (v : Value) (l : List ByteArray) (base : Nat) (w : World) (h : OwnW base w v l) (hn : l.length ≤ 1000000) : Calls Tryz.prog 41 #[v] w (InPost base v (sortedL l) w) := by
  by_cases hne : l = []
  · subst hne
    obtain ⟨a, c, rfl⟩ := h.slice
    refine (Tryz.slices_Sort_string_none a c w).mono ?_
    rintro e w' ⟨rfl, rfl⟩
    exact ⟨rfl, by simpa [sortedL] using h, .refl _ _⟩
  · obtain ⟨g, o, c, cur, rfl, hg, hcur, hc, ho, hcell⟩ := h.resolve_left (fun e => hne e.2)
    have hl : (l.map bl).length = l.length := by simp
    have hk := Tryz.slices_Sort_string g o c (l.map bl) w (own_holds hcur hcell) (Array.getElem?_eq_some_iff.1 hcur).1 (by rw [hl]; omega)
    rw [hl] at hk
    refine hk.mono ?_
    rintro e w' ⟨rfl, n, os, rfl⟩
    have e1 : ((l.map bl).mergeSort fun x y => decide (x ≤ y)) = (sortedL l).map bl := by
      unfold sortedL; rw [List.map_map]
      exact (List.map_id _).symm.trans (List.map_congr_left fun x _ => (bl_ba x).symm)
    rw [e1]
    exact ⟨rfl, own_put (sorted_length l) hg hcur hc ho, fr_put _ _ rfl⟩
theorem rev_in (v : Value) (l : List ByteArray) (base : Nat) (w : World) (h : OwnW base w v l) (hn : l.length ≤ 1000000) : Calls Tryz.prog 42 #[v] w (InPost base v l.reverse w) := by
  by_cases hne : l = []
  · subst hne
    obtain ⟨a, c, rfl⟩ := h.slice
    refine (Tryz.slices_Reverse_string_empty a c w).mono ?_
    rintro e w' ⟨rfl, rfl⟩
    exact ⟨rfl, h, .refl _ _⟩
  · obtain ⟨g, o, c, cur, rfl, hg, hcur, hc, ho, hcell⟩ := h.resolve_left (fun e => hne e.2)
    have hl : (l.map bl).length = l.length := by simp
    have hk := Tryz.slices_Reverse_string g o c (l.map bl) w (own_holds hcur hcell) (by rw [hl]; omega)
    rw [hl] at hk
    refine hk.mono ?_
    rintro e w' ⟨rfl, n, rfl⟩
    have e1 : (l.map bl).reverse = l.reverse.map bl := by rw [List.map_reverse]
    rw [e1, ← grow_empty (putRow encStr (Sort.ahead w n) g o (l.reverse.map bl).toArray)]
    exact ⟨rfl, own_put (by simp) hg hcur hc ho, fr_put _ _ rfl⟩
theorem compact_in (v : Value) (l : List ByteArray) (base : Nat) (w : World) (h : OwnW base w v l) (hn : l.length ≤ 1000000) : Calls Tryz.prog 43 #[v] w fun e w' => ∃ v', e = .returned v' ∧ OwnW base w' v' (compactL l) ∧ X.Fr (fun j => v.ownBlock = some j) w w' := by
  by_cases hne : l = []
  · subst hne
    obtain ⟨a, c, rfl⟩ := h.slice
    refine (Tryz.slices_Compact_string_empty a c w).mono ?_
    rintro e w' ⟨rfl, rfl⟩
    exact ⟨_, rfl, by simpa [compactL, Lib.compact, Lib.compactUpTo] using h, .refl _ _⟩
  · obtain ⟨g, o, c, cur, rfl, hg, hcur, hc, ho, hcell⟩ := h.resolve_left (fun e => hne e.2)
    have hl : (l.map bl).length = l.length := by simp
    have hcl := compact_len (l.map bl)
    rw [hl] at hcl
    have hk := Tryz.slices_Compact_string g o c (l.map bl) w (own_holds hcur hcell) (by rw [hl]; omega) (by rw [hl]; exact hc)
    rw [hl] at hk
    refine hk.mono ?_
    rintro e w' ⟨rfl, n, rfl⟩
    have e1 : Lib.compact (l.map bl) ++ List.replicate (l.length - (Lib.compact (l.map bl)).length) [] = (compactL l ++ List.replicate (l.length - (Lib.compact (l.map bl)).length) E).map bl := by
      unfold compactL
      rw [List.map_append, List.map_map, List.map_replicate]
      congr 1
      exact (List.map_id _).symm.trans (List.map_congr_left fun x _ => (bl_ba x).symm)
    have el : (compactL l).length = (Lib.compact (l.map bl)).length := by simp [compactL]
    rw [e1, ← grow_empty (putRow encStr (Sort.ahead w n) g o _)]
    refine ⟨_, rfl, ?_, fr_put _ _ rfl⟩
    refine .inr ⟨g, o, c, _, by rw [el], hg, heap_put _ hcur, by rw [el]; omega, by unfold putCells; simp; exact ho, fun i hi => ?_⟩
    have := get_put o (compactL l ++ List.replicate (l.length - (Lib.compact (l.map bl)).length) E) cur (by rw [List.length_append, el, List.length_replicate]; omega) i (by rw [List.length_append]; omega)
    rw [List.getElem_append_left hi] at this
    exact this
def OfAllU (m : Md) (g : List ByteArray → List ByteArray) : Prop := ∀ base v l w, OwnW base w v l → Few l → Gz w → base ≤ w.heap.size →
  Calls Tryz.prog 21 #[.agg m.cells, v] w fun e w' => X.Fr (fun j => v.ownBlock = some j) w w' ∧ ∃ v', e = .returned v' ∧ OwnW base w' v' (g l)
theorem fr_alloc {D : Nat → Prop} (w : World) (o : Obj) : X.Fr D w (w.alloc o) := .of_below ((Below.refl _ w).alloc (Nat.le_refl _) o)
end Go.Proofs.YtedepknbaakkhabGreatDoor
namespace Go.Proofs.YtedepknbaakkhabGreatDoor
open Go.RowKit Go.Shelf Go.Sort
set_option maxHeartbeats 1600000 in
theorem ofAllU_o (m : Md) (hk : m.kind = ⟨#[79]⟩) : OfAllU m (fun l => sortedL l) := by
  intro base v l w ho hf hm hb
  have HS : Hid (∀ W, OwnW base W v l → Calls Tryz.prog 41 #[v] W (InPost base v (sortedL l) W)) := fun W h => sort_in v l base W h (by have := hf.1; omega)
  have HO : Hid (OwnW base w v l) := ho
  obtain ⟨a, c, rfl⟩ := ho.slice
  clear ho hb hf hm
  obtain ⟨kind, ma, mb, bg, en, ex, al, on, mks, ots, frm, upto⟩ := m
  dsimp only at hk
  subst hk
  unfold Md.cells
  go_enter Tryz.func21, Tryz.ntmps21
  go_wp2_with fail
  refine (HS.out _ (HO.out.below ((Below.refl _ w).alloc (Nat.le_refl _) _))).mono ?_
  rintro e w1 ⟨rfl, h1, h2⟩
  have HZ : Hid (OwnW base w1 (.slice a l.length c) (sortedL l) ∧ X.Fr (fun j => (Value.slice a l.length c).ownBlock = some j) w w1) := ⟨h1, (fr_alloc w _).trans h2⟩
  clear h1 h2
  go_wp2
  go_ret
  exact ⟨HZ.out.2, _, rfl, HZ.out.1⟩
set_option maxHeartbeats 1600000 in
theorem ofAllU_r (m : Md) (hk : m.kind = ⟨#[114]⟩) : OfAllU m (fun l => l.reverse) := by
  intro base v l w ho hf hm hb
  have HS : Hid (∀ W, OwnW base W v l → Calls Tryz.prog 42 #[v] W (InPost base v l.reverse W)) := fun W h => rev_in v l base W h (by have := hf.1; omega)
  have HO : Hid (OwnW base w v l) := ho
  obtain ⟨a, c, rfl⟩ := ho.slice
  clear ho hb hf hm
  obtain ⟨kind, ma, mb, bg, en, ex, al, on, mks, ots, frm, upto⟩ := m
  dsimp only at hk
  subst hk
  unfold Md.cells
  go_enter Tryz.func21, Tryz.ntmps21
  go_wp2_with fail
  refine (HS.out _ (HO.out.below ((Below.refl _ w).alloc (Nat.le_refl _) _))).mono ?_
  rintro e w1 ⟨rfl, h1, h2⟩
  have HZ : Hid (OwnW base w1 (.slice a l.length c) (l.reverse) ∧ X.Fr (fun j => (Value.slice a l.length c).ownBlock = some j) w w1) := ⟨h1, (fr_alloc w _).trans h2⟩
  clear h1 h2
  go_wp2
  go_ret
  exact ⟨HZ.out.2, _, rfl, HZ.out.1⟩
set_option maxHeartbeats 1600000 in
theorem ofAllU_or (m : Md) (hk : m.kind = ⟨#[79, 114]⟩) : OfAllU m (fun l => (sortedL l).reverse) := by
  intro base v l w ho hf hm hb
  have HS : Hid (∀ W, OwnW base W v l → Calls Tryz.prog 41 #[v] W (InPost base v (sortedL l) W)) := fun W h => sort_in v l base W h (by have := hf.1; omega)
  have HRv : Hid (∀ W, OwnW base W v (sortedL l) → Calls Tryz.prog 42 #[v] W (InPost base v (sortedL l).reverse W)) := fun W h => rev_in v (sortedL l) base W h (by have := hf.1; rw [sorted_length]; omega)
  have HO : Hid (OwnW base w v l) := ho
  obtain ⟨a, c, rfl⟩ := ho.slice
  clear ho hb hf hm
  obtain ⟨kind, ma, mb, bg, en, ex, al, on, mks, ots, frm, upto⟩ := m
  dsimp only at hk
  subst hk
  unfold Md.cells
  go_enter Tryz.func21, Tryz.ntmps21
  go_wp2_with fail
  refine (HS.out _ (HO.out.below ((Below.refl _ w).alloc (Nat.le_refl _) _))).mono ?_
  rintro e w1 ⟨rfl, h1, h2⟩
  have HZ : Hid (OwnW base w1 (.slice a l.length c) (sortedL l) ∧ X.Fr (fun j => (Value.slice a l.length c).ownBlock = some j) w w1) := ⟨h1, (fr_alloc w _).trans h2⟩
  clear h1 h2
  go_wp2_with fail
  refine (HRv.out _ HZ.out.1).mono ?_
  rintro e w2 ⟨rfl, h1, h2⟩
  have HZ2 : Hid (OwnW base w2 (.slice a l.length c) (sortedL l).reverse ∧ X.Fr (fun j => (Value.slice a l.length c).ownBlock = some j) w w2) := ⟨h1, HZ.out.2.trans h2⟩
  clear h1 h2
  go_wp2
  go_ret
  exact ⟨HZ2.out.2, _, rfl, HZ2.out.1⟩
set_option maxHeartbeats 1600000 in
theorem ofAllU_u (m : Md) (hk : m.kind = ⟨#[117]⟩) : OfAllU m (fun l => compactL l) := by
  intro base v l w ho hf hm hb
  have HS : Hid (∀ W, OwnW base W v l → Calls Tryz.prog 43 #[v] W fun e w' => ∃ v', e = .returned v' ∧ OwnW base w' v' (compactL l) ∧ X.Fr (fun j => v.ownBlock = some j) W w') := fun W h => compact_in v l base W h (by have := hf.1; omega)
  have HO : Hid (OwnW base w v l) := ho
  obtain ⟨a, c, rfl⟩ := ho.slice
  clear ho hb hf hm
  obtain ⟨kind, ma, mb, bg, en, ex, al, on, mks, ots, frm, upto⟩ := m
  dsimp only at hk
  subst hk
  unfold Md.cells
  go_enter Tryz.func21, Tryz.ntmps21
  go_wp2_with fail
  refine (HS.out _ (HO.out.below ((Below.refl _ w).alloc (Nat.le_refl _) _))).mono ?_
  rintro e w1 ⟨v2, rfl, h1, h2⟩
  have HZ : Hid (OwnW base w1 v2 (compactL l) ∧ X.Fr (fun j => (Value.slice a l.length c).ownBlock = some j) w w1) := ⟨h1, (fr_alloc w _).trans h2⟩
  clear h1 h2
  go_wp2
  go_ret
  exact ⟨HZ.out.2, _, rfl, HZ.out.1⟩
def fewO (r : List ByteArray) : Option (List ByteArray) := if r.length ≤ 4096 ∧ sizeL r ≤ 65536 then some r else none
set_option maxHeartbeats 1600000 in
theorem appliesU_all (u : Um) (g : List ByteArray → List ByteArray) (hrx : u.rx = none) (hk : u.md.kind ∈ allL) (hg : ∀ l, Few l → (g l).length ≤ 1000000 ∧ ∀ y ∈ g l, y.size ≤ 1000000) (ho : OfAllU u.md g) : AppliesU u (fun l => fewO (g l)) := by
  refine ⟨fun l r h1 h2 => ?_, fun base v l w m lo hr hf hm hb hbs hfit => ?_⟩
  · dsimp only at h2
    unfold fewO at h2
    split at h2
    · cases h2; assumption
    · cases h2
  have hmu : m = u.md := by unfold Fits at hfit; rw [hrx] at hfit; exact hfit
  have HFi : Hid (∀ w', Fits m u lo w') := fun w' => by unfold Fits; rw [hrx]; exact hmu
  rw [← hmu] at hk ho
  clear hfit hmu
  have HT : Hid (∀ W : World, W.cell? ⟨w.heap.size + 1, 0, none⟩ = some (.string m.kind) → Calls Tryz.prog 20 #[.pointer (some ⟨w.heap.size + 1, 0, none⟩)] W fun e w' => e = .returned .nilFunc ∧ W = w') := fun W hW => toWord_nil _ _ hk W hW
  have HO : Hid (∀ W, OwnW base W v l → Below w.heap.size w W → Calls Tryz.prog 21 #[.agg m.cells, v] W fun e w' => X.Fr (fun j => v.ownBlock = some j) W w' ∧ ∃ v', e = .returned v' ∧ OwnW base w' v' (g l)) := fun W h1 h2 => ho base v l W h1 hf (hm.below h2) (Nat.le_trans hbs h2.size)
  have HF : Hid (∀ W v', OwnW base W v' (g l) → Calls Tryz.prog 11 #[v'] W fun e w' => e = .returned (.bool (decide ((g l).length ≤ 4096 ∧ sizeL (g l) ≤ 65536))) ∧ W = w') := fun W v' h1 => by
    obtain ⟨a, c, rfl⟩ := h1.slice
    exact few_any a _ c (g l) W.heap.size W h1.words (hg l hf).1 (hg l hf).2
  have HR : Hid (OwnW base w v l) := hr
  have hneq := nil_neq
  obtain ⟨bb, hbb⟩ : ∃ bb, bb = decide ((g l).length ≤ 4096 ∧ sizeL (g l) ≤ 65536) := ⟨_, rfl⟩
  rw [← hbb] at HF
  have HE : Hid (fewO (g l) = if bb = true then some (g l) else none) := by
    unfold Hid fewO; rw [hbb]
    by_cases h : (g l).length ≤ 4096 ∧ sizeL (g l) ≤ 65536
    · rw [if_pos h, if_pos (by simpa using h)]
    · rw [if_neg h, if_neg (by simpa using h)]
  have HN : Hid (∀ W v', bb = false → OwnW base W v' (g l) → True) := fun _ _ _ _ => trivial
  clear hr hf hm hb hbs ho hk hbb HN
  dsimp only
  obtain ⟨G0, hG0⟩ : ∃ G0, G0 = g l := ⟨_, rfl⟩
  rw [← hG0] at HO HF HE ⊢
  clear hG0 hg
  obtain ⟨kind, ma, mb, bg, en, ex, al, on, mks, ots, frm, upto⟩ := m
  unfold Md.cells at HO ⊢
  dsimp only at HO HT ⊢
  go_enter Tryz.func13, Tryz.ntmps13
  go_wp2_with fail
  refine (HT.out _ (by rw [World.cell?, heap_alloc_new']; rfl)).mono ?_
  rintro e w' ⟨rfl, rfl⟩
  go_wp2_with fail
  refine (HO.out _ ((HR.out.below ((Below.refl _ w).alloc (Nat.le_refl _) _)).below ((Below.refl _ _).alloc (Nat.le_refl _) _)) (((Below.refl _ w).alloc (Nat.le_refl _) _).alloc (by simp) _)).mono ?_
  rintro e w2 ⟨hb2, v2, rfl, ho2⟩
  have HZ : Hid (X.Fr (fun j => v.ownBlock = some j) w w2 ∧ OwnW base w2 v2 G0) := ⟨((fr_alloc w _).trans (fr_alloc _ _)).trans hb2, ho2⟩
  clear hb2 ho2
  go_wp2_with fail
  refine (HF.out _ _ HZ.out.2).mono ?_
  rintro e w3 ⟨rfl, rfl⟩
  have HFr : Hid (X.Fr (ApD v ⟨kind, ma, mb, bg, en, ex, al, on, mks, ots, frm, upto⟩) w w2) := ⟨HZ.out.1.os, HZ.out.1.tape, HZ.out.1.output, HZ.out.1.size, fun j hj hd => HZ.out.1.block j hj (fun e => hd (.inl e))⟩
  cases bb with
  | true =>
    have HE1 : Hid (fewO G0 = some G0) := HE.out.trans (if_pos rfl)
    clear HE
    go_wp2
    go_ret2
    refine ⟨HFr.out, HFi.out _, ?_⟩
    rw [HE1.out]
    exact ⟨v2, rfl, HZ.out.2⟩
  | false =>
    have HE1 : Hid (fewO G0 = none) := HE.out.trans (if_neg (by simp))
    clear HE
    go_wp2
    go_ret2
    refine ⟨HFr.out, HFi.out _, ?_⟩
    rw [HE1.out]
    exact ⟨v2, rfl⟩
end Go.Proofs.YtedepknbaakkhabGreatDoor
