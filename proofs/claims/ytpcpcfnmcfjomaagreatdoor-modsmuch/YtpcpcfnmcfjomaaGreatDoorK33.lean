/-
  QS2 QPa
-/
import Derived.Test.YtpcpcfnmcfjomaaGreatDoorK11
import Derived.Lib.AtoiBound
import Derived.Test.YtpcpcfnmcfjomaaGreatDoorK17
namespace Go.Proofs.YtpcpcfnmcfjomaaGreatDoor
open Go.RowKit Go.Shelf
theorem index_one_cons (e c : UInt8) (t : List UInt8) : Lib.index (c :: t) [e] = if c = e then 0 else if Lib.index t [e] = -1 then -1 else Lib.index t [e] + 1 := by
  conv => lhs; unfold Lib.index
  by_cases h : c = e
  · subst h; simp
  · have : (e == c) = false := by simpa using fun e1 => h e1.symm
    simp [List.isPrefixOf, this, h]
theorem index_two (l : List UInt8) (e : UInt8) : Lib.index l [e] = -1 ∨ ∃ i : Nat, Lib.index l [e] = i ∧ i < l.length := by
  induction l with
  | nil => exact .inl (by simp [Lib.index])
  | cons c t ih =>
    rw [index_one_cons]
    by_cases h : c = e
    · rw [if_pos h]; exact .inr ⟨0, rfl, by simp⟩
    · rw [if_neg h]
      rcases ih with ih | ⟨i, ih, hi⟩
      · rw [if_pos ih]; exact .inl rfl
      · rw [if_neg (by omega), ih]; exact .inr ⟨i + 1, by omega, by simp; omega⟩
theorem cut_nil (e : UInt8) : Lib.cut [] [e] = ([], [], false) := by unfold Lib.cut; simp [Lib.index]
theorem cut_cons (e c : UInt8) (t : List UInt8) : Lib.cut (c :: t) [e] = if c = e then ([], t, true) else (c :: (Lib.cut t [e]).1, (Lib.cut t [e]).2.1, (Lib.cut t [e]).2.2) := by
  unfold Lib.cut
  rw [index_one_cons]
  by_cases h : c = e
  · rw [if_pos h, if_pos h, if_pos (by decide)]; simp
  · rw [if_neg h, if_neg h]
    rcases index_two t e with h1 | ⟨i, h1, hi⟩
    · rw [if_pos h1, h1]; simp
    · have e0 : (if Lib.index t [e] = -1 then (-1 : Int) else Lib.index t [e] + 1) = (i : Int) + 1 := by rw [if_neg (by omega), h1]
      rw [e0, h1, if_pos (by omega), if_pos (by omega)]
      have e1 : ((i : Int) + 1).toNat = i + 1 := by omega
      rw [e1]; simp
theorem cut_lt {e : UInt8} : ∀ {l : List UInt8}, (Lib.cut l [e]).2.2 = true → (Lib.cut l [e]).1.length < l.length
  | [], h => by rw [cut_nil] at h; cases h
  | c :: t, h => by
    rw [cut_cons] at h ⊢
    split at h
    · simp [*]
    · rename_i hc
      rw [if_neg hc]
      have := cut_lt h
      simp; exact this
theorem cut_app {e : UInt8} (r : List UInt8) : ∀ {l : List UInt8}, (Lib.cut l [e]).2.2 = true → Lib.cut (l ++ r) [e] = ((Lib.cut l [e]).1, (Lib.cut l [e]).2.1 ++ r, true)
  | [], h => by rw [cut_nil] at h; cases h
  | c :: t, h => by
    rw [List.cons_append, cut_cons] at *
    rw [cut_cons]
    split at h
    · rename_i hc; rw [if_pos hc, if_pos hc]
    · rename_i hc
      rw [if_neg hc, if_neg hc, cut_app r h]
theorem drop_app {s r : List UInt8} {k : Nat} (h : k ≤ s.length) : (s ++ r).drop k = s.drop k ++ r := List.drop_append_of_le_length h
theorem choR_app (t : List UInt8) {s : List UInt8} {m : Md} {n : Nat} (h : choR s = .ok m n) (h1 : 1 ≤ s.length) : choR (s ++ 58 :: t) = .ok m n ∧ n ≤ s.length := by
  unfold choR at h ⊢
  rw [drop_app h1]
  split at h
  · cases h
  rename_i f1
  have g1 : (Lib.cut (s.drop 1) [93]).2.2 = true := by simpa using f1
  have l1 := cut_lt g1
  rw [List.length_drop] at l1
  rw [cut_app _ g1, if_neg (by simp)]
  dsimp only
  cases hc : choO (Lib.cut (s.drop 1) [93]).1 with
  | none => rw [hc] at h; cases h
  | some k =>
    rw [hc] at h
    dsimp only at h ⊢
    split at h
    · rename_i hend
      rw [if_pos]
      · exact ⟨h, by cases h; omega⟩
      · rcases hend with h4 | h4
        · rw [h4]; exact .inr rfl
        · refine .inr ?_
          cases hb : (Lib.cut (s.drop 1) [93]).2.1 with
          | nil => rfl
          | cons a b => rw [hb] at h4; exact h4
    · cases h
theorem plain_len {s : List UInt8} {u : Um} {n : Nat} (h : plainU s = .ok u n) : n ≤ s.length := by
  have hl := (until_len 58 s).2
  unfold plainU at h
  split at h
  · cases h; exact hl
  · split at h
    · cases h; exact hl
    · cases h
inductive GoodU (N : Nat) : Um → Prop where
  | m (p : ByteArray) (h : p.size ≤ N) : GoodU N { md := { kind := ⟨#[77]⟩, a := p } }
  | n (p : ByteArray) (h : p.size ≤ N) : GoodU N { md := { kind := ⟨#[78]⟩, a := p } }
  | word (t : ByteArray) (h : t ∈ wordsL) : GoodU N { md := { kind := t } }
  | eq (a b : ByteArray) (ha : a.size ≤ N) (hb : b.size ≤ N) : GoodU N { md := { kind := ⟨#[61]⟩, a := a, b := b } }
  | count : GoodU N { md := { kind := ⟨#[35]⟩ } }
  | join : GoodU N { md := { kind := ⟨#[42]⟩ } }
  | pick (f t : Int) (h1 : -1000000000000000000 < f) (h2 : f < 1000000000000000000) (h3 : -1000000000000000000 < t) (h4 : t < 1000000000000000000) : GoodU N { md := { kind := ⟨#[91]⟩, frm := f, upto := t } }
theorem GoodU.ex {N : Nat} {u : Um} (h : GoodU N u) : u.md.ex = none := by cases h <;> rfl
theorem numO_bound {l : List UInt8} {k : Int} (h : numO l = some k) : -1000000000000000000 < k ∧ k < 1000000000000000000 := by
  unfold numO at h
  split at h
  · cases h
  · rename_i hc
    have h1 := trimPrefix_len l
    exact Lib.atoi_bound h (by have : ¬ 6 < (Lib.trimPrefix l [45]).length := fun e => hc (.inl e); omega)
theorem choO_good {l : List UInt8} {m : Md} {N : Nat} (h : choO l = some m) : GoodU N { md := m } := by
  unfold choO at h
  split at h
  · rename_i hl
    cases h
    rcases hl with rfl | rfl
    · exact .count
    · exact .join
  · cases h1 : numO (Lib.cut l [46, 46]).1 with
    | none => rw [h1] at h; cases h
    | some a =>
      cases h2 : numO (if (Lib.cut l [46, 46]).2.2 = true then (Lib.cut l [46, 46]).2.1 else (Lib.cut l [46, 46]).1) with
      | none => rw [h1, h2] at h; cases h
      | some b =>
        rw [h1, h2] at h
        cases h
        exact .pick a b (numO_bound h1).1 (numO_bound h1).2 (numO_bound h2).1 (numO_bound h2).2
theorem plain_good {s : List UInt8} {u : Um} {n N : Nat} (h : plainU s = .ok u n) (hN : s.length ≤ N) : GoodU N u := by
  have l1 := until_len 58 s
  have l2 := cut_lens (untilL 58 s).1 [61]
  unfold plainU at h
  split at h
  · cases h; exact .word _ (by assumption)
  · split at h
    · cases h
      exact .eq _ _ (by rw [ba_size]; omega) (by rw [ba_size]; omega)
    · cases h
theorem readU_good {s : List UInt8} {u : Um} {n N : Nat} (h : readU s = .ok u n) (hN : s.length ≤ N) : GoodU N u := by
  unfold readU at h
  split at h
  · rename_i hk
    cases h
    have l1 := until_len 58 (s.drop 1)
    rw [List.length_drop] at l1
    cases s with
    | nil => simp at hk
    | cons c r =>
      rcases hk with hk | hk
      · obtain rfl : c = 77 := Option.some.inj hk
        exact .m _ (by rw [ba_size]; omega)
      · obtain rfl : c = 78 := Option.some.inj hk
        exact .n _ (by rw [ba_size]; omega)
  · split at h
    · obtain ⟨m, e1, rfl⟩ := ru_of_ok h
      unfold choR at e1
      split at e1
      · cases e1
      · cases hc : choO (Lib.cut (s.drop 1) [93]).1 with
        | none => rw [hc] at e1; cases e1
        | some k =>
          rw [hc] at e1
          dsimp only at e1
          split at e1
          · cases e1; exact choO_good hc
          · cases e1
    · exact plain_good h hN
theorem readU_bad {s : List UInt8} {why : Nat} (h : readU s = .bad why) : why = 4 ∨ why = 12 := by
  have hof : ∀ {r : Rd}, Ru.of r = .bad why → r = .bad why := fun {r} e => by cases r with | bad w => cases e; rfl | ok m n => cases e
  unfold readU at h
  split at h
  · cases h
  · split at h
    · have e1 := hof h
      unfold choR at e1
      split at e1
      · cases e1; exact .inl rfl
      · cases hc : choO (Lib.cut (s.drop 1) [93]).1 with
        | none => rw [hc] at e1; cases e1; exact .inr rfl
        | some k =>
          rw [hc] at e1
          dsimp only at e1
          split at e1
          · cases e1
          · cases e1; exact .inr rfl
    · unfold plainU at h
      split at h
      · cases h
      split at h
      · cases h
      cases h; exact .inr rfl
theorem readU_len {s : List UInt8} {u : Um} {n : Nat} (h : readU s = .ok u n) : n ≤ s.length := by
  unfold readU at h
  split at h
  · rename_i hk
    cases h
    have l1 := until_len 58 (s.drop 1)
    rw [List.length_drop] at l1
    cases s with
    | nil => simp at hk
    | cons c r => simp only [List.length_cons] at l1 ⊢; omega
  · split at h
    · rename_i h3
      obtain ⟨m, e1, rfl⟩ := ru_of_ok h
      exact (choR_app [] e1 (by cases s with | nil => simp at h3 | cons => simp)).2
    · exact plain_len h
noncomputable def parseU (s : List UInt8) (k c : Nat) : List Um ⊕ (Nat × Nat) :=
  if s.length < k then .inl [] else
  match readU (s.drop k) with
  | .bad why => .inr (why, k)
  | .ok u n => if c = 32 then .inr (5, k) else match parseU s (k + n + 1) (c + 1) with
    | .inl us => .inl (u :: us)
    | .inr f => .inr f
termination_by s.length + 1 - k
theorem parse_end {s : List UInt8} {k c : Nat} (h : s.length < k) : parseU s k c = .inl [] := by rw [parseU, if_pos h]
theorem parse_bad {s : List UInt8} {k c why : Nat} (h : k ≤ s.length) (hr : readU (s.drop k) = .bad why) : parseU s k c = .inr (why, k) := by
  rw [parseU, if_neg (by omega), hr]
theorem parse_many {s : List UInt8} {k n : Nat} {u : Um} (h : k ≤ s.length) (hr : readU (s.drop k) = .ok u n) : parseU s k 32 = .inr (5, k) := by
  rw [parseU, if_neg (by omega), hr]; rfl
theorem parse_next {s : List UInt8} {k c n : Nat} {u : Um} (h : k ≤ s.length) (hr : readU (s.drop k) = .ok u n) (hc : c ≠ 32) : parseU s k c = match parseU s (k + n + 1) (c + 1) with
    | .inl us => .inl (u :: us)
    | .inr f => .inr f := by
  rw [parseU, if_neg (by omega), hr]
  dsimp only
  rw [if_neg hc]
noncomputable def allU (s : List UInt8) : List Um ⊕ (Nat × Nat) := if s = [] then .inl [] else parseU s 0 0
theorem parse_good (s : List UInt8) (N : Nat) (hN : s.length ≤ N) : ∀ (j k c : Nat) (us : List Um), s.length + 1 - k ≤ j → parseU s k c = .inl us → (∀ u ∈ us, GoodU N u) ∧ (c ≤ 32 → c + us.length ≤ 32)
  | 0, k, c, us, hj, h => by
    rw [parse_end (by omega)] at h
    cases h
    exact ⟨fun u hu => by simp at hu, fun h => by simpa using h⟩
  | j + 1, k, c, us, hj, h => by
    by_cases hk : s.length < k
    · rw [parse_end hk] at h
      cases h
      exact ⟨fun u hu => by simp at hu, fun h => by simpa using h⟩
    · cases hr : readU (s.drop k) with
      | bad why => rw [parse_bad (by omega) hr] at h; cases h
      | ok u n =>
        by_cases hc : c = 32
        · rw [hc, parse_many (by omega) hr] at h; cases h
        · rw [parse_next (by omega) hr hc] at h
          cases hp : parseU s (k + n + 1) (c + 1) with
          | inr f => rw [hp] at h; cases h
          | inl us' =>
            rw [hp] at h
            cases h
            obtain ⟨i1, i2⟩ := parse_good s N hN j (k + n + 1) (c + 1) us' (by omega) hp
            refine ⟨fun x hx => ?_, fun h32 => ?_⟩
            · rcases List.mem_cons.1 hx with rfl | hx
              · exact readU_good hr (by rw [List.length_drop]; omega)
              · exact i1 x hx
            · have := i2 (by omega)
              simp only [List.length_cons]; omega
end Go.Proofs.YtpcpcfnmcfjomaaGreatDoor
namespace Go.Proofs.YtpcpcfnmcfjomaaGreatDoor
open Go.RowKit Go.Shelf
structure Held (_lo : Nat) (_w : World) (ms : List Md) (us : List Um) : Prop where
  eq : ms = us.map Um.md
  non : ∀ u ∈ us, u.md.ex = none
theorem Held.len {lo : Nat} {w : World} {ms : List Md} {us : List Um} (h : Held lo w ms us) : ms.length = us.length := by rw [h.eq, List.length_map]
theorem Held.any {lo lo' : Nat} {w w' : World} {ms : List Md} {us : List Um} (h : Held lo w ms us) : Held lo' w' ms us := ⟨h.eq, h.non⟩
theorem Held.fit {lo : Nat} {w : World} {ms : List Md} {us : List Um} (h : Held lo w ms us) (i : Nat) (h1 : i < ms.length) (h2 : i < us.length) : Fits ms[i] us[i] lo w := by
  obtain ⟨rfl, _⟩ := h
  unfold Fits; rw [List.getElem_map]
theorem Held.nil (lo : Nat) (w : World) : Held lo w [] [] := ⟨rfl, fun u h => by simp at h⟩
theorem Held.below {lo : Nat} {w w' : World} {ms : List Md} {us : List Um} (h : Held lo w ms us) (_ : Below w.heap.size w w') : Held lo w' ms us := h.any
theorem Held.snoc {lo : Nat} {w w' : World} {ms : List Md} {us : List Um} {m : Md} {u : Um} (h : Held lo w ms us) (hf : Fits m u w.heap.size w') (hg : u.md.ex = none) : Held lo w' (ms ++ [m]) (us ++ [u]) := by
  refine ⟨by rw [h.eq, List.map_append, show m = u.md from hf]; rfl, fun v hv => ?_⟩
  rcases List.mem_append.1 hv with hv | hv
  · exact h.non v hv
  · obtain rfl : v = u := by simpa using hv
    exact hg
def ParsePost (r : List Um ⊕ (Nat × Nat)) (w : World) (e : Ending) (w' : World) : Prop := Below w.heap.size w w' ∧ match r with
  | .inr f => e = .returned (.tuple #[.slice none 0 0, .agg #[.int .i64 (f.1 : Int), .int .i64 (f.2 : Int)]])
  | .inl us => ∃ v ms, e = .returned (.tuple #[v, .agg #[.int .i64 0, .int .i64 0]]) ∧ w'.ownsRow w.heap.size 45 12 v us.length (modsV ms) ∧ Held w.heap.size w' ms us
def upon (us : List Um) : List Um ⊕ (Nat × Nat) → List Um ⊕ (Nat × Nat)
  | .inl vs => .inl (us ++ vs)
  | .inr f => .inr f
theorem flt_new (w : World) (a b : Int) : Hid (∀ W, Below (w.heap.size + 1) (w.alloc (.cells #[.int .i64 0, .int .i64 0] 35)) W → W.heap[w.heap.size]? = some (.cells #[.int .i64 0, .int .i64 0] 35 (0, 0)) ∧ Below w.heap.size w W ∧ ((W.setCell ⟨w.heap.size, 0, none⟩ (.int .i64 a)).setCell ⟨w.heap.size, 1, none⟩ (.int .i64 b)).heap[w.heap.size]? = some (.cells #[.int .i64 a, .int .i64 b] 35 (0, 0)) ∧ Below w.heap.size w ((W.setCell ⟨w.heap.size, 0, none⟩ (.int .i64 a)).setCell ⟨w.heap.size, 1, none⟩ (.int .i64 b))) := fun W hB => by
  have h1 : W.heap[w.heap.size]? = some (.cells #[.int .i64 0, .int .i64 0] 35 (0, 0)) := by
    rw [hB.block w.heap.size (by omega)]; exact heap_alloc_new w _
  have h2 : Below w.heap.size w W := ((Below.refl _ w).alloc (Nat.le_refl _) _).trans (hB.mono (by omega))
  exact ⟨h1, h2, heap_set (heap_set h1 _) _, (h2.setCell (Nat.le_refl _) _).setCell (Nat.le_refl _) _⟩
set_option maxRecDepth 20000 in
set_option maxHeartbeats 3200000 in
theorem parse_any (s : ByteArray) (w : World) (hs : s.size ≤ 1000000) (h1 : 1 ≤ s.size) (hn : NoSC (bl s)) (hmx : Mx w) (hE : Ey w) :
    Calls Tryz.prog 8 #[.string s] w (ParsePost (allU (bl s)) w) := by
  have t1 : ¬ s.toList = [] := by rw [Lib.toList_data]; intro e; have := bl_length s; unfold bl at this; rw [e] at this; simp at this; omega
  have t2 : s.toList.isEmpty = false := by cases hh : s.toList with | nil => exact absurd hh t1 | cons => rfl
  have HRd : Hid (∀ k W, Below w.heap.size w W → Calls Tryz.prog 12 #[.string (s.extract k s.size)] W (RuPost (readU ((bl s).drop k)) W)) := fun k W hB => by
    have := read_any_ (s.extract k s.size) W (by simp; omega) (by rw [bl_rest]; exact hn.drop k) (hmx.below hB hmx.pos) (hE.below hB hE.pos)
    rw [bl_rest] at this; exact this
  obtain ⟨R, hR⟩ : ∃ R, R = allU (bl s) := ⟨_, rfl⟩
  rw [← hR]
  have HR : Hid (R = upon [] (parseU (bl s) 0 0)) := by
    unfold Hid; rw [hR]; unfold allU
    rw [if_neg (fun e => t1 (by rw [Lib.toList_data]; exact e))]
    cases parseU (bl s) 0 0 <;> rfl
  clear hmx hE hR hn
  obtain ⟨i0, hi, hz0, hz1, hz2⟩ := info_of infoMd
  go_enter Tryz.func8, Tryz.ntmps8
  go_wp2
  go_loopw [4, 5] (fun v4 vi wr => ∃ (k c : Nat) (dn : List Md) (us : List Um), k ≤ 2 * s.size + 1 ∧ vi = .int .i64 k ∧ c ≤ 32 ∧ Hid (c = us.length ∧ Held w.heap.size wr dn us ∧ R = upon us (parseU (bl s) k c)) ∧ wr.ownsRow (w.heap.size + 1) 45 12 v4 c (modsV dn) ∧ Below (w.heap.size + 1) (w.alloc (.cells #[.int .i64 0, .int .i64 0] 35)) wr)
    (fun _ vi _ => 2 * s.size + 2 - (intOf vi).toNat)
  case atStart => exact ⟨0, 0, [], [], Nat.zero_le _, rfl, Nat.zero_le _, ⟨rfl, Held.nil _ _, HR.out⟩, World.ownsRow_nil _ _ _ _, Below.refl _ _⟩
  case round =>
    obtain ⟨k, c, dn, us, hk, rfl, hc32, HD, hrow, hb⟩ := hrel
    obtain ⟨a4, cap4, hv4⟩ := owns_slice hrow
    subst hv4
    have hbs : w.heap.size + 1 ≤ wr.heap.size := by have := hb.size; simpa using this
    have HLow : Hid (Below w.heap.size w wr) := ((Below.refl _ w).alloc (Nat.le_refl _) _).trans (hb.mono (by omega))
    by_cases hlt : k ≤ s.size
    · have hil : (k : Int) ≤ (s.size : Int) := by omega
      have h0 : (0 : Int) ≤ (k : Int) := by omega
      have hkb : k ≤ 1000000 := by omega
      have hkl : k ≤ (bl s).length := by rw [bl_length]; exact hlt
      cases hr : readU ((bl s).drop k) with
      | bad why =>
        have HRd1 := HRd.out k wr HLow.out
        rw [hr] at HRd1
        have HR2 : Hid (R = .inr (why, k)) := by unfold Hid; rw [HD.out.2.2, parse_bad hkl hr]; rfl
        have hwhy : why ≠ 0 := by rcases readU_bad hr with h | h <;> omega
        have hw0 : ((why : Int) == 0) = false := by rw [beq_eq_false_iff_ne]; omega
        have hw0' : ¬ (why : Int) = 0 := by omega
        have HRdx : Hid (Calls Tryz.prog 12 #[.string (s.extract k s.size)] wr (RuPost (.bad why) wr)) := HRd1
        clear HRd1 hr HD hwhy hkl
        go_wp2_with fail
        refine HRdx.out.mono ?_
        rintro e w1 ⟨hb1, he1⟩
        dsimp only at he1
        subst he1
        dsimp only [Rd.val]
        have hb1' := hb.trans (hb1.mono hbs)
        have hbs1 := hb1'.size
        rw [World.size_alloc] at hbs1
        clear hb1 hrow
        obtain ⟨w3, hw3⟩ : ∃ w3, w3 = w1.alloc (.cells zeroMd 45) := ⟨_, rfl⟩
        have hb3 : Below (w.heap.size + 1) (w.alloc (.cells #[.int .i64 0, .int .i64 0] 35)) w3 := by rw [hw3]; exact hb1'.alloc hbs1 _
        obtain ⟨hblk, hlow3, hF, hFb⟩ := (flt_new w (why : Int) (k : Int)).out w3 hb3
        have y0 : w3.cell? ⟨w.heap.size, 0, none⟩ = some (.int .i64 0) := by simp [World.cell?, hblk]
        have y1 : w3.cell? ⟨w.heap.size, 1, none⟩ = some (.int .i64 0) := by simp [World.cell?, hblk]
        have yf : ∀ i, w3.frozen? ⟨w.heap.size, i, none⟩ = false := fun i => by simp [World.frozen?, hblk]
        have HQ : Hid _ := And.intro hF hFb
        clear hblk hlow3 hF hFb hb1' hb3 hb
        go_upto_region 7 with fail
        rw [show w1.alloc (.cells zeroMd 45) = w3 from hw3.symm]
        clear hw3
        go_wp2
        obtain ⟨W, hW⟩ : ∃ W, W = (w3.setCell ⟨w.heap.size, 0, none⟩ (.int .i64 (why : Int))).setCell ⟨w.heap.size, 1, none⟩ (.int .i64 (k : Int)) := ⟨_, rfl⟩
        have hq := HQ.out
        rw [← hW] at hq ⊢
        have q0 : W.cell? ⟨w.heap.size, 0, none⟩ = some (.int .i64 (why : Int)) := by simp [World.cell?, hq.1]
        have q1 : W.cell? ⟨w.heap.size, 1, none⟩ = some (.int .i64 (k : Int)) := by simp [World.cell?, hq.1]
        refine bodyPost_ret (v := .tuple #[.slice none 0 0, .agg #[.int .i64 (why : Int), .int .i64 (k : Int)]]) (by simp [results, Tryz.results8, go_sem, q0, q1]; try rfl) rfl ⟨hq.2, ?_⟩
        rw [HR2.out] <;> rfl
      | ok u n =>
        have HRd1 := HRd.out k wr HLow.out
        rw [hr] at HRd1
        have HRdx : Hid (Calls Tryz.prog 12 #[.string (s.extract k s.size)] wr (RuPost (.ok u n) wr)) := HRd1
        have hnl := readU_len hr
        rw [List.length_drop, bl_length] at hnl
        have hnb : n ≤ 1000000 := by omega
        have hg := (readU_good (N := s.size) hr (by rw [List.length_drop, bl_length]; omega)).ex
        clear HRd1
        by_cases h32 : c = 32
        · have HR2 : Hid (R = .inr (5, k)) := by unfold Hid; rw [HD.out.2.2, h32, parse_many hkl hr]; rfl
          subst h32
          clear hr HD hkl hg
          go_wp2_with fail
          refine HRdx.out.mono ?_
          rintro e w1 ⟨hb1, m, rfl, _⟩
          obtain ⟨kind, a, b, bg, en, ex, al, on, mks, ots, frm, upto⟩ := m
          dsimp only [Rd.val, Md.cells]
          have hb1' := hb.trans (hb1.mono hbs)
          have hbs1 := hb1'.size
          rw [World.size_alloc] at hbs1
          clear hb1 hrow
          obtain ⟨w3, hw3⟩ : ∃ w3, w3 = w1.alloc (.cells (mdV kind a b bg en ex al on mks ots frm upto) 45) := ⟨_, rfl⟩
          have hb3 : Below (w.heap.size + 1) (w.alloc (.cells #[.int .i64 0, .int .i64 0] 35)) w3 := by rw [hw3]; exact hb1'.alloc hbs1 _
          obtain ⟨hblk, hlow3, hF, hFb⟩ := (flt_new w 5 (k : Int)).out w3 hb3
          have y0 : w3.cell? ⟨w.heap.size, 0, none⟩ = some (.int .i64 0) := by simp [World.cell?, hblk]
          have y1 : w3.cell? ⟨w.heap.size, 1, none⟩ = some (.int .i64 0) := by simp [World.cell?, hblk]
          have yf : ∀ i, w3.frozen? ⟨w.heap.size, i, none⟩ = false := fun i => by simp [World.frozen?, hblk]
          have HQ : Hid _ := And.intro hF hFb
          clear hblk hlow3 hF hFb hb1' hb3 hb
          go_upto_region 7 with fail
          rw [show w1.alloc (.cells (mdV kind a b bg en ex al on mks ots frm upto) 45) = w3 from hw3.symm]
          clear hw3
          go_wp2
          obtain ⟨W, hW⟩ : ∃ W, W = (w3.setCell ⟨w.heap.size, 0, none⟩ (.int .i64 5)).setCell ⟨w.heap.size, 1, none⟩ (.int .i64 (k : Int)) := ⟨_, rfl⟩
          have hq := HQ.out
          rw [← hW] at hq ⊢
          have q0 : W.cell? ⟨w.heap.size, 0, none⟩ = some (.int .i64 5) := by simp [World.cell?, hq.1]
          have q1 : W.cell? ⟨w.heap.size, 1, none⟩ = some (.int .i64 (k : Int)) := by simp [World.cell?, hq.1]
          refine bodyPost_ret (v := .tuple #[.slice none 0 0, .agg #[.int .i64 5, .int .i64 (k : Int)]]) (by simp [results, Tryz.results8, go_sem, q0, q1]; try rfl) rfl ⟨hq.2, ?_⟩
          rw [HR2.out] <;> rfl
        · have HD2 : Hid (c + 1 = (us ++ [u]).length ∧ Held w.heap.size wr dn us ∧ R = upon (us ++ [u]) (parseU (bl s) (k + n + 1) (c + 1)) ∧ u.md.ex = none) := by
            refine ⟨by rw [List.length_append, ← HD.out.1]; rfl, HD.out.2.1, ?_, hg⟩
            rw [HD.out.2.2, parse_next hkl hr h32]
            cases parseU (bl s) (k + n + 1) (c + 1) with
            | inl vs => simp [upon]
            | inr f => rfl
          have hci : ((c : Int) == 32) = false := by rw [beq_eq_false_iff_ne]; omega
          have hc31 : c + 1 ≤ 32 := by omega
          clear hr HD hkl hg h32
          go_wp2_with fail
          refine HRdx.out.mono ?_
          rintro e w1 ⟨hb1, m, rfl, hfit⟩
          have HF : Hid (Held w.heap.size w1 (dn ++ [m]) (us ++ [u]) ∧ modsV (dn ++ [m]) = modsV dn ++ m.cells.toList) := ⟨HD2.out.2.1.snoc hfit HD2.out.2.2.2, modsV_app dn m⟩
          clear hfit
          obtain ⟨kind, a, b, bg, en, ex, al, on, mks, ots, frm, upto⟩ := m
          dsimp only [Rd.val, Md.cells] at HF ⊢
          have hb1' := hb.trans (hb1.mono hbs)
          have hrow1 := owns_below hrow hb1
          have hbs1 := hb1'.size
          rw [World.size_alloc] at hbs1
          clear hb hb1 hrow HLow
          go_wp2_with (at_builtin; refine wpList_append_own _ rfl _ _ 33 rfl (w.heap.size + 1) 45 i0 (.agg zeroMd) 12 104 Tryz.underlying33 hi hz0 hz1 hz2 rfl (by decide) _ _ _ rfl ((hrow1.alloc _).alloc _) ⟨w1.heap.size + 1, 0, none⟩ 1 1 (mdV kind a b bg en ex al on mks ots frm upto).toList rfl rfl (cells_new _ _ _ _ (by simp)) md_one (by unfold maxLen; omega) (by omega) (by simp; omega) ?_)
          intro v' w2 hown' hgrow _
          have hb3 : Below (w.heap.size + 1) (w.alloc (.cells #[.int .i64 0, .int .i64 0] 35)) w2 := ((hb1'.alloc hbs1 _).alloc (by simp; omega) _).grown hgrow (by simp; omega) (fun k hk => (hrow1.lt k hk).1)
          have HH : Hid (Held w.heap.size w2 (dn ++ [⟨kind, a, b, bg, en, ex, al, on, mks, ots, frm, upto⟩]) (us ++ [u])) := HF.out.1.any
          clear hgrow hrow1 hb1'
          obtain ⟨a3, c3, hv3⟩ := owns_slice hown'
          subst hv3
          go_wp2
          go_roundw
          case rel => exact ⟨k + n + 1, c + 1, _, us ++ [u], by omega, by go_num, hc31, ⟨HD2.out.1, HH.out, HD2.out.2.2.1⟩, by rw [HF.out.2]; exact hown', hb3⟩
          case measure => simp [intOf]; omega
    · have hil : ¬ (k : Int) ≤ (s.size : Int) := by omega
      have HRE : Hid (R = .inl us ∧ c = us.length ∧ Held w.heap.size wr dn us) := by
        refine ⟨?_, HD.out.1, HD.out.2.1⟩
        rw [HD.out.2.2, parse_end (by rw [bl_length]; omega)]
        simp [upon]
      clear HD
      obtain ⟨hblk, hlow3, hF, hFb⟩ := (flt_new w 0 0).out wr hb
      have y0 : wr.cell? ⟨w.heap.size, 0, none⟩ = some (.int .i64 0) := by simp [World.cell?, hblk]
      have y1 : wr.cell? ⟨w.heap.size, 1, none⟩ = some (.int .i64 0) := by simp [World.cell?, hblk]
      have yf : ∀ i, wr.frozen? ⟨w.heap.size, i, none⟩ = false := fun i => by simp [World.frozen?, hblk]
      have hO : (wr.setCell ⟨w.heap.size, 0, none⟩ (.int .i64 0)).setCell ⟨w.heap.size, 1, none⟩ (.int .i64 0) |>.ownsRow w.heap.size 45 12 (.slice a4 c cap4) c (modsV dn) := by
        have hne : (Value.slice a4 c cap4).ownBlock ≠ some w.heap.size := fun e => by have := (hrow.lt _ e).1; omega
        exact row_set (row_set (owns_base hrow (by omega)) hne _) hne _
      have hH : Held w.heap.size ((wr.setCell ⟨w.heap.size, 0, none⟩ (.int .i64 0)).setCell ⟨w.heap.size, 1, none⟩ (.int .i64 0)) dn us := HRE.out.2.2.any
      have HQ : Hid _ := And.intro hF (And.intro hFb (And.intro hO hH))
      clear hblk hlow3 hF hFb hO hH hrow hb
      go_wp2
      obtain ⟨W, hW⟩ : ∃ W, W = (wr.setCell ⟨w.heap.size, 0, none⟩ (.int .i64 0)).setCell ⟨w.heap.size, 1, none⟩ (.int .i64 0) := ⟨_, rfl⟩
      have hq := HQ.out
      rw [← hW] at hq ⊢
      have q0 : W.cell? ⟨w.heap.size, 0, none⟩ = some (.int .i64 0) := by simp [World.cell?, hq.1]
      have q1 : W.cell? ⟨w.heap.size, 1, none⟩ = some (.int .i64 0) := by simp [World.cell?, hq.1]
      refine bodyPost_ret (v := .tuple #[.slice a4 c cap4, .agg #[.int .i64 0, .int .i64 0]]) (by simp [results, Tryz.results8, go_sem, q0, q1]; try rfl) rfl ⟨hq.2.1, ?_⟩
      obtain ⟨e1, e2, _⟩ := HRE.out
      rw [e1]
      exact ⟨_, dn, rfl, by rw [← e2]; exact hq.2.2.1, hq.2.2.2⟩
set_option maxRecDepth 20000 in
set_option maxHeartbeats 800000 in
theorem parse_none (w : World) : Calls Tryz.prog 8 #[.string E] w (ParsePost (allU (bl E)) w) := by
  have HR : Hid (allU (bl E) = .inl []) := if_pos rfl
  obtain ⟨R, hR⟩ : ∃ R, R = allU (bl E) := ⟨_, rfl⟩
  rw [← hR] at HR ⊢
  clear hR
  go_enter Tryz.func8, Tryz.ntmps8
  go_upto_region 2 with fail
  obtain ⟨w3, hw3⟩ : ∃ w3, w3 = w.alloc (.cells #[.int .i64 0, .int .i64 0] 35) := ⟨_, rfl⟩
  have hb3 : Below (w.heap.size + 1) (w.alloc (.cells #[.int .i64 0, .int .i64 0] 35)) w3 := by rw [hw3]; exact Below.refl _ _
  obtain ⟨hblk, hlow3, hF, hFb⟩ := (flt_new w 0 0).out w3 hb3
  have y0 : w3.cell? ⟨w.heap.size, 0, none⟩ = some (.int .i64 0) := by simp [World.cell?, hblk]
  have y1 : w3.cell? ⟨w.heap.size, 1, none⟩ = some (.int .i64 0) := by simp [World.cell?, hblk]
  have yf : ∀ i, w3.frozen? ⟨w.heap.size, i, none⟩ = false := fun i => by simp [World.frozen?, hblk]
  have HQ : Hid _ := And.intro hF hFb
  rw [show w.alloc (.cells #[.int .i64 0, .int .i64 0] 35) = w3 from hw3.symm]
  clear hw3 hblk hlow3 hF hFb hb3
  go_wp2
  obtain ⟨W, hW⟩ : ∃ W, W = (w3.setCell ⟨w.heap.size, 0, none⟩ (.int .i64 0)).setCell ⟨w.heap.size, 1, none⟩ (.int .i64 0) := ⟨_, rfl⟩
  have hq := HQ.out
  rw [← hW] at hq ⊢
  have q0 : W.cell? ⟨w.heap.size, 0, none⟩ = some (.int .i64 0) := by simp [World.cell?, hq.1]
  have q1 : W.cell? ⟨w.heap.size, 1, none⟩ = some (.int .i64 0) := by simp [World.cell?, hq.1]
  refine bodyPost_ret (v := .tuple #[.slice none 0 0, .agg #[.int .i64 0, .int .i64 0]]) (by simp [results, Tryz.results8, go_sem, q0, q1]; try rfl) rfl ⟨hq.2, ?_⟩
  rw [HR.out]
  exact ⟨_, [], rfl, World.ownsRow_nil _ _ _ _, Held.nil _ _⟩
theorem parse_all (s : ByteArray) (w : World) (hs : s.size ≤ 1000000) (hn : NoSC (bl s)) (hmx : Mx w) (hE : Ey w) : Calls Tryz.prog 8 #[.string s] w (ParsePost (allU (bl s)) w) := by
  by_cases h1 : 1 ≤ s.size
  · exact parse_any s w hs h1 hn hmx hE
  · obtain rfl : s = E := bl_inj (by have := bl_length s; exact List.length_eq_zero_iff.1 (by omega))
    exact parse_none w
end Go.Proofs.YtpcpcfnmcfjomaaGreatDoor
