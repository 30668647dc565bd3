/-
  MR2 MS1 MS2
-/
import Derived.Test.YtedepknbaakkhabGreatDoorK34
import Derived.Lib.AtoiBound
namespace Go.Proofs.YtedepknbaakkhabGreatDoor
open Go.RowKit Go.Shelf
open Classical in
noncomputable def plainU (l : List UInt8) : Ru :=
  if ba (untilL 58 l).1 ∈ wordsL then .ok { md := { kind := ba (untilL 58 l).1 } } (untilL 58 l).2.1
  else if (Lib.cut (untilL 58 l).1 [61]).2.2 = true then .ok { md := { kind := ⟨#[61]⟩, a := ba (Lib.cut (untilL 58 l).1 [61]).1, b := ba (Lib.cut (untilL 58 l).1 [61]).2.1 } } (untilL 58 l).2.1 else .bad 12
def Ru.of : Rd → Ru
  | .bad why => .bad why
  | .ok m n => .ok { md := m } n
open Classical in
noncomputable def readU (s : List UInt8) : Ru :=
  if s.head? = some 77 ∨ s.head? = some 78 then .ok { md := { kind := ba (s.take 1), a := ba (untilL 58 (s.drop 1)).1 } } ((untilL 58 (s.drop 1)).2.1 + 1)
  else if (s.head? = some 83 ∨ s.head? = some 67) ∧ (∃ d, s[1]? = some d ∧ partsB d = true) then (if s.head? = some 83 then Ru.of (changeS (s.getD 1 0) s) else changeC (s.getD 1 0) s)
  else if s.head? = some 91 then Ru.of (choR s)
  else plainU s
theorem ru_of {r : Rd} {w : World} {e : Ending} {w' : World} (h : e = .returned r.val ∧ Below w.heap.size w w') : RuPost (.of r) w e w' := by
  cases r with
  | bad why => exact ⟨h.2, h.1⟩
  | ok m n => exact ⟨h.2, m, h.1, rfl⟩
theorem head_t {s : ByteArray} {c : UInt8} (h : (bl s).head? = some c) : headIs s c = true := by unfold headIs; simpa using h
theorem head_f {s : ByteArray} {c : UInt8} (h : ¬ (bl s).head? = some c) : headIs s c = false := by unfold headIs; simpa using h
theorem until_head {c : UInt8} {l : List UInt8} (h : l.head? = some c) (h1 : c ≠ 58) (h2 : c ≠ 92) : (untilL 58 l).1.head? = some c := by
  cases l with
  | nil => cases h
  | cons b t =>
    obtain rfl : b = c := Option.some.inj h
    rw [until_go (fun x => h2 x.1) h1]; rfl
theorem words_not {l : List UInt8} {c : UInt8} (h : l.head? = some c) (hc : c = 83 ∨ c = 67) : ba l ∉ wordsL := by
  intro hm
  have h2 : ∀ x ∈ wordsL, (bl x).head? ≠ some 83 ∧ (bl x).head? ≠ some 67 := by
    intro x hx
    unfold wordsL at hx
    simp only [List.mem_cons, List.not_mem_nil, or_false] at hx
    rcases hx with rfl | rfl | rfl | rfl | rfl | rfl | rfl | rfl | rfl | rfl | rfl <;> exact ⟨by simp [bl], by simp [bl]⟩
  have h3 := h2 _ hm
  rw [bl_ba, h] at h3
  rcases hc with rfl | rfl
  · exact h3.1 rfl
  · exact h3.2 rfl
theorem plain_ru {s : ByteArray} {w : World} (hnw : ba (untilL 58 (bl s)).1 ∉ wordsL)
    (h : ∀ (t : ByteArray) (n : Nat) (f : Bool), untilL 58 (bl s) = (bl t, n, f) → t ∉ wordsL → Calls Tryz.prog 10 #[.string s] w fun e w' => e = .returned (if (Lib.cut (bl t) [61]).2.2 = true then (Rd.ok { kind := ⟨#[61]⟩, a := ba (Lib.cut (bl t) [61]).1, b := ba (Lib.cut (bl t) [61]).2.1 } n) else .bad 12).val ∧ Below w.heap.size w w') :
    Calls Tryz.prog 10 #[.string s] w (RuPost (plainU (bl s)) w) := by
  rcases hu : untilL 58 (bl s) with ⟨t, n, f⟩
  rw [hu] at hnw
  refine (h (ba t) n f (by rw [hu, bl_ba]) hnw).mono ?_
  rintro e w' ⟨he, hb⟩
  unfold plainU
  rw [hu, if_neg hnw]
  rw [bl_ba] at he
  dsimp only
  by_cases hc : (Lib.cut t [61]).2.2 = true
  · rw [if_pos hc] at he ⊢
    exact ⟨hb, _, he, rfl⟩
  · rw [if_neg hc] at he ⊢
    exact ⟨hb, he⟩
theorem getD_one {s : ByteArray} (h : 1 < s.size) : (bl s).getD 1 0 = s[1] ∧ (bl s)[1]? = some s[1] := by
  have := bl_get s 1 h
  exact ⟨by rw [List.getD_eq_getElem?_getD, this]; rfl, this⟩
theorem read_any_ (s : ByteArray) (w : World) (hs : s.size ≤ 1000000) (hmx : Mx w) (hE : Ey w) : Calls Tryz.prog 10 #[.string s] w (RuPost (readU (bl s)) w) := by
  by_cases h1 : (bl s).head? = some 77 ∨ (bl s).head? = some 78
  · have hr : readU (bl s) = .ok { md := { kind := ba ((bl s).take 1), a := ba (untilL 58 ((bl s).drop 1)).1 } } ((untilL 58 ((bl s).drop 1)).2.1 + 1) := if_pos h1
    have hx : s.extract 0 1 = ba ((bl s).take 1) := bl_inj (by rw [bl_ba, bl_extract]; rfl)
    rw [hr]
    have fin : ∀ (e : Ending) (w' : World), (e = .returned (.tuple #[.agg (mdV (s.extract 0 1) (ba (untilL 58 (bl (s.extract 1 s.size))).1) E false false none false false 0 0 0 0), .int .i64 ((untilL 58 (bl (s.extract 1 s.size))).2.1 + 1), .int .i64 0]) ∧ Below w.heap.size w w') → RuPost (.ok { md := { kind := ba ((bl s).take 1), a := ba (untilL 58 ((bl s).drop 1)).1 } } ((untilL 58 ((bl s).drop 1)).2.1 + 1)) w e w' := fun e w' h => by
      refine ⟨h.2, _, ?_, rfl⟩
      rw [h.1, hx, bl_rest]; rfl
    rcases h1 with h1 | h1
    · have hk := head_t h1
      exact (read_m s w hs (head_pos hk) hk).mono fin
    · have hk := head_t h1
      exact (read_n s w hs (head_pos hk) hk).mono fin
  · have n77 := head_f fun h => h1 (.inl h)
    have n78 := head_f fun h => h1 (.inr h)
    by_cases h2 : ((bl s).head? = some 83 ∨ (bl s).head? = some 67) ∧ (∃ d, (bl s)[1]? = some d ∧ partsB d = true)
    · have hr : readU (bl s) = if (bl s).head? = some 83 then Ru.of (changeS ((bl s).getD 1 0) (bl s)) else changeC ((bl s).getD 1 0) (bl s) := by unfold readU; rw [if_neg h1, if_pos h2]
      obtain ⟨hh, d, hd, hpd⟩ := h2
      have hsz : 1 < s.size := by have := (List.getElem?_eq_some_iff.1 hd).1; rw [bl_length] at this; exact this
      obtain ⟨g1, g2⟩ := getD_one hsz
      rw [g2] at hd
      obtain rfl : s[1] = d := Option.some.inj hd
      rw [hr, g1]
      by_cases h83 : (bl s).head? = some 83
      · rw [if_pos h83]
        exact (read_s s w hs (by omega) (head_t h83) hpd hmx).mono fun e w' h => ru_of h
      · rw [if_neg h83]
        exact read_c s w hs (by omega) (head_t (hh.resolve_left h83)) hpd hmx
    · by_cases h3 : (bl s).head? = some 91
      · have hr : readU (bl s) = Ru.of (choR (bl s)) := by unfold readU; rw [if_neg h1, if_neg h2, if_pos h3]
        rw [hr]
        have hk := head_t h3
        exact (read_b s w hs (head_pos hk) hk hmx hE).mono fun e w' h => ru_of h
      · have hr : readU (bl s) = plainU (bl s) := by unfold readU; rw [if_neg h1, if_neg h2, if_neg h3]
        rw [hr]
        by_cases h4 : (bl s).head? = some 83 ∨ (bl s).head? = some 67
        · have hnp : ∀ h : 1 < s.size, partsB s[1] = false := fun h => by
            cases hp : partsB s[1] with
            | false => rfl
            | true => exact absurd ⟨h4, s[1], (getD_one h).2, hp⟩ h2
          have hnw : ba (untilL 58 (bl s)).1 ∉ wordsL := by
            rcases h4 with h | h
            · exact words_not (until_head h (by decide) (by decide)) (.inl rfl)
            · exact words_not (until_head h (by decide) (by decide)) (.inr rfl)
          refine plain_ru hnw fun t n f hu ht => ?_
          by_cases hz : 1 < s.size
          · rcases h4 with h | h
            · exact read_eq_S2 s t n f w hs (head_t h) hz (hnp hz) hu ht hmx
            · exact read_eq_C2 s t n f w hs (head_t h) hz (hnp hz) hu ht hmx
          · rcases h4 with h | h
            · exact read_eq_S1 s t n f w hs (head_t h) hz hu ht hmx
            · exact read_eq_C1 s t n f w hs (head_t h) hz hu ht hmx
        · have hp : Plain s := ⟨n77, n78, head_f fun h => h4 (.inl h), head_f fun h => h4 (.inr h), head_f h3⟩
          by_cases hw : ba (untilL 58 (bl s)).1 ∈ wordsL
          · rcases hu : untilL 58 (bl s) with ⟨t, n, f⟩
            rw [hu] at hw
            refine (read_word s (ba t) n f w hs hp (by rw [hu, bl_ba]) hw).mono ?_
            rintro e w' ⟨he, hb⟩
            unfold plainU
            rw [hu, if_pos hw]
            exact ⟨hb, _, he, rfl⟩
          · exact plain_ru hw fun t n f hu ht => read_eq s t n f w hs hp hu ht hmx
end Go.Proofs.YtedepknbaakkhabGreatDoor
namespace Go.Proofs.YtedepknbaakkhabGreatDoor
open Go.RowKit Go.Shelf
theorem index_one_cons (e c : UInt8) (t : List UInt8) : Lib.index (c :: t) [e] = if c = e then 0 else if Lib.index t [e] = -1 then -1 else Lib.index t [e] + 1 := by
  conv => lhs; unfold Lib.index
  by_cases h : c = e
  · subst h; simp
  · have : (e == c) = false := by simpa using fun e1 => h e1.symm
    simp [List.isPrefixOf, this, h]
theorem index_two (l : List UInt8) (e : UInt8) : Lib.index l [e] = -1 ∨ ∃ i : Nat, Lib.index l [e] = i ∧ i < l.length := by
  induction l with
  | nil => exact .inl (by simp [Lib.index])
  | cons c t ih =>
    rw [index_one_cons]
    by_cases h : c = e
    · rw [if_pos h]; exact .inr ⟨0, rfl, by simp⟩
    · rw [if_neg h]
      rcases ih with ih | ⟨i, ih, hi⟩
      · rw [if_pos ih]; exact .inl rfl
      · rw [if_neg (by omega), ih]; exact .inr ⟨i + 1, by omega, by simp; omega⟩
theorem cut_nil (e : UInt8) : Lib.cut [] [e] = ([], [], false) := by unfold Lib.cut; simp [Lib.index]
theorem cut_cons (e c : UInt8) (t : List UInt8) : Lib.cut (c :: t) [e] = if c = e then ([], t, true) else (c :: (Lib.cut t [e]).1, (Lib.cut t [e]).2.1, (Lib.cut t [e]).2.2) := by
  unfold Lib.cut
  rw [index_one_cons]
  by_cases h : c = e
  · rw [if_pos h, if_pos h, if_pos (by decide)]; simp
  · rw [if_neg h, if_neg h]
    rcases index_two t e with h1 | ⟨i, h1, hi⟩
    · rw [if_pos h1, h1]; simp
    · have e0 : (if Lib.index t [e] = -1 then (-1 : Int) else Lib.index t [e] + 1) = (i : Int) + 1 := by rw [if_neg (by omega), h1]
      rw [e0, h1, if_pos (by omega), if_pos (by omega)]
      have e1 : ((i : Int) + 1).toNat = i + 1 := by omega
      rw [e1]; simp
theorem cut_lt {e : UInt8} : ∀ {l : List UInt8}, (Lib.cut l [e]).2.2 = true → (Lib.cut l [e]).1.length < l.length
  | [], h => by rw [cut_nil] at h; cases h
  | c :: t, h => by
    rw [cut_cons] at h ⊢
    split at h
    · simp [*]
    · rename_i hc
      rw [if_neg hc]
      have := cut_lt h
      simp; exact this
theorem cut_none {e : UInt8} : ∀ {l : List UInt8}, (Lib.cut l [e]).2.2 = false → (Lib.cut l [e]).1 = l
  | [], _ => by rw [cut_nil]
  | c :: t, h => by
    rw [cut_cons] at h ⊢
    split at h
    · cases h
    · rename_i hc
      rw [if_neg hc]
      show c :: _ = _
      rw [cut_none h]
theorem cut_app {e : UInt8} (r : List UInt8) : ∀ {l : List UInt8}, (Lib.cut l [e]).2.2 = true → Lib.cut (l ++ r) [e] = ((Lib.cut l [e]).1, (Lib.cut l [e]).2.1 ++ r, true)
  | [], h => by rw [cut_nil] at h; cases h
  | c :: t, h => by
    rw [List.cons_append, cut_cons] at *
    rw [cut_cons]
    split at h
    · rename_i hc; rw [if_pos hc, if_pos hc]
    · rename_i hc
      rw [if_neg hc, if_neg hc, cut_app r h]
theorem cut_add {e : UInt8} (r : List UInt8) : ∀ {l : List UInt8}, (Lib.cut l [e]).2.2 = false → Lib.cut (l ++ e :: r) [e] = (l, r, true)
  | [], _ => by rw [List.nil_append, cut_cons, if_pos rfl]
  | c :: t, h => by
    rw [List.cons_append, cut_cons]
    rw [cut_cons] at h
    split at h
    · cases h
    · rename_i hc
      rw [if_neg hc, cut_add r h]
theorem flags_app (l t : List UInt8) : flagsOf (l ++ 58 :: t) = flagsOf l := by
  unfold flagsOf
  cases h : (Lib.cut l [58]).2.2 with
  | true => rw [cut_app _ h]
  | false => rw [cut_add _ h, cut_none h]
theorem until_app {e : UInt8} (he : e ≠ 92) (r : List UInt8) {l : List UInt8} (h : (untilL e l).2.2 = true) : untilL e (l ++ r) = untilL e l := by
  induction l using untilL.induct e with
  | case1 => simp [untilL] at h
  | case2 =>
    rw [List.singleton_append, until_end (fun x => he x.1) rfl]
    simp [untilL]
  | case3 c hc => simp [untilL, hc] at h
  | case4 c d t hc ih =>
    obtain ⟨rfl, rfl⟩ := hc
    rw [until_two rfl rfl] at h
    rw [List.cons_append, List.cons_append, until_two rfl rfl, until_two rfl rfl, ih h]
  | case5 d t hc =>
    rw [List.cons_append, List.cons_append, until_end (fun x => he x.1) rfl, until_end (fun x => he x.1) rfl]
  | case6 c d t h1 h2 ih =>
    have hA : ¬ (c = 92 ∧ (d :: t).head? = some e) := fun x => h1 ⟨x.1, Option.some.inj x.2⟩
    have hB : ¬ (c = 92 ∧ (d :: (t ++ r)).head? = some e) := fun x => h1 ⟨x.1, Option.some.inj x.2⟩
    rw [until_go hA h2] at h ⊢
    rw [List.cons_append, List.cons_append, until_go hB h2, ← List.cons_append, ih h]
theorem until_add {e : UInt8} (he : e ≠ 92) (r : List UInt8) {l : List UInt8} (h : (untilL e l).2.2 = false) (hl : l.getLast? ≠ some 92) : untilL e (l ++ e :: r) = ((untilL e l).1, l.length, true) ∧ (untilL e l).2.1 = l.length := by
  induction l using untilL.induct e with
  | case1 => exact ⟨by rw [List.nil_append, until_end (fun x => he x.1) rfl]; rfl, rfl⟩
  | case2 => simp [untilL] at h
  | case3 c hc =>
    have h9 : c ≠ 92 := fun e1 => hl (by rw [e1]; rfl)
    refine ⟨?_, by simp [untilL, hc]⟩
    rw [List.singleton_append, until_go (fun x => h9 x.1) hc, until_end (fun x => he x.1) rfl]
    simp [untilL, hc]
  | case4 c d t hc ih =>
    obtain ⟨rfl, rfl⟩ := hc
    rw [until_two rfl rfl] at h ⊢
    have hl2 : t.getLast? ≠ some 92 := by
      cases t with
      | nil => simp
      | cons a b => rw [List.getLast?_cons_cons, List.getLast?_cons_cons] at hl; exact hl
    obtain ⟨h3, h4⟩ := ih h hl2
    rw [List.cons_append, List.cons_append, until_two rfl rfl, h3]
    exact ⟨rfl, by simp [h4]⟩
  | case5 d t hc => rw [until_end (fun x => he x.1) rfl] at h; cases h
  | case6 c d t h1 h2 ih =>
    have hA : ¬ (c = 92 ∧ (d :: t).head? = some e) := fun x => h1 ⟨x.1, Option.some.inj x.2⟩
    have hB : ¬ (c = 92 ∧ (d :: (t ++ e :: r)).head? = some e) := fun x => h1 ⟨x.1, Option.some.inj x.2⟩
    rw [until_go hA h2] at h ⊢
    rw [List.getLast?_cons_cons] at hl
    obtain ⟨h3, h4⟩ := ih h hl
    rw [List.cons_append, List.cons_append, until_go hB h2, ← List.cons_append, h3]
    exact ⟨rfl, by simp [h4]⟩
theorem until_both (t : List UInt8) {l : List UInt8} (hl : l.getLast? ≠ some 92) : (untilL 58 (l ++ 58 :: t)).1 = (untilL 58 l).1 ∧ (untilL 58 (l ++ 58 :: t)).2.1 = (untilL 58 l).2.1 := by
  cases h : (untilL 58 l).2.2 with
  | true => rw [until_app (by decide) _ h]; exact ⟨rfl, rfl⟩
  | false =>
    obtain ⟨h1, h2⟩ := until_add (e := 58) (by decide) t h hl
    rw [h1]; exact ⟨rfl, h2.symm⟩
theorem parts_not {d : UInt8} (h : partsB d = true) : d ≠ 92 := fun e => by rw [e] at h; revert h; decide
theorem plain_app (t : List UInt8) {s : List UInt8} (hl : s.getLast? ≠ some 92) : plainU (s ++ 58 :: t) = plainU s := by
  obtain ⟨h1, h2⟩ := until_both t hl
  unfold plainU; rw [h1, h2]
theorem drop_app {s r : List UInt8} {k : Nat} (h : k ≤ s.length) : (s ++ r).drop k = s.drop k ++ r := List.drop_append_of_le_length h
theorem changeS_app (t : List UInt8) {d : UInt8} {s : List UInt8} (hd : d ≠ 92) {m : Md} {n : Nat} (h : changeS d s = .ok m n) (h2 : 2 ≤ s.length) : changeS d (s ++ 58 :: t) = .ok m n ∧ n ≤ s.length := by
  unfold changeS at h ⊢
  split at h
  · cases h
  rename_i f1
  split at h
  · cases h
  rename_i f2
  split at h
  · cases h
  rename_i f3
  have g1 : (untilL d (s.drop 2)).2.2 = true := by simpa using f1
  have l1 := until_lt g1
  rw [List.length_drop] at l1
  have g2 : (untilL d (s.drop ((untilL d (s.drop 2)).2.1 + 3))).2.2 = true := by simpa using f2
  have l2 := until_lt g2
  rw [List.length_drop] at l2
  have e1 : untilL d ((s ++ 58 :: t).drop 2) = untilL d (s.drop 2) := by rw [drop_app h2, until_app hd _ g1]
  have e2 : untilL d ((s ++ 58 :: t).drop ((untilL d (s.drop 2)).2.1 + 3)) = untilL d (s.drop ((untilL d (s.drop 2)).2.1 + 3)) := by rw [drop_app (by omega), until_app hd _ g2]
  have e3 : flagsOf ((s ++ 58 :: t).drop ((untilL d (s.drop 2)).2.1 + (untilL d (s.drop ((untilL d (s.drop 2)).2.1 + 3))).2.1 + 4)) = flagsOf (s.drop ((untilL d (s.drop 2)).2.1 + (untilL d (s.drop ((untilL d (s.drop 2)).2.1 + 3))).2.1 + 4)) := by rw [drop_app (by omega), flags_app]
  rw [e1, e2, e3, if_neg f1, if_neg f2, if_neg f3]
  refine ⟨h, ?_⟩
  cases h
  have := (cut_lens (s.drop ((untilL d (s.drop 2)).2.1 + (untilL d (s.drop ((untilL d (s.drop 2)).2.1 + 3))).2.1 + 4)) [58]).1
  rw [List.length_drop] at this
  unfold flagsOf; omega
theorem changeC_app (t : List UInt8) {d : UInt8} {s : List UInt8} (hd : d ≠ 92) {u : Um} {n : Nat} (h : changeC d s = .ok u n) (h2 : 2 ≤ s.length) : changeC d (s ++ 58 :: t) = .ok u n ∧ n ≤ s.length := by
  unfold changeC at h ⊢
  split at h
  · cases h
  rename_i f1
  split at h
  · cases h
  rename_i k hk
  split at h
  · cases h
  rename_i f2
  split at h
  · cases h
  rename_i f3
  have g1 : (untilL d (s.drop 2)).2.2 = true := by simpa using f1
  have l1 := until_lt g1
  rw [List.length_drop] at l1
  have g2 : (untilL d (s.drop ((untilL d (s.drop 2)).2.1 + 3))).2.2 = true := by simpa using f2
  have l2 := until_lt g2
  rw [List.length_drop] at l2
  have e1 : untilL d ((s ++ 58 :: t).drop 2) = untilL d (s.drop 2) := by rw [drop_app h2, until_app hd _ g1]
  have e2 : untilL d ((s ++ 58 :: t).drop ((untilL d (s.drop 2)).2.1 + 3)) = untilL d (s.drop ((untilL d (s.drop 2)).2.1 + 3)) := by rw [drop_app (by omega), until_app hd _ g2]
  have e3 : flagsOf ((s ++ 58 :: t).drop ((untilL d (s.drop 2)).2.1 + (untilL d (s.drop ((untilL d (s.drop 2)).2.1 + 3))).2.1 + 4)) = flagsOf (s.drop ((untilL d (s.drop 2)).2.1 + (untilL d (s.drop ((untilL d (s.drop 2)).2.1 + 3))).2.1 + 4)) := by rw [drop_app (by omega), flags_app]
  rw [e1, e2, e3, if_neg f1, hk]
  dsimp only
  rw [if_neg f2, if_neg f3]
  refine ⟨h, ?_⟩
  cases h
  have := (cut_lens (s.drop ((untilL d (s.drop 2)).2.1 + (untilL d (s.drop ((untilL d (s.drop 2)).2.1 + 3))).2.1 + 4)) [58]).1
  rw [List.length_drop] at this
  unfold flagsOf; omega
theorem choR_app (t : List UInt8) {s : List UInt8} {m : Md} {n : Nat} (h : choR s = .ok m n) (h1 : 1 ≤ s.length) : choR (s ++ 58 :: t) = .ok m n ∧ n ≤ s.length := by
  unfold choR at h ⊢
  rw [drop_app h1]
  split at h
  · cases h
  rename_i f1
  have g1 : (Lib.cut (s.drop 1) [93]).2.2 = true := by simpa using f1
  have l1 := cut_lt g1
  rw [List.length_drop] at l1
  rw [cut_app _ g1, if_neg (by simp)]
  dsimp only
  cases hc : choO (Lib.cut (s.drop 1) [93]).1 with
  | none => rw [hc] at h; cases h
  | some k =>
    rw [hc] at h
    dsimp only at h ⊢
    split at h
    · rename_i hend
      rw [if_pos]
      · exact ⟨h, by cases h; omega⟩
      · rcases hend with h4 | h4
        · rw [h4]; exact .inr rfl
        · refine .inr ?_
          cases hb : (Lib.cut (s.drop 1) [93]).2.1 with
          | nil => rfl
          | cons a b => rw [hb] at h4; exact h4
    · cases h
theorem readU_nil : readU [] = .bad 12 := by
  have hn : ba [] ∉ wordsL := by
    unfold wordsL
    simp only [List.mem_cons, List.not_mem_nil, or_false, not_or]
    refine ⟨?_, ?_, ?_, ?_, ?_, ?_, ?_, ?_, ?_, ?_, ?_⟩ <;> (intro h; have := congrArg ByteArray.size h; revert this; decide)
  unfold readU
  rw [if_neg (by simp), if_neg (by simp), if_neg (by simp)]
  unfold plainU
  rw [show untilL 58 [] = ([], 0, false) from rfl, if_neg hn, cut_nil, if_neg (by simp)]
theorem head_app {s : List UInt8} (r : List UInt8) (h : s ≠ []) : (s ++ r).head? = s.head? := by
  cases s with
  | nil => exact absurd rfl h
  | cons => rfl
theorem last_tail {c : UInt8} {t : List UInt8} (h : (c :: t).getLast? ≠ some 92) : t.getLast? ≠ some 92 := by
  cases t with
  | nil => simp
  | cons a b => rw [List.getLast?_cons_cons] at h; exact h
theorem ru_of_ok {r : Rd} {u : Um} {n : Nat} (h : Ru.of r = .ok u n) : ∃ m, r = .ok m n ∧ u = { md := m } := by
  cases r with
  | bad why => cases h
  | ok m k => cases h; exact ⟨m, rfl, rfl⟩
theorem plain_len {s : List UInt8} {u : Um} {n : Nat} (h : plainU s = .ok u n) : n ≤ s.length := by
  have hl := (until_len 58 s).2
  unfold plainU at h
  split at h
  · cases h; exact hl
  · split at h
    · cases h; exact hl
    · cases h
theorem readU_app (t : List UInt8) {s : List UInt8} {u : Um} {n : Nat} (h : readU s = .ok u n) (hl : s.getLast? ≠ some 92) : readU (s ++ 58 :: t) = .ok u n ∧ n ≤ s.length := by
  have hs : s ≠ [] := fun e => by rw [e, readU_nil] at h; cases h
  obtain ⟨c, r, rfl⟩ : ∃ c r, s = c :: r := by cases s with | nil => exact absurd rfl hs | cons c r => exact ⟨c, r, rfl⟩
  have hh := head_app (58 :: t) hs
  unfold readU at h ⊢
  rw [hh]
  by_cases h1 : (c :: r).head? = some 77 ∨ (c :: r).head? = some 78
  · rw [if_pos h1] at h ⊢
    obtain ⟨g1, g2⟩ := until_both t (last_tail hl)
    have e1 : (c :: r ++ 58 :: t).drop 1 = r ++ 58 :: t := rfl
    have e2 : (c :: r).drop 1 = r := rfl
    have e3 : (c :: r ++ 58 :: t).take 1 = (c :: r).take 1 := rfl
    rw [e1, e3, g1, g2]
    rw [e2] at h
    refine ⟨h, ?_⟩
    cases h
    have := (until_len 58 r).2
    simp; exact this
  · rw [if_neg h1] at h ⊢
    by_cases h2 : ((c :: r).head? = some 83 ∨ (c :: r).head? = some 67) ∧ (∃ d, (c :: r)[1]? = some d ∧ partsB d = true)
    · rw [if_pos h2] at h
      obtain ⟨h3, d, hd, hp⟩ := h2
      obtain ⟨r', rfl⟩ : ∃ r', r = d :: r' := by
        cases r with
        | nil => simp at hd
        | cons a b => simp at hd; exact ⟨b, by rw [hd]⟩
      rw [if_pos ⟨h3, d, rfl, hp⟩]
      have g1 : (c :: d :: r').getD 1 0 = d := rfl
      have g2 : (c :: d :: r' ++ 58 :: t).getD 1 0 = d := rfl
      rw [g1] at h
      rw [g2]
      by_cases h83 : (c :: d :: r').head? = some 83
      · rw [if_pos h83] at h ⊢
        obtain ⟨m, e1, rfl⟩ := ru_of_ok h
        obtain ⟨e2, e3⟩ := changeS_app t (parts_not hp) e1 (by simp)
        rw [e2]; exact ⟨rfl, e3⟩
      · rw [if_neg h83] at h ⊢
        exact changeC_app t (parts_not hp) h (by simp)
    · rw [if_neg h2] at h
      have h2' : ∀ (_ : plainU (c :: r) = .ok u n), ¬ (((c :: r).head? = some 83 ∨ (c :: r).head? = some 67) ∧ (∃ d, (c :: r ++ 58 :: t)[1]? = some d ∧ partsB d = true)) := fun hpl hx => by
        cases r with
        | cons a b => exact h2 hx
        | nil =>
          have hcc : c = 83 ∨ c = 67 := hx.1.imp Option.some.inj Option.some.inj
          have hu : untilL 58 [c] = ([c], 1, false) := by
            rcases hcc with rfl | rfl <;> rfl
          unfold plainU at hpl
          rw [hu, if_neg (words_not (l := [c]) rfl hcc)] at hpl
          have hcut : (Lib.cut [c] [61]).2.2 = false := by
            rw [cut_cons, if_neg (by rcases hcc with rfl | rfl <;> decide), cut_nil]
          rw [if_neg (by rw [hcut]; decide)] at hpl
          cases hpl
      by_cases h3 : (c :: r).head? = some 91
      · rw [if_pos h3] at h
        have h2n : ¬ (((c :: r).head? = some 83 ∨ (c :: r).head? = some 67) ∧ (∃ d, (c :: r ++ 58 :: t)[1]? = some d ∧ partsB d = true)) := fun hx => by
          rw [h3] at hx
          rcases hx.1 with h5 | h5 <;> (revert h5; decide)
        rw [if_neg h2n, if_pos h3]
        obtain ⟨m, e1, rfl⟩ := ru_of_ok h
        obtain ⟨e2, e3⟩ := choR_app t e1 (by simp)
        rw [e2]; exact ⟨rfl, e3⟩
      · rw [if_neg h3] at h
        rw [if_neg (h2' h), if_neg h3, plain_app t hl]
        exact ⟨h, plain_len h⟩
end Go.Proofs.YtedepknbaakkhabGreatDoor
namespace Go.Proofs.YtedepknbaakkhabGreatDoor
open Go.RowKit Go.Shelf
inductive GoodU (N : Nat) : Um → Prop
  | m (p : ByteArray) (h : p.size ≤ N) : GoodU N { md := { kind := ⟨#[77]⟩, a := p } }
  | n (p : ByteArray) (h : p.size ≤ N) : GoodU N { md := { kind := ⟨#[78]⟩, a := p } }
  | s (a b : ByteArray) (bg en al on : Bool) (mks ots : Nat) (ha : a.size ≤ N) (hb : b.size ≤ N) (h1 : mks ≤ N) (h2 : ots ≤ N) : GoodU N { md := { kind := ⟨#[83]⟩, a := a, b := b, bg := bg, en := en, al := al, on := on, mks := mks, ots := ots } }
  | c (t : ByteArray) (k : List RxSem.Nd) (b : ByteArray) (al on : Bool) (mks ots : Nat) (hb : b.size ≤ N) (h1 : mks ≤ N) (h2 : ots ≤ N) : GoodU N { md := { kind := ⟨#[67]⟩, b := b, al := al, on := on, mks := mks, ots := ots }, rx := some (t, k) }
  | word (t : ByteArray) (h : t ∈ wordsL) : GoodU N { md := { kind := t } }
  | eq (a b : ByteArray) (ha : a.size ≤ N) (hb : b.size ≤ N) : GoodU N { md := { kind := ⟨#[61]⟩, a := a, b := b } }
  | count : GoodU N { md := { kind := ⟨#[35]⟩ } }
  | join : GoodU N { md := { kind := ⟨#[42]⟩ } }
  | pick (f t : Int) (h1 : -1000000000000000000 < f) (h2 : f < 1000000000000000000) (h3 : -1000000000000000000 < t) (h4 : t < 1000000000000000000) : GoodU N { md := { kind := ⟨#[91]⟩, frm := f, upto := t } }
theorem GoodU.ex {N : Nat} {u : Um} (h : GoodU N u) : u.md.ex = none := by cases h <;> rfl
theorem numO_bound {l : List UInt8} {k : Int} (h : numO l = some k) : -1000000000000000000 < k ∧ k < 1000000000000000000 := by
  unfold numO at h
  split at h
  · cases h
  · rename_i hc
    have h1 := trimPrefix_len l
    exact Lib.atoi_bound h (by have : ¬ 6 < (Lib.trimPrefix l [45]).length := fun e => hc (.inl e); omega)
theorem choO_good {l : List UInt8} {m : Md} {N : Nat} (h : choO l = some m) : GoodU N { md := m } := by
  unfold choO at h
  split at h
  · rename_i hl
    cases h
    rcases hl with rfl | rfl
    · exact .count
    · exact .join
  · cases h1 : numO (Lib.cut l [46, 46]).1 with
    | none => rw [h1] at h; cases h
    | some a =>
      cases h2 : numO (if (Lib.cut l [46, 46]).2.2 = true then (Lib.cut l [46, 46]).2.1 else (Lib.cut l [46, 46]).1) with
      | none => rw [h1, h2] at h; cases h
      | some b =>
        rw [h1, h2] at h
        cases h
        exact .pick a b (numO_bound h1).1 (numO_bound h1).2 (numO_bound h2).1 (numO_bound h2).2
theorem cutFsz (x : ByteArray) : (cutF x).size ≤ x.size := by
  show (Lib.trimPrefix (bl x) [94]).toArray.size ≤ _
  unfold Lib.trimPrefix
  rw [← bl_length]
  split <;> simp
theorem cutLsz (x : ByteArray) : (cutL x).size ≤ x.size := by
  show (Lib.trimSuffix (bl x) [36]).toArray.size ≤ _
  unfold Lib.trimSuffix
  rw [← bl_length]
  split <;> simp
theorem changeS_good {d : UInt8} {s : List UInt8} {m : Md} {n N : Nat} (h : changeS d s = .ok m n) (hN : s.length ≤ N) : GoodU N { md := m } := by
  unfold changeS at h
  split at h
  · cases h
  split at h
  · cases h
  split at h
  · cases h
  cases h
  unfold changeMd
  have l1 := until_len d (s.drop 2)
  have l2 := until_len d (s.drop ((untilL d (s.drop 2)).2.1 + 3))
  rw [List.length_drop] at l1 l2
  have l3 := ands_le (untilL d (s.drop ((untilL d (s.drop 2)).2.1 + 3))).1
  refine .s _ _ _ _ _ _ _ _ ?_ ?_ ?_ ?_
  · refine Nat.le_trans (cutLsz _) (Nat.le_trans (cutFsz _) ?_)
    rw [ba_size]; omega
  · rw [ba_size]; omega
  · omega
  · omega
theorem changeC_good {d : UInt8} {s : List UInt8} {u : Um} {n N : Nat} (h : changeC d s = .ok u n) (hN : s.length ≤ N) : GoodU N u := by
  unfold changeC at h
  split at h
  · cases h
  split at h
  · cases h
  split at h
  · cases h
  split at h
  · cases h
  cases h
  unfold changeMdC
  have l2 := until_len d (s.drop ((untilL d (s.drop 2)).2.1 + 3))
  rw [List.length_drop] at l2
  have l3 := cntC_le (untilL d (s.drop ((untilL d (s.drop 2)).2.1 + 3))).1
  refine .c _ _ _ _ _ _ _ ?_ ?_ ?_
  · rw [ba_size]; omega
  · omega
  · omega
theorem plain_good {s : List UInt8} {u : Um} {n N : Nat} (h : plainU s = .ok u n) (hN : s.length ≤ N) : GoodU N u := by
  have l1 := until_len 58 s
  have l2 := cut_lens (untilL 58 s).1 [61]
  unfold plainU at h
  split at h
  · cases h; exact .word _ (by assumption)
  · split at h
    · cases h
      exact .eq _ _ (by rw [ba_size]; omega) (by rw [ba_size]; omega)
    · cases h
theorem readU_good {s : List UInt8} {u : Um} {n N : Nat} (h : readU s = .ok u n) (hN : s.length ≤ N) : GoodU N u := by
  unfold readU at h
  split at h
  · rename_i hk
    cases h
    have l1 := until_len 58 (s.drop 1)
    rw [List.length_drop] at l1
    cases s with
    | nil => simp at hk
    | cons c r =>
      rcases hk with hk | hk
      · obtain rfl : c = 77 := Option.some.inj hk
        exact .m _ (by rw [ba_size]; omega)
      · obtain rfl : c = 78 := Option.some.inj hk
        exact .n _ (by rw [ba_size]; omega)
  · split at h
    · split at h
      · obtain ⟨m, e1, rfl⟩ := ru_of_ok h
        exact changeS_good e1 hN
      · exact changeC_good h hN
    · split at h
      · obtain ⟨m, e1, rfl⟩ := ru_of_ok h
        unfold choR at e1
        split at e1
        · cases e1
        · cases hc : choO (Lib.cut (s.drop 1) [93]).1 with
          | none => rw [hc] at e1; cases e1
          | some k =>
            rw [hc] at e1
            dsimp only at e1
            split at e1
            · cases e1; exact choO_good hc
            · cases e1
      · exact plain_good h hN
theorem readU_bad {s : List UInt8} {why : Nat} (h : readU s = .bad why) : why = 4 ∨ why = 12 := by
  have hof : ∀ {r : Rd}, Ru.of r = .bad why → r = .bad why := fun {r} e => by cases r with | bad w => cases e; rfl | ok m n => cases e
  unfold readU at h
  split at h
  · cases h
  · split at h
    · split at h
      · have e1 := hof h
        unfold changeS at e1
        split at e1
        · cases e1; exact .inl rfl
        split at e1
        · cases e1; exact .inl rfl
        split at e1
        · cases e1; exact .inr rfl
        cases e1
      · unfold changeC at h
        split at h
        · cases h; exact .inl rfl
        split at h
        · cases h; exact .inr rfl
        split at h
        · cases h; exact .inl rfl
        split at h
        · cases h; exact .inr rfl
        cases h
    · split at h
      · have e1 := hof h
        unfold choR at e1
        split at e1
        · cases e1; exact .inl rfl
        · cases hc : choO (Lib.cut (s.drop 1) [93]).1 with
          | none => rw [hc] at e1; cases e1; exact .inr rfl
          | some k =>
            rw [hc] at e1
            dsimp only at e1
            split at e1
            · cases e1
            · cases e1; exact .inr rfl
      · unfold plainU at h
        split at h
        · cases h
        split at h
        · cases h
        cases h; exact .inr rfl
theorem readU_len {s : List UInt8} {u : Um} {n : Nat} (h : readU s = .ok u n) : n ≤ s.length := by
  unfold readU at h
  split at h
  · rename_i hk
    cases h
    have l1 := until_len 58 (s.drop 1)
    rw [List.length_drop] at l1
    cases s with
    | nil => simp at hk
    | cons c r => simp only [List.length_cons] at l1 ⊢; omega
  · split at h
    · rename_i h2
      obtain ⟨_, d, hd, hp⟩ := h2
      have hz := (List.getElem?_eq_some_iff.1 hd).1
      have hgd : s.getD 1 0 = d := by rw [List.getD_eq_getElem?_getD, hd]; rfl
      rw [hgd] at h
      split at h
      · obtain ⟨m, e1, rfl⟩ := ru_of_ok h
        exact (changeS_app [] (parts_not hp) e1 (by omega)).2
      · exact (changeC_app [] (parts_not hp) h (by omega)).2
    · split at h
      · rename_i h3
        obtain ⟨m, e1, rfl⟩ := ru_of_ok h
        exact (choR_app [] e1 (by cases s with | nil => simp at h3 | cons => simp)).2
      · exact plain_len h
noncomputable def parseU (s : List UInt8) (k c : Nat) : List Um ⊕ (Nat × Nat) :=
  if s.length < k then .inl [] else
  match readU (s.drop k) with
  | .bad why => .inr (why, k)
  | .ok u n => if c = 32 then .inr (5, k) else match parseU s (k + n + 1) (c + 1) with
    | .inl us => .inl (u :: us)
    | .inr f => .inr f
termination_by s.length + 1 - k
theorem parse_end {s : List UInt8} {k c : Nat} (h : s.length < k) : parseU s k c = .inl [] := by rw [parseU, if_pos h]
theorem parse_bad {s : List UInt8} {k c why : Nat} (h : k ≤ s.length) (hr : readU (s.drop k) = .bad why) : parseU s k c = .inr (why, k) := by
  rw [parseU, if_neg (by omega), hr]
theorem parse_many {s : List UInt8} {k n : Nat} {u : Um} (h : k ≤ s.length) (hr : readU (s.drop k) = .ok u n) : parseU s k 32 = .inr (5, k) := by
  rw [parseU, if_neg (by omega), hr]; rfl
theorem parse_next {s : List UInt8} {k c n : Nat} {u : Um} (h : k ≤ s.length) (hr : readU (s.drop k) = .ok u n) (hc : c ≠ 32) : parseU s k c = match parseU s (k + n + 1) (c + 1) with
    | .inl us => .inl (u :: us)
    | .inr f => .inr f := by
  rw [parseU, if_neg (by omega), hr]
  dsimp only
  rw [if_neg hc]
noncomputable def allU (s : List UInt8) : List Um ⊕ (Nat × Nat) := if s = [] then .inl [] else parseU s 0 0
theorem parse_good (s : List UInt8) (N : Nat) (hN : s.length ≤ N) : ∀ (j k c : Nat) (us : List Um), s.length + 1 - k ≤ j → parseU s k c = .inl us → (∀ u ∈ us, GoodU N u) ∧ (c ≤ 32 → c + us.length ≤ 32)
  | 0, k, c, us, hj, h => by
    rw [parse_end (by omega)] at h
    cases h
    exact ⟨fun u hu => by simp at hu, fun h => by simpa using h⟩
  | j + 1, k, c, us, hj, h => by
    by_cases hk : s.length < k
    · rw [parse_end hk] at h
      cases h
      exact ⟨fun u hu => by simp at hu, fun h => by simpa using h⟩
    · cases hr : readU (s.drop k) with
      | bad why => rw [parse_bad (by omega) hr] at h; cases h
      | ok u n =>
        by_cases hc : c = 32
        · rw [hc, parse_many (by omega) hr] at h; cases h
        · rw [parse_next (by omega) hr hc] at h
          cases hp : parseU s (k + n + 1) (c + 1) with
          | inr f => rw [hp] at h; cases h
          | inl us' =>
            rw [hp] at h
            cases h
            obtain ⟨i1, i2⟩ := parse_good s N hN j (k + n + 1) (c + 1) us' (by omega) hp
            refine ⟨fun x hx => ?_, fun h32 => ?_⟩
            · rcases List.mem_cons.1 hx with rfl | hx
              · exact readU_good hr (by rw [List.length_drop]; omega)
              · exact i1 x hx
            · have := i2 (by omega)
              simp only [List.length_cons]; omega
theorem parse_shift (p t : List UInt8) : ∀ (i j c : Nat), t.length + 1 - j ≤ i → parseU (p ++ t) (p.length + j) c = match parseU t j c with
    | .inl us => .inl us
    | .inr f => .inr (f.1, p.length + f.2)
  | 0, j, c, hi => by rw [parse_end (s := p ++ t) (by rw [List.length_append]; omega), parse_end (s := t) (by omega)]
  | i + 1, j, c, hi => by
    by_cases hj : t.length < j
    · rw [parse_end (s := p ++ t) (by rw [List.length_append]; omega), parse_end (s := t) hj]
    · have hd : (p ++ t).drop (p.length + j) = t.drop j := by rw [List.drop_append, List.drop_of_length_le (by omega), List.nil_append]; congr 1; omega
      have hle : p.length + j ≤ (p ++ t).length := by rw [List.length_append]; omega
      cases hr : readU (t.drop j) with
      | bad why => rw [parse_bad (s := t) (by omega) hr, parse_bad (s := p ++ t) hle (by rw [hd]; exact hr)]
      | ok u n =>
        by_cases hc : c = 32
        · subst hc
          rw [parse_many (s := t) (by omega) hr, parse_many (s := p ++ t) hle (by rw [hd]; exact hr)]
        · rw [parse_next (s := t) (by omega) hr hc, parse_next (s := p ++ t) hle (by rw [hd]; exact hr) hc]
          have := parse_shift p t i (j + n + 1) (c + 1) (by omega)
          rw [show p.length + j + n + 1 = p.length + (j + n + 1) by omega, this]
          cases parseU t (j + n + 1) (c + 1) <;> rfl
theorem parse_count (t : List UInt8) : ∀ (i j c c' : Nat) (us : List Um), t.length + 1 - j ≤ i → parseU t j c = .inl us → c ≤ 32 → c' ≤ 32 → (c' + us.length ≤ 32 ∧ parseU t j c' = .inl us) ∨ (32 < c' + us.length ∧ ∃ a, parseU t j c' = .inr (5, a))
  | 0, j, c, c', us, hi, h, hc, hc' => by
    rw [parse_end (by omega)] at h ⊢
    cases h
    exact .inl ⟨by simpa using hc', rfl⟩
  | i + 1, j, c, c', us, hi, h, hc, hc' => by
    by_cases hj : t.length < j
    · rw [parse_end hj] at h ⊢
      cases h
      exact .inl ⟨by simpa using hc', rfl⟩
    · cases hr : readU (t.drop j) with
      | bad why => rw [parse_bad (by omega) hr] at h; cases h
      | ok u n =>
        have hne : c ≠ 32 := fun e => by rw [e, parse_many (by omega) hr] at h; cases h
        rw [parse_next (by omega) hr hne] at h
        cases hp : parseU t (j + n + 1) (c + 1) with
        | inr f => rw [hp] at h; cases h
        | inl us' =>
          rw [hp] at h
          cases h
          by_cases hc2 : c' = 32
          · subst hc2
            exact .inr ⟨by simp, j, parse_many (by omega) hr⟩
          · rw [parse_next (by omega) hr hc2]
            rcases parse_count t i (j + n + 1) (c + 1) (c' + 1) us' (by omega) hp (by omega) (by omega) with ⟨h1, h2⟩ | ⟨h1, a, h2⟩
            · rw [h2]; exact .inl ⟨by simp; omega, rfl⟩
            · rw [h2]; exact .inr ⟨by simp; omega, a, rfl⟩
theorem parse_both (s t : List UInt8) (hl : s.getLast? ≠ some 92) : ∀ (i k c : Nat) (us : List Um), s.length + 1 - k ≤ i → k ≤ s.length → c ≤ 32 → parseU s k c = .inl us →
    parseU (s ++ 58 :: t) k c = match parseU t 0 (c + us.length) with
      | .inl vs => .inl (us ++ vs)
      | .inr f => .inr (f.1, s.length + 1 + f.2)
  | 0, k, c, us, hi, hk, hc, h => by omega
  | i + 1, k, c, us, hi, hk, hc, h => by
    cases hr : readU (s.drop k) with
    | bad why => rw [parse_bad hk hr] at h; cases h
    | ok u n =>
      have hne : c ≠ 32 := fun e => by rw [e, parse_many hk hr] at h; cases h
      rw [parse_next hk hr hne] at h
      have hd0 : s.drop k ≠ [] := fun e => by rw [e, readU_nil] at hr; cases hr
      have hlast : (s.drop k).getLast? ≠ some 92 := by
        rw [List.getLast?_drop]
        split
        · simp
        · exact hl
      obtain ⟨g1, g2⟩ := readU_app t hr hlast
      rw [← drop_app hk] at g1
      rw [List.length_drop] at g2
      cases hp : parseU s (k + n + 1) (c + 1) with
      | inr f => rw [hp] at h; cases h
      | inl us' =>
        rw [hp] at h
        cases h
        rw [parse_next (by rw [List.length_append]; omega) g1 hne]
        by_cases hend : k + n + 1 ≤ s.length
        · rw [parse_both s t hl i (k + n + 1) (c + 1) us' (by omega) hend (by omega) hp]
          rw [show c + 1 + us'.length = c + (u :: us').length by simp; omega]
          cases parseU t 0 (c + (u :: us').length) <;> rfl
        · have he : k + n + 1 = (s ++ [58]).length + 0 := by simp; omega
          rw [parse_end (by omega)] at hp
          cases hp
          have hsh := parse_shift (s ++ [58]) t (t.length + 1) 0 (c + 1) (by omega)
          rw [List.append_assoc, List.singleton_append, ← he] at hsh
          rw [hsh]
          rw [show c + [u].length = c + 1 by simp]
          cases parseU t 0 (c + 1) with
          | inl vs => rfl
          | inr f => simp
theorem all_both {s t : List UInt8} {us vs : List Um} (hs : s ≠ []) (ht : t ≠ []) (hl : s.getLast? ≠ some 92) (h1 : allU s = .inl us) (h2 : allU t = .inl vs) : allU (s ++ 58 :: t) = .inl (us ++ vs) ∨ ∃ a, allU (s ++ 58 :: t) = .inr (5, a) := by
  unfold allU at h1 h2 ⊢
  rw [if_neg hs] at h1
  rw [if_neg ht] at h2
  rw [if_neg (by simp)]
  have h3 := parse_both s t hl (s.length + 1) 0 0 us (by omega) (by omega) (by omega) h1
  rw [h3]
  have h32 := (parse_good s s.length (Nat.le_refl _) (s.length + 1) 0 0 us (by omega) h1).2 (by omega)
  rcases parse_count t (t.length + 1) 0 0 (0 + us.length) vs (by omega) h2 (by omega) (by omega) with ⟨h4, h5⟩ | ⟨h4, a, h5⟩
  · rw [h5]; exact .inl rfl
  · rw [h5]; exact .inr ⟨_, rfl⟩
end Go.Proofs.YtedepknbaakkhabGreatDoor
