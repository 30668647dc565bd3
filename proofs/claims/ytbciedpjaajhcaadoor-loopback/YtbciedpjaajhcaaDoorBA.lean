import Derived.Test.YtbciedpjaajhcaaDoorY6
import Derived.Test.YtbciedpjaajhcaaDoorBD
import Derived.Test.YtbciedpjaajhcaaDoorBF2
import Derived.Lib.IndexLaws
import Derived.Test.YtbciedpjaajhcaaDoorBY
/-
  A quoted value; the uses of a name; a text with a value in place of a name.
-/
namespace Go.Proofs.YtbciedpjaajhcaaDoor
open Go.RowKit Go.Shelf
open Ex (useN)

def escD (c : UInt8) : List UInt8 := if c = 36 then [36, 36] else [c]
def quoteD (l : List UInt8) : List UInt8 := l.flatMap escD
theorem index_cons (c : UInt8) (t : List UInt8) : Lib.index (c :: t) [36] = if c = 36 then 0 else if Lib.index t [36] = -1 then -1 else Lib.index t [36] + 1 := by
  conv => lhs; unfold Lib.index
  by_cases h : c = 36
  · subst h; simp
  · have : (36 == c) = false := by simpa using fun e => h e.symm
    simp [List.isPrefixOf, this, h]
theorem repl_all (s : List UInt8) : Lib.replaceK [36] [36, 36] (Lib.count s [36]) s = s.flatMap escD := by
  induction s with
  | nil => rfl
  | cons c t ih =>
    have hi := index_cons c t
    by_cases hc : c = 36
    · rw [if_pos hc] at hi
      rw [Lib.count_hit (i := 0) (by simp) hi, Nat.add_comm, Lib.replaceK_hit _ _ _ _ 0 hi]
      simp only [List.length_singleton, Nat.zero_add, List.drop_succ_cons, List.drop_zero, List.take_zero, List.nil_append]
      rw [ih, List.flatMap_cons, hc]; rfl
    · rw [if_neg hc] at hi
      have he : escD c = [c] := by unfold escD; rw [if_neg hc]
      rw [List.flatMap_cons, he]
      rcases Lib.index_spec t [36] with ⟨h1, _⟩ | ⟨i, h1, _⟩
      · rw [h1, if_pos rfl] at hi
        rw [Lib.count_miss hi]
        rw [Lib.count_miss h1] at ih
        rw [← ih]; rfl
      · have hi' : Lib.index (c :: t) [36] = ((i + 1 : Nat) : Int) := by rw [hi, if_neg (by omega), h1]; rfl
        have e1 := Lib.count_hit (s := c :: t) (by simp) hi'
        have e2 := Lib.count_hit (s := t) (by simp) h1
        have e3 : (c :: t).drop (i + 1 + ([36] : List UInt8).length) = t.drop (i + ([36] : List UInt8).length) := by simp [List.drop_succ_cons]
        rw [e3] at e1
        rw [e1, Nat.add_comm, Lib.replaceK_hit _ _ _ _ _ hi', e3]
        rw [e2, Nat.add_comm, Lib.replaceK_hit _ _ _ _ _ h1] at ih
        rw [← ih]; simp

theorem quoteD_cons (c : UInt8) (r : List UInt8) : quoteD (c :: r) = if c = 36 then 36 :: 36 :: quoteD r else c :: quoteD r := by
  unfold quoteD; rw [List.flatMap_cons]; unfold escD; split <;> rfl
theorem quoteD_len (l : List UInt8) : (quoteD l).length ≤ 2 * l.length := by
  induction l with
  | nil => simp [quoteD]
  | cons c r ih => rw [quoteD_cons]; split <;> simp <;> omega
set_option maxRecDepth 20000 in
set_option maxHeartbeats 400000 in
theorem quote_any (s : ByteArray) (w : World) (hmx : Mx w) (hs : s.size ≤ 1000000) : Calls Tryd.prog 37 #[.string s] w fun e w' => e = .returned (.string (ba (quoteD (bl s)))) ∧ Below w.heap.size w w' := by
  obtain ⟨m, hm⟩ := hmx
  have HR : Hid (Calls Tryd.prog 55 #[.string s, .string ⟨#[36]⟩, .string ⟨#[36, 36]⟩] w fun e w' => e = .returned (.string (ba (quoteD (bl s)))) ∧ Below w.heap.size w w') := by
    have hcb := Lib.countB_le ⟨#[36]⟩ (by decide) s.size s (Nat.le_refl _)
    refine (Tryd.strings_ReplaceAll s ⟨#[36]⟩ ⟨#[36, 36]⟩ m w (by omega) hm (by decide) (by show s.size + Lib.countB s ⟨#[36]⟩ * 2 ≤ _; omega)).mono ?_
    rintro e w' ⟨he, hb⟩
    have e1 : Lib.replaceAll s.data.toList (⟨#[36]⟩ : ByteArray).data.toList (⟨#[36, 36]⟩ : ByteArray).data.toList = quoteD (bl s) := repl_all (bl s)
    rw [e1] at he
    exact ⟨he, hb⟩
  clear hm
  go_enter Tryd.func37, Tryd.ntmps37
  go_wp2_with fail
  refine HR.out.mono ?_
  rintro e w' ⟨rfl, hb⟩
  go_wp2
  go_ret
  exact ⟨rfl, hb⟩

theorem quoteD_plain {l : List UInt8} (h : ∀ c ∈ l, c ≠ 36) : quoteD l = l := by
  induction l with
  | nil => rfl
  | cons c r ih => rw [quoteD_cons, if_neg (h c (by simp)), ih (fun x hx => h x (by simp [hx]))]
/-- A use, if the text is one as a whole. -/
def takeU (c : ByteArray) (U : List ByteArray) : List ByteArray := if useN (bl c) = c.size then U ++ [c] else U
def useA (name : ByteArray) : ByteArray := ⟨#[36, 123]⟩ ++ name ++ ⟨#[125]⟩
def useB (name : ByteArray) : ByteArray := ⟨#[36, 40]⟩ ++ name ++ ⟨#[41]⟩
def useC (name : ByteArray) : ByteArray := ⟨#[36]⟩ ++ name
abbrev kDol : ByteArray := ⟨#[36]⟩
def usesB (name : ByteArray) : List ByteArray :=
  if name.size = 1 ∧ ¬ name = kDol then takeU (useC name) (takeU (useB name) (takeU (useA name) [])) else takeU (useB name) (takeU (useA name) [])
def startN : List ByteArray → List UInt8 → Nat
  | [], _ => 0
  | u :: U, s => if (bl u).isPrefixOf s then u.size else startN U s
def bindG (U : List ByteArray) (val : List UInt8) : Nat → List UInt8 → List UInt8
  | 0, _ => []
  | _ + 1, [] => []
  | k + 1, c :: t => if c = 36 then (if 0 < startN U (c :: t) then val ++ bindG U val k ((c :: t).drop (startN U (c :: t))) else (c :: t).take 2 ++ bindG U val k ((c :: t).drop 2)) else c :: bindG U val k t
def bindL (U : List ByteArray) (val s : List UInt8) : List UInt8 := bindG U val s.length s
section
variable {U : List ByteArray} {val : List UInt8}
theorem bindG_fuel : ∀ (n m : Nat) (s : List UInt8), s.length ≤ n → s.length ≤ m → bindG U val n s = bindG U val m s
  | 0, 0, _, _, _ => rfl
  | 0, m + 1, s, h, _ => by obtain rfl := List.length_eq_zero_iff.1 (Nat.le_zero.1 h); rfl
  | n + 1, 0, s, _, h => by obtain rfl := List.length_eq_zero_iff.1 (Nat.le_zero.1 h); rfl
  | n + 1, m + 1, [], _, _ => rfl
  | n + 1, m + 1, c :: t, h1, h2 => by
    rw [List.length_cons] at h1 h2
    rw [bindG, bindG]
    split
    · split
      · rename_i h3 h4
        rw [bindG_fuel n m _ (by rw [List.length_drop, List.length_cons]; omega) (by rw [List.length_drop, List.length_cons]; omega)]
      · rw [bindG_fuel n m _ (by rw [List.length_drop, List.length_cons]; omega) (by rw [List.length_drop, List.length_cons]; omega)]
    · rw [bindG_fuel n m t (by omega) (by omega)]
theorem bindL_nil : bindL U val [] = [] := rfl
theorem bindL_other {c : UInt8} (t : List UInt8) (h : ¬ c = 36) : bindL U val (c :: t) = c :: bindL U val t := by
  unfold bindL; rw [List.length_cons, bindG, if_neg h]
theorem bindL_hit {s : List UInt8} (h : s.head? = some 36) (hn : 0 < startN U s) : bindL U val s = val ++ bindL U val (s.drop (startN U s)) := by
  cases s with
  | nil => cases h
  | cons c t =>
    simp at h; subst h
    unfold bindL
    rw [List.length_cons, bindG, if_pos rfl, if_pos hn]
    rw [bindG_fuel t.length _ _ (by rw [List.length_drop, List.length_cons]; omega) (Nat.le_refl _)]
theorem bindL_miss {s : List UInt8} (h : s.head? = some 36) (hn : ¬ 0 < startN U s) : bindL U val s = s.take 2 ++ bindL U val (s.drop 2) := by
  cases s with
  | nil => cases h
  | cons c t =>
    simp at h; subst h
    unfold bindL
    rw [List.length_cons, bindG, if_pos rfl, if_neg hn]
    rw [bindG_fuel t.length _ _ (by rw [List.length_drop, List.length_cons]; omega) (Nat.le_refl _)]
theorem bindL_skip : ∀ (k : Nat) (s : List UInt8), k ≤ s.length → (∀ j, j < k → s[j]? ≠ some 36) → bindL U val s = s.take k ++ bindL U val (s.drop k)
  | 0, s, _, _ => by simp
  | k + 1, [], h, _ => by simp at h
  | k + 1, c :: t, h, hj => by
    rw [bindL_other t (by have := hj 0 (by omega); simpa using this), bindL_skip k t (by simpa using h) (fun j hk => by have := hj (j + 1) (by omega); simpa using this)]; simp
theorem bindL_len : ∀ (n : Nat) (s : List UInt8), s.length ≤ n → (bindL U val s).length ≤ (val.length + 1) * s.length
  | n, [], _ => by simp [bindL_nil]
  | 0, c :: t, h => by simp at h
  | n + 1, c :: t, h => by
    rw [List.length_cons] at h
    have hm : (val.length + 1) * (t.length + 1) = (val.length + 1) * t.length + (val.length + 1) := Nat.mul_succ _ _
    by_cases hc : c = 36
    · subst hc
      by_cases hs : 0 < startN U (36 :: t)
      · rw [bindL_hit rfl hs, List.length_append, List.length_cons, hm]
        have h1 := bindL_len n ((36 :: t).drop (startN U (36 :: t))) (by rw [List.length_drop, List.length_cons]; omega)
        have h2 : ((36 :: t).drop (startN U (36 :: t))).length ≤ t.length := by rw [List.length_drop, List.length_cons]; omega
        have h3 := Nat.mul_le_mul_left (val.length + 1) h2
        omega
      · rw [bindL_miss rfl hs, List.length_append, List.length_cons, hm]
        have h1 := bindL_len n ((36 :: t).drop 2) (by rw [List.length_drop, List.length_cons]; omega)
        cases t with
        | nil => simp [bindL_nil]
        | cons d t =>
          simp only [List.take_succ_cons, List.take_zero, List.drop_succ_cons, List.drop_zero, List.length_cons, List.length_nil] at h1 ⊢
          have hm2 : (val.length + 1) * (t.length + 1) = (val.length + 1) * t.length + (val.length + 1) := Nat.mul_succ _ _
          omega
    · rw [bindL_other t hc, List.length_cons, List.length_cons, hm]
      have := bindL_len n t (by omega)
      omega
end
end Go.Proofs.YtbciedpjaajhcaaDoor

/-
  What newBinding, starts and text answer.
-/
namespace Go.Proofs.YtbciedpjaajhcaaDoor
open Go.RowKit Go.Shelf
open Ex (useN Fr)

theorem mem_take (c : ByteArray) (U : List ByteArray) : (takeU c U).length ≤ U.length + 1 := by unfold takeU; split <;> simp
set_option maxRecDepth 20000 in
set_option maxHeartbeats 800000 in
theorem take_any (bb : Nat) (vU : Value) (U : List ByteArray) (q c : ByteArray) (w : World) (hblk : w.heap[bb]? = some (.cells #[vU, .string q] 70 (0, 0))) (hrow : w.ownsRow (bb + 1) 9 1 vU U.length (U.map Value.string)) (hc : c.size ≤ 1000000) (hU : U.length ≤ 1000) :
    Calls Tryd.prog 38 #[.pointer (some ⟨bb, 0, none⟩), .string c] w fun e w' => e = .returned (.tuple #[]) ∧ ∃ vU', w'.heap[bb]? = some (.cells #[vU', .string q] 70 (0, 0)) ∧ w'.ownsRow (bb + 1) 9 1 vU' (takeU c U).length ((takeU c U).map Value.string) ∧ Below bb w w' := by
  obtain ⟨i0, hi, hz0, hz1, hz2⟩ := info_of info9
  have HU : Hid (∀ W, Calls Tryd.prog 56 #[.string c] W fun e w' => e = .returned (.int .i64 (useN (bl c) : Nat)) ∧ Below W.heap.size W w') := fun W => Ex.useN_any c W hc
  have hbl : bb < w.heap.size := (Array.getElem?_eq_some_iff.1 hblk).1
  obtain ⟨n, hn⟩ : ∃ n, n = U.length := ⟨_, rfl⟩
  rw [← hn] at hrow hU
  obtain ⟨av, cv, rfl⟩ := V.owns_slice hrow
  have HST : Hid (∀ W, Below w.heap.size w W → W.heap[bb]? = some (.cells #[.slice av n cv, .string q] 70 (0, 0)) ∧ W.ownsRow (bb + 1) 9 1 (.slice av n cv) n (U.map Value.string) ∧ Below bb w W ∧ bb < W.heap.size) := fun W hW => ⟨(hW.block _ hbl).trans hblk, owns_below hrow hW, hW.mono (Nat.le_of_lt hbl), Nat.lt_of_lt_of_le hbl hW.size⟩
  have HN : Hid (n = U.length) := hn
  clear hblk hrow hn
  obtain ⟨m, hm⟩ : ∃ m, m = useN (bl c) := ⟨_, rfl⟩
  have HM : Hid (m = useN (bl c)) := hm
  rw [← hm] at HU
  clear hm
  by_cases h : m = c.size
  · have hT : takeU c U = U ++ [c] := by unfold takeU; rw [if_pos (by rw [← HM.out]; exact h)]
    rw [hT]
    have hi2 : (m : Int) = (c.size : Int) := by omega
    rw [hi2] at HU
    clear hT h hi2
    go_enter Tryd.func38, Tryd.ntmps38
    go_wp2_with fail
    refine (HU.out _).mono ?_
    rintro e w1 ⟨rfl, h1⟩
    obtain ⟨p1, p2, p3, p4⟩ := HST.out w1 h1
    have c0 : w1.cell? ⟨bb, 0, none⟩ = some (.slice av n cv) := cell_in p1 0 rfl
    have f0 : w1.frozen? ⟨bb, 0, none⟩ = false := by simp [World.frozen?, p1]
    have H1 : Hid _ := (⟨p1, p3⟩ : _ ∧ _)
    clear h1 p1 p3
    go_wp2_with (at_builtin; refine wpList_append_own _ rfl _ _ 45 rfl (bb + 1) 9 i0 (.string ⟨#[]⟩) 1 16 Tryd.underlying45 hi hz0 hz1 hz2 rfl (by decide) _ _ _ rfl (p2.alloc _) ⟨w1.heap.size, 0, none⟩ 1 1 [.string c] rfl rfl ?c1 ?c2 ?c3 ?c4 ?c5 ?_)
    case c1 => exact cell_one_new w1 (.string c) 9
    case c2 => intro u hu; simp at hu; subst hu; rfl
    case c3 => unfold maxLen; omega
    case c4 => omega
    case c5 => simp; omega
    intro v' w2 hown' hgrow _
    have hob : (Value.slice av n cv).ownBlock ≠ some bb := fun e => by have := (p2.lt _ e).1; omega
    have z2 : w2.heap[bb]? = some (.cells #[.slice av n cv, .string q] 70 (0, 0)) := by
      rw [hgrow.block bb (by simp; omega) (Ne.symm hob), Below.heap_alloc _ _ _ p4]; exact H1.out.1
    have hb2 : Below bb w w2 := (H1.out.2.alloc (by omega) _).grown hgrow (by simp; omega) (fun k hk => by have := (p2.lt k hk).1; omega)
    obtain ⟨av', cv', rfl⟩ := V.owns_slice hown'
    have e0 : w2.cell? ⟨bb, 0, none⟩ = some (.slice av n cv) := cell_in z2 0 rfl
    have e1 : w2.frozen? ⟨bb, 0, none⟩ = false := by simp [World.frozen?, z2]
    have H2 : Hid (w2.ownsRow (bb + 1) 9 1 (.slice av' (n + 1) cv') (n + 1) (U.map Value.string ++ [.string c]) ∧ w2.heap[bb]? = some (.cells #[.slice av n cv, .string q] 70 (0, 0)) ∧ Below bb w w2) := ⟨hown', z2, hb2⟩
    clear hown' hgrow z2 hb2 c0 f0 p2
    go_wp2_with fail
    go_end0
    refine ⟨rfl, _, heap_set H2.out.2.1 _, ?_, H2.out.2.2.setCell (p := ⟨bb, 0, none⟩) (Nat.le_refl _) _⟩
    rw [List.length_append, ← HN.out, List.map_append]
    exact row_set H2.out.1 (fun e => by have := (H2.out.1.lt _ e).1; omega) _
  · have hT : takeU c U = U := by unfold takeU; rw [if_neg (by rw [← HM.out]; exact h)]
    rw [hT]
    have hi2 : ¬ (m : Int) = (c.size : Int) := by omega
    have hi3 : ((m : Int) == (c.size : Int)) = false := by simpa using hi2
    clear hT h
    go_enter Tryd.func38, Tryd.ntmps38
    go_wp2_with fail
    refine (HU.out _).mono ?_
    rintro e w1 ⟨rfl, h1⟩
    obtain ⟨p1, p2, p3, p4⟩ := HST.out w1 h1
    have H1 : Hid _ := (⟨p1, p2, p3⟩ : _ ∧ _ ∧ _)
    clear h1 p1 p2 p3 p4
    go_wp2_with fail
    go_end0
    exact ⟨rfl, _, H1.out.1, by rw [← HN.out]; exact H1.out.2.1, H1.out.2.2⟩

theorem hasp (s u : ByteArray) : Lib.hasPrefix s.data.toList u.data.toList = (bl u).isPrefixOf (bl s) := rfl
theorem start_hit {U : List ByteArray} {s : List UInt8} : ∀ {k : Nat} {u : ByteArray}, U[k]? = some u → startN (U.drop k) s = if (bl u).isPrefixOf s then u.size else startN (U.drop (k + 1)) s := by
  intro k u h
  have hk := (List.getElem?_eq_some_iff.1 h)
  obtain ⟨h1, h2⟩ := hk
  rw [List.drop_eq_getElem_cons h1, h2, startN]
set_option maxRecDepth 20000 in
set_option maxHeartbeats 800000 in
theorem starts_any (vU : Value) (U : List ByteArray) (q s : ByteArray) (w : World) (hW : Words w.heap.size w vU U) (hU : U.length ≤ 1000) :
    Calls Tryd.prog 42 #[.agg #[vU, .string q], .string s] w fun e w' => e = .returned (.int .i64 (startN U (bl s) : Nat)) ∧ Below w.heap.size w w' := by
  obtain ⟨a, n, c, hv, hn, hnc, hcell⟩ := hW
  subst hv
  have hW : Words w.heap.size w (.slice a n c) U := ⟨a, n, c, rfl, hn, hnc, hcell⟩
  have HW : Hid (n = U.length ∧ Words w.heap.size w (.slice a n c) U) := ⟨hn, hW⟩
  have HP : Hid (∀ (u : ByteArray) W, Calls Tryd.prog 59 #[.string s, .string u] W fun e w' => e = .returned (.bool ((bl u).isPrefixOf (bl s))) ∧ W = w') := fun u W => (Tryd.strings_HasPrefix s u W).mono fun e w' h => ⟨by rw [h.1, hasp], h.2.symm⟩
  rw [← hn] at hU
  obtain ⟨w1, hw1⟩ : ∃ w1, w1 = w.alloc (.cells #[.slice a n c, .string q] 70) := ⟨_, rfl⟩
  have hb1 : Below w.heap.size w w1 := by rw [hw1]; exact (Below.refl _ _).alloc (Nat.le_refl _) _
  have z1 : w1.heap[w.heap.size]? = some (.cells #[.slice a n c, .string q] 70 (0, 0)) := by rw [hw1]; exact alloc_last _ _
  have c0 : w1.cell? ⟨w.heap.size, 0, none⟩ = some (.slice a n c) := cell_in z1 0 rfl
  have HB1 : Hid (Below w.heap.size w w1) := hb1
  clear hn hcell hW hb1 z1
  go_enter Tryd.func42, Tryd.ntmps42
  go_wp2_with fail
  go_loopw [10] (fun vi wr => ∃ k : Nat, k ≤ n ∧ vi = .int .i64 (k : Int) ∧ w1 = wr ∧ Hid (startN U (bl s) = startN (U.drop k) (bl s))) (fun vi _ => n - (intOf vi).toNat)
  case atStart => exact ⟨0, Nat.zero_le _, rfl, hw1, by simp [Hid]⟩
  case round =>
    obtain ⟨k, hk, rfl, rfl, HA⟩ := hrel
    by_cases hlt : k < n
    · have hil : (k : Int) < (n : Int) := by omega
      have hkl : k < U.length := by rw [← HW.out.1]; exact hlt
      obtain ⟨b, o, rfl, hbB, d0⟩ := HW.out.2.pick k hkl
      have d1 := (HB1.out.cell (p := ⟨b, o + k, none⟩) hbB).trans d0
      have hst := start_hit (s := bl s) (List.getElem?_eq_getElem hkl)
      obtain ⟨u, hu⟩ : ∃ u, u = U[k] := ⟨_, rfl⟩
      rw [← hu] at d1 hst
      have HPu := HP.out u
      cases hp : (bl u).isPrefixOf (bl s) with
      | true =>
        rw [hp, if_pos rfl] at hst
        have HA1 : Hid (startN U (bl s) = u.size) := by unfold Hid; rw [HA.out, hst]
        rw [hp] at HPu
        have HPu : Hid (∀ W : World, Calls Tryd.prog 59 #[.string s, .string u] W fun e w' => e = .returned (.bool true) ∧ W = w') := HPu
        clear hp hst hu d0 hw1
        go_wp2_with fail
        refine (HPu.out _).mono ?_
        rintro e w' ⟨rfl, rfl⟩
        go_wp2_with fail
        go_ret
        exact ⟨ret_int (by rw [HA1.out]), HB1.out⟩
      | false =>
        rw [hp, if_neg (by simp)] at hst
        have HA1 : Hid (startN U (bl s) = startN (U.drop (k + 1)) (bl s)) := by unfold Hid; rw [HA.out, hst]
        rw [hp] at HPu
        have HPu : Hid (∀ W : World, Calls Tryd.prog 59 #[.string s, .string u] W fun e w' => e = .returned (.bool false) ∧ W = w') := HPu
        clear hp hst hu d0 hw1
        go_wp2_with fail
        refine (HPu.out _).mono ?_
        rintro e w' ⟨rfl, rfl⟩
        go_wp2
        go_roundw
        case rel => exact ⟨k + 1, by omega, by go_num, trivial, HA1⟩
        case measure => simp [intOf]; omega
    · have hil : ¬ (k : Int) < (n : Int) := by omega
      have HA1 : Hid (startN U (bl s) = 0) := by
        unfold Hid; rw [HA.out, List.drop_of_length_le (by have := HW.out.1; omega)]; rfl
      clear hw1
      go_wp2
      go_ret
      exact ⟨ret_int (by rw [HA1.out]; rfl), HB1.out⟩
end Go.Proofs.YtbciedpjaajhcaaDoor

/-
  What newBinding and text answer.
-/
namespace Go.Proofs.YtbciedpjaajhcaaDoor
open Go.RowKit Go.Shelf
open Ex (useN Fr)

theorem app_size (a b : ByteArray) : (a ++ b).size = a.size + b.size := by rw [← bl_length, bl_app, List.length_append, bl_length, bl_length]
theorem useA_size (n : ByteArray) : (useA n).size = n.size + 3 := by unfold useA; rw [app_size, app_size]; show 2 + n.size + 1 = _; omega
theorem useB_size (n : ByteArray) : (useB n).size = n.size + 3 := by unfold useB; rw [app_size, app_size]; show 2 + n.size + 1 = _; omega
theorem useC_size (n : ByteArray) : (useC n).size = n.size + 1 := by unfold useC; rw [app_size]; show 1 + n.size = _; omega
/-- The cells of a result that is a struct of two. -/
theorem box2' {w : World} {b : Nat} {a0 a1 : Value} {T : TypeId} (h : w.heap[b]? = some (.cells #[a0, a1] T (0, 0))) (x y : Value) :
    (w.setCell ⟨b, 0, none⟩ x).cell? ⟨b, 0, none⟩ = some x ∧ ((w.setCell ⟨b, 0, none⟩ x).setCell ⟨b, 1, none⟩ y).cell? ⟨b, 1, none⟩ = some y := by
  have h1 := heap_set (i := 0) h x
  have h2 := heap_set (i := 1) h1 y
  exact ⟨cell_in h1 0 rfl, cell_in h2 1 rfl⟩
theorem below_set2' {w w1 : World} {B b : Nat} (h : Below B w w1) (hb : B ≤ b) (x y : Value) : Below B w ((w1.setCell ⟨b, 0, none⟩ x).setCell ⟨b, 1, none⟩ y) :=
  (h.setCell (p := ⟨b, 0, none⟩) hb x).setCell (p := ⟨b, 1, none⟩) hb y
/-- A binding in block bb with its uses, the result's block r below it. -/
def BN (w : World) (r bb : Nat) (q : ByteArray) (U : List ByteArray) (W : World) : Prop :=
  ∃ vU, W.heap[bb]? = some (.cells #[vU, .string q] 70 (0, 0)) ∧ W.ownsRow (bb + 1) 9 1 vU U.length (U.map Value.string) ∧ Below w.heap.size w W ∧ W.heap[r]? = some (.cells #[.slice none 0 0, .string ⟨#[]⟩] 70 (0, 0)) ∧ w.heap.size ≤ r ∧ r < bb
theorem BN.take {w : World} {r bb : Nat} {q : ByteArray} {U : List ByteArray} {W : World} (h : BN w r bb q U W) (c : ByteArray) (hc : c.size ≤ 1000000) (hU : U.length ≤ 1000) :
    Calls Tryd.prog 38 #[.pointer (some ⟨bb, 0, none⟩), .string c] W fun e w' => e = .returned (.tuple #[]) ∧ BN w r bb q (takeU c U) w' := by
  obtain ⟨vU, h1, h2, h3, h4, h5, h6⟩ := h
  exact (take_any bb vU U q c W h1 h2 hc hU).mono fun e w' ⟨p1, vU', p2, p3, p4⟩ => ⟨p1, vU', p2, p3, h3.trans (p4.mono (by omega)), (p4.block r h6).trans h4, h5, h6⟩
set_option maxRecDepth 20000 in
set_option maxHeartbeats 1600000 in
theorem newB_any (name value : ByteArray) (w : World) (hm : Mx w) (hn : name.size ≤ 900000) (hv : value.size ≤ 1000000) :
    Calls Tryd.prog 23 #[.string name, .string value] w fun e w' => ∃ vU, e = .returned (.agg #[vU, .string (ba (quoteD (bl value)))]) ∧ Words w'.heap.size w' vU (usesB name) ∧ Below w.heap.size w w' := by
  obtain ⟨q, hq⟩ : ∃ q, q = ba (quoteD (bl value)) := ⟨_, rfl⟩
  obtain ⟨w1, hw1⟩ : ∃ w1, w1 = w.alloc (.cells #[.slice none 0 0, .string ⟨#[]⟩] 70) := ⟨_, rfl⟩
  have hb1 : Below w.heap.size w w1 := by rw [hw1]; exact (Below.refl _ _).alloc (Nat.le_refl _) _
  have z1 : w1.heap[w.heap.size]? = some (.cells #[.slice none 0 0, .string ⟨#[]⟩] 70 (0, 0)) := by rw [hw1]; exact alloc_last _ _
  have HQ : Hid (Calls Tryd.prog 37 #[.string value] w1 fun e w' => e = .returned (.string q) ∧ Below w1.heap.size w1 w') := by
    rw [hq]; exact quote_any value w1 (hm.below hb1 hm.pos) hv
  rw [← hq]
  clear hq hm
  have HZ : Hid (∀ W, Below w1.heap.size w1 W → BN w w.heap.size W.heap.size q [] (W.alloc (.cells #[.slice none 0 0, .string q] 70))) := fun W hW => by
    have hl : w.heap.size < w1.heap.size := (Array.getElem?_eq_some_iff.1 z1).1
    have hs := hW.size
    refine ⟨.slice none 0 0, alloc_last _ _, owns_nil _ _ _ _, (hb1.trans (hW.mono hb1.size)).alloc (by omega) _, ?_, Nat.le_refl _, by omega⟩
    rw [Below.heap_alloc _ _ _ (by omega), hW.block _ hl]; exact z1
  obtain ⟨cA, hcA⟩ : ∃ cA, cA = useA name := ⟨_, rfl⟩
  obtain ⟨cB, hcB⟩ : ∃ cB, cB = useB name := ⟨_, rfl⟩
  obtain ⟨cC, hcC⟩ : ∃ cC, cC = useC name := ⟨_, rfl⟩
  have sA : cA.size ≤ 1000000 := by rw [hcA, useA_size]; omega
  have sB : cB.size ≤ 1000000 := by rw [hcB, useB_size]; omega
  have sC : cC.size ≤ 1000000 := by rw [hcC, useC_size]; omega
  have hA : (⟨#[36, 123]⟩ : ByteArray) ++ name ++ ⟨#[125]⟩ = cA := hcA.symm
  have hB : (⟨#[36, 40]⟩ : ByteArray) ++ name ++ ⟨#[41]⟩ = cB := hcB.symm
  have hC : (⟨#[36]⟩ : ByteArray) ++ name = cC := hcC.symm
  have HUB : Hid (usesB name = if name.size = 1 ∧ ¬ name = kDol then takeU cC (takeU cB (takeU cA [])) else takeU cB (takeU cA [])) := by unfold Hid usesB; rw [hcA, hcB, hcC]
  have HT1 : Hid (∀ W bb, BN w w.heap.size bb q [] W → Calls Tryd.prog 38 #[.pointer (some ⟨bb, 0, none⟩), .string cA] W fun e w' => e = .returned (.tuple #[]) ∧ BN w w.heap.size bb q (takeU cA []) w') := fun W bb h => h.take cA sA (by simp)
  have l1 : (takeU cA []).length ≤ 1 := mem_take cA []
  have l2 : (takeU cB (takeU cA [])).length ≤ 2 := by have := mem_take cB (takeU cA []); omega
  have HT2 : Hid (∀ W bb, BN w w.heap.size bb q (takeU cA []) W → Calls Tryd.prog 38 #[.pointer (some ⟨bb, 0, none⟩), .string cB] W fun e w' => e = .returned (.tuple #[]) ∧ BN w w.heap.size bb q (takeU cB (takeU cA [])) w') := fun W bb h => h.take cB sB (by omega)
  have HT3 : Hid (∀ W bb, BN w w.heap.size bb q (takeU cB (takeU cA [])) W → Calls Tryd.prog 38 #[.pointer (some ⟨bb, 0, none⟩), .string cC] W fun e w' => e = .returned (.tuple #[]) ∧ BN w w.heap.size bb q (takeU cC (takeU cB (takeU cA []))) w') := fun W bb h => h.take cC sC (by omega)
  have HEND : Hid (∀ (W : World) (bb : Nat) (U : List ByteArray), BN w w.heap.size bb q U W → ∃ vU, IsS vU ∧ W.cell? ⟨bb, 0, none⟩ = some vU ∧ W.cell? ⟨bb, 1, none⟩ = some (.string q) ∧ W.cell? ⟨w.heap.size, 0, none⟩ = some (.slice none 0 0) ∧ W.cell? ⟨w.heap.size, 1, none⟩ = some (.string ⟨#[]⟩) ∧ W.frozen? ⟨w.heap.size, 0, none⟩ = false ∧ W.frozen? ⟨w.heap.size, 1, none⟩ = false ∧ ((W.setCell ⟨w.heap.size, 0, none⟩ vU).cell? ⟨w.heap.size, 0, none⟩ = some vU ∧ ((W.setCell ⟨w.heap.size, 0, none⟩ vU).setCell ⟨w.heap.size, 1, none⟩ (.string q)).cell? ⟨w.heap.size, 1, none⟩ = some (.string q)) ∧ Words ((W.setCell ⟨w.heap.size, 0, none⟩ vU).setCell ⟨w.heap.size, 1, none⟩ (.string q)).heap.size ((W.setCell ⟨w.heap.size, 0, none⟩ vU).setCell ⟨w.heap.size, 1, none⟩ (.string q)) vU U ∧ Below w.heap.size w ((W.setCell ⟨w.heap.size, 0, none⟩ vU).setCell ⟨w.heap.size, 1, none⟩ (.string q))) := fun W bb U h => by
    obtain ⟨vU, h1, h2, h3, h4, h5, h6⟩ := h
    have hne : vU.ownBlock ≠ some w.heap.size := fun e => by have := (h2.lt _ e).1; omega
    refine ⟨vU, by obtain ⟨a, c, e⟩ := V.owns_slice h2; exact ⟨a, _, c, e⟩, cell_in h1 0 rfl, cell_in h1 1 rfl, cell_in h4 0 rfl, cell_in h4 1 rfl, by simp [World.frozen?, h4], by simp [World.frozen?, h4], box2' h4 _ _, words_of_owns (row_set (row_set h2 hne _) hne _) (Nat.le_refl _), below_set2' h3 (Nat.le_refl _) _ _⟩
  clear hcA hcB hcC sA sB sC z1 hb1
  by_cases h1 : name.size = 1
  · have h1i : (name.size : Int) = 1 := by omega
    by_cases hd : name = kDol
    · have HU2 : Hid (usesB name = takeU cB (takeU cA [])) := by unfold Hid; rw [HUB.out, if_neg (fun h => h.2 hd)]
      rw [HU2.out]
      subst hd
      clear h1 h1i
      go_enter Tryd.func23, Tryd.ntmps23
      go_wp2_with fail
      rw [← hw1]
      clear hw1
      refine HQ.out.mono ?_
      rintro e w2 ⟨rfl, h2⟩
      have HB2 : Hid _ := HZ.out w2 h2
      clear h2
      go_wp2_with fail
      refine (HT1.out _ _ HB2.out).mono ?_
      rintro e w4 ⟨rfl, h4⟩
      have H4 : Hid _ := h4
      clear h4
      go_wp2_with fail
      refine (HT2.out _ _ H4.out).mono ?_
      rintro e w5 ⟨rfl, h5⟩
      have H5 : Hid _ := h5
      clear h5
      obtain ⟨vU, ⟨ua, un, uc, rfl⟩, d0, d1, r0, r1, f0, f1, hbx, hwd, hbl⟩ := HEND.out _ _ _ H5.out
      have HX : Hid _ := (⟨hbx, hwd, hbl⟩ : _ ∧ _ ∧ _)
      clear hbx hwd hbl
      go_wp2_with fail
      obtain ⟨⟨j0, j1⟩, hwd, hbl⟩ := HX.out
      refine bodyPost_ret (v := .agg #[.slice ua un uc, .string q]) (by simp [results, Tryd.results23, go_sem, j0, j1]; try rfl) rfl ?_
      exact ⟨_, rfl, hwd, hbl⟩
    · have HU2 : Hid (usesB name = takeU cC (takeU cB (takeU cA []))) := by unfold Hid; rw [HUB.out, if_pos ⟨h1, hd⟩]
      rw [HU2.out]
      obtain ⟨s1, s2⟩ := ne_list hd
      clear hd
      go_enter Tryd.func23, Tryd.ntmps23
      go_wp2_with fail
      rw [← hw1]
      clear hw1
      refine HQ.out.mono ?_
      rintro e w2 ⟨rfl, h2⟩
      have HB2 : Hid _ := HZ.out w2 h2
      clear h2
      go_wp2_with fail
      refine (HT1.out _ _ HB2.out).mono ?_
      rintro e w4 ⟨rfl, h4⟩
      have H4 : Hid _ := h4
      clear h4
      go_wp2_with fail
      refine (HT2.out _ _ H4.out).mono ?_
      rintro e w5 ⟨rfl, h5⟩
      have H5 : Hid _ := h5
      clear h5
      go_wp2_with fail
      refine (HT3.out _ _ H5.out).mono ?_
      rintro e w6 ⟨rfl, h6⟩
      have H6 : Hid _ := h6
      clear h6
      obtain ⟨vU, ⟨ua, un, uc, rfl⟩, d0, d1, r0, r1, f0, f1, hbx, hwd, hbl⟩ := HEND.out _ _ _ H6.out
      have HX : Hid _ := (⟨hbx, hwd, hbl⟩ : _ ∧ _ ∧ _)
      clear hbx hwd hbl
      go_wp2_with fail
      obtain ⟨⟨j0, j1⟩, hwd, hbl⟩ := HX.out
      refine bodyPost_ret (v := .agg #[.slice ua un uc, .string q]) (by simp [results, Tryd.results23, go_sem, j0, j1]; try rfl) rfl ?_
      exact ⟨_, rfl, hwd, hbl⟩
  · have h1i : ¬ (name.size : Int) = 1 := by omega
    have h1b : ((name.size : Int) == 1) = false := by simpa using h1i
    have HU2 : Hid (usesB name = takeU cB (takeU cA [])) := by unfold Hid; rw [HUB.out, if_neg (fun h => h1 h.1)]
    rw [HU2.out]
    go_enter Tryd.func23, Tryd.ntmps23
    go_wp2_with fail
    rw [← hw1]
    clear hw1
    refine HQ.out.mono ?_
    rintro e w2 ⟨rfl, h2⟩
    have HB2 : Hid _ := HZ.out w2 h2
    clear h2
    go_wp2_with fail
    refine (HT1.out _ _ HB2.out).mono ?_
    rintro e w4 ⟨rfl, h4⟩
    have H4 : Hid _ := h4
    clear h4
    go_wp2_with fail
    refine (HT2.out _ _ H4.out).mono ?_
    rintro e w5 ⟨rfl, h5⟩
    have H5 : Hid _ := h5
    clear h5
    obtain ⟨vU, ⟨ua, un, uc, rfl⟩, d0, d1, r0, r1, f0, f1, hbx, hwd, hbl⟩ := HEND.out _ _ _ H5.out
    have HX : Hid _ := (⟨hbx, hwd, hbl⟩ : _ ∧ _ ∧ _)
    clear hbx hwd hbl
    go_wp2_with fail
    obtain ⟨⟨j0, j1⟩, hwd, hbl⟩ := HX.out
    refine bodyPost_ret (v := .agg #[.slice ua un uc, .string q]) (by simp [results, Tryd.results23, go_sem, j0, j1]; try rfl) rfl ?_
    exact ⟨_, rfl, hwd, hbl⟩
end Go.Proofs.YtbciedpjaajhcaaDoor

/-
  What text answers.
-/
namespace Go.Proofs.YtbciedpjaajhcaaDoor
open Go.RowKit Go.Shelf
open Ex (useN Fr)

theorem index_dol (s : List UInt8) : (Lib.indexByte s 36 < 0 ∧ ∀ U val, bindL U val s = s) ∨ ∃ k : Nat, Lib.indexByte s 36 = (k : Int) ∧ k < s.length ∧ (s.drop k).head? = some 36 ∧ ∀ U val, bindL U val s = s.take k ++ bindL U val (s.drop k) := by
  by_cases h : Lib.indexByte s 36 < 0
  · have hge := Lib.indexByte_ge s 36
    have h1 : Lib.indexByte s 36 = -1 := by omega
    refine .inl ⟨h, fun U val => ?_⟩
    rw [bindL_skip s.length s (Nat.le_refl _) (fun j _ => Lib.indexByte_none h1 j), List.take_length, List.drop_length, bindL_nil, List.append_nil]
  · obtain ⟨k, hk⟩ : ∃ k : Nat, Lib.indexByte s 36 = (k : Int) := ⟨(Lib.indexByte s 36).toNat, by omega⟩
    obtain ⟨h1, h2⟩ := Lib.indexByte_some hk
    have hkl := (List.getElem?_eq_some_iff.1 h1).1
    refine .inr ⟨k, hk, hkl, by rw [List.head?_drop]; exact h1, fun U val => bindL_skip k s (by omega) h2⟩
theorem start_le {U : List ByteArray} {s : List UInt8} : startN U s ≤ s.length := by
  induction U with
  | nil => exact Nat.zero_le _
  | cons u U ih =>
    rw [startN]; split
    · rename_i h
      have := (List.isPrefixOf_iff_prefix.1 h).length_le
      rw [bl_length] at this; exact this
    · exact ih
set_option maxRecDepth 20000 in
set_option maxHeartbeats 1600000 in
theorem text_any (vU : Value) (U : List ByteArray) (q s0 : ByteArray) (w : World) (hW : Words w.heap.size w vU U) (hU : U.length ≤ 1000) (hs : s0.size ≤ 1000000) (hq : q.size ≤ 1000000) (hb : (q.size + 1) * s0.size ≤ 500000000) :
    Calls Tryd.prog 24 #[.agg #[vU, .string q], .string s0] w fun e w' => e = .returned (.string (ba (bindL U (bl q) (bl s0)))) ∧ Below w.heap.size w w' := by
  have hsv : IsS vU := by obtain ⟨a, n, c, hv, _⟩ := hW; exact ⟨a, n, c, hv⟩
  have hlen := bindL_len (U := U) (val := bl q) s0.size (bl s0) (by rw [bl_length]; exact Nat.le_refl _)
  rw [bl_length, bl_length] at hlen
  obtain ⟨w1, hw1⟩ : ∃ w1, w1 = w.alloc (.cells #[vU, .string q] 70) := ⟨_, rfl⟩
  have hb1 : Below w.heap.size w w1 := by rw [hw1]; exact (Below.refl _ _).alloc (Nat.le_refl _) _
  have hl1 : w1.heap.size = w.heap.size + 1 := by rw [hw1]; simp
  have z1 : w1.heap[w.heap.size]? = some (.cells #[vU, .string q] 70 (0, 0)) := by rw [hw1]; exact alloc_last _ _
  have HW1 : Hid (∀ W, Below (w.heap.size + 1) w1 W → Words W.heap.size W vU U ∧ W.cell? ⟨w.heap.size, 0, none⟩ = some vU ∧ W.cell? ⟨w.heap.size, 1, none⟩ = some (.string q) ∧ Below w.heap.size w W) := fun W h => by
    have hbw := hb1.trans (h.mono (by omega))
    have zz := (h.block w.heap.size (by omega)).trans z1
    exact ⟨(hW.below hbw).mono hbw.size, cell_in zz 0 rfl, cell_in zz 1 rfl, hbw⟩
  have HST : Hid (∀ (s : ByteArray) W, Words W.heap.size W vU U → Calls Tryd.prog 42 #[.agg #[vU, .string q], .string s] W fun e w' => e = .returned (.int .i64 (startN U (bl s) : Nat)) ∧ Below W.heap.size W w') := fun s W h => starts_any vU U q s W h hU
  have HIB : Hid (∀ (s : ByteArray) W, Calls Tryd.prog 39 #[.string s, .int .u8 36] W fun e w' => e = .returned (.int .i64 (Lib.indexByte (bl s) 36)) ∧ W = w') := fun s W => (Tryd.strings_IndexByte s 36 W).mono fun e w' h => ⟨h.1, h.2.symm⟩
  have HWS : Hid (∀ (p : List UInt8) (m : ByteArray) (W : World), Bu (w.heap.size + 1) p W → p.length ≤ 600000000 → m.size ≤ 600000000 → Calls Tryd.prog 40 #[.pointer (some ⟨w.heap.size + 1, 0, none⟩), .string m] W fun e w' => e = .returned (.tuple #[.int .i64 m.size, .nilIface]) ∧ BuPost (w.heap.size + 1) (p ++ bl m) W w') := fun p m W h h2 h3 => ws_any _ p m W h h2 h3
  have HBS : Hid (∀ (p : List UInt8) (W : World), Bu (w.heap.size + 1) p W → Calls Tryd.prog 41 #[.pointer (some ⟨w.heap.size + 1, 0, none⟩)] W fun e w' => e = .returned (.string (ba p)) ∧ Below (w.heap.size + 1) W w') := fun p W h => bs_any _ p W h
  have HLT : Hid ((bindL U (bl q) (bl s0)).length ≤ 500000000) := by unfold Hid; omega
  have HBN : Hid (Bu (w.heap.size + 1) [] (w1.alloc (.cells #[.pointer none, .slice none 0 0] 83)) ∧ Below (w.heap.size + 1) w1 (w1.alloc (.cells #[.pointer none, .slice none 0 0] 83))) := by
    rw [← hl1]; exact ⟨bu_new w1, (Below.refl _ _).alloc (Nat.le_refl _) _⟩
  have HSZ : Hid (w.heap.size + 1 ≤ w1.heap.size) := by unfold Hid; omega
  clear hW hb1 z1 hlen hl1
  obtain ⟨ua, un, uc, rfl⟩ := hsv
  go_enter Tryd.func24, Tryd.ntmps24
  go_wp2_with fail
  rw [← hw1]
  clear hw1
  go_loopw [1] (fun vs wr => ∃ (s : ByteArray) (p : List UInt8), vs = .string s ∧ s.size ≤ s0.size ∧ p.length ≤ 500000000 ∧ Hid (Bu (w.heap.size + 1) p wr ∧ Below (w.heap.size + 1) w1 wr ∧ bindL U (bl q) (bl s0) = p ++ bindL U (bl q) (bl s))) (fun vs _ => szS vs)
  case atStart => exact ⟨s0, [], rfl, Nat.le_refl _, by simp, HBN.out.1, HBN.out.2, by simp⟩
  case round =>
    obtain ⟨s, p, rfl, hss, hpl, HI⟩ := hrel
    rcases index_dol (bl s) with ⟨h1, h2⟩ | ⟨k, h1, h2, h3, h4⟩
    · have HF : Hid (bindL U (bl q) (bl s0) = p ++ bl s) := by unfold Hid; rw [HI.out.2.2, h2]
      obtain ⟨X, hX⟩ : ∃ X, X = Lib.indexByte (bl s) 36 := ⟨_, rfl⟩
      have HIs := HIB.out s
      rw [← hX] at HIs h1
      have HIs : Hid _ := HIs
      clear h2 hX
      go_wp2_with fail
      refine (HIs.out _).mono ?_
      rintro e w2 ⟨rfl, rfl⟩
      go_wp2_with fail
      refine (HWS.out p s _ HI.out.1 (by omega) (by omega)).mono ?_
      rintro e w3 ⟨rfl, b1, b2, b3⟩
      have H3 : Hid (Bu (w.heap.size + 1) (p ++ bl s) w3 ∧ Below (w.heap.size + 1) w1 w3) := ⟨b1, HI.out.2.1.trans b2⟩
      clear b1 b2 b3
      go_wp2_with fail
      refine (HBS.out _ _ H3.out.1).mono ?_
      rintro e w4 ⟨rfl, b4⟩
      have H4 : Hid (Below w.heap.size w w4) := (HW1.out w4 (H3.out.2.trans b4)).2.2.2
      clear b4
      go_wp2_with fail
      go_ret
      exact ⟨ret_str (by rw [HF.out]), H4.out⟩
    · rw [bl_length] at h2
      have hk0 : ¬ (k : Int) < 0 := by omega
      have hki : (k : Int) ≤ (s.size : Int) := by omega
      obtain ⟨x, hx⟩ : ∃ x, x = s.extract 0 k := ⟨_, rfl⟩
      obtain ⟨y, hy⟩ : ∃ y, y = s.extract k s.size := ⟨_, rfl⟩
      have hxb : bl x = (bl s).take k := by rw [hx, bl_extract, List.drop_zero]
      have hyb : bl y = (bl s).drop k := by rw [hy, bl_extract, take_all]
      have hxs : x.size = k := by rw [← bl_length, hxb, List.length_take, bl_length]; omega
      have hys : y.size = s.size - k := by rw [← bl_length, hyb, List.length_drop, bl_length]
      have hs1 : ∀ W, (Instr.slice 9 (.string s) none (some (.int .i64 (k : Int))) none).run Tryd.prog W = .ok (.string x) W := by
        intro W; rw [hx]; exact run_slice_string_h (P := Tryd.prog) W 9 s Tryd.underlying9 .i64 k (by omega) (by omega)
      have hs2 : ∀ W, (Instr.slice 9 (.string s) (some (.int .i64 (k : Int))) none none).run Tryd.prog W = .ok (.string y) W := by
        intro W; rw [hy]; exact run_slice_string_l (P := Tryd.prog) W 9 s Tryd.underlying9 .i64 k (by omega) (by omega)
      have HIs := HIB.out s
      rw [h1] at HIs
      have HIs : Hid _ := HIs
      have HY : Hid ((bl y).head? = some 36 ∧ bindL U (bl q) (bl s0) = (p ++ bl x) ++ bindL U (bl q) (bl y)) := ⟨by rw [hyb]; exact h3, by rw [HI.out.2.2, h4, hxb, hyb, List.append_assoc]⟩
      have hpx : (p ++ bl x).length ≤ 500000000 := by
        have := congrArg List.length HY.out.2
        rw [List.length_append] at this
        have := HLT.out
        omega
      have HSy := HST.out y
      have hsl := start_le (U := U) (s := bl y)
      rw [bl_length] at hsl
      obtain ⟨n, hn⟩ : ∃ n, n = startN U (bl y) := ⟨_, rfl⟩
      have HN : Hid (n = startN U (bl y)) := hn
      rw [← hn] at HSy hsl
      have HSy : Hid _ := HSy
      have hy1 : 1 ≤ y.size := by omega
      have hyl : y.size ≤ s.size := by omega
      have hxl : x.size ≤ s.size := by omega
      clear hx hy hxb hyb h1 h3 h4 hn hys hxs
      by_cases hn0 : 0 < n
      · have hni : (0 : Int) < (n : Int) := by omega
        have hnj : (n : Int) ≤ (y.size : Int) := by omega
        obtain ⟨z, hz⟩ : ∃ z, z = y.extract n y.size := ⟨_, rfl⟩
        have hzb : bl z = (bl y).drop n := by rw [hz, bl_extract, take_all]
        have hzs : z.size + 1 ≤ y.size := by rw [← bl_length z, hzb, List.length_drop, bl_length]; omega
        have hs3 : ∀ W, (Instr.slice 9 (.string y) (some (.int .i64 (n : Int))) none none).run Tryd.prog W = .ok (.string z) W := by
          intro W; rw [hz]; exact run_slice_string_l (P := Tryd.prog) W 9 y Tryd.underlying9 .i64 n (by omega) (by omega)
        have HZ : Hid (bindL U (bl q) (bl s0) = (p ++ bl x ++ bl q) ++ bindL U (bl q) (bl z)) := by
          unfold Hid
          rw [HY.out.2, bindL_hit HY.out.1 (by rw [← HN.out]; exact hn0), ← HN.out, hzb, List.append_assoc]; simp
        have hpq : (p ++ bl x ++ bl q).length ≤ 500000000 := by
          have := congrArg List.length HZ.out
          rw [List.length_append] at this
          have := HLT.out
          omega
        clear hz hzb
        go_wp2_with fail
        refine (HIs.out _).mono ?_
        rintro e w2 ⟨rfl, rfl⟩
        go_wp2_with fail
        refine (HWS.out p x _ HI.out.1 (by omega) (by omega)).mono ?_
        rintro e w3 ⟨rfl, b1, b2, b3⟩
        have H3 : Hid (Bu (w.heap.size + 1) (p ++ bl x) w3 ∧ Below (w.heap.size + 1) w1 w3) := ⟨b1, HI.out.2.1.trans b2⟩
        clear b1 b2 b3
        obtain ⟨g1, g2, g3, _⟩ := HW1.out w3 H3.out.2
        have G1 : Hid _ := g1
        clear g1
        go_wp2_with fail
        refine (HSy.out _ G1.out).mono ?_
        rintro e w4 ⟨rfl, b4⟩
        have H4 : Hid (Bu (w.heap.size + 1) (p ++ bl x) w4 ∧ Below (w.heap.size + 1) w1 w4) := ⟨H3.out.1.below b4, H3.out.2.trans (b4.mono (Nat.le_trans HSZ.out H3.out.2.size))⟩
        clear b4 g2 g3
        obtain ⟨_, g2, g3, _⟩ := HW1.out w4 H4.out.2
        go_wp2_with fail
        refine (HWS.out (p ++ bl x) q _ H4.out.1 (by omega) (by omega)).mono ?_
        rintro e w5 ⟨rfl, b1, b2, b3⟩
        have H5 : Hid (Bu (w.heap.size + 1) (p ++ bl x ++ bl q) w5 ∧ Below (w.heap.size + 1) w1 w5) := ⟨b1, H4.out.2.trans b2⟩
        clear b1 b2 b3 g2 g3
        go_wp2
        go_roundw
        case rel => exact ⟨z, p ++ bl x ++ bl q, rfl, by omega, hpq, H5.out.1, H5.out.2, HZ.out⟩
        case measure => show z.size < s.size; omega
      · have hn00 : n = 0 := by omega
        subst hn00
        obtain ⟨m, hm⟩ : ∃ m, m = min 2 y.size := ⟨_, rfl⟩
        have hmi : min (2 : Int) (y.size : Int) = (m : Int) := by rw [hm]; omega
        have hm1 : 1 ≤ m ∧ m ≤ y.size := by omega
        have hmj : (m : Int) ≤ (y.size : Int) := by omega
        obtain ⟨u, hu⟩ : ∃ u, u = y.extract 0 m := ⟨_, rfl⟩
        obtain ⟨z, hz⟩ : ∃ z, z = y.extract m y.size := ⟨_, rfl⟩
        have hub : bl u = (bl y).take 2 := by
          rw [hu, bl_extract, List.drop_zero, hm]
          rw [← bl_length, ← List.take_take, List.take_length]
        have hzb : bl z = (bl y).drop 2 := by
          rw [hz, bl_extract, take_all, hm]
          by_cases h2 : 2 ≤ y.size
          · rw [Nat.min_eq_left h2]
          · rw [Nat.min_eq_right (by omega), List.drop_of_length_le (by rw [bl_length]; exact Nat.le_refl _), List.drop_of_length_le (by rw [bl_length]; omega)]
        have hus : u.size ≤ 2 := by rw [← bl_length, hub, List.length_take]; omega
        have hzs : z.size + 1 ≤ y.size := by rw [hz]; simp; omega
        have hs3 : ∀ W, (Instr.slice 9 (.string y) none (some (.int .i64 (m : Int))) none).run Tryd.prog W = .ok (.string u) W := by
          intro W; rw [hu]; exact run_slice_string_h (P := Tryd.prog) W 9 y Tryd.underlying9 .i64 m (by omega) (by omega)
        have hs4 : ∀ W, (Instr.slice 9 (.string y) (some (.int .i64 (m : Int))) none none).run Tryd.prog W = .ok (.string z) W := by
          intro W; rw [hz]; exact run_slice_string_l (P := Tryd.prog) W 9 y Tryd.underlying9 .i64 m (by omega) (by omega)
        have HZ : Hid (bindL U (bl q) (bl s0) = (p ++ bl x ++ bl u) ++ bindL U (bl q) (bl z)) := by
          unfold Hid
          rw [HY.out.2, bindL_miss HY.out.1 (by rw [← HN.out]; omega), hub, hzb, List.append_assoc]; simp
        have hpq : (p ++ bl x ++ bl u).length ≤ 500000000 := by
          have := congrArg List.length HZ.out
          rw [List.length_append] at this
          have := HLT.out
          omega
        clear hu hz hub hzb hm
        go_wp2_with fail
        refine (HIs.out _).mono ?_
        rintro e w2 ⟨rfl, rfl⟩
        go_wp2_with fail
        refine (HWS.out p x _ HI.out.1 (by omega) (by omega)).mono ?_
        rintro e w3 ⟨rfl, b1, b2, b3⟩
        have H3 : Hid (Bu (w.heap.size + 1) (p ++ bl x) w3 ∧ Below (w.heap.size + 1) w1 w3) := ⟨b1, HI.out.2.1.trans b2⟩
        clear b1 b2 b3
        obtain ⟨g1, g2, g3, _⟩ := HW1.out w3 H3.out.2
        have G1 : Hid _ := g1
        clear g1
        go_wp2_with fail
        refine (HSy.out _ G1.out).mono ?_
        rintro e w4 ⟨rfl, b4⟩
        have H4 : Hid (Bu (w.heap.size + 1) (p ++ bl x) w4 ∧ Below (w.heap.size + 1) w1 w4) := ⟨H3.out.1.below b4, H3.out.2.trans (b4.mono (Nat.le_trans HSZ.out H3.out.2.size))⟩
        clear b4 g2 g3
        go_wp2_with fail
        refine (HWS.out (p ++ bl x) u _ H4.out.1 (by omega) (by omega)).mono ?_
        rintro e w5 ⟨rfl, b1, b2, b3⟩
        have H5 : Hid (Bu (w.heap.size + 1) (p ++ bl x ++ bl u) w5 ∧ Below (w.heap.size + 1) w1 w5) := ⟨b1, H4.out.2.trans b2⟩
        clear b1 b2 b3
        go_wp2
        go_roundw
        case rel => exact ⟨z, p ++ bl x ++ bl u, rfl, by omega, hpq, H5.out.1, H5.out.2, HZ.out⟩
        case measure => show z.size < s.size; omega
end Go.Proofs.YtbciedpjaajhcaaDoor

/-
  What Bind answers.
-/
namespace Go.Proofs.YtbciedpjaajhcaaDoor
open Go.RowKit Go.Shelf
open Ex (useN Fr)

/-- A line with a value in place of a name. -/
def bindZ (name value : ByteArray) (x : Lz) : Lz := ⟨ba (bindL (usesB name) (quoteD (bl value)) (bl x.text)), x.at_, x.cmd⟩
theorem usesB_len (name : ByteArray) : (usesB name).length ≤ 3 := by
  unfold usesB
  have h1 := mem_take (useA name) []
  have h2 := mem_take (useB name) (takeU (useA name) [])
  have h3 := mem_take (useC name) (takeU (useB name) (takeU (useA name) []))
  simp only [List.length_nil] at h1
  split <;> omega
theorem take_set3 {xs P : List Value} {k n : Nat} (hx : xs.length = n * 3) (hk : k < n) (hP : xs.take (k * 3) = P) (a b c : Value) : (((xs.set (k * 3) a).set (k * 3 + 1) b).set (k * 3 + 2) c).take ((k + 1) * 3) = P ++ [a, b, c] := by
  have hl : P.length = k * 3 := by rw [← hP, List.length_take]; omega
  have hd : (xs.drop (k * 3)).length = n * 3 - k * 3 := by rw [List.length_drop, hx]
  obtain ⟨x0, x1, x2, r, hr⟩ : ∃ x0 x1 x2 r, xs.drop (k * 3) = x0 :: x1 :: x2 :: r := by
    match h : xs.drop (k * 3), hd with
    | [], hd => simp at hd; omega
    | [_], hd => simp at hd; omega
    | [_, _], hd => simp at hd; omega
    | x0 :: x1 :: x2 :: r, _ => exact ⟨x0, x1, x2, r, rfl⟩
  have e : xs = P ++ x0 :: x1 :: x2 :: r := by rw [← hP, ← hr, List.take_append_drop]
  rw [e, ← hl]
  simp only [List.set_append_right _ _ (Nat.le_refl _), List.set_append_right _ _ (Nat.le_add_right _ _), Nat.sub_self, Nat.add_sub_cancel_left, List.set_cons_zero, List.set_cons_succ]
  have : (k + 1) * 3 = P.length + 3 := by rw [hl, Nat.succ_mul]
  rw [this, List.take_length_add_append]; rfl
theorem row3 {w : World} {base n c g : Nat} {xs : List Value} (h : w.ownsRow base 43 3 (.slice (some ⟨g, 0, none⟩) n c) n xs) {k : Nat} (hk : k < n) :
    (∃ u, w.cell? ⟨g, k * 3, none⟩ = some u) ∧ (∃ u, w.cell? ⟨g, k * 3 + 1, none⟩ = some u) ∧ (∃ u, w.cell? ⟨g, k * 3 + 2, none⟩ = some u) ∧ w.frozen? ⟨g, k * 3, none⟩ = false ∧ w.frozen? ⟨g, k * 3 + 1, none⟩ = false ∧ w.frozen? ⟨g, k * 3 + 2, none⟩ = false := by
  have hx : xs.length = n * 3 := h.1
  rcases row_src h with ⟨h1, h2, _⟩ | ⟨g', cap, hv, hg, hcap, hl, hc⟩
  · omega
  · simp only [Value.slice.injEq, Option.some.injEq, Addr.mk.injEq, and_true, true_and] at hv
    obtain ⟨rfl, rfl⟩ := hv
    have key : ∀ j, j < n * 3 → ∃ u, w.cell? ⟨g, j, none⟩ = some u := fun j hj => by
      have := hc j _ (List.getElem?_eq_getElem (by omega))
      rw [add_none, Nat.zero_add] at this; exact ⟨_, this⟩
    exact ⟨key _ (by omega), key _ (by omega), key _ (by omega), V.frozen_row h _, V.frozen_row h _, V.frozen_row h _⟩
theorem lz_map_snoc (f : Lz → Lz) (l : List Lz) (k : Nat) (x : Lz) (h : l[k]? = some x) : lzsV ((l.take (k + 1)).map f) = lzsV ((l.take k).map f) ++ lzC (f x) := by
  have hk := (List.getElem?_eq_some_iff.1 h)
  obtain ⟨h1, h2⟩ := hk
  rw [List.take_succ_eq_append_getElem h1, h2, List.map_append]
  exact lzsV_snoc _ _
/-- What the loop of Bind keeps: the row that is filled. -/
def BD (l : List Lz) (f : Lz → Lz) (g : Nat) (w3 wr : World) (n k : Nat) : Prop := ∃ xs, wr.ownsRow g 43 3 (.slice (some ⟨g, 0, none⟩) n n) n xs ∧ xs.take (k * 3) = lzsV ((l.take k).map f) ∧ Below g w3 wr
theorem owns_base {w : World} {base base' n k : Nat} {v : Value} {e : TypeId} {xs : List Value} (h : w.ownsRow base e k v n xs) (hb : base' ≤ base) : w.ownsRow base' e k v n xs := by
  refine ⟨h.1, ?_⟩
  rcases h.2 with h0 | ⟨g, cap, cur, hv, hg, rest⟩
  · exact .inl h0
  · exact .inr ⟨g, cap, cur, hv, by omega, rest⟩
set_option maxRecDepth 20000 in
set_option maxHeartbeats 1600000 in
theorem bind_any (v : Value) (l : List Lz) (name value : ByteArray) (w : World) (hm : Mx w) (hl : l.length ≤ 1000000) (hn : name.size ≤ 900000) (hv : value.size ≤ 400000) (hz : ∀ x ∈ l, x.text.size ≤ 1000000 ∧ (2 * value.size + 1) * x.text.size ≤ 500000000) (hW : LZ w.heap.size w v l) :
    Calls Tryd.prog 15 #[v, .string name, .string value] w fun e w' => ∃ v', e = .returned v' ∧ w'.ownsRow w.heap.size 43 3 v' l.length (lzsV (l.map (bindZ name value))) ∧ Below w.heap.size w w' := by
  obtain ⟨i0, hi, hz0, hz1, hz2⟩ := info_of infoL
  obtain ⟨a, c, rfl, hc⟩ := hW.slice
  obtain ⟨n, hnn⟩ : ∃ n, n = l.length := ⟨_, rfl⟩
  rw [← hnn] at hl hc hW
  obtain ⟨f, hf⟩ : ∃ f, f = bindZ name value := ⟨_, rfl⟩
  obtain ⟨q, hq⟩ : ∃ q, q = ba (quoteD (bl value)) := ⟨_, rfl⟩
  obtain ⟨U, hU⟩ : ∃ U, U = usesB name := ⟨_, rfl⟩
  have HNB : Hid (Calls Tryd.prog 23 #[.string name, .string value] w fun e w' => ∃ vU, e = .returned (.agg #[vU, .string q]) ∧ Words w'.heap.size w' vU U ∧ Below w.heap.size w w') := by
    rw [hq, hU]; exact newB_any name value w hm hn (by omega)
  have hqs : q.size ≤ 2 * value.size := by
    have := quoteD_len (bl value)
    rw [bl_length] at this
    rw [hq, ba_size]; exact this
  have hUl : U.length ≤ 1000 := by rw [hU]; have := usesB_len name; omega
  have HTX : Hid (∀ (x : Lz) (vU : Value) (W : World), x ∈ l → Words W.heap.size W vU U → Calls Tryd.prog 24 #[.agg #[vU, .string q], .string x.text] W fun e w' => e = .returned (.string (f x).text) ∧ Below W.heap.size W w') := fun x vU W hx hWd => by
    have hx2 := hz x hx
    have h9 : (q.size + 1) * x.text.size ≤ (2 * value.size + 1) * x.text.size := Nat.mul_le_mul_right _ (by omega)
    have := text_any vU U q x.text W hWd hUl hx2.1 (by omega) (by omega)
    rw [hf]
    unfold bindZ
    rw [← hU]
    have e : bl q = quoteD (bl value) := by rw [hq, bl_ba]
    rw [e] at this
    exact this
  have HW : Hid (n = l.length ∧ LZ w.heap.size w (.slice a n c) l ∧ ∀ x, (f x).at_ = x.at_ ∧ (f x).cmd = x.cmd) := ⟨hnn, hW, fun x => by rw [hf]; exact ⟨rfl, rfl⟩⟩
  rw [← hnn, ← hf]
  clear hnn hW hf hq hU hz hqs hUl hm
  go_enter Tryd.func15, Tryd.ntmps15
  go_wp2_with fail
  refine HNB.out.mono ?_
  rintro e w2 ⟨vU, rfl, hwd, hb2⟩
  have hsv : IsS vU := by obtain ⟨a, n, c, hv, _⟩ := hwd; exact ⟨a, n, c, hv⟩
  obtain ⟨ua, un, uc, rfl⟩ := hsv
  obtain ⟨w3, hw3⟩ : ∃ w3, w3 = w2.alloc (.cells #[.slice ua un uc, .string q] 70) := ⟨_, rfl⟩
  have z3 : w3.heap[w2.heap.size]? = some (.cells #[.slice ua un uc, .string q] 70 (0, 0)) := by rw [hw3]; exact alloc_last _ _
  have h23 : Below w2.heap.size w2 w3 := by rw [hw3]; exact (Below.refl _ _).alloc (Nat.le_refl _) _
  have H3 : Hid (w3.heap[w2.heap.size]? = some (.cells #[.slice ua un uc, .string q] 70 (0, 0)) ∧ Words w3.heap.size w3 (.slice ua un uc) U ∧ Below w.heap.size w w3) := ⟨z3, (hwd.below h23).mono h23.size, hb2.trans (h23.mono hb2.size)⟩
  clear z3 h23 hwd hb2
  have hs3 : w3.heap.size = w2.heap.size + 1 := by rw [hw3]; simp
  go_wp2_with (first | (at_make; refine wpList_make_full _ rfl _ _ 31 rfl w3.heap.size 43 i0 (.agg #[.string ⟨#[]⟩, .int .i64 0, .bool false]) 3 Tryd.underlying31 hi hz0 hz1 .i64 .i64 (n : Int) (n : Int) n rfl rfl rfl rfl ?m1 ?m2 ?m3 ?_) | fail)
  case m1 => rw [hz2]; omega
  case m2 => unfold maxLen; omega
  case m3 => rw [hw3]; exact Nat.le_refl _
  intro w4 hown hgrow
  have HB0 : Hid (BD l f (w2.heap.size + 1) w3 w4 n 0) := by
    refine ⟨_, hown, by simp [lzsV], ?_⟩
    rw [← hw3] at hgrow
    rw [← hs3]
    exact (Below.refl _ _).grown hgrow (Nat.le_refl _) (fun k hk => by cases hk)
  obtain ⟨gr, hgr⟩ : ∃ gr, gr = w2.heap.size + 1 := ⟨_, rfl⟩
  have hs3' : Hid (w3.heap.size = gr) := by unfold Hid; rw [hgr]; exact hs3
  rw [← hgr] at HB0 ⊢
  have hgl : Hid (w2.heap.size < gr) := by unfold Hid; omega
  clear hown hgrow hw3 hs3 hgr
  go_wp2_with fail
  go_loopw [19] (fun vi wr => ∃ k : Nat, k ≤ n ∧ vi = .int .i64 (k : Int) ∧ Hid (BD l f gr w3 wr n k)) (fun vi _ => n - (intOf vi).toNat)
  case atStart => exact ⟨0, Nat.zero_le _, rfl, HB0⟩
  case round =>
    obtain ⟨k, hk, rfl, HI⟩ := hrel
    by_cases hlt : k < n
    · have hil : (k : Int) < (n : Int) := by omega
      have hkl : k < l.length := by rw [← HW.out.1]; exact hlt
      obtain ⟨x, hx⟩ : ∃ x, l[k]? = some x := ⟨_, List.getElem?_eq_getElem hkl⟩
      obtain ⟨bb, oo, rfl, hbB, d0, d1, d2⟩ := HW.out.2.1.pick hx
      obtain ⟨xs, hown, htk, hbw⟩ := HI.out
      have hw3s : w.heap.size ≤ w3.heap.size := H3.out.2.2.size
      have hgs := hs3'.out
      have hwr : Below w.heap.size w wr := H3.out.2.2.trans (hbw.mono (by omega))
      have c0 := (hwr.cell (p := ⟨bb, oo + k * 3, none⟩) hbB).trans d0
      have c1 := (hwr.cell (p := ⟨bb, oo + k * 3 + 1, none⟩) hbB).trans d1
      have c2 := (hwr.cell (p := ⟨bb, oo + k * 3 + 2, none⟩) hbB).trans d2
      have HTx := fun W h => HTX.out x (.slice ua un uc) W (List.mem_of_getElem? hx) h
      obtain ⟨y, hy⟩ : ∃ y, y = (f x).text := ⟨_, rfl⟩
      rw [← hy] at HTx
      have HSN : Hid (lzsV ((l.take (k + 1)).map f) = lzsV ((l.take k).map f) ++ [.string y, .int .i64 x.at_, .bool x.cmd]) := by
        unfold Hid
        rw [lz_map_snoc f l k x hx]
        unfold lzC
        rw [hy, (HW.out.2.2 x).1, (HW.out.2.2 x).2]
      have hgl2 : gr < wr.heap.size := (hown.lt gr rfl).2
      obtain ⟨w5, hw5⟩ : ∃ w5, w5 = wr.alloc (.cells #[.string x.text, .int .i64 x.at_, .bool x.cmd] 43) := ⟨_, rfl⟩
      have z5 : w5.heap[wr.heap.size]? = some (.cells #[.string x.text, .int .i64 x.at_, .bool x.cmd] 43 (0, 0)) := by rw [hw5]; exact alloc_last _ _
      have h35 : Below gr w3 w5 := by rw [hw5]; exact hbw.alloc (by omega) _
      have hown5 : w5.ownsRow gr 43 3 (.slice (some ⟨gr, 0, none⟩) n n) n xs := by rw [hw5]; exact hown.alloc _
      have hwds : Words w5.heap.size w5 (.slice ua un uc) U := by
        have h1 : Words gr w3 (.slice ua un uc) U := by rw [← hgs]; exact H3.out.2.1
        exact (h1.below h35).mono (by have := h35.size; omega)
      have zb : w5.heap[w2.heap.size]? = some (.cells #[.slice ua un uc, .string q] 70 (0, 0)) := (h35.block _ hgl.out).trans H3.out.1
      have e0 := cell_in z5 0 rfl
      have e1 := cell_in z5 1 rfl
      have e2 := cell_in z5 2 rfl
      have HTx : Hid (Calls Tryd.prog 24 #[.agg #[.slice ua un uc, .string q], .string x.text] w5 fun e w' => e = .returned (.string y) ∧ Below w5.heap.size w5 w') := HTx w5 hwds
      have zw : wr.heap[w2.heap.size]? = some (.cells #[.slice ua un uc, .string q] 70 (0, 0)) := (hbw.block _ hgl.out).trans H3.out.1
      have u0 := cell_in zw 0 rfl
      have u1 := cell_in zw 1 rfl
      have hlw : w2.heap.size < wr.heap.size := by have := hgl.out; omega
      have H5 : Hid (∀ W, Below w5.heap.size w5 W → W.heap[wr.heap.size]? = some (.cells #[.string x.text, .int .i64 x.at_, .bool x.cmd] 43 (0, 0)) ∧ W.ownsRow gr 43 3 (.slice (some ⟨gr, 0, none⟩) n n) n xs ∧ Below gr w3 W) := fun W hW => ⟨(hW.block _ (Array.getElem?_eq_some_iff.1 z5).1).trans z5, owns_below hown5 hW, h35.trans (hW.mono (by have := h35.size; omega))⟩
      have HXS : Hid (xs.length = n * 3 ∧ xs.take (k * 3) = lzsV ((l.take k).map f)) := ⟨hown.1, htk⟩
      clear d0 d1 d2 hwr hx hy hown htk hbw hown5 hwds zb z5 h35 HI hgs hw3s hbB zw
      obtain ⟨xt, xa, xc⟩ := x
      simp only at c0 c1 c2 HTx e0 e1 e2 H5 HSN hw5
      go_wp2_with fail
      rw [← hw5]
      clear hw5 c0 c1 c2
      refine HTx.out.mono ?_
      rintro e w6 ⟨rfl, h6⟩
      obtain ⟨z6, hown6, hb6⟩ := H5.out w6 h6
      have f0 := cell_in z6 0 rfl
      have f3 : w6.frozen? ⟨wr.heap.size, 0, none⟩ = false := by simp [World.frozen?, z6]
      obtain ⟨w7, hw7⟩ : ∃ w7, w7 = w6.setCell ⟨wr.heap.size, 0, none⟩ (.string y) := ⟨_, rfl⟩
      have z7 : w7.heap[wr.heap.size]? = some (.cells #[.string y, .int .i64 xa, .bool xc] 43 (0, 0)) := by rw [hw7]; exact heap_set z6 _
      have hown7 : w7.ownsRow gr 43 3 (.slice (some ⟨gr, 0, none⟩) n n) n xs := by rw [hw7]; exact row_set hown6 (fun e => by have : gr = wr.heap.size := (by simpa [Value.ownBlock] using e); omega) _
      obtain ⟨⟨m0, p0⟩, ⟨m1, p1⟩, ⟨m2, p2⟩, r0, r1, r2⟩ := row3 hown6 hlt
      have f1 := cell_in z6 1 rfl
      have f2 := cell_in z6 2 rfl
      have hne1 : gr ≠ wr.heap.size := by omega
      have hne2 : wr.heap.size ≠ gr := by omega
      have hb7 : Below gr w3 w7 := by rw [hw7]; exact hb6.setCell (p := ⟨wr.heap.size, 0, none⟩) (by show gr ≤ wr.heap.size; omega) _
      clear h6 z6 hown6 hb6 H5 HTx e0 e1 e2 u0 u1
      have HR : Hid (BD l f gr w3 (((w7.setCell ⟨gr, k * 3, none⟩ (.string y)).setCell ⟨gr, k * 3 + 1, none⟩ (.int .i64 xa)).setCell ⟨gr, k * 3 + 2, none⟩ (.bool xc)) n (k + 1)) := by
        refine ⟨_, V.owns_put (V.owns_put (V.owns_put hown7 _) _) _, ?_, ((hb7.setCell (p := ⟨gr, k * 3, none⟩) (Nat.le_refl _) _).setCell (p := ⟨gr, k * 3 + 1, none⟩) (Nat.le_refl _) _).setCell (p := ⟨gr, k * 3 + 2, none⟩) (Nat.le_refl _) _⟩
        rw [take_set3 HXS.out.1 hlt HXS.out.2, HSN.out]
      rw [hw7] at HR
      clear hown7 hb7 z7 hw7
      go_wp2
      go_roundw
      case rel => exact ⟨k + 1, by omega, by go_num, HR⟩
      case measure => simp [intOf]; omega
    · have hil : ¬ (k : Int) < (n : Int) := by omega
      have hkn : k = n := by omega
      have HF : Hid (wr.ownsRow w.heap.size 43 3 (.slice (some ⟨gr, 0, none⟩) n n) n (lzsV (l.map f)) ∧ Below w.heap.size w wr) := by
        obtain ⟨xs, hown, htk, hbw⟩ := HI.out
        have h1 := H3.out.2.2.size
        have h2 := hs3'.out
        refine ⟨?_, H3.out.2.2.trans (hbw.mono (by omega))⟩
        have hx : xs = lzsV (l.map f) := by
          have h3 : xs.length = n * 3 := hown.1
          rw [hkn, List.take_of_length_le (by omega), List.take_of_length_le (by rw [← HW.out.1]; exact Nat.le_refl _)] at htk
          exact htk
        rw [hx] at hown
        exact owns_base hown (by omega)
      clear HI
      go_wp2
      go_ret
      exact ⟨_, rfl, HF.out.1, HF.out.2⟩
end Go.Proofs.YtbciedpjaajhcaaDoor

/-
  What alive answers.
-/
namespace Go.Proofs.YtbciedpjaajhcaaDoor
open Go.RowKit Go.Shelf
open Ex (useN Fr)

abbrev t1 : ByteArray := ⟨#[46, 102, 111, 114, 32, 105, 32, 105, 110, 32, 97, 32, 98]⟩
abbrev t2 : ByteArray := ⟨#[36, 105, 46, 111, 58, 32, 36, 105, 46, 99]⟩
abbrev t3 : ByteArray := ⟨#[46, 101, 110, 100, 102, 111, 114]⟩
def aliveZ : List Lz := [⟨t1, 1, false⟩, ⟨t2, 2, false⟩, ⟨t3, 3, false⟩]
theorem alive_build : buildL aliveZ = .good [.fr ⟨t1, 1, false⟩ [⟨#[105]⟩] ⟨#[97, 32, 98]⟩ [.pl ⟨t2, 2, false⟩]] := by kernel_rfl
theorem alive_bind : bindZ ⟨#[105]⟩ ⟨#[97]⟩ ⟨t2, 2, false⟩ = ⟨⟨#[97, 46, 111, 58, 32, 97, 46, 99]⟩, 2, false⟩ := by kernel_rfl
theorem neq00 (W : World) : Sem.run Tryd.prog (binOp .neq 28 (.agg #[.int .i64 0, .int .i64 0]) (.agg #[.int .i64 0, .int .i64 0])) W = .ok (.bool false) W := by kernel_rfl
/-- A row of one. -/
theorem row_one {H : Nat → Prop} {w : World} {r : Nat} {v : Value} {t : Nd} (h : NdsAt H w r v [t]) : ∃ g c cs, v = .slice (some ⟨g, 0, none⟩) 1 c ∧ 1 ≤ c ∧ g < w.heap.size ∧ NdAt H w r cs t ∧ ∀ j u, cs[j]? = some u → w.cell? ⟨g, j, none⟩ = some u := by
  obtain ⟨css, h1, h2⟩ := h
  cases h2 with
  | cons h3 h4 =>
    cases h4
    rcases h1 with ⟨_, h⟩ | ⟨g, c, hv, hc, hgl, _, hcell⟩
    · cases h
    · refine ⟨g, c, _, hv, hc, hgl, h3, fun j u hj => ?_⟩
      have := (hcell 0 _ rfl).2 j u hj
      rw [Nat.zero_mul, Nat.zero_add] at this; exact this
set_option maxRecDepth 20000 in
set_option maxHeartbeats 1600000 in
theorem alive_any (w : World) (hm : Mx w) : Calls Tryd.prog 6 #[] w fun e w' => e = .returned (.bool true) ∧ Below w.heap.size w w' := by
  obtain ⟨w1, hw1⟩ : ∃ w1, w1 = w.alloc (.cells #[.string t1, .int .i64 1, .bool false, .string t2, .int .i64 2, .bool false, .string t3, .int .i64 3, .bool false] 43) := ⟨_, rfl⟩
  have hb1 : Below w.heap.size w w1 := by rw [hw1]; exact (Below.refl _ _).alloc (Nat.le_refl _) _
  have hs1 : w.heap.size < w1.heap.size := by rw [hw1]; simp
  have z1 : w1.heap[w.heap.size]? = some (.cells #[.string t1, .int .i64 1, .bool false, .string t2, .int .i64 2, .bool false, .string t3, .int .i64 3, .bool false] 43 (0, 0)) := by rw [hw1]; exact alloc_last _ _
  have HB : Hid (Calls Tryd.prog 7 #[.slice (some ⟨w.heap.size, 0, none⟩) 3 3] w1 (BuildPost aliveZ w1)) := by
    refine build_any _ aliveZ w1 (by decide) (fun x hx => ?_) ⟨some ⟨w.heap.size, 0, none⟩, 3, 3, rfl, rfl, by decide, fun i x hi => ⟨w.heap.size, 0, rfl, hs1, ?_⟩⟩
    · simp only [aliveZ, List.mem_cons, List.not_mem_nil, or_false] at hx
      rcases hx with rfl | rfl | rfl <;> decide
    · match i, hi with
      | 0, hi => cases hi; exact ⟨cell_in z1 0 rfl, cell_in z1 1 rfl, cell_in z1 2 rfl⟩
      | 1, hi => cases hi; exact ⟨cell_in z1 3 rfl, cell_in z1 4 rfl, cell_in z1 5 rfl⟩
      | 2, hi => cases hi; exact ⟨cell_in z1 6 rfl, cell_in z1 7 rfl, cell_in z1 8 rfl⟩
      | i + 3, hi => simp [aliveZ] at hi
  have HBI : Hid (∀ W, Below w1.heap.size w1 W → Calls Tryd.prog 15 #[.slice (some ⟨w.heap.size, 3, none⟩) 1 2, .string ⟨#[105]⟩, .string ⟨#[97]⟩] W fun e w' => ∃ g c, e = .returned (.slice (some ⟨g, 0, none⟩) 1 c) ∧ w'.cell? ⟨g, 0, none⟩ = some (.string ⟨#[97, 46, 111, 58, 32, 97, 46, 99]⟩) ∧ Below w.heap.size w w') := fun W hW => by
    have hbW : Below w.heap.size w W := hb1.trans (hW.mono hb1.size)
    have zW := (hW.block _ hs1).trans z1
    have hlz : LZ W.heap.size W (.slice (some ⟨w.heap.size, 3, none⟩) 1 2) [⟨t2, 2, false⟩] := ⟨_, 1, 2, rfl, rfl, by decide, fun i x hi => ⟨w.heap.size, 3, rfl, (Array.getElem?_eq_some_iff.1 zW).1, by
      match i, hi with
      | 0, hi => cases hi; exact ⟨cell_in zW 3 rfl, cell_in zW 4 rfl, cell_in zW 5 rfl⟩
      | i + 1, hi => simp at hi⟩⟩
    refine (bind_any _ [⟨t2, 2, false⟩] ⟨#[105]⟩ ⟨#[97]⟩ W (hm.below hbW hm.pos) (by decide) (by decide) (by decide) (fun x hx => ?_) hlz).mono fun e w' ⟨v', h1, h2, h3⟩ => ?_
    · simp only [List.mem_cons, List.not_mem_nil, or_false] at hx
      subst hx; decide
    · obtain ⟨g, c, cur, hv, _, _, hcur, hi⟩ := row_arr (n := 0) h2
      refine ⟨g, c, by rw [h1, hv], cell_in hcur 0 (hi 0 _ ?_), hbW.trans (h3.mono hbW.size)⟩
      show (lzsV [bindZ ⟨#[105]⟩ ⟨#[97]⟩ ⟨t2, 2, false⟩])[0]? = _
      rw [alive_bind]; rfl
  have HE := neq00
  have HB1 : Hid (Below w.heap.size w w1 ∧ w.heap.size < w1.heap.size) := ⟨hb1, hs1⟩
  clear hm hb1 hs1 z1
  go_enter Tryd.func6, Tryd.ntmps6
  go_wp2_with fail
  rw [← hw1]
  clear hw1
  refine HB.out.mono ?_
  intro e w2 h2
  unfold BuildPost at h2
  rw [alive_build] at h2
  obtain ⟨v, rfl, h2, h3⟩ := h2
  obtain ⟨g, c, cs, rfl, hc, hgl, hnd, hcell⟩ := row_one h2
  obtain ⟨vN, vK, rfl, hN, hK⟩ := nd_fr (r := 31) hnd
  obtain ⟨g2, c2, cs2, rfl, hc2, _, _, _⟩ := row_one hK
  have c0 : w2.cell? ⟨g, 0, none⟩ = some (.int .i64 3) := hcell 0 _ rfl
  have c6 : w2.cell? ⟨g, 6, none⟩ = some (.string ⟨#[97, 32, 98]⟩) := hcell 6 _ rfl
  have c7 : w2.cell? ⟨g, 7, none⟩ = some (.slice (some ⟨g2, 0, none⟩) 1 c2) := hcell 7 _ rfl
  have HB3 : Hid (Below w1.heap.size w1 (w2.alloc (.cells #[.int .i64 0, .int .i64 0] 28))) := h3.alloc h3.size _
  clear h2 h3 hnd hcell hN hK
  go_wp2_with fail
  refine (HBI.out _ HB3.out).mono ?_
  rintro e w3 ⟨g3, c3, rfl, h3, h4⟩
  have H4 : Hid (Below w.heap.size w w3) := h4
  clear h4
  go_wp2
  go_ret
  exact ⟨rfl, H4.out⟩
end Go.Proofs.YtbciedpjaajhcaaDoor
