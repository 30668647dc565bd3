/-
  A quoted value; the uses of a name; a text with a value in place of a name.
-/
import Derived.Test.YtgbleikjdecikaaDoorY6
import Derived.Test.YtgbleikjdecikaaDoorBD
namespace Go.Proofs.YtgbleikjdecikaaDoor
open Go.RowKit Go.Shelf
open Ex (useN)

def escD (c : UInt8) : List UInt8 := if c = 36 then [36, 36] else [c]
def quoteD (l : List UInt8) : List UInt8 := l.flatMap escD
theorem index_cons (c : UInt8) (t : List UInt8) : Lib.index (c :: t) [36] = if c = 36 then 0 else if Lib.index t [36] = -1 then -1 else Lib.index t [36] + 1 := by
  conv => lhs; unfold Lib.index
  by_cases h : c = 36
  · subst h; simp
  · have : (36 == c) = false := by simpa using fun e => h e.symm
    simp [List.isPrefixOf, this, h]
theorem repl_all (s : List UInt8) : Lib.replaceK [36] [36, 36] (Lib.count s [36]) s = s.flatMap escD := by
  induction s with
  | nil => rfl
  | cons c t ih =>
    have hi := index_cons c t
    by_cases hc : c = 36
    · rw [if_pos hc] at hi
      rw [Lib.count_hit (i := 0) (by simp) hi, Nat.add_comm, Lib.replaceK_hit _ _ _ _ 0 hi]
      simp only [List.length_singleton, Nat.zero_add, List.drop_succ_cons, List.drop_zero, List.take_zero, List.nil_append]
      rw [ih, List.flatMap_cons, hc]; rfl
    · rw [if_neg hc] at hi
      have he : escD c = [c] := by unfold escD; rw [if_neg hc]
      rw [List.flatMap_cons, he]
      rcases Lib.index_spec t [36] with ⟨h1, _⟩ | ⟨i, h1, _⟩
      · rw [h1, if_pos rfl] at hi
        rw [Lib.count_miss hi]
        rw [Lib.count_miss h1] at ih
        rw [← ih]; rfl
      · have hi' : Lib.index (c :: t) [36] = ((i + 1 : Nat) : Int) := by rw [hi, if_neg (by omega), h1]; rfl
        have e1 := Lib.count_hit (s := c :: t) (by simp) hi'
        have e2 := Lib.count_hit (s := t) (by simp) h1
        have e3 : (c :: t).drop (i + 1 + ([36] : List UInt8).length) = t.drop (i + ([36] : List UInt8).length) := by simp [List.drop_succ_cons]
        rw [e3] at e1
        rw [e1, Nat.add_comm, Lib.replaceK_hit _ _ _ _ _ hi', e3]
        rw [e2, Nat.add_comm, Lib.replaceK_hit _ _ _ _ _ h1] at ih
        rw [← ih]; simp

theorem quoteD_cons (c : UInt8) (r : List UInt8) : quoteD (c :: r) = if c = 36 then 36 :: 36 :: quoteD r else c :: quoteD r := by
  unfold quoteD; rw [List.flatMap_cons]; unfold escD; split <;> rfl
theorem quoteD_len (l : List UInt8) : (quoteD l).length ≤ 2 * l.length := by
  induction l with
  | nil => simp [quoteD]
  | cons c r ih => rw [quoteD_cons]; split <;> simp <;> omega
set_option maxRecDepth 20000 in
set_option maxHeartbeats 400000 in
theorem quote_any (s : ByteArray) (w : World) (hmx : Mx w) (hs : s.size ≤ 1000000) : Calls Tryd.prog 37 #[.string s] w fun e w' => e = .returned (.string (ba (quoteD (bl s)))) ∧ Below w.heap.size w w' := by
  obtain ⟨m, hm⟩ := hmx
  have HR : Hid (Calls Tryd.prog 55 #[.string s, .string ⟨#[36]⟩, .string ⟨#[36, 36]⟩] w fun e w' => e = .returned (.string (ba (quoteD (bl s)))) ∧ Below w.heap.size w w') := by
    have hcb := Lib.countB_le ⟨#[36]⟩ (by decide) s.size s (Nat.le_refl _)
    refine (Tryd.strings_ReplaceAll s ⟨#[36]⟩ ⟨#[36, 36]⟩ m w (by omega) hm (by decide) (by show s.size + Lib.countB s ⟨#[36]⟩ * 2 ≤ _; omega)).mono ?_
    rintro e w' ⟨he, hb⟩
    have e1 : Lib.replaceAll s.data.toList (⟨#[36]⟩ : ByteArray).data.toList (⟨#[36, 36]⟩ : ByteArray).data.toList = quoteD (bl s) := repl_all (bl s)
    rw [e1] at he
    exact ⟨he, hb⟩
  clear hm
  go_enter Tryd.func37, Tryd.ntmps37
  go_wp2_with fail
  refine HR.out.mono ?_
  rintro e w' ⟨rfl, hb⟩
  go_wp2
  go_ret
  exact ⟨rfl, hb⟩

theorem quoteD_plain {l : List UInt8} (h : ∀ c ∈ l, c ≠ 36) : quoteD l = l := by
  induction l with
  | nil => rfl
  | cons c r ih => rw [quoteD_cons, if_neg (h c (by simp)), ih (fun x hx => h x (by simp [hx]))]
/-- A use, if the text is one as a whole. -/
def takeU (c : ByteArray) (U : List ByteArray) : List ByteArray := if useN (bl c) = c.size then U ++ [c] else U
def useA (name : ByteArray) : ByteArray := ⟨#[36, 123]⟩ ++ name ++ ⟨#[125]⟩
def useB (name : ByteArray) : ByteArray := ⟨#[36, 40]⟩ ++ name ++ ⟨#[41]⟩
def useC (name : ByteArray) : ByteArray := ⟨#[36]⟩ ++ name
abbrev kDol : ByteArray := ⟨#[36]⟩
def usesB (name : ByteArray) : List ByteArray :=
  if name.size = 1 ∧ ¬ name = kDol then takeU (useC name) (takeU (useB name) (takeU (useA name) [])) else takeU (useB name) (takeU (useA name) [])
def startN : List ByteArray → List UInt8 → Nat
  | [], _ => 0
  | u :: U, s => if (bl u).isPrefixOf s then u.size else startN U s
def bindG (U : List ByteArray) (val : List UInt8) : Nat → List UInt8 → List UInt8
  | 0, _ => []
  | _ + 1, [] => []
  | k + 1, c :: t => if c = 36 then (if 0 < startN U (c :: t) then val ++ bindG U val k ((c :: t).drop (startN U (c :: t))) else (c :: t).take 2 ++ bindG U val k ((c :: t).drop 2)) else c :: bindG U val k t
def bindL (U : List ByteArray) (val s : List UInt8) : List UInt8 := bindG U val s.length s
section
variable {U : List ByteArray} {val : List UInt8}
theorem bindG_fuel : ∀ (n m : Nat) (s : List UInt8), s.length ≤ n → s.length ≤ m → bindG U val n s = bindG U val m s
  | 0, 0, _, _, _ => rfl
  | 0, m + 1, s, h, _ => by obtain rfl := List.length_eq_zero_iff.1 (Nat.le_zero.1 h); rfl
  | n + 1, 0, s, _, h => by obtain rfl := List.length_eq_zero_iff.1 (Nat.le_zero.1 h); rfl
  | n + 1, m + 1, [], _, _ => rfl
  | n + 1, m + 1, c :: t, h1, h2 => by
    rw [List.length_cons] at h1 h2
    rw [bindG, bindG]
    split
    · split
      · rename_i h3 h4
        rw [bindG_fuel n m _ (by rw [List.length_drop, List.length_cons]; omega) (by rw [List.length_drop, List.length_cons]; omega)]
      · rw [bindG_fuel n m _ (by rw [List.length_drop, List.length_cons]; omega) (by rw [List.length_drop, List.length_cons]; omega)]
    · rw [bindG_fuel n m t (by omega) (by omega)]
theorem bindL_nil : bindL U val [] = [] := rfl
theorem bindL_other {c : UInt8} (t : List UInt8) (h : ¬ c = 36) : bindL U val (c :: t) = c :: bindL U val t := by
  unfold bindL; rw [List.length_cons, bindG, if_neg h]
theorem bindL_hit {s : List UInt8} (h : s.head? = some 36) (hn : 0 < startN U s) : bindL U val s = val ++ bindL U val (s.drop (startN U s)) := by
  cases s with
  | nil => cases h
  | cons c t =>
    simp at h; subst h
    unfold bindL
    rw [List.length_cons, bindG, if_pos rfl, if_pos hn]
    rw [bindG_fuel t.length _ _ (by rw [List.length_drop, List.length_cons]; omega) (Nat.le_refl _)]
theorem bindL_miss {s : List UInt8} (h : s.head? = some 36) (hn : ¬ 0 < startN U s) : bindL U val s = s.take 2 ++ bindL U val (s.drop 2) := by
  cases s with
  | nil => cases h
  | cons c t =>
    simp at h; subst h
    unfold bindL
    rw [List.length_cons, bindG, if_pos rfl, if_neg hn]
    rw [bindG_fuel t.length _ _ (by rw [List.length_drop, List.length_cons]; omega) (Nat.le_refl _)]
theorem bindL_skip : ∀ (k : Nat) (s : List UInt8), k ≤ s.length → (∀ j, j < k → s[j]? ≠ some 36) → bindL U val s = s.take k ++ bindL U val (s.drop k)
  | 0, s, _, _ => by simp
  | k + 1, [], h, _ => by simp at h
  | k + 1, c :: t, h, hj => by
    rw [bindL_other t (by have := hj 0 (by omega); simpa using this), bindL_skip k t (by simpa using h) (fun j hk => by have := hj (j + 1) (by omega); simpa using this)]; simp
theorem bindL_len : ∀ (n : Nat) (s : List UInt8), s.length ≤ n → (bindL U val s).length ≤ (val.length + 1) * s.length
  | n, [], _ => by simp [bindL_nil]
  | 0, c :: t, h => by simp at h
  | n + 1, c :: t, h => by
    rw [List.length_cons] at h
    have hm : (val.length + 1) * (t.length + 1) = (val.length + 1) * t.length + (val.length + 1) := Nat.mul_succ _ _
    by_cases hc : c = 36
    · subst hc
      by_cases hs : 0 < startN U (36 :: t)
      · rw [bindL_hit rfl hs, List.length_append, List.length_cons, hm]
        have h1 := bindL_len n ((36 :: t).drop (startN U (36 :: t))) (by rw [List.length_drop, List.length_cons]; omega)
        have h2 : ((36 :: t).drop (startN U (36 :: t))).length ≤ t.length := by rw [List.length_drop, List.length_cons]; omega
        have h3 := Nat.mul_le_mul_left (val.length + 1) h2
        omega
      · rw [bindL_miss rfl hs, List.length_append, List.length_cons, hm]
        have h1 := bindL_len n ((36 :: t).drop 2) (by rw [List.length_drop, List.length_cons]; omega)
        cases t with
        | nil => simp [bindL_nil]
        | cons d t =>
          simp only [List.take_succ_cons, List.take_zero, List.drop_succ_cons, List.drop_zero, List.length_cons, List.length_nil] at h1 ⊢
          have hm2 : (val.length + 1) * (t.length + 1) = (val.length + 1) * t.length + (val.length + 1) := Nat.mul_succ _ _
          omega
    · rw [bindL_other t hc, List.length_cons, List.length_cons, hm]
      have := bindL_len n t (by omega)
      omega
end
end Go.Proofs.YtgbleikjdecikaaDoor
