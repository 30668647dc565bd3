/-
  Plain mathematics of numbers in texts: what a text's number is, and what its digits are; nothing of any program.
-/
import Derived.Lib.ItoaNum
import Derived.Lib.SlTrimSet
import Derived.Lib.Small
import Derived.Lib.Bytealg
namespace Go.Proofs.YtkelmhpoplbacaaGreatDoor
namespace N

/-- A digit's value; 99: it is none. -/
def val1 (c : UInt8) : Nat :=
  if 48 ≤ c.toNat ∧ c.toNat ≤ 57 then c.toNat - 48 else if 97 ≤ c.toNat ∧ c.toNat ≤ 102 then c.toNat - 87 else if 65 ≤ c.toNat ∧ c.toNat ≤ 70 then c.toNat - 55 else 99

def numV (b : Nat) (a : Nat) (l : List UInt8) : Nat := l.foldl (fun n c => n * b + val1 c) a

theorem numV_nil (b a : Nat) : numV b a [] = a := rfl
theorem numV_cons (b a : Nat) (c : UInt8) (l : List UInt8) : numV b a (c :: l) = numV b (a * b + val1 c) l := rfl
theorem numV_app (b a : Nat) (l k : List UInt8) : numV b a (l ++ k) = numV b (numV b a l) k := by
  unfold numV; rw [List.foldl_append]
theorem numV_ge (b : Nat) (hb : 1 ≤ b) : ∀ (l : List UInt8) (a : Nat), a ≤ numV b a l
  | [], a => Nat.le_refl _
  | c :: l, a => by
    rw [numV_cons]
    refine Nat.le_trans ?_ (numV_ge b hb l _)
    have : a * 1 ≤ a * b := Nat.mul_le_mul_left a hb
    omega
theorem numV_mono (b : Nat) : ∀ (l : List UInt8) (a a' : Nat), a ≤ a' → numV b a l ≤ numV b a' l
  | [], a, a', h => h
  | c :: l, a, a', h => by
    rw [numV_cons, numV_cons]
    exact numV_mono b l _ _ (by have := Nat.mul_le_mul_right b h; omega)

def signL (l : List UInt8) : List UInt8 × Bool :=
  match l with
  | [] => ([], false)
  | c :: t => if c = 45 then (t, true) else if c = 43 then (t, false) else (c :: t, false)

def hexL (l : List UInt8) : Bool :=
  match l with
  | a :: c :: _ => a == 48 && (c == 120 || c == 88)
  | _ => false

def baseL (l : List UInt8) : List UInt8 × Nat := if hexL l then (l.drop 2, 16) else (l, 10)

def okD (b : Nat) (l : List UInt8) : Bool := !l.isEmpty && l.all (fun c => decide (val1 c < b))

def most : Nat := 4611686018427387904

def finD (m : Bool) (b : Nat) (l : List UInt8) : Int × Int :=
  if okD b l then (if most < numV b 0 l then (0, 5) else (if m then -(numV b 0 l : Int) else (numV b 0 l : Int), 0)) else (0, 3)

def parseG (l : List UInt8) : Int × Int := finD (signL l).2 (baseL (signL l).1).2 (baseL (signL l).1).1

theorem finD_bound (m : Bool) (b : Nat) (l : List UInt8) : -4611686018427387904 ≤ (finD m b l).1 ∧ (finD m b l).1 ≤ 4611686018427387904 := by
  unfold finD
  split
  · split
    · simp
    · rename_i h
      have h' : numV b 0 l ≤ 4611686018427387904 := by unfold most at h; omega
      cases m <;> simp <;> omega
  · simp
theorem parseG_bound (l : List UInt8) : -4611686018427387904 ≤ (parseG l).1 ∧ (parseG l).1 ≤ 4611686018427387904 := finD_bound _ _ _
theorem finD_err (m : Bool) (b : Nat) (l : List UInt8) : (finD m b l).2 = 0 ∨ (finD m b l).2 = 3 ∨ (finD m b l).2 = 5 := by
  unfold finD
  split
  · split <;> simp
  · simp
theorem parseG_err (l : List UInt8) : (parseG l).2 = 0 ∨ (parseG l).2 = 3 ∨ (parseG l).2 = 5 := finD_err _ _ _
theorem finD_zero {m : Bool} {b : Nat} {l : List UInt8} (h : (finD m b l).2 ≠ 0) : (finD m b l).1 = 0 := by
  unfold finD at h ⊢
  split
  · rename_i h1
    rw [if_pos h1] at h
    split
    · rfl
    · rename_i h2
      rw [if_neg h2] at h
      exact absurd rfl h
  · rfl
theorem parseG_zero {l : List UInt8} (h : (parseG l).2 ≠ 0) : (parseG l).1 = 0 := finD_zero h

/-! the sets of the program -/
def dec : List UInt8 := [48, 49, 50, 51, 52, 53, 54, 55, 56, 57]
def hexd : List UInt8 := [48, 49, 50, 51, 52, 53, 54, 55, 56, 57, 97, 98, 99, 100, 101, 102, 65, 66, 67, 68, 69, 70]
theorem dec_has : ∀ c : UInt8, dec.contains c = decide (val1 c < 10) := by
  intro c
  have h : ∀ n : Fin 256, dec.contains (UInt8.ofNat n.val) = decide (val1 (UInt8.ofNat n.val) < 10) := by decide +kernel
  have := h ⟨c.toNat, c.toNat_lt⟩
  simpa using this
theorem hex_has : ∀ c : UInt8, hexd.contains c = decide (val1 c < 16) := by
  intro c
  have h : ∀ n : Fin 256, hexd.contains (UInt8.ofNat n.val) = decide (val1 (UInt8.ofNat n.val) < 16) := by decide +kernel
  have := h ⟨c.toNat, c.toNat_lt⟩
  simpa using this
theorem trim_all (l cs : List UInt8) : Lib.trimLeftS l cs = [] ↔ l.all (fun c => cs.contains c) = true := by
  unfold Lib.trimLeftS
  induction l with
  | nil => simp
  | cons a l ih =>
    rw [List.dropWhile_cons, List.all_cons]
    cases h : cs.contains a
    · simp
    · simpa using ih

/-! digits of a number -/
theorem val1_digit : ∀ n : Fin 10, val1 (UInt8.ofNat (48 + n.val)) = n.val := by decide +kernel
theorem val1_digit' {n : Nat} (h : n < 10) : val1 (UInt8.ofNat (48 + n)) = n := val1_digit ⟨n, h⟩

theorem num_dec (u : Nat) : numV 10 0 (Lib.decDigits u) = u := by
  induction u using Nat.strongRecOn with
  | _ u ih =>
    rw [Lib.decDigits]
    split
    · rename_i h
      rw [numV_cons, numV_nil, val1_digit' h]; omega
    · rename_i h
      rw [numV_app, ih (u / 10) (by omega), numV_cons, numV_nil, val1_digit' (by omega)]
      omega
theorem dec_all (u : Nat) : ∀ c ∈ Lib.decDigits u, 48 ≤ c.toNat ∧ c.toNat ≤ 57 := by
  induction u using Nat.strongRecOn with
  | _ u ih =>
    rw [Lib.decDigits]
    have hd : ∀ n : Fin 10, 48 ≤ (UInt8.ofNat (48 + n.val)).toNat ∧ (UInt8.ofNat (48 + n.val)).toNat ≤ 57 := by decide +kernel
    split
    · rename_i h
      intro c hc
      rw [List.mem_singleton] at hc
      subst hc
      exact hd ⟨u, h⟩
    · intro c hc
      rw [List.mem_append, List.mem_singleton] at hc
      rcases hc with hc | rfl
      · exact ih (u / 10) (by omega) c hc
      · exact hd ⟨u % 10, by omega⟩
theorem dec_ne (u : Nat) : Lib.decDigits u ≠ [] := by
  rw [Lib.decDigits]
  split <;> simp

/-- digits 0 to 9 alone: no sign, no 0x. -/
def Digs (l : List UInt8) : Prop := l ≠ [] ∧ ∀ c ∈ l, 48 ≤ c.toNat ∧ c.toNat ≤ 57
theorem digs_dec (u : Nat) : Digs (Lib.decDigits u) := ⟨dec_ne u, dec_all u⟩
theorem Digs.nought {l : List UInt8} (h : Digs l) : Digs (48 :: l) := by
  refine ⟨by simp, fun c hc => ?_⟩
  rcases List.mem_cons.1 hc with rfl | hc
  · decide
  · exact h.2 c hc
theorem val1_dig {c : UInt8} (h : 48 ≤ c.toNat ∧ c.toNat ≤ 57) : val1 c < 10 := by
  unfold val1; rw [if_pos h]; omega
theorem Digs.ok {l : List UInt8} (h : Digs l) : okD 10 l = true := by
  unfold okD
  rw [Bool.and_eq_true]
  refine ⟨?_, List.all_eq_true.2 fun c hc => decide_eq_true (val1_dig (h.2 c hc))⟩
  cases l with
  | nil => exact absurd rfl h.1
  | cons => rfl
theorem Digs.base {l : List UInt8} (h : Digs l) : baseL l = (l, 10) := by
  unfold baseL
  rw [if_neg]
  unfold hexL
  split
  · rename_i a c t
    have := h.2 c (by simp)
    intro hh
    simp only [Bool.and_eq_true, Bool.or_eq_true, beq_iff_eq] at hh
    rcases hh.2 with rfl | rfl <;> revert this <;> decide
  · simp
theorem Digs.sign {l : List UInt8} (h : Digs l) : signL l = (l, false) := by
  unfold signL
  split
  · rfl
  · rename_i c t
    have := h.2 c (by simp)
    rw [if_neg (by rintro rfl; revert this; decide), if_neg (by rintro rfl; revert this; decide)]
def valG (m : Bool) (v : Nat) : Int × Int := if most < v then (0, 5) else (if m then -(v : Int) else (v : Int), 0)
theorem Digs.parse {l : List UInt8} (h : Digs l) : parseG l = valG false (numV 10 0 l) := by
  unfold parseG valG
  rw [h.sign]
  dsimp only
  rw [h.base]
  dsimp only
  unfold finD
  rw [if_pos h.ok]
theorem Digs.plus {l : List UInt8} (h : Digs l) : parseG (43 :: l) = valG false (numV 10 0 l) := by
  unfold parseG valG
  have : signL (43 :: l) = (l, false) := by unfold signL; simp
  rw [this]
  dsimp only
  rw [h.base]
  dsimp only
  unfold finD
  rw [if_pos h.ok]
theorem Digs.minus {l : List UInt8} (h : Digs l) : parseG (45 :: l) = valG true (numV 10 0 l) := by
  unfold parseG valG
  have : signL (45 :: l) = (l, true) := by unfold signL; simp
  rw [this]
  dsimp only
  rw [h.base]
  dsimp only
  unfold finD
  rw [if_pos h.ok]
theorem nought_val (l : List UInt8) : numV 10 0 (48 :: l) = numV 10 0 l := by
  rw [numV_cons]; rfl

theorem parse_itoa (n : Int) : parseG (Lib.itoa n) = if n < -4611686018427387904 ∨ 4611686018427387904 < n then (0, 5) else (n, 0) := by
  unfold Lib.itoa
  split
  · rename_i h
    rw [(digs_dec _).minus, num_dec]
    unfold valG most
    by_cases hh : n < -4611686018427387904
    · rw [if_pos (by omega), if_pos (Or.inl hh)]
    · rw [if_neg (show ¬ 4611686018427387904 < n.natAbs by omega), if_neg (show ¬ (n < -4611686018427387904 ∨ 4611686018427387904 < n) by omega), if_pos rfl]
      congr 1
      omega
  · rename_i h
    rw [(digs_dec _).parse, num_dec]
    unfold valG most
    by_cases hh : 4611686018427387904 < n
    · rw [if_pos (by omega), if_pos (Or.inr hh)]
    · rw [if_neg (show ¬ 4611686018427387904 < n.toNat by omega), if_neg (show ¬ (n < -4611686018427387904 ∨ 4611686018427387904 < n) by omega), if_neg (by decide)]
      congr 1
      omega

/-! the order -/
def orderG (a b : List UInt8) : Int :=
  if (parseG a).2 = 0 then (if (parseG b).2 = 0 then Lib.compareInt (parseG a).1 (parseG b).1 else -1)
  else if (parseG b).2 = 0 then 1 else Lib.compareBytes a b

def cmpG (a b : List UInt8) : Int × Int :=
  if (parseG a).2 ≠ 0 then (0, (parseG a).2) else if (parseG b).2 ≠ 0 then (0, (parseG b).2) else (Lib.compareInt (parseG a).1 (parseG b).1, 0)

theorem cmpI_swap (x y : Int) : Lib.compareInt y x = -Lib.compareInt x y := by
  unfold Lib.compareInt
  repeat' split
  all_goals first | rfl | (exfalso; omega)
theorem cmpI_same (x : Int) : Lib.compareInt x x = 0 := by
  unfold Lib.compareInt; simp
theorem cmpI_le (x y : Int) : Lib.compareInt x y ≤ 0 ↔ x ≤ y := by
  unfold Lib.compareInt
  repeat' split
  all_goals first | omega | (constructor <;> intro <;> omega)
theorem cmpI_three (x y : Int) : Lib.compareInt x y = -1 ∨ Lib.compareInt x y = 0 ∨ Lib.compareInt x y = 1 := by
  unfold Lib.compareInt
  repeat' split
  all_goals simp
theorem u8_lt (a b : UInt8) : a < b ↔ a.toNat < b.toNat := Iff.rfl
theorem cmpB_three : ∀ (a b : List UInt8), Lib.compareBytes a b = -1 ∨ Lib.compareBytes a b = 0 ∨ Lib.compareBytes a b = 1
  | [], [] => by simp [Lib.compareBytes]
  | [], _ :: _ => by simp [Lib.compareBytes]
  | _ :: _, [] => by simp [Lib.compareBytes]
  | a :: as, b :: bs => by
    unfold Lib.compareBytes
    repeat' split
    all_goals first | simp | exact cmpB_three as bs
theorem cmpB_swap : ∀ (a b : List UInt8), Lib.compareBytes b a = -Lib.compareBytes a b
  | [], [] => by simp [Lib.compareBytes]
  | [], _ :: _ => by simp [Lib.compareBytes]
  | _ :: _, [] => by simp [Lib.compareBytes]
  | a :: as, b :: bs => by
    unfold Lib.compareBytes
    by_cases h1 : a < b
    · have h2 : ¬ b < a := by rw [u8_lt] at h1 ⊢; omega
      simp [h1, h2]
    · by_cases h2 : b < a
      · simp [h1, h2]
      · simpa [h1, h2] using cmpB_swap as bs
theorem cmpB_same (a : List UInt8) : Lib.compareBytes a a = 0 := by
  have := cmpB_swap a a; omega
theorem cmpB_trans : ∀ (a b c : List UInt8), Lib.compareBytes a b ≤ 0 → Lib.compareBytes b c ≤ 0 → Lib.compareBytes a c ≤ 0
  | [], _, [], _, _ => by simp [Lib.compareBytes]
  | [], _, _ :: _, _, _ => by simp [Lib.compareBytes]
  | _ :: _, [], _, h, _ => by simp [Lib.compareBytes] at h
  | _ :: _, _ :: _, [], _, h => by simp [Lib.compareBytes] at h
  | a :: as, b :: bs, c :: cs, h1, h2 => by
    unfold Lib.compareBytes at h1 h2 ⊢
    simp only [u8_lt] at h1 h2 ⊢
    by_cases h3 : a.toNat < c.toNat
    · rw [if_pos h3]; decide
    · rw [if_neg h3]
      by_cases e1 : a.toNat < b.toNat
      · by_cases e2 : b.toNat < c.toNat
        · omega
        · rw [if_neg e2] at h2
          by_cases e3 : c.toNat < b.toNat
          · rw [if_pos e3] at h2; omega
          · omega
      · rw [if_neg e1] at h1
        by_cases e2 : b.toNat < a.toNat
        · rw [if_pos e2] at h1; omega
        · rw [if_neg e2] at h1
          by_cases e3 : b.toNat < c.toNat
          · omega
          · rw [if_neg e3] at h2
            by_cases e4 : c.toNat < b.toNat
            · rw [if_pos e4] at h2; omega
            · rw [if_neg e4] at h2
              rw [if_neg (by omega)]
              exact cmpB_trans as bs cs h1 h2

theorem order_swap (a b : List UInt8) : orderG b a = -orderG a b := by
  unfold orderG
  by_cases h1 : (parseG a).2 = 0 <;> by_cases h2 : (parseG b).2 = 0
  · simp only [h1, h2, if_true]; exact cmpI_swap _ _
  · simp only [h1, h2, if_true, if_false]; decide
  · simp only [h1, h2, if_true, if_false]
  · simp only [h1, h2, if_false]; exact cmpB_swap _ _
theorem order_same (a : List UInt8) : orderG a a = 0 := by
  have := order_swap a a; omega
theorem order_three (a b : List UInt8) : orderG a b = -1 ∨ orderG a b = 0 ∨ orderG a b = 1 := by
  unfold orderG
  repeat' split
  all_goals first | exact cmpI_three _ _ | exact cmpB_three _ _ | simp
theorem order_trans (a b c : List UInt8) (h1 : orderG a b ≤ 0) (h2 : orderG b c ≤ 0) : orderG a c ≤ 0 := by
  unfold orderG at h1 h2 ⊢
  by_cases ha : (parseG a).2 = 0 <;> by_cases hb : (parseG b).2 = 0 <;> by_cases hc : (parseG c).2 = 0 <;>
    simp only [ha, hb, hc, if_true, if_false] at h1 h2 ⊢
  · rw [cmpI_le] at h1 h2 ⊢; omega
  all_goals first | decide | omega | exact cmpB_trans _ _ _ h1 h2
theorem order_trans' (a b c : List UInt8) (h1 : 0 ≤ orderG a b) (h2 : 0 ≤ orderG b c) : 0 ≤ orderG a c := by
  have := order_trans c b a (by rw [order_swap b c]; omega) (by rw [order_swap a b]; omega)
  rw [order_swap a c] at this
  omega

end N
end Go.Proofs.YtkelmhpoplbacaaGreatDoor
