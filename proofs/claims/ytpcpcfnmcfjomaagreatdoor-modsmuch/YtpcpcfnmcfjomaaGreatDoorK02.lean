/-
  MgPlain MgHolds MgSet
-/
import Derived.Test.YtpcpcfnmcfjomaaGreatDoorProg
import Derived.WalkKit
import Derived.WalkSpells
import Derived.WalkLawsBesides
import Derived.Deep.QuietTactic
import Derived.BigQuiet
import Derived.Test.YtpcpcfnmcfjomaaGreatDoorK01
namespace Go.Proofs.YtpcpcfnmcfjomaaGreatDoor.G
def holdsM (c : UInt8) : List UInt8 → Bool
  | a :: d :: b :: r => if d == 45 then (decide (a ≤ c) && decide (c ≤ b)) || holdsM c r else (a == c) || holdsM c (d :: b :: r)
  | [a, b] => a == c || b == c
  | [a] => a == c
  | [] => false
def idx (b : UInt8) : List UInt8 → Option Nat
  | [] => none
  | c :: r => if c == b then some 0 else (idx b r).map (· + 1)
def negOf : List UInt8 → Bool
  | c :: _ => c == 33 || c == 94
  | [] => false
def memOf (r : List UInt8) : List UInt8 := if negOf r then r.drop 1 else r
def closeOf (r : List UInt8) : Option Nat := idx 93 ((memOf r).drop 1)
def headN : List UInt8 → Nat
  | [] => 0
  | c :: r => if c == 92 then (if r.isEmpty then 1 else 2) else if c == 91 then (match closeOf r with | some k => (if negOf r then 1 else 0) + k + 3 | none => 1) else 1
def headF (p : List UInt8) (c : UInt8) : Bool :=
  match p with
  | [] => false
  | a :: r => if a == 63 then true else if a == 92 then (match r with | [] => a == c | b :: _ => b == c) else if a == 91 then (match closeOf r with | some k => (holdsM c ((memOf r).take (k + 1)) != negOf r) | none => a == c) else a == c
theorem headN_pos (c : UInt8) (r : List UInt8) : 1 ≤ headN (c :: r) := by
  simp only [headN]; split
  · split <;> omega
  · split
    · split <;> omega
    · omega
def tk : Nat → List UInt8 → List (Option (UInt8 → Bool))
  | 0, _ => []
  | _ + 1, [] => []
  | n + 1, c :: r => if c == 42 then none :: tk n r else some (headF (c :: r)) :: tk n ((c :: r).drop (headN (c :: r)))
def toks (p : List UInt8) : List (Option (UInt8 → Bool)) := tk p.length p
theorem tk_fuel : ∀ (n m : Nat) (p : List UInt8), p.length ≤ n → p.length ≤ m → tk n p = tk m p := by
  intro n
  induction n with
  | zero => intro m p h1 h2; cases p with
    | nil => cases m <;> rfl
    | cons c r => simp at h1
  | succ n ih => intro m p h1 h2; cases p with
    | nil => cases m <;> rfl
    | cons c r =>
      cases m with
      | zero => simp at h2
      | succ m =>
        simp only [List.length_cons] at h1 h2
        unfold tk
        have hp := headN_pos c r
        rw [ih m r (by omega) (by omega), ih m ((c :: r).drop (headN (c :: r))) (by simp; omega) (by simp; omega)]
theorem toks_nil : toks [] = [] := rfl
theorem toks_star (r : List UInt8) : toks (42 :: r) = none :: toks r := by
  unfold toks; rw [List.length_cons, tk]; rfl
theorem toks_head (c : UInt8) (r : List UInt8) (h : (c == 42) = false) : toks (c :: r) = some (headF (c :: r)) :: toks ((c :: r).drop (headN (c :: r))) := by
  have hp := headN_pos c r
  unfold toks; rw [List.length_cons]; rw [tk]; rw [h]; simp only [Bool.false_eq_true, if_false]
  rw [tk_fuel r.length _ _ (by simp; omega) (Nat.le_refl _)]
def starM (f : List UInt8 → Bool) : List UInt8 → Bool
  | [] => f []
  | c :: s => f (c :: s) || starM f s
def starT (f : List UInt8 → Bool) : List UInt8 → Bool
  | [] => false
  | _ :: s => starM f s
def mt : List (Option (UInt8 → Bool)) → List UInt8 → Bool
  | [], s => s.isEmpty
  | none :: ts, s => starM (mt ts) s
  | some _ :: _, [] => false
  | some f :: ts, c :: s => f c && mt ts s
theorem starM_eq (f : List UInt8 → Bool) (s : List UInt8) : starM f s = (f s || starT f s) := by
  cases s with
  | nil => simp [starM, starT]
  | cons c s => rfl
theorem starM_iff (f : List UInt8 → Bool) : ∀ s, starM f s = true ↔ ∃ k, k ≤ s.length ∧ f (s.drop k) = true := by
  intro s
  induction s with
  | nil => simp [starM]
  | cons c s ih =>
    simp only [starM, Bool.or_eq_true, ih]
    constructor
    · rintro (h | ⟨k, hk, h⟩)
      · exact ⟨0, by omega, by simpa using h⟩
      · exact ⟨k + 1, by simp; omega, by simpa using h⟩
    · rintro ⟨k, hk, h⟩
      cases k with
      | zero => exact Or.inl (by simpa using h)
      | succ k => exact Or.inr ⟨k, by simp at hk; omega, by simpa using h⟩
theorem starTiff (f : List UInt8 → Bool) (s : List UInt8) : starT f s = true ↔ ∃ k, 1 ≤ k ∧ k ≤ s.length ∧ f (s.drop k) = true := by
  cases s with
  | nil => simp [starT]; intro k h1 h2; omega
  | cons c s =>
    simp only [starT, starM_iff]
    constructor
    · rintro ⟨k, hk, h⟩; exact ⟨k + 1, by omega, by simp; omega, by simpa using h⟩
    · rintro ⟨k, h1, hk, h⟩
      cases k with
      | zero => omega
      | succ k => exact ⟨k, by simp at hk; omega, by simpa using h⟩
def Inv (T s : List UInt8) (R : Bool) (a i : Nat) (ag : Option Nat) (f : Nat) : Prop :=
  a ≤ T.length ∧ i ≤ s.length ∧ f ≤ i ∧ (match ag with
    | none => R = mt (toks (T.drop a)) (s.drop i)
    | some g => g ≤ T.length ∧ R = (mt (toks (T.drop a)) (s.drop i) || starT (mt (toks (T.drop g))) (s.drop f)) ∧
        ∀ u, mt (toks (T.drop g)) u = true → i - f ≤ u.length ∧ mt (toks (T.drop a)) (u.drop (i - f)) = true)
theorem inv_start (T s : List UInt8) : Inv T s (mt (toks T) s) 0 0 none 0 := by
  refine ⟨by omega, by omega, by omega, ?_⟩
  simp
theorem drop_cons (T : List UInt8) (a : Nat) (h : a < T.length) : T.drop a = T[a] :: T.drop (a + 1) := List.drop_eq_getElem_cons h
theorem inv_star {T s : List UInt8} {R : Bool} {a i f : Nat} {ag : Option Nat} (h : Inv T s R a i ag f) (ha : a < T.length) (hc : T[a] = 42) : Inv T s R (a + 1) i (some (a + 1)) i := by
  obtain ⟨h1, h2, h3, h4⟩ := h
  have hd : toks (T.drop a) = none :: toks (T.drop (a + 1)) := by rw [drop_cons T a ha, hc, toks_star]
  refine ⟨by omega, h2, Nat.le_refl _, by omega, ?_, ?_⟩
  · cases ag with
    | none => simp only at h4; rw [h4, hd]; exact starM_eq _ _
    | some g =>
      obtain ⟨_, h5, h6⟩ := h4
      rw [h5, hd]
      rw [← starM_eq]
      show (starM _ _ || _) = _
      cases hL : starT (mt (toks (T.drop g))) (s.drop f) with
      | false => simp
      | true =>
        rw [Bool.or_true]
        symm
        rw [starTiff] at hL
        obtain ⟨k, k1, k2, k3⟩ := hL
        obtain ⟨u1, u2⟩ := h6 _ k3
        rw [hd] at u2
        have u3 : starM (mt (toks (T.drop (a + 1)))) (((s.drop f).drop k).drop (i - f)) = true := u2
        rw [starM_iff] at u3 ⊢
        obtain ⟨m, m1, m2⟩ := u3
        refine ⟨k + m, ?_, ?_⟩
        · simp at m1 u1 k2 ⊢; omega
        · rw [List.drop_drop, List.drop_drop, List.drop_drop] at m2
          rw [List.drop_drop]
          rw [← m2]; congr 2; omega
  · intro u hu
    refine ⟨by omega, ?_⟩
    simpa using hu
theorem inv_one {T s : List UInt8} {R : Bool} {a i f : Nat} {ag : Option Nat} (h : Inv T s R a i ag f) (ha : a < T.length) (hc : (T[a] == 42) = false) (hi : i < s.length) (hf : headF (T.drop a) s[i] = true) (hn : a + headN (T.drop a) ≤ T.length) : Inv T s R (a + headN (T.drop a)) (i + 1) ag f := by
  obtain ⟨h1, h2, h3, h4⟩ := h
  have hd : toks (T.drop a) = some (headF (T.drop a)) :: toks (T.drop (a + headN (T.drop a))) := by
    rw [← List.drop_drop]
    conv => lhs; rw [drop_cons T a ha, toks_head _ _ hc]
    rw [← drop_cons T a ha]
  have hm : mt (toks (T.drop a)) (s.drop i) = mt (toks (T.drop (a + headN (T.drop a)))) (s.drop (i + 1)) := by
    rw [hd, drop_cons s i hi]; simp only [mt]; rw [hf, Bool.true_and]
  refine ⟨hn, by omega, by omega, ?_⟩
  cases ag with
  | none => simp only at h4 ⊢; rw [h4, hm]
  | some g =>
    obtain ⟨g1, h5, h6⟩ := h4
    refine ⟨g1, by rw [h5, hm], ?_⟩
    intro u hu
    obtain ⟨u1, u2⟩ := h6 u hu
    rw [hd] at u2
    cases hx : u.drop (i - f) with
    | nil => rw [hx] at u2; simp [mt] at u2
    | cons x v =>
      rw [hx] at u2
      simp only [mt, Bool.and_eq_true] at u2
      have hl : (u.drop (i - f)).length = (x :: v).length := by rw [hx]
      simp at hl
      refine ⟨by omega, ?_⟩
      have e : u.drop (i + 1 - f) = v := by
        rw [show i + 1 - f = (i - f) + 1 by omega, ← List.drop_drop, hx]; rfl
      rw [e]; exact u2.2
theorem inv_cur_false {T s : List UInt8} {a i : Nat} (hi : i < s.length) (hf : a = T.length ∨ ∃ ha : a < T.length, (T[a] == 42) = false ∧ headF (T.drop a) s[i] = false) : mt (toks (T.drop a)) (s.drop i) = false := by
  rcases hf with rfl | ⟨ha, hc, hf⟩
  · rw [List.drop_length, toks_nil, drop_cons s i hi]; rfl
  · conv => lhs; rw [drop_cons T a ha, toks_head _ _ hc]
    rw [← drop_cons T a ha, drop_cons s i hi]; simp only [mt]; rw [hf, Bool.false_and]
theorem inv_fail_none {T s : List UInt8} {R : Bool} {a i f : Nat} (h : Inv T s R a i none f) (hi : i < s.length) (hf : a = T.length ∨ ∃ ha : a < T.length, (T[a] == 42) = false ∧ headF (T.drop a) s[i] = false) : R = false := by
  obtain ⟨h1, h2, h3, h4⟩ := h
  simp only at h4
  rw [h4, inv_cur_false hi hf]
theorem inv_fail_some {T s : List UInt8} {R : Bool} {a i f g : Nat} (h : Inv T s R a i (some g) f) (hi : i < s.length) (hf : a = T.length ∨ ∃ ha : a < T.length, (T[a] == 42) = false ∧ headF (T.drop a) s[i] = false) : Inv T s R g (f + 1) (some g) (f + 1) := by
  obtain ⟨h1, h2, h3, g1, h5, h6⟩ := h
  rw [inv_cur_false hi hf, Bool.false_or, drop_cons s f (by omega)] at h5
  refine ⟨g1, by omega, Nat.le_refl _, g1, ?_, ?_⟩
  · rw [h5]; show starM _ _ = _; exact starM_eq _ _
  · intro u hu; exact ⟨by omega, by simpa using hu⟩
theorem mt_empty : ∀ (n : Nat) (p : List UInt8), p.length ≤ n → mt (toks p) [] = p.all (· == 42) := by
  intro n
  induction n with
  | zero => intro p hp; cases p with
    | nil => rfl
    | cons c r => simp at hp
  | succ n ih => intro p hp; cases p with
    | nil => rfl
    | cons c r =>
      cases hc : (c == 42) with
      | true =>
        have : c = 42 := by simpa using hc
        subst this
        rw [toks_star]; show starM _ [] = _
        simp only [starM]; rw [ih r (by simp at hp; omega)]; rfl
      | false => rw [toks_head _ _ hc]; simp [mt, hc]
theorem inv_end {T s : List UInt8} {R : Bool} {a f : Nat} {ag : Option Nat} (h : Inv T s R a s.length ag f) : R = (T.drop a).all (· == 42) := by
  obtain ⟨h1, h2, h3, h4⟩ := h
  rw [List.drop_length] at h4
  rw [← mt_empty _ _ (Nat.le_refl _)]
  cases ag with
  | none => exact h4
  | some g =>
    obtain ⟨g1, h5, h6⟩ := h4
    rw [h5]
    cases hL : starT (mt (toks (T.drop g))) (s.drop f) with
    | false => simp
    | true =>
      exfalso
      rw [starTiff] at hL
      obtain ⟨k, k1, k2, k3⟩ := hL
      obtain ⟨u1, _⟩ := h6 _ k3
      simp at u1 k2; omega
def matchB (p s : List UInt8) : Bool := mt (toks p) s
end Go.Proofs.YtpcpcfnmcfjomaaGreatDoor.G
namespace Go.Proofs.YtpcpcfnmcfjomaaGreatDoor
open Go.RowKit
theorem ret_bool {a b : Bool} (h : a = b) : Ending.returned (.bool a) = .returned (.bool b) := by rw [h]
theorem drop_ba (m : ByteArray) (k : Nat) (h : k < m.size) : m.data.toList.drop k = m[k] :: m.data.toList.drop (k + 1) :=
  List.drop_eq_getElem_cons (by simpa using h)
theorem u8_eq_iff (a b : UInt8) : a = b ↔ a.toNat = b.toNat := ⟨fun h => by rw [h], UInt8.toNat_inj.mp⟩
theorem u8_beq (a b : UInt8) (n : Nat) (hn : b.toNat = n) : ((a.toNat : Int) == (n : Int)) = (a == b) := by
  rw [Bool.eq_iff_iff]; simp only [beq_iff_eq]; rw [u8_eq_iff]; omega
theorem holds_range (m : ByteArray) (c : UInt8) (k : Nat) (h : k + 2 < m.size) (hd : ((m[k + 1].toNat : Int) == 45) = true) :
    G.holdsM c (m.data.toList.drop k) = ((decide (m[k].toNat ≤ c.toNat) && decide (c.toNat ≤ m[k + 2].toNat)) || G.holdsM c (m.data.toList.drop (k + 3))) := by
  have hd' : (m[k + 1] == 45) = true := by rw [← u8_beq _ 45 45 rfl]; exact hd
  rw [drop_ba m k (by omega), drop_ba m (k + 1) (by omega), drop_ba m (k + 2) (by omega), G.holdsM, if_pos hd']
  rfl
theorem holds_single_mid (m : ByteArray) (c : UInt8) (k : Nat) (h : k + 2 < m.size) (hd : ((m[k + 1].toNat : Int) == 45) = false) :
    G.holdsM c (m.data.toList.drop k) = (m[k] == c || G.holdsM c (m.data.toList.drop (k + 1))) := by
  have hd' : (m[k + 1] == 45) = false := by rw [← u8_beq _ 45 45 rfl]; exact hd
  rw [drop_ba m k (by omega), drop_ba m (k + 1) (by omega), drop_ba m (k + 2) (by omega), G.holdsM, if_neg (by simp [hd'])]
theorem holds_single_end (m : ByteArray) (c : UInt8) (k : Nat) (h0 : k < m.size) (h : ¬ k + 2 < m.size) :
    G.holdsM c (m.data.toList.drop k) = (m[k] == c || G.holdsM c (m.data.toList.drop (k + 1))) := by
  rw [drop_ba m k h0]
  by_cases h1 : k + 1 < m.size
  · rw [drop_ba m (k + 1) h1, List.drop_of_length_le (i := k + 1 + 1) (by simp; omega)]; simp [G.holdsM]
  · rw [List.drop_of_length_le (i := k + 1) (by simp; omega)]; simp [G.holdsM]
theorem holds_end (m : ByteArray) (c : UInt8) (k : Nat) (h : ¬ k < m.size) : G.holdsM c (m.data.toList.drop k) = false := by
  rw [List.drop_of_length_le (by simp; omega)]; rfl
theorem beq_tt {a b : UInt8} (h1 : a.toNat ≤ b.toNat) (h2 : b.toNat ≤ a.toNat) : (a == b) = true := by
  rw [beq_iff_eq, u8_eq_iff]; omega
theorem beq_ff {a b : UInt8} (h : ¬ (a.toNat ≤ b.toNat ∧ b.toNat ≤ a.toNat)) : (a == b) = false := by
  rw [← Bool.not_eq_true, beq_iff_eq, u8_eq_iff]; omega
set_option maxHeartbeats 400000 in
theorem holds_any (m : ByteArray) (c : UInt8) (w : World) (hs : m.size ≤ 1000000) :
    Calls Tryz.prog 206 #[.string m, .int .u8 c.toNat] w fun e w' => e = .returned (.bool (G.holdsM c m.data.toList)) ∧ ∃ n, w' = w.drewN n := by

  go_enter Tryz.func206, Tryz.ntmps206
  go_wp2
  go_loopw [5] (fun i wr => ∃ k n : Nat, k ≤ m.size ∧ i = .int .i64 k ∧ wr = w.drewN n ∧ Hid (G.holdsM c (m.data.toList.drop k) = G.holdsM c m.data.toList)) (fun i _ => m.size - (intOf i).toNat)
  case atStart => exact ⟨0, 0, Nat.zero_le _, rfl, rfl, rfl⟩
  case round =>
    obtain ⟨k, n, hk, rfl, rfl, HR⟩ := hrel
    by_cases hlt : k < m.size
    · have hi : (k : Int) < (m.size : Int) := by omega
      go_wp2
      go_quiet (fail)
      by_cases h2 : k + 2 < m.size
      · go_wp2
        all_goals first
          | (go_ret; refine ⟨ret_bool ?_, _, rfl⟩; rw [← HR.out, holds_range m c k h2 ‹_›]; simp [*]; done)
          | (go_ret; refine ⟨ret_bool ?_, _, rfl⟩; rw [← HR.out, holds_single_mid m c k h2 ‹_›, beq_tt ‹_› ‹_›]; rfl)
          | (go_roundw
             case rel =>
               refine ⟨k + 3, _, by omega, by go_num, rfl, ?_⟩
               show _ = _
               rw [← HR.out, holds_range m c k h2 ‹_›]; simp [*]; done
             case measure => simp [intOf]; omega)
          | (go_roundw
             case rel =>
               refine ⟨k + 1, _, by omega, by go_num, rfl, ?_⟩
               show _ = _
               rw [← HR.out, holds_single_mid m c k h2 ‹_›, beq_ff (by omega)]; rfl
             case measure => simp [intOf]; omega)
      · go_wp2
        all_goals first
          | (go_ret; refine ⟨ret_bool ?_, _, rfl⟩; rw [← HR.out, holds_single_end m c k hlt h2, beq_tt ‹_› ‹_›]; rfl)
          | (go_roundw
             case rel =>
               refine ⟨k + 1, _, by omega, by go_num, rfl, ?_⟩
               show _ = _
               rw [← HR.out, holds_single_end m c k hlt h2, beq_ff (by omega)]; rfl
             case measure => simp [intOf]; omega)
    · go_wp2
      go_ret
      exact ⟨ret_bool (by rw [← HR.out, holds_end m c k hlt]), _, rfl⟩
end Go.Proofs.YtpcpcfnmcfjomaaGreatDoor
namespace Go.Proofs.YtpcpcfnmcfjomaaGreatDoor
open Go.RowKit
def LastOk (T : ByteArray) (L : Int) : Prop := ∀ f : Nat, L ≤ f ↔ G.idx 93 (T.data.toList.drop (f + 1)) = none
theorem indexByte_idx (c : UInt8) : ∀ l : List UInt8, Lib.indexByte l c = match G.idx c l with | some k => (k : Int) | none => -1 := by
  intro l
  induction l with
  | nil => rfl
  | cons b l ih =>
    unfold Lib.indexByte G.idx
    by_cases hb : (b == c) = true
    · rw [if_pos hb, if_pos hb]; rfl
    · rw [if_neg hb, if_neg hb, ih]
      cases h : G.idx c l with
      | none => rfl
      | some k =>
        have : ((k : Int) == -1) = false := by rw [← Bool.not_eq_true, beq_iff_eq]; omega
        simp only [this, Option.map_some]; rfl
theorem index_at (T : ByteArray) (f k : Nat) (h : G.idx 93 (T.data.toList.drop f) = some k) : Lib.indexByte (List.take (T.size - f) (List.drop f T.data.toList)) 93 = (k : Int) := by
  rw [List.take_of_length_le (by simp), indexByte_idx, h]
theorem idx_lt (c : UInt8) : ∀ (l : List UInt8) (k : Nat), G.idx c l = some k → k < l.length := by
  intro l
  induction l with
  | nil => intro k h; simp [G.idx] at h
  | cons b l ih =>
    intro k h
    unfold G.idx at h
    by_cases hb : (b == c) = true
    · rw [if_pos hb] at h; simp at h; simp; omega
    · rw [if_neg hb] at h
      cases hi : G.idx c l with
      | none => rw [hi] at h; simp at h
      | some j => rw [hi] at h; simp at h; have := ih j hi; simp; omega
set_option maxHeartbeats 400000 in
theorem set_none_plain (T : ByteArray) (L : Int) (a : Nat) (w : World) (hs : T.size ≤ 1000000) (h1 : a + 1 < T.size) (hn1 : ((T[a + 1].toNat : Int) == 33) = false) (hn2 : ((T[a + 1].toNat : Int) == 94) = false) (hl : L ≤ (a : Int) + 1) :
    Calls Tryz.prog 205 #[.agg #[.string T, .int .i64 L], .int .i64 a] w fun e w' =>
      e = .returned (.tuple #[.int .i64 0, .int .i64 0, .bool false]) ∧ Below w.heap.size w w' := by
  have hi : (a : Int) + 1 < (T.size : Int) := by omega
  go_enter Tryz.func205, Tryz.ntmps205
  go_wp2
  go_ret3
  exact ⟨rfl, (Below.refl _ _).alloc (Nat.le_refl _) _⟩
set_option maxHeartbeats 400000 in
theorem set_none_neg (T : ByteArray) (L : Int) (a : Nat) (w : World) (hs : T.size ≤ 1000000) (h1 : a + 1 < T.size) (hn : ((T[a + 1].toNat : Int) == 33 || (T[a + 1].toNat : Int) == 94) = true) (hl : L ≤ (a : Int) + 2) :
    Calls Tryz.prog 205 #[.agg #[.string T, .int .i64 L], .int .i64 a] w fun e w' =>
      e = .returned (.tuple #[.int .i64 0, .int .i64 0, .bool false]) ∧ Below w.heap.size w w' := by
  have hi : (a : Int) + 1 < (T.size : Int) := by omega
  have hl' : L ≤ (a : Int) + 1 + 1 := by omega
  cases h3 : ((T[a + 1].toNat : Int) == 33)
  all_goals
    have h4 : ((T[a + 1].toNat : Int) == 33 || (T[a + 1].toNat : Int) == 94) = true := hn
    rw [h3] at h4
    simp only [Bool.true_or, Bool.false_or] at h4
    clear hn
    go_enter Tryz.func205, Tryz.ntmps205
    go_wp2
    go_ret3
    exact ⟨rfl, (Below.refl _ _).alloc (Nat.le_refl _) _⟩
set_option maxHeartbeats 400000 in
theorem set_none_short (T : ByteArray) (L : Int) (a : Nat) (w : World) (hs : T.size ≤ 1000000) (h0 : a < T.size) (h1 : ¬ a + 1 < T.size) (hl : L ≤ (a : Int) + 1) :
    Calls Tryz.prog 205 #[.agg #[.string T, .int .i64 L], .int .i64 a] w fun e w' =>
      e = .returned (.tuple #[.int .i64 0, .int .i64 0, .bool false]) ∧ Below w.heap.size w w' := by
  have hi : ¬ (a : Int) + 1 < (T.size : Int) := by omega
  go_enter Tryz.func205, Tryz.ntmps205
  go_wp2
  go_ret3
  exact ⟨rfl, (Below.refl _ _).alloc (Nat.le_refl _) _⟩
theorem ret_set {x y x' y' : Int} {b : Bool} (h1 : x = x') (h2 : y = y') : Ending.returned (.tuple #[.int .i64 x, .int .i64 y, .bool b]) = .returned (.tuple #[.int .i64 x', .int .i64 y', .bool b]) := by rw [h1, h2]
set_option maxHeartbeats 400000 in
theorem set_some_plain (T : ByteArray) (L : Int) (a k : Nat) (w : World) (hs : T.size ≤ 1000000) (h1 : a + 1 < T.size) (hn1 : ((T[a + 1].toNat : Int) == 33) = false) (hn2 : ((T[a + 1].toNat : Int) == 94) = false) (hl : (a : Int) + 1 < L) (hk : G.idx 93 (T.data.toList.drop (a + 2)) = some k) :
    Calls Tryz.prog 205 #[.agg #[.string T, .int .i64 L], .int .i64 a] w fun e w' =>
      e = .returned (.tuple #[.int .i64 (a + 1), .int .i64 (a + 1 + k + 1), .bool false]) ∧ Below w.heap.size w w' := by
  have hi : (a : Int) + 1 < (T.size : Int) := by omega
  have hx := index_at T (a + 1 + 1) k hk
  have hkl := idx_lt _ _ _ hk
  have hkb : k ≤ 1000000 := by simp at hkl; omega
  clear hkl hk
  go_enter Tryz.func205, Tryz.ntmps205
  go_wp2_with (go_at_call 189; refine (Tryz.strings_IndexByte _ _ _).mono ?_; rintro e w' ⟨rfl, rfl⟩)
  go_ret3
  exact ⟨ret_set rfl (by omega), (Below.refl _ _).alloc (Nat.le_refl _) _⟩
set_option maxHeartbeats 400000 in
theorem set_some_neg (T : ByteArray) (L : Int) (a k : Nat) (w : World) (hs : T.size ≤ 1000000) (h1 : a + 1 < T.size) (hn : ((T[a + 1].toNat : Int) == 33 || (T[a + 1].toNat : Int) == 94) = true) (hl : (a : Int) + 2 < L) (hk : G.idx 93 (T.data.toList.drop (a + 3)) = some k) :
    Calls Tryz.prog 205 #[.agg #[.string T, .int .i64 L], .int .i64 a] w fun e w' =>
      e = .returned (.tuple #[.int .i64 (a + 2), .int .i64 (a + 2 + k + 1), .bool true]) ∧ Below w.heap.size w w' := by
  have hi : (a : Int) + 1 < (T.size : Int) := by omega
  have hl' : (a : Int) + 1 + 1 < L := by omega
  have hx := index_at T (a + 1 + 1 + 1) k hk
  have hkl := idx_lt _ _ _ hk
  have hkb : k ≤ 1000000 := by simp at hkl; omega
  have hT3 : a + 3 < T.size := by simp at hkl; omega
  clear hkl hk
  cases h3 : ((T[a + 1].toNat : Int) == 33)
  all_goals
    have h4 : ((T[a + 1].toNat : Int) == 33 || (T[a + 1].toNat : Int) == 94) = true := hn
    rw [h3] at h4
    simp only [Bool.true_or, Bool.false_or] at h4
    clear hn
    go_enter Tryz.func205, Tryz.ntmps205
    go_wp2_with (go_at_call 189; refine (Tryz.strings_IndexByte _ _ _).mono ?_; rintro e w' ⟨rfl, rfl⟩)
    go_ret3
    exact ⟨ret_set (by omega) (by omega), (Below.refl _ _).alloc (Nat.le_refl _) _⟩
theorem neg_eq (T : ByteArray) (a : Nat) (h1 : a + 1 < T.size) : G.negOf (T.data.toList.drop (a + 1)) = ((T[a + 1].toNat : Int) == 33 || (T[a + 1].toNat : Int) == 94) := by
  rw [drop_ba T (a + 1) h1]
  show (T[a + 1] == 33 || T[a + 1] == 94) = _
  rw [← u8_beq _ 33 33 rfl, ← u8_beq _ 94 94 rfl]; rfl
theorem close_eq (T : ByteArray) (a : Nat) : G.closeOf (T.data.toList.drop (a + 1)) = G.idx 93 (T.data.toList.drop (a + 1 + (if G.negOf (T.data.toList.drop (a + 1)) then 1 else 0) + 1)) := by
  unfold G.closeOf G.memOf
  split <;> simp [List.drop_drop]
theorem set_none (T : ByteArray) (L : Int) (a : Nat) (w : World) (hs : T.size ≤ 1000000) (ha : a < T.size) (hL : LastOk T L) (hc : G.closeOf (T.data.toList.drop (a + 1)) = none) :
    Calls Tryz.prog 205 #[.agg #[.string T, .int .i64 L], .int .i64 a] w fun e w' =>
      e = .returned (.tuple #[.int .i64 0, .int .i64 0, .bool false]) ∧ Below w.heap.size w w' := by
  rw [close_eq] at hc
  have hl := (hL _).2 hc
  by_cases h1 : a + 1 < T.size
  · cases hn : ((T[a + 1].toNat : Int) == 33 || (T[a + 1].toNat : Int) == 94)
    · have hn' := neg_eq T a h1
      rw [hn] at hn'; rw [hn'] at hl
      rw [Bool.or_eq_false_iff] at hn
      exact set_none_plain T L a w hs h1 hn.1 hn.2 (by simpa using hl)
    · have hn' := neg_eq T a h1
      rw [hn] at hn'; rw [hn'] at hl
      exact set_none_neg T L a w hs h1 hn (by simp at hl; omega)
  · have hn' : G.negOf (T.data.toList.drop (a + 1)) = false := by rw [List.drop_of_length_le (by simp; omega)]; rfl
    rw [hn'] at hl
    exact set_none_short T L a w hs ha h1 (by simpa using hl)
theorem set_some (T : ByteArray) (L : Int) (a k : Nat) (w : World) (hs : T.size ≤ 1000000) (ha : a < T.size) (hL : LastOk T L) (hc : G.closeOf (T.data.toList.drop (a + 1)) = some k) :
    Calls Tryz.prog 205 #[.agg #[.string T, .int .i64 L], .int .i64 a] w fun e w' =>
      e = .returned (.tuple #[.int .i64 ((a + 1 + (if G.negOf (T.data.toList.drop (a + 1)) then 1 else 0) : Nat) : Int), .int .i64 ((a + 1 + (if G.negOf (T.data.toList.drop (a + 1)) then 1 else 0) + k + 1 : Nat) : Int), .bool (G.negOf (T.data.toList.drop (a + 1)))]) ∧ Below w.heap.size w w' := by
  rw [close_eq] at hc
  have hlt := idx_lt _ _ _ hc
  have hl := (not_congr (hL (a + 1 + (if G.negOf (T.data.toList.drop (a + 1)) then 1 else 0)))).2 (by rw [hc]; simp)
  have h1 : a + 1 < T.size := by simp at hlt; omega
  cases hn : ((T[a + 1].toNat : Int) == 33 || (T[a + 1].toNat : Int) == 94)
  · have hn' := neg_eq T a h1
    rw [hn] at hn'; rw [hn'] at hl hc ⊢
    rw [Bool.or_eq_false_iff] at hn
    refine (set_some_plain T L a k w hs h1 hn.1 hn.2 (by simp at hl; omega) (by simpa using hc)).mono fun e w' ⟨he, hw⟩ => ⟨?_, hw⟩
    rw [he]; exact ret_set (by simp) (by simp)
  · have hn' := neg_eq T a h1
    rw [hn] at hn'; rw [hn'] at hl hc ⊢
    refine (set_some_neg T L a k w hs h1 hn (by simp at hl; omega) (by simpa using hc)).mono fun e w' ⟨he, hw⟩ => ⟨?_, hw⟩
    rw [he]; exact ret_set (by simp; omega) (by simp; omega)
end Go.Proofs.YtpcpcfnmcfjomaaGreatDoor
