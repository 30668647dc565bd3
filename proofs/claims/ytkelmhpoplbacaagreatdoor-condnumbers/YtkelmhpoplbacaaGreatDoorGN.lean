/-
  What errors.Is, num.Parse and num.Compare answer.
-/
import Derived.Test.YtkelmhpoplbacaaGreatDoorN2
import Derived.Test.YtkelmhpoplbacaaGreatDoorChecked
import Derived.LaidEql
import Derived.Stop.Asserts
import Derived.RowKitTokens
import Derived.Shelf.Strings.SlTrimAscii
namespace Go.Proofs.YtkelmhpoplbacaaGreatDoor.N
open Go.RowKit Go.Extern.Stop Go.Stop Go.Extern Go.Shelf

theorem isTypeOf (v : Value) (w : World) : (Extern.ReflectliteType.typeOf #[.iface 270 v]).run Tryz.prog w = .ok (.iface 238 (.agg #[.pointer (some ⟨10, 270, none⟩)])) w := by kernel_rfl
theorem isComparable (w : World) : ((Extern.ReflectliteType.method fun t => do Extern.Rtype.noPackHeld "Comparable" t; pure (.bool (← typeInfo t).comparable)) #[.agg #[.pointer (some ⟨10, 270, none⟩)]]).run Tryz.prog w = .ok (.bool true) w := by kernel_rfl
theorem isMethodComparable (v : Value) (w : World) : (Go.method 571 238 v "Comparable").run Tryz.prog w = .ok (374, v) w := by kernel_rfl
theorem isComp : (Tryz.prog.info? 270).map (·.comparable) = some true := by kernel_rfl
theorem isSize : (Tryz.prog.info? 272).map (·.size) = some 1 := by kernel_rfl
theorem noIsW (v : Value) (xT : TypeId) (w : World) : (Instr.typeAssert (.iface 234 v) xT 240 true).run Tryz.prog w = .ok (.tuple #[.nilIface, .bool false]) w := run_typeAssert_lacksB Tryz.underlying240 (by kernel_rfl) (by kernel_rfl) v xT w
theorem hasUnwrapW (v : Value) (xT : TypeId) (w : World) : (Instr.typeAssert (.iface 234 v) xT 243 true).run Tryz.prog w = .ok (.tuple #[.iface 234 v, .bool true]) w := run_typeAssert_hasB Tryz.underlying243 (by kernel_rfl) v xT w
theorem methodUnwrap (v : Value) (w : World) : (Go.method 571 234 v "Unwrap").run Tryz.prog w = .ok (370, v) w := by kernel_rfl

theorem is_nil (t : TypeId) (v : Value) (w : World) :
    Calls Tryz.prog 95 #[.nilIface, .iface t v] w fun e w' => e = .returned (.bool false) ∧ w = w' := by
  have hn := run_eql_iface_nil_left (P := Tryz.prog) w t v Tryz.underlying179
  go_enter Tryz.func95, Tryz.ntmps95
  go_wp2
  go_ret
  exact ⟨rfl, rfl⟩

set_option maxHeartbeats 1000000 in
set_option maxRecDepth 20000 in
theorem is_wrap_same (pb : Nat) (b : Addr) (w : World) (h1 : w.cell? ⟨pb, 2, none⟩ = some (.iface 270 (.pointer (some b)))) :
    Calls Tryz.prog 95 #[.iface 234 (.pointer (some ⟨pb, 0, none⟩)), .iface 270 (.pointer (some b))] w fun e w' => e = .returned (.bool true) ∧ w = w' := by
  obtain ⟨i, hi, hcmp⟩ := Option.map_eq_some_iff.1 isComp
  obtain ⟨j, hj, hjs⟩ := Option.map_eq_some_iff.1 isSize
  have h8 := @run_callFunc_extern Tryz.prog 122 _ Extern.ReflectliteType.typeOf Tryz.func122 (by kernel_rfl) (by kernel_rfl) (by kernel_rfl) (by kernel_rfl)
  have h32 := @run_callFunc_extern Tryz.prog 374 _ (Extern.ReflectliteType.method fun t => do Extern.Rtype.noPackHeld "Comparable" t; pure (.bool (← typeInfo t).comparable)) Tryz.func374 (by kernel_rfl) (by kernel_rfl) (by kernel_rfl) (by kernel_rfl)
  have tT := isTypeOf
  have cT := isComparable
  have h33 : ∀ w : World, (callFunc 374 #[.agg #[.pointer (some ⟨10, 270, none⟩)]]).run Tryz.prog w = .ok (.value (.bool true)) w := fun w => by rw [h32, isComparable]; rfl
  clear h32 cT
  have mR := isMethodComparable
  have nW := noIsW
  have uW := hasUnwrapW
  have mU := methodUnwrap
  have heq := run_eql_iface_ptr_same (P := Tryz.prog) w b Tryz.underlying179 Tryz.underlying270 hi hcmp hj
  have hty := run_eql_iface_types (P := Tryz.prog) 234 270 (.pointer (some ⟨pb, 0, none⟩)) (.pointer (some b)) Tryz.underlying179 (by decide) w
  go_enter Tryz.func95, Tryz.ntmps95
  go_wp2
  refine wp_loop_rounds 2 ?_
  rw [rounds_succ]
  go_wp2
  rw [rounds_succ]
  go_wp2
  go_ret
  exact ⟨rfl, rfl⟩
end Go.Proofs.YtkelmhpoplbacaaGreatDoor.N
namespace Go.Proofs.YtkelmhpoplbacaaGreatDoor.N
open Go.RowKit Go.Shelf

theorem pre1 (l : List UInt8) (c : UInt8) : Lib.hasPrefix l [c] = (match l with | [] => false | a :: _ => a == c) := by
  unfold Lib.hasPrefix
  cases l with
  | nil => simp
  | cons a t => simp [List.isPrefixOf, Bool.beq_comm]
theorem trim1 (l : List UInt8) (c : UInt8) : Lib.trimPrefix l [c] = (match l with | [] => [] | a :: t => if a = c then t else a :: t) := by
  unfold Lib.trimPrefix
  rw [pre1]
  cases l with
  | nil => simp
  | cons a t => by_cases h : a = c <;> simp [h]

set_option maxHeartbeats 400000 in
theorem unsigned_any (s : ByteArray) (w : World) :
    Calls Tryz.prog 91 #[.string s] w fun e w' => e = .returned (.tuple #[.string (ba (signL (bl s)).1), .bool (signL (bl s)).2]) ∧ w = w' := by
  have HC : Hid (Calls Tryz.prog 118 #[.string s, .string ⟨#[45]⟩] w fun e w' => e = .returned (.tuple #[.string (ba (Lib.trimPrefix (bl s) [45])), .bool (Lib.hasPrefix (bl s) [45])]) ∧ w = w') :=
    (Tryz.strings_CutPrefix s ⟨#[45]⟩ w).mono fun e w' h => ⟨h.1, h.2.symm⟩
  have HT : Hid (Calls Tryz.prog 119 #[.string s, .string ⟨#[43]⟩] w fun e w' => e = .returned (.string (ba (Lib.trimPrefix (bl s) [43]))) ∧ w = w') :=
    (Tryz.strings_TrimPrefix s ⟨#[43]⟩ w).mono fun e w' h => ⟨h.1, h.2.symm⟩
  by_cases h : Lib.hasPrefix (bl s) [45] = true
  · have HR : Hid ((signL (bl s)).1 = Lib.trimPrefix (bl s) [45] ∧ (signL (bl s)).2 = true) := by
      unfold Hid
      rw [trim1]
      rw [pre1] at h
      unfold signL
      cases hb : bl s with
      | nil => rw [hb] at h; simp at h
      | cons a t => rw [hb] at h; simp at h; simp [h]
    rw [h] at HC
    clear h HT
    go_enter Tryz.func91, Tryz.ntmps91
    go_wp2_with fail
    refine HC.out.mono ?_
    rintro e w' ⟨rfl, rfl⟩
    go_wp2
    go_ret2
    refine ⟨?_, rfl⟩
    rw [HR.out.1, HR.out.2]
    rfl
  · have h' : Lib.hasPrefix (bl s) [45] = false := by simpa using h
    have HR : Hid ((signL (bl s)).1 = Lib.trimPrefix (bl s) [43] ∧ (signL (bl s)).2 = false) := by
      unfold Hid
      rw [trim1]
      rw [pre1] at h'
      unfold signL
      cases hb : bl s with
      | nil => simp
      | cons a t =>
        rw [hb] at h'
        have h45 : ¬ a = 45 := by simpa using h'
        by_cases h43 : a = 43
        · simp [h43]
        · simp [h45, h43]
    rw [h'] at HC
    clear h h'
    go_enter Tryz.func91, Tryz.ntmps91
    go_wp2_with fail
    refine HC.out.mono ?_
    rintro e w' ⟨rfl, rfl⟩
    go_wp2_with fail
    refine HT.out.mono ?_
    rintro e w' ⟨rfl, rfl⟩
    go_wp2
    go_ret2
    refine ⟨?_, rfl⟩
    rw [HR.out.1, HR.out.2]
    rfl

theorem pre2 (l : List UInt8) (c d : UInt8) : Lib.hasPrefix l [c, d] = (match l with | a :: b :: _ => a == c && b == d | _ => false) := by
  unfold Lib.hasPrefix
  match l with
  | [] => simp
  | [a] => simp [List.isPrefixOf]
  | a :: b :: t => simp [List.isPrefixOf, Bool.beq_comm]
theorem hex_pre (l : List UInt8) : hexL l = (Lib.hasPrefix l [48, 120] || Lib.hasPrefix l [48, 88]) := by
  rw [pre2, pre2]
  unfold hexL
  match l with
  | [] => rfl
  | [a] => rfl
  | a :: b :: t => exact Bool.and_or_distrib_left _ _ _
theorem hex_len {l : List UInt8} (h : hexL l = true) : 2 ≤ l.length := by
  unfold hexL at h
  match l with
  | [] => simp at h
  | [a] => simp at h
  | a :: b :: t => simp

def setOf (b : Nat) : ByteArray := if b = 16 then ⟨#[48, 49, 50, 51, 52, 53, 54, 55, 56, 57, 97, 98, 99, 100, 101, 102, 65, 66, 67, 68, 69, 70]⟩ else ⟨#[48, 49, 50, 51, 52, 53, 54, 55, 56, 57]⟩

set_option maxHeartbeats 400000 in
theorem based_any (s : ByteArray) (w : World) :
    Calls Tryz.prog 92 #[.string s] w fun e w' => e = .returned (.tuple #[.string (ba (baseL (bl s)).1), .string (setOf (baseL (bl s)).2), .int .i64 ((baseL (bl s)).2 : Int)]) ∧ w = w' := by
  have HA : Hid (Calls Tryz.prog 103 #[.string s, .string ⟨#[48, 120]⟩] w fun e w' => e = .returned (.bool (Lib.hasPrefix (bl s) [48, 120])) ∧ w = w') :=
    (Tryz.strings_HasPrefix s ⟨#[48, 120]⟩ w).mono fun e w' h => ⟨h.1, h.2.symm⟩
  have HB : Hid (Calls Tryz.prog 103 #[.string s, .string ⟨#[48, 88]⟩] w fun e w' => e = .returned (.bool (Lib.hasPrefix (bl s) [48, 88])) ∧ w = w') :=
    (Tryz.strings_HasPrefix s ⟨#[48, 88]⟩ w).mono fun e w' h => ⟨h.1, h.2.symm⟩
  have HX := hex_pre (bl s)
  have HR1 : Hid (hexL (bl s) = true → 2 ≤ s.size ∧ baseL (bl s) = (bl (s.extract 2 s.size), 16)) := by
    intro h
    have := hex_len h
    rw [bl_length] at this
    refine ⟨this, ?_⟩
    unfold baseL
    rw [if_pos h, bl_extract, List.take_of_length_le (by rw [bl_length]; exact Nat.le_refl _)]
  have HR2 : Hid (hexL (bl s) = false → baseL (bl s) = (bl s, 10)) := by
    intro h
    unfold baseL
    rw [if_neg (by rw [h]; decide)]
  cases ha : Lib.hasPrefix (bl s) [48, 120]
  · rw [ha] at HA
    cases hb : Lib.hasPrefix (bl s) [48, 88]
    · rw [hb] at HB
      have hR := HR2 (by rw [HX, ha, hb]; rfl)
      have HRR : Hid (baseL (bl s) = (bl s, 10)) := hR
      clear HX HR1 HR2 ha hb hR
      go_enter Tryz.func92, Tryz.ntmps92
      go_wp2_with fail
      refine HA.out.mono ?_
      rintro e w' ⟨rfl, rfl⟩
      go_wp2_with fail
      refine HB.out.mono ?_
      rintro e w' ⟨rfl, rfl⟩
      go_wp2
      refine bodyPost_ret (by simp [results, Tryz.results92, go_sem]; try rfl) rfl ?_
      refine ⟨?_, rfl⟩
      rw [HRR.out]
      dsimp only
      rw [ba_bl]
      rfl
    · rw [hb] at HB
      obtain ⟨h2, hR⟩ := HR1 (by rw [HX, ha, hb]; rfl)
      have HRR : Hid (baseL (bl s) = (bl (s.extract 2 s.size), 16)) := hR
      clear HX HR1 HR2 ha hb hR
      go_enter Tryz.func92, Tryz.ntmps92
      go_wp2_with fail
      refine HA.out.mono ?_
      rintro e w' ⟨rfl, rfl⟩
      go_wp2_with fail
      refine HB.out.mono ?_
      rintro e w' ⟨rfl, rfl⟩
      go_wp2
      refine bodyPost_ret (by simp [results, Tryz.results92, go_sem]; try rfl) rfl ?_
      refine ⟨?_, rfl⟩
      rw [HRR.out]
      dsimp only
      rw [ba_bl]
      rfl
  · rw [ha] at HA
    obtain ⟨h2, hR⟩ := HR1 (by rw [HX, ha]; rfl)
    have HRR : Hid (baseL (bl s) = (bl (s.extract 2 s.size), 16)) := hR
    clear HX HR1 HR2 ha hR
    go_enter Tryz.func92, Tryz.ntmps92
    go_wp2_with (go_at_call 103; refine HA.out.mono ?_; rintro e w' ⟨rfl, rfl⟩)
    refine bodyPost_ret (by simp [results, Tryz.results92, go_sem]; try rfl) rfl ?_
    refine ⟨?_, rfl⟩
    rw [HRR.out]
    dsimp only
    rw [ba_bl]
    rfl

theorem set_len (b : Nat) : (setOf b).size < 4294967281 := by
  unfold setOf; split <;> decide
theorem set_ascii (b : Nat) : ∀ (j : Nat) c, (setOf b).data.toList[j]? = some c → c.toNat < 128 := by
  unfold setOf; split <;> exact ascii_of_all (by decide)
theorem set_dec (b : Nat) (hb : b = 10 ∨ b = 16) (l : List UInt8) : l.all (fun c => (setOf b).data.toList.contains c) = l.all (fun c => decide (val1 c < b)) := by
  congr 1
  funext c
  rcases hb with rfl | rfl
  · exact dec_has c
  · exact hex_has c

theorem base_two (l : List UInt8) : (baseL l).2 = 10 ∨ (baseL l).2 = 16 := by
  unfold baseL; split <;> simp

set_option maxHeartbeats 400000 in
theorem madeOf_any (s : ByteArray) (b : Nat) (hb : b = 10 ∨ b = 16) (w : World) :
    Calls Tryz.prog 93 #[.string s, .string (setOf b)] w fun e w' => e = .returned (.bool (okD b (bl s))) ∧ Below w.heap.size w w' := by
  have HT : Hid (Calls Tryz.prog 55 #[.string s, .string (setOf b)] w fun e w' => e = .returned (.string (ba (Lib.trimLeftS (bl s) (setOf b).data.toList))) ∧ Below w.heap.size w w') :=
    (Any.strings_TrimLeft_laid Tryz.lays161 (by kernel_rfl) s (setOf b) w (set_len b) (set_ascii b)).mono fun e w' h => h
  generalize hS : setOf b = S at HT
  by_cases hne : bl s = []
  · have hs : s = ⟨#[]⟩ := bl_inj (by rw [hne]; rfl)
    subst hs
    clear HT
    go_enter Tryz.func93, Tryz.ntmps93
    go_wp2
    go_ret
    exact ⟨rfl, Below.refl _ _⟩
  · have hemp : s.toList.isEmpty = false := nonempty hne
    have hemp2 : ¬ s.toList = [] := by intro e; rw [e] at hemp; simp at hemp
    cases hk : okD b (bl s)
    · have h1 : ¬ Lib.trimLeftS (bl s) S.data.toList = [] := by
        rw [trim_all, ← hS, set_dec b hb]
        unfold okD at hk
        cases hh : bl s with
        | nil => exact absurd hh hne
        | cons a t => rw [hh] at hk; simpa using hk
      have h2 : (ba (Lib.trimLeftS (bl s) S.data.toList)).toList.isEmpty = false := nonempty (by rw [bl_ba]; exact h1)
      have h3 : ¬ (ba (Lib.trimLeftS (bl s) S.data.toList)).toList = [] := by intro e; rw [e] at h2; simp at h2
      generalize ba (Lib.trimLeftS (bl s) S.data.toList) = x at HT h2 h3
      clear h1 hk hS hne
      go_enter Tryz.func93, Tryz.ntmps93
      go_wp2_with (go_at_call 55; refine HT.out.mono ?_; rintro e w' ⟨rfl, hw⟩)
      go_ret
      exact ⟨rfl, hw⟩
    · have h1 : Lib.trimLeftS (bl s) S.data.toList = [] := by
        rw [trim_all, ← hS, set_dec b hb]
        unfold okD at hk
        rw [Bool.and_eq_true] at hk
        exact hk.2
      rw [h1, show ba [] = ⟨#[]⟩ from rfl] at HT
      clear h1 hk hS hne
      go_enter Tryz.func93, Tryz.ntmps93
      go_wp2_with (go_at_call 55; refine HT.out.mono ?_; rintro e w' ⟨rfl, hw⟩)
      go_ret
      exact ⟨rfl, hw⟩
end Go.Proofs.YtkelmhpoplbacaaGreatDoor.N
namespace Go.Proofs.YtkelmhpoplbacaaGreatDoor.N
open Go.RowKit Go.Shelf

/-- The library's error of the range lies where its variable says. -/
def Er (a : Addr) (w : World) : Prop := w.cell? ⟨0, 0, none⟩ = some (.iface 270 (.pointer (some a)))
theorem Er.pos {a : Addr} {w : World} (h : Er a w) : 0 < w.heap.size := by
  rcases Nat.eq_zero_or_pos w.heap.size with h0 | h0
  · exfalso
    unfold Er at h
    simp [World.cell?, Array.getElem?_eq_none (show w.heap.size ≤ 0 by omega)] at h
  · exact h0
theorem Er.below {a : Addr} {w w' : World} (h : Er a w) (hb : Below w.heap.size w w') : Er a w' := by
  unfold Er; rw [hb.cell h.pos]; exact h

theorem bs_app (t : ByteArray) : bl ((⟨#[45]⟩ : ByteArray) ++ t) = 45 :: bl t := by rw [bl_app]; rfl
theorem bs_size (t : ByteArray) : ((⟨#[45]⟩ : ByteArray) ++ t).size = t.size + 1 := by rw [← bl_length, bs_app, ← bl_length]; rfl

theorem sign_len (l : List UInt8) : (signL l).1.length ≤ l.length := by
  unfold signL
  split
  · simp
  · split
    · simp
    · split <;> simp
theorem base_len (l : List UInt8) : (baseL l).1.length ≤ l.length := by
  unfold baseL
  split
  · simp
  · exact Nat.le_refl _

def tupV (p : Int × Int) : Value := .tuple #[.int .i64 p.1, .int .i64 p.2]
/-- The public ParseInt at both bases. -/
theorem pub_both (b : Nat) (hb : b = 10 ∨ b = 16) (t : ByteArray) (hok : okD b (bl t) = true) (a : Addr) (w : World) (hE : Er a w) (hs : t.size ≤ 140737488355328) :
    Calls Tryz.prog 94 #[.string ((⟨#[45]⟩ : ByteArray) ++ t), .int .i64 (b : Int), .int .i64 63] w fun e w' => PubPost (numV b 0 (bl t)) (.iface 270 (.pointer (some a))) w e w' := by
  refine pub_any (b : Int) _ _ _ w (by rw [bs_size]; omega) hE (.inr ⟨_, _, rfl⟩) ?_
  rcases hb with rfl | rfl
  · exact pint10 _ t (bs_app t) hok (by omega) w
  · exact pint16 _ t (bs_app t) hok (by omega) w

set_option maxHeartbeats 800000 in
set_option maxRecDepth 20000 in
theorem parse_any (s : ByteArray) (a : Addr) (w : World) (hE : Er a w) (hs : s.size ≤ 140737488355328) :
    Calls Tryz.prog 62 #[.string s] w fun e w' => e = .returned (tupV (parseG (bl s))) ∧ Below w.heap.size w w' := by
  have HU : Hid (Calls Tryz.prog 91 #[.string s] w fun e w' => e = .returned (.tuple #[.string (ba (signL (bl s)).1), .bool (signL (bl s)).2]) ∧ w = w') := unsigned_any s w
  have h1 : (ba (signL (bl s)).1).size ≤ 140737488355328 := by rw [ba_size]; exact Nat.le_trans (sign_len _) (by rw [bl_length]; exact hs)
  have hp : parseG (bl s) = finD (signL (bl s)).2 (baseL (signL (bl s)).1).2 (baseL (signL (bl s)).1).1 := rfl
  rw [hp]
  clear hp
  obtain ⟨s1, hs1⟩ : ∃ s1, s1 = ba (signL (bl s)).1 := ⟨_, rfl⟩
  have hs1b : (signL (bl s)).1 = bl s1 := by rw [hs1, bl_ba]
  rw [← hs1] at HU h1
  rw [hs1b]
  generalize (signL (bl s)).2 = m at HU ⊢
  clear hs1 hs1b hs
  have HB : Hid (Calls Tryz.prog 92 #[.string s1] w fun e w' => e = .returned (.tuple #[.string (ba (baseL (bl s1)).1), .string (setOf (baseL (bl s1)).2), .int .i64 ((baseL (bl s1)).2 : Int)]) ∧ w = w') := based_any s1 w
  have hb := base_two (bl s1)
  have h2 : (ba (baseL (bl s1)).1).size ≤ 140737488355328 := by rw [ba_size]; exact Nat.le_trans (base_len _) (by rw [bl_length]; exact h1)
  obtain ⟨t, ht⟩ : ∃ t, t = ba (baseL (bl s1)).1 := ⟨_, rfl⟩
  have htb : (baseL (bl s1)).1 = bl t := by rw [ht, bl_ba]
  rw [← ht] at HB h2
  rw [htb]
  generalize (baseL (bl s1)).2 = b at HB hb ⊢
  clear ht htb h1
  have HM : Hid (Calls Tryz.prog 93 #[.string t, .string (setOf b)] w fun e w' => e = .returned (.bool (okD b (bl t))) ∧ Below w.heap.size w w') := madeOf_any t b hb w
  have HP : Hid (∀ W, Er a W → okD b (bl t) = true → Calls Tryz.prog 94 #[.string ((⟨#[45]⟩ : ByteArray) ++ t), .int .i64 (b : Int), .int .i64 63] W fun e w' => PubPost (numV b 0 (bl t)) (.iface 270 (.pointer (some a))) W e w') := fun W hW hok => pub_both b hb t hok a W hW h2
  generalize setOf b = S at HB HM
  have hz : ¬ 9223372036854775807 < (⟨#[45]⟩ : ByteArray).size + t.size := by
    have : (⟨#[45]⟩ : ByteArray).size = 1 := rfl
    omega
  have HE : Hid (Er a w) := hE
  obtain ⟨bi, hbi⟩ : ∃ bi : Int, bi = (b : Int) := ⟨_, rfl⟩
  rw [← hbi] at HB HP
  clear hE hb hbi
  cases hok : okD b (bl t)
  · have HR : Hid (finD m b (bl t) = (0, 3)) := by unfold Hid finD; rw [hok]; rfl
    rw [hok] at HM
    clear hok HP
    go_enter Tryz.func62, Tryz.ntmps62
    go_wp2_with fail
    refine HU.out.mono ?_
    rintro e w' ⟨rfl, rfl⟩
    go_wp2_with fail
    refine HB.out.mono ?_
    rintro e w' ⟨rfl, rfl⟩
    go_wp2_with fail
    refine HM.out.mono ?_
    rintro e w1 ⟨rfl, hw1⟩
    go_wp2
    go_ret2
    refine ⟨?_, hw1⟩
    rw [HR.out]
    rfl
  · rw [hok] at HM
    have HK : Hid (okD b (bl t) = true) := hok
    clear hok
    go_enter Tryz.func62, Tryz.ntmps62
    go_wp2_with fail
    refine HU.out.mono ?_
    rintro e w' ⟨rfl, rfl⟩
    go_wp2_with fail
    refine HB.out.mono ?_
    rintro e w' ⟨rfl, rfl⟩
    go_wp2_with fail
    refine HM.out.mono ?_
    rintro e w1 ⟨rfl, hw1⟩
    have HE1 : Hid (Er a w1) := HE.out.below hw1
    have HW1 : Hid (Below w.heap.size w w1) := hw1
    clear hw1
    go_wp2_with fail
    refine (HP.out _ HE1.out HK.out).mono ?_
    rintro e w2 ⟨hw2, hcase⟩
    have HE2 : Hid (Er a w2) := HE1.out.below hw2
    have HW2 : Hid (Below w.heap.size w w2) := HW1.out.trans (hw2.mono HW1.out.size)
    have hc2 : w2.cell? ⟨0, 0, none⟩ = some (.iface 270 (.pointer (some a))) := HE2.out
    rcases hcase with ⟨hv, rfl⟩ | ⟨hv, g, x, y, rfl, hg, hgg⟩
    · have HR : Hid (finD m b (bl t) = (if m then -(numV b 0 (bl t) : Int) else (numV b 0 (bl t) : Int), 0)) := by
        unfold Hid finD
        rw [if_pos HK.out, if_neg (by omega)]
      have hv2 : (numV b 0 (bl t) : Int) ≤ 4611686018427387904 := by unfold most at hv; omega
      have hv0 : 0 ≤ (numV b 0 (bl t) : Int) := by omega
      generalize (numV b 0 (bl t) : Int) = v at HR hv2 hv0
      have HI : Hid (Calls Tryz.prog 95 #[.nilIface, .iface 270 (.pointer (some a))] w2 fun e w' => e = .returned (.bool false) ∧ w2 = w') := is_nil _ _ w2
      clear hv HP HK hw2
      cases m
      · go_wp2_with fail
        refine HI.out.mono ?_
        rintro e w3 ⟨rfl, rfl⟩
        go_wp2
        go_ret2
        refine ⟨?_, HW2.out⟩
        rw [HR.out]
        simp [tupV]
      · go_wp2_with fail
        refine HI.out.mono ?_
        rintro e w3 ⟨rfl, rfl⟩
        go_wp2
        go_ret2
        refine ⟨?_, HW2.out⟩
        rw [HR.out]
        simp [tupV]
    · have HR : Hid (finD m b (bl t) = (0, 5)) := by
        unfold Hid finD
        rw [if_pos HK.out, if_pos (by omega)]
      have hcg : w2.cell? ⟨g, 2, none⟩ = some (.iface 270 (.pointer (some a))) := by
        simp [World.cell?, hgg]
      have HI : Hid (Calls Tryz.prog 95 #[.iface 234 (.pointer (some ⟨g, 0, none⟩)), .iface 270 (.pointer (some a))] w2 fun e w' => e = .returned (.bool true) ∧ w2 = w') := is_wrap_same g a w2 hcg
      clear hv HP HK hw2 hcg hgg
      go_wp2_with fail
      refine HI.out.mono ?_
      rintro e w3 ⟨rfl, rfl⟩
      go_wp2
      go_ret2
      refine ⟨?_, HW2.out⟩
      rw [HR.out]
      rfl
end Go.Proofs.YtkelmhpoplbacaaGreatDoor.N
namespace Go.Proofs.YtkelmhpoplbacaaGreatDoor.N
open Go.RowKit Go.Shelf

set_option maxHeartbeats 400000 in
theorem compare_any (s t : ByteArray) (a : Addr) (w : World) (hE : Er a w) (hs : s.size ≤ 140737488355328) (ht : t.size ≤ 140737488355328) :
    Calls Tryz.prog 63 #[.string s, .string t] w fun e w' => e = .returned (tupV (cmpG (bl s) (bl t))) ∧ Below w.heap.size w w' := by
  have HP : Hid (Calls Tryz.prog 62 #[.string s] w fun e w' => e = .returned (.tuple #[.int .i64 (parseG (bl s)).1, .int .i64 (parseG (bl s)).2]) ∧ Below w.heap.size w w') := parse_any s a w hE hs
  have HQ : Hid (∀ W, Er a W → Calls Tryz.prog 62 #[.string t] W fun e w' => e = .returned (.tuple #[.int .i64 (parseG (bl t)).1, .int .i64 (parseG (bl t)).2]) ∧ Below W.heap.size W w') := fun W hW => parse_any t a W hW ht
  have HC : Hid (∀ x y W, Calls Tryz.prog 96 #[.int .i64 x, .int .i64 y] W fun e w' => e = .returned (.int .i64 (Lib.compareInt x y)) ∧ W = w') := fun x y W => (Tryz.cmp_Compare_int x y W).mono fun e w' h => ⟨h.1, h.2.symm⟩
  have HE : Hid (Er a w) := hE
  unfold cmpG
  generalize (parseG (bl s)).1 = x at HP ⊢
  generalize (parseG (bl s)).2 = y at HP ⊢
  generalize (parseG (bl t)).1 = x2 at HQ ⊢
  generalize (parseG (bl t)).2 = y2 at HQ ⊢
  obtain ⟨p, hp⟩ : ∃ p : Int × Int, p = (if y ≠ 0 then ((0 : Int), y) else if y2 ≠ 0 then (0, y2) else (Lib.compareInt x x2, 0)) := ⟨_, rfl⟩
  rw [← hp]
  clear hE hs ht
  by_cases h1 : y = 0
  · by_cases h2 : y2 = 0
    · rw [if_neg (by simpa using h1), if_neg (by simpa using h2)] at hp
      subst hp
      subst h1
      subst h2
      go_enter Tryz.func63, Tryz.ntmps63
      go_wp2_with fail
      refine HP.out.mono ?_
      rintro e w1 ⟨rfl, hw1⟩
      have HB1 : Hid (Below w.heap.size w w1) := hw1
      clear hw1
      go_wp2_with fail
      refine (HQ.out _ (HE.out.below HB1.out)).mono ?_
      rintro e w2 ⟨rfl, hw2⟩
      have HB2 : Hid (Below w.heap.size w w2) := HB1.out.trans (hw2.mono HB1.out.size)
      clear hw2
      go_wp2_with fail
      refine (HC.out _ _ _).mono ?_
      rintro e w3 ⟨rfl, rfl⟩
      go_wp2
      go_ret2
      exact ⟨rfl, HB2.out⟩
    · have h2b : (y2 == 0) = false := by simpa using h2
      rw [if_neg (by simpa using h1), if_pos h2] at hp
      subst hp
      subst h1
      go_enter Tryz.func63, Tryz.ntmps63
      go_wp2_with fail
      refine HP.out.mono ?_
      rintro e w1 ⟨rfl, hw1⟩
      have HB1 : Hid (Below w.heap.size w w1) := hw1
      clear hw1
      go_wp2_with fail
      refine (HQ.out _ (HE.out.below HB1.out)).mono ?_
      rintro e w2 ⟨rfl, hw2⟩
      have HB2 : Hid (Below w.heap.size w w2) := HB1.out.trans (hw2.mono HB1.out.size)
      clear hw2
      go_wp2
      go_ret2
      exact ⟨rfl, HB2.out⟩
  · have h1b : (y == 0) = false := by simpa using h1
    rw [if_pos h1] at hp
    subst hp
    go_enter Tryz.func63, Tryz.ntmps63
    go_wp2_with fail
    refine HP.out.mono ?_
    rintro e w1 ⟨rfl, hw1⟩
    have HB1 : Hid (Below w.heap.size w w1) := hw1
    clear hw1
    go_wp2
    go_ret2
    exact ⟨rfl, HB1.out⟩

end Go.Proofs.YtkelmhpoplbacaaGreatDoor.N
