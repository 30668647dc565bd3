/-
  WMath WJoin WQuote
-/
import Derived.Test.YtpcpcfnmcfjomaaGreatDoorK17
import Derived.Test.YtpcpcfnmcfjomaaGreatDoorK08
import Derived.Maps.AppendAt
namespace Go.Proofs.YtpcpcfnmcfjomaaGreatDoor.K
abbrev Bs := List UInt8
section cut
variable {σ : Type}
variable {st : σ → UInt8 → σ} {f : σ → UInt8 → Bool}
def joinB : List Bs → Bs
  | [] => []
  | x :: t => match t with
    | [] => x
    | y :: t' => x ++ 32 :: joinB (y :: t')
theorem joinB_cons2 (x y : Bs) (t : List Bs) : joinB (x :: y :: t) = x ++ 32 :: joinB (y :: t) := by simp [joinB]
end cut
def plainC (c : UInt8) : Bool := (97 ≤ c && c ≤ 122) || (65 ≤ c && c ≤ 90) || (48 ≤ c && c ≤ 57) || [95, 46, 47, 43, 45, 44, 58, 61, 64, 37].contains c
def esc (c : UInt8) : Bs := if c = 39 then [39, 92, 39, 39] else [c]
def quote (l : Bs) : Bs := if l ≠ [] ∧ l.all plainC = true then l else [39] ++ l.flatMap esc ++ [39]
theorem esc_length (l : Bs) : (l.flatMap esc).length ≤ 4 * l.length := by
  induction l with
  | nil => simp
  | cons c t ih =>
    simp only [List.flatMap_cons, List.length_append, List.length_cons]
    have : (esc c).length ≤ 4 := by unfold esc; split <;> simp
    omega
end Go.Proofs.YtpcpcfnmcfjomaaGreatDoor.K
namespace Go.Proofs.YtpcpcfnmcfjomaaGreatDoor.WD
open Go.RowKit Go.Shelf
abbrev E : ByteArray := ⟨#[]⟩
theorem bl_E {x : ByteArray} : bl x = [] ↔ x = E := ⟨fun h => bl_inj h, fun h => by rw [h]; rfl⟩
theorem lib_join (l : List (List UInt8)) : Lib.join l [32] = K.joinB l := by
  induction l with
  | nil => rfl
  | cons x t ih =>
    cases t with
    | nil => exact Lib.join_one x [32]
    | cons y t =>
      rw [K.joinB_cons2, ← ih, Lib.join_cons, Lib.join_cons]; simp [Lib.joinTail]
theorem owns_slice {base : Nat} {w : World} {v : Value} {n : Nat} {xs : List Value} (h : w.ownsRow base 9 1 v n xs) : ∃ a cap, v = .slice a n cap := by
  rcases h.2 with ⟨rfl, rfl⟩ | ⟨g, cap, cur, rfl, _⟩
  · exact ⟨_, _, rfl⟩
  · exact ⟨_, _, rfl⟩
theorem info9 : (Tryz.prog.info? 9).map (fun i => (i.zero, i.size, i.bytes)) = some (some (.string ⟨#[]⟩), 1, 16) := by kernel_rfl
theorem join_own (v : Value) (xs : List ByteArray) (base : Nat) (w : World) (h : w.ownsRow base 9 1 v xs.length (xs.map Value.string)) (hn : xs.length ≤ 3000000) (hl : (K.joinB (xs.map bl)).length ≤ 140737488355328) :
    Calls Tryz.prog 108 #[v, .string ⟨#[32]⟩] w fun e w' => e = .returned (.string (ba (K.joinB (xs.map bl)))) ∧ Below w.heap.size w w' := by
  have hj : Lib.join (xs.map (·.data.toList)) (⟨#[32]⟩ : ByteArray).data.toList = K.joinB (xs.map bl) := lib_join (xs.map bl)
  by_cases hne : xs = []
  · subst hne
    obtain ⟨a, cap, rfl⟩ := owns_slice h
    refine (Tryz.strings_Join_none a cap ⟨#[32]⟩ w).mono ?_
    rintro e w' ⟨rfl, rfl⟩
    exact ⟨rfl, Below.refl _ _⟩
  · obtain ⟨hxl, ⟨hv, hn0⟩ | ⟨g, cap, cur, rfl, hg, hcur, hcap, hcm, hcs, hct⟩⟩ := h
    · exact absurd (List.length_eq_zero_iff.1 hn0) hne
    · have hgl : g < w.heap.size := (Array.getElem?_eq_some_iff.1 hcur).1
      refine (Tryz.strings_Join g 0 cap xs ⟨#[32]⟩ w ?_ hgl (by omega) (by omega) (by rw [hj]; omega)).mono ?_
      · intro j x hx
        obtain ⟨hjl, rfl⟩ := List.getElem?_eq_some_iff.1 hx
        have hjc : cur.toList[j]? = some (.string xs[j]) := by
          have h2 : (cur.toList.take (xs.length * 1))[j]? = (xs.map Value.string)[j]? := by rw [hct]
          rw [List.getElem?_take_of_lt (by omega)] at h2
          rw [h2]; simp [List.getElem?_eq_getElem hjl]
        rw [Nat.zero_add]
        simp only [World.cell?, hcur]
        simpa using hjc
      · rintro e w' ⟨rfl, hb⟩
        exact ⟨by rw [hj]; rfl, hb⟩
def neE (x : ByteArray) : Bool := decide (x ≠ E)
def told (l : List ByteArray) : List ByteArray := l.filter neE
theorem told_snoc (l : List ByteArray) (k : Nat) (h : k < l.length) : told (l.take (k + 1)) = told (l.take k) ++ (if neE l[k] then [l[k]] else []) := by
  unfold told; rw [List.take_succ_eq_append_getElem h, List.filter_append, List.filter_cons, List.filter_nil]
theorem told_len (l : List ByteArray) (k : Nat) : (told (l.take k)).length ≤ l.length := by
  have := List.length_filter_le neE (l.take k)
  unfold told; simp at this; omega
def joined (l : List ByteArray) : ByteArray := ba (K.joinB ((told l).map bl))
set_option maxHeartbeats 1600000 in
set_option maxRecDepth 20000 in
theorem join_any (a : Option Addr) (n c : Nat) (l : List ByteArray) (w : World) (hl : n ≤ 2000000) (hjs : (joined l).size ≤ 140737488355328) (hw : Words w.heap.size w (.slice a n c) l) :
    Calls Tryz.prog 60 #[.slice a n c] w fun e w' => e = .returned (.string (joined l)) ∧ Below w.heap.size w w' := by
  obtain ⟨i0, hi, hz0, hz1, hz2⟩ := info_parts info9
  have HW : Hid (n = l.length ∧ Words w.heap.size w (.slice a n c) l) := ⟨hw.len, hw⟩
  obtain ⟨j, hj⟩ : ∃ j, j = joined l := ⟨_, rfl⟩
  have HJ : Hid (∀ v W base, W.ownsRow base 9 1 v (told l).length ((told l).map Value.string) → Calls Tryz.prog 108 #[v, .string ⟨#[32]⟩] W fun e w' => e = .returned (.string j) ∧ Below W.heap.size W w') := by
    intro v W base h
    have h1 : (told l).length ≤ l.length := List.length_filter_le neE l
    have h2 : (K.joinB ((told l).map bl)).length = (joined l).size := by rw [← bl_length]; unfold joined; rw [bl_ba]
    have h3 := hw.len
    have := join_own v (told l) base W h (by omega) (by omega)
    rw [hj]; exact this
  rw [← hj]
  clear hw hjs hj
  go_enter Tryz.func60, Tryz.ntmps60
  go_wp2
  go_loopw [3, 8] (fun v vi wr => ∃ k : Nat, k ≤ n ∧ vi = .int .i64 k ∧ wr.ownsRow w.heap.size 9 1 v (told (l.take k)).length ((told (l.take k)).map Value.string) ∧ Below w.heap.size w wr)
    (fun _ vi _ => n - (intOf vi).toNat)
  case atStart => exact ⟨0, Nat.zero_le _, rfl, World.ownsRow_nil _ _ _ _, Below.refl _ _⟩
  case round =>
    obtain ⟨k, hk, rfl, hown, hb⟩ := hrel
    have hbs := hb.size
    by_cases hlt : k < n
    · have hkl : k < l.length := by rw [← HW.out.1]; exact hlt
      have hfl := told_len l k
      rw [← HW.out.1] at hfl
      have hil : (k : Int) < (n : Int) := by omega
      obtain ⟨b, o, rfl, hbB, hcx0⟩ := HW.out.2.pick k hkl
      obtain ⟨x, hxe⟩ : ∃ x, x = l[k] := ⟨_, rfl⟩
      have hcx : wr.cell? ⟨b, o + k, none⟩ = some (.string x) := by rw [hb.cell (p := ⟨b, o + k, none⟩) hbB, hxe]; exact hcx0
      have HF : Hid (told (l.take (k + 1)) = told (l.take k) ++ (if neE x then [x] else [])) := by
        rw [hxe]; exact told_snoc l k hkl
      clear hxe hcx0
      by_cases hxE : x = E
      · subst hxE
        have HF2 : Hid (told (l.take (k + 1)) = told (l.take k)) := by rw [HF.out]; simp [neE, Hid]
        clear HF
        go_wp2
        go_roundw
        case rel => exact ⟨k + 1, by omega, by go_num, by rw [HF2.out]; exact hown, hb⟩
        case measure => simp [intOf]; omega
      · have HF2 : Hid (told (l.take (k + 1)) = told (l.take k) ++ [x]) := by rw [HF.out]; simp [neE, Hid, hxE]
        have t1 : ¬ x.toList = [] := by rw [Lib.toList_data]; exact fun e => hxE (bl_E.1 e)
        have t1' : x.toList.isEmpty = false := by simpa using t1
        clear HF hxE
        go_wp2_with (at_builtin; refine wpList_append_own _ rfl _ _ 24 rfl w.heap.size 9 i0 (.string ⟨#[]⟩) 1 16 Tryz.underlying24 hi hz0 hz1 hz2 rfl (by decide) _ _ _ rfl (hown.alloc _) ⟨wr.heap.size, 0, none⟩ 1 1 [.string x] rfl rfl ?c1 ?c2 ?c3 ?c4 ?c5 ?_)
        case c1 =>
          intro j u hj
          match j, hj with
          | 0, hj => simp at hj; subst hj; simp [Addr.add]
        case c2 => intro u hu; simp at hu; subst hu; rfl
        case c3 => unfold maxLen; omega
        case c4 => omega
        case c5 => simp; omega
        intro v' w2 hown' hgrow _
        have hb3 : Below w.heap.size w w2 := (hb.alloc hbs _).grown hgrow (by simp; omega) (fun k hk => (hown.lt k hk).1)
        have hown2 : w2.ownsRow w.heap.size 9 1 v' (told (l.take (k + 1))).length ((told (l.take (k + 1))).map Value.string) := by
          rw [HF2.out]; simpa using hown'
        clear hown' hgrow hown hb hcx
        go_wp2
        go_roundw
        case rel => exact ⟨k + 1, by omega, by go_num, hown2, hb3⟩
        case measure => simp [intOf]; omega
    · obtain rfl : k = n := by omega
      have HO : Hid (wr.ownsRow w.heap.size 9 1 u3 (told l).length ((told l).map Value.string)) := by
        have h := hown
        rw [HW.out.1, List.take_length] at h; exact h
      clear hown
      go_wp2_with fail
      refine (HJ.out _ _ _ HO.out).mono ?_
      rintro e w2 ⟨rfl, hb2⟩
      have hb3 := hb.trans (hb2.mono hbs)
      clear hb hb2 HO
      go_wp2
      go_ret
      exact ⟨rfl, hb3⟩
end Go.Proofs.YtpcpcfnmcfjomaaGreatDoor.WD
namespace Go.Proofs.YtpcpcfnmcfjomaaGreatDoor.WD
open Go.RowKit Go.Shelf
theorem index_cons (c : UInt8) (t : List UInt8) : Lib.index (c :: t) [39] = if c = 39 then 0 else if Lib.index t [39] = -1 then -1 else Lib.index t [39] + 1 := by
  conv => lhs; unfold Lib.index
  by_cases h : c = 39
  · subst h; simp
  · have : (39 == c) = false := by simpa using fun e => h e.symm
    simp [List.isPrefixOf, this, h]
theorem repl_all (s : List UInt8) : Lib.replaceK [39] [39, 92, 39, 39] (Lib.count s [39]) s = s.flatMap K.esc := by
  induction s with
  | nil => rfl
  | cons c t ih =>
    have hi := index_cons c t
    by_cases hc : c = 39
    · rw [if_pos hc] at hi
      rw [Lib.count_hit (i := 0) (by simp) hi, Nat.add_comm, Lib.replaceK_hit _ _ _ _ 0 hi]
      simp only [List.length_singleton, Nat.zero_add, List.drop_succ_cons, List.drop_zero, List.take_zero, List.nil_append]
      rw [ih, List.flatMap_cons, hc]; rfl
    · rw [if_neg hc] at hi
      have he : K.esc c = [c] := by unfold K.esc; rw [if_neg hc]
      rw [List.flatMap_cons, he]
      rcases Lib.index_spec t [39] with ⟨h1, _⟩ | ⟨i, h1, _⟩
      · rw [h1, if_pos rfl] at hi
        rw [Lib.count_miss hi]
        rw [Lib.count_miss h1] at ih
        rw [← ih]; rfl
      · have hi' : Lib.index (c :: t) [39] = ((i + 1 : Nat) : Int) := by rw [hi, if_neg (by omega), h1]; rfl
        have e1 := Lib.count_hit (s := c :: t) (by simp) hi'
        have e2 := Lib.count_hit (s := t) (by simp) h1
        have e3 : (c :: t).drop (i + 1 + ([39] : List UInt8).length) = t.drop (i + ([39] : List UInt8).length) := by simp [List.drop_succ_cons]
        rw [e3] at e1
        rw [e1, Nat.add_comm, Lib.replaceK_hit _ _ _ _ _ hi', e3]
        rw [e2, Nat.add_comm, Lib.replaceK_hit _ _ _ _ _ h1] at ih
        rw [← ih]; simp
theorem index_plain : ∀ n : Fin 256, (0 ≤ Lib.indexByte [95, 46, 47, 43, 45, 44, 58, 61, 64, 37] (UInt8.ofNat n.val) ↔ [95, 46, 47, 43, 45, 44, 58, 61, 64, 37].contains (UInt8.ofNat n.val) = true) := by decide +kernel
theorem plain_facts (c : UInt8) : ∃ X : Int, Lib.indexByte [95, 46, 47, 43, 45, 44, 58, 61, 64, 37] c = X ∧ (K.plainC c = true ↔ (97 ≤ (c.toNat : Int) ∧ (c.toNat : Int) ≤ 122) ∨ (65 ≤ (c.toNat : Int) ∧ (c.toNat : Int) ≤ 90) ∨ (48 ≤ (c.toNat : Int) ∧ (c.toNat : Int) ≤ 57) ∨ 0 ≤ X) := by
  refine ⟨_, rfl, ?_⟩
  have h := index_plain ⟨c.toNat, c.toNat_lt⟩
  simp only [UInt8.ofNat_toNat] at h
  rw [h]
  have l (a b : UInt8) : a ≤ b ↔ a.toNat ≤ b.toNat := UInt8.le_iff_toNat_le
  unfold K.plainC
  simp only [Bool.or_eq_true, Bool.and_eq_true, decide_eq_true_eq, l]
  have e1 : (97 : UInt8).toNat = 97 := rfl
  have e2 : (122 : UInt8).toNat = 122 := rfl
  have e3 : (65 : UInt8).toNat = 65 := rfl
  have e4 : (90 : UInt8).toNat = 90 := rfl
  have e5 : (48 : UInt8).toNat = 48 := rfl
  have e6 : (57 : UInt8).toNat = 57 := rfl
  rw [e1, e2, e3, e4, e5, e6]
  constructor
  · rintro (((h | h) | h) | h)
    · exact .inl (by omega)
    · exact .inr (.inl (by omega))
    · exact .inr (.inr (.inl (by omega)))
    · exact .inr (.inr (.inr h))
  · rintro (h | h | h | h)
    · exact .inl (.inl (.inl (by omega)))
    · exact .inl (.inl (.inr (by omega)))
    · exact .inl (.inr (by omega))
    · exact .inr h
set_option maxRecDepth 20000 in
set_option maxHeartbeats 1000000 in
theorem isPlain_any (c : UInt8) (w : World) :
    Calls Tryz.prog 154 #[.int .u8 c.toNat] w fun e w' => e = .returned (.bool (K.plainC c)) ∧ w = w' := by
  obtain ⟨X, hX, hX0⟩ := plain_facts c
  have HO : Hid (∀ W, Calls Tryz.prog 189 #[.string ⟨#[95, 46, 47, 43, 45, 44, 58, 61, 64, 37]⟩, .int .u8 c.toNat] W fun e w' => e = .returned (.int .i64 X) ∧ W = w') := by
    intro W
    have h := Tryz.strings_IndexByte ⟨#[95, 46, 47, 43, 45, 44, 58, 61, 64, 37]⟩ c.toNat W
    rw [u8_back] at h
    rw [← hX]; exact h.mono fun e w' h => ⟨h.1, h.2.symm⟩
  have HX : Hid (K.plainC c = true ↔ (97 ≤ (c.toNat : Int) ∧ (c.toNat : Int) ≤ 122) ∨ (65 ≤ (c.toNat : Int) ∧ (c.toNat : Int) ≤ 90) ∨ (48 ≤ (c.toNat : Int) ∧ (c.toNat : Int) ≤ 57) ∨ 0 ≤ X) := hX0
  clear hX hX0
  go_enter Tryz.func154, Tryz.ntmps154
  go_wp2_with (go_at_call 189; refine (HO.out _).mono ?_; rintro e w' ⟨rfl, rfl⟩)
  all_goals go_ret
  all_goals refine ⟨ret_bool ?_, rfl⟩
  all_goals (rw [Bool.eq_iff_iff, HX.out]; simp; omega)
set_option maxRecDepth 20000 in
set_option maxHeartbeats 400000 in
theorem allPlain_any (s : ByteArray) (w : World) (hs : s.size ≤ 140737488355328) :
    Calls Tryz.prog 107 #[.string s] w fun e w' => e = .returned (.bool ((bl s).all K.plainC)) ∧ w = w' := by
  have HO : Hid (∀ (c : UInt8) W, Calls Tryz.prog 154 #[.int .u8 c.toNat] W fun e w' => e = .returned (.bool (K.plainC c)) ∧ W = w') := fun c W => isPlain_any c W
  go_enter Tryz.func107, Tryz.ntmps107
  go_wp2
  go_loopw [6] (fun vi wr => ∃ k : Nat, k ≤ s.size ∧ vi = .int .i64 k ∧ w = wr ∧ Hid (((bl s).take k).all K.plainC = true)) (fun vi _ => s.size - (intOf vi).toNat)
  case atStart => exact ⟨0, Nat.zero_le _, rfl, rfl, by simp [Hid]⟩
  case round =>
    obtain ⟨k, hk, rfl, rfl, HA⟩ := hrel
    by_cases hlt : k < s.size
    · have hil : (k : Int) < (s.size : Int) := by omega
      have HO1 : Hid (∀ W, Calls Tryz.prog 154 #[.int .u8 s[k].toNat] W fun e w' => e = .returned (.bool (K.plainC s[k])) ∧ W = w') := fun W => HO.out s[k] W
      cases hp : K.plainC s[k] with
      | true =>
        have HA1 : Hid (((bl s).take (k + 1)).all K.plainC = true) := by unfold Hid; rw [take_snoc s k hlt, List.all_append, HA.out]; simp [hp]
        rw [hp] at HO1
        clear hp
        go_wp2_with (go_at_call 154; refine (HO1.out _).mono ?_; rintro e w' ⟨rfl, rfl⟩)
        go_roundw
        case rel => exact ⟨k + 1, by omega, by go_num, trivial, HA1⟩
        case measure => simp [intOf]; omega
      | false =>
        have HA1 : Hid ((bl s).all K.plainC = false) := by
          unfold Hid
          rw [← List.take_append_drop k (bl s), List.all_append, drop_bl s k hlt]
          simp [hp]
        rw [hp] at HO1
        clear hp
        go_wp2_with (go_at_call 154; refine (HO1.out _).mono ?_; rintro e w' ⟨rfl, rfl⟩)
        go_ret
        exact ⟨ret_bool HA1.out.symm, rfl⟩
    · obtain rfl : k = s.size := by omega
      have HA1 : Hid ((bl s).all K.plainC = true) := by have := HA.out; rw [take_all] at this; exact this
      go_wp2
      go_ret
      exact ⟨ret_bool HA1.out.symm, rfl⟩
theorem bl_app (a b : ByteArray) : bl (a ++ b) = bl a ++ bl b := by simp [bl]
theorem bl_one (c : UInt8) : bl ⟨#[c]⟩ = [c] := rfl
theorem quote_adds (r q : ByteArray) (hr : r.size ≤ 8000000) (hq : (⟨#[39]⟩ ++ r ++ ⟨#[39]⟩ : ByteArray) = q) :
    ∃ q1, (∀ W, (Op.stringOp .add ⟨#[39]⟩ r).run Tryz.prog W = .ok (.string q1) W) ∧ (∀ W, (Op.stringOp .add q1 ⟨#[39]⟩).run Tryz.prog W = .ok (.string q) W) := by
  have h1 : (⟨#[39]⟩ : ByteArray).size = 1 := rfl
  refine ⟨⟨#[39]⟩ ++ r, fun W => run_string_add_sum W _ _ (by rw [h1]; omega), fun W => ?_⟩
  rw [← hq]
  exact run_string_add_sum W _ _ (by rw [ByteArray.size_append, h1]; omega)
set_option maxRecDepth 20000 in
set_option maxHeartbeats 400000 in
theorem quote_any (s : ByteArray) (m : Int) (w : World) (hs : s.size ≤ 2000000) (hm : w.cell? ⟨0, 0, none⟩ = some (.int .i64 m)) :
    Calls Tryz.prog 59 #[.string s] w fun e w' => e = .returned (.string (ba (K.quote (bl s)))) ∧ Below w.heap.size w w' := by
  have HO : Hid (∀ W, Calls Tryz.prog 107 #[.string s] W fun e w' => e = .returned (.bool ((bl s).all K.plainC)) ∧ W = w') := fun W => allPlain_any s W (by omega)
  obtain ⟨r, hr⟩ : ∃ r, r = ba ((bl s).flatMap K.esc) := ⟨_, rfl⟩
  have HR : Hid (Calls Tryz.prog 94 #[.string s, .string ⟨#[39]⟩, .string ⟨#[39, 92, 39, 39]⟩] w fun e w' => e = .returned (.string r) ∧ Below w.heap.size w w') := by
    have h1 := Lib.countB_le ⟨#[39]⟩ (by decide) s.size s (Nat.le_refl _)
    have h2 : (⟨#[39, 92, 39, 39]⟩ : ByteArray).size = 4 := rfl
    have h := Tryz.strings_ReplaceAll s ⟨#[39]⟩ ⟨#[39, 92, 39, 39]⟩ m w (by omega) hm (by decide) (by rw [h2]; omega)
    have e : Lib.replaceAll s.data.toList (⟨#[39]⟩ : ByteArray).data.toList (⟨#[39, 92, 39, 39]⟩ : ByteArray).data.toList = (bl s).flatMap K.esc := repl_all (bl s)
    rw [e] at h
    rw [hr]; exact h
  obtain ⟨q, hq⟩ : ∃ q, q = ba (K.quote (bl s)) := ⟨_, rfl⟩
  rw [← hq]
  have hrs : r.size ≤ 8000000 := by
    have := K.esc_length (bl s)
    rw [bl_length] at this
    rw [hr, ba_size]; omega
  by_cases he : s = ⟨#[]⟩
  · subst he
    obtain ⟨q1, ea, eb⟩ := quote_adds r q hrs (by rw [hq, hr]; rfl)
    clear hr hq hrs
    go_enter Tryz.func59, Tryz.ntmps59
    go_wp2_with (first | (go_at_call 94; refine HR.out.mono ?_; rintro e w1 ⟨rfl, hb1⟩))
    go_ret
    exact ⟨rfl, by assumption⟩
  · have t1 : ¬ s.toList = [] := by rw [Lib.toList_data]; exact fun e => he (bl_inj e)
    have t1' : s.toList.isEmpty = false := by simpa using t1
    have hne : bl s ≠ [] := fun e => he (bl_inj e)
    cases hp : (bl s).all K.plainC with
    | true =>
      have HE : Hid (s = q) := by rw [hq]; unfold K.quote; rw [if_pos ⟨hne, hp⟩, ba_bl]; rfl
      rw [hp] at HO
      clear hr hq hne hp he hrs
      go_enter Tryz.func59, Tryz.ntmps59
      go_wp2_with (first | (go_at_call 107; refine (HO.out _).mono ?_; rintro e w' ⟨rfl, rfl⟩))
      go_ret
      exact ⟨ret_str HE.out, Below.refl _ _⟩
    | false =>
      obtain ⟨q1, ea, eb⟩ := quote_adds r q hrs (by
        rw [hq, hr]; unfold K.quote; rw [if_neg (by rw [hp]; simp)]
        apply bl_inj
        rw [bl_app, bl_app, bl_ba, bl_ba, bl_one])
      rw [hp] at HO
      clear hr hq hne hp he hrs
      go_enter Tryz.func59, Tryz.ntmps59
      go_wp2_with (first | (go_at_call 107; refine (HO.out _).mono ?_; rintro e w' ⟨rfl, rfl⟩) | (go_at_call 94; refine HR.out.mono ?_; rintro e w1 ⟨rfl, hb1⟩))
      go_ret
      exact ⟨rfl, by assumption⟩
end Go.Proofs.YtpcpcfnmcfjomaaGreatDoor.WD
