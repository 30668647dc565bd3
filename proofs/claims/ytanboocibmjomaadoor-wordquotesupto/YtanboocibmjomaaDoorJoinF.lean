/-
  What the program's Join answers.
-/
import Derived.Test.YtanboocibmjomaaDoorWords
import Derived.Test.YtanboocibmjomaaDoorShelf
import Derived.Maps.AppendAt
namespace Go.Proofs.YtanboocibmjomaaDoor
open Go.RowKit Go.Shelf

abbrev E : ByteArray := ⟨#[]⟩
theorem bl_E {x : ByteArray} : bl x = [] ↔ x = E := ⟨fun h => bl_inj h, fun h => by rw [h]; rfl⟩
theorem lib_join (l : List (List UInt8)) : Lib.join l [32] = K.joinB l := by
  induction l with
  | nil => rfl
  | cons x t ih =>
    cases t with
    | nil => exact Lib.join_one x [32]
    | cons y t =>
      rw [K.joinB_cons2, ← ih, Lib.join_cons, Lib.join_cons]; simp [Lib.joinTail]
theorem owns_slice {base : Nat} {w : World} {v : Value} {n : Nat} {xs : List Value} (h : w.ownsRow base 9 1 v n xs) : ∃ a cap, v = .slice a n cap := by
  rcases h.2 with ⟨rfl, rfl⟩ | ⟨g, cap, cur, rfl, _⟩
  · exact ⟨_, _, rfl⟩
  · exact ⟨_, _, rfl⟩
theorem info9 : (Tryd.prog.info? 9).map (fun i => (i.zero, i.size, i.bytes)) = some (some (.string ⟨#[]⟩), 1, 16) := by kernel_rfl

theorem join_own (v : Value) (xs : List ByteArray) (base : Nat) (w : World) (h : w.ownsRow base 9 1 v xs.length (xs.map Value.string)) (hn : xs.length ≤ 3000000) (hl : (K.joinB (xs.map bl)).length ≤ 140737488355328) :
    Calls Tryd.prog 38 #[v, .string ⟨#[32]⟩] w fun e w' => e = .returned (.string (ba (K.joinB (xs.map bl)))) ∧ Below w.heap.size w w' := by
  have hj : Lib.join (xs.map (·.data.toList)) (⟨#[32]⟩ : ByteArray).data.toList = K.joinB (xs.map bl) := lib_join (xs.map bl)
  by_cases hne : xs = []
  · subst hne
    obtain ⟨a, cap, rfl⟩ := owns_slice h
    refine (Tryd.strings_Join_none a cap ⟨#[32]⟩ w).mono ?_
    rintro e w' ⟨rfl, rfl⟩
    exact ⟨rfl, Below.refl _ _⟩
  · obtain ⟨hxl, ⟨hv, hn0⟩ | ⟨g, cap, cur, rfl, hg, hcur, hcap, hcm, hcs, hct⟩⟩ := h
    · exact absurd (List.length_eq_zero_iff.1 hn0) hne
    · have hgl : g < w.heap.size := (Array.getElem?_eq_some_iff.1 hcur).1
      refine (Tryd.strings_Join g 0 cap xs ⟨#[32]⟩ w ?_ hgl (by omega) (by omega) (by rw [hj]; omega)).mono ?_
      · intro j x hx
        obtain ⟨hjl, rfl⟩ := List.getElem?_eq_some_iff.1 hx
        have hjc : cur.toList[j]? = some (.string xs[j]) := by
          have h2 : (cur.toList.take (xs.length * 1))[j]? = (xs.map Value.string)[j]? := by rw [hct]
          rw [List.getElem?_take_of_lt (by omega)] at h2
          rw [h2]; simp [List.getElem?_eq_getElem hjl]
        rw [Nat.zero_add]
        simp only [World.cell?, hcur]
        simpa using hjc
      · rintro e w' ⟨rfl, hb⟩
        exact ⟨by rw [hj]; rfl, hb⟩

def neE (x : ByteArray) : Bool := decide (x ≠ E)
def told (l : List ByteArray) : List ByteArray := l.filter neE
theorem told_snoc (l : List ByteArray) (k : Nat) (h : k < l.length) : told (l.take (k + 1)) = told (l.take k) ++ (if neE l[k] then [l[k]] else []) := by
  unfold told; rw [List.take_succ_eq_append_getElem h, List.filter_append, List.filter_cons, List.filter_nil]
theorem told_len (l : List ByteArray) (k : Nat) : (told (l.take k)).length ≤ l.length := by
  have := List.length_filter_le neE (l.take k)
  unfold told; simp at this; omega
/-- The joined text. -/
def joined (l : List ByteArray) : ByteArray := ba (K.joinB ((told l).map bl))

set_option maxHeartbeats 1600000 in
set_option maxRecDepth 20000 in
theorem join_any (a : Option Addr) (n c : Nat) (l : List ByteArray) (w : World) (hl : n ≤ 2000000) (hjs : (joined l).size ≤ 140737488355328) (hw : Words w.heap.size w (.slice a n c) l) :
    Calls Tryd.prog 20 #[.slice a n c] w fun e w' => e = .returned (.string (joined l)) ∧ Below w.heap.size w w' := by
  obtain ⟨i0, hi, hz0, hz1, hz2⟩ := info_parts info9
  have HW : Hid (n = l.length ∧ Words w.heap.size w (.slice a n c) l) := ⟨hw.len, hw⟩
  obtain ⟨j, hj⟩ : ∃ j, j = joined l := ⟨_, rfl⟩
  have HJ : Hid (∀ v W base, W.ownsRow base 9 1 v (told l).length ((told l).map Value.string) → Calls Tryd.prog 38 #[v, .string ⟨#[32]⟩] W fun e w' => e = .returned (.string j) ∧ Below W.heap.size W w') := by
    intro v W base h
    have h1 : (told l).length ≤ l.length := List.length_filter_le neE l
    have h2 : (K.joinB ((told l).map bl)).length = (joined l).size := by rw [← bl_length]; unfold joined; rw [bl_ba]
    have h3 := hw.len
    have := join_own v (told l) base W h (by omega) (by omega)
    rw [hj]; exact this
  rw [← hj]
  clear hw hjs hj
  go_enter Tryd.func20, Tryd.ntmps20
  go_wp2
  go_loopw [3, 8] (fun v vi wr => ∃ k : Nat, k ≤ n ∧ vi = .int .i64 k ∧ wr.ownsRow w.heap.size 9 1 v (told (l.take k)).length ((told (l.take k)).map Value.string) ∧ Below w.heap.size w wr)
    (fun _ vi _ => n - (intOf vi).toNat)
  case atStart => exact ⟨0, Nat.zero_le _, rfl, World.ownsRow_nil _ _ _ _, Below.refl _ _⟩
  case round =>
    obtain ⟨k, hk, rfl, hown, hb⟩ := hrel
    have hbs := hb.size
    by_cases hlt : k < n
    · have hkl : k < l.length := by rw [← HW.out.1]; exact hlt
      have hfl := told_len l k
      rw [← HW.out.1] at hfl
      have hil : (k : Int) < (n : Int) := by omega
      obtain ⟨b, o, rfl, hbB, hcx0⟩ := HW.out.2.pick k hkl
      obtain ⟨x, hxe⟩ : ∃ x, x = l[k] := ⟨_, rfl⟩
      have hcx : wr.cell? ⟨b, o + k, none⟩ = some (.string x) := by rw [hb.cell (p := ⟨b, o + k, none⟩) hbB, hxe]; exact hcx0
      have HF : Hid (told (l.take (k + 1)) = told (l.take k) ++ (if neE x then [x] else [])) := by
        rw [hxe]; exact told_snoc l k hkl
      clear hxe hcx0
      by_cases hxE : x = E
      · subst hxE
        have HF2 : Hid (told (l.take (k + 1)) = told (l.take k)) := by rw [HF.out]; simp [neE, Hid]
        clear HF
        go_wp2
        go_roundw
        case rel => exact ⟨k + 1, by omega, by go_num, by rw [HF2.out]; exact hown, hb⟩
        case measure => simp [intOf]; omega
      · have HF2 : Hid (told (l.take (k + 1)) = told (l.take k) ++ [x]) := by rw [HF.out]; simp [neE, Hid, hxE]
        have t1 : ¬ x.toList = [] := by rw [Lib.toList_data]; exact fun e => hxE (bl_E.1 e)
        have t1' : x.toList.isEmpty = false := by simpa using t1
        clear HF hxE
        go_wp2_with (at_builtin; refine wpList_append_own _ rfl _ _ 22 rfl w.heap.size 9 i0 (.string ⟨#[]⟩) 1 16 Tryd.underlying22 hi hz0 hz1 hz2 rfl (by decide) _ _ _ rfl (hown.alloc _) ⟨wr.heap.size, 0, none⟩ 1 1 [.string x] rfl rfl ?c1 ?c2 ?c3 ?c4 ?c5 ?_)
        case c1 =>
          intro j u hj
          match j, hj with
          | 0, hj => simp at hj; subst hj; simp [Addr.add]
        case c2 => intro u hu; simp at hu; subst hu; rfl
        case c3 => unfold maxLen; omega
        case c4 => omega
        case c5 => simp; omega
        intro v' w2 hown' hgrow _
        have hb3 : Below w.heap.size w w2 := (hb.alloc hbs _).grown hgrow (by simp; omega) (fun k hk => (hown.lt k hk).1)
        have hown2 : w2.ownsRow w.heap.size 9 1 v' (told (l.take (k + 1))).length ((told (l.take (k + 1))).map Value.string) := by
          rw [HF2.out]; simpa using hown'
        clear hown' hgrow hown hb hcx
        go_wp2
        go_roundw
        case rel => exact ⟨k + 1, by omega, by go_num, hown2, hb3⟩
        case measure => simp [intOf]; omega
    · obtain rfl : k = n := by omega
      have HO : Hid (wr.ownsRow w.heap.size 9 1 u3 (told l).length ((told l).map Value.string)) := by
        have h := hown
        rw [HW.out.1, List.take_length] at h; exact h
      clear hown
      go_wp2_with fail
      refine (HJ.out _ _ _ HO.out).mono ?_
      rintro e w2 ⟨rfl, hb2⟩
      have hb3 := hb.trans (hb2.mono hbs)
      clear hb hb2 HO
      go_wp2
      go_ret
      exact ⟨rfl, hb3⟩
end Go.Proofs.YtanboocibmjomaaDoor
