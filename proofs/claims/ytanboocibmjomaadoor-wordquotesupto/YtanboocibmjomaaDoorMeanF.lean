/-
  What the program's Mean answers: the meaning, or the error.
-/
import Derived.Test.YtanboocibmjomaaDoorNext
import Derived.Test.YtanboocibmjomaaDoorShelf
import Derived.Test.YtanboocibmjomaaDoorShelfB
namespace Go.Proofs.YtanboocibmjomaaDoor
open Go.RowKit Go.Shelf

def meanE (s : ByteArray) : Nat := if (K.ends (bl s)).opened = true then 4 else 0
def meanT (s : ByteArray) : ByteArray := if meanE s = 0 then ba (K.mean K.Rd.r0 (bl s)) else ba []
def rdAt (s : ByteArray) (k : Nat) : K.Rd := ((bl s).take k).foldl K.Rd.step K.Rd.r0
def mnAt (s : ByteArray) (k : Nat) : List UInt8 := K.mean K.Rd.r0 ((bl s).take k)
theorem rdAt_succ (s : ByteArray) (k : Nat) (h : k < s.size) : rdAt s (k + 1) = (rdAt s k).step s[k] := by
  unfold rdAt; rw [take_snoc s k h, List.foldl_append]; rfl
theorem mnAt_succ (s : ByteArray) (k : Nat) (h : k < s.size) : mnAt s (k + 1) = mnAt s k ++ (if (rdAt s k).kind s[k] = 2 then [] else [s[k]]) := by
  unfold mnAt; rw [take_snoc s k h, K.mean_append]; unfold rdAt; simp only [K.mean, List.append_nil]
theorem mnAt_len (s : ByteArray) (k : Nat) (h : k ≤ s.size) : (mnAt s k).length ≤ k := by
  have := K.mean_length K.Rd.r0 ((bl s).take k)
  unfold mnAt; simp [bl_length] at this; omega

theorem builderAt_only {T e : TypeId} {B b b' : Nat} {p : Value} {bs : List Value} {w w' : World} (h : Lib.BuilderAt T e B b p bs w) (ho : Only b' w w') (hb : b' < B) : Lib.BuilderAt T e B b p bs w' := by
  obtain ⟨h1, v, h2, h3, h4⟩ := h
  refine ⟨h1, v, (ho.block b (by omega)).trans h2, ho.row h3 (fun e => ?_), h4⟩
  have := (h3.lt b' e).1; omega
theorem isBuilder_only {T e : TypeId} {B b b' : Nat} {bs : List Value} {w w' : World} (h : Lib.IsBuilder T e B b bs w) (ho : Only b' w w') (hb : b' < B) : Lib.IsBuilder T e B b bs w' := by
  rcases h with h | h
  · exact .inl (builderAt_only h ho hb)
  · exact .inr (builderAt_only h ho hb)

set_option maxRecDepth 20000 in
set_option maxHeartbeats 1000000 in
theorem mean_any (s : ByteArray) (w : World) (hs : s.size ≤ 140737488355327) :
    Calls Tryd.prog 11 #[.string s] w fun e w' => e = .returned (.tuple #[.string (meanT s), .int .i64 (meanE s : Nat)]) ∧ Below w.heap.size w w' := by
  have HN : Hid (∀ r (c : UInt8) W, Box w.heap.size r W → Calls Tryd.prog 23 #[.pointer (some ⟨w.heap.size, 0, none⟩), .int .u8 c.toNat] W fun e w' => e = .returned (.int .i64 (r.kind c : Nat)) ∧ Box w.heap.size (r.step c) w' ∧ Only w.heap.size W w') := fun r c W h => next_any _ r c W h
  have HP : Hid (∀ r W, Box w.heap.size r W → Calls Tryd.prog 27 #[.pointer (some ⟨w.heap.size, 0, none⟩)] W fun e w' => e = .returned (.bool r.opened) ∧ W = w') := fun r W h => open_any _ r W h
  have HS : Hid (Box w.heap.size K.Rd.r0 ((w.alloc (.cells #[.int .u8 0, .bool false] 43)).alloc (.cells #[.pointer none, .slice none 0 0] 54))) := by
    refine (Below.heap_alloc _ _ _ (by simp)).trans ?_
    unfold World.alloc; exact Array.getElem?_push_size
  go_enter Tryd.func11, Tryd.ntmps11
  go_wp2
  go_loopw [9] (fun vi wr => ∃ k : Nat, k ≤ s.size ∧ vi = .int .i64 k ∧ Hid (Lib.IsBuilder 54 5 (w.heap.size + 1) (w.heap.size + 1) (Lib.byteCells (mnAt s k)) wr) ∧ Hid (Box w.heap.size (rdAt s k) wr) ∧ w.heap.size + 1 < wr.heap.size ∧ Below w.heap.size w wr)
    (fun vi _ => s.size - (intOf vi).toNat)
  case atStart =>
    refine ⟨0, Nat.zero_le _, rfl, ?_, HS, by simp, ((Below.refl _ _).alloc (Nat.le_refl _) _).alloc (by simp) _⟩
    have := Lib.fresh_isBuilder 54 5 (w.alloc (.cells #[.int .u8 0, .bool false] 43))
    show Lib.IsBuilder _ _ _ _ _ _
    simpa [mnAt, K.mean, Lib.byteCells] using this
  case round =>
    obtain ⟨k, hk, rfl, HB, HX, hsz, hb⟩ := hrel
    have hbs := hb.size
    have hml := mnAt_len s k hk
    have hlen : (Lib.byteCells (mnAt s k)).length ≤ k := by simpa [Lib.byteCells] using hml
    clear hml
    by_cases hlt : k < s.size
    · have hil : (k : Int) < (s.size : Int) := by omega
      have HM : Hid (mnAt s (k + 1) = mnAt s k ++ (if (rdAt s k).kind s[k] = 2 then [] else [s[k]]) ∧ rdAt s (k + 1) = (rdAt s k).step s[k]) := ⟨mnAt_succ s k hlt, rdAt_succ s k hlt⟩
      obtain ⟨r, hr⟩ : ∃ r, r = rdAt s k := ⟨_, rfl⟩
      rw [← hr] at HM HX
      clear hr
      have HN1 : Hid (Calls Tryd.prog 23 #[.pointer (some ⟨w.heap.size, 0, none⟩), .int .u8 s[k].toNat] wr fun e w' => e = .returned (.int .i64 (r.kind s[k] : Nat)) ∧ Box w.heap.size (r.step s[k]) w' ∧ Only w.heap.size wr w') := HN.out r s[k] wr HX.out
      obtain ⟨n, hn⟩ : ∃ n, n = r.kind s[k] := ⟨_, rfl⟩
      rw [← hn] at HN1 HM
      clear hn
      by_cases hn2 : n = 2
      · subst hn2
        have HQ : Hid (mnAt s (k + 1) = mnAt s k ∧ rdAt s (k + 1) = r.step s[k]) := ⟨by rw [HM.out.1, if_pos rfl, List.append_nil], HM.out.2⟩
        clear HM
        go_wp2_with fail
        refine HN1.out.mono ?_
        rintro e w1 ⟨rfl, hB1, hO1⟩
        have HB1 : Hid (Lib.IsBuilder 54 5 (w.heap.size + 1) (w.heap.size + 1) (Lib.byteCells (mnAt s k)) w1) := isBuilder_only HB.out hO1 (by omega)
        have HR : Hid (Box w.heap.size (r.step s[k]) w1 ∧ w.heap.size + 1 < w1.heap.size ∧ Below w.heap.size w w1) := ⟨hB1, by rw [hO1.size]; exact hsz, hO1.below (Nat.le_refl _) hb⟩
        clear hB1 hO1
        go_wp2
        go_roundw
        case rel => exact ⟨k + 1, by omega, by go_num, by rw [HQ.out.1]; exact HB1, by rw [HQ.out.2]; exact HR.out.1, HR.out.2.1, HR.out.2.2⟩
        case measure => simp [intOf]; omega
      · have hni : ¬ (n : Int) = 2 := by omega
        have hnb : ((n : Int) != 2) = true := by simpa using hni
        have HQ : Hid (mnAt s (k + 1) = mnAt s k ++ [s[k]] ∧ rdAt s (k + 1) = r.step s[k]) := ⟨by rw [HM.out.1, if_neg hn2], HM.out.2⟩
        clear HM hn2
        go_wp2_with fail
        refine HN1.out.mono ?_
        rintro e w1 ⟨rfl, hB1, hO1⟩
        have HB1 : Hid (Lib.IsBuilder 54 5 (w.heap.size + 1) (w.heap.size + 1) (Lib.byteCells (mnAt s k)) w1) := isBuilder_only HB.out hO1 (by omega)
        have HR : Hid (Box w.heap.size (r.step s[k]) w1 ∧ Below w.heap.size w w1) := ⟨hB1, hO1.below (Nat.le_refl _) hb⟩
        have hsz1 : w.heap.size + 1 < w1.heap.size := by rw [hO1.size]; exact hsz
        clear hB1 hO1
        go_wp2_with fail
        refine (Tryd.Builder_WriteByte _ _ _ _ _ HB1.out (by omega) (by omega)).mono ?_
        rintro e w2 ⟨rfl, hB2, hb2⟩
        have HB2 : Hid (Lib.IsBuilder 54 5 (w.heap.size + 1) (w.heap.size + 1) (Lib.byteCells (mnAt s (k + 1))) w2) := Or.inr (by rw [HQ.out.1]; simpa [Lib.byteCells] using hB2)
        have HR2 : Hid (Box w.heap.size (r.step s[k]) w2 ∧ w.heap.size + 1 < w2.heap.size ∧ Below w.heap.size w w2) := ⟨HR.out.1.below hb2 (by omega), Nat.lt_of_lt_of_le hsz1 hb2.size, HR.out.2.trans (hb2.mono (by omega))⟩
        clear hB2 hb2
        go_wp2
        go_roundw
        case rel => exact ⟨k + 1, by omega, by go_num, HB2, by rw [HQ.out.2]; exact HR2.out.1, HR2.out.2.1, HR2.out.2.2⟩
        case measure => simp [intOf]; omega
    · obtain rfl : k = s.size := by omega
      have e1 : rdAt s s.size = K.ends (bl s) := by unfold rdAt; rw [take_all]; rfl
      have e2 : mnAt s s.size = K.mean K.Rd.r0 (bl s) := by unfold mnAt; rw [take_all]
      rw [e1] at HX
      rw [e2] at HB
      clear e1 e2 hlen
      have HO1 := HP.out _ _ HX.out
      cases ho : (K.ends (bl s)).opened with
      | true =>
        rw [ho] at HO1
        have HO2 : Hid (Calls Tryd.prog 27 #[.pointer (some ⟨w.heap.size, 0, none⟩)] wr fun e w' => e = .returned (.bool true) ∧ wr = w') := HO1
        have HE : Hid (meanE s = 4 ∧ meanT s = ⟨#[]⟩) := by
          have : meanE s = 4 := by unfold meanE; rw [ho]; rfl
          exact ⟨this, by unfold meanT; rw [this]; rfl⟩
        clear ho HO1
        go_wp2_with fail
        refine HO2.out.mono ?_
        rintro e w2 ⟨rfl, rfl⟩
        go_wp2
        go_ret2
        rw [HE.out.1, HE.out.2]
        exact ⟨rfl, hb⟩
      | false =>
        rw [ho] at HO1
        have HO2 : Hid (Calls Tryd.prog 27 #[.pointer (some ⟨w.heap.size, 0, none⟩)] wr fun e w' => e = .returned (.bool false) ∧ wr = w') := HO1
        have HE : Hid (meanE s = 0 ∧ meanT s = ba (K.mean K.Rd.r0 (bl s))) := by
          have : meanE s = 0 := by unfold meanE; rw [ho]; rfl
          exact ⟨this, by unfold meanT; rw [this]; rfl⟩
        clear ho HO1
        go_wp2_with fail
        refine HO2.out.mono ?_
        rintro e w2 ⟨rfl, rfl⟩
        go_wp2_with fail
        refine (Tryd.Builder_String_any _ _ _ _ HB.out (by omega)).mono ?_
        rintro e w3 ⟨rfl, hb3⟩
        have HT : Hid (Below w.heap.size w w3) := hb.trans (hb3.mono (by omega))
        clear hb3
        go_wp2
        go_ret2
        rw [HE.out.1, HE.out.2]
        exact ⟨rfl, HT.out⟩
end Go.Proofs.YtanboocibmjomaaDoor
