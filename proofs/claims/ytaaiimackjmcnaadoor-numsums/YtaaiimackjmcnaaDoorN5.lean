/-
  What Parse answers, whatever the text.
-/
import Derived.Test.YtaaiimackjmcnaaDoorN4
namespace Go.Proofs.YtaaiimackjmcnaaDoor.N
open Go.RowKit Go.Shelf

/-- The library's error of the range lies where its variable says. -/
def Er (a : Addr) (w : World) : Prop := w.cell? ⟨0, 0, none⟩ = some (.iface 104 (.pointer (some a)))
theorem Er.pos {a : Addr} {w : World} (h : Er a w) : 0 < w.heap.size := by
  rcases Nat.eq_zero_or_pos w.heap.size with h0 | h0
  · exfalso
    unfold Er at h
    simp [World.cell?, Array.getElem?_eq_none (show w.heap.size ≤ 0 by omega)] at h
  · exact h0
theorem Er.below {a : Addr} {w w' : World} (h : Er a w) (hb : Below w.heap.size w w') : Er a w' := by
  unfold Er; rw [hb.cell h.pos]; exact h

theorem bs_app (t : ByteArray) : bl ((⟨#[45]⟩ : ByteArray) ++ t) = 45 :: bl t := by rw [bl_app]; rfl
theorem bs_size (t : ByteArray) : ((⟨#[45]⟩ : ByteArray) ++ t).size = t.size + 1 := by rw [← bl_length, bs_app, ← bl_length]; rfl

theorem sign_len (l : List UInt8) : (signL l).1.length ≤ l.length := by
  unfold signL
  split
  · simp
  · split
    · simp
    · split <;> simp
theorem base_len (l : List UInt8) : (baseL l).1.length ≤ l.length := by
  unfold baseL
  split
  · simp
  · exact Nat.le_refl _

def tupV (p : Int × Int) : Value := .tuple #[.int .i64 p.1, .int .i64 p.2]
/-- The public ParseInt at both bases. -/
theorem pub_both (b : Nat) (hb : b = 10 ∨ b = 16) (t : ByteArray) (hok : okD b (bl t) = true) (a : Addr) (w : World) (hE : Er a w) (hs : t.size ≤ 140737488355328) :
    Calls Tryd.prog 24 #[.string ((⟨#[45]⟩ : ByteArray) ++ t), .int .i64 (b : Int), .int .i64 63] w fun e w' => PubPost (numV b 0 (bl t)) (.iface 104 (.pointer (some a))) w e w' := by
  refine pub_any (b : Int) _ _ _ w (by rw [bs_size]; omega) hE (.inr ⟨_, _, rfl⟩) ?_
  rcases hb with rfl | rfl
  · exact pint10 _ t (bs_app t) hok (by omega) w
  · exact pint16 _ t (bs_app t) hok (by omega) w

set_option maxHeartbeats 800000 in
set_option maxRecDepth 20000 in
theorem parse_any (s : ByteArray) (a : Addr) (w : World) (hE : Er a w) (hs : s.size ≤ 140737488355328) :
    Calls Tryd.prog 9 #[.string s] w fun e w' => e = .returned (tupV (parseG (bl s))) ∧ Below w.heap.size w w' := by
  have HU : Hid (Calls Tryd.prog 21 #[.string s] w fun e w' => e = .returned (.tuple #[.string (ba (signL (bl s)).1), .bool (signL (bl s)).2]) ∧ w = w') := unsigned_any s w
  have h1 : (ba (signL (bl s)).1).size ≤ 140737488355328 := by rw [ba_size]; exact Nat.le_trans (sign_len _) (by rw [bl_length]; exact hs)
  have hp : parseG (bl s) = finD (signL (bl s)).2 (baseL (signL (bl s)).1).2 (baseL (signL (bl s)).1).1 := rfl
  rw [hp]
  clear hp
  obtain ⟨s1, hs1⟩ : ∃ s1, s1 = ba (signL (bl s)).1 := ⟨_, rfl⟩
  have hs1b : (signL (bl s)).1 = bl s1 := by rw [hs1, bl_ba]
  rw [← hs1] at HU h1
  rw [hs1b]
  generalize (signL (bl s)).2 = m at HU ⊢
  clear hs1 hs1b hs
  have HB : Hid (Calls Tryd.prog 22 #[.string s1] w fun e w' => e = .returned (.tuple #[.string (ba (baseL (bl s1)).1), .string (setOf (baseL (bl s1)).2), .int .i64 ((baseL (bl s1)).2 : Int)]) ∧ w = w') := based_any s1 w
  have hb := base_two (bl s1)
  have h2 : (ba (baseL (bl s1)).1).size ≤ 140737488355328 := by rw [ba_size]; exact Nat.le_trans (base_len _) (by rw [bl_length]; exact h1)
  obtain ⟨t, ht⟩ : ∃ t, t = ba (baseL (bl s1)).1 := ⟨_, rfl⟩
  have htb : (baseL (bl s1)).1 = bl t := by rw [ht, bl_ba]
  rw [← ht] at HB h2
  rw [htb]
  generalize (baseL (bl s1)).2 = b at HB hb ⊢
  clear ht htb h1
  have HM : Hid (Calls Tryd.prog 23 #[.string t, .string (setOf b)] w fun e w' => e = .returned (.bool (okD b (bl t))) ∧ Below w.heap.size w w') := madeOf_any t b hb w
  have HP : Hid (∀ W, Er a W → okD b (bl t) = true → Calls Tryd.prog 24 #[.string ((⟨#[45]⟩ : ByteArray) ++ t), .int .i64 (b : Int), .int .i64 63] W fun e w' => PubPost (numV b 0 (bl t)) (.iface 104 (.pointer (some a))) W e w') := fun W hW hok => pub_both b hb t hok a W hW h2
  generalize setOf b = S at HB HM
  have hz : ¬ 9223372036854775807 < (⟨#[45]⟩ : ByteArray).size + t.size := by
    have : (⟨#[45]⟩ : ByteArray).size = 1 := rfl
    omega
  have HE : Hid (Er a w) := hE
  obtain ⟨bi, hbi⟩ : ∃ bi : Int, bi = (b : Int) := ⟨_, rfl⟩
  rw [← hbi] at HB HP
  clear hE hb hbi
  cases hok : okD b (bl t)
  · have HR : Hid (finD m b (bl t) = (0, 3)) := by unfold Hid finD; rw [hok]; rfl
    rw [hok] at HM
    clear hok HP
    go_enter Tryd.func9, Tryd.ntmps9
    go_wp2_with fail
    refine HU.out.mono ?_
    rintro e w' ⟨rfl, rfl⟩
    go_wp2_with fail
    refine HB.out.mono ?_
    rintro e w' ⟨rfl, rfl⟩
    go_wp2_with fail
    refine HM.out.mono ?_
    rintro e w1 ⟨rfl, hw1⟩
    go_wp2
    go_ret2
    refine ⟨?_, hw1⟩
    rw [HR.out]
    rfl
  · rw [hok] at HM
    have HK : Hid (okD b (bl t) = true) := hok
    clear hok
    go_enter Tryd.func9, Tryd.ntmps9
    go_wp2_with fail
    refine HU.out.mono ?_
    rintro e w' ⟨rfl, rfl⟩
    go_wp2_with fail
    refine HB.out.mono ?_
    rintro e w' ⟨rfl, rfl⟩
    go_wp2_with fail
    refine HM.out.mono ?_
    rintro e w1 ⟨rfl, hw1⟩
    have HE1 : Hid (Er a w1) := HE.out.below hw1
    have HW1 : Hid (Below w.heap.size w w1) := hw1
    clear hw1
    go_wp2_with fail
    refine (HP.out _ HE1.out HK.out).mono ?_
    rintro e w2 ⟨hw2, hcase⟩
    have HE2 : Hid (Er a w2) := HE1.out.below hw2
    have HW2 : Hid (Below w.heap.size w w2) := HW1.out.trans (hw2.mono HW1.out.size)
    have hc2 : w2.cell? ⟨0, 0, none⟩ = some (.iface 104 (.pointer (some a))) := HE2.out
    rcases hcase with ⟨hv, rfl⟩ | ⟨hv, g, x, y, rfl, hg, hgg⟩
    · have HR : Hid (finD m b (bl t) = (if m then -(numV b 0 (bl t) : Int) else (numV b 0 (bl t) : Int), 0)) := by
        unfold Hid finD
        rw [if_pos HK.out, if_neg (by omega)]
      have hv2 : (numV b 0 (bl t) : Int) ≤ 4611686018427387904 := by unfold most at hv; omega
      have hv0 : 0 ≤ (numV b 0 (bl t) : Int) := by omega
      generalize (numV b 0 (bl t) : Int) = v at HR hv2 hv0
      have HI : Hid (Calls Tryd.prog 25 #[.nilIface, .iface 104 (.pointer (some a))] w2 fun e w' => e = .returned (.bool false) ∧ w2 = w') := is_nil _ _ w2
      clear hv HP HK hw2
      cases m
      · go_wp2_with fail
        refine HI.out.mono ?_
        rintro e w3 ⟨rfl, rfl⟩
        go_wp2
        go_ret2
        refine ⟨?_, HW2.out⟩
        rw [HR.out]
        simp [tupV]
      · go_wp2_with fail
        refine HI.out.mono ?_
        rintro e w3 ⟨rfl, rfl⟩
        go_wp2
        go_ret2
        refine ⟨?_, HW2.out⟩
        rw [HR.out]
        simp [tupV]
    · have HR : Hid (finD m b (bl t) = (0, 5)) := by
        unfold Hid finD
        rw [if_pos HK.out, if_pos (by omega)]
      have hcg : w2.cell? ⟨g, 2, none⟩ = some (.iface 104 (.pointer (some a))) := by
        simp [World.cell?, hgg]
      have HI : Hid (Calls Tryd.prog 25 #[.iface 73 (.pointer (some ⟨g, 0, none⟩)), .iface 104 (.pointer (some a))] w2 fun e w' => e = .returned (.bool true) ∧ w2 = w') := is_wrap_same g a w2 hcg
      clear hv HP HK hw2 hcg hgg
      go_wp2_with fail
      refine HI.out.mono ?_
      rintro e w3 ⟨rfl, rfl⟩
      go_wp2
      go_ret2
      refine ⟨?_, HW2.out⟩
      rw [HR.out]
      rfl
end Go.Proofs.YtaaiimackjmcnaaDoor.N
