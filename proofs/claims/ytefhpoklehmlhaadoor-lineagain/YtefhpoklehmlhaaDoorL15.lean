/-
  What stroked answers.
-/
import Derived.Test.YtefhpoklehmlhaaDoorL11
import Derived.Test.YtefhpoklehmlhaaDoorL9
namespace Go.Proofs.YtefhpoklehmlhaaDoor
open Go.RowKit Go.Shelf

theorem strk_from (s : ByteArray) (k : Nat) (h1 : 1 ≤ k) (hk : k < s.size) : Ln.strk ((bl s).drop (k - 1)) = ((s[k - 1] == 92 && s[k] == 35) || Ln.strk ((bl s).drop k)) := by
  have e1 := drop_bl s (k - 1) (by omega)
  have e2 := drop_bl s k hk
  rw [show k - 1 + 1 = k by omega, e2] at e1
  rw [e1, Ln.strk, ← e2]
theorem strk_end (s : ByteArray) : Ln.strk ((bl s).drop (s.size - 1)) = false := by
  by_cases h : s.size = 0
  · rw [List.drop_of_length_le (by rw [bl_length]; omega)]; rfl
  · have e1 := drop_bl s (s.size - 1) (by omega)
    rw [e1, List.drop_of_length_le (by rw [bl_length]; omega)]; rfl

set_option maxRecDepth 20000 in
set_option maxHeartbeats 400000 in
theorem stroked_any (s : ByteArray) (w : World) (hs : s.size ≤ 1000000) (h0 : 1 ≤ s.size) :
    Calls Tryd.prog 11 #[.string s] w fun e w' => e = .returned (.bool (Ln.strk (bl s))) ∧ w = w' := by
  go_enter Tryd.func11, Tryd.ntmps11
  go_wp2
  go_loopw [3] (fun vi wr => ∃ k : Nat, k + 1 ≤ s.size ∧ vi = .int .i64 ((k : Int) + 1) ∧ w = wr ∧ Hid (Ln.strk (bl s) = Ln.strk ((bl s).drop k))) (fun vi _ => s.size - (intOf vi).toNat)
  case atStart => exact ⟨0, h0, rfl, rfl, by simp [Hid]⟩
  case round =>
    obtain ⟨k, hk, rfl, rfl, HA⟩ := hrel
    by_cases hlt : k + 1 < s.size
    · have hil : (k : Int) + 1 < (s.size : Int) := by omega
      have hst := strk_from s (k + 1) (by omega) hlt
      simp only [Nat.add_sub_cancel] at hst
      obtain ⟨c, hc⟩ : ∃ c, c = s[k] := ⟨_, rfl⟩
      obtain ⟨d, hd⟩ : ∃ d, d = s[k + 1] := ⟨_, rfl⟩
      obtain ⟨cn, hcn⟩ : ∃ cn : Int, cn = (s[k].toNat : Int) := ⟨_, rfl⟩
      obtain ⟨dn, hdn⟩ : ∃ dn : Int, dn = (s[k + 1].toNat : Int) := ⟨_, rfl⟩
      have hgk : (s[k].toNat : Int) = cn := hcn.symm
      have hgk1 : (s[k + 1].toNat : Int) = dn := hdn.symm
      have HC : Hid (cn = (c.toNat : Int) ∧ dn = (d.toNat : Int)) := ⟨by rw [hcn, hc], by rw [hdn, hd]⟩
      rw [← hc, ← hd] at hst
      have HS : Hid (Ln.strk ((bl s).drop k) = ((c == 92 && d == 35) || Ln.strk ((bl s).drop (k + 1)))) := hst
      have hto : ((k : Int) + 1).toNat = k + 1 := by omega
      have hto0 : ((k : Int) + 1 - 1).toNat = k := by omega
      clear hc hd hcn hdn hst
      by_cases h35 : d = 35
      · have t1 : dn = 35 := by rw [HC.out.2, h35]; rfl
        by_cases h92 : c = 92
        · have t2 : cn = 92 := by rw [HC.out.1, h92]; rfl
          have HE : Hid (Ln.strk (bl s) = true) := by unfold Hid; rw [HA.out, HS.out, h35, h92]; rfl
          clear h35 h92 HS
          go_wp2_with fail
          go_ret
          exact ⟨ret_bool (by rw [HE.out]), rfl⟩
        · have t2 : ¬ cn = 92 := by rw [HC.out.1]; intro h; apply h92; rw [u8_eq_iff]; show c.toNat = 92; omega
          have t3 : (cn == 92) = false := by simpa using t2
          have HE : Hid (Ln.strk (bl s) = Ln.strk ((bl s).drop (k + 1))) := by
            unfold Hid; rw [HA.out, HS.out]
            have : (c == 92) = false := by simpa using h92
            rw [this]; rfl
          clear h35 h92 HS
          go_wp2_with fail
          go_roundw
          case rel => exact ⟨k + 1, by omega, by go_num, trivial, HE⟩
          case measure => simp [intOf]; omega
      · have t1 : ¬ dn = 35 := by rw [HC.out.2]; intro h; apply h35; rw [u8_eq_iff]; show d.toNat = 35; omega
        have t3 : (dn == 35) = false := by simpa using t1
        have HE : Hid (Ln.strk (bl s) = Ln.strk ((bl s).drop (k + 1))) := by
          unfold Hid; rw [HA.out, HS.out]
          have : (d == 35) = false := by simpa using h35
          rw [this, Bool.and_false]; rfl
        clear h35 HS
        go_wp2_with fail
        go_roundw
        case rel => exact ⟨k + 1, by omega, by go_num, trivial, HE⟩
        case measure => simp [intOf]; omega
    · have hke : ¬ (k : Int) + 1 < (s.size : Int) := by omega
      have HE : Hid (Ln.strk (bl s) = false) := by
        unfold Hid; rw [HA.out, show k = s.size - 1 by omega]; exact strk_end s
      go_wp2_with fail
      go_ret
      exact ⟨ret_bool (by rw [HE.out]), rfl⟩

def tl (L : List Ln.Ln) : Nat := (L.map fun x => x.text.length).sum
theorem tl_app (A B : List Ln.Ln) : tl (A ++ B) = tl A + tl B := by simp [tl]
theorem lines_sum (R : List (List UInt8)) : ∀ (k : Nat) (g : List (List UInt8)), tl (Ln.linesA k g R) ≤ wt g + wt R := by
  induction R with
  | nil => intro k g; simp [Ln.linesA, tl]
  | cons r R ih =>
    intro k g
    have h4 := wt_cons r R
    have h5 : wt [r] = r.length + 1 := by simp [wt]
    unfold Ln.linesA
    split
    · have := ih k (g ++ [r])
      rw [wt_app] at this
      omega
    · rw [tl_app]
      have h1 := ih (k + g.length + 1) []
      have h2 : wt ([] : List (List UInt8)) = 0 := rfl
      have h3 := whole_len (g ++ [r])
      rw [wt_app] at h3
      have h6 : tl (Ln.emit k (g ++ [r])) ≤ (Ln.wholeT (g ++ [r])).length := by
        unfold Ln.emit; split
        · exact Nat.zero_le _
        · simp [tl]
      omega
theorem write_len (L : List Ln.Ln) : (Ln.writeT L).length ≤ 2 * tl L + 2 * L.length := by
  induction L with
  | nil => exact Nat.le_refl _
  | cons x L ih =>
    rw [Ln.write_cons]
    have h1 : tl (x :: L) = x.text.length + tl L := by simp [tl]
    have h2 : (Ln.rawOf x).length ≤ 2 * x.text.length + 1 := by
      unfold Ln.rawOf; split
      · simp; omega
      · have := Ln.hash_len x.text; omega
    simp only [List.length_append, List.length_cons]
    omega
theorem read_write_len {s : ByteArray} (h : (Ln.readL (bl s)).why = 0) : (Ln.writeT (Ln.readL (bl s)).lines).length ≤ 150000 := by
  obtain ⟨h1, _, h3, h4⟩ := Ln.readL_fine h
  have h5 := write_len (Ln.readL (bl s)).lines
  rw [h4] at h5 ⊢
  have h6 := lines_sum (Ln.raws (bl s)) 0 []
  have h7 := (Ln.raws_len (bl s)).1
  have h8 : wt ([] : List (List UInt8)) = 0 := rfl
  have h9 : wt (Ln.raws (bl s)) ≤ (bl s).length + 1 := h7
  simp only at h5 ⊢
  omega
end Go.Proofs.YtefhpoklehmlhaaDoor
