/-
  Whether a way's two are unlike suffixes.
-/
import Derived.Test.YtfcoihklihkngaaS3
namespace Go.Proofs.Ytfcoihklihkngaa
open Go.RowKit Go.Shelf

def leadsB (x : S.Way) (l : List S.Tx) : Bool := x.1 != x.2 && (l.contains x.1 && l.contains x.2)
set_option maxRecDepth 20000 in
set_option maxHeartbeats 1200000 in
theorem leads_any (v : Value) (x : S.Way) (l : List S.Tx) (B : Nat) (w : World) (hl : Words B w v (l.map ba)) (hB : B ≤ w.heap.size) (hn : l.length ≤ 100000000000000) :
    Calls Try.prog 19 #[.agg #[.string (ba x.1), .string (ba x.2)], v] w fun e w' => e = .returned (.bool (leadsB x l)) ∧ Below w.heap.size w w' := by
  obtain ⟨r, hr⟩ : ∃ r, r = leadsB x l := ⟨_, rfl⟩
  rw [← hr]
  obtain ⟨u1, hu1⟩ : ∃ u, u = ba x.1 := ⟨_, rfl⟩
  obtain ⟨u2, hu2⟩ : ∃ u, u = ba x.2 := ⟨_, rfl⟩
  have hb1 : bl u1 = x.1 := by rw [hu1, bl_ba']
  have hb2 : bl u2 = x.2 := by rw [hu2, bl_ba']
  have HC : Hid (∀ (u : ByteArray) (W : World), Below w.heap.size w W → Calls Try.prog 18 #[v, .string u] W fun e w' => e = .returned (.bool (l.contains (bl u))) ∧ w' = W) := fun u W hW => contains_any v u l B W (hl.below (hW.mono hB)) hn
  obtain ⟨a, c, rfl⟩ := hl.slice
  have HR : Hid (r = (bl u1 != bl u2 && (l.contains (bl u1) && l.contains (bl u2)))) := by unfold Hid; rw [hb1, hb2, hr]; rfl
  rw [← hu1, ← hu2]
  have HB0 : Hid (Below w.heap.size w (w.alloc (.cells #[.string u1, .string u2] 48))) := below_alloc1 _ _
  clear hr hu1 hu2 hb1 hb2 hl hB hn
  generalize l.length = n at *
  cases he : (bl u1 == bl u2) with
  | true =>
    have he2 : (u1.toList == u2.toList) = true := by rw [eq_text]; exact he
    have HE : Hid (r = false) := by unfold Hid; rw [HR.out, bne, he]; rfl
    clear HR
    go_enter Try.func19, Try.ntmps19
    go_wp2_with fail
    go_ret
    exact ⟨ret_bool HE.out.symm, HB0.out⟩
  | false =>
    have he2 : (u1.toList == u2.toList) = false := by rw [eq_text]; exact he
    cases h1 : l.contains (bl u1) with
    | false =>
      have HC1 := HC.out u1
      rw [h1] at HC1
      have HE : Hid (r = false) := by unfold Hid; rw [HR.out, h1]; simp
      clear HR
      go_enter Try.func19, Try.ntmps19
      go_wp2_with fail
      refine (HC1 _ HB0.out).mono ?_
      rintro e w' ⟨rfl, rfl⟩
      go_wp2_with fail
      go_ret
      exact ⟨ret_bool HE.out.symm, HB0.out⟩
    | true =>
      have HC1 := HC.out u1
      rw [h1] at HC1
      have HC2 := HC.out u2
      have HE : Hid (r = l.contains (bl u2)) := by unfold Hid; rw [HR.out, h1, bne, he]; rfl
      obtain ⟨z, hz⟩ : ∃ z, z = l.contains (bl u2) := ⟨_, rfl⟩
      rw [← hz] at HC2 HE
      have HC1 : Hid (∀ (W : World), Below w.heap.size w W → Calls Try.prog 18 #[.slice a n c, .string u1] W fun e w' => e = .returned (.bool true) ∧ w' = W) := HC1
      have HC2 : Hid (∀ (W : World), Below w.heap.size w W → Calls Try.prog 18 #[.slice a n c, .string u2] W fun e w' => e = .returned (.bool z) ∧ w' = W) := HC2
      clear HR HC hz
      go_enter Try.func19, Try.ntmps19
      go_wp2_with fail
      refine (HC1.out _ HB0.out).mono ?_
      rintro e w' ⟨rfl, rfl⟩
      go_wp2_with fail
      refine (HC2.out _ HB0.out).mono ?_
      rintro e w' ⟨rfl, rfl⟩
      go_wp2_with fail
      go_ret
      exact ⟨ret_bool HE.out.symm, HB0.out⟩
end Go.Proofs.Ytfcoihklihkngaa
