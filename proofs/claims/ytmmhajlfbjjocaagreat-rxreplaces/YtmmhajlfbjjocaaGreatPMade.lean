/-
  What is compiled is made.
-/
import Derived.Test.YtmmhajlfbjjocaaGreatPSteps
namespace Go.Proofs.YtmmhajlfbjjocaaGreat
open Go.RowKit Go.Shelf RxSem

theorem sc_len {o : Nat} {a : Bool} {l : List UInt8} {res : SRes} (h : Sc o a l res) : ∀ sg, res = .ok sg → sg.length ≤ l.length := by
  induction h with
  | nil => intro sg h; cases h; simp
  | opened => intro sg h; cases h
  | markBad => intro sg h; cases h
  | mark o a c t o' a' r h h1 h2 ih =>
    intro sg hs
    cases r with
    | ok l => cases hs; have := ih l rfl; simp; omega
    | bad => cases hs
  | thingBad => intro sg h; cases h
  | thing o a c t t' x r h h1 h2 ih =>
    intro sg hs
    have h3 := thingR_len h1
    cases r with
    | ok l => cases hs; have := ih l rfl; simp at h3 ⊢; omega
    | bad => cases hs
def MadePost (s : ByteArray) (w : World) (c : List Nd ⊕ (Nat × Nat)) (e : Ending) (w' : World) : Prop := Below w.heap.size w w' ∧ match c with
  | .inl k => ∃ b : Nat, e = .returned (.tuple #[.pointer (some ⟨b, 0, none⟩), faultV 0 0]) ∧ w.heap.size ≤ b ∧ Made b s k w'
  | .inr (why, at') => e = .returned (.tuple #[.pointer none, faultV why at'])
theorem compile_made (s : ByteArray) (c : List Nd ⊕ (Nat × Nat)) (hc : Comp (bl s) c) (w : World) : Calls Tryz.prog 6 #[.string s] w (MadePost s w c) := by
  cases c with
  | inr x => exact (compile_any s _ hc w).mono fun e w' h => h
  | inl k =>
    have hs : s.size ≤ 200 := by
      cases hc with
      | ok k h h1 => rw [bl_length] at h; exact h
    obtain ⟨sg, h1, h2⟩ := hc.flat (by rw [bl_length]; omega)
    refine (compile_ok s sg (fun W => read_any s (by omega) _ h1 W) w).mono ?_
    rintro e w' ⟨hb, b, L, he, hl, hF, hL⟩
    obtain ⟨v, hv1, hv2⟩ := hF.ok
    have hl2 := sc_len h1 sg rfl
    rw [bl_length] at hl2
    have hl3 := congrArg List.length hL
    simp at hl3
    exact ⟨hb, b, he, hl, .fresh v _ L hv1 hv2 hF.signs (by rw [hL]; exact h2) (by omega)⟩
end Go.Proofs.YtmmhajlfbjjocaaGreat
