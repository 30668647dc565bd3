/-
  What step and scan do: the scanner stands behind each step as stepF tells.
-/
import Derived.Test.YtbciedpjaajhcaaDoorX3
import Derived.Test.YtbciedpjaajhcaaDoorX4
namespace Go.Proofs.YtbciedpjaajhcaaDoor.Ex
open Go.RowKit Go.Shelf

section
variable {base b : Nat} {s : ByteArray} {vf vo : Value}
theorem get_bl {s : ByteArray} {p : Nat} (hp : p < s.size) : (bl s)[p]? = some s[p] := bl_get s p hp
theorem begin_any {σ : Sn} (w : World) (h : SnAt base b s vf vo σ w) (hs : s.size ≤ 1000000) (hp : σ.pos < s.size) (hx : s[σ.pos] = 36) :
    Calls Tryd.prog 78 #[.pointer (some ⟨b, 0, none⟩)] w (StepPost base b s (stepF (bl s) σ) w) := by
  obtain ⟨p, F, K⟩ := σ
  have hst : stepF (bl s) ⟨p, F, K⟩ = beginF (bl s) ⟨p, F, K⟩ := by
    unfold stepF; dsimp only; rw [get_bl hp]; dsimp only at hx ⊢; rw [if_pos hx]
  have hfi := step_fine h.fine (by rw [bl_length]; exact hp)
  rw [hst] at hfi ⊢
  unfold beginF at hfi ⊢
  dsimp only at hp hx hfi ⊢
  by_cases hl : p + 1 < s.size
  · rw [get_bl hl] at hfi ⊢
    dsimp only at hfi ⊢
    by_cases h1 : s[p + 1] = 36
    · rw [if_pos h1] at hfi ⊢
      exact bg_self w h hs hl h1 _ rfl hfi
    · rw [if_neg h1] at hfi ⊢
      by_cases h2 : s[p + 1] = 123
      · rw [if_pos h2] at hfi ⊢
        exact bg_brace w h hs hl h2 _ rfl hfi
      · rw [if_neg h2] at hfi ⊢
        by_cases h3 : s[p + 1] = 40
        · rw [if_pos h3] at hfi ⊢
          exact bg_paren w h hs hl h3 _ rfl hfi
        · rw [if_neg h3] at hfi ⊢
          exact bg_one w h hs hl ⟨h1, h2, h3⟩ _ rfl hfi
  · have hn : (bl s)[p + 1]? = none := by rw [List.getElem?_eq_none_iff, bl_length]; omega
    rw [hn] at hfi ⊢
    exact bg_end w h hs (by omega) _ rfl hfi
theorem inside_any {p : Nat} {F : List Dl} {K : List Br} {k : Br} {D : Dl} (w : World) (h : SnAt base b s vf vo ⟨p, F, K ++ [k]⟩ w) (hD : F[k.wh]? = some D) (hs : s.size ≤ 1000000) (x : UInt8) :
    Calls Tryd.prog 79 #[.pointer (some ⟨b, 0, none⟩), .int .u8 (x.toNat : Int)] w (InPost base b s ⟨p, (insideF x p F K k D).1, (insideF x p F K k D).2⟩ w) := by
  have hps : p ≤ s.size := by have := h.fine.pos; rwa [bl_length] at this
  have hF : F.length ≤ p := h.fine.few
  have hK : (K ++ [k]).length ≤ p := h.fine.opn
  have hdp : k.deep ≤ p := h.fine.deep k (by simp)
  rw [List.length_append, List.length_singleton] at hK
  have hbd : p ≤ 1000000 ∧ K.length ≤ 1000000 ∧ F.length ≤ 1000000 ∧ k.deep ≤ 1000000 := by omega
  have h0 := h.toSnR
  unfold insideF
  by_cases hx : x = 58
  · by_cases hnt : D.nt = 0
    · rw [if_pos ⟨hx, hnt⟩]; exact in_colon w h0 hD x hbd hx hnt
    · have hnt1 : 1 ≤ D.nt := by omega
      rw [if_neg (fun e => hnt e.2)]
      by_cases ho : x = k.o
      · rw [if_pos ho]; exact in_opens2 w h0 hD x hbd hx hnt1 ho
      · rw [if_neg ho]
        by_cases hc : x = k.c
        · rw [if_pos hc]
          by_cases hd : 0 < k.deep
          · rw [if_pos hd]; exact in_less2 w h0 hD x hbd hx hnt1 ho hc hd
          · rw [if_neg hd, if_neg hnt]; exact in_endA2 w h0 hD x hbd hx hnt1 ho hc (by omega) hnt1
        · rw [if_neg hc]; exact in_plain2 w h0 hD x hbd hx hnt1 ho hc
  · rw [if_neg (fun e => hx e.1)]
    by_cases ho : x = k.o
    · rw [if_pos ho]; exact in_opens w h0 hD x hbd hx ho
    · rw [if_neg ho]
      by_cases hc : x = k.c
      · rw [if_pos hc]
        by_cases hd : 0 < k.deep
        · rw [if_pos hd]; exact in_less w h0 hD x hbd hx ho hc hd
        · rw [if_neg hd]
          by_cases hnt : D.nt = 0
          · rw [if_pos hnt]; exact in_endA w h0 hD x hbd hx ho hc (by omega) hnt
          · rw [if_neg hnt]; exact in_endB w h0 hD x hbd hx ho hc (by omega) (by omega)
      · rw [if_neg hc]; exact in_plain w h0 hD x hbd hx ho hc

theorem SnR.next {p : Nat} {F : List Dl} {K : List Br} {w0 w : World} (h : SnR base b s vf vo ⟨p, F, K⟩ w) (hb : Below base w0 w) (hf : (⟨p + 1, F, K⟩ : Sn).Fine (bl s)) : SnAt base b s vf vo ⟨p + 1, F, K⟩ (w.setCell ⟨b, 1, none⟩ (.int .i64 ((p : Int) + 1))) ∧ Below base w0 (w.setCell ⟨b, 1, none⟩ (.int .i64 ((p : Int) + 1))) :=
  ⟨⟨⟨heap_set h.blk _, row_set h.rf h.nf _, row_set h.ro h.no _, h.hb⟩, hf⟩, below_set hb h.hb⟩

set_option maxRecDepth 20000 in
set_option maxHeartbeats 1600000 in
theorem step_any {σ : Sn} (w : World) (h : SnAt base b s vf vo σ w) (hs : s.size ≤ 1000000) (hp : σ.pos < s.size) :
    Calls Tryd.prog 67 #[.pointer (some ⟨b, 0, none⟩)] w (StepPost base b s (stepF (bl s) σ) w) := by
  have c0 := h.c0
  have c1 := h.c1
  have hfi := step_fine h.fine (by rw [bl_length]; exact hp)
  have hlow : ∀ q, Below base w (w.drewN q) := fun q => below_drewN (Below.refl _ _) q
  have HS : Hid (∀ q, SnAt base b s vf vo σ (w.drewN q)) := fun q => ⟨h.toSnR.drewN q, h.fine⟩
  by_cases hx : s[σ.pos] = 36
  · have HB : Hid (∀ q, Calls Tryd.prog 78 #[.pointer (some ⟨b, 0, none⟩)] (w.drewN q) (StepPost base b s (stepF (bl s) σ) w)) := fun q =>
      (begin_any (w.drewN q) (HS.out q) hs hp hx).mono fun e w' ⟨h1, vf', vo', h2, h3⟩ => ⟨h1, vf', vo', h2, (hlow q).trans h3⟩
    have hxn : (s[σ.pos]).toNat = 36 := by rw [hx]; rfl
    obtain ⟨p, F, K⟩ := σ
    dsimp only at hp hxn c1
    have hpi : (p : Int) < (s.size : Int) := by omega
    clear h hfi hx HS hlow
    go_enter Tryd.func67, Tryd.ntmps67
    go_wp2_with fail
    go_quiet (fail)
    go_wp2_with fail
    refine (HB.out _).mono ?_
    rintro e w' ⟨rfl, hpost⟩
    have HQ : Hid _ := hpost
    clear hpost
    go_wp2
    go_end0
    exact ⟨rfl, HQ.out⟩
  · have hxn : ¬ (s[σ.pos]).toNat = 36 := fun e => hx (UInt8.toNat_inj.mp e)
    cases hg : σ.opn.getLast? with
    | none =>
      have hK : σ.opn = [] := by rwa [List.getLast?_eq_none_iff] at hg
      have hst : stepF (bl s) σ = { σ with pos := σ.pos + 1 } := by
        unfold stepF; rw [get_bl hp]; dsimp only; rw [if_neg hx, hg]
      rw [hst] at hfi ⊢
      obtain ⟨p, F, K⟩ := σ
      dsimp only at hp hxn hK c1 hfi ⊢
      subst hK
      have c3 := h.c3
      obtain ⟨ao, co, hvo⟩ := V.owns_slice h.ro
      simp only [List.length_nil] at hvo
      subst hvo
      have f1 := h.fr 1
      have hpi : (p : Int) < (s.size : Int) := by omega
      obtain ⟨xn, hxe⟩ : ∃ xn, xn = (s[p]).toNat := ⟨_, rfl⟩
      have hxp : (s[p]).toNat = xn := hxe.symm
      have hx1 : ¬ (xn : Int) = 36 := by omega
      have hx2 : ((xn : Int) == 36) = false := by rw [beq_eq_false_iff_ne]; exact hx1
      have HF : Hid ((⟨p + 1, F, []⟩ : Sn).Fine (bl s)) := hfi
      have HL : Hid (∀ q, Below base w (w.drewN q)) := hlow
      clear h hfi hx hxn hlow hxe hg hst
      go_enter Tryd.func67, Tryd.ntmps67
      go_wp2_with fail
      go_quiet (fail)
      go_wp2
      go_end0
      exact ⟨rfl, _, _, (HS.out _).toSnR.next (HL.out _) HF.out⟩
    | some k =>
      have hsp := last_split hg
      have hkm : k ∈ σ.opn := by rw [hsp]; simp
      have hwl := h.fine.ok k hkm
      obtain ⟨D, hD⟩ : ∃ D, σ.found[k.wh]? = some D := ⟨_, List.getElem?_eq_getElem hwl⟩
      have hst : stepF (bl s) σ = ⟨σ.pos + 1, (insideF s[σ.pos] σ.pos σ.found σ.opn.dropLast k D).1, (insideF s[σ.pos] σ.pos σ.found σ.opn.dropLast k D).2⟩ := by
        unfold stepF; rw [get_bl hp]; dsimp only; rw [if_neg hx, hg]; dsimp only; rw [hD]
      rw [hst] at hfi ⊢
      obtain ⟨p, F, K⟩ := σ
      dsimp only at hp hxn hsp c1 hfi hD ⊢
      obtain ⟨K0, hK0⟩ : ∃ K0, K0 = K.dropLast := ⟨_, rfl⟩
      rw [← hK0] at hsp hfi ⊢
      have h' := h
      rw [hsp] at h'
      have c3 := h'.c3
      obtain ⟨ao, co, hvo⟩ := V.owns_slice h'.ro
      simp only [List.length_append, List.length_singleton] at hvo
      have HI : Hid (∀ q, Calls Tryd.prog 79 #[.pointer (some ⟨b, 0, none⟩), .int .u8 ((s[p]).toNat : Int)] (w.drewN q) (InPost base b s ⟨p, (insideF s[p] p F K0 k D).1, (insideF s[p] p F K0 k D).2⟩ w)) := fun q =>
        (inside_any (w.drewN q) (by have := HS.out q; rw [hsp] at this; exact this) hD hs s[p]).mono fun e w' ⟨h1, vf', vo', h2, h3⟩ => ⟨h1, vf', vo', h2, (hlow q).trans h3⟩
      subst hvo
      have hpi : (p : Int) < (s.size : Int) := by omega
      obtain ⟨xn, hxe⟩ : ∃ xn, xn = (s[p]).toNat := ⟨_, rfl⟩
      rw [← hxe] at HI
      have hxp : (s[p]).toNat = xn := hxe.symm
      have hx1 : ¬ (xn : Int) = 36 := by omega
      have hx2 : ((xn : Int) == 36) = false := by rw [beq_eq_false_iff_ne]; exact hx1
      obtain ⟨m, hm⟩ : ∃ m, m = K0.length := ⟨_, rfl⟩
      rw [← hm] at c3
      obtain ⟨F1, hF1⟩ : ∃ F1, F1 = (insideF s[p] p F K0 k D).1 := ⟨_, rfl⟩
      obtain ⟨K1, hK1⟩ : ∃ K1, K1 = (insideF s[p] p F K0 k D).2 := ⟨_, rfl⟩
      rw [← hF1, ← hK1] at HI hfi ⊢
      have HF : Hid ((⟨p + 1, F1, K1⟩ : Sn).Fine (bl s)) := hfi
      have hmi : (0 : Int) < (m : Int) + 1 := by omega
      clear h h' hfi hx hxn hlow hxe hg hst hsp hkm hwl hD hK0 hm hF1 hK1
      go_enter Tryd.func67, Tryd.ntmps67
      go_wp2_with fail
      go_quiet (fail)
      go_wp2_with fail
      refine (HI.out _).mono ?_
      rintro e w' ⟨rfl, vf1, vo1, hr1, hb1⟩
      have HR : Hid (SnR base b s vf1 vo1 ⟨p, F1, K1⟩ w' ∧ Below base w w') := ⟨hr1, hb1⟩
      have e1 : w'.cell? ⟨b, 1, none⟩ = some (.int .i64 (p : Int)) := hr1.c1
      have f1 := hr1.fr 1
      clear hr1 hb1 c0 c1 c3
      go_wp2
      go_end0
      exact ⟨rfl, _, _, HR.out.1.next HR.out.2 HF.out⟩
end

def ScanPost (s : ByteArray) (w : World) (e : Ending) (w' : World) : Prop := ∃ v, e = .returned v ∧ w'.ownsRow w.heap.size 142 6 v (scanL (bl s)).length (dlsV (scanL (bl s))) ∧ Below w.heap.size w w'

end Go.Proofs.YtbciedpjaajhcaaDoor.Ex
