/-
  The step of S, where something is looked for.
-/
import Derived.Test.YthcbagggalehgaaGreatDoorM12
import Derived.Lib.IndexMore
namespace Go.Proofs.YthcbagggalehgaaGreatDoor
open Go.RowKit Go.Shelf

theorem replaceK_len (old new : List UInt8) : ∀ (k : Nat) (s : List UInt8), (Lib.replaceK old new k s).length ≤ s.length + k * new.length
  | 0, s => by simp [Lib.replaceK]
  | k + 1, s => by
    rw [Lib.replaceK]
    split
    · exact Nat.le_add_right _ _
    · have := replaceK_len old new k (s.drop ((Lib.index s old).toNat + old.length))
      simp only [List.length_append, List.length_take, List.length_drop, Nat.succ_mul] at this ⊢
      omega
theorem replaceAll_len (s old new : List UInt8) : (Lib.replaceAll s old new).length ≤ s.length + (s.length + 1) * new.length := by
  unfold Lib.replaceAll Lib.replace
  split
  · exact Nat.le_add_right _ _
  · refine Nat.le_trans (replaceK_len old new _ s) (Nat.add_le_add_left (Nat.mul_le_mul_right _ ?_) _)
    unfold Lib.replaceNum
    rw [if_pos (Or.inl (by decide))]
    exact Lib.count_le s old
theorem firstI_le (bg en : Bool) (a s : List UInt8) : firstI bg en a s ≤ s.length := by
  unfold firstI
  split
  · omega
  · split
    · omega
    · split
      · omega
      · split
        · omega
        · split
          · omega
          · exact Lib.index_le s a
theorem Step.of_went {base b : Nat} {m : Md} {v : Value} {made : List ByteArray} {done : Bool} {x : Option ByteArray} {w0 w w' : World} (h : Step base b m v made done x w w') (hb : Went b v w0 w) : Step base b m v made done x w0 w' := by
  obtain ⟨⟨v', h1, h2⟩, h3⟩ := h
  refine ⟨⟨v', h1, fun j hj => ?_⟩, hb.same h3⟩
  have := hb.size
  rcases h2 j hj with h4 | h4
  · exact .inl h4
  · exact .inr (by omega)
theorem Went.mx {b : Nat} {v : Value} {w w' : World} (h : Went b v w w') (hm : Mx w) (hb : 0 < b) (hv : v.ownBlock ≠ some 0) : Mx w' := by
  obtain ⟨m, e⟩ := hm
  refine ⟨m, ?_⟩
  have := h.block 0 (Mx.pos ⟨m, e⟩) (by omega) hv
  simp only [World.cell?] at e ⊢
  rw [this]; exact e
theorem Wk.drew {base b : Nat} {m : Md} {v : Value} {made : List ByteArray} {over done : Bool} {w : World} (h : Wk base b m v made over done w) : Wk base b m v made over done w.drew := h.below ((Below.refl _ _).drew)

set_option maxRecDepth 20000 in
set_option maxHeartbeats 3200000 in
theorem repl_keep (base b : Nat) (m : Md) (v : Value) (made : List ByteArray) (done : Bool) (x : ByteArray) (w : World) (h : Wk base b m v made false done w) (ha : m.a.size ≤ 1000000) (hx : x.size ≤ 1000000) (hs : sizeL made ≤ 65536) (hl : made.length ≤ 100000) (hmx : Mx w)
    (hk : firstI m.bg m.en (bl m.a) (bl x) < 0 ∨ (done = true ∧ m.on = true)) :
    Calls Tryz.prog 122 #[.pointer (some ⟨b, 0, none⟩), .string x] w fun e w' => e = .returned (.tuple #[]) ∧ Step base b m v made done (some x) w w' := by
  have HK : Hid (∀ W, Wk base b m v made false done W → Calls Tryz.prog 141 #[.pointer (some ⟨b, 0, none⟩), .string x] W fun e w' => e = .returned (.tuple #[]) ∧ Step base b m v made done (some x) W w') := fun W hW => keep_any base b m v made false done x W hW hs hl
  have HW : Hid (Wk base b m v made false done w) := h
  obtain ⟨⟨r0, r1, r2, r3, r4, r6, r7, r8, r9⟩, ⟨r12, r13, r14, r15⟩, hfz⟩ := h.cells
  clear h
  obtain ⟨F, hF⟩ : ∃ F, F = firstI m.bg m.en (bl m.a) (bl x) := ⟨_, rfl⟩
  have HFi : Hid (Calls Tryz.prog 142 #[.pointer (some ⟨b, 0, none⟩), .string x] w fun e w' => e = .returned (.int .i64 F) ∧ w = w') := by
    rw [hF]; exact first_any b m.a x m.bg m.en w r1 r3 r4 ha hx hmx
  rw [← hF] at hk
  clear hF hmx
  by_cases hneg : F < 0
  · clear hk
    go_enter Tryz.func122, Tryz.ntmps122
    go_wp2_with fail
    refine HFi.out.mono ?_
    rintro e w' ⟨rfl, rfl⟩
    go_wp2_with fail
    refine (HK.out _ HW.out).mono ?_
    rintro e w2 ⟨rfl, hst⟩
    have HS : Hid (Step base b m v made done (some x) w w2) := hst
    clear hst
    go_wp2
    refine bodyPost_ret (v := .tuple #[]) (by simp [results, Tryz.results122, go_sem]) rfl ⟨rfl, HS.out⟩
  · obtain ⟨hd, ho⟩ := hk.resolve_left hneg
    rw [hd] at r15
    rw [ho] at r7
    clear hk ho
    go_enter Tryz.func122, Tryz.ntmps122
    go_wp2_with fail
    refine HFi.out.mono ?_
    rintro e w' ⟨rfl, rfl⟩
    go_wp2_with fail
    refine (HK.out _ HW.out).mono ?_
    rintro e w2 ⟨rfl, hst⟩
    have HS : Hid (Step base b m v made done (some x) w w2) := hst
    clear hst
    go_wp2
    refine bodyPost_ret (v := .tuple #[]) (by simp [results, Tryz.results122, go_sem]) rfl ⟨rfl, HS.out⟩

/-- How many places S changes. -/
def placesN (al bg en : Bool) (a s : List UInt8) : Nat := if al = true ∧ bg = false ∧ en = false then Lib.count s a else 1
def replY (m : Md) (x : ByteArray) : ByteArray :=
  ba ((bl x).take (firstI m.bg m.en (bl m.a) (bl x)).toNat ++ Lib.replace ((bl x).drop (firstI m.bg m.en (bl m.a) (bl x)).toNat) (bl m.a) (Lib.replaceAll (bl m.b) [38] (bl m.a)) (placesN m.al m.bg m.en (bl m.a) (bl x)))
def replN (m : Md) (mks ots : Nat) (x : ByteArray) : Int :=
  (x.size : Int) - (placesN m.al m.bg m.en (bl m.a) (bl x) * m.a.size : Nat) + (placesN m.al m.bg m.en (bl m.a) (bl x) : Nat) * ots + (placesN m.al m.bg m.en (bl m.a) (bl x) * m.a.size : Nat) * mks
end Go.Proofs.YthcbagggalehgaaGreatDoor
