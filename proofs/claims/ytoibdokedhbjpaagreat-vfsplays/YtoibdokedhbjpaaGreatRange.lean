/-
  What a range over a store's map has met so far; the bytes of all texts.
-/
import Derived.Test.YtoibdokedhbjpaaGreatLie
namespace Go.Proofs.YtoibdokedhbjpaaGreat
open Go.RowKit Go.Shelf Go.Maps

/-- What is no longer to come. -/
def doneL (L : Fs) (left : Lit → Bool) : Fs := L.filter fun y => !left (keyL y.1)
theorem done_start {D : DataW Unit} {L : Fs} (h : Rep D L) : doneL L (Maps.has D) = [] := by
  unfold doneL
  rw [List.filter_eq_nil_iff]
  intro y hy
  rw [h.look, Fs.mem_look h.uniq (e := y.2) hy]
  simp
theorem done_end (L : Fs) {left : Lit → Bool} (h : ∀ kl, left kl = false) : doneL L left = L := by
  unfold doneL
  rw [List.filter_eq_self]
  intro y _
  simp [h]
theorem done_step {L : Fs} (hu : L.Uniq) {left : Lit → Bool} {x : ByteArray} {c : Ent} (hl : L.look x = some c) (hx : left (keyL x) = true) :
    (doneL L (fun z => left z && !z.sameKey (keyL x))).Perm ((x, c) :: doneL L left) := by
  induction L with
  | nil => cases hl
  | cons y L ih =>
    obtain ⟨h1, h2⟩ := List.pairwise_cons.1 hu
    rw [Fs.look_cons] at hl
    unfold doneL at ih ⊢
    dsimp only at ih ⊢
    rw [List.filter_cons, List.filter_cons]
    by_cases hy : y.1 = x
    · rw [if_pos hy] at hl
      cases hl
      subst hy
      rw [if_pos (by rw [WideAt.sameKey_self (key_isLit y.1)]; simp), if_neg (by rw [hx]; simp)]
      refine List.Perm.of_eq ?_
      show y :: _ = (y.1, y.2) :: _
      congr 1
      refine List.filter_congr fun z hz => ?_
      rw [sameKey_ne (keyL_ne (Ne.symm (h1 z hz)))]
      simp
    · rw [if_neg hy] at hl
      have := ih h2 hl
      rw [sameKey_ne (keyL_ne hy)]
      cases hly : left (keyL y.1)
      · simp only [Bool.false_and, Bool.not_false, if_true]
        exact (List.Perm.cons y this).trans (List.Perm.swap _ _ _)
      · simp only [Bool.not_false, Bool.and_true, Bool.not_true, Bool.false_eq_true, if_false]
        exact this
theorem Rep.of_at {D : DataW Unit} {L : Fs} (h : Rep D L) {x : ByteArray} {c : Ent} (hat : ∀ zd, D.atKey (keyL x) zd = entD c) : L.look x = some c := by
  cases hl : L.look x with
  | none =>
    have := atKey_of_not_has (k := keyL x) (D := D) (by rw [h.look, hl]; rfl) .nil
    rw [hat] at this; cases this
  | some e =>
    have := h.at_ x e .nil hl
    rw [hat] at this
    rw [entD_inj this]
theorem used_perm {a c : Fs} (h : a.Perm c) : Fs.used a = Fs.used c := (h.map _).sum_nat
theorem used_cons (x : ByteArray × Ent) (L : Fs) : Fs.used (x :: L) = x.2.text.size + Fs.used L := by simp [Fs.used]
theorem used_done_le (L : Fs) (left : Lit → Bool) : Fs.used (doneL L left) ≤ Fs.used L := by
  induction L with
  | nil => exact Nat.le_refl _
  | cons y L ih =>
    unfold doneL at ih ⊢
    rw [List.filter_cons]
    split
    · rw [used_cons, used_cons]; omega
    · rw [used_cons]; omega

abbrev mkE (c : Ent) : Value := .agg #[.string c.text, .int .i64 c.time, .bool c.dir]
theorem key_inv (key : Value) (kl : Lit) (hk : keyOf Tryz.prog 9 key = some kl) : ∃ x : ByteArray, key = .string x := by
  obtain ⟨x, hx, _⟩ := Maps.keyOf_str Tryz.underlying9 hk
  exact ⟨⟨x.toArray⟩, hx⟩
theorem ent_inv (v : Value) (y : DataW Unit × List MemPlace) (hv : entR v = some y) : ∃ c, v = mkE c := by
  obtain ⟨e, rfl, _⟩ := entR_inv hv
  exact ⟨e, rfl⟩
theorem key_of {x : ByteArray} {kl : Lit} (hk : keyOf Tryz.prog 9 (.string x) = some kl) : kl = keyL x ∧ x.size ≤ maxLen := by
  obtain ⟨y, hy, rfl, hl⟩ := Maps.keyOf_str Tryz.underlying9 hk
  have : x = ba y := by simpa [encStr, ba] using hy
  subst this
  refine ⟨by rw [keyL, bl_ba], ?_⟩
  rw [← bl_length, bl_ba]; exact hl

set_option maxHeartbeats 400000 in
theorem used_any {base b m : Nat} {v : Value} {s : St} (w : World) (h : Store base b m v s w) :
    Calls Tryz.prog 15 #[ptr b] w fun e w' => e = .returned (.int .i64 s.L.used) ∧ Below w.heap.size w w' := by
  have HR : Hid (Calls Tryz.prog 27 #[ptr b] w fun e w' => e = .returned (.bool true) ∧ w = w') := (ready_any w h).mono fun e w' h => ⟨h.1, h.2.symm⟩
  have c3 := h.c3
  obtain ⟨D, hown, hR⟩ := h.map
  have HD : Hid (Rep D s.L) := hR
  have hul : s.L.used ≤ 1048576 := by have h1 := h.ok.used; have h2 := h.ok.room1; omega
  obtain ⟨n, hn⟩ : ∃ n, n = s.L.length := ⟨_, rfl⟩
  rw [← hn] at hown
  clear hn h hR
  go_enter Tryz.func15, Tryz.ntmps15
  go_wp2_with fail
  refine HR.out.mono ?_
  rintro e w' ⟨rfl, rfl⟩
  go_wp2_with (first | (at_range; refine wpList_range_own _ rfl _ 61 rfl 9 60 keyed9 Tryz.underlying61 _ m n D rfl hown ?_; intro w0 hrg0 hg0 hs0) | go_in)
  go_frame
  have hb0 : Below w.heap.size w w0 := (Below.refl _ w).grown hg0 (Nat.le_refl _) (fun k hk => by cases hk)
  clear hg0 hs0
  go_loopw [3] (fun u wr => ∃ (left : Lit → Bool) (cnt : Nat), wr.ranges Tryz.prog 9 entR m w.heap.size n D left cnt ∧ u = .int .i64 (Fs.used (doneL s.L left)) ∧ Below w.heap.size w wr)
    (fun _ wr => wr.rangeLeft m w.heap.size)
  case atStart => exact ⟨_, _, hrg0, by rw [done_start HD.out]; rfl, hb0⟩
  case round =>
    obtain ⟨left, cnt, hrg, rfl, hb⟩ := hrel
    have hbs := hb.size
    clear hrg0 hb0
    go_wp2_with (first | (at_next; refine wpList_next_ranges _ rfl _ rfl 9 keyed9 entR Value.string mkE key_inv ent_inv m w.heap.size n D left cnt rfl hrg ?_ ?_) | go_in)
    · intro _ hl0
      have HE : Hid (doneL s.L left = s.L) := done_end _ hl0
      clear hl0
      go_wp2
      go_ret
      exact ⟨ret_int (by rw [HE.out]), hb⟩
    · intro x c kl yd yp w2 cnt2 hkey hlk hv hat hrg2 hlt hg2 hs2 hen
      obtain ⟨rfl, _⟩ := key_of hkey
      obtain rfl : entD c = yd := congrArg Prod.fst (Option.some.inj ((entR_mk c).symm.trans hv))
      have hlook := HD.out.of_at hat
      have hp := done_step HD.out.uniq hlook hlk
      have hu1 := used_perm hp
      rw [used_cons] at hu1
      have hu2 := used_done_le s.L (fun z => left z && !z.sameKey (keyL x))
      obtain ⟨tx, tm, td⟩ := c
      simp only at hu1
      have hb2 : Below w.heap.size w w2 := hb.grown hg2 hbs (fun k hk => by cases hk; exact Nat.le_refl _)
      have HC : Hid (cnt2 < cnt ∧ wr.rangeLeft m w.heap.size = cnt) := ⟨hlt, hrg.left_eq⟩
      obtain ⟨u1, hu1e⟩ : ∃ u1, u1 = Fs.used (doneL s.L left) := ⟨_, rfl⟩
      rw [← hu1e] at hu1 ⊢
      have hsm : u1 ≤ 1048576 := by omega
      have hst : tx.size ≤ 1048576 := by omega
      have HU : Hid (Fs.used (doneL s.L (fun z => left z && !z.sameKey (keyL x))) = tx.size + u1) := hu1
      have HG : Hid (w2.ranges Tryz.prog 9 entR m w.heap.size n D (fun z => left z && !z.sameKey (keyL x)) cnt2) := hrg2
      clear hs2 hkey hlk hv hat hrg hrg2 hlt hg2 hlook hp hu1 hu2 hu1e
      go_wp2
      go_roundw
      case rel => exact ⟨_, cnt2, HG.out.alloc _, by rw [HU.out]; go_num, hb2.alloc hb2.size _⟩
      case measure => rw [(HG.out.alloc _).left_eq, HC.out.2]; exact HC.out.1
end Go.Proofs.YtoibdokedhbjpaaGreat
