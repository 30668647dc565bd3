/-
  The names in a directory, in no order.
-/
import Derived.Test.YtoibdokedhbjpaaGreatGather
namespace Go.Proofs.YtoibdokedhbjpaaGreat
open Go.RowKit Go.Shelf Go.Maps

def nameF (q : ByteArray) (x : ByteArray × Ent) : Option ByteArray := if St.inDir q x then some (nameB x.1) else none
theorem got_names (q : ByteArray) (L : Fs) : got (nameF q) L = (L.filter (St.inDir q)).map fun x => nameB x.1 := by
  induction L with
  | nil => rfl
  | cons x L ih =>
    unfold got at ih ⊢
    rw [List.filterMap_cons, List.filter_cons, ih]
    unfold nameF
    cases St.inDir q x <;> rfl

set_option maxHeartbeats 1000000 in
theorem names_any {base b m : Nat} {v : Value} {s : St} (q : ByteArray) (w : World) (h : Store base b m v s w) :
    Calls Tryz.prog 44 #[ptr b, .string q] w fun e w' => ∃ (u : Value) (ss : List ByteArray), e = .returned u ∧ w'.ownsRow w.heap.size 9 1 u ss.length (ss.map Value.string) ∧ ss.Perm (s.kids q) ∧ Below w.heap.size w w' := by
  obtain ⟨i0, hi, hz0, hz1, hz2⟩ := info_parts Tryz.info9
  have HPA : Hid (∀ x ∈ s.L, x.1.size ≤ 1100000) := fun x hx => (h.ok.path x hx).2
  have c3 := h.c3
  have hmlt := h.ltm
  obtain ⟨D, hown, hR⟩ := h.map
  have HD : Hid (Rep D s.L) := hR
  have hlen := h.ok.len
  obtain ⟨n, hn⟩ : ∃ n, n = s.L.length := ⟨_, rfl⟩
  rw [← hn] at hown
  clear hn h hR
  go_enter Tryz.func44, Tryz.ntmps44
  go_wp2_with (first | (at_range; refine wpList_range_own _ rfl _ 61 rfl 9 60 keyed9 Tryz.underlying61 _ m n D rfl hown ?_; intro w0 hrg0 hg0 hs0) | go_in)
  go_frame
  have hb0 : Below w.heap.size w w0 := (Below.refl _ w).grown hg0 (Nat.le_refl _) (fun k hk => by cases hk)
  clear hg0 hs0
  go_loopw [5] (fun u wr => ∃ (left : Lit → Bool) (cnt : Nat) (ss : List ByteArray), wr.ranges Tryz.prog 9 entR m w.heap.size n D left cnt ∧ wr.ownsRow w.heap.size 9 1 u ss.length (ss.map Value.string) ∧ ss.Perm (got (nameF q) (doneL s.L left)) ∧ Below w.heap.size w wr)
    (fun _ wr => wr.rangeLeft m w.heap.size)
  case atStart => exact ⟨_, _, [], hrg0, World.ownsRow_nil _ _ _ _, by rw [done_start HD.out]; exact List.Perm.refl _, hb0⟩
  case round =>
    obtain ⟨left, cnt, ss, hrg, hrow, hperm, hb⟩ := hrel
    have hbs := hb.size
    clear hrg0 hb0
    go_wp2_with (first | (at_next; refine wpList_next_ranges _ rfl _ rfl 9 keyed9 entR Value.string mkE key_inv ent_inv m w.heap.size n D left cnt rfl hrg ?_ ?_) | go_in)
    · intro _ hl0
      rw [done_end _ hl0] at hperm
      have HO : Hid (wr.ownsRow w.heap.size 9 1 u5 ss.length (ss.map Value.string) ∧ ss.Perm (s.kids q)) := ⟨hrow, by unfold St.kids; rw [← got_names]; exact hperm⟩
      clear hl0 hperm hrg hrow
      go_wp2
      go_ret
      exact ⟨_, ss, rfl, HO.out.1, HO.out.2, hb⟩
    · intro x c kl yd yp w2 cnt2 hkey hlk hv hat hrg2 hlt hg2 hs2 hen
      obtain ⟨rfl, _⟩ := key_of hkey
      obtain rfl : entD c = yd := congrArg Prod.fst (Option.some.inj ((entR_mk c).symm.trans hv))
      have hlook := HD.out.of_at hat
      have hxs : x.size ≤ 1100000 := HPA.out _ (Fs.look_mem hlook)
      have HP : Hid (ss.Perm (got (nameF q) (doneL s.L left)) ∧ left (keyL x) = true ∧ s.L.look x = some c) := ⟨hperm, hlk, hlook⟩
      have hsl := got_len _ _ _ hperm
      have hb2 : Below w.heap.size w w2 := hb.grown hg2 hbs (fun k hk => by cases hk; exact Nat.le_refl _)
      have HC : Hid (cnt2 < cnt ∧ wr.rangeLeft m w.heap.size = cnt) := ⟨hlt, hrg.left_eq⟩
      have hrow2 : w2.ownsRow w.heap.size 9 1 u5 ss.length (ss.map Value.string) := hrow.kept hg2 (.inr (row_ne_iter hrow hrg).symm)
      have hni := row_ne_iter hrow2 hrg2
      have hnm := row_ne_low hrow2 hmlt
      have hb2s := hb2.size
      have HG : Hid (w2.ranges Tryz.prog 9 entR m w.heap.size n D (fun z => left z && !z.sameKey (keyL x)) cnt2) := hrg2
      obtain ⟨k, hk⟩ : ∃ k, k = ss.length := ⟨_, rfl⟩
      have HO : Hid (w2.ownsRow w.heap.size 9 1 u5 ss.length (ss.map Value.string)) := hrow2
      rw [← hk] at hsl hrow2
      have HK : Hid (k = ss.length) := hk
      have hlow := hrow2.lt
      have HDr : Hid (∀ W, Calls Tryz.prog 65 #[.string x] W fun e w' => e = .returned (.string (dirB x)) ∧ W = w') := fun W => (dir_any x W (by omega)).mono fun e w' h => ⟨h.1, h.2.symm⟩
      have HYtoibdokedhbjpaaGreat : Hid (∀ W, Calls Tryz.prog 66 #[.string x] W fun e w' => e = .returned (.string (nameB x)) ∧ W = w') := fun W => (name_any x W (by omega)).mono fun e w' h => ⟨h.1, h.2.symm⟩
      clear hs2 hkey hlk hv hat hrg hrg2 hlt hg2 hlook hperm hrow hk
      by_cases hxt : x = topB
      · have HF : Hid (nameF q (x, c) = none) := by unfold Hid nameF St.inDir; simp [hxt]
        subst hxt
        clear hrow2 hni hnm hlow
        go_wp2
        go_roundw
        case rel => exact ⟨_, cnt2, ss, HG.out, HO.out, got_skip HD.out.uniq HP.out.2.2 HP.out.2.1 HP.out.1 HF.out, hb2⟩
        case measure => rw [HG.out.left_eq, HC.out.2]; exact HC.out.1
      · have HF : Hid (nameF q (x, c) = if dirB x = q then some (nameB x) else none) := by unfold Hid nameF St.inDir; simp [hxt]
        have t1 : ¬ x.toList = [47] := by rw [Lib.toList_data]; exact fun e => hxt (bl_inj e)
        have t1' : (x.toList == [47]) = false := by simpa using t1
        obtain ⟨d, hd⟩ : ∃ d, d = dirB x := ⟨_, rfl⟩
        obtain ⟨nm, hnme⟩ : ∃ nm, nm = nameB x := ⟨_, rfl⟩
        rw [← hd] at HDr HF
        rw [← hnme] at HYtoibdokedhbjpaaGreat HF
        clear hd hnme hxt
        by_cases hdq : d = q
        · subst hdq
          have HF2 : Hid (nameF d (x, c) = some nm) := by rw [HF.out, if_pos rfl]; rfl
          clear HF
          go_wp2_with fail
          refine (HDr.out _).mono ?_
          rintro e w' ⟨rfl, rfl⟩
          go_wp2_with fail
          refine (HYtoibdokedhbjpaaGreat.out _).mono ?_
          rintro e w' ⟨rfl, rfl⟩
          go_wp2_with (first | (at_builtin; refine wpList_append_own _ rfl _ _ 47 rfl w.heap.size 9 i0 (.string ⟨#[]⟩) 1 16 Tryz.underlying47 hi hz0 hz1 hz2 rfl (by decide) _ _ _ rfl (hrow2.alloc _) ⟨w2.heap.size, 0, none⟩ 1 1 [.string nm] rfl rfl ?c1 ?c2 ?c3 ?c4 ?c5 ?_) | go_in)
          case c1 =>
            intro j u hj
            match j, hj with
            | 0, hj => simp at hj; subst hj; simp [Addr.add]
          case c2 => intro u hu; simp at hu; subst hu; rfl
          case c3 => unfold maxLen; omega
          case c4 => omega
          case c5 => simp; omega
          intro v' w3 hown' hgrow _
          have hb3 : Below w.heap.size w w3 := (hb2.alloc hb2s _).grown hgrow (by simp; omega) (fun k hk => (hlow k hk).1)
          have HO3 : Hid (w3.ownsRow w.heap.size 9 1 v' (ss ++ [nm]).length ((ss ++ [nm]).map Value.string)) := by
            unfold Hid; rw [HK.out] at hown'; simpa using hown'
          have HG3 : Hid (w3.ranges Tryz.prog 9 entR m w.heap.size n D (fun z => left z && !z.sameKey (keyL x)) cnt2) := (HG.out.alloc _).kept hgrow hnm hni
          clear hown' hgrow hrow2 hb hb2 hni hnm hlow
          go_wp2
          go_roundw
          case rel => exact ⟨_, cnt2, ss ++ [nm], HG3.out, HO3.out, got_step HD.out.uniq HP.out.2.2 HP.out.2.1 HP.out.1 HF2.out, hb3⟩
          case measure => rw [HG3.out.left_eq, HC.out.2]; exact HC.out.1
        · have HF2 : Hid (nameF q (x, c) = none) := by rw [HF.out, if_neg hdq]; rfl
          have t2 : ¬ d.toList = q.toList := by rw [Lib.toList_data, Lib.toList_data]; exact fun e => hdq (bl_inj e)
          have t2' : (d.toList == q.toList) = false := by simpa using t2
          clear HF hrow2 hni hnm hlow hdq
          go_wp2_with fail
          refine (HDr.out _).mono ?_
          rintro e w' ⟨rfl, rfl⟩
          go_wp2
          go_roundw
          case rel => exact ⟨_, cnt2, ss, HG.out, HO.out, got_skip HD.out.uniq HP.out.2.2 HP.out.2.1 HP.out.1 HF2.out, hb2⟩
          case measure => rw [HG.out.left_eq, HC.out.2]; exact HC.out.1
end Go.Proofs.YtoibdokedhbjpaaGreat
