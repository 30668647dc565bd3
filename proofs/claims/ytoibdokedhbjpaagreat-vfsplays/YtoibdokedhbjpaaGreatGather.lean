/-
  The names in a directory in no order, and all files' paths, rising.
-/
import Derived.Test.YtoibdokedhbjpaaGreatRange
namespace Go.Proofs.YtoibdokedhbjpaaGreat
open Go.RowKit Go.Shelf Go.Maps

theorem strs_enc (xs : List ByteArray) : xs.map Value.string = (xs.map bl).map encStr := by
  rw [List.map_map]
  refine List.map_congr_left fun x _ => ?_
  show Value.string x = .string (ba (bl x))
  rw [ba_bl]
theorem sorted_strs (xs : List ByteArray) : (St.sorted xs).map Value.string = ((xs.map bl).mergeSort fun x y => decide (x ≤ y)).map encStr := by
  unfold St.sorted
  rw [List.map_map]
  refine List.map_congr_left fun x _ => ?_
  show Value.string (ba x) = .string ⟨x.toArray⟩
  rfl
theorem sorted_length (xs : List ByteArray) : (St.sorted xs).length = xs.length := by simp [St.sorted, List.length_mergeSort]
theorem sorted_perm (xs : List ByteArray) : (St.sorted xs).Perm xs := by
  unfold St.sorted
  have h := (List.mergeSort_perm (xs.map bl) (fun x y => decide (x ≤ y))).map ba
  rw [List.map_map, show (ba ∘ bl) = id from funext ba_bl, List.map_id] at h
  exact h
theorem sorted_of_perm {a c : List ByteArray} (h : a.Perm c) : St.sorted a = St.sorted c := by
  unfold St.sorted
  rw [mergeSort_of_perm (h.map bl)]

theorem sort_own (v : Value) (xs : List ByteArray) (base : Nat) (w : World) (h : w.ownsRow base 9 1 v xs.length (xs.map Value.string)) (hn : xs.length ≤ 1000000) :
    Calls Tryz.prog 45 #[v] w fun e w' => e = .returned (.tuple #[]) ∧ w'.ownsRow base 9 1 v xs.length ((St.sorted xs).map Value.string) ∧ w.grownBy w' v.ownBlock := by
  by_cases hne : xs = []
  · subst hne
    obtain ⟨a, cap, rfl⟩ := owns_slice h
    refine (Tryz.slices_Sort_string_none a cap w).mono ?_
    rintro e w' ⟨rfl, rfl⟩
    exact ⟨rfl, by simpa [St.sorted] using h, ⟨rfl, rfl, rfl, Nat.le_refl _, fun _ _ _ => rfl⟩⟩
  · rcases h.2 with ⟨_, h0⟩ | ⟨g, cap, cur, rfl, hbase, hb, h1, h2, h3, h4⟩
    · exact absurd (List.length_eq_zero_iff.1 h0) hne
    have hl : (xs.map bl).length = xs.length := by simp
    have hH : Go.Sort.Holds encStr w g 0 (xs.map bl).toArray := holds_of_block hb (by rw [hl, ← strs_enc]; simpa using h4)
    have hc := Tryz.slices_Sort_string g 0 cap (xs.map bl) w hH (Array.getElem?_eq_some_iff.1 hb).1 (by rw [hl]; omega)
    rw [hl] at hc
    refine hc.mono ?_
    rintro e w' ⟨rfl, n, os, rfl⟩
    refine ⟨rfl, ?_, grownBy_sorted _⟩
    have := ownsRow_sorted (w := w) (n := n) (os := os) (ss := xs.map bl) (ts := (xs.map bl).mergeSort fun x y => decide (x ≤ y)) (by simp [List.length_mergeSort]) hbase hb (by rw [hl]; exact h1) h2 h3
    rw [hl, ← sorted_strs] at this
    exact this

/-- The texts gathered so far. -/
def got (f : ByteArray × Ent → Option ByteArray) (L : Fs) : List ByteArray := L.filterMap f
theorem got_step {f : ByteArray × Ent → Option ByteArray} {L : Fs} {left : Lit → Bool} {x : ByteArray} {c : Ent} {ss : List ByteArray} (hu : L.Uniq) (hl : L.look x = some c) (hx : left (keyL x) = true) (h : ss.Perm (got f (doneL L left))) {y : ByteArray} (hf : f (x, c) = some y) :
    (ss ++ [y]).Perm (got f (doneL L (fun z => left z && !z.sameKey (keyL x)))) := by
  have h1 := (done_step hu hl hx).filterMap f
  rw [List.filterMap_cons, hf] at h1
  exact ((List.perm_append_comm (l₁ := ss) (l₂ := [y])).trans (List.Perm.cons y h)).trans h1.symm
theorem got_skip {f : ByteArray × Ent → Option ByteArray} {L : Fs} {left : Lit → Bool} {x : ByteArray} {c : Ent} {ss : List ByteArray} (hu : L.Uniq) (hl : L.look x = some c) (hx : left (keyL x) = true) (h : ss.Perm (got f (doneL L left))) (hf : f (x, c) = none) :
    ss.Perm (got f (doneL L (fun z => left z && !z.sameKey (keyL x)))) := by
  have h1 := (done_step hu hl hx).filterMap f
  rw [List.filterMap_cons, hf] at h1
  exact h.trans h1.symm
theorem got_len (f : ByteArray × Ent → Option ByteArray) (L : Fs) (left : Lit → Bool) {ss : List ByteArray} (h : ss.Perm (got f (doneL L left))) : ss.length ≤ L.length := by
  rw [h.length_eq]
  exact Nat.le_trans (List.length_filterMap_le _ _) (List.length_filter_le _ _)

def fileF (x : ByteArray × Ent) : Option ByteArray := if x.2.dir then none else some x.1
theorem got_files (L : Fs) : got fileF L = (L.filter fun x => !x.2.dir).map (·.1) := by
  induction L with
  | nil => rfl
  | cons x L ih =>
    unfold got at ih ⊢
    rw [List.filterMap_cons, List.filter_cons, ih]
    unfold fileF
    cases x.2.dir <;> rfl

set_option maxHeartbeats 1000000 in
theorem all_any {base b m : Nat} {v : Value} {s : St} (w : World) (h : Store base b m v s w) :
    Calls Tryz.prog 21 #[ptr b] w fun e w' => ∃ u, e = .returned u ∧ w'.ownsRow w.heap.size 9 1 u s.all.length (s.all.map Value.string) ∧ Below w.heap.size w w' := by
  obtain ⟨i0, hi, hz0, hz1, hz2⟩ := info_parts Tryz.info9
  have HR : Hid (Calls Tryz.prog 27 #[ptr b] w fun e w' => e = .returned (.bool true) ∧ w = w') := (ready_any w h).mono fun e w' h => ⟨h.1, h.2.symm⟩
  have c3 := h.c3
  have hmlt := h.ltm
  obtain ⟨D, hown, hR⟩ := h.map
  have HD : Hid (Rep D s.L) := hR
  have hlen := h.ok.len
  obtain ⟨n, hn⟩ : ∃ n, n = s.L.length := ⟨_, rfl⟩
  rw [← hn] at hown
  have HN : Hid (n = s.L.length) := hn
  clear hn h hR
  go_enter Tryz.func21, Tryz.ntmps21
  go_wp2_with fail
  refine HR.out.mono ?_
  rintro e w' ⟨rfl, rfl⟩
  go_wp2_with (first | (at_range; refine wpList_range_own _ rfl _ 61 rfl 9 60 keyed9 Tryz.underlying61 _ m n D rfl hown ?_; intro w0 hrg0 hg0 hs0) | go_in)
  go_frame
  have hb0 : Below w.heap.size w w0 := (Below.refl _ w).grown hg0 (Nat.le_refl _) (fun k hk => by cases hk)
  clear hg0 hs0
  go_loopw [3] (fun u wr => ∃ (left : Lit → Bool) (cnt : Nat) (ss : List ByteArray), wr.ranges Tryz.prog 9 entR m w.heap.size n D left cnt ∧ wr.ownsRow w.heap.size 9 1 u ss.length (ss.map Value.string) ∧ ss.Perm (got fileF (doneL s.L left)) ∧ Below w.heap.size w wr)
    (fun _ wr => wr.rangeLeft m w.heap.size)
  case atStart => exact ⟨_, _, [], hrg0, World.ownsRow_nil _ _ _ _, by rw [done_start HD.out]; exact List.Perm.refl _, hb0⟩
  case round =>
    obtain ⟨left, cnt, ss, hrg, hrow, hperm, hb⟩ := hrel
    have hbs := hb.size
    clear hrg0 hb0
    go_wp2_with (first | (at_next; refine wpList_next_ranges _ rfl _ rfl 9 keyed9 entR Value.string mkE key_inv ent_inv m w.heap.size n D left cnt rfl hrg ?_ ?_) | go_in)
    · intro _ hl0
      rw [done_end _ hl0] at hperm
      have hsl : ss.length ≤ 1000000 := by
        have := hperm.length_eq
        have h2 := List.length_filterMap_le fileF s.L
        unfold got at this
        omega
      have HA : Hid (s.all = St.sorted ss) := by
        unfold Hid St.all; rw [← got_files]; exact (sorted_of_perm hperm).symm
      have HS : Hid (Calls Tryz.prog 45 #[u3] wr fun e w' => e = .returned (.tuple #[]) ∧ w'.ownsRow w.heap.size 9 1 u3 ss.length ((St.sorted ss).map Value.string) ∧ wr.grownBy w' u3.ownBlock) := sort_own u3 ss _ wr hrow hsl
      have hlow := hrow.lt
      clear hl0 hperm hsl hrg hrow
      go_wp2_with fail
      refine HS.out.mono ?_
      rintro e w3 ⟨rfl, hrow3, hg3⟩
      have hb3 : Below w.heap.size w w3 := hb.grown hg3 hbs (fun k hk => (hlow k hk).1)
      have HO : Hid (w3.ownsRow w.heap.size 9 1 u3 ss.length ((St.sorted ss).map Value.string)) := hrow3
      clear hrow3 hg3 hlow HS
      go_wp2
      go_ret
      exact ⟨_, rfl, by rw [HA.out, sorted_length]; exact HO.out, hb3⟩
    · intro x c kl yd yp w2 cnt2 hkey hlk hv hat hrg2 hlt hg2 hs2 hen
      obtain ⟨rfl, _⟩ := key_of hkey
      obtain rfl : entD c = yd := congrArg Prod.fst (Option.some.inj ((entR_mk c).symm.trans hv))
      have hlook := HD.out.of_at hat
      have HP : Hid (ss.Perm (got fileF (doneL s.L left)) ∧ left (keyL x) = true ∧ s.L.look x = some c) := ⟨hperm, hlk, hlook⟩
      have hsl := got_len _ _ _ hperm
      have hb2 : Below w.heap.size w w2 := hb.grown hg2 hbs (fun k hk => by cases hk; exact Nat.le_refl _)
      have HC : Hid (cnt2 < cnt ∧ wr.rangeLeft m w.heap.size = cnt) := ⟨hlt, hrg.left_eq⟩
      have hrow2 : w2.ownsRow w.heap.size 9 1 u3 ss.length (ss.map Value.string) := hrow.kept hg2 (.inr (row_ne_iter hrow hrg).symm)
      have hni := row_ne_iter hrow2 hrg2
      have hnm := row_ne_low hrow2 hmlt
      have hb2s := hb2.size
      have HG : Hid (w2.ranges Tryz.prog 9 entR m w.heap.size n D (fun z => left z && !z.sameKey (keyL x)) cnt2) := hrg2
      obtain ⟨k, hk⟩ : ∃ k, k = ss.length := ⟨_, rfl⟩
      rw [← hk] at hsl hrow2
      have HK : Hid (k = ss.length) := hk
      have hlow := hrow2.lt
      obtain ⟨tx, tm, td⟩ := c
      clear hs2 hkey hlk hv hat hrg hrg2 hlt hg2 hlook hperm hrow hk
      cases td
      · go_wp2_with (first | (at_builtin; refine wpList_append_own _ rfl _ _ 47 rfl w.heap.size 9 i0 (.string ⟨#[]⟩) 1 16 Tryz.underlying47 hi hz0 hz1 hz2 rfl (by decide) _ _ _ rfl ((hrow2.alloc _).alloc _) ⟨w2.heap.size + 1, 0, none⟩ 1 1 [.string x] rfl rfl ?c1 ?c2 ?c3 ?c4 ?c5 ?_) | go_in)
        case c1 =>
          intro j u hj
          match j, hj with
          | 0, hj => simp at hj; subst hj; simp [Addr.add]
        case c2 => intro u hu; simp at hu; subst hu; rfl
        case c3 => unfold maxLen; omega
        case c4 => omega
        case c5 => simp; omega
        intro v' w3 hown' hgrow _
        have hb3 : Below w.heap.size w w3 := ((hb2.alloc hb2s _).alloc (by simp; omega) _).grown hgrow (by simp; omega) (fun k hk => (hlow k hk).1)
        have HO : Hid (w3.ownsRow w.heap.size 9 1 v' (ss ++ [x]).length ((ss ++ [x]).map Value.string)) := by
          unfold Hid; rw [HK.out] at hown'; simpa using hown'
        have HG3 : Hid (w3.ranges Tryz.prog 9 entR m w.heap.size n D (fun z => left z && !z.sameKey (keyL x)) cnt2) := ((HG.out.alloc _).alloc _).kept hgrow hnm hni
        clear hown' hgrow hrow2 hb hb2 hni hnm hlow
        go_wp2
        go_roundw
        case rel => exact ⟨_, cnt2, ss ++ [x], HG3.out, HO.out, got_step HD.out.uniq HP.out.2.2 HP.out.2.1 HP.out.1 rfl, hb3⟩
        case measure => rw [HG3.out.left_eq, HC.out.2]; exact HC.out.1
      · have HO : Hid ((w2.alloc (.cells #[.string tx, .int .i64 tm, .bool true] 60)).ownsRow w.heap.size 9 1 u3 ss.length (ss.map Value.string)) := by
          unfold Hid; rw [← HK.out]; exact hrow2.alloc _
        clear hrow2 hni hnm hlow
        go_wp2
        go_roundw
        case rel => exact ⟨_, cnt2, ss, HG.out.alloc _, HO.out, got_skip HD.out.uniq HP.out.2.2 HP.out.2.1 HP.out.1 rfl, hb2.alloc hb2s _⟩
        case measure => rw [(HG.out.alloc _).left_eq, HC.out.2]; exact HC.out.1
end Go.Proofs.YtoibdokedhbjpaaGreat
