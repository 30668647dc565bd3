/-
  PRead PComp PWalk
-/
import Derived.Test.YtedepknbaakkhaaGreatDoorL23
import Derived.Laws.AppendOwnNone
import Derived.Maps.AppendAt
set_option maxRecDepth 20000
namespace Go.Proofs.YtedepknbaakkhaaGreatDoor.X
open Go.RowKit Go.Shelf RxSem
theorem sc_next {o : Nat} {a : Bool} {c : UInt8} {t : List UInt8} {res : SRes} (h : Sc o a (c :: t) res) : match nextR o a (c :: t) with
    | .ok x o' a' r => ∃ res', Sc o' a' r res' ∧ res = res'.cons x
    | .bad w l => res = .bad w l := by
  unfold nextR
  dsimp only
  cases h with
  | markBad _ _ _ _ w h h1 => rw [if_pos h, h1]
  | mark _ _ _ _ o' a' r h h1 h2 => rw [if_pos h, h1]; exact ⟨r, h2, rfl⟩
  | thingBad _ _ _ _ w l h h1 => rw [if_neg (by rw [h]; simp), h1]
  | thing _ _ _ _ t' x r h h1 h2 => rw [if_neg (by rw [h]; simp), h1]; exact ⟨r, h2, rfl⟩
theorem thingR_len {c : UInt8} {t : List UInt8} {x : Stp} {r : List UInt8} (h : thingR (c :: t) = .inl (x, r)) : r.length < (c :: t).length := by
  unfold thingR at h
  dsimp only at h
  split at h
  · cases h; simp
  · split at h
    · cases h; simp
    · split at h
      · cases h; simp
      · split at h
        · split at h
          · rename_i hs; cases h; have := setR_len hs; simp; omega
          · cases h
          · cases h
        · split at h
          · split at h
            · cases h
            · cases h; simp; omega
          · cases h; simp
theorem next_less {o : Nat} {a : Bool} {c : UInt8} {t : List UInt8} (ho : o ≤ 16) {x : Sg} {o' : Nat} {a' : Bool} {r : List UInt8} (h : nextR o a (c :: t) = .ok x o' a' r) : o' ≤ 16 ∧ r.length < (c :: t).length := by
  unfold nextR at h
  dsimp only at h
  split at h
  · split at h
    · cases h
    · rename_i hm
      cases h
      refine ⟨?_, by simp⟩
      unfold markR at hm
      split at hm
      · cases hm
      · split at hm
        · cases hm
        · split at hm
          · rename_i h1 h2 h3
            simp only [Sum.inr.injEq, Prod.mk.injEq] at hm
            have : ¬ o = 16 := fun e => h2 ⟨h3, e⟩
            omega
          · split at hm
            · simp only [Sum.inr.injEq, Prod.mk.injEq] at hm; omega
            · simp only [Sum.inr.injEq, Prod.mk.injEq] at hm; omega
  · split at h
    · rename_i hm; cases h; exact ⟨ho, thingR_len hm⟩
    · cases h
theorem setL_34 : ∀ (m : Nat) (r : List UInt8) (first : Bool) (f : UInt8 → Bool) (w l : Nat), r.length ≤ m → setL r first f = .inr (w, l) → w ≠ 0 := by
  intro m
  induction m with
  | zero =>
    intro r first f w l hm h
    have : r = [] := List.length_eq_zero_iff.1 (by omega)
    subst this
    rw [setL_nil] at h
    simp at h; omega
  | succ m ih =>
    intro r first f w l hm h
    cases r with
    | nil => rw [setL_nil] at h; simp at h; omega
    | cons c t =>
      simp only [List.length_cons] at hm
      by_cases hc : c = 93 ∧ first = false
      · rw [setL_stop hc] at h; cases h
      · cases t with
        | nil => rw [setL_last hc] at h; simp at h; omega
        | cons a t =>
          simp only [List.length_cons] at hm
          by_cases ha : a = 45
          · subst ha
            cases t with
            | nil => rw [setL_dash hc] at h; simp at h; omega
            | cons d t =>
              simp only [List.length_cons] at hm
              rw [setL_range hc] at h
              by_cases hd : d = 93
              · rw [if_pos hd] at h; exact ih _ _ _ _ _ (by simp; omega) h
              · rw [if_neg hd] at h
                by_cases hl : d < c
                · rw [if_pos hl] at h; simp at h; omega
                · rw [if_neg hl] at h; exact ih _ _ _ _ _ (by omega) h
          · rw [setL_byte hc ha] at h; exact ih _ _ _ _ _ (by simp; omega) h
theorem setR_34 {r : List UInt8} {w l : Nat} (h : setR r = .bad w l) : w ≠ 0 := by
  unfold setR at h
  split at h
  · split at h
    · cases h
    · rename_i hs; cases h; exact setL_34 _ _ _ _ _ _ (Nat.le_refl _) hs
  · split at h
    · cases h
    · rename_i hs; cases h; exact setL_34 _ _ _ _ _ _ (Nat.le_refl _) hs
theorem next_why {o : Nat} {a : Bool} {c : UInt8} {t : List UInt8} {w l : Nat} (h : nextR o a (c :: t) = .bad w l) : w ≠ 0 := by
  unfold nextR at h
  dsimp only at h
  split at h
  · split at h
    · rename_i hm
      cases h
      unfold markR at hm
      split at hm
      · simp only [Sum.inl.injEq] at hm; omega
      · split at hm
        · simp only [Sum.inl.injEq] at hm; omega
        · split at hm
          · cases hm
          · split at hm <;> cases hm
    · cases h
  · split at h
    · cases h
    · rename_i hm
      cases h
      unfold thingR at hm
      dsimp only at hm
      split at hm
      · cases hm
      · split at hm
        · cases hm
        · split at hm
          · cases hm
          · split at hm
            · rcases setR_shape t with ⟨f, r, e⟩ | ⟨w', l', e⟩
              · rw [e] at hm; cases hm
              · rw [e] at hm; cases hm; exact setR_34 e
            · split at hm
              · split at hm
                · simp only [Sum.inr.injEq, Prod.mk.injEq] at hm; omega
                · cases hm
              · cases hm
theorem infoS : (Tryz.prog.info? 192).map (fun i => (i.zero, i.size, i.bytes)) = some (some (.agg #[.int .u8 0, .int .i64 0, .int .u64 0, .int .u64 0, .int .u64 0, .int .u64 0, .int .i64 0, .int .i64 0]), 8, 64) := by kernel_rfl
theorem info_parts {P : Program} {T : TypeId} {z : Option Value} {k n : Nat} (h : (P.info? T).map (fun i => (i.zero, i.size, i.bytes)) = some (z, k, n)) : ∃ i, P.info? T = some i ∧ i.zero = z ∧ i.size = k ∧ i.bytes = n := by
  cases hi : P.info? T with
  | none => rw [hi] at h; cases h
  | some i => rw [hi] at h; simp at h; exact ⟨i, rfl, h.1, h.2.1, h.2.2⟩
theorem signC_len (x : SG) : (signC x).length = 8 := rfl
theorem row_ne {w : World} {base g : Nat} {v : Value} {e T : TypeId} {k n : Nat} {xs : List Value} {cs : Array Value} (h : w.ownsRow base e k v n xs) (hg : w.heap[g]? = some (.cells cs T (0, 0))) (hT : ¬ e = T) : v.ownBlock ≠ some g := fun hv => by
  obtain ⟨cur, hc⟩ := row_type h hv
  rw [hc] at hg
  simp at hg
  exact hT hg.2
theorem wrote_row {b : Nat} {w w1 : World} {base n k : Nat} {v : Value} {e : TypeId} {xs : List Value} (h : Wrote b w w1) (hr : w.ownsRow base e k v n xs) (hb : v.ownBlock ≠ some b) : w1.ownsRow base e k v n xs := by
  refine ⟨hr.1, ?_⟩
  rcases hr.2 with h0 | ⟨g, cap, cur, hv, hg, hgg, rest⟩
  · exact .inl h0
  · refine .inr ⟨g, cap, cur, hv, hg, ?_, rest⟩
    rw [h.block g (Array.getElem?_eq_some_iff.1 hgg).1 (fun e => hb (by rw [hv, e]; rfl))]
    exact hgg
theorem res_read {tmps : Array Value} {B : Nat} {w9 : World} (v z0 z1 : Value) (h2 : tmps[2]? = some v) (h3 : tmps[3]? = some (.pointer (some ⟨B, 0, none⟩))) (k2 : w9.heap[B]? = some (.cells #[z0, z1] 33 (0, 0))) :
    (results Tryz.f128 tmps).run Tryz.prog w9 = .ok (.tuple #[v, .agg #[z0, z1]]) w9 := by
  have q0 : w9.cell? ⟨B, 0, none⟩ = some z0 := by simp only [World.cell?, k2]; rfl
  have q1 : w9.cell? ⟨B, 1, none⟩ = some z1 := by simp only [World.cell?, k2]; rfl
  simp [results, Tryz.results128, go_sem, h2, h3, q0, q1]
def ReadPost (s : ByteArray) (w : World) (res : SRes) (e : Ending) (w' : World) : Prop := Below w.heap.size w w' ∧ match res with
    | .ok sg => ∃ (v : Value) (L : List SG), e = .returned (.tuple #[v, faultV 0 0]) ∧ w'.ownsRow w.heap.size 192 8 v L.length (L.flatMap signC) ∧ L.map SG.abs = sg ∧ ∀ x ∈ L, x.v.Ok
    | .bad why left => e = .returned (.tuple #[.slice none 0 0, faultV why (s.size - left)])
set_option maxHeartbeats 400000 in
theorem read_any (s : ByteArray) (hs : s.size ≤ 200) (res : SRes) (hres : Sc 0 false (bl s) res) (w : World) : Calls Tryz.prog 128 #[.string s] w (ReadPost s w res) := by
  obtain ⟨i0, hi, hz0, hz1, hz2⟩ := info_parts infoS
  have hs2 : ¬ (200 : Int) < (s.size : Int) := by omega
  obtain ⟨W0, hW, hB, hS, k1, k2⟩ := two w (.cells #[.int .i64 0, .int .i64 0] 33) (.cells #[.string s, .int .i64 0, .int .i64 0, .bool false] 185)
  have HRes : Hid (Sc 0 false (bl s) res) := hres
  have HW : Hid (Below w.heap.size w W0 ∧ W0.heap[w.heap.size]? = _ ∧ W0.heap.size = w.heap.size + 2 ∧ Rd (w.heap.size + 1) s 0 0 false W0) := ⟨hB, k1, hS, k2⟩
  clear hres hB k1 k2 hS
  go_enter Tryz.func128, Tryz.ntmps128
  go_wp2_with fail
  rw [← hW]
  clear hW
  go_loopw [5] (fun v wr => ∃ (i o : Nat) (ah : Bool) (L : List SG) (res' : SRes), Rd (w.heap.size + 1) s i o ah wr ∧ i ≤ s.size ∧ o ≤ 16 ∧ L.length ≤ i ∧ Sc o ah ((bl s).drop i) res' ∧ res'.app (L.map SG.abs) = res ∧ wr.ownsRow w.heap.size 192 8 v L.length (L.flatMap signC) ∧ (∀ x ∈ L, x.v.Ok) ∧ Below w.heap.size w wr ∧ wr.heap[w.heap.size]? = some (.cells #[.int .i64 0, .int .i64 0] 33 (0, 0))) (fun _ wr => s.size - atOf (w.heap.size + 1) wr)
  case atStart =>
    obtain ⟨g1, g2, g3, g4⟩ := HW.out
    exact ⟨0, 0, false, [], res, g4, Nat.zero_le _, by omega, Nat.le_refl _, HRes.out, SRes.app_nil _, World.ownsRow_nil _ _ _ _, by simp, g1, g2⟩
  case round =>
    obtain ⟨i, o, ah, L, res', hRd, hi', ho, hL, hSc, happ, hrow, hok, hBw, hk0⟩ := hrel
    have c1 := hRd.c1
    have hlt0 := hRd.lt
    by_cases hlt : i < s.size
    · have hl2 : (i : Int) < (s.size : Int) := by omega
      have HNx : Hid (∀ W, Rd (w.heap.size + 1) s i o ah W → Calls Tryz.prog 167 #[.pointer (some ⟨w.heap.size + 1, 0, none⟩)] W (NextPost (w.heap.size + 1) s W (nextR o ah ((bl s).drop i)))) := fun W hW => next_any W hW (by omega) hlt ho
      have hsc := sc_next (o := o) (a := ah) (c := s[i]) (t := (bl s).drop (i + 1)) (res := res') (by rw [← drop_ba s i hlt]; exact hSc)
      have hless : ∀ x o' a' r, nextR o ah (s[i] :: (bl s).drop (i + 1)) = .ok x o' a' r → o' ≤ 16 ∧ r.length < (s[i] :: (bl s).drop (i + 1)).length := fun _ _ _ _ h => next_less ho h
      have hwhy : ∀ w l, nextR o ah (s[i] :: (bl s).drop (i + 1)) = .bad w l → w ≠ 0 := fun _ _ h => next_why h
      rw [← drop_ba s i hlt] at hsc hless hwhy
      have HK : Hid (wr.ownsRow w.heap.size 192 8 u5 L.length (L.flatMap signC) ∧ Below w.heap.size w wr ∧ wr.heap[w.heap.size]? = some (.cells #[.int .i64 0, .int .i64 0] 33 (0, 0)) ∧ Rd (w.heap.size + 1) s i o ah wr ∧ L.length ≤ i ∧ res'.app (L.map SG.abs) = res ∧ (∀ x ∈ L, x.v.Ok)) := ⟨hrow, hBw, hk0, hRd, hL, happ, hok⟩
      have z1 : w.heap.size < wr.heap.size := by omega
      clear hrow hBw hk0 hRd hL happ hok hSc ho hi'
      revert hsc hless hwhy HNx
      generalize nextR o ah ((bl s).drop i) = R
      intro HNx hsc hless hwhy
      go_wp2_with fail
      refine (HNx.out wr HK.out.2.2.2.1).mono ?_
      rintro e w1 ⟨hw1, hp⟩
      have HH1 : Hid (Wrote (w.heap.size + 1) wr w1) := hw1
      have z2 : w.heap.size < w1.heap.size := by have := hw1.size; omega
      have z3 : w.heap.size + 1 < w1.heap.size := by have := hw1.size; omega
      have k0 : w1.heap[w.heap.size]? = some (.cells #[.int .i64 0, .int .i64 0] 33 (0, 0)) := (hw1.block _ z1 (by omega)).trans HK.out.2.2.1
      have t0 : w1.cell? ⟨w.heap.size, 0, none⟩ = some (.int .i64 0) := by simp only [World.cell?, k0]; rfl
      have t1 : w1.cell? ⟨w.heap.size, 1, none⟩ = some (.int .i64 0) := by simp only [World.cell?, k0]; rfl
      have tf : ∀ j, w1.frozen? ⟨w.heap.size, j, none⟩ = false := fun j => by simp [World.frozen?, k0]
      have HK0 : Hid (w1.heap[w.heap.size]? = _) := k0
      clear hw1 k0 c1 hlt0 HNx
      match R, hsc, hless, hwhy, hp with
      | .bad why left, hsc, hless, hwhy, hp =>
        obtain ⟨⟨sm, sk, ⟨sa, sb, sc, sd⟩, fa, fb⟩, rfl⟩ := hp
        have hw0 : ¬ (why : Int) = 0 := by have := hwhy _ _ rfl; omega
        have HSC : Hid (res' = .bad why left) := hsc
        obtain ⟨q, hq⟩ : ∃ q, q = s.size - left := ⟨_, rfl⟩
        have HQ : Hid (q = s.size - left) := hq
        rw [← hq]
        clear hsc hless hwhy hq
        have HB1 : Hid (Below w.heap.size w w1) := HK.out.2.1.trans (HH1.out.below (by omega) (by omega))
        unfold signV signC stepC faultV
        dsimp only
        go_wp2_with fail
        go_region_with (fail)
        all_goals
          go_wp2_with fail
          refine bodyPost_ret (res_read (B := w.heap.size) (.slice none 0 0) (.int .i64 (why : Int)) (.int .i64 (q : Int)) rfl rfl ?g1) rfl ?_
          case g1 =>
            refine (alloc2_heap (X := puts w.heap.size 0 [.int .i64 (why : Int), .int .i64 (q : Int)] w1) ?_).trans (puts_all (w := w1) HK0.out [.int .i64 (why : Int), .int .i64 (q : Int)] rfl)
            rw [(puts_only _ _ _ _).size]; exact z2
          have wX : Below w.heap.size w (puts w.heap.size 0 [.int .i64 (why : Int), .int .i64 (q : Int)] w1) := (puts_only w.heap.size [.int .i64 (why : Int), .int .i64 (q : Int)] 0 w1).below (Nat.le_refl _) HB1.out
          have w2 := ((wX.alloc wX.size (.cells #[.int .u8 (sm.toNat : Int), .int .i64 (sk : Int), .int .u64 (sa : Int), .int .u64 (sb : Int), .int .u64 (sc : Int), .int .u64 (sd : Int), .int .i64 fa, .int .i64 fb] 192)).alloc (Nat.le_trans wX.size (by simp)) (.cells #[.int .i64 (why : Int), .int .i64 (q : Int)] 33)).drew
          obtain ⟨hrow, hBw, hk0, hRd, hL, happ, hok⟩ := HK.out
          rw [← happ, HSC.out]
          refine ⟨w2, ?_⟩
          show _ = Ending.returned (.tuple #[.slice none 0 0, faultV why (s.size - left)])
          rw [← HQ.out]; rfl
      | .ok x o' a' r, hsc, hless, hwhy, hp =>
        obtain ⟨⟨sm, sk, ⟨sa, sb, sc, sd⟩, fa, fb⟩, hv, hab, rfl, i2, hRd2, hi2, hd2⟩ := hp
        have HSC : Hid (_ ∧ _ ∧ _ ∧ _ ∧ _ ∧ _ ∧ _) := ⟨hsc, hless _ _ _ _ rfl, hv, hab, hRd2, hi2, hd2⟩
        clear hsc hless hwhy hv hab hRd2 hi2 hd2
        obtain ⟨n, hn⟩ : ∃ n, n = L.length := ⟨_, rfl⟩
        have hr1 : w1.ownsRow w.heap.size 192 8 u5 n (L.flatMap signC) := by
          rw [hn]
          exact wrote_row HH1.out HK.out.1 (row_ne HK.out.1 HK.out.2.2.2.1 (by decide))
        have hn2 : n ≤ 200 := by have := HK.out.2.2.2.2.1; omega
        have HN : Hid (n = L.length) := hn
        have HB1 : Hid (Below w.heap.size w w1) := HK.out.2.1.trans (HH1.out.below (by omega) (by omega))
        have hsl : ∃ a cap, u5 = .slice a n cap := by
          rcases hr1.2 with ⟨rfl, rfl⟩ | ⟨g, cap, cur, rfl, _⟩
          · exact ⟨_, _, rfl⟩
          · exact ⟨_, _, rfl⟩
        obtain ⟨a, cap, rfl⟩ := hsl
        clear hn
        unfold signV signC stepC faultV
        dsimp only
        go_wp2_with (first | (at_builtin; refine wpList_append_own_at _ rfl _ _ 139 rfl w.heap.size 192 i0 (.agg #[.int .u8 0, .int .i64 0, .int .u64 0, .int .u64 0, .int .u64 0, .int .u64 0, .int .i64 0, .int .i64 0]) 8 64 Tryz.underlying139 hi hz0 hz1 hz2 rfl (by decide) _ _ _ rfl (((hr1.alloc _).alloc _).alloc _) ⟨w1.heap.size + 1 + 1, 0, none⟩ 1 1 [.int .u8 (sm.toNat : Int), .int .i64 (sk : Int), .int .u64 (sa : Int), .int .u64 (sb : Int), .int .u64 (sc : Int), .int .u64 (sd : Int), .int .i64 fa, .int .i64 fb] rfl rfl ?c1 ?c2 ?c3 ?c4 ?c5 ?_) | fail)
        case c2 => exact ⟨rfl, rfl, rfl, rfl, rfl, rfl, rfl, rfl⟩
        case c3 => unfold maxLen; omega
        case c4 => omega
        case c5 => omega
        intro v0 w3 hown' hgrow _ hloc
        have hs3 := hgrow.size
        have HG : Hid (∀ j, j < w1.heap.size → (∃ cs T, w1.heap[j]? = some (.cells cs T (0, 0)) ∧ ¬ 192 = T) → w3.heap[j]? = w1.heap[j]?) := fun j hj hT => by
          obtain ⟨cs, T, hc, hT⟩ := hT
          rw [hgrow.block j (by simp; omega) (fun e => row_ne hr1 hc hT e.symm)]
          rw [Below.heap_alloc _ _ _ (by simp; omega), Below.heap_alloc _ _ _ (by simp; omega)]
          exact Below.heap_alloc _ _ _ hj
        have HB3 : Hid (Below w.heap.size w w3) := by
          refine ⟨hgrow.os.trans HB1.out.os, hgrow.tape.trans HB1.out.tape, hgrow.output.trans HB1.out.output, by simp at hs3; omega, fun j hj => ?_⟩
          rw [hgrow.block j (by simp; omega) (fun e => by have := (hr1.lt j e.symm).1; omega)]
          rw [Below.heap_alloc _ _ _ (by simp; omega), Below.heap_alloc _ _ _ (by simp; omega), Below.heap_alloc _ _ _ (by omega)]
          exact HB1.out.block j hj
        have HO : Hid (w3.ownsRow w.heap.size 192 8 v0 (L ++ [(⟨sm, sk, ⟨sa, sb, sc, sd⟩, fa, fb⟩ : SG)]).length ((L ++ [(⟨sm, sk, ⟨sa, sb, sc, sd⟩, fa, fb⟩ : SG)]).flatMap signC)) := by
          unfold Hid
          rw [List.flatMap_append, List.length_append, ← HN.out]
          exact hown'
        clear hown' hgrow hloc hs3 hr1
        go_wp2_with fail
        go_roundw
        case rel =>
          obtain ⟨hrow, hBw, hk0, hRd, hL, happ, hok⟩ := HK.out
          obtain ⟨⟨res2, hsc2, hres2⟩, hless, hv, hab, hRd2, hi2, hd2⟩ := HSC.out
          have hlen : i < i2 := by
            have h2 := hless.2
            rw [← hd2, List.length_drop, List.length_drop, bl_length] at h2
            omega
          refine ⟨i2, o', a', L ++ [⟨sm, sk, ⟨sa, sb, sc, sd⟩, fa, fb⟩], res2, (HG.out _ z3 ⟨_, _, hRd2, by decide⟩).trans hRd2, hi2, hless.1, by rw [List.length_append]; simp; omega, by rw [hd2]; exact hsc2, ?_, HO.out, ?_, HB3.out, (HG.out _ z2 ⟨_, _, HK0.out, by decide⟩).trans HK0.out⟩
          · rw [← happ, hres2, ← hab, List.map_append, ← SRes.app_app]
            congr 1
          · intro y hy
            rcases List.mem_append.1 hy with hy | hy
            · exact hok y hy
            · have : y = ⟨sm, sk, ⟨sa, sb, sc, sd⟩, fa, fb⟩ := by simpa using hy
              rw [this]; exact hv
        case measure =>
          obtain ⟨hrow, hBw, hk0, hRd, hL, happ, hok⟩ := HK.out
          obtain ⟨_, hless, hv, hab, hRd2, hi2, hd2⟩ := HSC.out
          have hlen : i < i2 := by
            have h2 := hless.2
            rw [← hd2, List.length_drop, List.length_drop, bl_length] at h2
            omega
          have e1 : atOf (w.heap.size + 1) w3 = i2 := Rd.at (t := s) (o := o') (ah := a') ((HG.out _ z3 ⟨_, _, hRd2, by decide⟩).trans hRd2)
          rw [e1, hRd.at]
          omega
    · have hl2 : ¬ (i : Int) < (s.size : Int) := by omega
      have c2 := hRd.c2
      have HMi : Hid (∀ W, Rd (w.heap.size + 1) s i o ah W → Calls Tryz.prog 168 #[.pointer (some ⟨w.heap.size + 1, 0, none⟩)] W fun e w' => e = .returned (faultV 4 s.size) ∧ Below W.heap.size W w') := fun W hW => missing_any W hW
      have HK : Hid (wr.ownsRow w.heap.size 192 8 u5 L.length (L.flatMap signC) ∧ Below w.heap.size w wr ∧ wr.heap[w.heap.size]? = some (.cells #[.int .i64 0, .int .i64 0] 33 (0, 0)) ∧ Rd (w.heap.size + 1) s i o ah wr ∧ L.length ≤ i ∧ res'.app (L.map SG.abs) = res ∧ (∀ x ∈ L, x.v.Ok)) := ⟨hrow, hBw, hk0, hRd, hL, happ, hok⟩
      have t0 : wr.cell? ⟨w.heap.size, 0, none⟩ = some (.int .i64 0) := by simp only [World.cell?, hk0]; rfl
      have t1 : wr.cell? ⟨w.heap.size, 1, none⟩ = some (.int .i64 0) := by simp only [World.cell?, hk0]; rfl
      have tf : ∀ j, wr.frozen? ⟨w.heap.size, j, none⟩ = false := fun j => by simp [World.frozen?, hk0]
      have hdr : (bl s).drop i = [] := List.drop_of_length_le (by rw [bl_length]; omega)
      rw [hdr] at hSc
      cases hSc with
      | nil =>
        have HK0 : Hid (wr.heap[w.heap.size]? = some (.cells #[.int .i64 0, .int .i64 0] 33 (0, 0))) := hk0
        clear hrow hBw hk0 hRd hL happ hok hi' ho hdr HMi
        go_wp2_with fail
        refine bodyPost_ret (by simp [results, Tryz.results128, go_sem, t0, t1]; try rfl) rfl ?_
        obtain ⟨hrow, hBw, hk0, hRd, hL, happ, hok⟩ := HK.out
        rw [← happ]
        refine ⟨(((Only.set w.heap.size 0 wr (.int .i64 0)).trans (Only.set w.heap.size 1 _ (.int .i64 0))).below (Nat.le_refl _) hBw), u5, L, rfl, ?_, by simp, hok⟩
        have hne := row_ne hrow HK0.out (by decide)
        exact row_set (row_set hrow hne _) hne _
      | opened _ _ ho0 =>
        have ho1 : (0 : Int) < (o : Int) := by omega
        have HK0 : Hid (wr.heap[w.heap.size]? = some (.cells #[.int .i64 0, .int .i64 0] 33 (0, 0))) := hk0
        have z1 : w.heap.size < wr.heap.size := by omega
        clear hrow hBw hk0 hRd hL happ hok hi' ho hdr
        go_wp2_with fail
        refine (HMi.out wr HK.out.2.2.2.1).mono ?_
        rintro e w1 ⟨rfl, hb1⟩
        have k0 : w1.heap[w.heap.size]? = some (.cells #[.int .i64 0, .int .i64 0] 33 (0, 0)) := (hb1.block _ z1).trans HK0.out
        have t0 : w1.cell? ⟨w.heap.size, 0, none⟩ = some (.int .i64 0) := by simp only [World.cell?, k0]; rfl
        have t1 : w1.cell? ⟨w.heap.size, 1, none⟩ = some (.int .i64 0) := by simp only [World.cell?, k0]; rfl
        have tf : ∀ j, w1.frozen? ⟨w.heap.size, j, none⟩ = false := fun j => by simp [World.frozen?, k0]
        have HB1 : Hid (Below w.heap.size w w1) := HK.out.2.1.trans (hb1.mono (by omega))
        clear hb1 k0 HMi
        unfold faultV
        go_wp2_with fail
        refine bodyPost_ret (by simp [results, Tryz.results128, go_sem, t0, t1]; try rfl) rfl ?_
        obtain ⟨hrow, hBw, hk0, hRd, hL, happ, hok⟩ := HK.out
        rw [← happ]
        exact ⟨(((Only.set w.heap.size 0 w1 (.int .i64 4)).trans (Only.set w.heap.size 1 _ (.int .i64 (s.size : Int)))).below (Nat.le_refl _) HB1.out), rfl⟩
end Go.Proofs.YtedepknbaakkhaaGreatDoor.X
namespace Go.Proofs.YtedepknbaakkhaaGreatDoor.X
open Go.RowKit Go.Shelf RxSem
set_option maxHeartbeats 400000 in
theorem read_long (s : ByteArray) (hs : 200 < s.size) (w : World) : Calls Tryz.prog 128 #[.string s] w fun e w' => Below w.heap.size w w' ∧ e = .returned (.tuple #[.slice none 0 0, faultV 5 0]) := by
  have hs2 : (200 : Int) < (s.size : Int) := by omega
  go_enter Tryz.func128, Tryz.ntmps128
  go_wp2_with fail
  refine bodyPost_ret (by simp [results, Tryz.results128, go_sem]; try rfl) rfl ?_
  exact ⟨(Below.refl _ _).alloc (Nat.le_refl _) _, rfl⟩
structure Fresh (base b : Nat) (t : ByteArray) (L : List SG) (w : World) : Prop where
  ok : ∃ v, w.heap[b]? = some (.cells #[.bool true, .string t, .int .u32 0, .int .i32 0, .int .u32 0, v, .slice none 0 0] 156 (0, 0)) ∧ w.ownsRow base 192 8 v L.length (L.flatMap signC)
  signs : ∀ x ∈ L, x.v.Ok
def CompPost (s : ByteArray) (w : World) (c : List Nd ⊕ (Nat × Nat)) (e : Ending) (w' : World) : Prop := Below w.heap.size w w' ∧ match c with
  | .inl k => ∃ (b : Nat) (L : List SG), e = .returned (.tuple #[.pointer (some ⟨b, 0, none⟩), faultV 0 0]) ∧ w.heap.size ≤ b ∧ Fresh w.heap.size b s L w' ∧ SP .ways (L.map SG.abs) k []
  | .inr (why, at') => e = .returned (.tuple #[.pointer none, faultV why at'])
theorem sc_why {o : Nat} {a : Bool} {r : List UInt8} {res : SRes} {w l : Nat} (h : Sc o a r res) (hr : res = .bad w l) : w ≠ 0 := by
  induction h with
  | nil => cases hr
  | opened => cases hr; omega
  | markBad o a c t w' h h1 =>
    cases hr
    exact next_why (o := o) (a := a) (c := c) (t := t) (l := t.length + 1) (by unfold nextR; dsimp only; rw [if_pos h, h1])
  | mark o a c t o' a' r h h1 h2 ih =>
    cases r with
    | ok => cases hr
    | bad => exact ih hr
  | thingBad o a c t w' l' h h1 =>
    cases hr
    exact next_why (o := o) (a := a) (c := c) (t := t) (l := l) (by unfold nextR; dsimp only; rw [if_neg (by rw [h]; simp), h1])
  | thing o a c t t' x r h h1 h2 ih =>
    cases r with
    | ok => cases hr
    | bad => exact ih hr
theorem row_base {w : World} {base base' n k : Nat} {v : Value} {e : TypeId} {xs : List Value} (h : w.ownsRow base e k v n xs) (hb : base' ≤ base) : w.ownsRow base' e k v n xs := by
  refine ⟨h.1, ?_⟩
  rcases h.2 with h0 | ⟨g, cap, cur, hv, hg, rest⟩
  · exact .inl h0
  · exact .inr ⟨g, cap, cur, hv, by omega, rest⟩
theorem row_slice {w : World} {base n k : Nat} {v : Value} {e : TypeId} {xs : List Value} (h : w.ownsRow base e k v n xs) : ∃ a cap, v = .slice a n cap := by
  rcases h.2 with ⟨rfl, rfl⟩ | ⟨g, cap, cur, rfl, _⟩
  · exact ⟨_, _, rfl⟩
  · exact ⟨_, _, rfl⟩
theorem res_comp {tmps : Array Value} {B : Nat} {w9 : World} (v z0 z1 : Value) (h2 : tmps[2]? = some v) (h3 : tmps[3]? = some (.pointer (some ⟨B, 0, none⟩))) (k2 : w9.heap[B]? = some (.cells #[z0, z1] 33 (0, 0))) :
    (results Tryz.f92 tmps).run Tryz.prog w9 = .ok (.tuple #[v, .agg #[z0, z1]]) w9 := by
  have q0 : w9.cell? ⟨B, 0, none⟩ = some z0 := by simp only [World.cell?, k2]; rfl
  have q1 : w9.cell? ⟨B, 1, none⟩ = some z1 := by simp only [World.cell?, k2]; rfl
  simp [results, Tryz.results92, go_sem, h2, h3, q0, q1]
theorem alloc1_heap {X : World} {o1 : Obj} {j : Nat} (hj : j < X.heap.size) : ((X.alloc o1).drew).heap[j]? = X.heap[j]? := Below.heap_alloc X o1 j hj
theorem one_box (w : World) (o1 : Obj) : ∃ W, W = w.alloc o1 ∧ Below w.heap.size w W ∧ W.heap.size = w.heap.size + 1 ∧ W.heap[w.heap.size]? = some o1 :=
  ⟨_, rfl, (Below.refl _ _).alloc (Nat.le_refl _) _, by simp, heap_alloc_new _ _⟩
set_option maxHeartbeats 400000 in
theorem compile_bad (s : ByteArray) (why at' : Nat) (hw : why ≠ 0) (hr : ∀ W, Calls Tryz.prog 128 #[.string s] W fun e w' => Below W.heap.size W w' ∧ e = .returned (.tuple #[.slice none 0 0, faultV why at'])) (w : World) : Calls Tryz.prog 92 #[.string s] w fun e w' => Below w.heap.size w w' ∧ e = .returned (.tuple #[.pointer none, faultV why at']) := by
  have HR : Hid (∀ W, Calls Tryz.prog 128 #[.string s] W fun e w' => Below W.heap.size W w' ∧ e = .returned (.tuple #[.slice none 0 0, faultV why at'])) := hr
  have hw0 : ¬ (why : Int) = 0 := by omega
  obtain ⟨W0, hW, hB, hS, k1⟩ := one_box w (.cells #[.int .i64 0, .int .i64 0] 33)
  clear hr
  go_enter Tryz.func92, Tryz.ntmps92
  go_wp2_with fail
  rw [← hW]
  clear hW
  refine (HR.out W0).mono ?_
  rintro e w1 ⟨hb1, rfl⟩
  have k0 : w1.heap[w.heap.size]? = some (.cells #[.int .i64 0, .int .i64 0] 33 (0, 0)) := (hb1.block _ (by omega)).trans k1
  have z2 : w.heap.size < w1.heap.size := by have := hb1.size; omega
  have t0 : w1.cell? ⟨w.heap.size, 0, none⟩ = some (.int .i64 0) := by simp only [World.cell?, k0]; rfl
  have t1 : w1.cell? ⟨w.heap.size, 1, none⟩ = some (.int .i64 0) := by simp only [World.cell?, k0]; rfl
  have tf : ∀ j, w1.frozen? ⟨w.heap.size, j, none⟩ = false := fun j => by simp [World.frozen?, k0]
  have HB1 : Hid (Below w.heap.size w w1 ∧ w1.heap[w.heap.size]? = some (.cells #[.int .i64 0, .int .i64 0] 33 (0, 0))) := ⟨hB.trans (hb1.mono (by omega)), k0⟩
  clear hb1 k0 hB hS k1 HR
  unfold faultV
  go_wp2_with fail
  go_region_with (fail)
  all_goals
    go_wp2_with fail
    refine bodyPost_ret (res_comp (B := w.heap.size) (.pointer none) (.int .i64 (why : Int)) (.int .i64 (at' : Int)) rfl rfl ?g1) rfl ?_
    case g1 =>
      refine (alloc1_heap (X := puts w.heap.size 0 [.int .i64 (why : Int), .int .i64 (at' : Int)] w1) ?_).trans (puts_all (w := w1) HB1.out.2 [.int .i64 (why : Int), .int .i64 (at' : Int)] rfl)
      rw [(puts_only _ _ _ _).size]; exact z2
    have wX : Below w.heap.size w (puts w.heap.size 0 [.int .i64 (why : Int), .int .i64 (at' : Int)] w1) := (puts_only w.heap.size [.int .i64 (why : Int), .int .i64 (at' : Int)] 0 w1).below (Nat.le_refl _) HB1.out.1
    have w2 := (wX.alloc wX.size (.cells #[.int .i64 (why : Int), .int .i64 (at' : Int)] 33)).drew
    exact ⟨w2, rfl⟩
set_option maxHeartbeats 400000 in
theorem compile_ok (s : ByteArray) (sg : List Sg) (hr : ∀ W, Calls Tryz.prog 128 #[.string s] W (ReadPost s W (.ok sg))) (w : World) : Calls Tryz.prog 92 #[.string s] w fun e w' => Below w.heap.size w w' ∧ ∃ (b : Nat) (L : List SG), e = .returned (.tuple #[.pointer (some ⟨b, 0, none⟩), faultV 0 0]) ∧ w.heap.size ≤ b ∧ Fresh w.heap.size b s L w' ∧ L.map SG.abs = sg := by
  have HR : Hid (∀ W, Calls Tryz.prog 128 #[.string s] W (ReadPost s W (.ok sg))) := hr
  obtain ⟨W0, hW, hB, hS, k1⟩ := one_box w (.cells #[.int .i64 0, .int .i64 0] 33)
  clear hr
  go_enter Tryz.func92, Tryz.ntmps92
  go_wp2_with fail
  rw [← hW]
  clear hW
  refine (HR.out W0).mono ?_
  rintro e w1 ⟨hb1, v, L, rfl, hrow, habs, hok⟩
  have k0 : w1.heap[w.heap.size]? = some (.cells #[.int .i64 0, .int .i64 0] 33 (0, 0)) := (hb1.block _ (by omega)).trans k1
  have z2 : w.heap.size < w1.heap.size := by have := hb1.size; omega
  have t0 : w1.cell? ⟨w.heap.size, 0, none⟩ = some (.int .i64 0) := by simp only [World.cell?, k0]; rfl
  have t1 : w1.cell? ⟨w.heap.size, 1, none⟩ = some (.int .i64 0) := by simp only [World.cell?, k0]; rfl
  have tf : ∀ j, w1.frozen? ⟨w.heap.size, j, none⟩ = false := fun j => by simp [World.frozen?, k0]
  have HB1 : Hid (Below w.heap.size w w1 ∧ w1.heap[w.heap.size]? = some (.cells #[.int .i64 0, .int .i64 0] 33 (0, 0)) ∧ w1.ownsRow w.heap.size 192 8 v L.length (L.flatMap signC) ∧ L.map SG.abs = sg ∧ ∀ x ∈ L, x.v.Ok) := ⟨hB.trans (hb1.mono (by omega)), k0, row_base hrow (by omega), habs, hok⟩
  obtain ⟨a, cap, hv⟩ := row_slice hrow
  obtain ⟨n, hn⟩ : ∃ n, n = L.length := ⟨_, rfl⟩
  rw [← hn] at hv
  subst hv
  have HN : Hid (n = L.length) := hn
  clear hb1 k0 hB hS k1 HR hrow habs hok hn
  unfold faultV
  go_wp2_with fail
  refine bodyPost_ret (res_comp (B := w.heap.size) (.pointer (some ⟨w1.heap.size + 1, 0, none⟩)) (.int .i64 0) (.int .i64 0) rfl rfl ?g1) rfl ?_
  case g1 =>
    refine (Below.heap_alloc _ _ _ ?_).trans ((Below.heap_alloc (puts w.heap.size 0 [.int .i64 0, .int .i64 0] w1) _ _ ?_).trans (puts_all (w := w1) HB1.out.2.1 [.int .i64 0, .int .i64 0] rfl))
    · simp; omega
    · rw [(puts_only _ _ _ _).size]; exact z2
  obtain ⟨h1, h2, h3, h4, h5⟩ := HB1.out
  have oX : Only w.heap.size w1 ((w1.setCell ⟨w.heap.size, 0, none⟩ (.int .i64 0)).setCell ⟨w.heap.size, 1, none⟩ (.int .i64 0)) := (Only.set _ _ _ _).trans (Only.set _ _ _ _)
  generalize ((w1.setCell ⟨w.heap.size, 0, none⟩ (.int .i64 0)).setCell ⟨w.heap.size, 1, none⟩ (.int .i64 0)) = X at oX ⊢
  have wX : Below w.heap.size w X := oX.below (Nat.le_refl _) h1
  have rX := oX.row h3 (row_ne h3 h2 (by decide))
  have sX := oX.size
  refine ⟨(wX.alloc wX.size _).alloc (Nat.le_trans wX.size (by simp)) _, w1.heap.size + 1, L, rfl, by omega, ⟨⟨.slice a n cap, ?_, (rX.alloc _).alloc _⟩, h5⟩, h4⟩
  have := heap_alloc_new (X.alloc (.cells #[.int .i64 0, .int .i64 0] 33)) (.cells #[.bool true, .string s, .int .u32 0, .int .i32 0, .int .u32 0, .slice a n cap, .slice none 0 0] 156)
  rw [show (X.alloc (.cells #[.int .i64 0, .int .i64 0] 33)).heap.size = w1.heap.size + 1 by simp [sX]] at this
  exact this
theorem compile_any (s : ByteArray) (c : List Nd ⊕ (Nat × Nat)) (hc : Comp (bl s) c) (w : World) : Calls Tryz.prog 92 #[.string s] w (CompPost s w c) := by
  by_cases hs : 200 < s.size
  · have e : c = .inr (5, 0) := hc.same (.long (by rw [bl_length]; exact hs))
    subst e
    exact compile_bad s 5 0 (by omega) (fun W => read_long s hs W) w
  · cases c with
    | inl k =>
      obtain ⟨sg, h1, h2⟩ := hc.flat (by rw [bl_length]; omega)
      refine (compile_ok s sg (fun W => read_any s (by omega) _ h1 W) w).mono ?_
      rintro e w' ⟨hb, b, L, he, hl, hF, hL⟩
      exact ⟨hb, b, L, he, hl, hF, by rw [hL]; exact h2⟩
    | inr x =>
      obtain ⟨why, at'⟩ := x
      obtain ⟨l, h1, h2⟩ := hc.flat (by rw [bl_length]; omega)
      rw [bl_length] at h2
      subst h2
      exact compile_bad s why (s.size - l) (sc_why h1 rfl) (fun W => read_any s (by omega) _ h1 W) w
end Go.Proofs.YtedepknbaakkhaaGreatDoor.X
namespace Go.Proofs.YtedepknbaakkhaaGreatDoor.X
open Go.RowKit Go.Shelf RxSem
structure Turn (b m : Nat) (v v' : Value) (w w' : World) : Prop where
  os : w'.os = w.os
  tape : w'.tape = w.tape
  output : w'.output = w.output
  size : w.heap.size ≤ w'.heap.size
  block : ∀ j, j < w.heap.size → j ≠ b → j ≠ m → v.ownBlock ≠ some j → w'.heap[j]? = w.heap[j]?
  own : ∀ g, v'.ownBlock = some g → v.ownBlock = some g ∨ w.heap.size ≤ g
theorem Turn.trans {b m : Nat} {v v' v'' : Value} {w w' w'' : World} (h : Turn b m v v' w w') (k : Turn b m v' v'' w' w'') : Turn b m v v'' w w'' := by
  refine ⟨k.os.trans h.os, k.tape.trans h.tape, k.output.trans h.output, Nat.le_trans h.size k.size, fun j hj hb hm hv => ?_, fun g hg => ?_⟩
  · rw [k.block j (Nat.lt_of_lt_of_le hj h.size) hb hm (fun e => ?_)]
    · exact h.block j hj hb hm hv
    · rcases h.own j e with e' | e'
      · exact hv e'
      · omega
  · rcases k.own g hg with e | e
    · exact h.own g e
    · exact .inr (Nat.le_trans h.size e)
theorem Turn.of_below {b m : Nat} {v : Value} {w w' : World} (h : Below w.heap.size w w') : Turn b m v v w w' :=
  ⟨h.os, h.tape, h.output, h.size, fun j hj _ _ _ => h.block j hj, fun _ hg => .inl hg⟩
theorem Turn.refl (b m : Nat) (v : Value) (w : World) : Turn b m v v w w := Turn.of_below (Below.refl _ _)
theorem Turn.only_b {b m : Nat} {v : Value} {w w' : World} (h : Only b w w') : Turn b m v v w w' :=
  ⟨h.os, h.tape, h.output, by rw [h.size]; exact Nat.le_refl _, fun j _ hb _ _ => h.block j hb, fun _ hg => .inl hg⟩
theorem Turn.only_m {b m : Nat} {v : Value} {w w' : World} (h : Only m w w') : Turn b m v v w w' :=
  ⟨h.os, h.tape, h.output, by rw [h.size]; exact Nat.le_refl _, fun j _ _ hm _ => h.block j hm, fun _ hg => .inl hg⟩
theorem Turn.drewN {b m : Nat} {v v' : Value} {w w' : World} (h : Turn b m v v' w w') (n : Nat) : Turn b m v v' w (w'.drewN n) := ⟨h.os, h.tape, h.output, h.size, h.block, h.own⟩
def walkC (gs n capS : Nat) (t : ByteArray) (p : Int) (gn capN : Nat) (tv sp : Value) (lo : Int) : Array Value := #[.slice (some ⟨gs, 0, none⟩) n capS, .string t, .int .i64 p, .slice (some ⟨gn, 0, none⟩) n capN, tv, sp, .int .i64 lo]
def snC (sn : List Int) : Array Value := (sn.map fun x => Value.int .i64 x).toArray
def thrC (T : List (Nat × Nat)) : List Value := T.flatMap fun x => [.int .i64 (x.1 : Int), .int .i64 (x.2 : Int)]
structure Wk (base b gs gn capS capN : Nat) (L : List SV) (t : ByteArray) (p : Nat) (tv sp : Value) (st : St) (w : World) : Prop where
  blk : w.heap[b]? = some (.cells (walkC gs L.length capS t p gn capN tv sp st.lo) 264 (0, 0))
  stp : ∃ cur, w.heap[gs]? = some (.cells cur 190 (0, 0)) ∧ cur.toList.take (7 * L.length) = L.flatMap stepC
  sn : w.heap[gn]? = some (.cells (snC st.sn) 3 (0, 0))
  len : st.sn.length = L.length
  row : w.ownsRow base 268 2 tv st.T.length (thrC st.T)
  oks : ∀ x ∈ L, x.Ok
  few : L.length ≤ 100000
  base : base ≤ b
  small : st.T.length + unseen p st.sn ≤ 100000
theorem flat_get {α : Type} (f : α → List Value) (k : Nat) (hk : ∀ x, (f x).length = k) : ∀ (L : List α) (i j : Nat) (hi : i < L.length), j < k → (L.flatMap f)[k * i + j]? = (f L[i])[j]?
  | [], _, _, hi, _ => by simp at hi
  | x :: L, 0, j, _, hj => by
    rw [List.flatMap_cons, Nat.mul_zero, Nat.zero_add, List.getElem?_append_left (by rw [hk]; exact hj)]
    rfl
  | x :: L, i + 1, j, hi, hj => by
    rw [List.flatMap_cons, List.getElem?_append_right (by rw [hk, Nat.mul_add]; omega), hk]
    have := flat_get f k hk L i j (by simpa using hi) hj
    rw [show k * (i + 1) + j - k = k * i + j by rw [Nat.mul_add]; omega, this]
    rfl
theorem flat_len2 {α : Type} (f : α → List Value) (k : Nat) (hk : ∀ x, (f x).length = k) (L : List α) : (L.flatMap f).length = k * L.length := by
  induction L with
  | nil => simp
  | cons x L ih => rw [List.flatMap_cons, List.length_append, ih, hk, List.length_cons, Nat.mul_add]; omega
section
variable {base b gs gn capS capN : Nat} {L : List SV} {t : ByteArray} {p : Nat} {tv sp : Value} {st : St} {w : World}
theorem Wk.lt (h : Wk base b gs gn capS capN L t p tv sp st w) : b < w.heap.size := (Array.getElem?_eq_some_iff.1 h.blk).1
theorem Wk.ltn (h : Wk base b gs gn capS capN L t p tv sp st w) : gn < w.heap.size := (Array.getElem?_eq_some_iff.1 h.sn).1
theorem Wk.cb (h : Wk base b gs gn capS capN L t p tv sp st w) (j : Nat) : w.cell? ⟨b, j, none⟩ = (walkC gs L.length capS t p gn capN tv sp st.lo)[j]? := by simp only [World.cell?, h.blk]; rfl
theorem Wk.fb (h : Wk base b gs gn capS capN L t p tv sp st w) (j : Nat) : w.frozen? ⟨b, j, none⟩ = false := by simp [World.frozen?, h.blk]
theorem Wk.fn (h : Wk base b gs gn capS capN L t p tv sp st w) (j : Nat) : w.frozen? ⟨gn, j, none⟩ = false := by simp [World.frozen?, h.sn]
theorem Wk.cs (h : Wk base b gs gn capS capN L t p tv sp st w) (i : Nat) (hi : i < L.length) (j : Nat) (hj : j < 7) : w.cell? ⟨gs, 7 * i + j, none⟩ = (stepC L[i])[j]? := by
  obtain ⟨cur, h1, h2⟩ := h.stp
  have e := flat_get stepC 7 (fun _ => rfl) L i j hi hj
  rw [← h2, List.getElem?_take_of_lt (by omega)] at e
  simp only [World.cell?, h1]
  rw [← e]; simp
theorem Wk.cn (h : Wk base b gs gn capS capN L t p tv sp st w) (i : Nat) (hi : i < st.sn.length) : w.cell? ⟨gn, i, none⟩ = some (.int .i64 st.sn[i]) := by
  simp only [World.cell?, h.sn, snC]
  simp [hi]
theorem Wk.bn (h : Wk base b gs gn capS capN L t p tv sp st w) : b ≠ gn := fun e => by
  have h1 := h.blk; have h2 := h.sn
  rw [e, h2] at h1; simp at h1
theorem Wk.bs (h : Wk base b gs gn capS capN L t p tv sp st w) : b ≠ gs := fun e => by
  obtain ⟨cur, h2, _⟩ := h.stp
  have h1 := h.blk
  rw [e, h2] at h1; simp at h1
theorem Wk.ns (h : Wk base b gs gn capS capN L t p tv sp st w) : gn ≠ gs := fun e => by
  obtain ⟨cur, h2, _⟩ := h.stp
  have h1 := h.sn
  rw [e, h2] at h1; simp at h1
theorem Wk.vb (h : Wk base b gs gn capS capN L t p tv sp st w) : tv.ownBlock ≠ some b := row_ne h.row h.blk (by decide)
theorem Wk.vn (h : Wk base b gs gn capS capN L t p tv sp st w) : tv.ownBlock ≠ some gn := row_ne h.row h.sn (by decide)
theorem Wk.vs (h : Wk base b gs gn capS capN L t p tv sp st w) : tv.ownBlock ≠ some gs := by
  obtain ⟨cur, h2, _⟩ := h.stp
  exact row_ne h.row h2 (by decide)
theorem Wk.mark (h : Wk base b gs gn capS capN L t p tv sp st w) (i : Nat) (hi : i < st.sn.length) (hns : ¬ sees p st i) : Wk base b gs gn capS capN L t p tv sp (RxSem.mark p i st) (w.setCell ⟨gn, i, none⟩ (.int .i64 (p : Int))) := by
  obtain ⟨cur, h2, h3⟩ := h.stp
  refine ⟨(Below.heap_setCell _ _ _ _ h.bn).trans h.blk, ⟨cur, (Below.heap_setCell _ _ _ _ (Ne.symm h.ns)).trans h2, h3⟩, ?_, by unfold RxSem.mark; simpa using h.len, row_set h.row h.vn _, h.oks, h.few, h.base, ?_⟩
  · refine (heap_set h.sn _).trans ?_
    unfold snC RxSem.mark
    congr 2
    rw [List.setIfInBounds_toArray]
    congr 1
    rw [List.map_set]
  · have := unseen_set (p := p) hi hns
    have h4 := h.small
    unfold RxSem.mark; dsimp only; omega
theorem Wk.told (h : Wk base b gs gn capS capN L t p tv sp st w) (e : Int) : Wk base b gs gn capS capN L t p tv sp ⟨st.sn, st.T, e⟩ (w.setCell ⟨b, 6, none⟩ (.int .i64 e)) := by
  obtain ⟨cur, h2, h3⟩ := h.stp
  exact ⟨heap_set h.blk _, ⟨cur, (Below.heap_setCell _ _ _ _ (Ne.symm h.bs)).trans h2, h3⟩, (Below.heap_setCell _ _ _ _ (Ne.symm h.bn)).trans h.sn, h.len, row_set h.row h.vb _, h.oks, h.few, h.base, h.small⟩
end
end Go.Proofs.YtedepknbaakkhaaGreatDoor.X
