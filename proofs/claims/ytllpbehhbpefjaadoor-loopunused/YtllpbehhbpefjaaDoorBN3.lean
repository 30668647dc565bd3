/-
  LoopUnused at every list of lines, name and value.
-/
import Derived.Test.YtllpbehhbpefjaaDoorBN2
namespace Go.Proofs.YtllpbehhbpefjaaDoor
open Go.RowKit Go.Shelf
open Ex (useN Fr)

theorem plain_step (s : ByteArray) (k : Nat) (hk : k < s.size) : (∀ c ∈ (bl s).take (k + 1), c ≠ 36) ↔ (∀ c ∈ (bl s).take k, c ≠ 36) ∧ s[k] ≠ 36 := by
  rw [take_snoc s k hk]
  constructor
  · intro h; exact ⟨fun c hc => h c (by simp [hc]), h _ (by simp)⟩
  · rintro ⟨h1, h2⟩ c hc
    rcases List.mem_append.1 hc with hc | hc
    · exact h1 c hc
    · rw [List.mem_singleton] at hc; rw [hc]; exact h2
/-- Is there no dollar in the first bytes of a text? -/
def pl36 (s : ByteArray) (k : Nat) : Bool := ((bl s).take k).all (fun c => decide (c ≠ 36))
theorem pl36_step (s : ByteArray) (k : Nat) (hk : k < s.size) : pl36 s (k + 1) = (pl36 s k && decide (s[k] ≠ 36)) := by
  unfold pl36; rw [take_snoc s k hk, List.all_append]; simp
theorem pl36_all {s : ByteArray} (h : pl36 s s.size = true) : ∀ c ∈ bl s, c ≠ 36 := by
  unfold pl36 at h; rw [take_all] at h
  intro c hc
  have := List.all_eq_true.1 h c hc
  simpa using this
def nm3 (s : ByteArray) (k : Nat) : Prop := ∀ c ∈ (bl s).take k, c ≠ 36 ∧ c ≠ 123 ∧ c ≠ 125
theorem nm3_step {s : ByteArray} {k : Nat} (hk : k < s.size) (h : nm3 s k) (h1 : s[k] ≠ 36) (h2 : s[k] ≠ 123) (h3 : s[k] ≠ 125) : nm3 s (k + 1) := by
  unfold nm3; rw [take_snoc s k hk]
  intro c hc
  rcases List.mem_append.1 hc with hc | hc
  · exact h c hc
  · rw [List.mem_singleton] at hc; rw [hc]; exact ⟨h1, h2, h3⟩
theorem u8_ne {a : UInt8} {n : Nat} (hn : n < 256) (h : ¬ (a.toNat : Int) = (n : Int)) : a ≠ UInt8.ofNat n := fun e => h (by rw [e]; simp; omega)

/-- The world behind Bind: the lines with the value in place of the name. -/
structure UB (w : World) (v : Value) (l : List Lz) (f : Lz → Lz) (w3 : World) (va : Option Addr) (vc n : Nat) : Prop where
  bel : Below w.heap.size w w3
  len : n = l.length
  lz : LZ w.heap.size w v l
  row : ∀ i x, l[i]? = some x → ∃ g, va = some ⟨g, 0, none⟩ ∧ g < w3.heap.size ∧ w3.cell? ⟨g, i * 3, none⟩ = some (.string (f x).text) ∧ w3.cell? ⟨g, i * 3 + 1, none⟩ = some (.int .i64 x.at_) ∧ w3.cell? ⟨g, i * 3 + 2, none⟩ = some (.bool x.cmd)

set_option maxRecDepth 20000 in
set_option maxHeartbeats 3000000 in
theorem unused_law (v : Value) (l : List Lz) (name value : ByteArray) (w : World) (hl : l.length ≤ 9223372036854775807) (hs : ∀ x ∈ l, x.text.size ≤ 9223372036854775807) (hns : name.size ≤ 140737488355328) (hvs : value.size ≤ 140737488355328) (hW : LZ w.heap.size w v l) (hm : Mx w) :
    Calls Tryd.prog 7 #[v, .string name, .string value] w fun e w' => e = .returned (.bool true) ∧ Below w.heap.size w w' := by
  have HA : Hid (∀ W, Below w.heap.size w W → Calls Tryd.prog 9 #[] W fun e w' => e = .returned (.bool true) ∧ Below w.heap.size w w') := fun W hW => (alive_any W (hm.below hW hm.pos)).mono fun e w' h => ⟨h.1, hW.trans (h.2.mono hW.size)⟩
  have HFA : Hid (Calls Tryd.prog 8 #[v] w fun e w' => e = .returned (.bool (farZ l)) ∧ Below w.heap.size w w') := far_any v l w hl hs hW
  have hsum : (name.size : Int) + (value.size : Int) ≤ 281474976710656 := by omega
  by_cases hfar : farZ l = true
  · rw [hfar] at HFA
    clear hfar
    go_enter Tryd.func7, Tryd.ntmps7
    go_wp2_with fail
    refine HFA.out.mono ?_
    rintro e w1 ⟨rfl, h1⟩
    have H1 : Hid _ := h1
    clear h1
    go_wp2_with fail
    refine (HA.out _ H1.out).mono ?_
    rintro e w2 ⟨rfl, h2⟩
    have H2 : Hid _ := h2
    clear h2
    go_wp2
    go_ret
    exact ⟨rfl, H2.out⟩
  have hfar2 : farZ l = false := by cases h : farZ l with | true => exact absurd h hfar | false => rfl
  rw [hfar2] at HFA
  by_cases hbig : 500 < name.size + value.size
  · have hbi : (500 : Int) < (name.size : Int) + (value.size : Int) := by omega
    clear hfar hfar2 hbig
    go_enter Tryd.func7, Tryd.ntmps7
    go_wp2_with fail
    refine HFA.out.mono ?_
    rintro e w1 ⟨rfl, h1⟩
    have H1 : Hid _ := h1
    clear h1
    go_wp2_with fail
    refine (HA.out _ H1.out).mono ?_
    rintro e w2 ⟨rfl, h2⟩
    have H2 : Hid _ := h2
    clear h2
    go_wp2
    go_ret
    exact ⟨rfl, H2.out⟩
  have hbi : ¬ (500 : Int) < (name.size : Int) + (value.size : Int) := by omega
  obtain ⟨hl4, hs4⟩ := far_no hfar2
  have hn5 : name.size ≤ 500 := by omega
  have hv5 : value.size ≤ 500 := by omega
  obtain ⟨f, hf⟩ : ∃ f, f = bindZ name value := ⟨_, rfl⟩
  have HTB : Hid (∀ W, Below w.heap.size w W → Calls Tryd.prog 11 #[v] W fun e w' => ∃ v', e = .returned v' ∧ LZ w'.heap.size w' v' l ∧ Below w.heap.size w w') := fun W hWb =>
    (theirs_any v l W (by omega) ((hW.below hWb).mono hWb.size)).mono fun e w' ⟨v', h1, h2, h3⟩ => ⟨v', h1, lz_of_owns h2 (Nat.le_refl _), hWb.trans (h3.mono hWb.size)⟩
  have HBI : Hid (∀ (u : Value) (W : World), Below w.heap.size w W → LZ W.heap.size W u l → Calls Tryd.prog 19 #[u, .string name, .string value] W fun e w' => ∃ va vc, e = .returned (.slice va l.length vc) ∧ l.length ≤ vc ∧ UB w v l f w' va vc l.length) := fun u W hWb hu => by
    refine (bind_any u l name value W (hm.below hWb hm.pos) (by omega) (by omega) (by omega) (fun x hx => ⟨by have := hs4 x hx; omega, ?_⟩) hu).mono fun e w' ⟨v', h1, h2, h3⟩ => ?_
    · have h1 := hs4 x hx
      have h2 : (2 * value.size + 1) * x.text.size ≤ 1001 * 2000 := Nat.mul_le_mul (by omega) h1
      omega
    · rw [← hf] at h2
      have h2' : w'.ownsRow W.heap.size 40 3 v' (l.map f).length (lzsV (l.map f)) := by rw [List.length_map]; exact h2
      obtain ⟨va, vc, hv, hc, hrow⟩ := row_lz h2' (n := l.length) (by simp)
      refine ⟨va, vc, by rw [h1, hv], hc, hWb.trans (h3.mono hWb.size), rfl, hW, fun i x hx => ?_⟩
      obtain ⟨g, p1, p2, p3, p4, p5⟩ := hrow i (f x) (by rw [List.getElem?_map, hx]; rfl)
      refine ⟨g, p1, p2, p3, ?_, ?_⟩
      · rw [p4, hf]; rfl
      · rw [p5, hf]; rfl
  have HFP : Hid (∀ x : Lz, pl36 x.text x.text.size = true → (f x).text = x.text) := fun x hx => by
    rw [hf]
    show ba (bindL _ _ (bl x.text)) = x.text
    rw [bindL_plain (pl36_all hx), ba_bl]
  have HS4 : Hid (∀ x ∈ l, x.text.size ≤ 2000) := hs4
  obtain ⟨tt, htt⟩ : ∃ tt, tt = (⟨#[97, 36, 123]⟩ : ByteArray) ++ name ++ ⟨#[125, 98]⟩ := ⟨_, rfl⟩
  obtain ⟨ta, hta⟩ : ∃ ta, ta = (⟨#[97]⟩ : ByteArray) ++ value ++ ⟨#[98]⟩ := ⟨_, rfl⟩
  have HB2 : Hid (nm3 name name.size → pl36 value value.size = true → ∀ W, Below w.heap.size w W → Calls Tryd.prog 19 #[.slice (some ⟨W.heap.size, 0, none⟩) 1 1, .string name, .string value] (W.alloc (.cells #[.string tt, .int .i64 0, .bool false] 40)) fun e w' => ∃ g c, e = .returned (.slice (some ⟨g, 0, none⟩) 1 c) ∧ 1 ≤ c ∧ w'.cell? ⟨g, 0, none⟩ = some (.string ta) ∧ Below w.heap.size w w') := fun h1 h2 W hWb => by
    have hal : Below w.heap.size w (W.alloc (.cells #[.string tt, .int .i64 0, .bool false] 40)) := hWb.alloc hWb.size _
    have hz : (W.alloc (.cells #[.string tt, .int .i64 0, .bool false] 40)).heap[W.heap.size]? = some (.cells #[.string tt, .int .i64 0, .bool false] 40 (0, 0)) := alloc_last _ _
    have hts : tt.size ≤ 600 := by rw [htt, app_size, app_size]; show 3 + name.size + 2 ≤ 600; omega
    have hlz : LZ (W.alloc (.cells #[.string tt, .int .i64 0, .bool false] 40)).heap.size (W.alloc (.cells #[.string tt, .int .i64 0, .bool false] 40)) (.slice (some ⟨W.heap.size, 0, none⟩) 1 1) [⟨tt, 0, false⟩] := ⟨_, 1, 1, rfl, rfl, by decide, fun i x hi => ⟨W.heap.size, 0, rfl, by simp, by
      match i, hi with
      | 0, hi => cases hi; exact ⟨cell_in hz 0 rfl, cell_in hz 1 rfl, cell_in hz 2 rfl⟩
      | i + 1, hi => simp at hi⟩⟩
    refine (bind_any _ [⟨tt, 0, false⟩] name value _ (hm.below hal hm.pos) (by simp) (by omega) (by omega) (fun x hx => ?_) hlz).mono fun e w' ⟨v', p1, p2, p3⟩ => ?_
    · simp only [List.mem_cons, List.not_mem_nil, or_false] at hx
      subst hx
      refine ⟨by show tt.size ≤ _; omega, ?_⟩
      have h2 : (2 * value.size + 1) * tt.size ≤ 1001 * 600 := Nat.mul_le_mul (by omega) hts
      show (2 * value.size + 1) * tt.size ≤ _
      omega
    · obtain ⟨g, c, cur, hv, hc, _, hcur, hi⟩ := row_arr (n := 0) p2
      refine ⟨g, c, by rw [p1, hv], hc, cell_in hcur 0 (hi 0 _ ?_), hal.trans (p3.mono hal.size)⟩
      show some (Value.string (ba (bindL (usesB name) (quoteD (bl value)) (bl tt)))) = _
      have e1 : bl tt = 97 :: 36 :: 123 :: (bl name ++ [125, 98]) := by rw [htt, bl_app, bl_app]; rfl
      have h1' : ∀ c ∈ bl name, c ≠ 36 ∧ c ≠ 123 ∧ c ≠ 125 := by unfold nm3 at h1; rw [take_all] at h1; exact h1
      rw [e1, bind_use h1' (pl36_all h2)]
      have e2 : bl ta = 97 :: (bl value ++ [98]) := by rw [hta, bl_app, bl_app]; rfl
      rw [← e2, ba_bl]
  have HL4 : Hid (l.length ≤ 400) := hl4
  clear hfar hfar2 hbig hl4 hs4 hf hs hl hW hm
  have htt' : (⟨#[97, 36, 123]⟩ : ByteArray) ++ name ++ ⟨#[125, 98]⟩ = tt := htt.symm
  have hta' : (⟨#[97]⟩ : ByteArray) ++ value ++ ⟨#[98]⟩ = ta := hta.symm
  clear htt hta
  go_enter Tryd.func7, Tryd.ntmps7
  go_wp2_with fail
  refine HFA.out.mono ?_
  rintro e w1 ⟨rfl, h1⟩
  have H1 : Hid _ := h1
  clear h1
  go_wp2_with fail
  refine (HTB.out _ H1.out).mono ?_
  rintro e w2 ⟨v1, rfl, h2, h3⟩
  have H2 : Hid (LZ w2.heap.size w2 v1 l ∧ Below w.heap.size w w2) := ⟨h2, h3⟩
  clear h2 h3
  go_wp2_with fail
  refine (HBI.out v1 _ H2.out.2 H2.out.1).mono ?_
  rintro e w3 ⟨va, vc, rfl, hvc, hub⟩
  obtain ⟨a, c, hva, hac⟩ := hub.lz.slice
  have HUB : Hid (UB w v l f w3 va vc l.length) := hub
  obtain ⟨n, hn⟩ : ∃ n, n = l.length := ⟨_, rfl⟩
  have hn4 : n ≤ 400 := by rw [hn]; exact HL4.out
  rw [← hn] at hva hac hvc HUB ⊢
  subst hva
  have HN : Hid (n = l.length) := hn
  clear hub hn
  go_wp2_with fail
  go_loopw [38] (fun vi wr => ∃ k : Nat, k ≤ n ∧ vi = .int .i64 (k : Int) ∧ Hid (Below w3.heap.size w3 wr)) (fun vi _ => n - (intOf vi).toNat)
  case atStart => exact ⟨0, Nat.zero_le _, rfl, Below.refl _ _⟩
  case round =>
    obtain ⟨k, hk, rfl, HI⟩ := hrel
    by_cases hlt : k < n
    · have hil : (k : Int) < (n : Int) := by omega
      have hkl : k < l.length := by rw [← HN.out]; exact hlt
      obtain ⟨x, hx⟩ : ∃ x, l[k]? = some x := ⟨_, List.getElem?_eq_getElem hkl⟩
      obtain ⟨bb, oo, rfl, hbB, d0, d1, d2⟩ := HUB.out.lz.pick hx
      obtain ⟨g, rfl, hg, g0, g1, g2⟩ := HUB.out.row k x hx
      have hxs := HS4.out x (List.mem_of_getElem? hx)
      have hwr : Below w.heap.size w wr := HUB.out.bel.trans (HI.out.mono HUB.out.bel.size)
      have c0 := (hwr.cell (p := ⟨bb, oo + k * 3, none⟩) hbB).trans d0
      have c1 := (hwr.cell (p := ⟨bb, oo + k * 3 + 1, none⟩) hbB).trans d1
      have c2 := (hwr.cell (p := ⟨bb, oo + k * 3 + 2, none⟩) hbB).trans d2
      obtain ⟨w5, hw5⟩ : ∃ w5, w5 = wr.alloc (.cells #[.string x.text, .int .i64 x.at_, .bool x.cmd] 37) := ⟨_, rfl⟩
      have h35 : Below w3.heap.size w3 w5 := by rw [hw5]; exact HI.out.alloc HI.out.size _
      have z5 : w5.heap[wr.heap.size]? = some (.cells #[.string x.text, .int .i64 x.at_, .bool x.cmd] 37 (0, 0)) := by rw [hw5]; exact alloc_last _ _
      obtain ⟨y, hy⟩ : ∃ y, y = (f x).text := ⟨_, rfl⟩
      rw [← hy] at g0
      have HFX : Hid (pl36 x.text x.text.size = true → y = x.text) := fun h => by rw [hy]; exact HFP.out x h
      have e0 := (h35.cell (p := ⟨g, k * 3, none⟩) hg).trans g0
      have e1 := (h35.cell (p := ⟨g, k * 3 + 1, none⟩) hg).trans g1
      have e2 := (h35.cell (p := ⟨g, k * 3 + 2, none⟩) hg).trans g2
      have u0 := cell_in z5 0 rfl
      have u1 := cell_in z5 1 rfl
      have u2 := cell_in z5 2 rfl
      have H35 : Hid (Below w3.heap.size w3 w5) := h35
      clear d0 d1 d2 g0 g1 g2 hx hwr hy h35 z5 hbB hg
      obtain ⟨xt, xa, xc⟩ := x
      simp only at c0 c1 c2 u0 u1 u2 e0 e1 e2 HFX hxs hw5
      go_wp2_with fail
      rw [← hw5]
      clear hw5 c0 c1 c2
      go_quiet (fail)
      go_wp2_with fail
      obtain ⟨w6, hw6⟩ : ∃ w6, w6 = w5.drewN nq := ⟨_, rfl⟩
      have H36 : Hid (Below w3.heap.size w3 w6) := by rw [hw6]; exact H35.out.trans (((Fr.drewN (D := fun _ => False) w5 nq).to_below (Nat.le_refl _) (fun _ h => h.elim)).mono H35.out.size)
      have e0' : w6.cell? ⟨g, k * 3, none⟩ = some (.string y) := by rw [hw6]; exact e0
      have u0' : w6.cell? ⟨wr.heap.size, 0, none⟩ = some (.string xt) := by rw [hw6]; exact u0
      rw [← hw6]
      clear hw6 e0 e1 e2 u0 u1 u2
      go_loopw [10, 11] (fun vp vi wi => ∃ j : Nat, j ≤ xt.size ∧ vi = .int .i64 (j : Int) ∧ vp = .bool (pl36 xt j) ∧ w6 = wi) (fun _ vi _ => xt.size - (intOf vi).toNat)
      case atStart => exact ⟨0, Nat.zero_le _, rfl, by simp [pl36], rfl⟩
      case round =>
        obtain ⟨j, hj, rfl, rfl, rfl⟩ := hrel
        by_cases hjl : j < xt.size
        · have hji : (j : Int) < (xt.size : Int) := by omega
          have HPS : Hid _ := pl36_step xt j hjl
          obtain ⟨cn, hcn⟩ : ∃ cn : Int, cn = (xt[j].toNat : Int) := ⟨_, rfl⟩
          have hgk : (xt[j].toNat : Int) = cn := hcn.symm
          have HCN : Hid (decide (xt[j] ≠ 36) = !(cn == 36)) := by
            unfold Hid
            rw [hcn, Bool.eq_iff_iff]
            simp only [decide_eq_true_eq, Bool.not_eq_true', beq_eq_false_iff_ne, ne_eq]
            rw [u8_eq_iff]
            constructor
            · intro h1 h2; exact h1 (by show _ = 36; omega)
            · intro h1 h2; apply h1; rw [h2]; rfl
          clear hcn
          cases hp : pl36 xt j with
          | true =>
            by_cases h36 : cn = 36
            · have HP1 : Hid (pl36 xt (j + 1) = false) := by unfold Hid; rw [HPS.out, hp, HCN.out, h36]; rfl
              clear hp
              go_wp2
              go_roundw
              case rel => exact ⟨j + 1, by omega, by go_num, by rw [HP1.out], trivial⟩
              case measure => simp [intOf]; omega
            · have h36b : (cn == 36) = false := by simpa using h36
              have HP1 : Hid (pl36 xt (j + 1) = true) := by unfold Hid; rw [HPS.out, hp, HCN.out, h36b]; rfl
              clear hp
              go_wp2
              go_roundw
              case rel => exact ⟨j + 1, by omega, by go_num, by rw [HP1.out]; simp [h36], trivial⟩
              case measure => simp [intOf]; omega
          | false =>
            have HP1 : Hid (pl36 xt (j + 1) = false) := by unfold Hid; rw [HPS.out, hp]; rfl
            clear hp
            go_wp2
            go_roundw
            case rel => exact ⟨j + 1, by omega, by go_num, by rw [HP1.out], trivial⟩
            case measure => simp [intOf]; omega
        · have hji : ¬ (j : Int) < (xt.size : Int) := by omega
          obtain rfl : j = xt.size := by omega
          cases hp : pl36 xt xt.size with
          | true =>
            have hyx : y = xt := HFX.out hp
            subst hyx
            clear hp
            go_wp2_with fail
            go_quiet (fail)
            go_wp2
            go_roundw
            case rel => exact ⟨k + 1, by omega, by go_num, H36.out.trans (((Fr.drewN (D := fun _ => False) w6 _).to_below (Nat.le_refl _) (fun _ h => h.elim)).mono H36.out.size)⟩
            case measure => simp [intOf]; omega
          | false =>
            clear hp
            go_wp2_with fail
            go_quiet (fail)
            go_wp2
            go_roundw
            case rel => exact ⟨k + 1, by omega, by go_num, H36.out.trans (((Fr.drewN (D := fun _ => False) w6 _).to_below (Nat.le_refl _) (fun _ h => h.elim)).mono H36.out.size)⟩
            case measure => simp [intOf]; omega
    · have hil : ¬ (k : Int) < (n : Int) := by omega
      have HBW : Hid (Below w.heap.size w wr) := HUB.out.bel.trans (HI.out.mono HUB.out.bel.size)
      clear HI HUB
      go_wp2_with fail
      go_loopw [12] (fun vi wi => ∃ j : Nat, j ≤ name.size ∧ vi = .int .i64 (j : Int) ∧ wr = wi ∧ Hid (nm3 name j)) (fun vi _ => name.size - (intOf vi).toNat)
      case atStart => exact ⟨0, Nat.zero_le _, rfl, rfl, fun c hc => by simp at hc⟩
      case round =>
        obtain ⟨j, hj, rfl, rfl, HJ⟩ := hrel
        by_cases hjl : j < name.size
        · have hji : (j : Int) < (name.size : Int) := by omega
          obtain ⟨cn, hcn⟩ : ∃ cn : Int, cn = (name[j].toNat : Int) := ⟨_, rfl⟩
          have hgk : (name[j].toNat : Int) = cn := hcn.symm
          have HST : Hid (¬ cn = 36 → ¬ cn = 123 → ¬ cn = 125 → nm3 name (j + 1)) := fun h1 h2 h3 => nm3_step hjl HJ.out (fun e => h1 (by rw [hcn, e]; rfl)) (fun e => h2 (by rw [hcn, e]; rfl)) (fun e => h3 (by rw [hcn, e]; rfl))
          clear hcn
          by_cases h1 : cn = 36
          · go_wp2_with fail
            refine (HA.out _ HBW.out).mono ?_
            rintro e w7 ⟨rfl, h7⟩
            have H7 : Hid _ := h7
            clear h7
            go_wp2
            go_ret
            exact ⟨rfl, H7.out⟩
          · have h1b : (cn == 36) = false := by simpa using h1
            by_cases h2 : cn = 123
            · go_wp2_with fail
              refine (HA.out _ HBW.out).mono ?_
              rintro e w7 ⟨rfl, h7⟩
              have H7 : Hid _ := h7
              clear h7
              go_wp2
              go_ret
              exact ⟨rfl, H7.out⟩
            · have h2b : (cn == 123) = false := by simpa using h2
              by_cases h3 : cn = 125
              · go_wp2_with fail
                refine (HA.out _ HBW.out).mono ?_
                rintro e w7 ⟨rfl, h7⟩
                have H7 : Hid _ := h7
                clear h7
                go_wp2
                go_ret
                exact ⟨rfl, H7.out⟩
              · have h3b : (cn == 125) = false := by simpa using h3
                have HN1 : Hid (nm3 name (j + 1)) := HST.out h1 h2 h3
                go_wp2
                go_roundw
                case rel => exact ⟨j + 1, by omega, by go_num, trivial, HN1⟩
                case measure => simp [intOf]; omega
        · have hji : ¬ (j : Int) < (name.size : Int) := by omega
          obtain rfl : j = name.size := by omega
          go_wp2_with fail
          go_loopw [13] (fun vi wi => ∃ j : Nat, j ≤ value.size ∧ vi = .int .i64 (j : Int) ∧ wr = wi ∧ Hid (pl36 value j = true)) (fun vi _ => value.size - (intOf vi).toNat)
          case atStart => exact ⟨0, Nat.zero_le _, rfl, rfl, by simp [Hid, pl36]⟩
          case round =>
            obtain ⟨i, hi, rfl, rfl, HP⟩ := hrel
            by_cases hil2 : i < value.size
            · have hii : (i : Int) < (value.size : Int) := by omega
              have HPS : Hid _ := pl36_step value i hil2
              obtain ⟨cn, hcn⟩ : ∃ cn : Int, cn = (value[i].toNat : Int) := ⟨_, rfl⟩
              have hgk : (value[i].toNat : Int) = cn := hcn.symm
              have HCN : Hid (¬ cn = 36 → value[i] ≠ 36) := fun h e => h (by rw [hcn, e]; rfl)
              clear hcn
              by_cases h1 : cn = 36
              · go_wp2_with fail
                refine (HA.out _ HBW.out).mono ?_
                rintro e w7 ⟨rfl, h7⟩
                have H7 : Hid _ := h7
                clear h7
                go_wp2
                go_ret
                exact ⟨rfl, H7.out⟩
              · have h1b : (cn == 36) = false := by simpa using h1
                have HP1 : Hid (pl36 value (i + 1) = true) := by unfold Hid; rw [HPS.out, HP.out]; simpa using HCN.out h1
                go_wp2
                go_roundw
                case rel => exact ⟨i + 1, by omega, by go_num, trivial, HP1⟩
                case measure => simp [intOf]; omega
            · have hii : ¬ (i : Int) < (value.size : Int) := by omega
              obtain rfl : i = value.size := by omega
              have HBX := HB2.out HJ.out HP.out
              have HBX : Hid (∀ W, Below w.heap.size w W → Calls Tryd.prog 19 #[.slice (some ⟨W.heap.size, 0, none⟩) 1 1, .string name, .string value] (W.alloc (.cells #[.string tt, .int .i64 0, .bool false] 40)) fun e w' => ∃ g c, e = .returned (.slice (some ⟨g, 0, none⟩) 1 c) ∧ 1 ≤ c ∧ w'.cell? ⟨g, 0, none⟩ = some (.string ta) ∧ Below w.heap.size w w') := HBX
              go_wp2_with fail
              refine (HBX.out _ HBW.out).mono ?_
              rintro e w7 ⟨g, c7, rfl, hc7, h7, h8⟩
              have H8 : Hid (Below w.heap.size w w7) := h8
              clear h8
              go_wp2_with fail
              refine (HA.out _ H8.out).mono ?_
              rintro e w9 ⟨rfl, h9⟩
              have H9 : Hid _ := h9
              clear h9
              go_wp2
              go_ret
              exact ⟨rfl, H9.out⟩
end Go.Proofs.YtllpbehhbpefjaaDoor
