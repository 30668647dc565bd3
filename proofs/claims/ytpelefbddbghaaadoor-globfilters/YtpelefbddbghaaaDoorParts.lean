/-
  What the statement GlobParts answers, called at any text and byte: true; nothing that was there has turned.
-/
import Derived.Test.YtpelefbddbghaaaDoorLaws
import Derived.Deep.RegionHeld3
namespace Go.Proofs.YtpelefbddbghaaaDoor
open Go.RowKit

def kp (c : UInt8) : Bool := c != 93 && c != 33 && c != 94
def kept (l : List UInt8) : List UInt8 := l.filter kp

theorem kept_snoc_t (s : ByteArray) (k : Nat) (h : k < s.size) (hc : kp s[k] = true) : kept (s.data.toList.take (k + 1)) = kept (s.data.toList.take k) ++ [s[k]] := by
  rw [take_snoc s k h]; unfold kept; rw [List.filter_append]; simp [hc]
theorem kept_snoc_f (s : ByteArray) (k : Nat) (h : k < s.size) (hc : kp s[k] = false) : kept (s.data.toList.take (k + 1)) = kept (s.data.toList.take k) := by
  rw [take_snoc s k h]; unfold kept; rw [List.filter_append]; simp [hc]
theorem kept_len (l : List UInt8) : (kept l).length ≤ l.length := List.length_filter_le _ _
theorem Tryd.info5 : (Tryd.prog.info? 5).map (fun i => (i.zero, i.size, i.bytes)) = some (some (.int .u8 0), 1, 1) := by kernel_rfl
theorem kp_of (c : UInt8) : kp c = (((c.toNat : Int) != 93) && ((c.toNat : Int) != 33) && ((c.toNat : Int) != 94)) := by
  unfold kp bne
  rw [← u8_beq c 93 93 rfl, ← u8_beq c 33 33 rfl, ← u8_beq c 94 94 rfl]; rfl

theorem idx_last (l : List UInt8) (h : ∀ x ∈ l, x ≠ 93) : G.idx 93 (l ++ [93]) = some l.length := by
  induction l with
  | nil => rfl
  | cons c r ih =>
    have hc : (c == 93) = false := by simpa using h c (by simp)
    simp only [List.cons_append, G.idx, hc]
    rw [ih (fun x hx => h x (by simp [hx]))]; simp
theorem close_kept (d : UInt8) (r : List UInt8) (h : ∀ x ∈ d :: r, kp x = true) : G.negOf (d :: r ++ [93]) = false ∧ G.idx 93 ((d :: r ++ [93]).drop 1) = some r.length := by
  constructor
  · have hd := h d (by simp)
    simp only [kp, Bool.and_eq_true, bne_iff_ne, ne_eq] at hd
    show (d == 33 || d == 94) = false
    simp [hd.1.2, hd.2]
  · show G.idx 93 (r ++ [93]) = _
    refine idx_last r (fun x hx => ?_)
    have := h x (by simp [hx])
    simp only [kp, Bool.and_eq_true, bne_iff_ne, ne_eq] at this
    exact this.1.1
theorem set_one (fb : List UInt8) (c : UInt8) (hne : fb ≠ []) (h : ∀ x ∈ fb, kp x = true) : G.matchB (91 :: (fb ++ [93])) [c] = G.holdsM c fb := by
  cases fb with
  | nil => exact absurd rfl hne
  | cons d r =>
    obtain ⟨h1, h2⟩ := close_kept d r h
    have hc : G.closeOf (d :: r ++ [93]) = some r.length := by unfold G.closeOf G.memOf; rw [h1]; simpa using h2
    unfold G.matchB
    rw [G.toks_head _ _ (by decide)]
    have hN : G.headN (91 :: (d :: r ++ [93])) = r.length + 3 := by simp only [G.headN, hc, h1]; simp
    rw [hN, List.drop_of_length_le (by simp), G.toks_nil]
    simp only [G.mt, List.isEmpty_nil, Bool.and_true]
    simp only [G.headF, hc, h1, G.memOf]
    simp
theorem set_not (n : UInt8) (hn : n = 33 ∨ n = 94) (fb : List UInt8) (c : UInt8) (hne : fb ≠ []) (h : ∀ x ∈ fb, kp x = true) : G.matchB (91 :: n :: (fb ++ [93])) [c] = !G.holdsM c fb := by
  cases fb with
  | nil => exact absurd rfl hne
  | cons d r =>
    obtain ⟨_, h2⟩ := close_kept d r h
    have hng : G.negOf (n :: (d :: r ++ [93])) = true := by show (n == 33 || n == 94) = true; rcases hn with rfl | rfl <;> rfl
    have hc : G.closeOf (n :: (d :: r ++ [93])) = some r.length := by unfold G.closeOf G.memOf; rw [hng]; simpa using h2
    unfold G.matchB
    rw [G.toks_head _ _ (by decide)]
    have hN : G.headN (91 :: n :: (d :: r ++ [93])) = r.length + 4 := by simp only [G.headN, hc, hng]; simp; omega
    rw [hN, List.drop_of_length_le (by simp), G.toks_nil]
    simp only [G.mt, List.isEmpty_nil, Bool.and_true]
    simp only [G.headF, hc, hng, G.memOf]
    simp
theorem kept_all (l : List UInt8) : ∀ x ∈ kept l, kp x = true := fun x hx => by unfold kept at hx; exact (List.mem_filter.mp hx).2

/-- A row of bytes in a world. -/
def Row (W : World) (g : Nat) (l : List UInt8) : Prop := ∀ j (hj : j < l.length), W.cell? ⟨g, j, none⟩ = some (.int .u8 (l[j].toNat : Int))
theorem conv_row {W : World} {g : Nat} {l : List UInt8} (cap : Nat) (h : Row W g l) : (convert 32 9 (.slice (some ⟨g, 0, none⟩) l.length cap)).run Tryd.prog W = .ok (.string ⟨l.toArray⟩) W :=
  run_convert_bytes_back W 32 9 5 ⟨g, 0, none⟩ cap l Tryd.underlying32 Tryd.underlying5 Tryd.underlying9 (fun j hj => by
    have := h j hj
    simp only [Addr.add]
    split
    · rename_i h0; subst h0; exact this
    · simpa using this)
theorem m3 (a b : ByteArray) (ha : a.size ≤ 2) (hb : b.size ≤ 500) : (a ++ b ++ ⟨#[93]⟩).size ≤ 1000000 := by
  have : (⟨#[93]⟩ : ByteArray).size = 1 := rfl
  simp only [ByteArray.size_append]; omega
theorem add_at (a b : ByteArray) (W : World) (ha : a.size ≤ 2) (hb : b.size ≤ 500) : (Op.stringOp .add a b).run Tryd.prog W = .ok (.string (a ++ b)) W := run_string_add_sum W a b (by omega)
theorem add_end (a b : ByteArray) (W : World) (ha : a.size ≤ 2) (hb : b.size ≤ 500) : (Op.stringOp .add (a ++ b) ⟨#[93]⟩).run Tryd.prog W = .ok (.string (a ++ b ++ ⟨#[93]⟩)) W := by
  have h := m3 a b ha hb
  refine run_string_add_sum W (a ++ b) ⟨#[93]⟩ ?_
  rw [← ByteArray.size_append]; omega
/-- What is kept over the three calls. -/
def Acc (w : World) (g : Nat) (l : List UInt8) (W : World) : Prop := Below w.heap.size w W ∧ g < W.heap.size ∧ Row W g l
theorem Acc.drew {w : World} {g : Nat} {l : List UInt8} {W : World} (h : Acc w g l W) : Acc w g l W.drew := ⟨h.1.drew, h.2.1, h.2.2⟩
theorem Acc.step {w : World} {g : Nat} {l : List UInt8} {W W1 : World} (h : Acc w g l W) (hb : Below W.heap.size W W1) : Acc w g l W1 :=
  ⟨h.1.trans (hb.mono h.1.size), Nat.lt_of_lt_of_le h.2.1 hb.size, fun j hj => by rw [hb.cell (p := ⟨g, j, none⟩) h.2.1]; exact h.2.2 j hj⟩
theorem hid_step {w : World} {g : Nat} {l : List UInt8} {W W1 : World} (h : Hid (Acc w g l W)) (hb : Below W.heap.size W W1) : Hid (Acc w g l W1) := h.out.step hb
theorem Acc.conv {w : World} {g : Nat} {l : List UInt8} {W : World} (h : Acc w g l W) (cap : Nat) {n : Nat} {sb : ByteArray} (hn : n = l.length) (hsb : sb = ⟨l.toArray⟩) : (convert 32 9 (.slice (some ⟨g, 0, none⟩) n cap)).run Tryd.prog W = .ok (.string sb) W := by
  rw [hn, hsb]; exact conv_row cap h.2.2

theorem keepS {w : World} {g n cap : Nat} {l : List UInt8} {sb : ByteArray} {W W1 : World} (hn : n = l.length) (hsb : sb = ⟨l.toArray⟩) (h : Acc w g l W ∧ (convert 32 9 (.slice (some ⟨g, 0, none⟩) n cap)).run Tryd.prog W = .ok (.string sb) W) (hb : Below W.heap.size W W1) : Acc w g l W1 ∧ (convert 32 9 (.slice (some ⟨g, 0, none⟩) n cap)).run Tryd.prog W1 = .ok (.string sb) W1 :=
  ⟨h.1.step hb, (h.1.step hb).conv cap hn hsb⟩

set_option maxHeartbeats 1600000 in
theorem parts_any (s : ByteArray) (c : UInt8) (w : World) :
    Calls Tryd.prog 8 #[.string s, .int .u8 c.toNat] w fun e w' => e = .returned (.bool true) ∧ Below w.heap.size w w' := by
  by_cases hs : 500 < s.size
  · have hsI : (500 : Int) < (s.size : Int) := by omega
    go_enter Tryd.func8, Tryd.ntmps8
    go_wp2_with fail
    refine (alive_any _).mono ?_
    rintro e w1 ⟨rfl, hb1⟩
    go_wp2
    go_ret
    exact ⟨rfl, hb1⟩
  · have hsI : ¬ (500 : Int) < (s.size : Int) := by omega
    obtain ⟨i0, hi, hz0, hz1, hz2⟩ := info_parts Tryd.info5
    go_enter Tryd.func8, Tryd.ntmps8
    go_wp2_with fail
    go_loopw [5, 6] (fun v vi wr => ∃ k : Nat, k ≤ s.size ∧ vi = .int .i64 k ∧ wr.ownsRow w.heap.size 5 1 v (kept (s.data.toList.take k)).length (Lib.byteCells (kept (s.data.toList.take k))) ∧ Below w.heap.size w wr ∧ Hid (kept (s.data.toList.take k) = [] → v = .slice none 0 0))
      (fun _ vi _ => s.size - (intOf vi).toNat)
    case atStart => exact ⟨0, Nat.zero_le _, rfl, World.ownsRow_nil _ _ _ _, Below.refl _ _, fun _ => rfl⟩
    case round =>
      obtain ⟨k, hk, rfl, hown, hb, HN⟩ := hrel
      have hbs := hb.size
      have hkl : (kept (s.data.toList.take k)).length ≤ 500 := by have := kept_len (s.data.toList.take k); simp at this; omega
      by_cases hlt : k < s.size
      · have hil : (k : Int) < (s.size : Int) := by omega
        cases h1 : ((s[k].toNat : Int) != 93)
        · have HK : Hid (kept (s.data.toList.take (k + 1)) = kept (s.data.toList.take k)) := kept_snoc_f s k hlt (by rw [kp_of, h1]; rfl)
          go_wp2_with fail
          go_roundw
          case rel => exact ⟨k + 1, by omega, by go_num, by rw [HK.out]; exact hown, hb, by rw [HK.out]; exact HN⟩
          case measure => simp [intOf]; omega
        · cases h2 : ((s[k].toNat : Int) != 33)
          · have HK : Hid (kept (s.data.toList.take (k + 1)) = kept (s.data.toList.take k)) := kept_snoc_f s k hlt (by rw [kp_of, h1, h2]; rfl)
            go_wp2_with fail
            go_roundw
            case rel => exact ⟨k + 1, by omega, by go_num, by rw [HK.out]; exact hown, hb, by rw [HK.out]; exact HN⟩
            case measure => simp [intOf]; omega
          · cases h3 : ((s[k].toNat : Int) != 94)
            · have HK : Hid (kept (s.data.toList.take (k + 1)) = kept (s.data.toList.take k)) := kept_snoc_f s k hlt (by rw [kp_of, h1, h2, h3]; rfl)
              go_wp2_with fail
              go_roundw
              case rel => exact ⟨k + 1, by omega, by go_num, by rw [HK.out]; exact hown, hb, by rw [HK.out]; exact HN⟩
              case measure => simp [intOf]; omega
            · have HK : Hid (kept (s.data.toList.take (k + 1)) = kept (s.data.toList.take k) ++ [s[k]]) := kept_snoc_t s k hlt (by rw [kp_of, h1, h2, h3]; rfl)
              go_wp2_with (at_builtin; refine wpList_append_own _ rfl _ _ 32 rfl w.heap.size 5 i0 (.int .u8 0) 1 1 Tryd.underlying32 hi hz0 hz1 hz2 rfl (by decide) _ _ _ rfl (hown.alloc _) ⟨wr.heap.size, 0, none⟩ 1 1 [.int .u8 s[k].toNat] rfl rfl ?c1 ?c2 ?c3 ?c4 ?c5 ?_)
              case c1 =>
                intro j u hj
                match j, hj with
                | 0, hj => simp at hj; subst hj; simp [Addr.add]
              case c2 => intro u hu; simp at hu; subst hu; rfl
              case c3 => unfold maxLen; omega
              case c4 => omega
              case c5 => simp; omega
              intro v' w1 hown' hgrow _
              have hb1 : Below w.heap.size w w1 := (hb.alloc hbs _).grown hgrow (by simp; omega) (fun k hk => (hown.lt k hk).1)
              have hown1 : w1.ownsRow w.heap.size 5 1 v' (kept (s.data.toList.take (k + 1))).length (Lib.byteCells (kept (s.data.toList.take (k + 1)))) := by
                rw [HK.out]; simpa [Lib.byteCells] using hown'
              clear hown' hgrow hown hb
              go_wp2
              go_roundw
              case rel => exact ⟨k + 1, by omega, by go_num, hown1, hb1, fun h => absurd h (by rw [HK.out]; simp)⟩
              case measure => simp [intOf]; omega
      · obtain rfl : k = s.size := by omega
        have htk : s.data.toList.take s.size = s.data.toList := List.take_of_length_le (by simp)
        rw [htk] at hown HN hkl
        obtain ⟨fb, hfb⟩ : ∃ fb, fb = kept s.data.toList := ⟨_, rfl⟩
        rw [← hfb] at hown HN hkl
        by_cases he : fb = []
        · have hv := HN.out he
          subst hv
          go_wp2_with fail
          refine (alive_any _).mono ?_
          rintro e w1 ⟨rfl, hb1⟩
          go_wp2
          go_ret
          exact ⟨rfl, hb.trans (hb1.mono hbs)⟩
        · have hl1 : 0 < fb.length := List.length_pos_iff.mpr he
          obtain ⟨hxl, hv | ⟨g, cap, cur, hv, hg, hcur, hcap, hcm, hcs, hct⟩⟩ := hown
          · omega
          · subst hv
            obtain ⟨n, hn⟩ : ∃ n, n = fb.length := ⟨_, rfl⟩
            obtain ⟨sb, hsb⟩ : ∃ sb : ByteArray, sb = ⟨fb.toArray⟩ := ⟨_, rfl⟩
            obtain ⟨sc, hsc⟩ : ∃ sc : ByteArray, sc = ⟨#[c]⟩ := ⟨_, rfl⟩
            rw [← hn] at hxl hcap hct hkl hl1 ⊢
            have hl1' : ((n : Int) == 0) = false := by rw [← Bool.not_eq_true, beq_iff_eq]; omega
            have hsbs : sb.size = n := by rw [hsb, hn]; rfl
            have hscs : sc.size = 1 := by rw [hsc]; rfl
            have hgl : g < wr.heap.size := by
              rw [Array.getElem?_eq_some_iff] at hcur; exact hcur.1
            have hacc : Acc w g fb (wr.alloc (.cells #[.int .u8 c.toNat] 5)).drew := by
              refine Acc.drew ⟨hb.alloc hbs _, by simp; omega, fun j hj => ?_⟩
              rw [World.cell?_alloc_lt (h := hgl)]
              have hjc : cur.toList[j]? = some (.int .u8 (fb[j].toNat : Int)) := by
                have h2 : (cur.toList.take (n * 1))[j]? = (Lib.byteCells fb)[j]? := by rw [hct]
                rw [List.getElem?_take_of_lt (by omega)] at h2
                rw [h2]; simp [Lib.byteCells, List.getElem?_map, List.getElem?_eq_getElem hj]
              simp only [World.cell?, hcur]
              simpa using hjc
            have hcv0 : (convert 32 9 (.slice (some ⟨wr.heap.size, 0, none⟩) 1 1)).run Tryd.prog (wr.alloc (.cells #[.int .u8 c.toNat] 5)) = .ok (.string sc) (wr.alloc (.cells #[.int .u8 c.toNat] 5)) := by
              rw [hsc]
              refine conv_row (l := [c]) 1 ?_
              intro j hj
              obtain rfl : j = 0 := by simp at hj; omega
              simp
            have HC : Hid (n = fb.length ∧ sb = ⟨fb.toArray⟩) := ⟨hn, hsb⟩
            have hcv := hacc.conv cap hn hsb
            have HE : Hid (fb = kept s.data.toList ∧ sb = ⟨fb.toArray⟩ ∧ sc = ⟨#[c]⟩) := ⟨hfb, hsb, hsc⟩
            have hsb5 : sb.size ≤ 500 := by omega
            have hsc5 : sc.size ≤ 1 := by omega
            have HS0 : Hid (Acc w g fb (wr.alloc (.cells #[.int .u8 c.toNat] 5)).drew ∧ (convert 32 9 (.slice (some ⟨g, 0, none⟩) n cap)).run Tryd.prog (wr.alloc (.cells #[.int .u8 c.toNat] 5)).drew = .ok (.string sb) (wr.alloc (.cells #[.int .u8 c.toNat] 5)).drew) := ⟨hacc, hcv⟩
            have HNE : Hid (fb ≠ []) := he
            have ad1 := fun W => add_at ⟨#[91]⟩ sb W (by decide) hsb5
            have ad2 := fun W => add_at ⟨#[91, 33]⟩ sb W (by decide) hsb5
            have ad3 := fun W => add_at ⟨#[91, 94]⟩ sb W (by decide) hsb5
            have ae1 := fun W => add_end ⟨#[91]⟩ sb W (by decide) hsb5
            have ae2 := fun W => add_end ⟨#[91, 33]⟩ sb W (by decide) hsb5
            have ae3 := fun W => add_end ⟨#[91, 94]⟩ sb W (by decide) hsb5
            clear hcv hacc hn hsb hsc hfb he hxl hct hcs hcm hcap hcur hkl HN htk hsbs hscs hz0 hz1 hz2 hi
            go_wp2_with fail
            go_region_held3 (fun W => Acc w g fb W ∧ (convert 32 9 (.slice (some ⟨g, 0, none⟩) n cap)).run Tryd.prog W = .ok (.string sb) W) (first | exact HS0.out | (exact keepS HC.out.1 HC.out.2 (by assumption) (by assumption))) (first | (go_at_call 11; refine (match_any _ _ _ (m3 _ _ (by decide) hsb5) (Nat.le_trans hsc5 (by decide))).mono ?_; rintro e wN ⟨rfl, hbN⟩))
            have hfin : Below w.heap.size w wN := by
              have h : Acc w g fb wN ∧ (convert 32 9 (.slice (some ⟨g, 0, none⟩) n cap)).run Tryd.prog wN = .ok (.string sb) wN := by assumption
              exact h.1.1
            obtain ⟨m, hm⟩ : ∃ m, m = G.holdsM c fb := ⟨_, rfl⟩
            obtain ⟨e1, e2, e3⟩ := HE.out
            have hfk : ∀ x ∈ fb, kp x = true := by rw [e1]; exact kept_all _
            have hsd : sb.data.toList = fb := by rw [e2]
            have hcd : sc.data.toList = [c] := by rw [e3]
            have q1 : G.matchB (91 :: (sb.data.toList ++ [93])) sc.data.toList = m := by rw [hsd, hcd, hm]; exact set_one fb c HNE.out hfk
            have q2 : G.matchB (91 :: 33 :: (sb.data.toList ++ [93])) sc.data.toList = !m := by rw [hsd, hcd, hm]; exact set_not 33 (Or.inl rfl) fb c HNE.out hfk
            have q3 : G.matchB (91 :: 94 :: (sb.data.toList ++ [93])) sc.data.toList = !m := by rw [hsd, hcd, hm]; exact set_not 94 (Or.inr rfl) fb c HNE.out hfk
            clear e1 e2 e3 hfk hsd hcd hm
            rw [q1, q2, q3]
            clear q1 q2 q3 ad1 ad2 ad3 ae1 ae2 ae3
            cases m
            all_goals
              go_wp2_with fail
              refine (alive_any _).mono ?_
              rintro e w1 ⟨rfl, hb1⟩
              go_wp2
              go_ret
              exact ⟨rfl, hfin.trans (hb1.mono hfin.size)⟩
end Go.Proofs.YtpelefbddbghaaaDoor
