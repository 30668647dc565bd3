/-
  What a use asks for, of a set that lies in memory; that the package is alive. The package is alive. A quoted text: what it is, what its dollars are, and that it means the text. ExpandQuoted at every text, list of variables and fuel.
-/
import Derived.Test.YthcbagggalehgaaGreatDoorK3
import Derived.Test.YthcbagggalehgaaGreatDoorK4
import Derived.Test.YthcbagggalehgaaGreatDoorM20
namespace Go.Proofs.YthcbagggalehgaaGreatDoor.Ex
open Go.RowKit Go.Shelf
open V (VS VSet)

def sM : ByteArray := ⟨#[83, 47, 120, 47, 122, 47]⟩
def sX : ByteArray := ⟨#[120, 121]⟩
def sZ : ByteArray := ⟨#[122, 121]⟩
/-- The one text of modifiers that is asked for. -/
def oneAll (m t : ByteArray) : Option (Except Int ByteArray) := if m = sM ∧ t = sX then some (.ok sZ) else none
def envOf (s : VS) : Env := ⟨s.get, oneAll⟩
def mS : Md := { kind := ⟨#[83]⟩, a := ⟨#[120]⟩, b := ⟨#[122]⟩, ots := 1 }
theorem s_chain : Chain sM 0 [mS] := by
  have e0 : sM.extract 0 sM.size = sM := by kernel_rfl
  refine .step (n := 6) (by decide) (by decide) ?_ (.done (by decide))
  rw [e0]
  intro w hw
  refine (read_s _ w (by decide) (by decide) (by kernel_rfl) (by kernel_rfl) hw).mono ?_
  rintro e w' ⟨rfl, hb⟩
  exact ⟨congrArg Ending.returned (by kernel_rfl), hb⟩
noncomputable def sG : List (List ByteArray → Option (List ByteArray)) := [foldA (actS mS 0 1) [] false]
theorem s_all : AllApply [mS] sG := by
  refine ⟨rfl, fun k h h2 => ?_⟩
  match k, h with
  | 0, _ => exact applies_s mS 0 1 rfl (by decide) (by decide) (by decide) rfl rfl (by decide) (by decide)
theorem s_fold : foldG sG [sX] = some [sZ] := by kernel_rfl
theorem get_size {s : VS} (h : s.Ok) {q v : ByteArray} (hg : s.get q = some v) : v.size ≤ 65536 := by
  unfold V.VS.get at hg
  split at hg
  · rename_i u hu; cases hg; exact V.VS.look_size h hu
  · split at hg
    · rename_i u hu; cases hg; exact V.VS.look_size h hu
    · split at hg
      · rename_i u hu; cases hg; exact V.VS.look_size h hu
      · exact V.VS.look_size h hg
theorem cx_of {base b : Nat} {M : Int → Nat} {s : VS} {w : World} (h : VSet base b M s w) (hmx : Mx w) : Cx w.heap.size w (.pointer (some ⟨b, 0, none⟩)) (envOf s) := by
  refine ⟨fun W q hW hq => ?_, fun q v hg => get_size h.ok hg, fun m t x hx => ?_, fun m t u hu => ?_⟩
  · exact V.get_any q W (h.below hW) (by omega)
  · simp only [envOf, oneAll] at hx
    split at hx <;> cases hx
  · simp only [envOf, oneAll] at hu
    split at hu
    · rename_i hc
      obtain ⟨rfl, rfl⟩ := hc
      cases hu
      have hfl : WD.flds sX = [sX] := by kernel_rfl
      refine ⟨by decide, [sX], [sZ], fun W hW => ?_, fun W a n c hW hw => ?_, fun W a n c hW hw => ?_⟩
      · refine (WD.fields_any sX W (by decide)).mono ?_
        rintro e w' ⟨v, he, hv, hb⟩
        rw [hfl] at hv
        have hv2 := hv
        obtain ⟨a, n, c, rfl, _⟩ := hv2
        exact ⟨a, n, c, he, hv, hb⟩
      · have hmW : Mx W := hmx.below hW hmx.pos
        refine (All_ok sM [mS] sG s_all (by decide) (by decide) s_chain (by decide) a n c [sX] W hw ⟨by decide, by decide⟩ hmW).mono ?_
        rintro e w' ⟨h1, h2⟩
        rw [s_fold] at h2
        obtain ⟨v', rfl, ho⟩ := h2
        obtain ⟨a', c', rfl⟩ := V.owns_slice ho
        exact ⟨a', 1, c', rfl, words_of_owns ho (Nat.le_refl _), h1⟩
      · have hj : WD.joined [sZ] = sZ := by kernel_rfl
        have := WD.join_any a n c [sZ] W (by rw [hw.len]; decide) (by rw [hj]; decide) hw
        rw [hj] at this
        exact this
    · cases hu

def aV : Vr2 := [(⟨#[65]⟩, ⟨#[120]⟩), (⟨#[66]⟩, ⟨#[36, 123, 65, 125, 121]⟩)]
def aT : ByteArray := ⟨#[36, 123, 66, 58, 83, 47, 120, 47, 122, 47, 125, 36, 36]⟩
def aU : ByteArray := ⟨#[36, 65, 32, 36, 123, 66, 58, 84, 125]⟩
theorem a_text : textG (envOf (putsV VS.none_ aV)) 34 [] 100 aT = .ok ⟨#[122, 121, 36]⟩ 92 := by kernel_rfl
theorem a_uses : usesL aU 0 (scanL (bl aU)) = some [⟨#[65]⟩, ⟨#[66]⟩] := by kernel_rfl
theorem a_ok : ∀ d ∈ scanL (bl aU), d.nf ≤ d.nt ∧ d.nt ≤ aU.size := by
  have e : scanL (bl aU) = [⟨0, 2, 1, 2, 0, 0⟩, ⟨3, 9, 5, 6, 7, 8⟩] := by kernel_rfl
  rw [e]
  intro d hd
  simp only [List.mem_cons, List.not_mem_nil, or_false] at hd
  rcases hd with rfl | rfl
  · exact ⟨by decide, by decide⟩
  · exact ⟨by decide, by decide⟩
end Go.Proofs.YthcbagggalehgaaGreatDoor.Ex
namespace Go.Proofs.YthcbagggalehgaaGreatDoor.Ex
open Go.RowKit Go.Shelf
open V (VS VSet)

theorem words_new2 {W : World} {T : TypeId} {arr : Array Value} {l : List ByteArray} {g : Nat} (hg : g = W.heap.size) (h : arr.toList = l.map Value.string) (c : Nat) : Words (W.alloc (.cells arr T)).heap.size (W.alloc (.cells arr T)) (.slice (some ⟨g, 0, none⟩) l.length c) l := by
  subst hg
  refine ⟨_, _, _, rfl, rfl, fun i hi => ⟨W.heap.size, 0, rfl, by simp, ?_⟩⟩
  simp only [World.cell?, heap_alloc_new, Nat.zero_add]
  have : arr.toList[i]? = some (.string l[i]) := by rw [h, List.getElem?_map, List.getElem?_eq_getElem hi]; rfl
  simpa using this
set_option maxRecDepth 20000 in
set_option maxHeartbeats 1600000 in
theorem alive_any (w : World) (hmx : Mx w) : Calls Tryz.prog 8 #[] w fun e w' => e = .returned (.bool true) ∧ Below w.heap.size w w' := by
  obtain ⟨w1, hw1, hb1, hbox⟩ : ∃ w1, w1 = w.alloc (.cells #[.string ⟨#[65]⟩, .string ⟨#[120]⟩, .string ⟨#[66]⟩, .string ⟨#[36, 123, 65, 125, 121]⟩] 48) ∧ Below w.heap.size w w1 ∧ w1.heap[w.heap.size]? = some (.cells #[.string ⟨#[65]⟩, .string ⟨#[120]⟩, .string ⟨#[66]⟩, .string ⟨#[36, 123, 65, 125, 121]⟩] 48 (0, 0)) := ⟨_, rfl, (Below.refl _ _).alloc (Nat.le_refl _) _, heap_alloc_new _ _⟩
  have HB : Hid (Calls Tryz.prog 16 #[.slice (some ⟨w.heap.size, 0, none⟩) 2 2] w1 (BothPost aV w1)) := by
    refine both_any _ 2 2 aV w1 (by decide) ⟨_, _, _, rfl, rfl, fun i hi => ⟨w.heap.size, 0, rfl, (Array.getElem?_eq_some_iff.1 hbox).1, ?_⟩⟩ ?_
    · match i, hi with
      | 0, _ => exact ⟨V.cell_in hbox 0 rfl, V.cell_in hbox 1 rfl⟩
      | 1, _ => exact ⟨V.cell_in hbox 2 rfl, V.cell_in hbox 3 rfl⟩
    · intro x hx
      simp only [aV, List.mem_cons, List.not_mem_nil, or_false] at hx
      rcases hx with rfl | rfl <;> decide
  have HM : Hid (∀ W, Below w.heap.size w W → Mx W) := fun W hW => hmx.below hW hmx.pos
  have HT : Hid (∀ (b base : Nat) (M : Int → Nat) (W : World), VSet base b M (putsV VS.none_ aV) W → Mx W → Calls Tryz.prog 17 #[.string ⟨#[36, 123, 66, 58, 83, 47, 120, 47, 122, 47, 125, 36, 36]⟩, .pointer (some ⟨b, 0, none⟩), .int .i64 100] W fun e w' => e = .returned (.tuple #[.string ⟨#[122, 121, 36]⟩, .int .i64 92, .int .i64 0]) ∧ Below W.heap.size W w') := fun b base M W h1 h2 => by
    have := top_any (ev := envOf (putsV VS.none_ aV)) aT 100 100 (by decide) W (cx_of h1 h2) (by decide) (by decide) 34 (by rw [a_text]; exact fun e => by cases e)
    rw [a_text] at this
    exact this.mono fun e w' hx => ⟨hx.2, hx.1⟩
  have HU : Hid (∀ W, Calls Tryz.prog 9 #[.string ⟨#[36, 65, 32, 36, 123, 66, 58, 84, 125]⟩] W fun e w' => ∃ a c, e = .returned (.tuple #[.slice a 2 c, .int .i64 0]) ∧ Words w'.heap.size w' (.slice a 2 c) [⟨#[65]⟩, ⟨#[66]⟩] ∧ Below W.heap.size W w') := fun W => by
    have := uses_any aU W (by decide) a_ok
    rw [a_uses] at this
    refine this.mono ?_
    rintro e w' ⟨h1, v, rfl, ho⟩
    obtain ⟨a', c', rfl⟩ := V.owns_slice ho
    exact ⟨a', c', rfl, words_of_owns ho (Nat.le_refl _), h1⟩
  have H1 : Hid (Below w.heap.size w w1) := hb1
  clear hmx hb1 hbox
  go_enter Tryz.func8, Tryz.ntmps8
  go_wp2_with fail
  rw [← hw1]
  clear hw1
  refine HB.out.mono ?_
  rintro e w2 ⟨B, br, M, rfl, hBw, hv2, hb2⟩
  have H2 : Hid (VSet B B M (putsV VS.none_ aV) w2 ∧ Below w.heap.size w w2) := ⟨hv2, H1.out.trans (hb2.mono H1.out.size)⟩
  clear hBw hv2 hb2 HB
  go_wp2_with fail
  refine (HT.out B B M w2 H2.out.1 (HM.out w2 H2.out.2)).mono ?_
  rintro e w3 ⟨rfl, hb3⟩
  have H3 : Hid (Below w.heap.size w w3) := H2.out.2.trans (hb3.mono H2.out.2.size)
  clear hb3 HT
  go_wp2_with fail
  refine (HU.out w3).mono ?_
  rintro e w4 ⟨a, c, rfl, hw4, hb4⟩
  have H4 : Hid (Words w4.heap.size w4 (.slice a 2 c) [⟨#[65]⟩, ⟨#[66]⟩] ∧ Below w.heap.size w w4) := ⟨hw4, H3.out.trans (hb4.mono H3.out.size)⟩
  clear hw4 hb4 HU
  have HS : Hid (∀ W, W = w4.alloc (.cells #[.string ⟨#[65]⟩, .string ⟨#[66]⟩] 9) → Calls Tryz.prog 11 #[.slice a 2 c, .slice (some ⟨w4.heap.size, 0, none⟩) 2 2] W fun e w' => e = .returned (.bool true) ∧ ∃ n, w' = W.drewN n) := by
    rintro W rfl
    exact same_any _ _ _ _ _ _ (by decide) ((H4.out.1).below ((Below.refl _ _).alloc (Nat.le_refl _) _)) (words_new2 (W := w4) (T := 9) (arr := #[.string ⟨#[65]⟩, .string ⟨#[66]⟩]) (l := [⟨#[65]⟩, ⟨#[66]⟩]) rfl rfl 2)
  go_wp2_with fail
  refine (HS.out _ rfl).mono ?_
  rintro e w5 ⟨rfl, k5, rfl⟩
  go_wp2
  go_ret
  exact ⟨rfl, below_drewN (H4.out.2.alloc H4.out.2.size _) k5⟩
end Go.Proofs.YthcbagggalehgaaGreatDoor.Ex
namespace Go.Proofs.YthcbagggalehgaaGreatDoor.Ex
open Go.RowKit Go.Shelf
open V (VS VSet)

def escD (c : UInt8) : List UInt8 := if c = 36 then [36, 36] else [c]
def quoteD (l : List UInt8) : List UInt8 := l.flatMap escD
theorem index_cons (c : UInt8) (t : List UInt8) : Lib.index (c :: t) [36] = if c = 36 then 0 else if Lib.index t [36] = -1 then -1 else Lib.index t [36] + 1 := by
  conv => lhs; unfold Lib.index
  by_cases h : c = 36
  · subst h; simp
  · have : (36 == c) = false := by simpa using fun e => h e.symm
    simp [List.isPrefixOf, this, h]
theorem repl_all (s : List UInt8) : Lib.replaceK [36] [36, 36] (Lib.count s [36]) s = s.flatMap escD := by
  induction s with
  | nil => rfl
  | cons c t ih =>
    have hi := index_cons c t
    by_cases hc : c = 36
    · rw [if_pos hc] at hi
      rw [Lib.count_hit (i := 0) (by simp) hi, Nat.add_comm, Lib.replaceK_hit _ _ _ _ 0 hi]
      simp only [List.length_singleton, Nat.zero_add, List.drop_succ_cons, List.drop_zero, List.take_zero, List.nil_append]
      rw [ih, List.flatMap_cons, hc]; rfl
    · rw [if_neg hc] at hi
      have he : escD c = [c] := by unfold escD; rw [if_neg hc]
      rw [List.flatMap_cons, he]
      rcases Lib.index_spec t [36] with ⟨h1, _⟩ | ⟨i, h1, _⟩
      · rw [h1, if_pos rfl] at hi
        rw [Lib.count_miss hi]
        rw [Lib.count_miss h1] at ih
        rw [← ih]; rfl
      · have hi' : Lib.index (c :: t) [36] = ((i + 1 : Nat) : Int) := by rw [hi, if_neg (by omega), h1]; rfl
        have e1 := Lib.count_hit (s := c :: t) (by simp) hi'
        have e2 := Lib.count_hit (s := t) (by simp) h1
        have e3 : (c :: t).drop (i + 1 + ([36] : List UInt8).length) = t.drop (i + ([36] : List UInt8).length) := by simp [List.drop_succ_cons]
        rw [e3] at e1
        rw [e1, Nat.add_comm, Lib.replaceK_hit _ _ _ _ _ hi', e3]
        rw [e2, Nat.add_comm, Lib.replaceK_hit _ _ _ _ _ h1] at ih
        rw [← ih]; simp

theorem quoteD_cons (c : UInt8) (r : List UInt8) : quoteD (c :: r) = if c = 36 then 36 :: 36 :: quoteD r else c :: quoteD r := by
  unfold quoteD; rw [List.flatMap_cons]; unfold escD; split <;> rfl
theorem quoteD_len (l : List UInt8) : (quoteD l).length ≤ 2 * l.length := by
  induction l with
  | nil => simp [quoteD]
  | cons c r ih => rw [quoteD_cons]; split <;> simp <;> omega
/-- The dollars of a quoted text. -/
def selfs : Nat → List UInt8 → List Dl
  | _, [] => []
  | p, c :: r => if c = 36 then ⟨p, p + 2, 0, 0, 0, 0⟩ :: selfs (p + 2) r else selfs (p + 1) r
theorem self_scan (T : List UInt8) : ∀ (l : List UInt8) (p : Nat) (F : List Dl), T.drop p = quoteD l → p ≤ T.length → scanF T T.length ⟨p, F, []⟩ = ⟨T.length, F ++ selfs p l, []⟩
  | [], p, F, h, hp => by
    have : T.length - p = 0 := by rw [← List.length_drop, h]; rfl
    rw [scan_end T _ _ (by simp only; omega)]
    simp only [selfs, List.append_nil, Sn.mk.injEq, and_true]
    omega
  | c :: r, p, F, h, hp => by
    rw [quoteD_cons] at h
    by_cases hc : c = 36
    · rw [if_pos hc] at h
      obtain ⟨h1, h2, h3⟩ := drop_split h
      obtain ⟨h4, h5, h6⟩ := drop_split h3
      rw [← scan_step T _ ⟨p, F, []⟩ h2 (by simp only; omega), step_dollar h]
      have hb : beginF T ⟨p, F, []⟩ = ⟨p + 2, F ++ [⟨p, p + 2, 0, 0, 0, 0⟩], []⟩ := by
        unfold beginF; rw [h4]; rfl
      rw [hb, self_scan T r (p + 2) _ h6 (by omega)]
      simp only [selfs, if_pos hc, List.append_assoc, List.singleton_append]
    · rw [if_neg hc] at h
      obtain ⟨h1, h2, h3⟩ := drop_split h
      rw [← scan_step T _ ⟨p, F, []⟩ h2 (by simp only; omega), step_out h hc, self_scan T r (p + 1) F h3 (by omega)]
      simp only [selfs, if_neg hc]
theorem scan_quote (l : List UInt8) : scanL (quoteD l) = selfs 0 l := by
  unfold scanL scan0; rw [self_scan (quoteD l) l 0 [] rfl (Nat.zero_le _)]; rfl
theorem selfs_uses (s : ByteArray) : ∀ (l : List UInt8) (p b : Nat), b ≤ p → usesL s b (selfs p l) = some []
  | [], _, _, _ => rfl
  | c :: r, p, b, h => by
    unfold selfs
    split
    · unfold usesL
      rw [if_neg (by simp only; omega), if_neg (by simp only; omega)]
      simp only
      rw [selfs_uses s r (p + 2) (p + 2) (Nat.le_refl _)]; rfl
    · exact selfs_uses s r (p + 1) b (by omega)
theorem selfs_none : ∀ (l : List UInt8) (p : Nat), ∀ d ∈ selfs p l, d.nf = 0 ∧ d.nt = 0
  | [], _ => fun d h => by cases h
  | c :: r, p => fun d h => by
    unfold selfs at h
    split at h
    · rcases List.mem_cons.1 h with rfl | h
      · exact ⟨rfl, rfl⟩
      · exact selfs_none r _ d h
    · exact selfs_none r _ d h
theorem ba_eq {x : ByteArray} {l : List UInt8} (h : bl x = l) : x.size = l.length := by rw [← h, bl_length]
theorem self_mean (ev : Env) (tx : List ByteArray → Nat → ByteArray → Res) (within : List ByteArray) (q : ByteArray) (fuel : Nat) : ∀ (l : List UInt8) (n p at_ : Nat) (made : ByteArray), (selfs p l).length < n → (bl q).drop p = quoteD l → p ≤ q.size → at_ ≤ p → made.size + (p - at_) + l.length ≤ 65536 →
    meanG ev tx within q n made at_ q.size (selfs p l) fuel = .ok (ba (bl made ++ ((bl q).take p).drop at_ ++ l)) [] fuel
  | [], 0, _, _, _, h, _, _, _, _ => by simp at h
  | [], n + 1, p, at_, made, _, h, hp, ha, hz => by
    have hpq : p = q.size := by
      have : q.size - p = 0 := by rw [← bl_length, ← List.length_drop, h]; rfl
      omega
    subst hpq
    unfold meanG selfs endG addF
    dsimp only
    rw [if_pos ⟨ha, Nat.le_refl _⟩, if_neg (by have := ba_eq (bl_extract q at_ q.size); rw [List.length_drop, List.length_take, bl_length] at this; simp at hz; omega)]
    congr 1
    apply bl_inj
    rw [bl_ba, List.append_nil, ← bl_extract]; simp [bl]
  | c :: r, 0, _, _, _, h, _, _, _, _ => by simp at h
  | c :: r, n + 1, p, at_, made, hn, h, hp, ha, hz => by
    rw [quoteD_cons] at h
    simp only [List.length_cons] at hz
    by_cases hc : c = 36
    · rw [if_pos hc] at h
      obtain ⟨h1, h2, h3⟩ := drop_split h
      obtain ⟨h4, h5, h6⟩ := drop_split h3
      rw [bl_length] at h2 h5
      have hsf : selfs p (c :: r) = ⟨p, p + 2, 0, 0, 0, 0⟩ :: selfs (p + 2) r := by rw [selfs, if_pos hc]
      rw [hsf] at hn ⊢
      simp only [List.length_cons] at hn
      have hes : (q.extract at_ p).size = p - at_ := by
        have := ba_eq (bl_extract q at_ p); rw [List.length_drop, List.length_take, bl_length] at this; omega
      unfold meanG
      dsimp only
      rw [if_pos h2, if_pos ⟨ha, by omega⟩]
      unfold addF
      rw [if_neg (by omega)]
      have hd : dollarF ev tx within (fun a b l f => meanG ev tx within q n E0 a b l f) ⟨p, p + 2, 0, 0, 0, 0⟩ (selfs (p + 2) r) fuel = .ok ⟨#[36]⟩ (selfs (p + 2) r) fuel := by
        unfold dollarF; rw [if_neg (by simp only; omega), if_pos rfl]
      rw [hd]
      dsimp only [Mes.and]
      have hms : (made ++ q.extract at_ p).size = made.size + (p - at_) := by rw [ByteArray.size_append, hes]
      have h1s : (⟨#[36]⟩ : ByteArray).size = 1 := rfl
      rw [if_neg (by rw [hms, h1s]; omega)]
      rw [self_mean ev tx within q fuel r n (p + 2) (p + 2) _ (by omega) h6 (by omega) (Nat.le_refl _) (by rw [ByteArray.size_append, hms, h1s]; omega)]
      congr 1
      apply bl_inj
      rw [bl_ba, bl_ba]
      have e1 : bl (made ++ q.extract at_ p ++ ⟨#[36]⟩) = bl made ++ ((bl q).take p).drop at_ ++ [36] := by rw [← bl_extract]; simp [bl]
      have e2 : ((bl q).take (p + 2)).drop (p + 2) = [] := List.drop_of_length_le (by rw [List.length_take]; omega)
      rw [e1, e2, hc]; simp
    · rw [if_neg hc] at h
      obtain ⟨h1, h2, h3⟩ := drop_split h
      rw [bl_length] at h2
      have hsf : selfs p (c :: r) = selfs (p + 1) r := by rw [selfs, if_neg hc]
      rw [hsf] at hn ⊢
      rw [self_mean ev tx within q fuel r (n + 1) (p + 1) at_ made hn h3 (by omega) (by omega) (by omega)]
      congr 2
      have h1' : (bl q)[p]? = some c := h1
      have e1 : (bl q).take (p + 1) = (bl q).take p ++ [c] := by rw [List.take_add_one, h1']; rfl
      rw [e1, List.drop_append_of_le_length (by rw [List.length_take, bl_length]; omega)]
      simp
theorem text_quote (ev : Env) (s q : ByteArray) (hq : bl q = quoteD (bl s)) (fuel : Nat) (hs : s.size ≤ 65536) : textG ev 1 [] fuel q = .ok s fuel := by
  unfold textG
  rw [show scanL (bl q) = selfs 0 (bl s) by rw [hq, scan_quote]]
  rw [self_mean ev _ [] q fuel (bl s) _ 0 0 E0 (Nat.lt_succ_self _) (by rw [List.drop_zero, hq]) (Nat.zero_le _) (Nat.le_refl _) (by rw [bl_length]; show 0 + (0 - 0) + s.size ≤ 65536; omega)]
  show Res.ok _ _ = _
  congr 1
end Go.Proofs.YthcbagggalehgaaGreatDoor.Ex
namespace Go.Proofs.YthcbagggalehgaaGreatDoor.Ex
open Go.RowKit Go.Shelf
open V (VS VSet)

set_option maxHeartbeats 800000 in
theorem quote_any (s : ByteArray) (w : World) (hmx : Mx w) (hs : s.size ≤ 1000000) : Calls Tryz.prog 12 #[.string s] w fun e w' => e = .returned (.string (ba (quoteD (bl s)))) ∧ Below w.heap.size w w' := by
  obtain ⟨m, hm⟩ := hmx
  have HR : Hid (Calls Tryz.prog 26 #[.string s, .string ⟨#[36]⟩, .string ⟨#[36, 36]⟩] w fun e w' => e = .returned (.string (ba (quoteD (bl s)))) ∧ Below w.heap.size w w') := by
    have hcb := Lib.countB_le ⟨#[36]⟩ (by decide) s.size s (Nat.le_refl _)
    refine (Tryz.strings_ReplaceAll s ⟨#[36]⟩ ⟨#[36, 36]⟩ m w (by omega) hm (by decide) (by show s.size + Lib.countB s ⟨#[36]⟩ * 2 ≤ _; omega)).mono ?_
    rintro e w' ⟨he, hb⟩
    have e1 : Lib.replaceAll s.data.toList (⟨#[36]⟩ : ByteArray).data.toList (⟨#[36, 36]⟩ : ByteArray).data.toList = quoteD (bl s) := repl_all (bl s)
    rw [e1] at he
    exact ⟨he, hb⟩
  clear hm
  go_enter Tryz.func12, Tryz.ntmps12
  go_wp2_with fail
  refine HR.out.mono ?_
  rintro e w' ⟨rfl, hb⟩
  go_wp2
  go_ret
  exact ⟨rfl, hb⟩
set_option maxRecDepth 20000 in
set_option maxHeartbeats 1600000 in
theorem quoted_law (s : ByteArray) (a : Option Addr) (n c : Nat) (l : Vr2) (fu : Nat) (hfu : fu ≤ 65535) (w : World) (hmx : Mx w) (hn : n ≤ 140737488355328) (h : VarsAt w.heap.size w (.slice a n c) l) (hl : ∀ x ∈ l, x.1.size ≤ 140737488355328 ∧ x.2.size ≤ 140737488355328) :
    Calls Tryz.prog 4 #[.string s, .slice a n c, .int .u16 (fu : Int)] w fun e w' => e = .returned (.bool true) ∧ Below w.heap.size w w' := by
  have HM : Hid (∀ W, Below w.heap.size w W → Mx W) := fun W hW => hmx.below hW hmx.pos
  have HA : Hid (∀ W, Mx W → Calls Tryz.prog 8 #[] W fun e w' => e = .returned (.bool true) ∧ Below W.heap.size W w') := fun W hW => alive_any W hW
  by_cases hs : s.size ≤ 30000
  · have hsi : ¬ (30000 : Int) < (s.size : Int) := by omega
    have HB : Hid (Calls Tryz.prog 16 #[.slice a n c] w (BothPost l w)) := both_any a n c l w hn h hl
    obtain ⟨q, hq⟩ : ∃ q, q = ba (quoteD (bl s)) := ⟨_, rfl⟩
    have hbq : bl q = quoteD (bl s) := by rw [hq, bl_ba]
    have hqs : q.size ≤ 60000 := by rw [ba_eq hbq]; have := quoteD_len (bl s); rw [bl_length] at this; omega
    have HQ : Hid (∀ W, Mx W → Calls Tryz.prog 12 #[.string s] W fun e w' => e = .returned (.string q) ∧ Below W.heap.size W w') := fun W hW => by rw [hq]; exact quote_any s W hW (by omega)
    have HT : Hid (∀ (b base : Nat) (M : Int → Nat) (W : World), VSet base b M (putsV VS.none_ l) W → Mx W → Calls Tryz.prog 17 #[.string q, .pointer (some ⟨b, 0, none⟩), .int .i64 (fu : Int)] W fun e w' => e = .returned (.tuple #[.string s, .int .i64 (fu : Int), .int .i64 0]) ∧ Below W.heap.size W w') := fun b base M W h1 h2 => by
      have e0 := text_quote (envOf (putsV VS.none_ l)) s q hbq fu (by omega)
      have := top_any (ev := envOf (putsV VS.none_ l)) q (fu : Int) fu (by omega) W (cx_of h1 h2) (by omega) (by omega) 1 (by rw [e0]; exact fun e => by cases e)
      rw [e0] at this
      exact this.mono fun e w' hx => ⟨hx.2, hx.1⟩
    have HU : Hid (∀ W, Calls Tryz.prog 9 #[.string q] W fun e w' => ∃ a c, e = .returned (.tuple #[.slice a 0 c, .int .i64 0]) ∧ Below W.heap.size W w') := fun W => by
      have e0 : scanL (bl q) = selfs 0 (bl s) := by rw [hbq, scan_quote]
      have := uses_any q W (by omega) (fun d hd => by rw [e0] at hd; obtain ⟨h1, h2⟩ := selfs_none _ _ d hd; rw [h1, h2]; exact ⟨Nat.le_refl _, Nat.zero_le _⟩)
      rw [e0, selfs_uses q _ _ _ (Nat.le_refl _)] at this
      refine this.mono ?_
      rintro e w' ⟨h1, v, rfl, ho⟩
      obtain ⟨a', c', rfl⟩ := V.owns_slice ho
      exact ⟨a', c', rfl, h1⟩
    clear hmx h hl hq hbq hs
    go_enter Tryz.func4, Tryz.ntmps4
    go_wp2_with fail
    refine HB.out.mono ?_
    rintro e w2 ⟨B, br, M, rfl, hBw, hv2, hb2⟩
    have H2 : Hid (VSet B B M (putsV VS.none_ l) w2 ∧ Below w.heap.size w w2) := ⟨hv2, hb2⟩
    clear hBw hv2 hb2 HB
    go_wp2_with fail
    refine (HQ.out w2 (HM.out w2 H2.out.2)).mono ?_
    rintro e w3 ⟨rfl, hb3⟩
    have H3 : Hid (VSet B B M (putsV VS.none_ l) w3 ∧ Below w.heap.size w w3) := ⟨H2.out.1.below hb3, H2.out.2.trans (hb3.mono H2.out.2.size)⟩
    clear hb3
    go_wp2_with fail
    refine (HT.out B B M w3 H3.out.1 (HM.out w3 H3.out.2)).mono ?_
    rintro e w4 ⟨rfl, hb4⟩
    have H4 : Hid (Below w.heap.size w w4) := H3.out.2.trans (hb4.mono H3.out.2.size)
    clear hb4 HT
    go_wp2_with fail
    refine (HQ.out w4 (HM.out w4 H4.out)).mono ?_
    rintro e w5 ⟨rfl, hb5⟩
    have H5 : Hid (Below w.heap.size w w5) := H4.out.trans (hb5.mono H4.out.size)
    clear hb5
    go_wp2_with fail
    refine (HU.out w5).mono ?_
    rintro e w6 ⟨a6, c6, rfl, hb6⟩
    have H6 : Hid (Below w.heap.size w w6) := H5.out.trans (hb6.mono H5.out.size)
    clear hb6 HU
    go_wp2_with fail
    refine (HA.out w6 (HM.out w6 H6.out)).mono ?_
    rintro e w7 ⟨rfl, hb7⟩
    have H7 : Hid (Below w.heap.size w w7) := H6.out.trans (hb7.mono H6.out.size)
    clear hb7
    go_wp2
    go_ret
    exact ⟨rfl, H7.out⟩
  · have hsi : (30000 : Int) < (s.size : Int) := by omega
    have HA1 : Hid (Calls Tryz.prog 8 #[] w fun e w' => e = .returned (.bool true) ∧ Below w.heap.size w w') := HA.out w hmx
    clear hmx h hl hs HM HA
    go_enter Tryz.func4, Tryz.ntmps4
    go_wp2_with fail
    refine HA1.out.mono ?_
    rintro e w7 ⟨rfl, hb7⟩
    go_wp2
    go_ret
    exact ⟨rfl, hb7⟩
end Go.Proofs.YthcbagggalehgaaGreatDoor.Ex
