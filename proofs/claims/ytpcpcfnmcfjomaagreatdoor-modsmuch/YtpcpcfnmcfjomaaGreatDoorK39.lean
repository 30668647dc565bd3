/-
  QE5 DQ20 QE6 QL1 QW
-/
import Derived.Test.YtpcpcfnmcfjomaaGreatDoorK31
import Derived.Test.YtpcpcfnmcfjomaaGreatDoorK36
import Derived.Test.YtpcpcfnmcfjomaaGreatDoorK37
import Derived.Test.YtpcpcfnmcfjomaaGreatDoorK38
import Derived.Test.YtpcpcfnmcfjomaaGreatDoorK12
import Derived.Test.YtpcpcfnmcfjomaaGreatDoorCards
import Derived.Test.YtpcpcfnmcfjomaaGreatDoorTie
import Derived.WalkKit
import Derived.ProofKit
import Derived.OpenShut
import Derived.Deep.DeepHandedRow
import Derived.Deep.DeepLaidRun
import Derived.Lib.LaidTab
import Derived.SizedLaws
import Derived.Shelf.Vars
import Derived.Stop.LaidErr
namespace Go.Proofs.YtpcpcfnmcfjomaaGreatDoor.DQ
open Go.RowKit Go.Shelf
open WD (joined)
def wO (m : Dm) (x : ByteArray) : Option ByteArray := if (wordA m x).2 = true then some (wordA m x).1 else none
theorem filt {α β : Type} (p : α → Bool) (f : α → β) : ∀ l : List α, (l.filter p).map f = l.filterMap fun x => if p x = true then some (f x) else none
  | [] => rfl
  | x :: t => by
    rw [List.filter_cons, List.filterMap_cons]
    by_cases h : p x = true
    · rw [if_pos h, if_pos h, List.map_cons, filt p f t]
    · rw [if_neg h, if_neg h, filt p f t]
theorem list_w (m : Dm) (l : List ByteArray) (h : ¬ m.kind = ⟨#[79]⟩ ∧ ¬ m.kind = ⟨#[79, 114]⟩ ∧ ¬ m.kind = ⟨#[114]⟩ ∧ ¬ m.kind = ⟨#[81]⟩ ∧ ¬ m.kind = ⟨#[91]⟩ ∧ ¬ m.kind = ⟨#[117]⟩) : listA m l = l.filterMap (wO m) := by
  unfold listA
  rw [if_neg h.1, if_neg h.2.1, if_neg h.2.2.1, if_neg h.2.2.2.1, if_neg h.2.2.2.2.1, if_neg h.2.2.2.2.2]
  exact filt _ _ l
theorem sem_w {u : Um} {m : Dm} {act : ActF} {l : List ByteArray} (hs : semU u = foldA act [] false) (h : ¬ m.kind = ⟨#[79]⟩ ∧ ¬ m.kind = ⟨#[79, 114]⟩ ∧ ¬ m.kind = ⟨#[114]⟩ ∧ ¬ m.kind = ⟨#[81]⟩ ∧ ¬ m.kind = ⟨#[91]⟩ ∧ ¬ m.kind = ⟨#[117]⟩)
    (ha : ∀ d x made, act d x made = some (d, wO m x)) (hl : l.length ≤ 4096) : semU u l = fewO (listA m l) := by
  rw [hs, list_w m l h]
  exact fold_few act _ ha l hl
theorem wO_M (a b : ByteArray) (x : ByteArray) : wO { kind := ⟨#[77]⟩, a := a, b := b } x = if G.matchB (bl a) (bl x) = true then some x else none := by
  unfold wO wordA; rw [if_pos rfl]
theorem wO_N (a b : ByteArray) (x : ByteArray) : wO { kind := ⟨#[78]⟩, a := a, b := b } x = if G.matchB (bl a) (bl x) = true then none else some x := by
  unfold wO wordA; rw [if_neg (k_ne (by decide)), if_pos rfl]
  cases G.matchB (bl a) (bl x) <;> rfl
theorem wO_T (x : ByteArray) : wO { kind := ⟨#[84]⟩ } x = some (nameB x) := by
  unfold wO wordA
  rw [if_neg (k_ne (by decide)), if_neg (k_ne (by decide)), if_pos rfl]; rfl
theorem wO_H (x : ByteArray) : wO { kind := ⟨#[72]⟩ } x = some (dirB x) := by
  unfold wO wordA
  rw [if_neg (k_ne (by decide)), if_neg (k_ne (by decide)), if_neg (k_ne (by decide)), if_pos rfl]; rfl
theorem wO_E (x : ByteArray) : wO { kind := ⟨#[69]⟩ } x = sufO x := by
  unfold wO wordA sufO
  rw [if_neg (k_ne (by decide)), if_neg (k_ne (by decide)), if_neg (k_ne (by decide)), if_neg (k_ne (by decide)), if_pos rfl]
  by_cases h : sufB x = E
  · have h0 : (sufB x).size = 0 := by rw [h]; rfl
    rw [if_pos h, if_pos h0]; rfl
  · have h0 : ¬ (sufB x).size = 0 := fun h2 => h (bl_inj (List.length_eq_zero_iff.1 ((bl_length (sufB x)).trans h2)))
    rw [if_neg h, if_neg h0]; rfl
theorem wO_R (x : ByteArray) : wO { kind := ⟨#[82]⟩ } x = some (rootB x) := by
  unfold wO wordA
  rw [if_neg (k_ne (by decide)), if_neg (k_ne (by decide)), if_neg (k_ne (by decide)), if_neg (k_ne (by decide)), if_neg (k_ne (by decide)), if_pos rfl]; rfl
theorem wO_tl (x : ByteArray) : wO { kind := ⟨#[116, 108]⟩ } x = some (caseB 65 97 x) := by
  unfold wO wordA
  rw [if_neg (k_ne (by decide)), if_neg (k_ne (by decide)), if_neg (k_ne (by decide)), if_neg (k_ne (by decide)), if_neg (k_ne (by decide)), if_neg (k_ne (by decide)), if_pos rfl]; rfl
theorem wO_tu (x : ByteArray) : wO { kind := ⟨#[116, 117]⟩ } x = some (caseB 97 65 x) := by
  unfold wO wordA
  rw [if_neg (k_ne (by decide)), if_neg (k_ne (by decide)), if_neg (k_ne (by decide)), if_neg (k_ne (by decide)), if_neg (k_ne (by decide)), if_neg (k_ne (by decide)), if_neg (k_ne (by decide)), if_pos rfl]; rfl
theorem wO_e (a b x : ByteArray) : wO { kind := ⟨#[61]⟩, a := a, b := b } x = some (ba (endedL (bl a) (bl b) (bl x))) := by
  unfold wO wordA
  rw [if_neg (k_ne (by decide)), if_neg (k_ne (by decide)), if_neg (k_ne (by decide)), if_neg (k_ne (by decide)), if_neg (k_ne (by decide)), if_neg (k_ne (by decide)), if_neg (k_ne (by decide)), if_neg (k_ne (by decide)), ended_eq]; rfl
theorem listA_O (l : List ByteArray) : listA { kind := ⟨#[79]⟩ } l = sortedL l := by unfold listA; rw [if_pos rfl, sort_eq]
theorem listA_Or (l : List ByteArray) : listA { kind := ⟨#[79, 114]⟩ } l = (sortedL l).reverse := by unfold listA; rw [if_neg (k_ne (by decide)), if_pos rfl, sort_eq]
theorem listA_r (l : List ByteArray) : listA { kind := ⟨#[114]⟩ } l = l.reverse := by unfold listA; rw [if_neg (k_ne (by decide)), if_neg (k_ne (by decide)), if_pos rfl]
theorem listA_Q (l : List ByteArray) : listA { kind := ⟨#[81]⟩ } l = [quoteB l] := by unfold listA; rw [if_neg (k_ne (by decide)), if_neg (k_ne (by decide)), if_neg (k_ne (by decide)), if_pos rfl]; rfl
theorem listA_u (l : List ByteArray) : listA { kind := ⟨#[117]⟩ } l = compactL l := by
  unfold listA
  rw [if_neg (k_ne (by decide)), if_neg (k_ne (by decide)), if_neg (k_ne (by decide)), if_neg (k_ne (by decide)), if_neg (k_ne (by decide)), if_pos rfl, dedup_eq]
theorem listA_p (m : Dm) (hm : m.kind = ⟨#[91]⟩) (l : List ByteArray) : listA m l = pickedA m l := by
  unfold listA
  rw [hm, if_neg (k_ne (by decide)), if_neg (k_ne (by decide)), if_neg (k_ne (by decide)), if_neg (k_ne (by decide)), if_pos rfl]
theorem pk_h (l : List ByteArray) : listA { kind := ⟨#[91]⟩, way := 35 } l = [ba (Lib.itoa l.length)] := by
  rw [listA_p _ rfl]
  unfold pickedA
  rw [if_pos rfl]
  unfold Lib.itoa
  rw [if_neg (by omega)]; rfl
theorem pk_s (l : List ByteArray) : listA { kind := ⟨#[91]⟩, way := 42 } l = if l = [] then [] else [joined l] := by
  rw [listA_p _ rfl]
  unfold pickedA
  rw [if_neg (by decide), if_pos rfl]
  by_cases h : l = []
  · rw [if_pos h, if_pos (by rw [h]; rfl)]
  · rw [if_neg h, if_neg (fun h2 => h (List.length_eq_zero_iff.1 h2))]
theorem pk_one (f : Int) (l : List ByteArray) : listA { kind := ⟨#[91]⟩, frm := f, way := 110 } l = pieceL f f l := by
  rw [listA_p _ rfl, piece_eq]
  unfold pickedA
  dsimp only
  rw [if_neg (by decide), if_neg (by decide)]
  by_cases h : 1 ≤ nthI f l.length ∧ nthI f l.length ≤ l.length
  · rw [if_neg (fun h2 => h2.elim (fun h2 => h2 h) fun h2 => absurd h2.1 (by decide)), if_neg (by decide), if_neg (fun h2 => h2.elim (fun h2 => h2 h) fun h2 => h2 h), if_neg (Int.lt_irrefl _)]
  · rw [if_pos (.inl h), if_pos (.inl h)]
theorem pk_two (f t : Int) (l : List ByteArray) : listA { kind := ⟨#[91]⟩, frm := f, upto := t, way := 114 } l = pieceL f t l := by
  rw [listA_p _ rfl, piece_eq]
  unfold pickedA
  dsimp only
  rw [if_neg (by decide), if_neg (by decide)]
  by_cases h : ¬ (1 ≤ nthI f l.length ∧ nthI f l.length ≤ l.length) ∨ ¬ (1 ≤ nthI t l.length ∧ nthI t l.length ≤ l.length)
  · rw [if_pos (h.imp id fun h => ⟨rfl, h⟩), if_pos h]
  · rw [if_neg (fun h2 => h (h2.imp id And.right)), if_neg h, if_pos rfl]
theorem sem_eq {N : Nat} {u : Um} {m : Dm} (hg : GoodU N u) (hr : RelU u m) (l : List ByteArray) (hl : l.length ≤ 4096) : semU u l = fewO (listA m l) := by
  cases hr with
  | same k a b hk =>
    generalize hu : ({ md := { kind := k, a := a, b := b } } : Um) = u at hg
    cases hg with
    | m p hp =>
      cases hu
      exact sem_w (sem_m _) ⟨k_ne (by decide), k_ne (by decide), k_ne (by decide), k_ne (by decide), k_ne (by decide), k_ne (by decide)⟩ (fun d x made => by rw [wO_M]; rfl) hl
    | n p hp =>
      cases hu
      exact sem_w (sem_n _) ⟨k_ne (by decide), k_ne (by decide), k_ne (by decide), k_ne (by decide), k_ne (by decide), k_ne (by decide)⟩ (fun d x made => by rw [wO_N]; rfl) hl
    | eq a' b' ha hb =>
      cases hu
      exact sem_w (sem_e _ _) ⟨k_ne (by decide), k_ne (by decide), k_ne (by decide), k_ne (by decide), k_ne (by decide), k_ne (by decide)⟩ (fun d x made => by rw [wO_e]; rfl) hl
    | count => cases hu; exact absurd rfl hk.2.1
    | join => cases hu; exact absurd rfl hk.2.2
    | pick f t h1 h2 h3 h4 => cases hu; exact absurd rfl hk.1
    | word t ht =>
      cases hu
      unfold wordsL at ht
      simp only [List.mem_cons, List.not_mem_nil, or_false] at ht
      rcases ht with rfl | rfl | rfl | rfl | rfl | rfl | rfl | rfl | rfl | rfl | rfl
      · exact sem_w sem_T ⟨k_ne (by decide), k_ne (by decide), k_ne (by decide), k_ne (by decide), k_ne (by decide), k_ne (by decide)⟩ (fun d x made => by rw [wO_T]; rfl) hl
      · exact sem_w sem_H ⟨k_ne (by decide), k_ne (by decide), k_ne (by decide), k_ne (by decide), k_ne (by decide), k_ne (by decide)⟩ (fun d x made => by rw [wO_H]; rfl) hl
      · exact sem_w sem_E ⟨k_ne (by decide), k_ne (by decide), k_ne (by decide), k_ne (by decide), k_ne (by decide), k_ne (by decide)⟩ (fun d x made => by rw [wO_E]; rfl) hl
      · exact sem_w sem_R ⟨k_ne (by decide), k_ne (by decide), k_ne (by decide), k_ne (by decide), k_ne (by decide), k_ne (by decide)⟩ (fun d x made => by rw [wO_R]; rfl) hl
      · rw [sem_O, listA_O]
      · rw [sem_Or, listA_Or]
      · rw [sem_u, listA_u]
      · rw [sem_r, listA_r]
      · exact sem_w sem_tl ⟨k_ne (by decide), k_ne (by decide), k_ne (by decide), k_ne (by decide), k_ne (by decide), k_ne (by decide)⟩ (fun d x made => by rw [wO_tl]; rfl) hl
      · exact sem_w sem_tu ⟨k_ne (by decide), k_ne (by decide), k_ne (by decide), k_ne (by decide), k_ne (by decide), k_ne (by decide)⟩ (fun d x made => by rw [wO_tu]; rfl) hl
      · rw [sem_Q, listA_Q]
  | count => rw [sem_h, pk_h]
  | join => rw [sem_s, pk_s]
  | one f hf => rw [sem_p, pk_one]
  | two f t hf ht => rw [sem_p, pk_two]
end Go.Proofs.YtpcpcfnmcfjomaaGreatDoor.DQ
namespace Go.Proofs.YtpcpcfnmcfjomaaGreatDoor.DQ
open Go.RowKit Go.Shelf
open WD (joined)
theorem dmsV_at : ∀ (ms : List Dm) (i : Nat) (h : i < ms.length) (j : Nat) (u : Value), ms[i].cells[j]? = some u → (dmsV ms)[i * 8 + j]? = some u
  | [], i, h, _, _, _ => absurd h (Nat.not_lt_zero _)
  | m :: ms, 0, h, j, u, hu => by
    have hj : j < 8 := (Array.getElem?_eq_some_iff.1 hu).1
    simp only [dmsV, List.flatMap_cons, Nat.zero_mul, Nat.zero_add]
    rw [List.getElem?_append_left (by exact hj)]
    simpa using hu
  | m :: ms, i + 1, h, j, u, hu => by
    have := dmsV_at ms i (by simpa using h) j u hu
    simp only [dmsV, List.flatMap_cons] at this ⊢
    have e : (i + 1) * 8 + j - m.cells.toList.length = i * 8 + j := by show (i + 1) * 8 + j - 8 = _; omega
    rw [List.getElem?_append_right (by show 8 ≤ _; omega), e]
    exact this
theorem ms_owns {base : Nat} {W : World} {v : Value} {ms : List Dm} (h : W.ownsRow base 53 8 v ms.length (dmsV ms)) : Ms W.heap.size W v ms := by
  have hcells := fun g hg => h.cells (g := g) hg
  rcases h.2 with ⟨hv, hn⟩ | ⟨g, cap, cur, hv, hg, hcur, _⟩
  · exact ⟨none, 0, by rw [hv, hn], fun i hi => by omega⟩
  · refine ⟨some ⟨g, 0, none⟩, cap, hv, fun i hi => ⟨g, 0, rfl, (Array.getElem?_eq_some_iff.1 hcur).1, fun j u hu => ?_⟩⟩
    have := hcells g (by rw [hv]; rfl) (i * 8 + j) u (dmsV_at ms i hi j u hu)
    by_cases h0 : i * 8 + j = 0
    · obtain ⟨rfl, rfl⟩ : i = 0 ∧ j = 0 := by omega
      simpa [Addr.add] using this
    · have h1 : ¬ (i * 8 = 0 ∧ j = 0) := by omega
      simpa [Addr.add, h1] using this
theorem Ms.on {W W1 : World} {v : Value} {ms : List Dm} (h : Ms W.heap.size W v ms) (hb : Below W.heap.size W W1) : Ms W1.heap.size W1 v ms := by
  obtain ⟨a, c, h1, h3⟩ := h
  refine ⟨a, c, h1, fun i hi => ?_⟩
  obtain ⟨b, o, e1, e2, e3⟩ := h3 i hi
  exact ⟨b, o, e1, Nat.lt_of_lt_of_le e2 hb.size, fun j u hu => by rw [hb.cell (p := ⟨b, o + i * 8 + j, none⟩) e2]; exact e3 j u hu⟩
def allP (r : Int ⊕ List Dm) (l : List ByteArray) : List ByteArray × Int := match r with
  | .inl e => ([], e)
  | .inr ms => applyA ms l
set_option maxRecDepth 20000 in
set_option maxHeartbeats 3200000 in
theorem all_any (s : ByteArray) (R : Int ⊕ List Dm) (v : Value) (l : List ByteArray) (w : World) (hP : Calls Tryz.prog 10 #[.string s] w (PaPost R w)) (he : ∀ e, R = .inl e → e = 4 ∨ e = 5 ∨ e = 12) (hb : ∀ ms, R = .inr ms → Bears ms ∧ ms.length ≤ 1000000)
    (hl : l.length ≤ 1000000) (hs : ∀ y ∈ l, y.size ≤ 1000000) (hv : Ws w.heap.size w v l) :
    Calls Tryz.prog 6 #[.string s, v] w (ApPost (allP R l) w) := by
  have HP : Hid (Calls Tryz.prog 10 #[.string s] w (PaPost R w)) := hP
  have HV : Hid (Ws w.heap.size w v l) := hv
  have HE : Hid (∀ e, R = .inl e → e = 4 ∨ e = 5 ∨ e = 12) := he
  have HA : Hid (∀ ms W vm, R = .inr ms → Below w.heap.size w W → Ms W.heap.size W vm ms → Calls Tryz.prog 11 #[vm, v] W (ApPost (applyA ms l) W)) := fun ms W vm hR hB hm => apply_any ms vm v l W (hb ms hR).2 hm (hb ms hR).1 hl hs (hv.on hB)
  clear hP he hb hl hs hv
  go_enter Tryz.func6, Tryz.ntmps6
  go_wp2_with fail
  refine HP.out.mono ?_
  intro e w2 hp
  obtain ⟨hb2, hp⟩ := hp
  have HB2 : Hid (Below w.heap.size w w2) := hb2
  clear HP hb2
  cases R with
  | inl er =>
    obtain ⟨p, rfl⟩ := hp
    have her := HE.out er rfl
    clear HE HA
    have h0 : (er == 0) = false := by simp; omega
    go_wp2_with fail
    go_region
    go_wp2
    go_ret2
    exact ⟨.slice none 0 0, rfl, ws_nil _ _, (HB2.out.alloc HB2.out.size _).drew⟩
  | inr ms =>
    obtain ⟨vm, rfl, hown⟩ := hp
    have HM : Hid (Ms w2.heap.size w2 vm ms) := ms_owns hown
    clear hown HE
    go_wp2_with fail
    refine (HA.out ms _ vm rfl (HB2.out.alloc HB2.out.size _) (HM.out.on ((Below.refl _ _).alloc (Nat.le_refl _) _))).mono ?_
    rintro e w3 ⟨v3, rfl, hw3, hb3⟩
    have H3 : Hid (Ws w3.heap.size w3 v3 (applyA ms l).1 ∧ Below w.heap.size w w3) := ⟨hw3, bt3 (HB2.out.alloc HB2.out.size _) hb3⟩
    clear hw3 hb3 HA
    go_wp2
    go_ret2
    exact ⟨v3, rfl, H3.out.1, H3.out.2⟩
end Go.Proofs.YtpcpcfnmcfjomaaGreatDoor.DQ
namespace Go.Proofs.YtpcpcfnmcfjomaaGreatDoor.DQ
open Go.RowKit Go.Shelf
open WD (joined)
theorem much_few {l : List ByteArray} : muchB l = false ↔ Few l := by
  unfold muchB Few
  rw [decide_eq_false_iff_not]
  omega
theorem fewO_much (r : List ByteArray) : fewO r = if muchB r = true then none else some r := by
  unfold fewO
  by_cases h : Few r
  · rw [if_pos (show r.length ≤ 4096 ∧ sizeL r ≤ 65536 from h), if_neg (by rw [much_few.2 h]; simp)]
  · rw [if_neg (show ¬ (r.length ≤ 4096 ∧ sizeL r ≤ 65536) from h), if_pos (by cases hm : muchB r with | false => exact absurd (much_few.1 hm) h | true => rfl)]
theorem fold_eq {N : Nat} {us : List Um} {ms : List Dm} (h : Rels us ms) : (∀ u ∈ us, GoodU N u) → ∀ l, muchB l = false →
    (∃ r, foldG (us.map semU) l = some r ∧ applyL ms l = (r, 0)) ∨ (foldG (us.map semU) l = none ∧ applyL ms l = ([], 5)) := by
  induction h with
  | nil => exact fun _ l _ => .inl ⟨l, rfl, rfl⟩
  | @cons u m us ms hu _ ih =>
    intro hg l hl
    have hs := sem_eq (hg u (by simp)) hu l (much_few.1 hl).1
    rw [fewO_much] at hs
    have hfold : foldG ((u :: us).map semU) l = (semU u l).bind (foldG (us.map semU)) := rfl
    rw [hfold, applyL]
    cases hm : muchB (listA m l) with
    | true =>
      rw [hm, if_pos rfl] at hs
      rw [hs, if_pos rfl]
      exact .inr ⟨rfl, rfl⟩
    | false =>
      rw [hm, if_neg (by simp)] at hs
      rw [hs, if_neg (by simp)]
      exact ih (fun x hx => hg x (by simp [hx])) _ hm
theorem app_eq {N : Nat} {us : List Um} {ms : List Dm} (h : Rels us ms) (hg : ∀ u ∈ us, GoodU N u) (l : List ByteArray) :
    (∃ r, appL us l = some r ∧ applyA ms l = (r, 0)) ∨ (appL us l = none ∧ applyA ms l = ([], 5)) := by
  unfold appL applyA
  cases hm : muchB l with
  | true =>
    rw [if_neg (fun hf => by rw [much_few.2 hf] at hm; cases hm), if_pos rfl]
    exact .inr ⟨rfl, rfl⟩
  | false =>
    rw [if_pos (much_few.1 hm), if_neg (by simp)]
    exact fold_eq h hg l hm
theorem suf_len (a b s : List UInt8) : (sufA a b s).length ≤ s.length + b.length := by
  unfold sufA
  split
  · split
    · omega
    · rw [List.length_append, List.length_take]; omega
  · split
    · omega
    · split
      · rename_i i _ _ j _
        rw [List.length_append, List.length_append, List.length_take, List.length_drop, List.length_drop, List.length_take]; omega
      · omega
theorem extract_le (x : ByteArray) (i j : Nat) : (x.extract i j).size ≤ x.size := by simp; omega
theorem word_size (m : Dm) (x : ByteArray) : (wordA m x).1.size ≤ x.size + m.b.size + 1 := by
  have h1 := nameB_size x
  have h2 := sufB_size x
  have h3 := suf_len (bl m.a) (bl m.b) (bl x)
  rw [bl_length, bl_length] at h3
  have hm : ∀ f t : UInt8, (ba ((bl x).map (shiftC f t))).size = x.size := fun f t => by rw [ba_size, List.length_map, bl_length]
  unfold wordA
  split
  · dsimp only; omega
  split
  · dsimp only; omega
  split
  · dsimp only; omega
  split
  · dsimp only
    unfold dirB
    split
    · show 1 ≤ _; omega
    · split
      · show 1 ≤ _; omega
      · exact Nat.le_trans (extract_le _ _ _) (by omega)
  split
  · split
    · show 0 ≤ _; omega
    · exact Nat.le_trans (extract_le _ _ _) (by omega)
  split
  · dsimp only
    unfold rootB
    exact Nat.le_trans (extract_le _ _ _) (by omega)
  split
  · dsimp only; rw [hm]; omega
  split
  · dsimp only; rw [hm]; omega
  · dsimp only; rw [ba_size]; omega
theorem bears_w (m : Dm) (l : List ByteArray) (hk : wordK m) (h : ¬ m.kind = ⟨#[79]⟩ ∧ ¬ m.kind = ⟨#[79, 114]⟩ ∧ ¬ m.kind = ⟨#[114]⟩ ∧ ¬ m.kind = ⟨#[81]⟩ ∧ ¬ m.kind = ⟨#[91]⟩ ∧ ¬ m.kind = ⟨#[117]⟩) (ha : m.a.size ≤ 60) (hb : m.b.size ≤ 60) (hf : Few l) :
    ListOk m l ∧ (listA m l).length ≤ 1000000 ∧ ∀ x ∈ listA m l, x.size ≤ 1000000 := by
  refine ⟨.inr (.inr (.inr (.inr (.inr (.inr ⟨hk, by omega, by omega, (few_all hf).2⟩))))), ?_, ?_⟩
  · rw [list_w m l h]
    have := List.length_filterMap_le (wO m) l
    have := hf.1
    omega
  · rw [list_w m l h]
    intro x hx
    obtain ⟨y, hy, e⟩ := List.mem_filterMap.1 hx
    unfold wO at e
    split at e
    · cases e
      have h1 := word_size m y
      have h2 := size_mem hy
      have h3 := hf.2
      omega
    · cases e
theorem bears_one {u : Um} {m : Dm} (hg : GoodU 60 u) (hr : RelU u m) (l : List ByteArray) (hf : Few l) : ListOk m l ∧ (listA m l).length ≤ 1000000 ∧ ∀ x ∈ listA m l, x.size ≤ 1000000 := by
  have hj := few_join l hf
  cases hr with
  | same k a b hk =>
    generalize hu : ({ md := { kind := k, a := a, b := b } } : Um) = u at hg
    cases hg with
    | m p hp =>
      cases hu
      exact bears_w _ l (.inl rfl) ⟨k_ne (by decide), k_ne (by decide), k_ne (by decide), k_ne (by decide), k_ne (by decide), k_ne (by decide)⟩ hp (by show E.size ≤ 60; decide) hf
    | n p hp =>
      cases hu
      exact bears_w _ l (.inr (.inl rfl)) ⟨k_ne (by decide), k_ne (by decide), k_ne (by decide), k_ne (by decide), k_ne (by decide), k_ne (by decide)⟩ hp (by show E.size ≤ 60; decide) hf
    | eq a' b' ha hb =>
      cases hu
      exact bears_w _ l (.inr (.inr (.inr (.inr (.inr (.inr (.inr (.inr rfl)))))))) ⟨k_ne (by decide), k_ne (by decide), k_ne (by decide), k_ne (by decide), k_ne (by decide), k_ne (by decide)⟩ ha hb hf
    | count => cases hu; exact absurd rfl hk.2.1
    | join => cases hu; exact absurd rfl hk.2.2
    | pick f t h1 h2 h3 h4 => cases hu; exact absurd rfl hk.1
    | word t ht =>
      cases hu
      unfold wordsL at ht
      simp only [List.mem_cons, List.not_mem_nil, or_false] at ht
      rcases ht with rfl | rfl | rfl | rfl | rfl | rfl | rfl | rfl | rfl | rfl | rfl
      · exact bears_w _ l (.inr (.inr (.inl rfl))) ⟨k_ne (by decide), k_ne (by decide), k_ne (by decide), k_ne (by decide), k_ne (by decide), k_ne (by decide)⟩ (by decide) (by decide) hf
      · exact bears_w _ l (.inr (.inr (.inr (.inl rfl)))) ⟨k_ne (by decide), k_ne (by decide), k_ne (by decide), k_ne (by decide), k_ne (by decide), k_ne (by decide)⟩ (by decide) (by decide) hf
      · exact bears_w _ l (.inr (.inr (.inr (.inr (.inl rfl))))) ⟨k_ne (by decide), k_ne (by decide), k_ne (by decide), k_ne (by decide), k_ne (by decide), k_ne (by decide)⟩ (by decide) (by decide) hf
      · exact bears_w _ l (.inr (.inr (.inr (.inr (.inr (.inl rfl)))))) ⟨k_ne (by decide), k_ne (by decide), k_ne (by decide), k_ne (by decide), k_ne (by decide), k_ne (by decide)⟩ (by decide) (by decide) hf
      · refine ⟨.inl rfl, ?_⟩
        rw [listA_O]; exact few_all (few_sorted l hf)
      · refine ⟨.inr (.inl rfl), ?_⟩
        rw [listA_Or]; exact few_all (few_rev _ (few_sorted l hf))
      · refine ⟨.inr (.inr (.inr (.inr (.inr (.inl rfl))))), ?_⟩
        rw [listA_u]; exact few_all (few_compact l hf)
      · refine ⟨.inr (.inr (.inl rfl)), ?_⟩
        rw [listA_r]; exact few_all (few_rev l hf)
      · exact bears_w _ l (.inr (.inr (.inr (.inr (.inr (.inr (.inl rfl))))))) ⟨k_ne (by decide), k_ne (by decide), k_ne (by decide), k_ne (by decide), k_ne (by decide), k_ne (by decide)⟩ (by decide) (by decide) hf
      · exact bears_w _ l (.inr (.inr (.inr (.inr (.inr (.inr (.inr (.inl rfl)))))))) ⟨k_ne (by decide), k_ne (by decide), k_ne (by decide), k_ne (by decide), k_ne (by decide), k_ne (by decide)⟩ (by decide) (by decide) hf
      · refine ⟨.inr (.inr (.inr (.inl ⟨rfl, by omega⟩))), ?_⟩
        rw [listA_Q]; exact ⟨by simp, fun y hy => by simp at hy; rw [hy]; exact quote_few l hf⟩
  | count =>
    refine ⟨.inr (.inr (.inr (.inr (.inl ⟨rfl, .inl rfl⟩)))), ?_⟩
    rw [pk_h]; exact ⟨by simp, fun y hy => by simp at hy; rw [hy]; exact itoa_size _ hf.1⟩
  | join =>
    refine ⟨.inr (.inr (.inr (.inr (.inl ⟨rfl, .inr (.inl ⟨rfl, by omega⟩)⟩)))), ?_⟩
    rw [pk_s]
    split
    · exact ⟨by simp, fun y hy => by simp at hy⟩
    · exact ⟨by simp, fun y hy => by simp at hy; rw [hy]; omega⟩
  | one f hb =>
    refine ⟨.inr (.inr (.inr (.inr (.inl ⟨rfl, .inr (.inr (.inl ⟨rfl, hb.1, hb.2⟩))⟩)))), ?_⟩
    rw [pk_one]; exact few_sub (piece_sub f f l).1 (piece_sub f f l).2 hf
  | two f t hb ht =>
    refine ⟨.inr (.inr (.inr (.inr (.inl ⟨rfl, .inr (.inr (.inr ⟨rfl, hb.1, hb.2, ht.1, ht.2⟩))⟩)))), ?_⟩
    rw [pk_two]; exact few_sub (piece_sub f t l).1 (piece_sub f t l).2 hf
theorem rels_mem {us : List Um} {ms : List Dm} (h : Rels us ms) {m : Dm} (hm : m ∈ ms) : ∃ u ∈ us, RelU u m := by
  induction h with
  | nil => simp at hm
  | @cons u m' us ms hu _ ih =>
    rcases List.mem_cons.1 hm with rfl | hm
    · exact ⟨u, by simp, hu⟩
    · obtain ⟨v, h1, h2⟩ := ih hm
      exact ⟨v, by simp [h1], h2⟩
theorem bears_all {us : List Um} {ms : List Dm} (h : Rels us ms) (hg : ∀ u ∈ us, GoodU 60 u) : Bears ms := by
  intro m hm l hl
  obtain ⟨u, hu, hr⟩ := rels_mem h hm
  exact bears_one (hg u hu) hr l (much_few.1 hl)
def Ans (r : List ByteArray) (e : Int) (s : ByteArray) (l : List ByteArray) : Prop := (∀ ms, allA (bl s) = .inr ms → Bears ms ∧ ms.length ≤ 1000000) ∧ allP (allA (bl s)) l = (r, e) ∧
  ((∃ f, allU (bl s) = .inr f ∧ r = [] ∧ e = (f.1 : Int)) ∨ ∃ us, allU (bl s) = .inl us ∧ ((appL us l = none ∧ r = [] ∧ e = 5) ∨ (appL us l = some r ∧ e = 0)))
theorem ans_is (s : ByteArray) (l : List ByteArray) (hs : s.size ≤ 60) : ∃ r e, Ans r e s l := by
  have hsl : (bl s).length ≤ 60 := by rw [bl_length]; exact hs
  have h := all_eq (bl s) hsl
  cases hu : allU (bl s) with
  | inr f =>
    rw [hu] at h
    dsimp only at h
    refine ⟨[], f.1, fun ms hm => (by rw [h] at hm; cases hm), by rw [h]; rfl, .inl ⟨f, hu, rfl, rfl⟩⟩
  | inl us =>
    rw [hu] at h
    obtain ⟨ms, h1, h2⟩ := h
    have hg := (all_good (N := 60) hu hsl)
    have hb : ∀ ms', allA (bl s) = .inr ms' → Bears ms' ∧ ms'.length ≤ 1000000 := fun ms' hm => by
      rw [h1] at hm; cases hm
      exact ⟨bears_all h2 hg.1, by rw [← h2.len]; omega⟩
    rcases app_eq h2 hg.1 l with ⟨r, g1, g2⟩ | ⟨g1, g2⟩
    · exact ⟨r, 0, hb, by rw [h1]; exact g2, .inr ⟨us, hu, .inr ⟨g1, rfl⟩⟩⟩
    · exact ⟨[], 5, hb, by rw [h1]; exact g2, .inr ⟨us, hu, .inl ⟨g1, rfl, rfl⟩⟩⟩
end Go.Proofs.YtpcpcfnmcfjomaaGreatDoor.DQ
namespace Go.Proofs.YtpcpcfnmcfjomaaGreatDoor
open Go.RowKit Go.Shelf
theorem vs_words {g : Nat} {l : List ByteArray} {W : World} (h : Vs g 9 (l.map Value.string) W) : Words W.heap.size W (.slice (some ⟨g, 0, none⟩) l.length l.length) l :=
  ⟨_, l.length, l.length, rfl, rfl, fun i hi => ⟨g, 0, rfl, h.lt, by rw [Nat.zero_add]; exact h.cell i _ (by simp [List.getElem?_eq_getElem hi])⟩⟩
theorem vs_ws {g : Nat} {l : List ByteArray} {W : World} (h : Vs g 9 (l.map Value.string) W) : DQ.Ws W.heap.size W (.slice (some ⟨g, 0, none⟩) l.length l.length) l :=
  ⟨_, l.length, rfl, ⟨Nat.le_refl _, fun e => by cases e⟩, fun i hi => ⟨g, 0, rfl, h.lt, by rw [Nat.zero_add]; exact h.cell i _ (by simp [List.getElem?_eq_getElem hi])⟩⟩
theorem ans_bd {r : List ByteArray} {e : Int} {s : ByteArray} {l : List ByteArray} (h : DQ.Ans r e s l) (hs : s.size ≤ 60) : 0 ≤ e ∧ e ≤ 12 := by
  obtain ⟨_, h2, ⟨f, h3, _, rfl⟩ | ⟨us, h3, ⟨_, _, rfl⟩ | ⟨_, rfl⟩⟩⟩ := h
  · have := DQ.all_eq (bl s) (by rw [bl_length]; exact hs)
    rw [h3] at this
    have := DQ.allA_bad this
    omega
  · omega
  · omega
theorem both_is (s : ByteArray) (hs : s.size ≤ 60) (hn : NoSC (bl s)) (g : Nat) (l : List ByteArray) (W : World) (h : Vs g 9 (l.map Value.string) W) (hl : l.length ≤ 5000) (hy : ∀ y ∈ l, y.size ≤ 65535) (hG : Gz W) (hE : Ey W) :
    Both s (.slice (some ⟨g, 0, none⟩) l.length l.length) W := by
  obtain ⟨r, e, hA⟩ := DQ.ans_is s l hs
  obtain ⟨he1, he2⟩ := ans_bd hA hs
  have hys : ∀ y ∈ l, y.size ≤ 1000000 := fun y hm => by have := hy y hm; omega
  refine ⟨r.length, e, he1, he2, ?_, fun W' hB => ?_⟩
  · refine (all_un s _ _ _ l W (by omega) hn (vs_words h) (by omega) hys hG hE).mono ?_
    rintro x w' ⟨hb, h1⟩
    refine ⟨hb, ?_⟩
    obtain ⟨_, _, ⟨f, h3, rfl, rfl⟩ | ⟨us, h3, ⟨h4, rfl, rfl⟩ | ⟨h4, rfl⟩⟩⟩ := hA
    · rw [h3] at h1; exact ⟨_, _, h1⟩
    · rw [h3] at h1; dsimp only at h1; rw [h4] at h1; exact ⟨_, _, h1⟩
    · rw [h3] at h1; dsimp only at h1; rw [h4] at h1
      obtain ⟨v', rfl, ho⟩ := h1
      obtain ⟨a', c', rfl⟩ := ho.slice
      exact ⟨a', c', rfl⟩
  · obtain ⟨hms, hp, _⟩ := hA
    have hP : Calls Tryz.prog 10 #[.string s] W' (DQ.PaPost (DQ.allA (bl s)) W') := by
      by_cases h0 : 0 < s.size
      · exact DQ.parse_some s W' (by omega) h0 hn
      · obtain rfl : s = E := bl_inj (by have := bl_length s; exact List.length_eq_zero_iff.1 (by omega))
        have e1 : DQ.allA (bl E) = .inr [] := if_pos rfl
        rw [e1]; exact DQ.parse_none W'
    refine (DQ.all_any s _ _ l W' hP (fun e h => DQ.allA_bad h) hms (by omega) hys ((vs_ws h).on hB)).mono ?_
    rintro x w' ⟨v, rfl, hw, hb⟩
    rw [hp] at hw ⊢
    obtain ⟨a', c', rfl, _⟩ := hw
    exact ⟨hb, a', c', rfl⟩
theorem much_law (many long : Nat) (s : ByteArray) (w : World) (hm : many < 65536) (hl : long < 65536) (hsz : s.size ≤ 140737488355328) (hG : Gz w) (hE : Ey w) :
    Calls Tryz.prog 3 #[.int .u16 (many : Int), .int .u16 (long : Int), .string s] w fun e w' => e = .returned (.bool true) ∧ Below w.heap.size w w' := by
  have hal : ∀ W, Below w.heap.size w W → Calls Tryz.prog 4 #[] W fun e w' => e = .returned (.bool true) ∧ Below W.heap.size W w' := fun W hB => alive_any W (hG.1.below hB hG.1.pos)
  by_cases hs : 60 < s.size
  · exact much_long many long s w hs hsz (hal w (Below.refl _ _))
  · have H : NoSC (bl s) → ∀ g (l : List ByteArray) W, Vs g 9 (l.map Value.string) W → Below w.heap.size w W → w.heap.size ≤ g → l.length ≤ 5000 → (∀ y ∈ l, y.size ≤ 65535) → Both s (.slice (some ⟨g, 0, none⟩) l.length l.length) W := fun hn g l W h1 h2 _ h4 h5 =>
      both_is s (by omega) hn g l W h1 h4 h5 (hG.below h2) (hE.below h2 hE.pos)
    by_cases h0 : many % 5000 = 0
    · exact much_none many long s w hm (by omega) hal h0 H
    · exact much_some many long _ s w hm hl (by omega) hal rfl (by omega) H
end Go.Proofs.YtpcpcfnmcfjomaaGreatDoor
namespace Go.Proofs.YtpcpcfnmcfjomaaGreatDoor
open Go.ChangeShapes Go.WideShapes Go.ChangeAt Go.RowKit
theorem own : ownKnob Tryz.prog.godebug = none := by kernel_rfl
theorem laidOut : laidOutB Tryz.prog = true := by kernel_rfl
def lv : DataW Unit → Value
  | .lit (.int k n) => .int k n
  | _ => .int .u8 0
def flat1 : DataW Unit → List Value
  | .agg ps => ps.map lv
  | _ => []
def flat2 : DataW Unit → List Value
  | .agg ps => ps.flatMap flat1
  | _ => []
def laysCells (l : List Value) : Obj → Obj
  | .cells _ t frozen => .cells l.toArray t frozen
  | o => o
def withTables (w : World) : World :=
  { w with heap := ((((((((w.heap.modify 1 (laysCells (flat1 Go.Pinned.utf8First))).modify 2 (laysCells (flat2 Rows.laid_unicode_utf8_acceptRanges))).modify 3 (laysCells (flat1 Rows.laid_internal_strconv_uint64pow10))).modify 4 (laysCells [.iface 271 (.pointer (some ⟨w.heap.size, 0, none⟩))])).modify 5 (laysCells [.iface 271 (.pointer (some ⟨w.heap.size + 1, 0, none⟩))])).modify 6 (laysCells (flat1 Rows.laid_math_bits_deBruijn32tab))).modify 7 (laysCells (flat1 Rows.laid_math_bits_deBruijn64tab))).push (.cells #[.string ⟨#[105, 110, 118, 97, 108, 105, 100, 32, 115, 121, 110, 116, 97, 120]⟩] 273 (0, 0))).push (.cells #[.string ⟨#[118, 97, 108, 117, 101, 32, 111, 117, 116, 32, 111, 102, 32, 114, 97, 110, 103, 101]⟩] 273 (0, 0)) }
theorem laid_met (os : Os) (args : Array Value) : laidMet Tryz.prog Rows.modsMuchRow.laid ((withTables (World.holding Tryz.prog os ⟨#[], #[], []⟩)).forCall (fun _ _ => 0) ⟨#[], args, []⟩).memory :=
  laidMet_of_run3 8 (by kernel_rfl) (by kernel_rfl) (by kernel_rfl)
theorem mx_of {W : World} (h : W.ShapedOpen Tryz.prog) : Mx W :=
  cell_of_shapedOpen_int (t := 3) (zero := #[.int .i64 0]) (k := .i64) h (by decide +kernel) (by kernel_rfl) rfl (by kernel_rfl) (by kernel_rfl) Tryz.underlying3
theorem laid_plain {W : World} (h : laidMetH Tryz.prog Rows.modsMuchRow.laid W) : laidMet Tryz.prog Rows.modsMuchRow.laid W := by
  have e : (Rows.modsMuchRow.laid.filter fun x => x.2.handleName?.isSome) = [] := by kernel_rfl
  unfold laidMetH at h
  rw [e] at h
  exact h
theorem laid_list : Rows.modsMuchRow.laid = ("math/bits.deBruijn32tab", Rows.laid_math_bits_deBruijn32tab) :: ("math/bits.deBruijn64tab", Rows.laid_math_bits_deBruijn64tab) :: ("internal/strconv.uint64pow10", Lib.tabData .u64 Lib.pow10Tab) :: ("unicode/utf8.acceptRanges", Rows.laid_unicode_utf8_acceptRanges) :: ("strconv.ErrRange", Rows.laid_strconv_ErrRange) :: ("strconv.ErrSyntax", .iface "*errors.errorString" (.ptr (.agg [.lit (.string [105, 110, 118, 97, 108, 105, 100, 32, 115, 121, 110, 116, 97, 120])]))) :: [("unicode/utf8.first", Rows.laid_unicode_utf8_first)] := by kernel_rfl
theorem tz_of {W : World} (h : laidMetH Tryz.prog Rows.modsMuchRow.laid W) : Tz W := by
  have h1 := laid_plain h
  rw [laid_list] at h1
  exact Lib.tabIs_of_head (g := 3) (t := (Tryz.prog.globals[3]!).type) (n := 20) (e := 177) glob3 (by kernel_rfl) (by kernel_rfl) (by kernel_rfl) (by kernel_rfl) (by kernel_rfl) h1.tail.tail
theorem starE : "*" ++ "errors.errorString" = "*errors.errorString" := by decide
theorem ey_of {W : World} (h : laidMetH Tryz.prog Rows.modsMuchRow.laid W) : Ey W := by
  have h1 := laid_plain h
  rw [laid_list] at h1
  have glob4 : Tryz.prog.globalNamed "strconv.ErrSyntax" = some 4 := by kernel_rfl
  obtain ⟨a, s, h2, _⟩ := laid_sentinel (g := 4) (ti := (Tryz.prog.globals[4]!).type) (tp := 271) (te := 273) (ts := 9) (ms := (match Tryz.prog.underlying (Tryz.prog.globals[4]!).type with | some (.interface ms) => ms | _ => #[])) (f := (match Tryz.prog.underlying 273 with | some (.struct fs) => fs[0]! | _ => default)) h1.tail.tail.tail.tail.tail glob4 (by kernel_rfl) (by kernel_rfl) (fun u hu => typeName_ptr_named (nm := "errors.errorString") (by rw [starE]; kernel_rfl) (by kernel_rfl) (by decide) u (by rw [starE]; exact hu)) (by kernel_rfl) (by kernel_rfl) (by kernel_rfl) (by kernel_rfl) (by kernel_rfl) (by kernel_rfl) (by kernel_rfl)
  refine ⟨_, by simpa using World.var?_cell glob4 h2 0, .inr ⟨_, _, rfl⟩⟩
end Go.Proofs.YtpcpcfnmcfjomaaGreatDoor
