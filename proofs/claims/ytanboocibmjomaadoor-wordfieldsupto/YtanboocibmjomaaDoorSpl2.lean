/-
  What the program's Split, Fields and Count answer: the words, the fields, and how many there are.
-/
import Derived.Test.YtanboocibmjomaaDoorSpl
namespace Go.Proofs.YtanboocibmjomaaDoor
open Go.RowKit Go.Shelf

theorem Some1.below {b n0 : Nat} {g : Option Nat} {w0 w w' : World} (h : Some1 b g w w') (h0 : Below n0 w0 w) (hn : n0 ≤ w.heap.size) (hb : n0 ≤ b) (hg : ∀ j, g = some j → n0 ≤ j) : Below n0 w0 w' :=
  ⟨h.os.trans h0.os, h.tape.trans h0.tape, h.output.trans h0.output, Nat.le_trans h0.size h.size, fun j hj => (h.block j (by omega) (by omega) (fun e => by have := hg j e; omega)).trans (h0.block j hj)⟩

theorem alloc_at (w : World) (o : Obj) : (w.alloc o).heap[w.heap.size]? = some o := by
  unfold World.alloc; exact Array.getElem?_push_size
theorem eb1 : ∀ args w, (callFunc 22 args).run Tryd.prog w = .ok (.enter 22 args) w := enters_of Tryd.func22 (by kernel_rfl) rfl
theorem eb2 : ∀ args w, (callFunc 26 args).run Tryd.prog w = .ok (.enter 26 args) w := enters_of Tryd.func26 (by kernel_rfl) rfl
theorem ef1 : ∀ args w, (callFunc 43 args).run Tryd.prog w = .ok (.enter 43 args) w := enters_of Tryd.func43 (by kernel_rfl) rfl
theorem eF1 : ∀ args w, (callFunc 35 args).run Tryd.prog w = .ok (.enter 35 args) w := enters_of Tryd.func35 (by kernel_rfl) rfl
theorem eC1 : ∀ args w, (callFunc 37 args).run Tryd.prog w = .ok (.enter 37 args) w := enters_of Tryd.func37 (by kernel_rfl) rfl

/-- The fields, as texts. -/
def flds (s : ByteArray) : List ByteArray := (K.fields (bl s)).map ba
theorem pcs_flds (s : ByteArray) : pcs K.stU K.fU () s = flds s := rfl
theorem flds_len (s : ByteArray) : (flds s).length ≤ s.size := by
  have := K.cut_length (st := K.stU) (f := K.fU) () [] (bl s)
  rw [bl_length] at this
  unfold flds K.fields
  simpa using this

set_option maxHeartbeats 400000 in
theorem fields0_any (kd : Nat) (cd : Array Value) (J : List ByteArray → World → Prop) (s : ByteArray) (w : World) (hs : s.size ≤ 140737488355328) (ed : ∀ args w, (callFunc kd args).run Tryd.prog w = .ok (.enter kd args) w)
    (hD : ∀ ws t W, J ws W → (ws ++ [t]) <+: flds s → Calls Tryd.prog kd (#[.string t] ++ cd) W fun e w' => e = .returned (.tuple #[]) ∧ J (ws ++ [t]) w') (h0 : J [] w) :
    Calls Tryd.prog 34 #[.string s, .func (.func kd) #[] cd] w fun e w' => e = .returned (.tuple #[]) ∧ J (flds s) w' := by
  have HB : Hid (Calls Tryd.prog 25 #[.string s, .func (.func 43) #[] #[], .func (.func kd) #[] cd] w fun e w' => e = .returned (.tuple #[]) ∧ J (flds s) w') := by
    refine between_any K.stU K.fU () 43 kd #[] cd (fun _ ws W => J ws W) s w hs ef1 ed ?_ (fun _ ws t W hJ hp => hD ws t W hJ hp) h0
    intro _ ws c W hJ
    exact (blank0_any c W).mono fun e w' ⟨he, hw⟩ => ⟨he, hw ▸ hJ⟩
  clear hD h0
  go_enter Tryd.func34, Tryd.ntmps34
  go_wp2_with (go_at_call 25; refine HB.out.mono ?_; rintro e w1 ⟨rfl, hJ⟩)
  go_end0
  exact ⟨rfl, by assumption⟩

def FJ (n0 : Nat) (w0 : World) (ws : List ByteArray) (W : World) : Prop := Lst (n0 + 1) n0 ws W ∧ Below n0 w0 W ∧ n0 < W.heap.size
theorem fj_push {n0 : Nat} {w0 : World} {ws : List ByteArray} {W : World} (x : ByteArray) (hl : ws.length ≤ 4000000) (h : FJ n0 w0 ws W) :
    Calls Tryd.prog 35 #[.string x, .pointer (some ⟨n0, 0, none⟩)] W fun e w' => e = .returned (.tuple #[]) ∧ FJ n0 w0 (ws ++ [x]) w' := by
  obtain ⟨⟨v, h1, h2, h3⟩, hb, hn⟩ := h
  refine (push_any x W (by omega) hl h1 h2 h3).mono fun e w' ⟨he, hL, hS⟩ => ⟨he, hL, hS.below hb (by omega) (Nat.le_refl _) (fun j hj => ?_), Nat.lt_of_lt_of_le hn hS.size⟩
  have := (h2.lt j hj).1; omega

set_option maxHeartbeats 400000 in
theorem fields_any (s : ByteArray) (w : World) (hs : s.size ≤ 4000000) :
    Calls Tryd.prog 17 #[.string s] w fun e w' => ∃ v, e = .returned v ∧ Words w'.heap.size w' v (flds s) ∧ Below w.heap.size w w' := by
  have HF : Hid (Calls Tryd.prog 34 #[.string s, .func (.func 35) #[] #[.pointer (some ⟨w.heap.size, 0, none⟩)]] (w.alloc (.cells #[.slice none 0 0] 22)) fun e w' => e = .returned (.tuple #[]) ∧ FJ w.heap.size w (flds s) w') := by
    refine fields0_any 35 _ (FJ w.heap.size w) s _ (by omega) eF1 (fun ws t W hJ hp => ?_) ?_
    · have h1 := hp.length_le
      have h2 := flds_len s
      rw [List.length_append] at h1
      exact fj_push t (by omega) hJ
    · refine ⟨⟨.slice none 0 0, ?_, World.ownsRow_nil _ _ _ _, by simp [Value.ownBlock]⟩, (Below.refl _ _).alloc (Nat.le_refl _) _, by simp⟩
      exact alloc_at _ _
  go_enter Tryd.func17, Tryd.ntmps17
  go_wp2_with fail
  refine HF.out.mono ?_
  rintro e w1 ⟨rfl, ⟨v, h1, h2, h3⟩, hb, hn⟩
  have c0 : w1.cell? ⟨w.heap.size, 0, none⟩ = some v := by simp only [World.cell?, h1]; rfl
  have HW : Hid (Words w1.heap.size w1 v (flds s)) := words_of_owns h2 (Nat.le_refl _)
  clear h1 h2 h3
  go_wp2
  go_ret
  exact ⟨_, rfl, HW.out, hb⟩

def CJ (n0 : Nat) (w0 : World) (ws : List ByteArray) (W : World) : Prop := W.heap[n0]? = some (.cells #[.int .i64 (ws.length : Nat)] 3 (0, 0)) ∧ Below n0 w0 W
set_option maxHeartbeats 400000 in
theorem cj_push {n0 : Nat} {w0 : World} {ws : List ByteArray} {W : World} (x : ByteArray) (hl : ws.length ≤ 4000000) (h : CJ n0 w0 ws W) :
    Calls Tryd.prog 37 #[.string x, .pointer (some ⟨n0, 0, none⟩)] W fun e w' => e = .returned (.tuple #[]) ∧ CJ n0 w0 (ws ++ [x]) w' := by
  obtain ⟨h1, hb⟩ := h
  obtain ⟨n, hn⟩ : ∃ n, n = ws.length := ⟨_, rfl⟩
  rw [← hn] at h1 hl
  have c0 : W.cell? ⟨n0, 0, none⟩ = some (.int .i64 (n : Nat)) := by simp only [World.cell?, h1]; rfl
  have f0 : W.frozen? ⟨n0, 0, none⟩ = false := by simp [World.frozen?, h1]
  have HC : Hid (CJ n0 w0 (ws ++ [x]) (W.setCell ⟨n0, 0, none⟩ (.int .i64 ((n : Nat) + 1)))) := by
    refine ⟨?_, hb.setCell (p := ⟨n0, 0, none⟩) (Nat.le_refl _) _⟩
    rw [heap_set h1, List.length_append, ← hn]; simp
  clear h1 hn hb
  go_enter Tryd.func37, Tryd.ntmps37
  go_wp2
  go_end0
  exact ⟨rfl, HC.out⟩

set_option maxHeartbeats 400000 in
theorem count_any (s : ByteArray) (w : World) (hs : s.size ≤ 4000000) :
    Calls Tryd.prog 19 #[.string s] w fun e w' => e = .returned (.int .i64 ((flds s).length : Nat)) ∧ Below w.heap.size w w' := by
  have HF : Hid (∀ W, W.heap[w.heap.size]? = some (.cells #[.int .i64 0] 3 (0, 0)) → Below w.heap.size w W → Calls Tryd.prog 34 #[.string s, .func (.func 37) #[] #[.pointer (some ⟨w.heap.size, 0, none⟩)]] W fun e w' => e = .returned (.tuple #[]) ∧ CJ w.heap.size w (flds s) w') := by
    intro W h1 h2
    refine fields0_any 37 _ (CJ w.heap.size w) s _ (by omega) eC1 (fun ws t W hJ hp => ?_) ⟨h1, h2⟩
    have h1 := hp.length_le
    have h2 := flds_len s
    rw [List.length_append] at h1
    exact cj_push t (by omega) hJ
  obtain ⟨n, hn⟩ : ∃ n, n = (flds s).length := ⟨_, rfl⟩
  rw [← hn]
  have HN : Hid (n = (flds s).length) := hn
  clear hn
  go_enter Tryd.func19, Tryd.ntmps19
  go_wp2_with fail
  refine (HF.out _ ?_ ?_).mono ?_
  · first | exact alloc_at _ _ | exact heap_set (alloc_at _ _) _
  · first | exact ((Below.refl _ _).alloc (Nat.le_refl _) _).setCell (Nat.le_refl _) _ | exact (Below.refl _ _).alloc (Nat.le_refl _) _
  rintro e w1 ⟨rfl, h1, hb⟩
  have c0 : w1.cell? ⟨w.heap.size, 0, none⟩ = some (.int .i64 (n : Nat)) := by rw [HN.out]; simp only [World.cell?, h1]; rfl
  clear h1
  go_wp2
  go_ret
  exact ⟨rfl, hb⟩

/-- The words, as texts; what Split answers. -/
def wds (s : ByteArray) : List ByteArray := (K.words (bl s)).map ba
def splitE (s : ByteArray) : Nat := if (K.ends (bl s)).opened = true then 4 else if 4096 < (wds s).length then 5 else 0
def splitW (s : ByteArray) : List ByteArray := if splitE s = 0 then wds s else []
theorem pcs_wds (s : ByteArray) : pcs K.Rd.step K.Rd.blank K.Rd.r0 s = wds s := rfl

def SJ (n0 : Nat) (w0 : World) (r : K.Rd) (ws : List ByteArray) (W : World) : Prop := Box n0 r W ∧ Lst (n0 + 2) (n0 + 1) (ws.take 4097) W ∧ Below n0 w0 W ∧ n0 + 1 < W.heap.size
theorem Lst.only {base b b' : Nat} {ws : List ByteArray} {w w' : World} (h : Lst base b ws w) (ho : Only b' w w') (hb : b ≠ b') (hB : b' < base) : Lst base b ws w' := by
  obtain ⟨v, h1, h2, h3⟩ := h
  refine ⟨v, (ho.block b hb).trans h1, ho.row h2 (fun e => ?_), h3⟩
  have := (h2.lt b' e).1; omega
theorem sj_blank {n0 : Nat} {w0 : World} {r : K.Rd} {ws : List ByteArray} {W : World} (c : UInt8) (h : SJ n0 w0 r ws W) :
    Calls Tryd.prog 22 #[.int .u8 c.toNat, .pointer (some ⟨n0, 0, none⟩)] W fun e w' => e = .returned (.bool (r.blank c)) ∧ SJ n0 w0 (r.step c) ws w' := by
  obtain ⟨h1, h2, h3, h4⟩ := h
  refine (blank1_any n0 r c W h1).mono fun e w' ⟨he, hB, hO⟩ => ⟨he, hB, h2.only hO (by omega) (by omega), hO.below (Nat.le_refl _) h3, by rw [hO.size]; exact h4⟩
theorem sj_push {n0 : Nat} {w0 : World} {r : K.Rd} {ws : List ByteArray} {W : World} (x : ByteArray) (h : SJ n0 w0 r ws W) :
    Calls Tryd.prog 26 #[.string x, .pointer (some ⟨n0 + 1, 0, none⟩)] W fun e w' => e = .returned (.tuple #[]) ∧ SJ n0 w0 r (ws ++ [x]) w' := by
  obtain ⟨h1, ⟨v, hv1, hv2, hv3⟩, h3, h4⟩ := h
  by_cases hl : ws.length ≤ 4096
  · have e1 : (ws ++ [x]).take 4097 = ws.take 4097 ++ [x] := by
      rw [List.take_append, List.take_of_length_le (by omega), List.take_of_length_le (l := [x]) (by simp; omega)]
    refine (push2_any x W (by omega) (by rw [List.length_take]; omega) hv1 hv2 hv3).mono fun e w' ⟨he, hL, hS⟩ => ⟨he, ?_, by rw [e1]; exact hL, hS.below h3 (by omega) (by omega) (fun j hj => ?_), Nat.lt_of_lt_of_le h4 hS.size⟩
    · refine (hS.block n0 h1.lt (by omega) (fun e => ?_)).trans h1
      have := (hv2.lt n0 e).1; omega
    · have := (hv2.lt j hj).1; omega
  · have e1 : (ws ++ [x]).take 4097 = ws.take 4097 := by
      rw [List.take_append_of_le_length (by omega)]
    have hsl : ∃ a cap, v = .slice a (ws.take 4097).length cap := by
      rcases hv2.2 with ⟨h1, h2⟩ | ⟨g, cap, cur, rfl, _⟩
      · exact ⟨none, 0, by rw [h1, h2]⟩
      · exact ⟨_, _, rfl⟩
    obtain ⟨a, cap, hv⟩ := hsl
    have hv1' := hv1
    rw [hv] at hv1'
    refine (full2_any x W (by rw [List.length_take]; omega) hv1').mono fun e w' ⟨he, hw⟩ => ⟨he, ?_⟩
    subst hw
    exact ⟨h1, by rw [e1]; exact ⟨v, hv1, hv2, hv3⟩, h3, h4⟩
end Go.Proofs.YtanboocibmjomaaDoor
