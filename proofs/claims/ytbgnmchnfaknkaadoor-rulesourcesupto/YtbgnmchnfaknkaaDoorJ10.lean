/-
  add of any rule; Join of any rules.
-/
import Derived.Test.YtbgnmchnfaknkaaDoorJ9
namespace Go.Proofs.YtbgnmchnfaknkaaDoor
open Go.RowKit Go.Shelf Go.Maps

theorem add_any (base bj bm : Nat) (vr : Value) (es : List JE) (K : Nat) (t : ByteArray) (r : Q.Ru) (v : Value) (B : Nat) (w : World) (hJ : JS base bj bm vr es K w) (hv : RuV B w v r) (hB : B ≤ base) (hz : t.size ≤ 140737488355328)
    (hK : K ≤ 1000000) (hes : es.length ≤ 1000000) (hsz : ∀ e ∈ es.map JE.r, e.sources.length ≤ 500000000000 ∧ e.commands.length ≤ 500000000000) (hs2 : r.sources.length ≤ 500000000000 ∧ r.commands.length ≤ 500000000000) :
    Calls Tryd.prog 29 #[.pointer (some ⟨bj, 0, none⟩), .string t, v] w (AddPost base bj bm vr es K t r w) := by
  cases hf : Q.lastI (bl t) (es.map JE.r) with
  | none => exact add_new base bj bm vr es K t r v B w hJ hv hB hz (.inl hf) hK hes hs2
  | some i =>
    by_cases hk : r.kind = 3
    · exact add_new base bj bm vr es K t r v B w hJ hv hB hz (.inr hk) hK hes hs2
    · exact add_old base bj bm vr es K t r v B w hJ hv hB hz i hf hk hsz hs2

/-- How long the lists of rules are. -/
structure Lim (m : Nat) (l : List Q.Ru) : Prop where
  len : l.length ≤ 1000000
  tot : Q.tot l ≤ 400
  sz : Q.Sz m l
  m : m ≤ 1000000000
  names : ∀ r ∈ l, ∀ t ∈ r.targets, t.length ≤ 140737488355328
/-- What Join answers. -/
def JoinPost (l : List Q.Ru) (w : World) (x : Ending) (w' : World) : Prop :=
  ∃ v y z, x = .returned (.tuple #[v, .agg #[.int .i64 y, .int .i64 z]]) ∧ Below w.heap.size w w' ∧ (∀ a, (Q.joinL classF [] l).1 = some a → y = 0 ∧ z = 0 ∧ RLst w'.heap.size w' v a) ∧ ((Q.joinL classF [] l).1 = none → y = 14 ∧ v = .slice none 0 0)

/-- What stands behind the first k rules. -/
structure JI (m : Nat) (l : List Q.Ru) (w : World) (k : Nat) (wr : World) : Prop where
  below : Below w.heap.size w wr
  flt : wr.heap[w.heap.size]? = some (.cells #[.int .i64 0, .int .i64 0] 27 (0, 0))
  js : ∃ vr es K, JS (w.heap.size + 1) (w.heap.size + 1 + 1) (w.heap.size + 1) vr es K wr ∧ K ≤ Q.tot (l.take k) ∧ es.length ≤ Q.tot (l.take k) ∧ Q.Sz (Q.tot (l.take k) * m) (es.map JE.r) ∧ Q.joinL classF [] l = Q.joinL classF (es.map JE.r) (l.drop k)
/-- And behind the first j targets of the next one. -/
structure JI2 (m : Nat) (l : List Q.Ru) (w : World) (k : Nat) (r : Q.Ru) (x : Nat) (bx : Array Value) (j : Nat) (wr : World) : Prop where
  below : Below w.heap.size w wr
  flt : wr.heap[w.heap.size]? = some (.cells #[.int .i64 0, .int .i64 0] 27 (0, 0))
  box : wr.heap[x]? = some (.cells bx 24 (0, 0))
  js : ∃ vr es K, JS (w.heap.size + 1) (w.heap.size + 1 + 1) (w.heap.size + 1) vr es K wr ∧ NoOwn (w.heap.size + 1 + 1) (w.heap.size + 1) vr es x ∧ K ≤ Q.tot (l.take k) + j ∧ es.length ≤ Q.tot (l.take k) + j ∧ Q.Sz ((Q.tot (l.take k) + j) * m) (es.map JE.r) ∧ Q.joinL classF [] l = Q.joinL classF (Q.addAll r (es.map JE.r) (r.targets.drop j)) (l.drop (k + 1))
theorem tot_take (l : List Q.Ru) (k : Nat) (r : Q.Ru) (h : l[k]? = some r) : Q.tot (l.take (k + 1)) = Q.tot (l.take k) + r.targets.length := by
  have hk := (List.getElem?_eq_some_iff.1 h).1
  have e : l.take (k + 1) = l.take k ++ [r] := by
    rw [List.take_add_one, h]; rfl
  rw [e]; simp [Q.tot]
theorem tot_le (l : List Q.Ru) (k : Nat) : Q.tot (l.take k) ≤ Q.tot l := by
  have e : Q.tot l = Q.tot (l.take k) + Q.tot (l.drop k) := by
    unfold Q.tot
    rw [← List.sum_append, ← List.map_append, List.take_append_drop]
  omega
theorem joinL_drop (cl : List UInt8 → Nat) (rs l : List Q.Ru) (k : Nat) (r : Q.Ru) (h : l[k]? = some r) : Q.joinL cl rs (l.drop k) = if Q.clashesR cl rs r = true then (none, r.at_) else Q.joinL cl (Q.addAll r rs r.targets) (l.drop (k + 1)) := by
  obtain ⟨hk, e⟩ := List.getElem?_eq_some_iff.1 h
  rw [List.drop_eq_getElem_cons hk, e, Q.joinL]
theorem addAll_drop (r : Q.Ru) (rs : List Q.Ru) (ts : List (List UInt8)) (j : Nat) (h : j < ts.length) : Q.addAll r rs (ts.drop j) = Q.addAll r (Q.addR r rs ts[j]) (ts.drop (j + 1)) := by
  rw [List.drop_eq_getElem_cons h]; rfl

/-- One target more. -/
theorem ji_add {m : Nat} {l : List Q.Ru} {w wr w' : World} {k : Nat} {r : Q.Ru} {x : Nat} {bx : Array Value} {j : Nat} (hl : Lim m l) (hr : l[k]? = some r) (hj : j < r.targets.length) (h : JI2 m l w k r x bx j wr) {vr : Value} {es : List JE} {K : Nat}
    (hno : NoOwn (w.heap.size + 1 + 1) (w.heap.size + 1) vr es x) (hK : K ≤ Q.tot (l.take k) + j) (hes : es.length ≤ Q.tot (l.take k) + j) (hsz : Q.Sz ((Q.tot (l.take k) + j) * m) (es.map JE.r)) (hE : Q.joinL classF [] l = Q.joinL classF (Q.addAll r (es.map JE.r) (r.targets.drop j)) (l.drop (k + 1)))
    {e : Ending} (hP : AddPost (w.heap.size + 1) (w.heap.size + 1 + 1) (w.heap.size + 1) vr es K (ba r.targets[j]) r wr e w') : JI2 m l w k r x bx (j + 1) w' := by
  obtain ⟨_, vr', es', K', hK', hJ', hm, hb, hkeep⟩ := hP
  have hx : x < wr.heap.size := (Array.getElem?_eq_some_iff.1 h.box).1
  obtain ⟨n1, n2⟩ := hkeep x hx hno
  rw [bl_ba] at hm
  have hmr := hl.sz r (List.mem_of_getElem? hr)
  obtain ⟨s1, s2⟩ := Q.sz_add hmr r.targets[j] hsz
  refine ⟨below_trans h.below (hb.mono (Nat.le_succ _)) (Nat.le_refl _), ?_, n2.trans h.box, vr', es', K', hJ', n1, by omega, ?_, ?_, ?_⟩
  · rw [hb.block _ (Nat.lt_succ_self _)]; exact h.flt
  · rw [← hm, List.length_map] at s2
    rw [List.length_map] at s2; omega
  · rw [hm]
    have e : (Q.tot (l.take k) + (j + 1)) * m = (Q.tot (l.take k) + j) * m + m := by rw [← Nat.add_assoc, Nat.succ_mul]
    rw [e]; exact s1
  · rw [hm, hE, addAll_drop _ _ _ _ hj]
end Go.Proofs.YtbgnmchnfaknkaaDoor
