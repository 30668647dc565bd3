/-
  The plain lines of blocks, and how many blocks there are: mathematics of the builder's state.
-/
import Derived.Test.YtbciedpjaajhcaaDoorBM
namespace Go.Proofs.YtbciedpjaajhcaaDoor

mutual
/-- The plain lines of a block. -/
def Nd.plain : Nd → List Lz
  | .pl l => [l]
  | .cn _ bs => plainsB bs
  | .fr _ _ _ ks => plainsN ks
def plainsN : List Nd → List Lz
  | [] => []
  | n :: ns => n.plain ++ plainsN ns
def plainsB : List Bk → List Lz
  | [] => []
  | b :: bs => b.plain ++ plainsB bs
def Bk.plain : Bk → List Lz
  | .mk _ _ _ ks => plainsN ks
end
mutual
/-- How many blocks and branches there are. -/
def Nd.load : Nd → Nat
  | .pl _ => 1
  | .cn _ bs => 1 + loadB bs
  | .fr _ _ _ ks => 1 + loadN ks
def loadN : List Nd → Nat
  | [] => 0
  | n :: ns => n.load + loadN ns
def loadB : List Bk → Nat
  | [] => 0
  | b :: bs => b.load + loadB bs
def Bk.load : Bk → Nat
  | .mk _ _ _ ks => 1 + loadN ks
end

theorem plainsN_append (a b : List Nd) : plainsN (a ++ b) = plainsN a ++ plainsN b := by
  induction a with
  | nil => simp [plainsN]
  | cons x a ih => simp [plainsN, ih]
theorem plainsB_append (a b : List Bk) : plainsB (a ++ b) = plainsB a ++ plainsB b := by
  induction a with
  | nil => simp [plainsB]
  | cons x a ih => simp [plainsB, ih]
theorem loadN_append (a b : List Nd) : loadN (a ++ b) = loadN a + loadN b := by
  induction a with
  | nil => simp [loadN]
  | cons x a ih => simp only [List.cons_append, loadN, ih]; omega
theorem loadB_append (a b : List Bk) : loadB (a ++ b) = loadB a + loadB b := by
  induction a with
  | nil => simp [loadB]
  | cons x a ih => simp only [List.cons_append, loadB, ih]; omega
theorem Nd.load_pos : ∀ t : Nd, 1 ≤ t.load
  | .pl _ => Nat.le_refl _
  | .cn _ bs => by simp [Nd.load]
  | .fr _ _ _ ks => by simp [Nd.load]
theorem Bk.load_pos : ∀ t : Bk, 1 ≤ t.load
  | .mk _ _ _ _ => by simp [Bk.load]
theorem loadN_length (a : List Nd) : a.length ≤ loadN a := by
  induction a with
  | nil => exact Nat.le_refl _
  | cons x a ih => have := x.load_pos; simp only [List.length_cons, loadN]; omega
theorem loadB_length (a : List Bk) : a.length ≤ loadB a := by
  induction a with
  | nil => exact Nat.le_refl _
  | cons x a ih => have := x.load_pos; simp only [List.length_cons, loadB]; omega
theorem loadN_get {a : List Nd} {i : Nat} {t : Nd} (h : a[i]? = some t) : t.load ≤ loadN a := by
  induction a generalizing i with
  | nil => simp at h
  | cons x a ih =>
    cases i with
    | zero => simp at h; subst h; simp [loadN]
    | succ i => simp at h; have := ih h; simp only [loadN]; omega
theorem loadB_get {a : List Bk} {i : Nat} {t : Bk} (h : a[i]? = some t) : t.load ≤ loadB a := by
  induction a generalizing i with
  | nil => simp at h
  | cons x a ih =>
    cases i with
    | zero => simp at h; subst h; simp [loadB]
    | succ i => simp at h; have := ih h; simp only [loadB]; omega
theorem plainsN_take {a : List Nd} {i : Nat} {t : Nd} (h : a[i]? = some t) : plainsN (a.take (i + 1)) = plainsN (a.take i) ++ t.plain := by
  rw [List.take_add_one, h, plainsN_append]; simp [plainsN]
theorem plainsB_take {a : List Bk} {i : Nat} {t : Bk} (h : a[i]? = some t) : plainsB (a.take (i + 1)) = plainsB (a.take i) ++ t.plain := by
  rw [List.take_add_one, h, plainsB_append]; simp [plainsB]
mutual
/-- There are no more plain lines than blocks. -/
theorem Nd.plain_load : ∀ t : Nd, t.plain.length ≤ t.load
  | .pl _ => by simp [Nd.plain, Nd.load]
  | .cn _ bs => by have := plainsB_load bs; simp only [Nd.plain, Nd.load]; omega
  | .fr _ _ _ ks => by have := plainsN_load ks; simp only [Nd.plain, Nd.load]; omega
theorem plainsN_load : ∀ a : List Nd, (plainsN a).length ≤ loadN a
  | [] => by simp [plainsN, loadN]
  | n :: ns => by have := Nd.plain_load n; have := plainsN_load ns; simp only [plainsN, loadN, List.length_append]; omega
theorem plainsB_load : ∀ a : List Bk, (plainsB a).length ≤ loadB a
  | [] => by simp [plainsB, loadB]
  | b :: bs => by have := Bk.plain_load b; have := plainsB_load bs; simp only [plainsB, loadB, List.length_append]; omega
theorem Bk.plain_load : ∀ b : Bk, b.plain.length ≤ b.load
  | .mk _ _ _ ks => by have := plainsN_load ks; simp only [Bk.plain, Bk.load]; omega
end

def Fm.plain : Fm → List Lz
  | .cn _ bs _ _ _ ks => plainsB bs ++ plainsN ks
  | .fr _ _ _ ks => plainsN ks
def Fm.load : Fm → Nat
  | .cn _ bs _ _ _ ks => 2 + loadB bs + loadN ks
  | .fr _ _ _ ks => 1 + loadN ks
def plainsO : List Fm → List Lz
  | [] => []
  | f :: fs => f.plain ++ plainsO fs
def loadO : List Fm → Nat
  | [] => 0
  | f :: fs => f.load + loadO fs
theorem plainsO_append (a b : List Fm) : plainsO (a ++ b) = plainsO a ++ plainsO b := by
  induction a with
  | nil => simp [plainsO]
  | cons x a ih => simp [plainsO, ih]
theorem loadO_append (a b : List Fm) : loadO (a ++ b) = loadO a + loadO b := by
  induction a with
  | nil => simp [loadO]
  | cons x a ih => simp only [List.cons_append, loadO, ih]; omega
theorem Fm.plain_add (f : Fm) (n : Nd) : (f.add n).plain = f.plain ++ n.plain := by
  cases f <;> simp [Fm.add, Fm.plain, plainsN_append, plainsN]
theorem Fm.load_add (f : Fm) (n : Nd) : (f.add n).load = f.load + n.load := by
  cases f <;> simp only [Fm.add, Fm.load, loadN_append, loadN] <;> omega
theorem Fm.plain_close (f : Fm) : f.close.plain = f.plain := by
  cases f <;> simp [Fm.close, Fm.plain, Nd.plain, plainsB_append, plainsB, Bk.plain]
theorem Fm.load_close (f : Fm) : f.close.load = f.load := by
  cases f <;> simp only [Fm.close, Fm.load, Nd.load, loadB_append, loadB, Bk.load] <;> omega
def Sx.plain (s : Sx) : List Lz := plainsN s.done ++ plainsO s.op
def Sx.load (s : Sx) : Nat := loadN s.done + loadO s.op
theorem last_split {α : Type} {l : List α} {f : α} (h : l.getLast? = some f) : l = l.dropLast ++ [f] := by
  obtain ⟨ys, rfl⟩ := List.getLast?_eq_some_iff.mp h
  simp
theorem Sx.addTo_plain (d : List Nd) (fs : List Fm) (n : Nd) : (Sx.addTo d fs n).plain = plainsN d ++ plainsO fs ++ n.plain := by
  unfold Sx.addTo
  cases h : fs.getLast? with
  | none => rw [List.getLast?_eq_none_iff] at h; subst h; simp [Sx.plain, plainsN_append, plainsN, plainsO]
  | some f =>
    have e := last_split h
    conv => rhs; rw [e]
    simp [Sx.plain, plainsO_append, plainsO, Fm.plain_add]
theorem Sx.addTo_load (d : List Nd) (fs : List Fm) (n : Nd) : (Sx.addTo d fs n).load = loadN d + loadO fs + n.load := by
  unfold Sx.addTo
  cases h : fs.getLast? with
  | none => rw [List.getLast?_eq_none_iff] at h; subst h; simp only [Sx.load, loadN_append, loadN, loadO]; omega
  | some f =>
    have e := last_split h
    conv => rhs; rw [e]
    simp only [Sx.load, loadO_append, loadO, Fm.load_add]; omega
/-- Is a line plain, that is, neither opens, parts nor closes? -/
def isPl (x : Lz) : Bool := decide (kindW (dirW x) = 0)
theorem kind_le (w : ByteArray) : kindW w ≤ 5 := by
  unfold kindW; repeat' split
  all_goals omega
/-- What a line does to the plain lines, and to the load. -/
theorem Sx.step_tells {s s' : Sx} {x : Lz} (h : s.step x = .ok s') : s'.plain = s.plain ++ (if isPl x = true then [x] else []) ∧ s'.load ≤ s.load + 2 := by
  have hk := kind_le (dirW x)
  unfold Sx.step at h
  unfold isPl
  split at h
  case h_1 e =>
    split at h
    · cases h
    · cases h; simp [e, Sx.plain, Sx.load, plainsO_append, plainsO, Fm.plain, plainsB, plainsN, loadO_append, loadO, Fm.load, loadB, loadN]; omega
  case h_2 e =>
    split at h
    · cases h
    · split at h
      · cases h
      · cases h; simp [e, Sx.plain, Sx.load, plainsO_append, plainsO, Fm.plain, plainsN, loadO_append, loadO, Fm.load, loadN]; omega
  case h_3 e =>
    split at h
    · rename_i l bs w0 t0 a0 ks hl
      split at h
      · cases h
      · cases h
        have e1 := last_split hl
        constructor
        · unfold Sx.plain; conv => rhs; rw [e1]
          simp [e, plainsO_append, plainsO, Fm.plain, plainsB, plainsN, plainsB_append, Bk.plain]
        · unfold Sx.load; conv => rhs; rw [e1]
          simp only [loadO_append, loadO, Fm.load, loadB, loadN, loadB_append, Bk.load]; omega
    · cases h
  case h_4 e =>
    split at h
    · rename_i l bs w0 t0 a0 ks hl
      split at h
      · cases h
      · cases h
        have e1 := last_split hl
        rw [Sx.addTo_plain, Sx.addTo_load, Fm.plain_close, Fm.load_close]
        constructor
        · unfold Sx.plain; conv => rhs; rw [e1]
          simp [e, plainsO_append, plainsO]
        · unfold Sx.load; conv => rhs; rw [e1]
          simp only [loadO_append, loadO]; omega
    · cases h
  case h_5 e =>
    split at h
    · rename_i l ns li ks hl
      split at h
      · cases h
      · cases h
        have e1 := last_split hl
        rw [Sx.addTo_plain, Sx.addTo_load, Fm.plain_close, Fm.load_close]
        constructor
        · unfold Sx.plain; conv => rhs; rw [e1]
          simp [e, plainsO_append, plainsO]
        · unfold Sx.load; conv => rhs; rw [e1]
          simp only [loadO_append, loadO]; omega
    · cases h
  case h_6 n1 n2 n3 n4 n5 =>
    have e : kindW (dirW x) = 0 := by
      have := n1; have := n2; have := n3; have := n4; have := n5
      simp only [imp_false] at *
      omega
    cases h
    rw [Sx.addTo_plain, Sx.addTo_load]
    constructor
    · simp [e, Sx.plain, Nd.plain]
    · simp only [Sx.load, Nd.load]; omega
theorem Sx.run_tells : ∀ (l : List Lz) (s : Sx) {ts : List Nd}, s.run l = .good ts → plainsN ts = s.plain ++ l.filter isPl ∧ loadN ts ≤ s.load + 2 * l.length
  | [], s, ts, h => by
    unfold Sx.run at h
    split at h
    · cases h
    · rename_i e
      rw [List.getLast?_eq_none_iff] at e
      cases h
      simp [Sx.plain, Sx.load, e, plainsO, loadO]
  | x :: l, s, ts, h => by
    unfold Sx.run at h
    split at h
    · cases h
    · rename_i s' e
      obtain ⟨a1, a2⟩ := Sx.step_tells e
      obtain ⟨b1, b2⟩ := Sx.run_tells l s' h
      refine ⟨?_, by simp only [List.length_cons]; omega⟩
      rw [b1, a1, List.filter_cons]
      cases isPl x <;> simp
/-- The blocks that were built have the plain lines, in order; and they are no more than twice the lines. -/
theorem build_tells {l : List Lz} {ts : List Nd} (h : buildL l = .good ts) : plainsN ts = l.filter isPl ∧ loadN ts ≤ 2 * l.length := by
  obtain ⟨h1, h2⟩ := Sx.run_tells l ⟨[], []⟩ h
  simp only [Sx.plain, Sx.load, plainsN, plainsO, loadN, loadO, List.nil_append, Nat.zero_add] at h1 h2
  exact ⟨h1, h2⟩
end Go.Proofs.YtbciedpjaajhcaaDoor
