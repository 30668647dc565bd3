/-
  apply, of a modifier that looks at each word by itself.
-/
import Derived.Test.YthcbagggalehgaaGreatDoorM15
namespace Go.Proofs.YthcbagggalehgaaGreatDoor
open Go.RowKit Go.Shelf

/-- What a modifier does to a word: none, if that is too much. -/
abbrev ActF := Bool → ByteArray → List ByteArray → Option (Bool × Option ByteArray)
def Stp (base b : Nat) (m : Md) (v : Value) (made : List ByteArray) (r : Option (Bool × Option ByteArray)) (w w' : World) : Prop :=
  match r with
  | none => (∃ v' l d, Wk base b m v' l true d w') ∧ Went b v w w'
  | some r => Step base b m v made r.1 r.2 w w'
def foldA (act : ActF) : List ByteArray → Bool → List ByteArray → Option (List ByteArray)
  | made, _, [] => some made
  | made, done, x :: t => match act done x made with
    | none => none
    | some (d, none) => foldA act made d t
    | some (d, some y) => if y.size + sizeL made ≤ 65536 then foldA act (made ++ [y]) d t else none
def Does (m : Md) (f : Nat) (act : ActF) : Prop := ∀ base b v made done x W, Wk base b m v made false done W → x.size ≤ 1000000 → sizeL made ≤ 65536 → made.length ≤ 100000 → Mx W → 0 < b → 0 < base →
  Calls Tryz.prog f #[.pointer (some ⟨b, 0, none⟩), .string x] W fun e w' => e = .returned (.tuple #[]) ∧ Stp base b m v made (act done x made) W w'
theorem went_below {B b : Nat} {v : Value} {w w1 w2 : World} (h : Below B w w1) (hB : B ≤ w.heap.size) (hg : Went b v w1 w2) (hb : B ≤ b) (hv : ∀ j, v.ownBlock = some j → B ≤ j) : Below B w w2 :=
  ⟨hg.os.trans h.os, hg.tape.trans h.tape, hg.output.trans h.output, Nat.le_trans h.size hg.size, fun j hj => (hg.block j (by have := h.size; omega) (by omega) (fun e => by have := hv j e; omega)).trans (h.block j hj)⟩
/-- Behind a step: too much, or the words that are made. -/
theorem Stp.next {base b : Nat} {m : Md} {v : Value} {made : List ByteArray} {act : ActF} {done : Bool} {x : ByteArray} {t : List ByteArray} {w w' : World} (h : Stp base b m v made (act done x made) w w') (hs : sizeL made ≤ 65536) :
    Went b v w w' ∧ (((∃ v' l d, Wk base b m v' l true d w') ∧ foldA act made done (x :: t) = none) ∨ ∃ v' l d, Wk base b m v' l false d w' ∧ sizeL l ≤ 65536 ∧ l.length ≤ made.length + 1 ∧ foldA act made done (x :: t) = foldA act l d t) := by
  have hf : foldA act made done (x :: t) = match act done x made with
    | none => none
    | some (d, none) => foldA act made d t
    | some (d, some y) => if y.size + sizeL made ≤ 65536 then foldA act (made ++ [y]) d t else none := by rw [foldA]
  rw [hf]
  cases hr : act done x made with
  | none => rw [hr] at h; exact ⟨h.2, .inl ⟨h.1, rfl⟩⟩
  | some r =>
    obtain ⟨d, y⟩ := r
    rw [hr] at h
    obtain ⟨⟨v', h1, h2⟩, h3⟩ := h
    refine ⟨h3, ?_⟩
    cases y with
    | none => exact .inr ⟨v', made, d, h1, hs, Nat.le_succ _, rfl⟩
    | some y =>
      dsimp only at h1 ⊢
      split at h1
      · rename_i hle
        exact .inr ⟨v', made ++ [y], d, h1, by rw [sizeL_snoc]; omega, by simp, if_pos hle⟩
      · rename_i hle
        exact .inl ⟨⟨v', made, d, h1⟩, if_neg hle⟩
theorem heap_alloc_new' {w : World} {A B : Obj} : ((w.alloc A).alloc B).heap[w.heap.size + 1]? = some B := by
  have := heap_alloc_new (w.alloc A) B
  simpa using this
theorem fn_neq (fn : Fn) (xs : Array Value) (W : World) : Sem.run Tryz.prog (binOp .neq 150 (.func fn xs #[]) .nilFunc) W = .ok (.bool true) W := by kernel_rfl
theorem nil_neq (W : World) : Sem.run Tryz.prog (binOp .neq 150 .nilFunc .nilFunc) W = .ok (.bool false) W := by kernel_rfl
def ApplyPost (w : World) (r : Option (List ByteArray)) (e : Ending) (w' : World) : Prop :=
  Below w.heap.size w w' ∧ match r with
  | none => e = .returned (.tuple #[.slice none 0 0, .bool false])
  | some l => ∃ v', e = .returned (.tuple #[v', .bool true]) ∧ w'.ownsRow w.heap.size 9 1 v' l.length (l.map Value.string)

end Go.Proofs.YthcbagggalehgaaGreatDoor
