/-
  Texts as lists of bytes; small things that every text here takes.
-/
import Derived.Test.YtkelmhpoplbacaaGreatDoorProg
import Derived.Test.YtkelmhpoplbacaaGreatDoorNMath
import Derived.WalkKit
import Derived.WalkSpells
import Derived.WalkLawsBesides
import Derived.Deep.QuietTactic
import Derived.BigQuiet
import Derived.BigCall
import Derived.BigGuard
import Derived.Lib.OthersKept
import Derived.Lib.ConvBytes
import Derived.Lib.IfaceEq
import Derived.Below
import Derived.Shelf.Abstract
namespace Go.Proofs.YtkelmhpoplbacaaGreatDoor
open Go.RowKit Go.Shelf
namespace N

def Hid (p : Prop) : Prop := p
theorem Hid.out {p : Prop} (h : Hid p) : p := h
def bl (x : ByteArray) : List UInt8 := x.data.toList
def ba (l : List UInt8) : ByteArray := ⟨l.toArray⟩
theorem bl_ba (l : List UInt8) : bl (ba l) = l := by simp [bl, ba]
theorem ba_bl (x : ByteArray) : ba (bl x) = x := by simp [bl, ba]
theorem bl_inj {x y : ByteArray} (h : bl x = bl y) : x = y := by rw [← ba_bl x, ← ba_bl y, h]
theorem bl_length (x : ByteArray) : (bl x).length = x.size := by simp [bl]
theorem ba_size (l : List UInt8) : (ba l).size = l.length := by simp [ba, ByteArray.size]
theorem ret_bool {a b : Bool} (h : a = b) : Ending.returned (.bool a) = .returned (.bool b) := by rw [h]
theorem ret_str {a b : ByteArray} (h : a = b) : Ending.returned (.string a) = .returned (.string b) := by rw [h]
theorem drop_bl (m : ByteArray) (k : Nat) (h : k < m.size) : (bl m).drop k = m[k] :: (bl m).drop (k + 1) :=
  List.drop_eq_getElem_cons (by simpa [bl] using h)
theorem bl_extract (s : ByteArray) (a b : Nat) : bl (s.extract a b) = ((bl s).take b).drop a := by
  simp [bl, List.extract_eq_take_drop, List.drop_take]
theorem bl_get (s : ByteArray) (k : Nat) (h : k < s.size) : (bl s)[k]? = some s[k] := by
  unfold bl; rw [List.getElem?_eq_getElem (by simpa using h)]; rfl
theorem bl_app (a b : ByteArray) : bl (a ++ b) = bl a ++ bl b := by simp [bl]
theorem nonempty {t : ByteArray} (h : bl t ≠ []) : t.toList.isEmpty = false := by
  rw [← decide_eq_emptyBytes]
  exact decide_eq_false (fun e => h (by rw [e]; rfl))

/-- What ParseUint hands back at digits that are all of the base, at 63 bits. -/
def puV (v : Nat) : Value := if v < 9223372036854775808 then .tuple #[.int .u64 (v : Int), .nilIface] else .tuple #[.int .u64 9223372036854775807, .iface 229 (.int .i64 1)]
theorem puV_over {v : Nat} (h : 9223372036854775808 ≤ v) : puV v = .tuple #[.int .u64 9223372036854775807, .iface 229 (.int .i64 1)] := by
  unfold puV; rw [if_neg (by omega)]
theorem puV_in {v : Nat} (h : v < 9223372036854775808) : puV v = .tuple #[.int .u64 (v : Int), .nilIface] := by
  unfold puV; rw [if_pos h]
end N
end Go.Proofs.YtkelmhpoplbacaaGreatDoor
