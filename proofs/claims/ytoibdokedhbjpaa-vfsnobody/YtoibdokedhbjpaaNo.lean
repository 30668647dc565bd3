/-
  What each call answers on a store that nobody made: an error, or nothing; and it leaves all as it was.
-/
import Derived.Test.YtoibdokedhbjpaaMethC
namespace Go.Proofs.Ytoibdokedhbjpaa
open Go.RowKit Go.Shelf Go.Maps

/-- No store: nil, or one that was not made. -/
def NoSt (pv : Value) (w : World) : Prop := pv = .pointer none ∨ ∃ b, pv = ptr b ∧ w.cell? ⟨b, 0, none⟩ = some (.bool false)

set_option maxRecDepth 20000 in
set_option maxHeartbeats 400000 in
theorem ready_no (pv : Value) (w : World) (h : NoSt pv w) :
    Calls Try.prog 29 #[pv] w fun e w' => e = .returned (.bool false) ∧ w = w' := by
  rcases h with rfl | ⟨b, rfl, c0⟩
  · go_enter Try.func29, Try.ntmps29
    go_wp2
    go_ret
    exact ⟨rfl, rfl⟩
  · go_enter Try.func29, Try.ntmps29
    go_wp2
    go_ret
    exact ⟨rfl, rfl⟩

set_option maxRecDepth 20000 in
set_option maxHeartbeats 400000 in
theorem place_no (pv : Value) (p : ByteArray) (w : World) (h : NoSt pv w) :
    Calls Try.prog 33 #[pv, .string p] w fun e w' => e = .returned (.tuple #[.string ⟨#[]⟩, .int .i64 2]) ∧ w = w' := by
  have HR : Hid (Calls Try.prog 29 #[pv] w fun e w' => e = .returned (.bool false) ∧ w = w') := ready_no pv w h
  have hsh : ∃ a, pv = .pointer a := by
    rcases h with rfl | ⟨b, rfl, _⟩
    · exact ⟨_, rfl⟩
    · exact ⟨_, rfl⟩
  obtain ⟨a, rfl⟩ := hsh
  clear h
  go_enter Try.func33, Try.ntmps33
  go_wp2_with fail
  refine HR.out.mono ?_
  rintro e w' ⟨rfl, rfl⟩
  go_wp2
  go_ret2
  exact ⟨rfl, rfl⟩

set_option maxRecDepth 20000 in
set_option maxHeartbeats 400000 in
theorem read_no (pv : Value) (p : ByteArray) (w : World) (h : NoSt pv w) :
    Calls Try.prog 18 #[pv, .string p] w fun e w' => e = .returned (.tuple #[.string ⟨#[]⟩, .int .i64 2]) ∧ w = w' := by
  have HR : Hid (Calls Try.prog 33 #[pv, .string p] w fun e w' => e = .returned (.tuple #[.string ⟨#[]⟩, .int .i64 2]) ∧ w = w') := place_no pv p w h
  have hsh : ∃ a, pv = .pointer a := by
    rcases h with rfl | ⟨b, rfl, _⟩
    · exact ⟨_, rfl⟩
    · exact ⟨_, rfl⟩
  obtain ⟨a, rfl⟩ := hsh
  clear h
  go_enter Try.func18, Try.ntmps18
  go_wp2_with fail
  refine HR.out.mono ?_
  rintro e w' ⟨rfl, rfl⟩
  go_wp2
  go_ret2
  exact ⟨rfl, rfl⟩

set_option maxRecDepth 20000 in
set_option maxHeartbeats 400000 in
theorem stat_no (pv : Value) (p : ByteArray) (w : World) (h : NoSt pv w) :
    Calls Try.prog 20 #[pv, .string p] w fun e w' => e = .returned (.tuple #[.int .i64 0, .bool false, .int .i64 2]) ∧ w = w' := by
  have HR : Hid (Calls Try.prog 33 #[pv, .string p] w fun e w' => e = .returned (.tuple #[.string ⟨#[]⟩, .int .i64 2]) ∧ w = w') := place_no pv p w h
  have hsh : ∃ a, pv = .pointer a := by
    rcases h with rfl | ⟨b, rfl, _⟩
    · exact ⟨_, rfl⟩
    · exact ⟨_, rfl⟩
  obtain ⟨a, rfl⟩ := hsh
  clear h
  go_enter Try.func20, Try.ntmps20
  go_wp2_with fail
  refine HR.out.mono ?_
  rintro e w' ⟨rfl, rfl⟩
  go_wp2
  go_ret3
  exact ⟨rfl, rfl⟩

set_option maxRecDepth 20000 in
set_option maxHeartbeats 400000 in
theorem list_no (pv : Value) (p : ByteArray) (w : World) (h : NoSt pv w) :
    Calls Try.prog 22 #[pv, .string p] w fun e w' => e = .returned (.tuple #[.slice none 0 0, .int .i64 2]) ∧ w = w' := by
  have HR : Hid (Calls Try.prog 33 #[pv, .string p] w fun e w' => e = .returned (.tuple #[.string ⟨#[]⟩, .int .i64 2]) ∧ w = w') := place_no pv p w h
  have hsh : ∃ a, pv = .pointer a := by
    rcases h with rfl | ⟨b, rfl, _⟩
    · exact ⟨_, rfl⟩
    · exact ⟨_, rfl⟩
  obtain ⟨a, rfl⟩ := hsh
  clear h
  go_enter Try.func22, Try.ntmps22
  go_wp2_with fail
  refine HR.out.mono ?_
  rintro e w' ⟨rfl, rfl⟩
  go_wp2
  go_ret2
  exact ⟨rfl, rfl⟩

set_option maxRecDepth 20000 in
set_option maxHeartbeats 400000 in
theorem later_no (pv : Value) (n : Int) (w : World) (h : NoSt pv w) :
    Calls Try.prog 23 #[pv, .int .i64 n] w fun e w' => e = .returned (.tuple #[]) ∧ w = w' := by
  have HR : Hid (Calls Try.prog 29 #[pv] w fun e w' => e = .returned (.bool false) ∧ w = w') := ready_no pv w h
  have hsh : ∃ a, pv = .pointer a := by
    rcases h with rfl | ⟨b, rfl, _⟩
    · exact ⟨_, rfl⟩
    · exact ⟨_, rfl⟩
  obtain ⟨a, rfl⟩ := hsh
  clear h
  go_enter Try.func23, Try.ntmps23
  go_wp2_with fail
  refine HR.out.mono ?_
  rintro e w' ⟨rfl, rfl⟩
  go_wp2
  refine bodyPost_ret (results_none rfl _ _ _) rfl ?_
  exact ⟨rfl, rfl⟩

set_option maxRecDepth 20000 in
set_option maxHeartbeats 400000 in
theorem write_no (pv : Value) (p x : ByteArray) (w : World) (h : NoSt pv w) :
    Calls Try.prog 13 #[pv, .string p, .string x] w fun e w' => e = .returned (.int .i64 2) ∧ w = w' := by
  have HR : Hid (Calls Try.prog 33 #[pv, .string p] w fun e w' => e = .returned (.tuple #[.string ⟨#[]⟩, .int .i64 2]) ∧ w = w') := place_no pv p w h
  have hsh : ∃ a, pv = .pointer a := by
    rcases h with rfl | ⟨b, rfl, _⟩
    · exact ⟨_, rfl⟩
    · exact ⟨_, rfl⟩
  obtain ⟨a, rfl⟩ := hsh
  clear h
  go_enter Try.func13, Try.ntmps13
  go_wp2_with fail
  refine HR.out.mono ?_
  rintro e w' ⟨rfl, rfl⟩
  go_wp2
  go_ret
  exact ⟨rfl, rfl⟩

set_option maxRecDepth 20000 in
set_option maxHeartbeats 400000 in
theorem append_no (pv : Value) (p x : ByteArray) (w : World) (h : NoSt pv w) :
    Calls Try.prog 24 #[pv, .string p, .string x] w fun e w' => e = .returned (.int .i64 2) ∧ w = w' := by
  have HR : Hid (Calls Try.prog 33 #[pv, .string p] w fun e w' => e = .returned (.tuple #[.string ⟨#[]⟩, .int .i64 2]) ∧ w = w') := place_no pv p w h
  have hsh : ∃ a, pv = .pointer a := by
    rcases h with rfl | ⟨b, rfl, _⟩
    · exact ⟨_, rfl⟩
    · exact ⟨_, rfl⟩
  obtain ⟨a, rfl⟩ := hsh
  clear h
  go_enter Try.func24, Try.ntmps24
  go_wp2_with fail
  refine HR.out.mono ?_
  rintro e w' ⟨rfl, rfl⟩
  go_wp2
  go_ret
  exact ⟨rfl, rfl⟩

set_option maxRecDepth 20000 in
set_option maxHeartbeats 400000 in
theorem remove_no (pv : Value) (p : ByteArray) (w : World) (h : NoSt pv w) :
    Calls Try.prog 25 #[pv, .string p] w fun e w' => e = .returned (.int .i64 2) ∧ w = w' := by
  have HR : Hid (Calls Try.prog 33 #[pv, .string p] w fun e w' => e = .returned (.tuple #[.string ⟨#[]⟩, .int .i64 2]) ∧ w = w') := place_no pv p w h
  have hsh : ∃ a, pv = .pointer a := by
    rcases h with rfl | ⟨b, rfl, _⟩
    · exact ⟨_, rfl⟩
    · exact ⟨_, rfl⟩
  obtain ⟨a, rfl⟩ := hsh
  clear h
  go_enter Try.func25, Try.ntmps25
  go_wp2_with fail
  refine HR.out.mono ?_
  rintro e w' ⟨rfl, rfl⟩
  go_wp2
  go_ret
  exact ⟨rfl, rfl⟩

set_option maxRecDepth 20000 in
set_option maxHeartbeats 400000 in
theorem move_no (pv : Value) (p x : ByteArray) (w : World) (h : NoSt pv w) :
    Calls Try.prog 26 #[pv, .string p, .string x] w fun e w' => e = .returned (.int .i64 2) ∧ w = w' := by
  have HR : Hid (Calls Try.prog 33 #[pv, .string p] w fun e w' => e = .returned (.tuple #[.string ⟨#[]⟩, .int .i64 2]) ∧ w = w') := place_no pv p w h
  have hsh : ∃ a, pv = .pointer a := by
    rcases h with rfl | ⟨b, rfl, _⟩
    · exact ⟨_, rfl⟩
    · exact ⟨_, rfl⟩
  obtain ⟨a, rfl⟩ := hsh
  clear h
  go_enter Try.func26, Try.ntmps26
  go_wp2_with fail
  refine HR.out.mono ?_
  rintro e w' ⟨rfl, rfl⟩
  go_wp2
  go_ret
  exact ⟨rfl, rfl⟩

set_option maxRecDepth 20000 in
set_option maxHeartbeats 400000 in
theorem mkdir_no (pv : Value) (p : ByteArray) (w : World) (h : NoSt pv w) :
    Calls Try.prog 27 #[pv, .string p] w fun e w' => e = .returned (.int .i64 2) ∧ w = w' := by
  have HR : Hid (Calls Try.prog 33 #[pv, .string p] w fun e w' => e = .returned (.tuple #[.string ⟨#[]⟩, .int .i64 2]) ∧ w = w') := place_no pv p w h
  have hsh : ∃ a, pv = .pointer a := by
    rcases h with rfl | ⟨b, rfl, _⟩
    · exact ⟨_, rfl⟩
    · exact ⟨_, rfl⟩
  obtain ⟨a, rfl⟩ := hsh
  clear h
  go_enter Try.func27, Try.ntmps27
  go_wp2_with fail
  refine HR.out.mono ?_
  rintro e w' ⟨rfl, rfl⟩
  go_wp2
  go_ret
  exact ⟨rfl, rfl⟩

set_option maxRecDepth 20000 in
set_option maxHeartbeats 400000 in
theorem touch_no (pv : Value) (p : ByteArray) (w : World) (h : NoSt pv w) :
    Calls Try.prog 28 #[pv, .string p] w fun e w' => e = .returned (.int .i64 2) ∧ w = w' := by
  have HR : Hid (Calls Try.prog 33 #[pv, .string p] w fun e w' => e = .returned (.tuple #[.string ⟨#[]⟩, .int .i64 2]) ∧ w = w') := place_no pv p w h
  have hsh : ∃ a, pv = .pointer a := by
    rcases h with rfl | ⟨b, rfl, _⟩
    · exact ⟨_, rfl⟩
    · exact ⟨_, rfl⟩
  obtain ⟨a, rfl⟩ := hsh
  clear h
  go_enter Try.func28, Try.ntmps28
  go_wp2_with fail
  refine HR.out.mono ?_
  rintro e w' ⟨rfl, rfl⟩
  go_wp2
  go_ret
  exact ⟨rfl, rfl⟩

set_option maxRecDepth 20000 in
set_option maxHeartbeats 400000 in
theorem all_no (pv : Value) (w : World) (h : NoSt pv w) :
    Calls Try.prog 15 #[pv] w fun e w' => e = .returned (.slice none 0 0) ∧ w = w' := by
  have HR : Hid (Calls Try.prog 29 #[pv] w fun e w' => e = .returned (.bool false) ∧ w = w') := ready_no pv w h
  have hsh : ∃ a, pv = .pointer a := by
    rcases h with rfl | ⟨b, rfl, _⟩
    · exact ⟨_, rfl⟩
    · exact ⟨_, rfl⟩
  obtain ⟨a, rfl⟩ := hsh
  clear h
  go_enter Try.func15, Try.ntmps15
  go_wp2_with fail
  refine HR.out.mono ?_
  rintro e w' ⟨rfl, rfl⟩
  go_wp2
  go_ret
  exact ⟨rfl, rfl⟩

set_option maxRecDepth 20000 in
set_option maxHeartbeats 400000 in
theorem used_no (pv : Value) (w : World) (h : NoSt pv w) :
    Calls Try.prog 17 #[pv] w fun e w' => e = .returned (.int .i64 0) ∧ w = w' := by
  have HR : Hid (Calls Try.prog 29 #[pv] w fun e w' => e = .returned (.bool false) ∧ w = w') := ready_no pv w h
  have hsh : ∃ a, pv = .pointer a := by
    rcases h with rfl | ⟨b, rfl, _⟩
    · exact ⟨_, rfl⟩
    · exact ⟨_, rfl⟩
  obtain ⟨a, rfl⟩ := hsh
  clear h
  go_enter Try.func17, Try.ntmps17
  go_wp2_with fail
  refine HR.out.mono ?_
  rintro e w' ⟨rfl, rfl⟩
  go_wp2
  go_ret
  exact ⟨rfl, rfl⟩

set_option maxRecDepth 20000 in
set_option maxHeartbeats 400000 in
theorem clock_no (pv : Value) (w : World) (h : NoSt pv w) :
    Calls Try.prog 16 #[pv] w fun e w' => e = .returned (.int .i64 0) ∧ w = w' := by
  have HR : Hid (Calls Try.prog 29 #[pv] w fun e w' => e = .returned (.bool false) ∧ w = w') := ready_no pv w h
  have hsh : ∃ a, pv = .pointer a := by
    rcases h with rfl | ⟨b, rfl, _⟩
    · exact ⟨_, rfl⟩
    · exact ⟨_, rfl⟩
  obtain ⟨a, rfl⟩ := hsh
  clear h
  go_enter Try.func16, Try.ntmps16
  go_wp2_with fail
  refine HR.out.mono ?_
  rintro e w' ⟨rfl, rfl⟩
  go_wp2
  go_ret
  exact ⟨rfl, rfl⟩

set_option maxRecDepth 20000 in
set_option maxHeartbeats 400000 in
theorem notes_no (pv : Value) (f : Bool) (w : World) (h : NoSt pv w) :
    Calls Try.prog 21 #[pv, .bool f] w fun e w' => e = .returned (.slice none 0 0) ∧ w = w' := by
  have HR : Hid (Calls Try.prog 29 #[pv] w fun e w' => e = .returned (.bool false) ∧ w = w') := ready_no pv w h
  have hsh : ∃ a, pv = .pointer a := by
    rcases h with rfl | ⟨b, rfl, _⟩
    · exact ⟨_, rfl⟩
    · exact ⟨_, rfl⟩
  obtain ⟨a, rfl⟩ := hsh
  clear h
  go_enter Try.func21, Try.ntmps21
  go_wp2_with fail
  refine HR.out.mono ?_
  rintro e w' ⟨rfl, rfl⟩
  go_wp2
  go_ret
  exact ⟨rfl, rfl⟩

set_option maxRecDepth 20000 in
set_option maxHeartbeats 400000 in
theorem copy_no (pv : Value) (w : World) (h : NoSt pv w) :
    Calls Try.prog 12 #[pv] w fun e w' => e = .returned (.pointer none) ∧ w = w' := by
  have HR : Hid (Calls Try.prog 29 #[pv] w fun e w' => e = .returned (.bool false) ∧ w = w') := ready_no pv w h
  have hsh : ∃ a, pv = .pointer a := by
    rcases h with rfl | ⟨b, rfl, _⟩
    · exact ⟨_, rfl⟩
    · exact ⟨_, rfl⟩
  obtain ⟨a, rfl⟩ := hsh
  clear h
  go_enter Try.func12, Try.ntmps12
  go_wp2_with fail
  refine HR.out.mono ?_
  rintro e w' ⟨rfl, rfl⟩
  go_wp2
  go_ret
  exact ⟨rfl, rfl⟩
end Go.Proofs.Ytoibdokedhbjpaa
