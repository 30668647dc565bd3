/-
  ShelfC M34 M35 M36
-/
import Derived.Shelf.Strings.OnBuilder
import Derived.Shelf.Strconv.Atoi
import Derived.Shelf.Strconv.AtoiErrFast
import Derived.Shelf.Strconv.AtoiFail
import Derived.Shelf.LaysC
import Derived.Shelf.Strconv.AtoiErr
import Derived.Test.YtedepknbaakkhaaGreatDoorProg
import Derived.Test.YtedepknbaakkhaaGreatDoorJ07
import Derived.Shelf.Strings.SlTrimAscii
import Derived.Lib.SmallJoins
set_option maxRecDepth 20000
namespace Go.Proofs
open Go.Shelf
def Tryz.lays156_ren : Go.Shelf.Ren := ⟨fun | 156 => 120 | 165 => 144 | 166 => 145 | 169 => 48 | 240 => 91 | 241 => 184 | 276 => 127 | 277 => 217 | n => n, fun | 31 => 22 | 9 => 9 | 3 => 3 | 4 => 4 | 0 => 0 | 20 => 20 | 72 => 83 | 76 => 157 | 70 => 81 | 37 => 41 | 75 => 86 | 127 => 110 | 164 => 137 | 5 => 5 | 80 => 84 | n => n, fun | n => n⟩
theorem Tryz.lays156 : Go.Proofs.Lays.n156 Tryz.prog Tryz.lays156_ren := {
  mixed := by kernel_rfl
  f156 := Tryz.func120.trans (congrArg some (by kernel_rfl))
  f165 := Tryz.func144.trans (congrArg some (by kernel_rfl))
  f166 := Tryz.func145.trans (congrArg some (by kernel_rfl))
  f169 := Tryz.func48.trans (congrArg some (by kernel_rfl))
  f240 := Tryz.func91.trans (congrArg some (by kernel_rfl))
  f241 := Tryz.func184.trans (congrArg some (by kernel_rfl))
  f276 := Tryz.func127.trans (congrArg some (by kernel_rfl))
  f277 := Tryz.func217.trans (congrArg some (by kernel_rfl))
  t0 := Tryz.underlying0
  a0 := Tryz.isAgg0
  z0 := Tryz.sizeOf0
  v0 := Tryz.zeroValue0
  t3 := Tryz.underlying3
  a3 := Tryz.isAgg3
  z3 := Tryz.sizeOf3
  v3 := Tryz.zeroValue3
  t4 := Tryz.underlying4
  a4 := Tryz.isAgg4
  z4 := Tryz.sizeOf4
  v4 := Tryz.zeroValue4
  t9 := Tryz.underlying9
  a9 := Tryz.isAgg9
  z9 := Tryz.sizeOf9
  v9 := Tryz.zeroValue9
  t20 := Tryz.underlying20
  a20 := Tryz.isAgg20
  z20 := Tryz.sizeOf20
  v20 := Tryz.zeroValue20
  t31 := Tryz.underlying22
  a31 := Tryz.isAgg22
  z31 := Tryz.sizeOf22
  v31 := Tryz.zeroValue22
  t37 := Tryz.underlying41
  a37 := Tryz.isAgg41
  z37 := Tryz.sizeOf41
  v37 := Tryz.zeroValue41
  t70 := Tryz.underlying81
  a70 := Tryz.isAgg81
  z70 := Tryz.sizeOf81
  v70 := Tryz.zeroValue81
  t72 := Tryz.underlying83
  a72 := Tryz.isAgg83
  z72 := Tryz.sizeOf83
  v72 := Tryz.zeroValue83
  t75 := Tryz.underlying86
  a75 := Tryz.isAgg86
  z75 := Tryz.sizeOf86
  v75 := Tryz.zeroValue86
  t76 := Tryz.underlying157
  a76 := Tryz.isAgg157
  z76 := Tryz.sizeOf157
  v76 := Tryz.zeroValue157
  t127 := Tryz.underlying110
  a127 := Tryz.isAgg110
  z127 := Tryz.sizeOf110
  v127 := Tryz.zeroValue110
  t164 := Tryz.underlying137
  a164 := Tryz.isAgg137
  z164 := Tryz.sizeOf137
  v164 := Tryz.zeroValue137 }
theorem Tryz.Builder_Extra_156 : Builder.Extra Tryz.prog Tryz.lays156_ren := {
  sizeBuilder := by kernel_rfl
  liesBuilder := by kernel_rfl
  t5 := Tryz.underlying5
  a5 := Tryz.isAgg5
  z5 := Tryz.sizeOf5
  v5 := Tryz.zeroValue5
  infoByte := by kernel_rfl
  cellsByte := by kernel_rfl
  sizeByte := by kernel_rfl
  neB5 := by decide }
open Go.RowKit in
theorem Tryz.strings_Join_none (a : Option Addr) (c : Nat) (sep : ByteArray) (w : World) :
    Calls Tryz.prog 120 #[.slice a 0 c, .string sep] w fun e w' => e = .returned (.string ⟨#[]⟩) ∧ w' = w := Any.strings_Join_none Tryz.lays156 Tryz.Builder_Extra_156 a c sep w
open Go.RowKit in
theorem Tryz.strings_Join (bk o c : Nat) (xs : List ByteArray) (sep : ByteArray) (w : World) (hcells : ∀ (j : Nat) x, xs[j]? = some x → w.cell? ⟨bk, o + j, none⟩ = some (.string x)) (hbk : bk < w.heap.size) (hN : xs.length ≤ 140737488355328) (hcap : xs.length ≤ c) (hlen : (Lib.join (xs.map (·.data.toList)) sep.data.toList).length ≤ 140737488355328) :
    Calls Tryz.prog 120 #[.slice (some ⟨bk, o, none⟩) xs.length c, .string sep] w fun e w' => e = .returned (.string ⟨(Lib.join (xs.map (·.data.toList)) sep.data.toList).toArray⟩) ∧ Below w.heap.size w w' := Any.strings_Join Tryz.lays156 Tryz.Builder_Extra_156 bk o c xs sep w hcells hbk hN hcap hlen
def Tryz.lays172_ren : Go.Shelf.Ren := ⟨fun | 172 => 133 | 244 => 177 | 245 => 178 | 247 => 206 | 279 => 207 | 280 => 208 | 281 => 209 | 282 => 210 | 287 => 232 | 316 => 233 | 171 => 76 | 205 => 234 | 321 => 245 | 322 => 246 | 243 => 121 | 246 => 164 | 283 => 197 | 284 => 198 | 285 => 199 | 286 => 200 | 129 => 162 | 317 => 223 | 318 => 224 | 319 => 225 | 320 => 226 | 337 => 241 | 338 => 242 | n => n, fun | 9 => 9 | 3 => 3 | 75 => 86 | 76 => 157 | 4 => 4 | 5 => 5 | 167 => 227 | 37 => 41 | 0 => 0 | 85 => 228 | 2 => 2 | 168 => 230 | 53 => 181 | 175 => 255 | 46 => 131 | 210 => 258 | 127 => 110 | 145 => 275 | 143 => 273 | 21 => 21 | 171 => 218 | 173 => 220 | 212 => 250 | 51 => 145 | 20 => 20 | 213 => 251 | 232 => 282 | 233 => 283 | 80 => 84 | n => n, fun | 15 => 4 | 16 => 5 | 17 => 3 | 18 => 6 | 19 => 7 | n => n⟩
theorem Tryz.lays172 : Go.Proofs.Lays.n172 Tryz.prog Tryz.lays172_ren := {
  mixed := by kernel_rfl
  f129 := Tryz.func162.trans (congrArg some (by kernel_rfl))
  f171 := Tryz.func76.trans (congrArg some (by kernel_rfl))
  f172 := Tryz.func133.trans (congrArg some (by kernel_rfl))
  f205 := Tryz.func234.trans (congrArg some (by kernel_rfl))
  f243 := Tryz.func121.trans (congrArg some (by kernel_rfl))
  f244 := Tryz.func177.trans (congrArg some (by kernel_rfl))
  f245 := Tryz.func178.trans (congrArg some (by kernel_rfl))
  f246 := Tryz.func164.trans (congrArg some (by kernel_rfl))
  f247 := Tryz.func206.trans (congrArg some (by kernel_rfl))
  f279 := Tryz.func207.trans (congrArg some (by kernel_rfl))
  f280 := Tryz.func208.trans (congrArg some (by kernel_rfl))
  f281 := Tryz.func209.trans (congrArg some (by kernel_rfl))
  f282 := Tryz.func210.trans (congrArg some (by kernel_rfl))
  f283 := Tryz.func197.trans (congrArg some (by kernel_rfl))
  f284 := Tryz.func198.trans (congrArg some (by kernel_rfl))
  f285 := Tryz.func199.trans (congrArg some (by kernel_rfl))
  f286 := Tryz.func200.trans (congrArg some (by kernel_rfl))
  f287 := Tryz.func232.trans (congrArg some (by kernel_rfl))
  f316 := Tryz.func233.trans (congrArg some (by kernel_rfl))
  f317 := Tryz.func223.trans (congrArg some (by kernel_rfl))
  f318 := Tryz.func224.trans (congrArg some (by kernel_rfl))
  f319 := Tryz.func225.trans (congrArg some (by kernel_rfl))
  f320 := Tryz.func226.trans (congrArg some (by kernel_rfl))
  f321 := Tryz.func245.trans (congrArg some (by kernel_rfl))
  f322 := Tryz.func246.trans (congrArg some (by kernel_rfl))
  f337 := Tryz.func241.trans (congrArg some (by kernel_rfl))
  f338 := Tryz.func242.trans (congrArg some (by kernel_rfl))
  t0 := Tryz.underlying0
  a0 := Tryz.isAgg0
  z0 := Tryz.sizeOf0
  v0 := Tryz.zeroValue0
  t2 := Tryz.underlying2
  a2 := Tryz.isAgg2
  z2 := Tryz.sizeOf2
  v2 := Tryz.zeroValue2
  t3 := Tryz.underlying3
  a3 := Tryz.isAgg3
  z3 := Tryz.sizeOf3
  v3 := Tryz.zeroValue3
  t4 := Tryz.underlying4
  a4 := Tryz.isAgg4
  z4 := Tryz.sizeOf4
  v4 := Tryz.zeroValue4
  t5 := Tryz.underlying5
  a5 := Tryz.isAgg5
  z5 := Tryz.sizeOf5
  v5 := Tryz.zeroValue5
  t9 := Tryz.underlying9
  a9 := Tryz.isAgg9
  z9 := Tryz.sizeOf9
  v9 := Tryz.zeroValue9
  t20 := Tryz.underlying20
  a20 := Tryz.isAgg20
  z20 := Tryz.sizeOf20
  v20 := Tryz.zeroValue20
  t21 := Tryz.underlying21
  a21 := Tryz.isAgg21
  z21 := Tryz.sizeOf21
  v21 := Tryz.zeroValue21
  t37 := Tryz.underlying41
  a37 := Tryz.isAgg41
  z37 := Tryz.sizeOf41
  v37 := Tryz.zeroValue41
  t46 := Tryz.underlying131
  a46 := Tryz.isAgg131
  z46 := Tryz.sizeOf131
  v46 := Tryz.zeroValue131
  t51 := Tryz.underlying145
  a51 := Tryz.isAgg145
  z51 := Tryz.sizeOf145
  v51 := Tryz.zeroValue145
  t53 := Tryz.underlying181
  a53 := Tryz.isAgg181
  z53 := Tryz.sizeOf181
  v53 := Tryz.zeroValue181
  t75 := Tryz.underlying86
  a75 := Tryz.isAgg86
  z75 := Tryz.sizeOf86
  v75 := Tryz.zeroValue86
  t76 := Tryz.underlying157
  a76 := Tryz.isAgg157
  z76 := Tryz.sizeOf157
  v76 := Tryz.zeroValue157
  t85 := Tryz.underlying228
  a85 := Tryz.isAgg228
  z85 := Tryz.sizeOf228
  v85 := Tryz.zeroValue228
  t127 := Tryz.underlying110
  a127 := Tryz.isAgg110
  z127 := Tryz.sizeOf110
  v127 := Tryz.zeroValue110
  t143 := Tryz.underlying273
  a143 := Tryz.isAgg273
  z143 := Tryz.sizeOf273
  v143 := Tryz.zeroValue273
  t145 := Tryz.underlying275
  a145 := Tryz.isAgg275
  z145 := Tryz.sizeOf275
  v145 := Tryz.zeroValue275
  t167 := Tryz.underlying227
  a167 := Tryz.isAgg227
  z167 := Tryz.sizeOf227
  v167 := Tryz.zeroValue227
  t168 := Tryz.underlying230
  a168 := Tryz.isAgg230
  z168 := Tryz.sizeOf230
  v168 := Tryz.zeroValue230
  t171 := Tryz.underlying218
  a171 := Tryz.isAgg218
  z171 := Tryz.sizeOf218
  v171 := Tryz.zeroValue218
  t173 := Tryz.underlying220
  a173 := Tryz.isAgg220
  z173 := Tryz.sizeOf220
  v173 := Tryz.zeroValue220
  t175 := Tryz.underlying255
  a175 := Tryz.isAgg255
  z175 := Tryz.sizeOf255
  v175 := Tryz.zeroValue255
  t210 := Tryz.underlying258
  a210 := Tryz.isAgg258
  z210 := Tryz.sizeOf258
  v210 := Tryz.zeroValue258
  t212 := Tryz.underlying250
  a212 := Tryz.isAgg250
  z212 := Tryz.sizeOf250
  v212 := Tryz.zeroValue250
  t213 := Tryz.underlying251
  a213 := Tryz.isAgg251
  z213 := Tryz.sizeOf251
  t232 := Tryz.underlying282
  a232 := Tryz.isAgg282
  z232 := Tryz.sizeOf282
  v232 := Tryz.zeroValue282
  t233 := Tryz.underlying283
  a233 := Tryz.isAgg283
  z233 := Tryz.sizeOf283
  v233 := Tryz.zeroValue283
  g15 := by kernel_rfl
  g16 := by kernel_rfl
  g17 := by kernel_rfl
  g18 := by kernel_rfl
  g19 := by kernel_rfl }
open Go.RowKit in
theorem Tryz.strconv_Atoi (s : ByteArray) (n : Int) (hl : s.size ≤ 18) (h : Lib.atoi s.data.toList = some n) (w : World) :
    Calls Tryz.prog 133 #[.string s] w fun e w' => e = .returned (.tuple #[.int .i64 n, .nilIface]) ∧ ∃ t, w' = Lib.bytesWorld w 5 t := Any.strconv_Atoi Tryz.lays172 s n hl h w
def Tryz.laysC172_ren : Go.Shelf.Ren := ⟨fun | 172 => 133 | 244 => 177 | 245 => 178 | 247 => 206 | 279 => 207 | 280 => 208 | 281 => 209 | 282 => 210 | 287 => 232 | 316 => 233 | 171 => 76 | 205 => 234 | 321 => 245 | 322 => 246 | 243 => 121 | 246 => 164 | 283 => 197 | 284 => 198 | 285 => 199 | 286 => 200 | 129 => 162 | 317 => 223 | 318 => 224 | 319 => 225 | 320 => 226 | 337 => 241 | 338 => 242 | n => n, fun | 9 => 9 | 3 => 3 | 75 => 86 | 76 => 157 | 4 => 4 | 5 => 5 | 167 => 227 | 37 => 41 | 0 => 0 | 85 => 228 | 2 => 2 | 168 => 230 | 53 => 181 | 175 => 255 | 46 => 131 | 210 => 258 | 127 => 110 | 145 => 275 | 143 => 273 | 21 => 21 | 171 => 218 | 173 => 220 | 212 => 250 | 51 => 145 | 20 => 20 | 213 => 251 | 232 => 282 | 233 => 283 | 80 => 84 | n => n, fun | 15 => 4 | 16 => 5 | 17 => 3 | 18 => 6 | 19 => 7 | n => n⟩
theorem Tryz.laysC172 : Go.Proofs.LaysC.n172 Tryz.prog Tryz.laysC172_ren := {
  mixed := by kernel_rfl
  f129 := Tryz.func162.trans (congrArg some (by kernel_rfl))
  f171 := Tryz.func76.trans (congrArg some (by kernel_rfl))
  f172 := Tryz.func133.trans (congrArg some (by kernel_rfl))
  f205 := Tryz.func234.trans (congrArg some (by kernel_rfl))
  f243 := Tryz.func121.trans (congrArg some (by kernel_rfl))
  f244 := Tryz.func177.trans (congrArg some (by kernel_rfl))
  f245 := Tryz.func178.trans (congrArg some (by kernel_rfl))
  f246 := Tryz.func164.trans (congrArg some (by kernel_rfl))
  f247 := Tryz.func206.trans (congrArg some (by kernel_rfl))
  f279 := Tryz.func207.trans (congrArg some (by kernel_rfl))
  f280 := Tryz.func208.trans (congrArg some (by kernel_rfl))
  f281 := Tryz.func209.trans (congrArg some (by kernel_rfl))
  f282 := Tryz.func210.trans (congrArg some (by kernel_rfl))
  f283 := Tryz.func197.trans (congrArg some (by kernel_rfl))
  f284 := Tryz.func198.trans (congrArg some (by kernel_rfl))
  f285 := Tryz.func199.trans (congrArg some (by kernel_rfl))
  f286 := Tryz.func200.trans (congrArg some (by kernel_rfl))
  f287 := Tryz.func232.trans (congrArg some (by kernel_rfl))
  f316 := Tryz.func233.trans (congrArg some (by kernel_rfl))
  f317 := Tryz.func223.trans (congrArg some (by kernel_rfl))
  f318 := Tryz.func224.trans (congrArg some (by kernel_rfl))
  f319 := Tryz.func225.trans (congrArg some (by kernel_rfl))
  f320 := Tryz.func226.trans (congrArg some (by kernel_rfl))
  f321 := Tryz.func245.trans (congrArg some (by kernel_rfl))
  f322 := Tryz.func246.trans (congrArg some (by kernel_rfl))
  f337 := Tryz.func241.trans (congrArg some (by kernel_rfl))
  f338 := Tryz.func242.trans (congrArg some (by kernel_rfl))
  t0 := Tryz.underlying0
  a0 := Tryz.isAgg0
  z0 := Tryz.sizeOf0
  v0 := Tryz.zeroValue0
  t2 := Tryz.underlying2
  a2 := Tryz.isAgg2
  z2 := Tryz.sizeOf2
  v2 := Tryz.zeroValue2
  t3 := Tryz.underlying3
  a3 := Tryz.isAgg3
  z3 := Tryz.sizeOf3
  v3 := Tryz.zeroValue3
  t4 := Tryz.underlying4
  a4 := Tryz.isAgg4
  z4 := Tryz.sizeOf4
  v4 := Tryz.zeroValue4
  t5 := Tryz.underlying5
  a5 := Tryz.isAgg5
  z5 := Tryz.sizeOf5
  v5 := Tryz.zeroValue5
  t9 := Tryz.underlying9
  a9 := Tryz.isAgg9
  z9 := Tryz.sizeOf9
  v9 := Tryz.zeroValue9
  t20 := Tryz.underlying20
  a20 := Tryz.isAgg20
  z20 := Tryz.sizeOf20
  v20 := Tryz.zeroValue20
  t21 := Tryz.underlying21
  a21 := Tryz.isAgg21
  z21 := Tryz.sizeOf21
  v21 := Tryz.zeroValue21
  t37 := Tryz.underlying41
  a37 := Tryz.isAgg41
  z37 := Tryz.sizeOf41
  v37 := Tryz.zeroValue41
  t46 := Tryz.underlying131
  a46 := Tryz.isAgg131
  z46 := Tryz.sizeOf131
  v46 := Tryz.zeroValue131
  t51 := Tryz.underlying145
  a51 := Tryz.isAgg145
  z51 := Tryz.sizeOf145
  v51 := Tryz.zeroValue145
  t53 := Tryz.underlying181
  a53 := Tryz.isAgg181
  z53 := Tryz.sizeOf181
  v53 := Tryz.zeroValue181
  t75 := Tryz.underlying86
  a75 := Tryz.isAgg86
  z75 := Tryz.sizeOf86
  v75 := Tryz.zeroValue86
  t76 := Tryz.underlying157
  a76 := Tryz.isAgg157
  z76 := Tryz.sizeOf157
  v76 := Tryz.zeroValue157
  t85 := Tryz.underlying228
  a85 := Tryz.isAgg228
  z85 := Tryz.sizeOf228
  v85 := Tryz.zeroValue228
  t127 := Tryz.underlying110
  a127 := Tryz.isAgg110
  z127 := Tryz.sizeOf110
  v127 := Tryz.zeroValue110
  t143 := Tryz.underlying273
  a143 := Tryz.isAgg273
  z143 := Tryz.sizeOf273
  v143 := Tryz.zeroValue273
  t145 := Tryz.underlying275
  a145 := Tryz.isAgg275
  z145 := Tryz.sizeOf275
  v145 := Tryz.zeroValue275
  t167 := Tryz.underlying227
  a167 := Tryz.isAgg227
  z167 := Tryz.sizeOf227
  v167 := Tryz.zeroValue227
  t168 := Tryz.underlying230
  a168 := Tryz.isAgg230
  z168 := Tryz.sizeOf230
  v168 := Tryz.zeroValue230
  t171 := Tryz.underlying218
  a171 := Tryz.isAgg218
  z171 := Tryz.sizeOf218
  v171 := Tryz.zeroValue218
  t173 := Tryz.underlying220
  a173 := Tryz.isAgg220
  z173 := Tryz.sizeOf220
  v173 := Tryz.zeroValue220
  t175 := Tryz.underlying255
  a175 := Tryz.isAgg255
  z175 := Tryz.sizeOf255
  v175 := Tryz.zeroValue255
  t210 := Tryz.underlying258
  a210 := Tryz.isAgg258
  z210 := Tryz.sizeOf258
  v210 := Tryz.zeroValue258
  t212 := Tryz.underlying250
  a212 := Tryz.isAgg250
  z212 := Tryz.sizeOf250
  v212 := Tryz.zeroValue250
  t213 := Tryz.underlying251
  a213 := Tryz.isAgg251
  z213 := Tryz.sizeOf251
  t232 := Tryz.underlying282
  a232 := Tryz.isAgg282
  z232 := Tryz.sizeOf282
  v232 := Tryz.zeroValue282
  t233 := Tryz.underlying283
  a233 := Tryz.isAgg283
  z233 := Tryz.sizeOf283
  v233 := Tryz.zeroValue283
  g15 := by kernel_rfl
  g16 := by kernel_rfl
  g17 := by kernel_rfl
  g18 := by kernel_rfl
  g19 := by kernel_rfl
  t80 := Tryz.underlying84
  a80 := Tryz.isAgg84
  z80 := Tryz.sizeOf84
  v80 := Tryz.zeroValue84
  i0 := by kernel_rfl
  i2 := by kernel_rfl
  i3 := by kernel_rfl
  i4 := by kernel_rfl
  i5 := by kernel_rfl
  i9 := by kernel_rfl
  i20 := by kernel_rfl
  i21 := by kernel_rfl
  i37 := by kernel_rfl
  i46 := by kernel_rfl
  i51 := by kernel_rfl
  i53 := by kernel_rfl
  i75 := by kernel_rfl
  i76 := by kernel_rfl
  i80 := by kernel_rfl
  i85 := by kernel_rfl
  i127 := by kernel_rfl
  i143 := by kernel_rfl
  i145 := by kernel_rfl
  i167 := by kernel_rfl
  i168 := by kernel_rfl
  i171 := by kernel_rfl
  i173 := by kernel_rfl
  i175 := by kernel_rfl
  i210 := by kernel_rfl
  i212 := by kernel_rfl
  i232 := by kernel_rfl
  i233 := by kernel_rfl
  m15 := by kernel_rfl
  m16 := by kernel_rfl
  m17 := by kernel_rfl
  m18 := by kernel_rfl
  m19 := by kernel_rfl
  c0 := by kernel_rfl
  c2 := by kernel_rfl
  c3 := by kernel_rfl
  c4 := by kernel_rfl
  c5 := by kernel_rfl
  c9 := by kernel_rfl
  c20 := by kernel_rfl
  c21 := by kernel_rfl
  c37 := by kernel_rfl
  c46 := by kernel_rfl
  c51 := by kernel_rfl
  c53 := by kernel_rfl
  c75 := by kernel_rfl
  c76 := by kernel_rfl
  c80 := by kernel_rfl
  c85 := by kernel_rfl
  c127 := by kernel_rfl
  c143 := by kernel_rfl
  c145 := by kernel_rfl
  c167 := by kernel_rfl
  c168 := by kernel_rfl
  c171 := by kernel_rfl
  c173 := by kernel_rfl
  c175 := by kernel_rfl
  c210 := by kernel_rfl
  c212 := by kernel_rfl
  c213 := by kernel_rfl
  c232 := by kernel_rfl
  c233 := by kernel_rfl }
open Go.RowKit in
theorem Tryz.strconv_Atoi_err (s : ByteArray) (hl : s.size ≤ 18) (h : Lib.atoi s.data.toList = none) (ev : Value) (w : World) (hv : w.cell? ⟨4, 0, none⟩ = some ev) (hev : ev = .nilIface ∨ ∃ te pe, ev = .iface te pe) :
    Calls Tryz.prog 133 #[.string s] w fun e w' => ∃ N, e = .returned (.tuple #[.int .i64 0, .iface 230 (.pointer (some ⟨N, 0, none⟩))]) ∧ w.heap.size ≤ N ∧ w'.heap[N]? = some (.cells #[.string ⟨#[65, 116, 111, 105]⟩, .string s, ev] 258 (0, 0)) ∧ Below w.heap.size w w' := Any.strconv_Atoi_err Tryz.laysC172 s hl h ev w hv hev
end Go.Proofs
namespace Go.Proofs.YtedepknbaakkhaaGreatDoor
open Go.RowKit Go.Shelf
def Ey (W : World) : Prop := ∃ ev, W.cell? ⟨4, 0, none⟩ = some ev ∧ (ev = .nilIface ∨ ∃ te pe, ev = .iface te pe)
theorem Ey.pos {w : World} (h : Ey w) : 4 < w.heap.size := by
  obtain ⟨m, hm, _⟩ := h
  unfold World.cell? at hm
  cases hb : w.heap[(4 : Nat)]? with
  | none => rw [hb] at hm; simp at hm
  | some o => exact (Array.getElem?_eq_some_iff.1 hb).1
theorem Ey.below {w w' : World} {B : Nat} (h : Ey w) (hb : Below B w w') (hB : 4 < B) : Ey w' := by
  obtain ⟨m, hm, h2⟩ := h
  exact ⟨m, (hb.cell (p := ⟨4, 0, none⟩) hB).trans hm, h2⟩
def digs : List UInt8 := [48, 49, 50, 51, 52, 53, 54, 55, 56, 57]
def numO (l : List UInt8) : Option Int := if 6 < (Lib.trimPrefix l [45]).length ∨ Lib.trimS (Lib.trimPrefix l [45]) digs ≠ [] then none else Lib.atoi l
theorem trimPrefix_len (l : List UInt8) : l.length ≤ (Lib.trimPrefix l [45]).length + 1 := by
  unfold Lib.trimPrefix
  split
  · simp; omega
  · omega
theorem trim_any (s : ByteArray) (w : World) (hs : s.size ≤ 1000000) : Calls Tryz.prog 132 #[.string s, .string ⟨#[48, 49, 50, 51, 52, 53, 54, 55, 56, 57]⟩] w fun e w' => e = .returned (.string (ba (Lib.trimS (bl s) digs))) ∧ Below w.heap.size w w' :=
  Any.strings_Trim_laid Tryz.lays160 (by kernel_rfl) s ⟨#[48, 49, 50, 51, 52, 53, 54, 55, 56, 57]⟩ w (by omega) (by decide) (ascii_of_all (by decide))
set_option maxHeartbeats 800000 in
theorem number_any (s : ByteArray) (w : World) (hs : s.size ≤ 1000000) (hE : Ey w) : Calls Tryz.prog 95 #[.string s] w fun e w' => (∃ n : Int, e = .returned (.tuple #[.int .i64 n, .bool (numO (bl s)).isSome]) ∧ ∀ k, numO (bl s) = some k → n = k) ∧ Below w.heap.size w w' := by
  obtain ⟨t, ht⟩ : ∃ t, t = ba (Lib.trimPrefix (bl s) [45]) := ⟨_, rfl⟩
  have htl : bl t = Lib.trimPrefix (bl s) [45] := by rw [ht, bl_ba]
  have htz : t.size = (Lib.trimPrefix (bl s) [45]).length := by rw [← htl, bl_length]
  have hsl := trimPrefix_len (bl s)
  rw [bl_length] at hsl
  have HP : Hid (∀ W, Calls Tryz.prog 131 #[.string s, .string ⟨#[45]⟩] W fun e w' => e = .returned (.string t) ∧ w' = W) := fun W => by
    rw [ht]; exact Tryz.strings_TrimPrefix s ⟨#[45]⟩ W
  by_cases h6 : 6 < t.size
  · have hn : numO (bl s) = none := by unfold numO; rw [if_pos (.inl (by omega))]
    rw [hn]
    have h6i : (6 : Int) < (t.size : Int) := by omega
    clear hE htl htz hsl ht hn
    go_enter Tryz.func95, Tryz.ntmps95
    go_wp2_with fail
    refine (HP.out _).mono ?_
    rintro e w' ⟨rfl, rfl⟩
    go_wp2
    go_ret2
    exact ⟨⟨0, rfl, fun k h => by cases h⟩, Below.refl _ _⟩
  · have h6i : ¬ (6 : Int) < (t.size : Int) := by omega
    obtain ⟨u, hu⟩ : ∃ u, u = ba (Lib.trimS (bl t) digs) := ⟨_, rfl⟩
    have HT : Hid (∀ W, Calls Tryz.prog 132 #[.string t, .string ⟨#[48, 49, 50, 51, 52, 53, 54, 55, 56, 57]⟩] W fun e w' => e = .returned (.string u) ∧ Below W.heap.size W w') := fun W => by
      rw [hu]; exact trim_any t W (by omega)
    by_cases hue : u = E
    · have hn : numO (bl s) = Lib.atoi (bl s) := by
        unfold numO
        rw [if_neg]
        rintro (h | h)
        · omega
        · rw [← htl] at h; apply h
          have := congrArg bl hu; rw [bl_ba, hue] at this; exact this.symm
      rw [hn]
      subst hue
      have hs18 : s.size ≤ 18 := by omega
      have HEy : Hid (∀ W, Below w.heap.size w W → Ey W) := fun W hB => hE.below hB hE.pos
      clear hE htl htz hsl ht hn hu
      cases ha : Lib.atoi (bl s) with
      | some n =>
        have HA : Hid (∀ W, Calls Tryz.prog 133 #[.string s] W fun e w' => e = .returned (.tuple #[.int .i64 n, .nilIface]) ∧ Below W.heap.size W w') := fun W => by
          refine (Tryz.strconv_Atoi s n hs18 ha W).mono ?_
          rintro e w' ⟨rfl, t, rfl⟩
          exact ⟨rfl, Go.Joins.below_bytesWorld _ _ _ _ (Nat.le_refl _)⟩
        clear ha
        go_enter Tryz.func95, Tryz.ntmps95
        go_wp2_with fail
        refine (HP.out _).mono ?_
        rintro e w' ⟨rfl, rfl⟩
        go_wp2_with fail
        refine (HT.out _).mono ?_
        rintro e w1 ⟨rfl, hb1⟩
        go_wp2_with fail
        refine (HA.out _).mono ?_
        rintro e w2 ⟨rfl, hb2⟩
        have HB : Hid (Below w'.heap.size w' w2) := hb1.trans (hb2.mono hb1.size)
        clear hb1 hb2
        go_wp2_with fail
        go_quiet (fail)
        go_wp2
        go_ret2
        exact ⟨⟨n, rfl, fun k h => by cases h; rfl⟩, by first | exact HB.out | exact below_drewN HB.out _⟩
      | none =>
        have HA : Hid (∀ W, Ey W → Calls Tryz.prog 133 #[.string s] W fun e w' => ∃ N : Nat, e = .returned (.tuple #[.int .i64 0, .iface 230 (.pointer (some ⟨N, 0, none⟩))]) ∧ Below W.heap.size W w') := fun W hW => by
          obtain ⟨ev, h1, h2⟩ := hW
          refine (Tryz.strconv_Atoi_err s hs18 ha ev W h1 h2).mono ?_
          rintro e w' ⟨N, rfl, _, _, hb⟩
          exact ⟨N, rfl, hb⟩
        have heq : ∀ (N : Nat) (W : World), Sem.run Tryz.prog (binOp .eql 86 (.iface 230 (.pointer (some ⟨N, 0, none⟩))) .nilIface) W = .ok (.bool false) W := fun N W => by kernel_rfl
        clear ha
        go_enter Tryz.func95, Tryz.ntmps95
        go_wp2_with fail
        refine (HP.out _).mono ?_
        rintro e w' ⟨rfl, rfl⟩
        go_wp2_with fail
        refine (HT.out _).mono ?_
        rintro e w1 ⟨rfl, hb1⟩
        have HB1 : Hid (Below w'.heap.size w' w1) := hb1
        clear hb1
        go_wp2_with fail
        refine (HA.out _ (HEy.out _ HB1.out)).mono ?_
        rintro e w2 ⟨N, rfl, hb2⟩
        have HB : Hid (Below w'.heap.size w' w2) := HB1.out.trans (hb2.mono HB1.out.size)
        clear hb2
        go_wp2_with fail
        go_quiet (fail)
        go_wp2
        go_ret2
        exact ⟨⟨0, rfl, fun k h => by cases h⟩, by first | exact HB.out | exact below_drewN HB.out _⟩
    · have hn : numO (bl s) = none := by
        unfold numO
        refine if_pos (.inr fun h => ?_)
        rw [← htl] at h
        apply hue
        rw [hu, h]; rfl
      rw [hn]
      have t1 : ¬ u.toList = [] := by rw [Lib.toList_data]; exact fun e => hue (bl_inj e)
      have t2 : u.toList.isEmpty = false := by cases hh : u.toList with | nil => exact absurd hh t1 | cons => rfl
      clear hE htl htz hsl ht hn hu hue
      go_enter Tryz.func95, Tryz.ntmps95
      go_wp2_with fail
      refine (HP.out _).mono ?_
      rintro e w' ⟨rfl, rfl⟩
      go_wp2_with fail
      refine (HT.out _).mono ?_
      rintro e w1 ⟨rfl, hb1⟩
      have HB1 : Hid (Below w'.heap.size w' w1) := hb1
      clear hb1
      go_wp2
      go_ret2
      exact ⟨⟨0, rfl, fun k h => by cases h⟩, HB1.out⟩
end Go.Proofs.YtedepknbaakkhaaGreatDoor
namespace Go.Proofs.YtedepknbaakkhaaGreatDoor
open Go.RowKit Go.Shelf
def choO (x : List UInt8) : Option Md := if x = [35] ∨ x = [42] then some { kind := ba x } else
  match numO (Lib.cut x [46, 46]).1, numO (if (Lib.cut x [46, 46]).2.2 = true then (Lib.cut x [46, 46]).2.1 else (Lib.cut x [46, 46]).1) with
  | some a, some b => some { kind := ⟨#[91]⟩, frm := a, upto := b }
  | _, _ => none
theorem choO_plain {x : ByteArray} (h : bl x = [35] ∨ bl x = [42]) : choO (bl x) = some { kind := x } := by unfold choO; rw [if_pos h, ba_bl]
theorem cut_lens (l sep : List UInt8) : (Lib.cut l sep).1.length ≤ l.length ∧ (Lib.cut l sep).2.1.length ≤ l.length := by
  unfold Lib.cut
  split
  · simp; omega
  · simp
theorem cut_any (x : ByteArray) (sep : ByteArray) (w : World) (hx : x.size ≤ 1000000) (hmx : Mx w) : Calls Tryz.prog 32 #[.string x, .string sep] w fun e w' => e = .returned (.tuple #[.string (ba (Lib.cut (bl x) (bl sep)).1), .string (ba (Lib.cut (bl x) (bl sep)).2.1), .bool (Lib.cut (bl x) (bl sep)).2.2]) ∧ Below w.heap.size w w' := by
  obtain ⟨m, hm⟩ := hmx
  refine (Tryz.strings_Cut x sep m w (by omega) hm).mono ?_
  rintro e w' ⟨rfl, k, rfl⟩
  exact ⟨rfl, below_drewN (Below.refl _ _) k⟩
def ChoPost (x : ByteArray) (w : World) (e : Ending) (w' : World) : Prop := (∃ m : Md, e = .returned (.tuple #[.agg m.cells, .bool (choO (bl x)).isSome]) ∧ ∀ k, choO (bl x) = some k → m = k) ∧ Below w.heap.size w w'
theorem set_build {w2 : World} {w : World} (h : Below (w.heap.size + 1) (w.alloc (.cells zeroMd 50)) w2) (kind a c : ByteArray) (bg en : Bool) (ex : Option Addr) (al on : Bool) (mks ots frm upto : Int) :
    Below w.heap.size w (setMd w2 w.heap.size kind a c bg en ex al on mks ots frm upto) ∧ (setMd w2 w.heap.size kind a c bg en ex al on mks ots frm upto).heap[w.heap.size]? = some (.cells (mdV kind a c bg en ex al on mks ots frm upto) 50 (0, 0)) := by
  obtain ⟨h1, h2⟩ := (one_new w).out w2 h
  exact ⟨setMd_below h2 (Nat.le_refl _), setMd_heap h1⟩
set_option maxHeartbeats 800000 in
theorem choice_plain (x : ByteArray) (w : World) (hp : bl x = [35] ∨ bl x = [42]) : Calls Tryz.prog 53 #[.string x] w (ChoPost x w) := by
  have HC : Hid (choO (bl x) = some { kind := x }) := choO_plain hp
  have hxx : x = ⟨#[35]⟩ ∨ x = ⟨#[42]⟩ := hp.imp (fun h => bl_inj h) (fun h => bl_inj h)
  clear hp
  obtain ⟨y, hy⟩ : ∃ y, y = x := ⟨_, rfl⟩
  have HY : Hid (y = x) := hy
  clear hy
  rcases hxx with rfl | rfl
  all_goals
    go_enter Tryz.func53, Tryz.ntmps53
    go_upto_region 2 with fail
    have HZ3 : Hid (∃ w3, w3 = w.alloc (.cells zeroMd 50)) := ⟨_, rfl⟩
    obtain ⟨w3, hw3⟩ := HZ3.out
    have hZ3 : Below (w.heap.size + 1) (w.alloc (.cells zeroMd 50)) w3 := by rw [hw3]; exact Below.refl _ _
    obtain ⟨⟨r0, r1, r2, r3, r4, r5, r6, r7, r8, r9, r10, r11⟩, hfz⟩ := mod_cells ((one_new w).out _ hZ3).1
    have hq := set_build hZ3 y E E false false none false false 0 0 0 0
    have HQ : Hid _ := hq
    rw [← hw3]
    clear hw3 HZ3 hq hZ3
    go_wp2
    obtain ⟨W, hW⟩ : ∃ W, W = setMd w3 w.heap.size y E E false false none false false 0 0 0 0 := ⟨_, rfl⟩
    have hq := HQ.out
    rw [← hW] at hq
    obtain ⟨⟨q0, q1, q2, q3, q4, q5, q6, q7, q8, q9, q10, q11⟩, _⟩ := mod_cells hq.2
    show bodyPost Tryz.prog Tryz.f53 _ Exit.ret _ (setMd w3 w.heap.size _ E E false false none false false 0 0 0 0)
    rw [← HY.out, ← hW]
    refine bodyPost_ret (v := .tuple #[.agg (mdV y E E false false none false false 0 0 0 0), .bool true]) (by simp [results, Tryz.results53, go_sem, q0, q1, q2, q3, q4, q5, q6, q7, q8, q9, q10, q11]; try rfl) rfl ⟨⟨{ kind := y }, ?_, fun k h => ?_⟩, hq.1⟩
    · rw [HY.out, HC.out]; rfl
    · rw [HY.out, HC.out] at h; cases h; rw [HY.out]
end Go.Proofs.YtedepknbaakkhaaGreatDoor
namespace Go.Proofs.YtedepknbaakkhaaGreatDoor
open Go.RowKit Go.Shelf
set_option maxHeartbeats 1600000 in
theorem choice_two (x : ByteArray) (w : World) (hx : x.size ≤ 1000000) (hmx : Mx w) (hE : Ey w) (hp : ¬ (bl x = [35] ∨ bl x = [42])) : Calls Tryz.prog 53 #[.string x] w (ChoPost x w) := by
  have hne1 : ¬ x.toList = [35] := by rw [Lib.toList_data]; exact fun e => hp (.inl e)
  have hne2 : ¬ x.toList = [42] := by rw [Lib.toList_data]; exact fun e => hp (.inr e)
  have hb1 : (x.toList == [35]) = false := beq_eq_false_iff_ne.2 hne1
  have hb2 : (x.toList == [42]) = false := beq_eq_false_iff_ne.2 hne2
  unfold ChoPost
  obtain ⟨R, hR⟩ : ∃ R, R = choO (bl x) := ⟨_, rfl⟩
  rw [← hR]
  have hl := cut_lens (bl x) [46, 46]
  rw [bl_length] at hl
  have HCu0 : Hid (∀ W, Mx W → Calls Tryz.prog 32 #[.string x, .string ⟨#[46, 46]⟩] W fun e w' => e = .returned (.tuple #[.string (ba (Lib.cut (bl x) [46, 46]).1), .string (ba (Lib.cut (bl x) [46, 46]).2.1), .bool (Lib.cut (bl x) [46, 46]).2.2]) ∧ Below W.heap.size W w') := fun W hW => cut_any x ⟨#[46, 46]⟩ W hx hW
  unfold choO at hR
  rw [if_neg hp] at hR
  rcases hcu : Lib.cut (bl x) [46, 46] with ⟨c1, c2, c3⟩
  rw [hcu] at hR hl HCu0
  dsimp only at hR hl HCu0
  obtain ⟨a1, ha1⟩ : ∃ a1, a1 = ba c1 := ⟨_, rfl⟩
  obtain ⟨a2, ha2⟩ : ∃ a2, a2 = ba c2 := ⟨_, rfl⟩
  rw [← ha1, ← ha2] at HCu0
  have z1 : a1.size ≤ 1000000 := by rw [ha1, ba_size]; omega
  have z2 : a2.size ≤ 1000000 := by rw [ha2, ba_size]; omega
  have hc1 : c1 = bl a1 := by rw [ha1, bl_ba]
  have hc2 : c2 = bl a2 := by rw [ha2, bl_ba]
  have HN : Hid (∀ y : ByteArray, y.size ≤ 1000000 → ∀ W, Below w.heap.size w W → Calls Tryz.prog 95 #[.string y] W fun e w' => (∃ n : Int, e = .returned (.tuple #[.int .i64 n, .bool (numO (bl y)).isSome]) ∧ ∀ k, numO (bl y) = some k → n = k) ∧ Below W.heap.size W w') := fun y hy W hB => number_any y W hy (hE.below hB hE.pos)
  have HMx : Hid (∀ W, Below w.heap.size w W → Mx W) := fun W hB => hmx.below hB hmx.pos
  have HB0 := one_new w
  rw [hc1, hc2] at hR
  clear hcu ha1 ha2 hc1 hc2 hl hp hmx hE
  have KEY : ∀ (a3 : ByteArray), a3.size ≤ 1000000 → ∀ (n1 n2 : Int) (b1 b2 : Bool), b1 = (numO (bl a1)).isSome → b2 = (numO (bl a3)).isSome → (∀ k, numO (bl a1) = some k → n1 = k) → (∀ k, numO (bl a3) = some k → n2 = k) → R = (match numO (bl a1), numO (bl a3) with | some a, some b => some ({ kind := ⟨#[91]⟩, frm := a, upto := b } : Md) | _, _ => none) → (b1 && b2) = R.isSome ∧ ∀ k, R = some k → ({ kind := ⟨#[91]⟩, frm := n1, upto := n2 } : Md) = k := by
    intro a3 _ n1 n2 b1 b2 h1 h2 h3 h4 h5
    cases e1 : numO (bl a1) with
    | none => rw [e1] at h1 h5; rw [h1, h5]; exact ⟨rfl, fun k h => by cases h⟩
    | some k1 =>
      cases e2 : numO (bl a3) with
      | none => rw [e1] at h1 h5; rw [e2] at h2 h5; rw [h1, h2, h5]; exact ⟨rfl, fun k h => by cases h⟩
      | some k2 =>
        rw [e1] at h1 h5; rw [e2] at h2 h5
        rw [h1, h2, h5, h3 k1 e1, h4 k2 e2]
        exact ⟨rfl, fun k h => by cases h; rfl⟩
  have HKEY : Hid (∀ (n1 n2 : Int) (b1 b2 : Bool), b1 = (numO (bl a1)).isSome → b2 = (numO (bl (if c3 = true then a2 else a1))).isSome → (∀ k, numO (bl a1) = some k → n1 = k) → (∀ k, numO (bl (if c3 = true then a2 else a1)) = some k → n2 = k) → (b1 && b2) = R.isSome ∧ ∀ k, R = some k → ({ kind := ⟨#[91]⟩, frm := n1, upto := n2 } : Md) = k) := fun n1 n2 b1 b2 h1 h2 h3 h4 => by
    refine KEY _ ?_ n1 n2 b1 b2 h1 h2 h3 h4 ?_
    · split
      · exact z2
      · exact z1
    · rw [hR]
      cases c3 <;> rfl
  clear KEY hR
  cases c3 with
  | true =>
    rw [if_pos rfl] at HKEY
    have HN1 := fun W hB => HN.out a1 z1 W hB
    have HN2 := fun W hB => HN.out a2 z2 W hB
    have HNN : Hid _ := And.intro HN1 HN2
    clear HN1 HN2 HN z1 z2
    go_enter Tryz.func53, Tryz.ntmps53
    go_wp2_with fail
    refine (HCu0.out _ (HMx.out _ ((Below.refl _ w).alloc (Nat.le_refl _) _))).mono ?_
    rintro e w1 ⟨rfl, hb1'⟩
    rw [World.size_alloc] at hb1'
    have HZ1 : Hid (Below (w.heap.size + 1) (w.alloc (.cells zeroMd 50)) w1 ∧ w.heap.size + 1 ≤ w1.heap.size) := ⟨hb1', by have := hb1'.size; simpa using this⟩
    clear hb1'
    go_wp2_with fail
    refine (HNN.out.1 _ (HB0.out _ HZ1.out.1).2).mono ?_
    rintro e w2 ⟨⟨n1, rfl, hk1⟩, hb2'⟩
    have HZ2 : Hid (Below (w.heap.size + 1) (w.alloc (.cells zeroMd 50)) w2 ∧ w.heap.size + 1 ≤ w2.heap.size) := ⟨HZ1.out.1.trans (hb2'.mono HZ1.out.2), Nat.le_trans HZ1.out.2 hb2'.size⟩
    clear hb2'
    obtain ⟨b1, hbb1⟩ : ∃ b1, b1 = (numO (bl a1)).isSome := ⟨_, rfl⟩
    rw [← hbb1]
    have HK1 : Hid (b1 = (numO (bl a1)).isSome ∧ ∀ k, numO (bl a1) = some k → n1 = k) := ⟨hbb1, hk1⟩
    clear hbb1 hk1
    go_wp2_with fail
    refine (HNN.out.2 _ (HB0.out _ HZ2.out.1).2).mono ?_
    rintro e w3 ⟨⟨n2, rfl, hk2⟩, hb3'⟩
    have hZ3 : Below (w.heap.size + 1) (w.alloc (.cells zeroMd 50)) w3 := HZ2.out.1.trans (hb3'.mono HZ2.out.2)
    obtain ⟨b2, hbb2⟩ : ∃ b2, b2 = (numO (bl a2)).isSome := ⟨_, rfl⟩
    rw [← hbb2]
    have HF : Hid ((b1 && b2) = R.isSome ∧ ∀ k, R = some k → ({ kind := ⟨#[91]⟩, frm := n1, upto := n2 } : Md) = k) := HKEY.out n1 n2 b1 b2 HK1.out.1 hbb2 HK1.out.2 hk2
    clear hbb2 hk2 hb3'
    obtain ⟨⟨r0, r1, r2, r3, r4, r5, r6, r7, r8, r9, r10, r11⟩, hfz⟩ := mod_cells (HB0.out _ hZ3).1
    have hq := set_build hZ3 ⟨#[91]⟩ E E false false none false false 0 0 n1 n2
    have HQ : Hid _ := hq
    clear hq hZ3
    cases b1
    all_goals
      go_wp2
      obtain ⟨W, hW⟩ : ∃ W, W = setMd w3 w.heap.size ⟨#[91]⟩ E E false false none false false 0 0 n1 n2 := ⟨_, rfl⟩
      have hq := HQ.out
      rw [← hW] at hq
      obtain ⟨⟨q0, q1, q2, q3, q4, q5, q6, q7, q8, q9, q10, q11⟩, _⟩ := mod_cells hq.2
      show bodyPost Tryz.prog Tryz.f53 _ Exit.ret _ (setMd w3 w.heap.size ⟨#[91]⟩ E E false false none false false 0 0 n1 n2)
      rw [← hW]
      refine bodyPost_ret (v := .tuple #[.agg (mdV ⟨#[91]⟩ E E false false none false false 0 0 n1 n2), .bool (R.isSome)]) (by rw [← HF.out.1]; simp [results, Tryz.results53, go_sem, q0, q1, q2, q3, q4, q5, q6, q7, q8, q9, q10, q11]; try rfl) rfl ⟨⟨{ kind := ⟨#[91]⟩, frm := n1, upto := n2 }, rfl, HF.out.2⟩, hq.1⟩
  | false =>
    rw [if_neg (by simp)] at HKEY
    have HN1 : Hid (∀ W, Below w.heap.size w W → _) := fun W hB => HN.out a1 z1 W hB
    clear HN z1 z2
    go_enter Tryz.func53, Tryz.ntmps53
    go_wp2_with fail
    refine (HCu0.out _ (HMx.out _ ((Below.refl _ w).alloc (Nat.le_refl _) _))).mono ?_
    rintro e w1 ⟨rfl, hb1'⟩
    rw [World.size_alloc] at hb1'
    have HZ1 : Hid (Below (w.heap.size + 1) (w.alloc (.cells zeroMd 50)) w1 ∧ w.heap.size + 1 ≤ w1.heap.size) := ⟨hb1', by have := hb1'.size; simpa using this⟩
    clear hb1'
    go_wp2_with fail
    refine (HN1.out _ (HB0.out _ HZ1.out.1).2).mono ?_
    rintro e w2 ⟨⟨n1, rfl, hk1⟩, hb2'⟩
    have HZ2 : Hid (Below (w.heap.size + 1) (w.alloc (.cells zeroMd 50)) w2 ∧ w.heap.size + 1 ≤ w2.heap.size) := ⟨HZ1.out.1.trans (hb2'.mono HZ1.out.2), Nat.le_trans HZ1.out.2 hb2'.size⟩
    clear hb2'
    obtain ⟨b1, hbb1⟩ : ∃ b1, b1 = (numO (bl a1)).isSome := ⟨_, rfl⟩
    rw [← hbb1]
    have HK1 : Hid (b1 = (numO (bl a1)).isSome ∧ ∀ k, numO (bl a1) = some k → n1 = k) := ⟨hbb1, hk1⟩
    clear hbb1 hk1
    go_wp2_with fail
    refine (HN1.out _ (HB0.out _ HZ2.out.1).2).mono ?_
    rintro e w3 ⟨⟨n2, rfl, hk2⟩, hb3'⟩
    have hZ3 : Below (w.heap.size + 1) (w.alloc (.cells zeroMd 50)) w3 := HZ2.out.1.trans (hb3'.mono HZ2.out.2)
    obtain ⟨b2, hbb2⟩ : ∃ b2, b2 = (numO (bl a1)).isSome := ⟨_, rfl⟩
    rw [← hbb2]
    have HF : Hid ((b1 && b2) = R.isSome ∧ ∀ k, R = some k → ({ kind := ⟨#[91]⟩, frm := n1, upto := n2 } : Md) = k) := HKEY.out n1 n2 b1 b2 HK1.out.1 hbb2 HK1.out.2 hk2
    clear hbb2 hk2 hb3'
    obtain ⟨⟨r0, r1, r2, r3, r4, r5, r6, r7, r8, r9, r10, r11⟩, hfz⟩ := mod_cells (HB0.out _ hZ3).1
    have hq := set_build hZ3 ⟨#[91]⟩ E E false false none false false 0 0 n1 n2
    have HQ : Hid _ := hq
    clear hq hZ3
    cases b1
    all_goals
      go_wp2
      obtain ⟨W, hW⟩ : ∃ W, W = setMd w3 w.heap.size ⟨#[91]⟩ E E false false none false false 0 0 n1 n2 := ⟨_, rfl⟩
      have hq := HQ.out
      rw [← hW] at hq
      obtain ⟨⟨q0, q1, q2, q3, q4, q5, q6, q7, q8, q9, q10, q11⟩, _⟩ := mod_cells hq.2
      show bodyPost Tryz.prog Tryz.f53 _ Exit.ret _ (setMd w3 w.heap.size ⟨#[91]⟩ E E false false none false false 0 0 n1 n2)
      rw [← hW]
      refine bodyPost_ret (v := .tuple #[.agg (mdV ⟨#[91]⟩ E E false false none false false 0 0 n1 n2), .bool (R.isSome)]) (by rw [← HF.out.1]; simp [results, Tryz.results53, go_sem, q0, q1, q2, q3, q4, q5, q6, q7, q8, q9, q10, q11]; try rfl) rfl ⟨⟨{ kind := ⟨#[91]⟩, frm := n1, upto := n2 }, rfl, HF.out.2⟩, hq.1⟩
theorem choice_any (x : ByteArray) (w : World) (hx : x.size ≤ 1000000) (hmx : Mx w) (hE : Ey w) : Calls Tryz.prog 53 #[.string x] w (ChoPost x w) := by
  by_cases hp : bl x = [35] ∨ bl x = [42]
  · exact choice_plain x w hp
  · exact choice_two x w hx hmx hE hp
end Go.Proofs.YtedepknbaakkhaaGreatDoor
