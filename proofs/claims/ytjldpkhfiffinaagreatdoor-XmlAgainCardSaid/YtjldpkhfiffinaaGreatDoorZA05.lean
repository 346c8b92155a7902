/- Contracts and plain facts that the law stands on: Shelf, Q6, Q7, Q5, Q9. -/
import Derived.Shelf.Strings.Builder1
import Derived.Shelf.Strings.Builder2
import Derived.Shelf.Small.Strs
import Derived.Shelf.Small.Wraps
import Derived.Shelf.Strings.BuilderF
import Derived.Shelf.Strings.BuilderK
import Derived.Shelf.Strings.BuilderRune
import Derived.Ground.MpProg
import Derived.Shelf.Pu.ParseUintPublic10
import Derived.Shelf.Strings.Search1
import Derived.Shelf.Strings.Search2
import Derived.Shelf.Strings.Search3
import Derived.Shelf.Strings.Cut
import Derived.Shelf.Strings.Count
import Derived.Shelf.LaysM
import Derived.Shelf.Strings.Shaped
import Derived.Shelf.Strings.Prefix
import Derived.Shelf.Strings.Split
import Derived.Shelf.Strings.Replace
import Derived.Shelf.Strings.SplitShaped
import Derived.Shelf.Unicode.DecodeSlow
import Derived.Test.YtjldpkhfiffinaaGreatDoorProg
import Derived.Test.YtjldpkhfiffinaaGreatDoorZA01
import Derived.Test.YtjldpkhfiffinaaGreatDoorZA04
import Derived.Lib.Walk
import Derived.Laws.Strings3
import Derived.Laws.Closers25
import Derived.Laws.Closers25b
import Derived.BigCall
import Derived.BigGuard
import Derived.Shelf.Pu.ToError
import Derived.Laws.IdiomStrings
import Derived.Laws.BytesArg
import Derived.Test.YtjldpkhfiffinaaGreatDoorZA02
namespace Go.Proofs.YtjldpkhfiffinaaGreatDoor.U
open Go.Shelf
def S.lays169_ren : Go.Shelf.Ren := ⟨fun | 169 => 51 | n => n, fun | 70 => 97 | 9 => 9 | 0 => 0 | 72 => 99 | 37 => 22 | 127 => 150 | 3 => 3 | 5 => 5 | n => n, fun | n => n⟩
theorem S.lays169 : Go.Proofs.Lays.n169 Tryz.prog S.lays169_ren := {
  mixed := by kernel_rfl
  f169 := Tryz.func51.trans (congrArg some (by kernel_rfl))
  t0 := Tryz.underlying0
  a0 := Tryz.isAgg0
  z0 := Tryz.sizeOf0
  v0 := Tryz.zeroValue0
  t3 := Tryz.underlying3
  a3 := Tryz.isAgg3
  z3 := Tryz.sizeOf3
  v3 := Tryz.zeroValue3
  t9 := Tryz.underlying9
  a9 := Tryz.isAgg9
  z9 := Tryz.sizeOf9
  v9 := Tryz.zeroValue9
  t37 := Tryz.underlying22
  a37 := Tryz.isAgg22
  z37 := Tryz.sizeOf22
  v37 := Tryz.zeroValue22
  t70 := Tryz.underlying97
  a70 := Tryz.isAgg97
  z70 := Tryz.sizeOf97
  v70 := Tryz.zeroValue97
  t72 := Tryz.underlying99
  a72 := Tryz.isAgg99
  z72 := Tryz.sizeOf99
  v72 := Tryz.zeroValue99
  t127 := Tryz.underlying150
  a127 := Tryz.isAgg150
  z127 := Tryz.sizeOf150
  v127 := Tryz.zeroValue150 }
theorem S.Builder_Extra_169 : Builder.Extra Tryz.prog S.lays169_ren := {
  sizeBuilder := by kernel_rfl
  liesBuilder := by kernel_rfl
  t5 := Tryz.underlying5
  a5 := Tryz.isAgg5
  z5 := Tryz.sizeOf5
  v5 := Tryz.zeroValue5
  infoByte := by kernel_rfl
  cellsByte := by kernel_rfl
  sizeByte := by kernel_rfl
  neB5 := by decide }
def S.lays137_ren : Go.Shelf.Ren := ⟨fun | 137 => 175 | 217 => 188 | 266 => 202 | n => n, fun | 9 => 9 | 5 => 5 | 3 => 3 | n => n, fun | n => n⟩
theorem S.lays137 : Go.Proofs.Lays.n137 Tryz.prog S.lays137_ren := {
  mixed := by kernel_rfl
  f137 := Tryz.func175.trans (congrArg some (by kernel_rfl))
  f217 := Tryz.func188.trans (congrArg some (by kernel_rfl))
  f266 := Tryz.func202.trans (congrArg some (by kernel_rfl))
  t3 := Tryz.underlying3
  a3 := Tryz.isAgg3
  z3 := Tryz.sizeOf3
  v3 := Tryz.zeroValue3
  t5 := Tryz.underlying5
  a5 := Tryz.isAgg5
  z5 := Tryz.sizeOf5
  v5 := Tryz.zeroValue5
  t9 := Tryz.underlying9
  a9 := Tryz.isAgg9
  z9 := Tryz.sizeOf9
  v9 := Tryz.zeroValue9 }
open Go.RowKit in
/-- strings.IndexByte: "IndexByte returns the index of the first instance of c in s, or -1 if c is not present in s.": IT RETURNS 'Lib.indexByte s c'; the world is as it was. (LAID: no walk: one application.) -/
theorem S.strings_IndexByte (s : ByteArray) (c : Int) (w : World) :
    Calls Tryz.prog 175 #[.string s, .int .u8 c] w fun e w' => e = .returned (.int .i64 (Lib.indexByte s.data.toList c.toNat.toUInt8)) ∧ w' = w := Any.strings_IndexByte S.lays137 s c w
def S.lays103_ren : Go.Shelf.Ren := ⟨fun | 103 => 195 | 210 => 210 | 206 => 158 | n => n, fun | 9 => 9 | 4 => 4 | 24 => 62 | 3 => 3 | n => n, fun | n => n⟩
theorem S.lays103 : Go.Proofs.Lays.n103 Tryz.prog S.lays103_ren := {
  mixed := by kernel_rfl
  f103 := Tryz.func195.trans (congrArg some (by kernel_rfl))
  f206 := Tryz.func158.trans (congrArg some (by kernel_rfl))
  f210 := Tryz.func210.trans (congrArg some (by kernel_rfl))
  t3 := Tryz.underlying3
  a3 := Tryz.isAgg3
  z3 := Tryz.sizeOf3
  v3 := Tryz.zeroValue3
  t4 := Tryz.underlying4
  a4 := Tryz.isAgg4
  z4 := Tryz.sizeOf4
  v4 := Tryz.zeroValue4
  t9 := Tryz.underlying9
  a9 := Tryz.isAgg9
  z9 := Tryz.sizeOf9
  v9 := Tryz.zeroValue9
  t24 := Tryz.underlying62
  a24 := Tryz.isAgg62
  z24 := Tryz.sizeOf62
  v24 := Tryz.zeroValue62 }
open Go.RowKit in
/-- strings.CutPrefix: "CutPrefix returns s without the provided leading prefix string and reports whether it found the prefix. If s doesn't start with prefix, CutPrefix returns s, false. If prefix is the empty string, CutPrefix returns s, true.": IT RETURNS '(Lib.trimPrefix s p, Lib.hasPrefix s p)'; the world is as it was. (LAID: no walk: one application.) -/
theorem S.strings_CutPrefix (s p : ByteArray) (w : World) :
    Calls Tryz.prog 195 #[.string s, .string p] w fun e w' => e = .returned (.tuple #[.string ⟨(Lib.trimPrefix s.data.toList p.data.toList).toArray⟩, .bool (Lib.hasPrefix s.data.toList p.data.toList)]) ∧ w' = w := Any.strings_CutPrefix S.lays103 s p w
open Go.RowKit in
/-- (*strings.Builder).String: "String returns the accumulated string.": WHATEVER THE BUILDER HOLDS; THE FORM '_k': OVER 'Lib.IsBuilderF' (a builder that 'String()' may have read), AND WITH THE FRAME THAT REACHES ABOVE THE BUILDER: 'Lib.OthersKept': every block that is not b and is no row of uint8's stands as it stood: the iterator of a range among them. (LAID: no walk: one application.) -/
theorem S.Builder_String_any_k (B b : Nat) (l : List UInt8) (w : World) (h : Lib.IsBuilderF 99 5 B b (Lib.byteCells l) w) (hBw : B ≤ w.heap.size) :
    Calls Tryz.prog 51 #[.pointer (some ⟨b, 0, none⟩)] w fun e w' => e = .returned (.string ⟨l.toArray⟩) ∧ (Lib.IsBuilderF 99 5 B b (Lib.byteCells l) w' ∧ Below B w w' ∧ Lib.OthersKept 5 (some b) w w') := Any.Builder_String_any_k S.lays169 S.Builder_Extra_169 B b l w h hBw
def S.laysPu14_ren : Go.Shelf.Ren := ⟨fun | 14 => 211 | 16 => 219 | 17 => 220 | 19 => 230 | 20 => 231 | 21 => 232 | 22 => 233 | 23 => 234 | 24 => 235 | 25 => 243 | 27 => 245 | 26 => 244 | 28 => 246 | 29 => 247 | 30 => 248 | 31 => 249 | 32 => 250 | 33 => 251 | 35 => 186 | 34 => 252 | 36 => 253 | 37 => 254 | 38 => 255 | 39 => 256 | 40 => 257 | n => n, fun | 9 => 9 | 3 => 3 | 22 => 236 | 24 => 102 | 25 => 268 | 4 => 4 | 34 => 296 | 5 => 5 | 36 => 187 | 37 => 22 | 0 => 0 | 39 => 298 | 21 => 21 | 44 => 305 | 47 => 150 | 50 => 310 | 48 => 308 | 2 => 2 | 52 => 312 | 55 => 314 | 59 => 317 | 60 => 169 | 20 => 20 | 61 => 318 | 65 => 319 | 66 => 320 | 67 => 106 | n => n, fun | 0 => 5 | 1 => 6 | 2 => 7 | 3 => 8 | 4 => 9 | n => n⟩
theorem S.laysPu14 : Go.Proofs.LaysPu.n14 Tryz.prog S.laysPu14_ren := {
  mixed := by kernel_rfl
  f14 := Tryz.func211.trans (congrArg some (by kernel_rfl))
  f16 := Tryz.func219.trans (congrArg some (by kernel_rfl))
  f17 := Tryz.func220.trans (congrArg some (by kernel_rfl))
  f19 := Tryz.func230.trans (congrArg some (by kernel_rfl))
  f20 := Tryz.func231.trans (congrArg some (by kernel_rfl))
  f21 := Tryz.func232.trans (congrArg some (by kernel_rfl))
  f22 := Tryz.func233.trans (congrArg some (by kernel_rfl))
  f23 := Tryz.func234.trans (congrArg some (by kernel_rfl))
  f24 := Tryz.func235.trans (congrArg some (by kernel_rfl))
  f25 := Tryz.func243.trans (congrArg some (by kernel_rfl))
  f26 := Tryz.func244.trans (congrArg some (by kernel_rfl))
  f27 := Tryz.func245.trans (congrArg some (by kernel_rfl))
  f28 := Tryz.func246.trans (congrArg some (by kernel_rfl))
  f29 := Tryz.func247.trans (congrArg some (by kernel_rfl))
  f30 := Tryz.func248.trans (congrArg some (by kernel_rfl))
  f31 := Tryz.func249.trans (congrArg some (by kernel_rfl))
  f32 := Tryz.func250.trans (congrArg some (by kernel_rfl))
  f33 := Tryz.func251.trans (congrArg some (by kernel_rfl))
  f34 := Tryz.func252.trans (congrArg some (by kernel_rfl))
  f35 := Tryz.func186.trans (congrArg some (by kernel_rfl))
  f36 := Tryz.func253.trans (congrArg some (by kernel_rfl))
  f37 := Tryz.func254.trans (congrArg some (by kernel_rfl))
  f38 := Tryz.func255.trans (congrArg some (by kernel_rfl))
  f39 := Tryz.func256.trans (congrArg some (by kernel_rfl))
  f40 := Tryz.func257.trans (congrArg some (by kernel_rfl))
  t0 := Tryz.underlying0
  a0 := Tryz.isAgg0
  z0 := Tryz.sizeOf0
  v0 := Tryz.zeroValue0
  i0 := by kernel_rfl
  t2 := Tryz.underlying2
  a2 := Tryz.isAgg2
  z2 := Tryz.sizeOf2
  v2 := Tryz.zeroValue2
  i2 := by kernel_rfl
  t3 := Tryz.underlying3
  a3 := Tryz.isAgg3
  z3 := Tryz.sizeOf3
  v3 := Tryz.zeroValue3
  i3 := by kernel_rfl
  t4 := Tryz.underlying4
  a4 := Tryz.isAgg4
  z4 := Tryz.sizeOf4
  v4 := Tryz.zeroValue4
  i4 := by kernel_rfl
  t5 := Tryz.underlying5
  a5 := Tryz.isAgg5
  z5 := Tryz.sizeOf5
  v5 := Tryz.zeroValue5
  i5 := by kernel_rfl
  t9 := Tryz.underlying9
  a9 := Tryz.isAgg9
  z9 := Tryz.sizeOf9
  v9 := Tryz.zeroValue9
  i9 := by kernel_rfl
  t20 := Tryz.underlying20
  a20 := Tryz.isAgg20
  z20 := Tryz.sizeOf20
  v20 := Tryz.zeroValue20
  i20 := by kernel_rfl
  t21 := Tryz.underlying21
  a21 := Tryz.isAgg21
  z21 := Tryz.sizeOf21
  v21 := Tryz.zeroValue21
  i21 := by kernel_rfl
  t22 := Tryz.underlying236
  a22 := Tryz.isAgg236
  z22 := Tryz.sizeOf236
  v22 := Tryz.zeroValue236
  i22 := by kernel_rfl
  t24 := Tryz.underlying102
  a24 := Tryz.isAgg102
  z24 := Tryz.sizeOf102
  v24 := Tryz.zeroValue102
  i24 := by kernel_rfl
  t25 := Tryz.underlying268
  a25 := Tryz.isAgg268
  z25 := Tryz.sizeOf268
  v25 := Tryz.zeroValue268
  i25 := by kernel_rfl
  t34 := Tryz.underlying296
  a34 := Tryz.isAgg296
  z34 := Tryz.sizeOf296
  v34 := Tryz.zeroValue296
  i34 := by kernel_rfl
  c34 := by kernel_rfl
  t36 := Tryz.underlying187
  a36 := Tryz.isAgg187
  z36 := Tryz.sizeOf187
  v36 := Tryz.zeroValue187
  i36 := by kernel_rfl
  t37 := Tryz.underlying22
  a37 := Tryz.isAgg22
  z37 := Tryz.sizeOf22
  v37 := Tryz.zeroValue22
  i37 := by kernel_rfl
  t39 := Tryz.underlying298
  a39 := Tryz.isAgg298
  z39 := Tryz.sizeOf298
  v39 := Tryz.zeroValue298
  i39 := by kernel_rfl
  t44 := Tryz.underlying305
  a44 := Tryz.isAgg305
  z44 := Tryz.sizeOf305
  v44 := Tryz.zeroValue305
  i44 := by kernel_rfl
  t47 := Tryz.underlying150
  a47 := Tryz.isAgg150
  z47 := Tryz.sizeOf150
  v47 := Tryz.zeroValue150
  i47 := by kernel_rfl
  t48 := Tryz.underlying308
  a48 := Tryz.isAgg308
  z48 := Tryz.sizeOf308
  v48 := Tryz.zeroValue308
  i48 := by kernel_rfl
  t50 := Tryz.underlying310
  a50 := Tryz.isAgg310
  z50 := Tryz.sizeOf310
  v50 := Tryz.zeroValue310
  i50 := by kernel_rfl
  t52 := Tryz.underlying312
  a52 := Tryz.isAgg312
  z52 := Tryz.sizeOf312
  v52 := Tryz.zeroValue312
  i52 := by kernel_rfl
  t55 := Tryz.underlying314
  a55 := Tryz.isAgg314
  z55 := Tryz.sizeOf314
  v55 := Tryz.zeroValue314
  i55 := by kernel_rfl
  t59 := Tryz.underlying317
  a59 := Tryz.isAgg317
  z59 := Tryz.sizeOf317
  v59 := Tryz.zeroValue317
  i59 := by kernel_rfl
  t60 := Tryz.underlying169
  a60 := Tryz.isAgg169
  z60 := Tryz.sizeOf169
  v60 := Tryz.zeroValue169
  i60 := by kernel_rfl
  t61 := Tryz.underlying318
  a61 := Tryz.isAgg318
  z61 := Tryz.sizeOf318
  t65 := Tryz.underlying319
  a65 := Tryz.isAgg319
  z65 := Tryz.sizeOf319
  v65 := Tryz.zeroValue319
  i65 := by kernel_rfl
  t66 := Tryz.underlying320
  a66 := Tryz.isAgg320
  z66 := Tryz.sizeOf320
  v66 := Tryz.zeroValue320
  i66 := by kernel_rfl
  t67 := Tryz.underlying106
  a67 := Tryz.isAgg106
  z67 := Tryz.sizeOf106
  v67 := Tryz.zeroValue106
  i67 := by kernel_rfl
  g0 := by kernel_rfl
  m0 := by kernel_rfl
  g1 := by kernel_rfl
  m1 := by kernel_rfl
  g2 := by kernel_rfl
  m2 := by kernel_rfl
  g3 := by kernel_rfl
  m3 := by kernel_rfl
  g4 := by kernel_rfl
  m4 := by kernel_rfl }
def S.lays144_ren : Go.Shelf.Ren := ⟨fun | 144 => 134 | 143 => 151 | 219 => 171 | 217 => 188 | 225 => 189 | 224 => 190 | 267 => 191 | 266 => 202 | 314 => 203 | n => n, fun | 9 => 9 | 4 => 4 | 3 => 3 | 5 => 5 | 46 => 187 | 146 => 252 | 51 => 169 | n => n, fun | 1 => 2 | n => n⟩
theorem S.lays144 : Go.Proofs.Lays.n144 Tryz.prog S.lays144_ren := {
  mixed := by kernel_rfl
  f143 := Tryz.func151.trans (congrArg some (by kernel_rfl))
  f144 := Tryz.func134.trans (congrArg some (by kernel_rfl))
  f217 := Tryz.func188.trans (congrArg some (by kernel_rfl))
  f219 := Tryz.func171.trans (congrArg some (by kernel_rfl))
  f224 := Tryz.func190.trans (congrArg some (by kernel_rfl))
  f225 := Tryz.func189.trans (congrArg some (by kernel_rfl))
  f266 := Tryz.func202.trans (congrArg some (by kernel_rfl))
  f267 := Tryz.func191.trans (congrArg some (by kernel_rfl))
  f314 := Tryz.func203.trans (congrArg some (by kernel_rfl))
  t3 := Tryz.underlying3
  a3 := Tryz.isAgg3
  z3 := Tryz.sizeOf3
  v3 := Tryz.zeroValue3
  t4 := Tryz.underlying4
  a4 := Tryz.isAgg4
  z4 := Tryz.sizeOf4
  v4 := Tryz.zeroValue4
  t5 := Tryz.underlying5
  a5 := Tryz.isAgg5
  z5 := Tryz.sizeOf5
  v5 := Tryz.zeroValue5
  t9 := Tryz.underlying9
  a9 := Tryz.isAgg9
  z9 := Tryz.sizeOf9
  v9 := Tryz.zeroValue9
  t46 := Tryz.underlying187
  a46 := Tryz.isAgg187
  z46 := Tryz.sizeOf187
  v46 := Tryz.zeroValue187
  t51 := Tryz.underlying169
  a51 := Tryz.isAgg169
  z51 := Tryz.sizeOf169
  v51 := Tryz.zeroValue169
  t146 := Tryz.underlying252
  a146 := Tryz.isAgg252
  z146 := Tryz.sizeOf252
  v146 := Tryz.zeroValue252
  g1 := by kernel_rfl }
open Go.RowKit Go.Lib in
/-- strings.Contains: "Contains reports whether substr is within s.": IT RETURNS 'Lib.contains s substr'; the world is as it was. (LAID: no walk: one application.) -/
theorem S.strings_Contains (s sub : ByteArray) (m : Int) (w : World) (hs : s.size < 4294967281) (hm : w.cell? ⟨2, 0, none⟩ = some (.int .i64 m)) :
    Calls Tryz.prog 134 #[.string s, .string sub] w fun e w' => e = .returned (.bool (Lib.contains s.data.toList sub.data.toList)) ∧ w' = w := Any.strings_Contains S.lays144 s sub m w hs hm
def S.lays145_ren : Go.Shelf.Ren := ⟨fun | 145 => 133 | 220 => 159 | 219 => 171 | 217 => 188 | 225 => 189 | 224 => 190 | 267 => 191 | 266 => 202 | 314 => 203 | n => n, fun | 9 => 9 | 4 => 4 | 59 => 178 | 3 => 3 | 5 => 5 | 46 => 187 | 146 => 252 | 51 => 169 | n => n, fun | 1 => 2 | n => n⟩
theorem S.lays145 : Go.Proofs.Lays.n145 Tryz.prog S.lays145_ren := {
  mixed := by kernel_rfl
  f145 := Tryz.func133.trans (congrArg some (by kernel_rfl))
  f217 := Tryz.func188.trans (congrArg some (by kernel_rfl))
  f219 := Tryz.func171.trans (congrArg some (by kernel_rfl))
  f220 := Tryz.func159.trans (congrArg some (by kernel_rfl))
  f224 := Tryz.func190.trans (congrArg some (by kernel_rfl))
  f225 := Tryz.func189.trans (congrArg some (by kernel_rfl))
  f266 := Tryz.func202.trans (congrArg some (by kernel_rfl))
  f267 := Tryz.func191.trans (congrArg some (by kernel_rfl))
  f314 := Tryz.func203.trans (congrArg some (by kernel_rfl))
  t3 := Tryz.underlying3
  a3 := Tryz.isAgg3
  z3 := Tryz.sizeOf3
  v3 := Tryz.zeroValue3
  t4 := Tryz.underlying4
  a4 := Tryz.isAgg4
  z4 := Tryz.sizeOf4
  v4 := Tryz.zeroValue4
  t5 := Tryz.underlying5
  a5 := Tryz.isAgg5
  z5 := Tryz.sizeOf5
  v5 := Tryz.zeroValue5
  t9 := Tryz.underlying9
  a9 := Tryz.isAgg9
  z9 := Tryz.sizeOf9
  v9 := Tryz.zeroValue9
  t46 := Tryz.underlying187
  a46 := Tryz.isAgg187
  z46 := Tryz.sizeOf187
  v46 := Tryz.zeroValue187
  t51 := Tryz.underlying169
  a51 := Tryz.isAgg169
  z51 := Tryz.sizeOf169
  v51 := Tryz.zeroValue169
  t59 := Tryz.underlying178
  a59 := Tryz.isAgg178
  z59 := Tryz.sizeOf178
  v59 := Tryz.zeroValue178
  t146 := Tryz.underlying252
  a146 := Tryz.isAgg252
  z146 := Tryz.sizeOf252
  v146 := Tryz.zeroValue252
  g1 := by kernel_rfl }
open Go.RowKit Go.Lib in
/-- strings.Cut: "Cut slices s around the first instance of sep, returning the text before and after sep. The found result reports whether sep appears in s. If sep does not appear in s, cut returns s, "", false.": IT RETURNS 'Lib.cut s sep'; the world is as it was but for the count of draws. (LAID: no walk: one application.) -/
theorem S.strings_Cut (s sep : ByteArray) (m : Int) (w : World) (hs : s.size < 4294967281) (hm : w.cell? ⟨2, 0, none⟩ = some (.int .i64 m)) :
    Calls Tryz.prog 133 #[.string s, .string sep] w fun e w' => e = .returned (.tuple #[.string ⟨(Lib.cut s.data.toList sep.data.toList).1.toArray⟩, .string ⟨(Lib.cut s.data.toList sep.data.toList).2.1.toArray⟩, .bool (Lib.cut s.data.toList sep.data.toList).2.2]) ∧ ∃ n, w' = w.drewN n := Any.strings_Cut S.lays145 s sep m w hs hm
def S.lays99_ren : Go.Shelf.Ren := ⟨fun | 99 => 132 | 206 => 158 | n => n, fun | 9 => 9 | 4 => 4 | 3 => 3 | n => n, fun | n => n⟩
theorem S.lays99 : Go.Proofs.Lays.n99 Tryz.prog S.lays99_ren := {
  mixed := by kernel_rfl
  f99 := Tryz.func132.trans (congrArg some (by kernel_rfl))
  f206 := Tryz.func158.trans (congrArg some (by kernel_rfl))
  t3 := Tryz.underlying3
  a3 := Tryz.isAgg3
  z3 := Tryz.sizeOf3
  v3 := Tryz.zeroValue3
  t4 := Tryz.underlying4
  a4 := Tryz.isAgg4
  z4 := Tryz.sizeOf4
  v4 := Tryz.zeroValue4
  t9 := Tryz.underlying9
  a9 := Tryz.isAgg9
  z9 := Tryz.sizeOf9
  v9 := Tryz.zeroValue9 }
open Go.RowKit Go.Lib in
/-- strings.HasPrefix: "HasPrefix reports whether the string s begins with prefix.": IT RETURNS 'Lib.hasPrefix s prefix'; the world is as it was. (LAID: no walk: one application.) -/
theorem S.strings_HasPrefix (s p : ByteArray) (w : World) :
    Calls Tryz.prog 132 #[.string s, .string p] w fun e w' => e = .returned (.bool (Lib.hasPrefix s.data.toList p.data.toList)) ∧ w' = w := Any.strings_HasPrefix S.lays99 s p w
def S.lays100_ren : Go.Shelf.Ren := ⟨fun | 100 => 145 | 207 => 166 | n => n, fun | 9 => 9 | 4 => 4 | 3 => 3 | n => n, fun | n => n⟩
theorem S.lays100 : Go.Proofs.Lays.n100 Tryz.prog S.lays100_ren := {
  mixed := by kernel_rfl
  f100 := Tryz.func145.trans (congrArg some (by kernel_rfl))
  f207 := Tryz.func166.trans (congrArg some (by kernel_rfl))
  t3 := Tryz.underlying3
  a3 := Tryz.isAgg3
  z3 := Tryz.sizeOf3
  v3 := Tryz.zeroValue3
  t4 := Tryz.underlying4
  a4 := Tryz.isAgg4
  z4 := Tryz.sizeOf4
  v4 := Tryz.zeroValue4
  t9 := Tryz.underlying9
  a9 := Tryz.isAgg9
  z9 := Tryz.sizeOf9
  v9 := Tryz.zeroValue9 }
open Go.RowKit Go.Lib in
/-- strings.HasSuffix: "HasSuffix reports whether the string s ends with suffix.": IT RETURNS 'Lib.hasSuffix s suffix'; the world is as it was. ('hs': no Go string is longer: a caller has it of every string that it was handed.) (LAID: no walk: one application.) -/
theorem S.strings_HasSuffix (s p : ByteArray) (w : World) (hs : s.size ≤ 9223372036854775807) :
    Calls Tryz.prog 145 #[.string s, .string p] w fun e w' => e = .returned (.bool (Lib.hasSuffix s.data.toList p.data.toList)) ∧ w' = w := Any.strings_HasSuffix S.lays100 s p w hs
def S.lays155_ren : Go.Shelf.Ren := ⟨fun | 155 => 101 | 154 => 125 | 138 => 149 | 165 => 150 | 143 => 151 | 166 => 49 | 197 => 152 | 169 => 51 | 195 => 168 | 218 => 169 | 240 => 97 | 241 => 170 | 219 => 171 | 260 => 172 | 276 => 122 | 277 => 187 | 217 => 188 | 225 => 189 | 224 => 190 | 267 => 191 | 266 => 202 | 314 => 203 | n => n, fun | 9 => 9 | 3 => 3 | 4 => 4 | 72 => 99 | 0 => 0 | 76 => 103 | 105 => 188 | 21 => 21 | 5 => 5 | 70 => 97 | 20 => 20 | 37 => 22 | 75 => 102 | 127 => 150 | 164 => 167 | 46 => 187 | 119 => 238 | 139 => 241 | 138 => 240 | 146 => 252 | 51 => 169 | 80 => 106 | n => n, fun | 1 => 2 | 3 => 3 | 4 => 4 | n => n⟩
theorem S.lays155 : Go.Proofs.Lays.n155 Tryz.prog S.lays155_ren := {
  mixed := by kernel_rfl
  f138 := Tryz.func149.trans (congrArg some (by kernel_rfl))
  f143 := Tryz.func151.trans (congrArg some (by kernel_rfl))
  f154 := Tryz.func125.trans (congrArg some (by kernel_rfl))
  f155 := Tryz.func101.trans (congrArg some (by kernel_rfl))
  f165 := Tryz.func150.trans (congrArg some (by kernel_rfl))
  f166 := Tryz.func49.trans (congrArg some (by kernel_rfl))
  f169 := Tryz.func51.trans (congrArg some (by kernel_rfl))
  f195 := Tryz.func168.trans (congrArg some (by kernel_rfl))
  f197 := Tryz.func152.trans (congrArg some (by kernel_rfl))
  f217 := Tryz.func188.trans (congrArg some (by kernel_rfl))
  f218 := Tryz.func169.trans (congrArg some (by kernel_rfl))
  f219 := Tryz.func171.trans (congrArg some (by kernel_rfl))
  f224 := Tryz.func190.trans (congrArg some (by kernel_rfl))
  f225 := Tryz.func189.trans (congrArg some (by kernel_rfl))
  f240 := Tryz.func97.trans (congrArg some (by kernel_rfl))
  f241 := Tryz.func170.trans (congrArg some (by kernel_rfl))
  f260 := Tryz.func172.trans (congrArg some (by kernel_rfl))
  f266 := Tryz.func202.trans (congrArg some (by kernel_rfl))
  f267 := Tryz.func191.trans (congrArg some (by kernel_rfl))
  f276 := Tryz.func122.trans (congrArg some (by kernel_rfl))
  f277 := Tryz.func187.trans (congrArg some (by kernel_rfl))
  f314 := Tryz.func203.trans (congrArg some (by kernel_rfl))
  t0 := Tryz.underlying0
  a0 := Tryz.isAgg0
  z0 := Tryz.sizeOf0
  v0 := Tryz.zeroValue0
  t3 := Tryz.underlying3
  a3 := Tryz.isAgg3
  z3 := Tryz.sizeOf3
  v3 := Tryz.zeroValue3
  t4 := Tryz.underlying4
  a4 := Tryz.isAgg4
  z4 := Tryz.sizeOf4
  v4 := Tryz.zeroValue4
  t5 := Tryz.underlying5
  a5 := Tryz.isAgg5
  z5 := Tryz.sizeOf5
  v5 := Tryz.zeroValue5
  t9 := Tryz.underlying9
  a9 := Tryz.isAgg9
  z9 := Tryz.sizeOf9
  v9 := Tryz.zeroValue9
  t20 := Tryz.underlying20
  a20 := Tryz.isAgg20
  z20 := Tryz.sizeOf20
  v20 := Tryz.zeroValue20
  t21 := Tryz.underlying21
  a21 := Tryz.isAgg21
  z21 := Tryz.sizeOf21
  v21 := Tryz.zeroValue21
  t37 := Tryz.underlying22
  a37 := Tryz.isAgg22
  z37 := Tryz.sizeOf22
  v37 := Tryz.zeroValue22
  t46 := Tryz.underlying187
  a46 := Tryz.isAgg187
  z46 := Tryz.sizeOf187
  v46 := Tryz.zeroValue187
  t51 := Tryz.underlying169
  a51 := Tryz.isAgg169
  z51 := Tryz.sizeOf169
  v51 := Tryz.zeroValue169
  t70 := Tryz.underlying97
  a70 := Tryz.isAgg97
  z70 := Tryz.sizeOf97
  v70 := Tryz.zeroValue97
  t72 := Tryz.underlying99
  a72 := Tryz.isAgg99
  z72 := Tryz.sizeOf99
  v72 := Tryz.zeroValue99
  t75 := Tryz.underlying102
  a75 := Tryz.isAgg102
  z75 := Tryz.sizeOf102
  v75 := Tryz.zeroValue102
  t76 := Tryz.underlying103
  a76 := Tryz.isAgg103
  z76 := Tryz.sizeOf103
  v76 := Tryz.zeroValue103
  t105 := Tryz.underlying188
  a105 := Tryz.isAgg188
  z105 := Tryz.sizeOf188
  v105 := Tryz.zeroValue188
  t119 := Tryz.underlying238
  a119 := Tryz.isAgg238
  z119 := Tryz.sizeOf238
  t127 := Tryz.underlying150
  a127 := Tryz.isAgg150
  z127 := Tryz.sizeOf150
  v127 := Tryz.zeroValue150
  t138 := Tryz.underlying240
  a138 := Tryz.isAgg240
  z138 := Tryz.sizeOf240
  v138 := Tryz.zeroValue240
  t139 := Tryz.underlying241
  a139 := Tryz.isAgg241
  z139 := Tryz.sizeOf241
  v139 := Tryz.zeroValue241
  t146 := Tryz.underlying252
  a146 := Tryz.isAgg252
  z146 := Tryz.sizeOf252
  v146 := Tryz.zeroValue252
  t164 := Tryz.underlying167
  a164 := Tryz.isAgg167
  z164 := Tryz.sizeOf167
  v164 := Tryz.zeroValue167
  g1 := by kernel_rfl
  g3 := by kernel_rfl
  g4 := by kernel_rfl }
theorem S.Builder_Extra_155 : Builder.Extra Tryz.prog S.lays155_ren := {
  sizeBuilder := by kernel_rfl
  liesBuilder := by kernel_rfl
  t5 := Tryz.underlying5
  a5 := Tryz.isAgg5
  z5 := Tryz.sizeOf5
  v5 := Tryz.zeroValue5
  infoByte := by kernel_rfl
  cellsByte := by kernel_rfl
  sizeByte := by kernel_rfl
  neB5 := by decide }
open Go.RowKit Go.Lib in
/-- strings.ReplaceAll: "ReplaceAll returns a copy of the string s with all non-overlapping instances of old replaced by new.": AT AN old THAT IS NOT EMPTY: 'Lib.replaceAll s old new'. (LAID: no walk: one application.) -/
theorem S.strings_ReplaceAll (s old new : ByteArray) (m : Int) (w : World) (hs : s.size < 4294967281) (hm : w.cell? ⟨2, 0, none⟩ = some (.int .i64 m)) (h1 : 1 ≤ old.size) (hlen : s.size + Lib.countB s old * new.size ≤ 140737488355328) :
    Calls Tryz.prog 101 #[.string s, .string old, .string new] w fun e w' =>
      e = .returned (.string ⟨(Lib.replaceAll s.data.toList old.data.toList new.data.toList).toArray⟩) ∧ Below w.heap.size w w' := Any.strings_ReplaceAll S.lays155 S.Builder_Extra_155 s old new m w hs hm h1 hlen
def S.lays242_ren : Go.Shelf.Ren := ⟨fun | 242 => 98 | 278 => 123 | n => n, fun | 70 => 97 | 72 => 99 | 37 => 22 | 21 => 21 | 51 => 169 | 4 => 4 | 5 => 5 | 46 => 187 | n => n, fun | n => n⟩
theorem S.lays242 : Go.Proofs.Lays.n242 Tryz.prog S.lays242_ren := {
  mixed := by kernel_rfl
  f242 := Tryz.func98.trans (congrArg some (by kernel_rfl))
  f278 := Tryz.func123.trans (congrArg some (by kernel_rfl))
  t4 := Tryz.underlying4
  a4 := Tryz.isAgg4
  z4 := Tryz.sizeOf4
  v4 := Tryz.zeroValue4
  t5 := Tryz.underlying5
  a5 := Tryz.isAgg5
  z5 := Tryz.sizeOf5
  v5 := Tryz.zeroValue5
  t21 := Tryz.underlying21
  a21 := Tryz.isAgg21
  z21 := Tryz.sizeOf21
  v21 := Tryz.zeroValue21
  t37 := Tryz.underlying22
  a37 := Tryz.isAgg22
  z37 := Tryz.sizeOf22
  v37 := Tryz.zeroValue22
  t46 := Tryz.underlying187
  a46 := Tryz.isAgg187
  z46 := Tryz.sizeOf187
  v46 := Tryz.zeroValue187
  t51 := Tryz.underlying169
  a51 := Tryz.isAgg169
  z51 := Tryz.sizeOf169
  v51 := Tryz.zeroValue169 }
theorem S.Builder_Extra_242 : Builder.Extra Tryz.prog S.lays242_ren := {
  sizeBuilder := by kernel_rfl
  liesBuilder := by kernel_rfl
  t5 := Tryz.underlying5
  a5 := Tryz.isAgg5
  z5 := Tryz.sizeOf5
  v5 := Tryz.zeroValue5
  infoByte := by kernel_rfl
  cellsByte := by kernel_rfl
  sizeByte := by kernel_rfl
  neB5 := by decide }
end Go.Proofs.YtjldpkhfiffinaaGreatDoor.U

namespace Go.Proofs.YtjldpkhfiffinaaGreatDoor.U
open Go.RowKit Go.Shelf
theorem low_fact : ∀ n : Fin 256, (65 ≤ n.val ∧ n.val ≤ 90 → bits .or .u8 (n.val : Int) 32 = (n.val : Int) + 32) ∧ (97 ≤ n.val ∧ n.val ≤ 122 → bits .or .u8 (n.val : Int) 32 = (n.val : Int)) ∧ ((n.val < 65 ∨ (90 < n.val ∧ n.val < 97) ∨ 122 < n.val) → bits .or .u8 (n.val : Int) 32 < 97 ∨ 122 < bits .or .u8 (n.val : Int) 32) ∧ 0 ≤ bits .or .u8 (n.val : Int) 32 ∧ bits .or .u8 (n.val : Int) 32 < 256 := by decide +kernel
theorem lower_any (c : Int) (w : World) : Calls Tryz.prog 230 #[.int .u8 c] w fun e w' => e = .returned (.int .u8 (bits .or .u8 c 32)) ∧ w' = w := by
  go_enter Tryz.func230, Tryz.ntmps230
  go_wp2
  go_ret
  exact ⟨rfl, rfl⟩
/-- What the inner ParseUint hands back. -/
def uintV : Option Int → Value
  | some n => .tuple #[.int .u64 n, .nilIface]
  | none => .tuple #[.int .u64 0, .iface 296 (.int .i64 2)]
set_option maxHeartbeats 32000000 in
set_option maxRecDepth 100000 in
theorem inner_10 (t : ByteArray) (hne : t.size ≠ 0) (h8 : t.size ≤ 8) (w : World) :
    Calls Tryz.prog 219 #[.string t, .int .i64 10, .int .i64 32] w fun e w' => e = .returned (uintV (numA 10 0 (bts t))) ∧ w' = Lib.bytesWorld w 5 t := by
  have hemp := emp_no hne
  have hcv := conv_any w t
  have hB : ∀ j, j < t.size → (Lib.bytesWorld w 5 t).cell? ⟨w.heap.size, j, none⟩ = some (.int .u8 (t.data.toList.getD j 0).toNat) := fun j hj => Lib.bytesWorld_cell w 5 t j hj
  obtain ⟨W1, hW1⟩ : ∃ W1, W1 = Lib.bytesWorld w 5 t := ⟨_, rfl⟩
  rw [← hW1] at hcv hB ⊢
  clear hW1
  obtain ⟨bs, hL⟩ : ∃ bs, bs = bts t := ⟨_, rfl⟩
  have hLn : bs.length = t.size := by rw [hL, bts_len]
  rw [show t.data.toList = bs from hL.symm] at hB
  rw [← hL]
  clear hL
  have hmv : IntKind.u64.wrap (IntKind.u64.wrap 4294967296 - 1) = 4294967295 := by
    rw [IntKind.wrap_u64, IntKind.wrap_u64]
    decide
  go_enter Tryz.func219, Tryz.ntmps219
  go_wp2
  go_loop [12, 13, 101] (fun vu vn vi => ∃ (k : Nat) (a : Int), vu = .bool false ∧ vn = .int .u64 a ∧ vi = .int .i64 k ∧ k ≤ t.size ∧ Hid (0 ≤ a ∧ a < 16 ^ k ∧ numA 10 0 bs = numA 10 a (bs.drop k)))
    (fun _ _ vi => t.size - (intOf vi).toNat)
  case atStart => exact ⟨0, 0, rfl, rfl, rfl, by omega, by omega, by decide, rfl⟩
  case round =>
    obtain ⟨k, a, rfl, rfl, rfl, hk, hh⟩ := hrel
    obtain ⟨a0, hak, hdec⟩ := hh.out
    clear hh
    by_cases hkn : k < t.size
    · have hc := hB k hkn
      have hdrop : bs.drop k = bs[k]'(by omega) :: bs.drop (k + 1) := List.drop_eq_getElem_cons (by omega)
      have hget : bs.getD k 0 = bs[k]'(by omega) := by simp [List.getD, List.getElem?_eq_getElem (show k < bs.length by omega)]
      rw [hdrop] at hdec
      rw [hget] at hc
      generalize bs[k]'(by omega) = c at hc hdec
      have hc256 : c.toNat < 256 := c.toNat_lt
      clear hB hdrop hget
      have a1 : a < 268435456 := by
        have : (16 : Int) ^ k ≤ 16 ^ 7 := by
          have : (16 : Nat) ^ k ≤ 16 ^ 7 := Nat.pow_le_pow_right (by omega) (by omega)
          exact_mod_cast this
        have h7 : (16 : Int) ^ 7 = 268435456 := by decide
        omega
      have hpow : (16 : Int) ^ (k + 1) = 16 ^ k * 16 := Int.pow_succ _ _
      obtain ⟨l1, l2, l3, l4, l5⟩ := low_fact ⟨c.toNat, hc256⟩
      simp only at l1 l2 l3 l4 l5
      by_cases hdig : 48 ≤ c.toNat ∧ c.toNat ≤ 57
      · obtain ⟨hd0, hd1⟩ := hdig
        have hF : numA 10 a (c :: bs.drop (k + 1)) = numA 10 (a * 10 + ((c.toNat : Int) - 48)) (bs.drop (k + 1)) := numA_digit (by omega) (by omega)
        have HN : Hid (0 ≤ a * 10 + ((c.toNat : Int) - 48) ∧ a * 10 + ((c.toNat : Int) - 48) < 16 ^ (k + 1) ∧ numA 10 0 bs = numA 10 (a * 10 + ((c.toNat : Int) - 48)) (bs.drop (k + 1))) := Lib.hid ⟨by omega, by omega, hdec.trans hF⟩
        have iov : a * 10 + ((c.toNat : Int) - 48) ≤ 4294967295 := by omega
        clear hF hdec hak hpow l1 l2 l3 l4 l5
        go_wp2
        refine ⟨⟨k + 1, a * 10 + ((c.toNat : Int) - 48), rfl, (by first | rfl | (congr 1; omega)), (by first | rfl | (congr 1; omega)), by omega, HN⟩, by simp [intOf]; omega⟩
      · obtain ⟨x, hx⟩ : ∃ x, x = bits .or .u8 (c.toNat : Int) 32 := ⟨_, rfl⟩
        rw [← hx] at l1 l2 l3 l4 l5
        have LX := Lib.hid hx
        clear hx
        by_cases hlet : (65 ≤ c.toNat ∧ c.toNat ≤ 90) ∨ (97 ≤ c.toNat ∧ c.toNat ≤ 122)
        · have hx0 : 97 ≤ x ∧ x ≤ 122 := by omega
          have hc57 : 57 < c.toNat := by omega
          have hc48 : 48 ≤ c.toNat := by omega
          clear hdig
          have hdb : ¬ x - 87 < 10 := by omega
          have hF : numA 10 a (c :: bs.drop (k + 1)) = none := by
            rcases hlet with h | h
            · exact numA_upper_no h (by have := l1 h; omega)
            · exact numA_letter_no h (by have := l2 h; omega)
          have HD := Lib.hid (hdec.trans hF)
          obtain ⟨hxa, hxb⟩ := hx0
          have hu : ¬ c.toNat = 95 := by omega
          clear hF hdec hak hpow l1 l2 l3 l4 l5 hlet
          go_wp2_with (go_at_call 230; refine (lower_any _ _).mono ?_; rintro e w' ⟨rfl, rfl⟩; rw [← LX.out])
          go_ret2
          exact ⟨by rw [HD.out]; rfl, rfl⟩
        · have hF : numA 10 a (c :: bs.drop (k + 1)) = none := numA_no (by omega) (by omega)
          have HD := Lib.hid (hdec.trans hF)
          have l3' := l3 (by omega)
          clear hF hdec hak hpow l1 l2 l3 hlet
          rcases l3' with hx1 | hx1
          all_goals (
            go_wp2_with (go_at_call 230; refine (lower_any _ _).mono ?_; rintro e w' ⟨rfl, rfl⟩; first | rw [← LX.out] | rw [show bits .or .u8 95 32 = 127 by decide])
            all_goals go_ret2
            all_goals exact ⟨by rw [HD.out]; rfl, rfl⟩)
    · have hkk : k = t.size := by omega
      subst hkk
      have hF : numA 10 a (bs.drop t.size) = some a := by rw [List.drop_eq_nil_of_le (by omega)]; rfl
      have HD := Lib.hid (hdec.trans hF)
      clear hF hdec hak
      go_wp2
      go_ret2
      exact ⟨by rw [HD.out]; rfl, rfl⟩
end Go.Proofs.YtjldpkhfiffinaaGreatDoor.U
namespace Go.Proofs.YtjldpkhfiffinaaGreatDoor.U
open Go.RowKit Go.Shelf
set_option maxHeartbeats 32000000 in
set_option maxRecDepth 100000 in
theorem inner_16 (t : ByteArray) (hne : t.size ≠ 0) (h8 : t.size ≤ 8) (w : World) :
    Calls Tryz.prog 219 #[.string t, .int .i64 16, .int .i64 32] w fun e w' => e = .returned (uintV (numA 16 0 (bts t))) ∧ w' = Lib.bytesWorld w 5 t := by
  have hemp := emp_no hne
  have hcv := conv_any w t
  have hB : ∀ j, j < t.size → (Lib.bytesWorld w 5 t).cell? ⟨w.heap.size, j, none⟩ = some (.int .u8 (t.data.toList.getD j 0).toNat) := fun j hj => Lib.bytesWorld_cell w 5 t j hj
  obtain ⟨W1, hW1⟩ : ∃ W1, W1 = Lib.bytesWorld w 5 t := ⟨_, rfl⟩
  rw [← hW1] at hcv hB ⊢
  clear hW1
  obtain ⟨bs, hL⟩ : ∃ bs, bs = bts t := ⟨_, rfl⟩
  have hLn : bs.length = t.size := by rw [hL, bts_len]
  rw [show t.data.toList = bs from hL.symm] at hB
  rw [← hL]
  clear hL
  have hmv : IntKind.u64.wrap (IntKind.u64.wrap 4294967296 - 1) = 4294967295 := by
    rw [IntKind.wrap_u64, IntKind.wrap_u64]
    decide
  go_enter Tryz.func219, Tryz.ntmps219
  go_wp2
  go_loop [12, 13, 101] (fun vu vn vi => ∃ (k : Nat) (a : Int), vu = .bool false ∧ vn = .int .u64 a ∧ vi = .int .i64 k ∧ k ≤ t.size ∧ Hid (0 ≤ a ∧ a < 16 ^ k ∧ numA 16 0 bs = numA 16 a (bs.drop k)))
    (fun _ _ vi => t.size - (intOf vi).toNat)
  case atStart => exact ⟨0, 0, rfl, rfl, rfl, by omega, by omega, by decide, rfl⟩
  case round =>
    obtain ⟨k, a, rfl, rfl, rfl, hk, hh⟩ := hrel
    obtain ⟨a0, hak, hdec⟩ := hh.out
    clear hh
    by_cases hkn : k < t.size
    · have hc := hB k hkn
      have hdrop : bs.drop k = bs[k]'(by omega) :: bs.drop (k + 1) := List.drop_eq_getElem_cons (by omega)
      have hget : bs.getD k 0 = bs[k]'(by omega) := by simp [List.getD, List.getElem?_eq_getElem (show k < bs.length by omega)]
      rw [hdrop] at hdec
      rw [hget] at hc
      generalize bs[k]'(by omega) = c at hc hdec
      have hc256 : c.toNat < 256 := c.toNat_lt
      clear hB hdrop hget
      have a1 : a < 268435456 := by
        have : (16 : Int) ^ k ≤ 16 ^ 7 := by
          have : (16 : Nat) ^ k ≤ 16 ^ 7 := Nat.pow_le_pow_right (by omega) (by omega)
          exact_mod_cast this
        have h7 : (16 : Int) ^ 7 = 268435456 := by decide
        omega
      have hpow : (16 : Int) ^ (k + 1) = 16 ^ k * 16 := Int.pow_succ _ _
      obtain ⟨l1, l2, l3, l4, l5⟩ := low_fact ⟨c.toNat, hc256⟩
      simp only at l1 l2 l3 l4 l5
      by_cases hdig : 48 ≤ c.toNat ∧ c.toNat ≤ 57
      · obtain ⟨hd0, hd1⟩ := hdig
        have hF : numA 16 a (c :: bs.drop (k + 1)) = numA 16 (a * 16 + ((c.toNat : Int) - 48)) (bs.drop (k + 1)) := numA_digit (by omega) (by omega)
        have HN : Hid (0 ≤ a * 16 + ((c.toNat : Int) - 48) ∧ a * 16 + ((c.toNat : Int) - 48) < 16 ^ (k + 1) ∧ numA 16 0 bs = numA 16 (a * 16 + ((c.toNat : Int) - 48)) (bs.drop (k + 1))) := Lib.hid ⟨by omega, by omega, hdec.trans hF⟩
        have iov : a * 16 + ((c.toNat : Int) - 48) ≤ 4294967295 := by omega
        clear hF hdec hak hpow l1 l2 l3 l4 l5
        go_wp2
        refine ⟨⟨k + 1, a * 16 + ((c.toNat : Int) - 48), rfl, (by first | rfl | (congr 1; omega)), (by first | rfl | (congr 1; omega)), by omega, HN⟩, by simp [intOf]; omega⟩
      · obtain ⟨x, hx⟩ : ∃ x, x = bits .or .u8 (c.toNat : Int) 32 := ⟨_, rfl⟩
        rw [← hx] at l1 l2 l3 l4 l5
        have LX := Lib.hid hx
        clear hx
        by_cases hlet : (65 ≤ c.toNat ∧ c.toNat ≤ 90) ∨ (97 ≤ c.toNat ∧ c.toNat ≤ 122)
        · have hx0 : 97 ≤ x ∧ x ≤ 122 := by omega
          have hc57 : 57 < c.toNat := by omega
          have hc48 : 48 ≤ c.toNat := by omega
          clear hdig
          by_cases hdb : x - 87 < 16
          · have hF : numA 16 a (c :: bs.drop (k + 1)) = numA 16 (a * 16 + (x - 87)) (bs.drop (k + 1)) := by
              rcases hlet with h | h
              · rw [l1 h]; exact numA_upper h (by have := l1 h; omega)
              · rw [l2 h]; exact numA_letter h (by have := l2 h; omega)
            have HN : Hid (0 ≤ a * 16 + (x - 87) ∧ a * 16 + (x - 87) < 16 ^ (k + 1) ∧ numA 16 0 bs = numA 16 (a * 16 + (x - 87)) (bs.drop (k + 1))) := Lib.hid ⟨by omega, by omega, hdec.trans hF⟩
            have iov : a * 16 + (x - 87) ≤ 4294967295 := by omega
            have hu : ¬ c.toNat = 95 := by omega
            obtain ⟨hxa, hxb⟩ := hx0
            clear hF hdec hak hpow l1 l2 l3 l4 l5 hlet
            go_wp2_with (go_at_call 230; refine (lower_any _ _).mono ?_; rintro e w' ⟨rfl, rfl⟩; rw [← LX.out])
            refine ⟨⟨k + 1, a * 16 + (x - 87), rfl, (by first | rfl | (congr 1; omega)), (by first | rfl | (congr 1; omega)), by omega, HN⟩, by simp [intOf]; omega⟩
          · have hF : numA 16 a (c :: bs.drop (k + 1)) = none := by
              rcases hlet with h | h
              · exact numA_upper_no h (by have := l1 h; omega)
              · exact numA_letter_no h (by have := l2 h; omega)
            have HD := Lib.hid (hdec.trans hF)
            obtain ⟨hxa, hxb⟩ := hx0
            have hu : ¬ c.toNat = 95 := by omega
            clear hF hdec hak hpow l1 l2 l3 l4 l5 hlet
            go_wp2_with (go_at_call 230; refine (lower_any _ _).mono ?_; rintro e w' ⟨rfl, rfl⟩; rw [← LX.out])
            go_ret2
            exact ⟨by rw [HD.out]; rfl, rfl⟩
        · have hF : numA 16 a (c :: bs.drop (k + 1)) = none := numA_no (by omega) (by omega)
          have HD := Lib.hid (hdec.trans hF)
          have l3' := l3 (by omega)
          clear hF hdec hak hpow l1 l2 l3 hlet
          rcases l3' with hx1 | hx1
          all_goals (
            go_wp2_with (go_at_call 230; refine (lower_any _ _).mono ?_; rintro e w' ⟨rfl, rfl⟩; first | rw [← LX.out] | rw [show bits .or .u8 95 32 = 127 by decide])
            all_goals go_ret2
            all_goals exact ⟨by rw [HD.out]; rfl, rfl⟩)
    · have hkk : k = t.size := by omega
      subst hkk
      have hF : numA 16 a (bs.drop t.size) = some a := by rw [List.drop_eq_nil_of_le (by omega)]; rfl
      have HD := Lib.hid (hdec.trans hF)
      clear hF hdec hak
      go_wp2
      go_ret2
      exact ⟨by rw [HD.out]; rfl, rfl⟩
end Go.Proofs.YtjldpkhfiffinaaGreatDoor.U

namespace Go.Proofs.YtjldpkhfiffinaaGreatDoor.U
open Go.RowKit Go.Shelf
set_option maxHeartbeats 8000000 in
set_option maxRecDepth 100000 in
theorem inner_empty (b : Int) (w : World) :
    Calls Tryz.prog 219 #[.string ⟨#[]⟩, .int .i64 b, .int .i64 32] w fun e w' => e = .returned (.tuple #[.int .u64 0, .iface 296 (.int .i64 2)]) ∧ w' = w := by
  go_enter Tryz.func219, Tryz.ntmps219
  go_wp2
  go_ret2
  exact ⟨rfl, rfl⟩
theorem toErr (fn s : ByteArray) (base bits : Int) (ev : Value) (w : World) (hlim : s.size ≤ 281474976710656) (hv : w.cell? ⟨5, 0, none⟩ = some ev) (hev : ev = .nilIface ∨ ∃ te pe, ev = .iface te pe) :
    Calls Tryz.prog 220 #[.string fn, .string s, .int .i64 base, .int .i64 bits, .iface 296 (.int .i64 2)] w fun e w' => ∃ N, e = .returned (.iface 298 (.pointer (some ⟨N, 0, none⟩))) ∧ w.heap.size ≤ N ∧ w'.heap[N]? = some (.cells #[.string fn, .string s, ev] 305 (0, 0)) ∧ Below w.heap.size w w' :=
  AnyPu.strconv_toError_syntax { S.laysPu14 with } fn s base bits ev w hlim hv hev
/-- What the public ParseUint leaves. -/
def PubPost (x : Option Int) (w : World) (e : Ending) (w' : World) : Prop :=
  Below w.heap.size w w' ∧ ((∃ n, x = some n ∧ e = .returned (.tuple #[.int .u64 n, .nilIface])) ∨ (x = none ∧ ∃ N, e = .returned (.tuple #[.int .u64 0, .iface 298 (.pointer (some ⟨N, 0, none⟩))])))
set_option maxHeartbeats 8000000 in
theorem pub_10 (t : ByteArray) (h8 : t.size ≤ 8) (w : World) (hl : LayS w) :
    Calls Tryz.prog 211 #[.string t, .int .i64 10, .int .i64 32] w fun e w' => PubPost (numL 10 (bts t)) w e w' := by
  have hlen := bts_len t
  have HL := Lib.hid hl
  by_cases h0 : t.size = 0
  · have hs : t = ⟨#[]⟩ := bts_inj (by rw [bts_mk]; exact List.eq_nil_of_length_eq_zero (hlen.trans h0))
    have HN : Hid (numL 10 (bts t) = none) := Lib.hid (by unfold numL; rw [if_neg (by omega)])
    subst hs
    obtain ⟨te, pe, hsy⟩ := hl.syn
    have HSY := Lib.hid hsy
    clear hsy hl
    go_enter Tryz.func211, Tryz.ntmps211
    go_wp2_with fail
    refine (inner_empty 10 _).mono ?_
    rintro e w1 ⟨rfl, rfl⟩
    go_wp2_with fail
    refine (toErr ⟨#[80, 97, 114, 115, 101, 85, 105, 110, 116]⟩ ⟨#[]⟩ 10 32 _ _ (by show 0 ≤ _; omega) HSY.out (.inr ⟨te, pe, rfl⟩)).mono ?_
    rintro e w2 ⟨N, rfl, h1, h2, h3⟩
    go_wp2
    go_ret2
    exact ⟨h3, .inr ⟨HN.out, N, rfl⟩⟩
  · have hN : numL 10 (bts t) = numA 10 0 (bts t) := by unfold numL; rw [if_pos (by omega)]
    have HBW := Lib.hid (bytes_below w t)
    have hl1 : LayS (Lib.bytesWorld w 5 t) := hl.below (bytes_below w t) hl.size
    obtain ⟨te, pe, hsy⟩ := hl1.syn
    have HSY := Lib.hid hsy
    have HI := Lib.hid (inner_10 t h0 h8 w)
    rw [hN]
    clear hsy hl hl1 hN
    generalize Lib.bytesWorld w 5 t = w1 at HBW HSY HI
    cases hv : numA 10 0 (bts t) with
    | none =>
      rw [hv] at HI
      go_enter Tryz.func211, Tryz.ntmps211
      go_wp2_with fail
      refine HI.out.mono ?_
      unfold uintV
      rintro e w1 ⟨rfl, rfl⟩
      go_wp2_with fail
      refine (toErr ⟨#[80, 97, 114, 115, 101, 85, 105, 110, 116]⟩ t 10 32 _ _ (by omega) HSY.out (.inr ⟨te, pe, rfl⟩)).mono ?_
      rintro e w2 ⟨N, rfl, h1, h2, h3⟩
      go_wp2
      go_ret2
      exact ⟨HBW.out.trans (h3.mono HBW.out.size), .inr ⟨rfl, N, rfl⟩⟩
    | some n =>
      rw [hv] at HI
      go_enter Tryz.func211, Tryz.ntmps211
      go_wp2_with fail
      refine HI.out.mono ?_
      unfold uintV
      rintro e w1 ⟨rfl, rfl⟩
      go_wp2
      go_ret2
      exact ⟨HBW.out, .inl ⟨n, rfl, rfl⟩⟩
set_option maxHeartbeats 8000000 in
theorem pub_16 (t : ByteArray) (h8 : t.size ≤ 8) (w : World) (hl : LayS w) :
    Calls Tryz.prog 211 #[.string t, .int .i64 16, .int .i64 32] w fun e w' => PubPost (numL 16 (bts t)) w e w' := by
  have hlen := bts_len t
  have HL := Lib.hid hl
  by_cases h0 : t.size = 0
  · have hs : t = ⟨#[]⟩ := bts_inj (by rw [bts_mk]; exact List.eq_nil_of_length_eq_zero (hlen.trans h0))
    have HN : Hid (numL 16 (bts t) = none) := Lib.hid (by unfold numL; rw [if_neg (by omega)])
    subst hs
    obtain ⟨te, pe, hsy⟩ := hl.syn
    have HSY := Lib.hid hsy
    clear hsy hl
    go_enter Tryz.func211, Tryz.ntmps211
    go_wp2_with fail
    refine (inner_empty 16 _).mono ?_
    rintro e w1 ⟨rfl, rfl⟩
    go_wp2_with fail
    refine (toErr ⟨#[80, 97, 114, 115, 101, 85, 105, 110, 116]⟩ ⟨#[]⟩ 16 32 _ _ (by show 0 ≤ _; omega) HSY.out (.inr ⟨te, pe, rfl⟩)).mono ?_
    rintro e w2 ⟨N, rfl, h1, h2, h3⟩
    go_wp2
    go_ret2
    exact ⟨h3, .inr ⟨HN.out, N, rfl⟩⟩
  · have hN : numL 16 (bts t) = numA 16 0 (bts t) := by unfold numL; rw [if_pos (by omega)]
    have HBW := Lib.hid (bytes_below w t)
    have hl1 : LayS (Lib.bytesWorld w 5 t) := hl.below (bytes_below w t) hl.size
    obtain ⟨te, pe, hsy⟩ := hl1.syn
    have HSY := Lib.hid hsy
    have HI := Lib.hid (inner_16 t h0 h8 w)
    rw [hN]
    clear hsy hl hl1 hN
    generalize Lib.bytesWorld w 5 t = w1 at HBW HSY HI
    cases hv : numA 16 0 (bts t) with
    | none =>
      rw [hv] at HI
      go_enter Tryz.func211, Tryz.ntmps211
      go_wp2_with fail
      refine HI.out.mono ?_
      unfold uintV
      rintro e w1 ⟨rfl, rfl⟩
      go_wp2_with fail
      refine (toErr ⟨#[80, 97, 114, 115, 101, 85, 105, 110, 116]⟩ t 16 32 _ _ (by omega) HSY.out (.inr ⟨te, pe, rfl⟩)).mono ?_
      rintro e w2 ⟨N, rfl, h1, h2, h3⟩
      go_wp2
      go_ret2
      exact ⟨HBW.out.trans (h3.mono HBW.out.size), .inr ⟨rfl, N, rfl⟩⟩
    | some n =>
      rw [hv] at HI
      go_enter Tryz.func211, Tryz.ntmps211
      go_wp2_with fail
      refine HI.out.mono ?_
      unfold uintV
      rintro e w1 ⟨rfl, rfl⟩
      go_wp2
      go_ret2
      exact ⟨HBW.out, .inl ⟨n, rfl, rfl⟩⟩
set_option maxHeartbeats 4000000 in
theorem number_10 (s : ByteArray) (w : World) (hl : LayS w) :
    Calls Tryz.prog 196 #[.string s, .int .i64 10] w fun e w' => e = .returned (.int .i32 (wrap32 ((numL 10 (bts s)).getD 0))) ∧ Below w.heap.size w w' := by
  by_cases h8 : 8 < s.size
  · have HN : Hid (numL 10 (bts s) = none) := Lib.hid (by unfold numL; rw [if_neg (by rw [bts_len]; omega)])
    clear hl
    go_enter Tryz.func196, Tryz.ntmps196
    go_wp2
    go_ret
    exact ⟨by rw [HN.out, Option.getD_none, wrap32_lit (n := 0) (by omega)]; rfl, Below.refl _ _⟩
  · go_enter Tryz.func196, Tryz.ntmps196
    go_wp2_with fail
    refine (pub_10 s (by omega) _ hl).mono ?_
    rintro e w1 ⟨hb, ⟨n, hn, rfl⟩ | ⟨hn, N, rfl⟩⟩
    · have HN := Lib.hid hn
      have hbd := numL_bound (by omega) hn
      clear hl hn
      go_wp2
      go_ret
      refine ⟨?_, hb⟩
      rw [HN.out]
      rfl
    · have HN := Lib.hid hn
      clear hl hn
      go_wp2
      go_ret
      exact ⟨by rw [HN.out, Option.getD_none, wrap32_lit (n := 0) (by omega)]; rfl, hb⟩
set_option maxHeartbeats 4000000 in
theorem number_16 (s : ByteArray) (w : World) (hl : LayS w) :
    Calls Tryz.prog 196 #[.string s, .int .i64 16] w fun e w' => e = .returned (.int .i32 (wrap32 ((numL 16 (bts s)).getD 0))) ∧ Below w.heap.size w w' := by
  by_cases h8 : 8 < s.size
  · have HN : Hid (numL 16 (bts s) = none) := Lib.hid (by unfold numL; rw [if_neg (by rw [bts_len]; omega)])
    clear hl
    go_enter Tryz.func196, Tryz.ntmps196
    go_wp2
    go_ret
    exact ⟨by rw [HN.out, Option.getD_none, wrap32_lit (n := 0) (by omega)]; rfl, Below.refl _ _⟩
  · go_enter Tryz.func196, Tryz.ntmps196
    go_wp2_with fail
    refine (pub_16 s (by omega) _ hl).mono ?_
    rintro e w1 ⟨hb, ⟨n, hn, rfl⟩ | ⟨hn, N, rfl⟩⟩
    · have HN := Lib.hid hn
      have hbd := numL_bound (by omega) hn
      clear hl hn
      go_wp2
      go_ret
      refine ⟨?_, hb⟩
      rw [HN.out]
      rfl
    · have HN := Lib.hid hn
      clear hl hn
      go_wp2
      go_ret
      exact ⟨by rw [HN.out, Option.getD_none, wrap32_lit (n := 0) (by omega)]; rfl, hb⟩
end Go.Proofs.YtjldpkhfiffinaaGreatDoor.U
namespace Go.Proofs.YtjldpkhfiffinaaGreatDoor.U
open Go.RowKit Go.Shelf
theorem str_ne {s : ByteArray} {l : List UInt8} (h : bts s ≠ l) : (s.toList == l) = false := by
  rw [ByteArray.toList_eq]; exact beq_false_of_ne h
theorem bts_eq_of {s : ByteArray} {l : List UInt8} (h : bts s = l) : s = ⟨l.toArray⟩ := by rw [← h, mk_bts]
set_option maxHeartbeats 1000000 in
theorem meant_any (s : ByteArray) (w : World) (hl : LayS w) :
    Calls Tryz.prog 176 #[.string s] w fun e w' => e = .returned (.int .i32 (wrap32 (wordV (bts s)))) ∧ Below w.heap.size w w' := by
  by_cases h1 : bts s = [97, 109, 112]
  · obtain rfl := bts_eq_of h1
    clear hl
    go_enter Tryz.func176, Tryz.ntmps176
    go_wp2
    go_ret
    exact ⟨by rw [h1, show wordV [97, 109, 112] = 38 by decide, wrap32_lit (n := 38) (by omega)]; rfl, Below.refl _ _⟩
  by_cases h2 : bts s = [108, 116]
  · obtain rfl := bts_eq_of h2
    clear hl
    go_enter Tryz.func176, Tryz.ntmps176
    go_wp2
    go_ret
    exact ⟨by rw [h2, show wordV [108, 116] = 60 by decide, wrap32_lit (n := 60) (by omega)]; rfl, Below.refl _ _⟩
  by_cases h3 : bts s = [103, 116]
  · obtain rfl := bts_eq_of h3
    clear hl
    go_enter Tryz.func176, Tryz.ntmps176
    go_wp2
    go_ret
    exact ⟨by rw [h3, show wordV [103, 116] = 62 by decide, wrap32_lit (n := 62) (by omega)]; rfl, Below.refl _ _⟩
  by_cases h4 : bts s = [113, 117, 111, 116]
  · obtain rfl := bts_eq_of h4
    clear hl
    go_enter Tryz.func176, Tryz.ntmps176
    go_wp2
    go_ret
    exact ⟨by rw [h4, show wordV [113, 117, 111, 116] = 34 by decide, wrap32_lit (n := 34) (by omega)]; rfl, Below.refl _ _⟩
  by_cases h5 : bts s = [97, 112, 111, 115]
  · obtain rfl := bts_eq_of h5
    clear hl
    go_enter Tryz.func176, Tryz.ntmps176
    go_wp2
    go_ret
    exact ⟨by rw [h5, show wordV [97, 112, 111, 115] = 39 by decide, wrap32_lit (n := 39) (by omega)]; rfl, Below.refl _ _⟩
  have n1 := str_ne h1
  have n2 := str_ne h2
  have n3 := str_ne h3
  have n4 := str_ne h4
  have n5 := str_ne h5
  have hW : wordV (bts s) = if Lib.hasPrefix (bts s) [35, 120] = true then (numL 16 ((bts s).drop 2)).getD 0 else if Lib.hasPrefix (bts s) [35] = true then (numL 10 ((bts s).drop 1)).getD 0 else 0 := by
    unfold wordV; rw [if_neg h1, if_neg h2, if_neg h3, if_neg h4, if_neg h5]
  have HL := Lib.hid hl
  clear h1 h2 h3 h4 h5 hl
  cases hx : Lib.hasPrefix (bts s) [35, 120] with
  | true =>
    have ht : Lib.trimPrefix (bts s) [35, 120] = (bts s).drop 2 := by unfold Lib.trimPrefix; rw [if_pos hx]; rfl
    obtain ⟨u, hu⟩ : ∃ u : ByteArray, u = ⟨((bts s).drop 2).toArray⟩ := ⟨_, rfl⟩
    have HW : Hid (wordV (bts s) = (numL 16 (bts u)).getD 0) := Lib.hid (by rw [hW, if_pos hx, show bts u = (bts s).drop 2 by rw [hu]; exact bts_mk _])
    have HC : Hid (Calls Tryz.prog 195 #[.string s, .string ⟨#[35, 120]⟩] w fun e w' => e = .returned (.tuple #[.string u, .bool true]) ∧ w' = w) := Lib.hid (by
      rw [hu]
      have := S.strings_CutPrefix s ⟨#[35, 120]⟩ w
      rw [show s.data.toList = bts s from rfl, show (⟨#[35, 120]⟩ : ByteArray).data.toList = [35, 120] from rfl, hx, ht] at this
      exact this)
    clear hW hx ht hu
    go_enter Tryz.func176, Tryz.ntmps176
    go_wp2_with fail
    refine HC.out.mono ?_
    rintro e w1 ⟨rfl, rfl⟩
    go_wp2_with fail
    refine (number_16 u _ HL.out).mono ?_
    rintro e w1 ⟨rfl, hb⟩
    go_wp2
    go_ret
    exact ⟨by rw [HW.out]; rfl, hb⟩
  | false =>
    have HC : Hid (Calls Tryz.prog 195 #[.string s, .string ⟨#[35, 120]⟩] w fun e w' => ∃ u, e = .returned (.tuple #[.string u, .bool false]) ∧ w' = w) := Lib.hid (by
      have := S.strings_CutPrefix s ⟨#[35, 120]⟩ w
      rw [show s.data.toList = bts s from rfl, show (⟨#[35, 120]⟩ : ByteArray).data.toList = [35, 120] from rfl, hx] at this
      exact this.mono (fun e w' h => ⟨_, h⟩))
    cases hy : Lib.hasPrefix (bts s) [35] with
    | true =>
      have ht : Lib.trimPrefix (bts s) [35] = (bts s).drop 1 := by unfold Lib.trimPrefix; rw [if_pos hy]; rfl
      obtain ⟨u, hu⟩ : ∃ u : ByteArray, u = ⟨((bts s).drop 1).toArray⟩ := ⟨_, rfl⟩
      have HW : Hid (wordV (bts s) = (numL 10 (bts u)).getD 0) := Lib.hid (by rw [hW, if_neg (by rw [hx]; simp), if_pos hy, show bts u = (bts s).drop 1 by rw [hu]; exact bts_mk _])
      have HC2 : Hid (Calls Tryz.prog 195 #[.string s, .string ⟨#[35]⟩] w fun e w' => e = .returned (.tuple #[.string u, .bool true]) ∧ w' = w) := Lib.hid (by
        rw [hu]
        have := S.strings_CutPrefix s ⟨#[35]⟩ w
        rw [show s.data.toList = bts s from rfl, show (⟨#[35]⟩ : ByteArray).data.toList = [35] from rfl, hy, ht] at this
        exact this)
      clear hW hx hy ht hu
      go_enter Tryz.func176, Tryz.ntmps176
      go_wp2_with fail
      refine HC.out.mono ?_
      rintro e w1 ⟨u', rfl, rfl⟩
      go_wp2_with fail
      refine HC2.out.mono ?_
      rintro e w1 ⟨rfl, rfl⟩
      go_wp2_with fail
      refine (number_10 u _ HL.out).mono ?_
      rintro e w1 ⟨rfl, hb⟩
      go_wp2
      go_ret
      exact ⟨by rw [HW.out]; rfl, hb⟩
    | false =>
      have HW : Hid (wordV (bts s) = 0) := Lib.hid (by rw [hW, if_neg (by rw [hx]; simp), if_neg (by rw [hy]; simp)])
      have HC2 : Hid (Calls Tryz.prog 195 #[.string s, .string ⟨#[35]⟩] w fun e w' => ∃ u, e = .returned (.tuple #[.string u, .bool false]) ∧ w' = w) := Lib.hid (by
        have := S.strings_CutPrefix s ⟨#[35]⟩ w
        rw [show s.data.toList = bts s from rfl, show (⟨#[35]⟩ : ByteArray).data.toList = [35] from rfl, hy] at this
        exact this.mono (fun e w' h => ⟨_, h⟩))
      clear hW hx hy
      go_enter Tryz.func176, Tryz.ntmps176
      go_wp2_with fail
      refine HC.out.mono ?_
      rintro e w1 ⟨u, rfl, rfl⟩
      go_wp2_with fail
      refine HC2.out.mono ?_
      rintro e w1 ⟨u2, rfl, rfl⟩
      go_wp2
      go_ret
      exact ⟨by rw [HW.out, wrap32_lit (n := 0) (by omega)]; rfl, Below.refl _ _⟩
/-- What reference answers. -/
def refV (x : Option (Int × Nat)) : Value :=
  match x with
  | none => .tuple #[.int .i32 0, .int .i64 0]
  | some (r, n) => .tuple #[.int .i32 r, .int .i64 n]
set_option maxHeartbeats 1000000 in
theorem reference_any (s : ByteArray) (t : List UInt8) (w : World) (hl : LayS w) (hs : bts s = 38 :: t) (hlim : s.size ≤ 1000000) :
    Calls Tryz.prog 160 #[.string s] w fun e w' => e = .returned (refV ((refL t).map fun x => (x.1, x.2 + 1))) ∧ Below w.heap.size w w' := by
  have hidx : Lib.indexByte (bts s) 59 = if semi t < t.length then ((semi t + 1 : Nat) : Int) else -1 := by
    rw [index_semi, hs, semi_cons_no (by decide), List.length_cons]
    by_cases h : semi t < t.length
    · rw [if_pos h, if_pos (by omega)]
    · rw [if_neg h, if_neg (by omega)]
  have hIB : Calls Tryz.prog 175 #[.string s, .int .u8 59] w fun e w' => e = .returned (.int .i64 (Lib.indexByte (bts s) 59)) ∧ w' = w := S.strings_IndexByte s 59 w
  rw [hidx] at hIB
  have hlen : s.size = t.length + 1 := by rw [← bts_len, hs]; rfl
  have HL := Lib.hid hl
  by_cases hsm : semi t < t.length
  · rw [if_pos hsm] at hIB
    obtain ⟨k, hk⟩ : ∃ k, k = semi t := ⟨_, rfl⟩
    have hw : bts (s.extract 1 (k + 1)) = t.take k := by rw [bts_extract, hs]; rfl
    have hb := wordV_bound (t.take k)
    have hcw := isC_wrap hb.1 hb.2
    rw [← hk] at hIB hsm
    have hk2 : (k : Int) + 1 ≤ s.size := by omega
    cases hc : isC (wordV (t.take k)) with
    | true =>
      have HR : Hid (refL t = some (wordV (t.take k), k + 1)) := Lib.hid (by unfold refL; rw [← hk, if_pos ⟨hsm, hc⟩])
      have HC := Lib.hid (hcw.trans hc)
      have HWR := Lib.hid (wrap_isC hc)
      have HM : Hid (∀ w, LayS w → Calls Tryz.prog 176 #[.string (s.extract 1 (k + 1))] w fun e w' => e = .returned (.int .i32 (wrap32 (wordV (t.take k)))) ∧ Below w.heap.size w w') := Lib.hid (fun w h => by have := meant_any (s.extract 1 (k + 1)) w h; rwa [hw] at this)
      have HIB := Lib.hid hIB
      clear hb hcw hc hidx hs hIB hk hw hl hsm
      generalize wordV (t.take k) = r at HR HC HWR HM
      go_enter Tryz.func160, Tryz.ntmps160
      go_wp2_with fail
      refine HIB.out.mono ?_
      rintro e w1 ⟨rfl, rfl⟩
      go_wp2_with fail
      refine (HM.out _ HL.out).mono ?_
      rintro e w1 ⟨rfl, hb1⟩
      have HL1 := Lib.hid (HL.out.below hb1 HL.out.size)
      have HB1 := Lib.hid hb1
      rw [HWR.out]
      clear hb1
      go_wp2_with fail
      refine (is_any _ _ HL1.out.lay).mono ?_
      rintro e w2 ⟨rfl, hb2⟩
      rw [show isC r = true by have := HC.out; rwa [HWR.out] at this]
      go_wp2
      go_ret2
      refine ⟨?_, HB1.out.trans (hb2.mono HB1.out.size)⟩
      rw [HR.out]
      rfl
    | false =>
      have HR : Hid (refL t = none) := Lib.hid (by unfold refL; rw [← hk, if_neg (by rw [hc]; simp)])
      have HC := Lib.hid (hcw.trans hc)
      have HM : Hid (∀ w, LayS w → Calls Tryz.prog 176 #[.string (s.extract 1 (k + 1))] w fun e w' => e = .returned (.int .i32 (wrap32 (wordV (t.take k)))) ∧ Below w.heap.size w w') := Lib.hid (fun w h => by have := meant_any (s.extract 1 (k + 1)) w h; rwa [hw] at this)
      have HIB := Lib.hid hIB
      clear hb hcw hc hidx hs hIB hk hw hl hsm
      generalize wordV (t.take k) = r at HC HM
      go_enter Tryz.func160, Tryz.ntmps160
      go_wp2_with fail
      refine HIB.out.mono ?_
      rintro e w1 ⟨rfl, rfl⟩
      go_wp2_with fail
      refine (HM.out _ HL.out).mono ?_
      rintro e w1 ⟨rfl, hb1⟩
      have HL1 := Lib.hid (HL.out.below hb1 HL.out.size)
      have HB1 := Lib.hid hb1
      clear hb1
      go_wp2_with fail
      refine (is_any _ _ HL1.out.lay).mono ?_
      rintro e w2 ⟨rfl, hb2⟩
      rw [HC.out]
      go_wp2
      go_ret2
      refine ⟨?_, HB1.out.trans (hb2.mono HB1.out.size)⟩
      rw [HR.out]
      rfl
  · rw [if_neg hsm] at hIB
    have HR : Hid (refL t = none) := Lib.hid (by unfold refL; rw [if_neg (by omega)])
    have HIB := Lib.hid hIB
    clear hidx hs hIB hl hsm
    go_enter Tryz.func160, Tryz.ntmps160
    go_wp2_with fail
    refine HIB.out.mono ?_
    rintro e w1 ⟨rfl, rfl⟩
    go_wp2
    go_ret2
    refine ⟨?_, Below.refl _ _⟩
    rw [HR.out]
    rfl
end Go.Proofs.YtjldpkhfiffinaaGreatDoor.U

namespace Go.Proofs.YtjldpkhfiffinaaGreatDoor.U
open Go.RowKit Go.Shelf
end Go.Proofs.YtjldpkhfiffinaaGreatDoor.U
namespace Go.Proofs.YtjldpkhfiffinaaGreatDoor.U
open Go.RowKit Go.Shelf
end Go.Proofs.YtjldpkhfiffinaaGreatDoor.U
namespace Go.Proofs.YtjldpkhfiffinaaGreatDoor.U
open Go.RowKit Go.Shelf
/-- What the document's answer says of a word: its character, or 0. -/
def nameV (l : List UInt8) : Int := if isC (wordV l) = true then wordV l else 0
/-- Behind the switch: the number that is told by digits, or -1. -/
def digN (l : List UInt8) : Int := if Lib.hasPrefix l [35, 120] = true then (numL 16 (l.drop 2)).getD (-1) else if Lib.hasPrefix l [35] = true then (numL 10 (l.drop 1)).getD (-1) else -1
end Go.Proofs.YtjldpkhfiffinaaGreatDoor.U
namespace Go.Proofs.YtjldpkhfiffinaaGreatDoor.U
open Go.RowKit Go.Shelf
/-- A row of bytes that the call owns, as a text. -/
theorem conv_own (w : World) (base : Nat) (v : Value) (l : List UInt8) (h : w.ownsRow base 5 1 v l.length (Lib.byteCells l)) : (convert 22 9 v).run Tryz.prog w = .ok (.string ⟨l.toArray⟩) w := by
  rcases h.2 with ⟨rfl, h0⟩ | ⟨g, cap, cur, rfl, _⟩
  · obtain rfl : l = [] := List.eq_nil_of_length_eq_zero h0
    exact run_convert_bytes_nil (P := Tryz.prog) w 22 5 Tryz.underlying22 Tryz.underlying5 0 0 9 Tryz.underlying9
  · refine run_convert_bytes_back (P := Tryz.prog) w 22 9 5 ⟨g, 0, none⟩ cap l Tryz.underlying22 Tryz.underlying5 Tryz.underlying9 ?_
    intro j hj
    exact h.cells rfl j _ (by simp [Lib.byteCells, hj])
theorem bts_sub (s : ByteArray) (k : Nat) (h : k < s.size) : bts (s.extract k (k + 1)) = [s[k]'h] := by
  rw [bts_extract, bts_take s k h, List.drop_append_of_le_length (by rw [List.length_take, bts_len]; omega), List.drop_of_length_le (by rw [List.length_take, bts_len]; omega)]
  rfl
end Go.Proofs.YtjldpkhfiffinaaGreatDoor.U
namespace Go.Proofs.YtjldpkhfiffinaaGreatDoor.U
open Go.RowKit Go.Shelf
end Go.Proofs.YtjldpkhfiffinaaGreatDoor.U

namespace Go.Proofs.YtjldpkhfiffinaaGreatDoor.U
open Go.RowKit Go.Shelf
/-- A place that is told; -1: none. -/
def foundZ (k : Nat) : Option Nat → Int
  | some e => ((k + e : Nat) : Int)
  | none => -1
/-- Where a name ends; -1: there is none. -/
def nameZ (k : Nat) (l : List UInt8) : Int := if nameL (l.take (nameN l)) = true then ((k + nameN l : Nat) : Int) else -1
end Go.Proofs.YtjldpkhfiffinaaGreatDoor.U
namespace Go.Proofs.YtjldpkhfiffinaaGreatDoor.U
open Go.RowKit Go.Shelf
theorem unA_err : ∀ (f : Nat) (acc l : List UInt8) (z : Int), unA f acc l = .error z → z = 12 ∨ z = 13 := by
  intro f
  induction f with
  | zero => intro acc l z h; cases h
  | succ f ih =>
    intro acc l z h
    cases l with
    | nil => cases h
    | cons c t =>
      simp only [unA] at h
      split at h
      · simp only [Except.error.injEq] at h; omega
      · split at h
        · cases hr : refL t with
          | none => rw [hr] at h; simp only [Except.error.injEq] at h; omega
          | some y => rw [hr] at h; exact ih _ _ _ h
        · exact ih _ _ _ h
theorem unL_err {acc l : List UInt8} {z : Int} (h : unL acc l = .error z) : z = 12 ∨ z = 13 := unA_err _ _ _ _ h
/-- What value answers. -/
def valueZ (k : Nat) : Option (List UInt8 × Nat) → Value
  | none => .tuple #[.string ⟨#[]⟩, .int .i64 (-1)]
  | some (x, n) => .tuple #[.string ⟨x.toArray⟩, .int .i64 ((k + n : Nat) : Int)]
end Go.Proofs.YtjldpkhfiffinaaGreatDoor.U
