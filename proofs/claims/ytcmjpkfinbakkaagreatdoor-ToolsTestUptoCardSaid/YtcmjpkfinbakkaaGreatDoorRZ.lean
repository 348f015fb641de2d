import Derived.Shelf.Strings.Builder1
import Derived.Shelf.Strings.Builder2
import Derived.Shelf.Strings.OnBuilder
import Derived.Shelf.Strings.Trim
import Derived.Shelf.Small.Utf8
import Derived.Shelf.Small.Bits
import Derived.Shelf.Small.Strs
import Derived.Shelf.Small.Wraps
import Derived.Shelf.Strings.BuilderF
import Derived.Shelf.Strings.BuilderK
import Derived.Shelf.Utf8.RuneCount
import Derived.Shelf.Strings.Builder2Cap
import Derived.Shelf.Strconv.Itoa0
import Derived.Shelf.Strconv.Itoa1
import Derived.Shelf.LaysM
import Derived.Shelf.Strconv.Itoa2
import Derived.Shelf.Strconv.Itoa3
import Derived.Shelf.Strconv.Itoa4
import Derived.Shelf.Strconv.Clone
import Derived.Shelf.Strconv.SyntaxError
import Derived.Shelf.Strconv.Lower
import Derived.Shelf.Strconv.ParseUint10
import Derived.Shelf.Strconv.ParseUint10Empty
import Derived.Shelf.Strconv.RangeError
import Derived.Shelf.Strconv.ParseUintEmpty
import Derived.Shelf.Strconv.ParseUint10b64
import Derived.Shelf.Strconv.ParseUint10b32
import Derived.Shelf.Strconv.ParseUint10b16
import Derived.Shelf.Strconv.ParseUint10b8
import Derived.Shelf.Strings.Search1
import Derived.Shelf.Strings.Search2
import Derived.Shelf.Strings.Search3
import Derived.Shelf.Strings.Count
import Derived.Shelf.Strings.Shaped
import Derived.Shelf.Sort.Plain
import Derived.Shelf.Strings.Prefix
import Derived.Shelf.Strings.Split
import Derived.Shelf.Strings.SplitShaped
import Derived.Shelf.Unicode.Decode
import Derived.Shelf.Strings.Runes
import Derived.Shelf.Strings.RuneCount
import Derived.Shelf.Strings.IndexAny
import Derived.Shelf.Strings.AsciiSet
import Derived.Shelf.Strings.IndexAnyAll
import Derived.Shelf.Strings.Explode
import Derived.Shelf.Bits.Mul64
import Derived.Shelf.Strings.Repeat
import Derived.Shelf.Unicode.DecodeSlow
import Derived.Shelf.Unicode.DecodeAny
import Derived.Shelf.Unicode.DecodeLast
import Derived.Shelf.Slices.Equal
import Derived.Shelf.Slices.CompactS
import Derived.Shelf.Slices.Cells
import Derived.Shelf.Slices.In.SortNone
import Derived.Shelf.Slices.Empties2
import Derived.Ground.SlbCloneProg
import Derived.Shelf.Bytes.SlClone
import Derived.Test.YtcmjpkfinbakkaaGreatDoorProg
import Derived.Test.YtcmjpkfinbakkaaGreatDoorTA
import Derived.Lib.AppendStr
import Derived.Deep.RegionHeld3
namespace Go.Proofs
open Go.Shelf
def Tryz.lays160_ren : Go.Shelf.Ren := ⟨fun | 160 => 208 | 232 => 245 | 231 => 244 | 227 => 121 | 234 => 247 | 233 => 246 | 236 => 249 | 235 => 248 | 228 => 122 | 271 => 275 | 151 => 274 | 197 => 188 | 120 => 290 | 152 => 119 | 260 => 233 | 137 => 176 | 119 => 177 | 224 => 178 | 225 => 179 | 217 => 221 | 266 => 261 | n => n, fun | 9 => 9 | 4 => 4 | 3 => 3 | 5 => 5 | 117 => 157 | 116 => 156 | 0 => 0 | 124 => 205 | 21 => 21 | 105 => 212 | 46 => 108 | 119 => 272 | 139 => 275 | 138 => 274 | n => n, fun | 3 => 2 | 4 => 3 | n => n⟩
theorem Tryz.lays160 : Go.Proofs.Lays.n160 Tryz.prog Tryz.lays160_ren := {
  mixed := by kernel_rfl
  f119 := Tryz.func177.trans (congrArg some (by kernel_rfl))
  f120 := Tryz.func290.trans (congrArg some (by kernel_rfl))
  f137 := Tryz.func176.trans (congrArg some (by kernel_rfl))
  f151 := Tryz.func274.trans (congrArg some (by kernel_rfl))
  f152 := Tryz.func119.trans (congrArg some (by kernel_rfl))
  f160 := Tryz.func208.trans (congrArg some (by kernel_rfl))
  f197 := Tryz.func188.trans (congrArg some (by kernel_rfl))
  f217 := Tryz.func221.trans (congrArg some (by kernel_rfl))
  f224 := Tryz.func178.trans (congrArg some (by kernel_rfl))
  f225 := Tryz.func179.trans (congrArg some (by kernel_rfl))
  f227 := Tryz.func121.trans (congrArg some (by kernel_rfl))
  f228 := Tryz.func122.trans (congrArg some (by kernel_rfl))
  f231 := Tryz.func244.trans (congrArg some (by kernel_rfl))
  f232 := Tryz.func245.trans (congrArg some (by kernel_rfl))
  f233 := Tryz.func246.trans (congrArg some (by kernel_rfl))
  f234 := Tryz.func247.trans (congrArg some (by kernel_rfl))
  f235 := Tryz.func248.trans (congrArg some (by kernel_rfl))
  f236 := Tryz.func249.trans (congrArg some (by kernel_rfl))
  f260 := Tryz.func233.trans (congrArg some (by kernel_rfl))
  f266 := Tryz.func261.trans (congrArg some (by kernel_rfl))
  f271 := Tryz.func275.trans (congrArg some (by kernel_rfl))
  t0 := Tryz.underlying0
  a0 := Tryz.isAgg0
  z0 := Tryz.sizeOf0
  v0 := Tryz.zeroValue0
  t3 := Tryz.underlying3
  a3 := Tryz.isAgg3
  z3 := Tryz.sizeOf3
  v3 := Tryz.zeroValue3
  t4 := Tryz.underlying4
  a4 := Tryz.isAgg4
  z4 := Tryz.sizeOf4
  v4 := Tryz.zeroValue4
  t5 := Tryz.underlying5
  a5 := Tryz.isAgg5
  z5 := Tryz.sizeOf5
  v5 := Tryz.zeroValue5
  t9 := Tryz.underlying9
  a9 := Tryz.isAgg9
  z9 := Tryz.sizeOf9
  v9 := Tryz.zeroValue9
  t21 := Tryz.underlying21
  a21 := Tryz.isAgg21
  z21 := Tryz.sizeOf21
  v21 := Tryz.zeroValue21
  t46 := Tryz.underlying108
  a46 := Tryz.isAgg108
  z46 := Tryz.sizeOf108
  v46 := Tryz.zeroValue108
  t105 := Tryz.underlying212
  a105 := Tryz.isAgg212
  z105 := Tryz.sizeOf212
  v105 := Tryz.zeroValue212
  t116 := Tryz.underlying156
  a116 := Tryz.isAgg156
  z116 := Tryz.sizeOf156
  t117 := Tryz.underlying157
  a117 := Tryz.isAgg157
  z117 := Tryz.sizeOf157
  v117 := Tryz.zeroValue157
  t119 := Tryz.underlying272
  a119 := Tryz.isAgg272
  z119 := Tryz.sizeOf272
  t124 := Tryz.underlying205
  a124 := Tryz.isAgg205
  z124 := Tryz.sizeOf205
  v124 := Tryz.zeroValue205
  t138 := Tryz.underlying274
  a138 := Tryz.isAgg274
  z138 := Tryz.sizeOf274
  v138 := Tryz.zeroValue274
  t139 := Tryz.underlying275
  a139 := Tryz.isAgg275
  z139 := Tryz.sizeOf275
  v139 := Tryz.zeroValue275
  g3 := by kernel_rfl
  g4 := by kernel_rfl }
open Go.RowKit in
theorem Tryz.strings_Trim_one (s : ByteArray) (c : UInt8) (hc : c.toNat < 128) (w : World) (hs : s.size ≤ 9223372036854775807) :
    Calls Tryz.prog 208 #[.string s, .string ⟨#[c]⟩] w fun e w' => e = .returned (.string ⟨(Lib.trimB s.data.toList c).toArray⟩) ∧ (w' = w ∨ w' = w.drew) := Any.strings_Trim_one Tryz.lays160 s c hc w hs
def Tryz.lays171_ren : Go.Shelf.Ren := ⟨fun | 171 => 147 | 243 => 200 | 246 => 214 | 283 => 254 | 284 => 255 | 285 => 256 | 286 => 257 | 129 => 144 | 317 => 282 | 318 => 283 | 319 => 284 | 320 => 285 | 337 => 293 | 338 => 294 | n => n, fun | 3 => 3 | 9 => 9 | 2 => 2 | 4 => 4 | 171 => 260 | 0 => 0 | 53 => 52 | 37 => 41 | 5 => 5 | 173 => 262 | 212 => 286 | 51 => 178 | 20 => 20 | 213 => 287 | 46 => 108 | 232 => 299 | 233 => 300 | n => n, fun | 17 => 4 | 18 => 7 | 19 => 8 | n => n⟩
theorem Tryz.lays171 : Go.Proofs.Lays.n171 Tryz.prog Tryz.lays171_ren := {
  mixed := by kernel_rfl
  f129 := Tryz.func144.trans (congrArg some (by kernel_rfl))
  f171 := Tryz.func147.trans (congrArg some (by kernel_rfl))
  f243 := Tryz.func200.trans (congrArg some (by kernel_rfl))
  f246 := Tryz.func214.trans (congrArg some (by kernel_rfl))
  f283 := Tryz.func254.trans (congrArg some (by kernel_rfl))
  f284 := Tryz.func255.trans (congrArg some (by kernel_rfl))
  f285 := Tryz.func256.trans (congrArg some (by kernel_rfl))
  f286 := Tryz.func257.trans (congrArg some (by kernel_rfl))
  f317 := Tryz.func282.trans (congrArg some (by kernel_rfl))
  f318 := Tryz.func283.trans (congrArg some (by kernel_rfl))
  f319 := Tryz.func284.trans (congrArg some (by kernel_rfl))
  f320 := Tryz.func285.trans (congrArg some (by kernel_rfl))
  f337 := Tryz.func293.trans (congrArg some (by kernel_rfl))
  f338 := Tryz.func294.trans (congrArg some (by kernel_rfl))
  t0 := Tryz.underlying0
  a0 := Tryz.isAgg0
  z0 := Tryz.sizeOf0
  v0 := Tryz.zeroValue0
  t2 := Tryz.underlying2
  a2 := Tryz.isAgg2
  z2 := Tryz.sizeOf2
  v2 := Tryz.zeroValue2
  t3 := Tryz.underlying3
  a3 := Tryz.isAgg3
  z3 := Tryz.sizeOf3
  v3 := Tryz.zeroValue3
  t4 := Tryz.underlying4
  a4 := Tryz.isAgg4
  z4 := Tryz.sizeOf4
  v4 := Tryz.zeroValue4
  t5 := Tryz.underlying5
  a5 := Tryz.isAgg5
  z5 := Tryz.sizeOf5
  v5 := Tryz.zeroValue5
  t9 := Tryz.underlying9
  a9 := Tryz.isAgg9
  z9 := Tryz.sizeOf9
  v9 := Tryz.zeroValue9
  t20 := Tryz.underlying20
  a20 := Tryz.isAgg20
  z20 := Tryz.sizeOf20
  v20 := Tryz.zeroValue20
  t37 := Tryz.underlying41
  a37 := Tryz.isAgg41
  z37 := Tryz.sizeOf41
  v37 := Tryz.zeroValue41
  t46 := Tryz.underlying108
  a46 := Tryz.isAgg108
  z46 := Tryz.sizeOf108
  v46 := Tryz.zeroValue108
  t51 := Tryz.underlying178
  a51 := Tryz.isAgg178
  z51 := Tryz.sizeOf178
  v51 := Tryz.zeroValue178
  t53 := Tryz.underlying52
  a53 := Tryz.isAgg52
  z53 := Tryz.sizeOf52
  v53 := Tryz.zeroValue52
  t171 := Tryz.underlying260
  a171 := Tryz.isAgg260
  z171 := Tryz.sizeOf260
  v171 := Tryz.zeroValue260
  t173 := Tryz.underlying262
  a173 := Tryz.isAgg262
  z173 := Tryz.sizeOf262
  v173 := Tryz.zeroValue262
  t212 := Tryz.underlying286
  a212 := Tryz.isAgg286
  z212 := Tryz.sizeOf286
  v212 := Tryz.zeroValue286
  t213 := Tryz.underlying287
  a213 := Tryz.isAgg287
  z213 := Tryz.sizeOf287
  t232 := Tryz.underlying299
  a232 := Tryz.isAgg299
  z232 := Tryz.sizeOf299
  v232 := Tryz.zeroValue299
  t233 := Tryz.underlying300
  a233 := Tryz.isAgg300
  z233 := Tryz.sizeOf300
  v233 := Tryz.zeroValue300
  g17 := by kernel_rfl
  g18 := by kernel_rfl
  g19 := by kernel_rfl }
open Go.RowKit Go.Sort Go.Lib in
theorem Tryz.strconv_Itoa_small (i : Nat) (hi : i < 100) (w : World) :
    Calls Tryz.prog 147 #[.int .i64 i] w fun e w' => e = .returned (.string ⟨(Lib.decDigits i).toArray⟩) ∧ w' = w := Any.strconv_Itoa_small Tryz.lays171 i hi w
def Tryz.laysM173_ren : Go.Shelf.Ren := ⟨fun | 173 => 165 | 246 => 214 | 283 => 254 | 284 => 255 | 285 => 256 | 286 => 257 | 129 => 144 | 317 => 282 | 318 => 283 | 319 => 284 | 320 => 285 | 337 => 293 | 338 => 294 | n => n, fun | 2 => 2 | 3 => 3 | 9 => 9 | 4 => 4 | 171 => 260 | 0 => 0 | 53 => 52 | 37 => 41 | 5 => 5 | 173 => 262 | 212 => 286 | 51 => 178 | 20 => 20 | 213 => 287 | 46 => 108 | 232 => 299 | 233 => 300 | n => n, fun | 17 => 4 | 18 => 7 | 19 => 8 | n => n⟩
theorem Tryz.laysM173 : Go.Proofs.LaysM.n173 Tryz.prog Tryz.laysM173_ren := {
  mixed := by kernel_rfl
  f129 := Tryz.func144.trans (congrArg some (by kernel_rfl))
  f173 := Tryz.func165.trans (congrArg some (by kernel_rfl))
  f246 := Tryz.func214.trans (congrArg some (by kernel_rfl))
  f283 := Tryz.func254.trans (congrArg some (by kernel_rfl))
  f284 := Tryz.func255.trans (congrArg some (by kernel_rfl))
  f285 := Tryz.func256.trans (congrArg some (by kernel_rfl))
  f286 := Tryz.func257.trans (congrArg some (by kernel_rfl))
  f317 := Tryz.func282.trans (congrArg some (by kernel_rfl))
  f318 := Tryz.func283.trans (congrArg some (by kernel_rfl))
  f319 := Tryz.func284.trans (congrArg some (by kernel_rfl))
  f320 := Tryz.func285.trans (congrArg some (by kernel_rfl))
  f337 := Tryz.func293.trans (congrArg some (by kernel_rfl))
  f338 := Tryz.func294.trans (congrArg some (by kernel_rfl))
  t0 := Tryz.underlying0
  a0 := Tryz.isAgg0
  z0 := Tryz.sizeOf0
  v0 := Tryz.zeroValue0
  t2 := Tryz.underlying2
  a2 := Tryz.isAgg2
  z2 := Tryz.sizeOf2
  v2 := Tryz.zeroValue2
  t3 := Tryz.underlying3
  a3 := Tryz.isAgg3
  z3 := Tryz.sizeOf3
  v3 := Tryz.zeroValue3
  t4 := Tryz.underlying4
  a4 := Tryz.isAgg4
  z4 := Tryz.sizeOf4
  v4 := Tryz.zeroValue4
  t5 := Tryz.underlying5
  a5 := Tryz.isAgg5
  z5 := Tryz.sizeOf5
  v5 := Tryz.zeroValue5
  t9 := Tryz.underlying9
  a9 := Tryz.isAgg9
  z9 := Tryz.sizeOf9
  v9 := Tryz.zeroValue9
  t20 := Tryz.underlying20
  a20 := Tryz.isAgg20
  z20 := Tryz.sizeOf20
  v20 := Tryz.zeroValue20
  t37 := Tryz.underlying41
  a37 := Tryz.isAgg41
  z37 := Tryz.sizeOf41
  v37 := Tryz.zeroValue41
  t46 := Tryz.underlying108
  a46 := Tryz.isAgg108
  z46 := Tryz.sizeOf108
  v46 := Tryz.zeroValue108
  t51 := Tryz.underlying178
  a51 := Tryz.isAgg178
  z51 := Tryz.sizeOf178
  v51 := Tryz.zeroValue178
  t53 := Tryz.underlying52
  a53 := Tryz.isAgg52
  z53 := Tryz.sizeOf52
  v53 := Tryz.zeroValue52
  t171 := Tryz.underlying260
  a171 := Tryz.isAgg260
  z171 := Tryz.sizeOf260
  v171 := Tryz.zeroValue260
  t173 := Tryz.underlying262
  a173 := Tryz.isAgg262
  z173 := Tryz.sizeOf262
  v173 := Tryz.zeroValue262
  t212 := Tryz.underlying286
  a212 := Tryz.isAgg286
  z212 := Tryz.sizeOf286
  v212 := Tryz.zeroValue286
  t213 := Tryz.underlying287
  a213 := Tryz.isAgg287
  z213 := Tryz.sizeOf287
  t232 := Tryz.underlying299
  a232 := Tryz.isAgg299
  z232 := Tryz.sizeOf299
  v232 := Tryz.zeroValue299
  t233 := Tryz.underlying300
  a233 := Tryz.isAgg300
  z233 := Tryz.sizeOf300
  v233 := Tryz.zeroValue300
  g17 := by kernel_rfl
  g18 := by kernel_rfl
  g19 := by kernel_rfl
  i0 := by kernel_rfl
  i2 := by kernel_rfl
  i3 := by kernel_rfl
  i4 := by kernel_rfl
  i5 := by kernel_rfl
  i9 := by kernel_rfl
  i20 := by kernel_rfl
  i37 := by kernel_rfl
  i46 := by kernel_rfl
  i51 := by kernel_rfl
  i53 := by kernel_rfl
  i171 := by kernel_rfl
  i173 := by kernel_rfl
  i212 := by kernel_rfl
  i232 := by kernel_rfl
  i233 := by kernel_rfl
  m17 := by kernel_rfl
  m18 := by kernel_rfl
  m19 := by kernel_rfl }
open Go.RowKit Go.Sort Go.Lib in
theorem Tryz.strconv_FormatInt_10 (n : Int) (h0 : -9223372036854775808 ≤ n) (h1 : n ≤ 9223372036854775807) (w : World) (htab : Lib.TabIs Tryz.prog w "internal/strconv.uint64pow10" .u64 Lib.pow10Tab) :
    Calls Tryz.prog 165 #[.int .i64 n, .int .i64 10] w fun e w' => e = .returned (.string ⟨(Lib.itoa n).toArray⟩) ∧ ∃ k os, w' = grow (w.drewN k) os := Any.strconv_FormatInt_10 Tryz.laysM173 n h0 h1 w htab
def Tryz.lays105_ren : Go.Shelf.Ren := ⟨fun | 105 => 167 | 212 => 216 | 99 => 41 | 165 => 145 | 166 => 81 | 170 => 217 | 169 => 83 | 263 => 258 | 264 => 259 | 206 => 86 | 240 => 127 | 241 => 197 | 276 => 183 | 277 => 236 | n => n, fun | 9 => 9 | 3 => 3 | 4 => 4 | 20 => 20 | 0 => 0 | 46 => 108 | 109 => 237 | 5 => 5 | 72 => 121 | 76 => 124 | 51 => 178 | 146 => 264 | 53 => 52 | 148 => 266 | 70 => 119 | 37 => 41 | 75 => 123 | 127 => 161 | 164 => 209 | 80 => 127 | n => n, fun | n => n⟩
theorem Tryz.lays105 : Go.Proofs.Lays.n105 Tryz.prog Tryz.lays105_ren := {
  mixed := by kernel_rfl
  f99 := Tryz.func41.trans (congrArg some (by kernel_rfl))
  f105 := Tryz.func167.trans (congrArg some (by kernel_rfl))
  f165 := Tryz.func145.trans (congrArg some (by kernel_rfl))
  f166 := Tryz.func81.trans (congrArg some (by kernel_rfl))
  f169 := Tryz.func83.trans (congrArg some (by kernel_rfl))
  f170 := Tryz.func217.trans (congrArg some (by kernel_rfl))
  f206 := Tryz.func86.trans (congrArg some (by kernel_rfl))
  f212 := Tryz.func216.trans (congrArg some (by kernel_rfl))
  f240 := Tryz.func127.trans (congrArg some (by kernel_rfl))
  f241 := Tryz.func197.trans (congrArg some (by kernel_rfl))
  f263 := Tryz.func258.trans (congrArg some (by kernel_rfl))
  f264 := Tryz.func259.trans (congrArg some (by kernel_rfl))
  f276 := Tryz.func183.trans (congrArg some (by kernel_rfl))
  f277 := Tryz.func236.trans (congrArg some (by kernel_rfl))
  t0 := Tryz.underlying0
  a0 := Tryz.isAgg0
  z0 := Tryz.sizeOf0
  v0 := Tryz.zeroValue0
  t3 := Tryz.underlying3
  a3 := Tryz.isAgg3
  z3 := Tryz.sizeOf3
  v3 := Tryz.zeroValue3
  t4 := Tryz.underlying4
  a4 := Tryz.isAgg4
  z4 := Tryz.sizeOf4
  v4 := Tryz.zeroValue4
  t5 := Tryz.underlying5
  a5 := Tryz.isAgg5
  z5 := Tryz.sizeOf5
  v5 := Tryz.zeroValue5
  t9 := Tryz.underlying9
  a9 := Tryz.isAgg9
  z9 := Tryz.sizeOf9
  v9 := Tryz.zeroValue9
  t20 := Tryz.underlying20
  a20 := Tryz.isAgg20
  z20 := Tryz.sizeOf20
  v20 := Tryz.zeroValue20
  t37 := Tryz.underlying41
  a37 := Tryz.isAgg41
  z37 := Tryz.sizeOf41
  v37 := Tryz.zeroValue41
  t46 := Tryz.underlying108
  a46 := Tryz.isAgg108
  z46 := Tryz.sizeOf108
  v46 := Tryz.zeroValue108
  t51 := Tryz.underlying178
  a51 := Tryz.isAgg178
  z51 := Tryz.sizeOf178
  v51 := Tryz.zeroValue178
  t53 := Tryz.underlying52
  a53 := Tryz.isAgg52
  z53 := Tryz.sizeOf52
  v53 := Tryz.zeroValue52
  t70 := Tryz.underlying119
  a70 := Tryz.isAgg119
  z70 := Tryz.sizeOf119
  v70 := Tryz.zeroValue119
  t72 := Tryz.underlying121
  a72 := Tryz.isAgg121
  z72 := Tryz.sizeOf121
  v72 := Tryz.zeroValue121
  t75 := Tryz.underlying123
  a75 := Tryz.isAgg123
  z75 := Tryz.sizeOf123
  v75 := Tryz.zeroValue123
  t76 := Tryz.underlying124
  a76 := Tryz.isAgg124
  z76 := Tryz.sizeOf124
  v76 := Tryz.zeroValue124
  t109 := Tryz.underlying237
  a109 := Tryz.isAgg237
  z109 := Tryz.sizeOf237
  v109 := Tryz.zeroValue237
  t127 := Tryz.underlying161
  a127 := Tryz.isAgg161
  z127 := Tryz.sizeOf161
  v127 := Tryz.zeroValue161
  t146 := Tryz.underlying264
  a146 := Tryz.isAgg264
  z146 := Tryz.sizeOf264
  v146 := Tryz.zeroValue264
  t148 := Tryz.underlying266
  a148 := Tryz.isAgg266
  z148 := Tryz.sizeOf266
  v148 := Tryz.zeroValue266
  t164 := Tryz.underlying209
  a164 := Tryz.isAgg209
  z164 := Tryz.sizeOf209
  v164 := Tryz.zeroValue209 }
theorem Tryz.Builder_Extra_105 : Builder.Extra Tryz.prog Tryz.lays105_ren := {
  sizeBuilder := by kernel_rfl
  liesBuilder := by kernel_rfl
  t5 := Tryz.underlying5
  a5 := Tryz.isAgg5
  z5 := Tryz.sizeOf5
  v5 := Tryz.zeroValue5
  infoByte := by kernel_rfl
  cellsByte := by kernel_rfl
  sizeByte := by kernel_rfl
  neB5 := by decide }
open Go.RowKit Go.Lib in
theorem Tryz.strings_Repeat (s : ByteArray) (c : Nat) (w : World) (hc : c ≤ 9223372036854775807) (hlen : s.size * c ≤ 140737488355328) :
    Calls Tryz.prog 167 #[.string s, .int .i64 c] w fun e w' => e = .returned (.string ⟨(Lib.repeatL s.data.toList c).toArray⟩) ∧ Below w.heap.size w w' := Any.strings_Repeat Tryz.lays105 Tryz.Builder_Extra_105 s c w hc hlen
end Go.Proofs

namespace Go.Proofs.YtcmjpkfinbakkaaGreatDoor
open Go.RowKit Go.ChangeShapes Go.WideShapes
set_option linter.unusedVariables false
set_option maxRecDepth 100000

/-- What is complained of x. -/
def logB (name x : ByteArray) (k : Nat) : ByteArray := name ++ ⟨#[58, 32]⟩ ++ x ++ ⟨#[58, 32, 101, 114, 114, 111, 114, 32]⟩ ++ ⟨(Lib.decDigits k).toArray⟩ ++ ⟨#[10]⟩
theorem str_u8 (s : ByteArray) : Lib.strCells s = u8s s.data.toList := by
  unfold Lib.strCells u8s
  simp
theorem Tool.stat {w : World} {B t : Nat} {f : Value} {cwd name : ByteArray} {inn : Value} {st : Int} {o : Value} {s : Bz} {l : Value} {m : Bz} (h : Tool w B t f cwd name inn st o s l m) (st' : Int) :
    Tool (w.setCell ⟨t, 4, none⟩ (.int .i64 st')) B t f cwd name inn st' o s l m :=
  ⟨set_of h.blk 4 _, h.base, row_only h.out fun g hg _ => Below.heap_setCell _ _ _ _ (fun e => h.no (by rw [hg]; exact congrArg some e)), row_only h.log fun g hg _ => Below.heap_setCell _ _ _ _ (fun e => h.nl (by rw [hg]; exact congrArg some e)), h.no, h.nl, h.ap⟩
/-- The first complaint: what lies behind the append and the store. -/
theorem Tool.logged {w W w' : World} {B t : Nat} {f : Value} {cwd name : ByteArray} {inn : Value} {st : Int} {o l' : Value} {s m : Bz} (h : Tool w B t f cwd name inn st o s (.slice none 0 0) []) (hW : W.heap = w.heap)
    (r1 : w'.ownsRow W.heap.size 5 1 l' m.length (u8s m)) (r2 : W.grownBy w' none) (hos : W.os = w.os) (htp : W.tape = w.tape) (hou : W.output = w.output) :
    w'.heap[t]? = some (.cells (tlC f cwd name inn st o (.slice none 0 0)).toArray 98 (0, 0)) ∧ Tool (w'.setCell ⟨t, 6, none⟩ l') B t f cwd name inn st o s l' m ∧ Only (fun k => k = t) w (w'.setCell ⟨t, 6, none⟩ l') := by
  have ht : t < w.heap.size := blk_lt h.blk
  have h1 : w'.heap[t]? = some (.cells (tlC f cwd name inn st o (.slice none 0 0)).toArray 98 (0, 0)) := by
    rw [r2.block t (by rw [hW]; exact ht) (fun e => by cases e), hW]; exact h.blk
  have hge : ∀ g, l'.ownBlock = some g → w.heap.size ≤ g := fun g hg => by have := (own_lt r1 hg).1; rw [hW] at this; exact this
  have hlt : l'.ownBlock ≠ some t := fun e => by have := hge t e; omega
  have hB : B ≤ w.heap.size := by have := h.base; omega
  have r1' : w'.ownsRow B 5 1 l' m.length (u8s m) := ⟨r1.1, r1.2.elim .inl (fun ⟨g, cap, cur, hv, hg, r⟩ => .inr ⟨g, cap, cur, hv, by rw [hW] at hg; omega, r⟩)⟩
  refine ⟨h1, ⟨set_of h1 6 l', h.base, row_only h.out fun g hg hl => ?_, row_only r1' fun g hg _ => ?_, h.no, hlt, fun k hk hl => ?_⟩, ?_⟩
  · rw [Below.heap_setCell _ _ _ _ (fun e => h.no (by rw [hg]; exact congrArg some e)), r2.block g (by rw [hW]; exact hl) (fun e => by cases e), hW]
  · exact Below.heap_setCell _ _ _ _ (fun e => hlt (by rw [hg]; exact congrArg some e))
  · have := hge k hl; have := (own_lt h.out hk).2; omega
  · have hO : Only (fun k => k = t) w w' := ⟨r2.os.trans hos, r2.tape.trans htp, r2.output.trans hou, by rw [← hW]; exact r2.size, fun i hi hn => by
      rw [r2.block i (by rw [hW]; exact hi) (fun e => by cases e), hW]⟩
    exact hO.set (.inl rfl) 6 l'
def CompP (B t : Nat) (f : Value) (cwd name : ByteArray) (inn : Value) (st : Int) (o : Value) (s m : Bz) (w : World) (e : Ending) (w' : World) : Prop :=
  e = .returned (.tuple #[]) ∧ ∃ l', Tool w' B t f cwd name inn st o s l' m ∧ Only (fun k => k = t) w w'
set_option pp.maxSteps 4000 in
set_option maxHeartbeats 8000000 in
theorem complain_any (B t : Nat) (f : Value) (cwd name : ByteArray) (inn : Value) (st st0 : Int) (o : Value) (s : Bz) (x : ByteArray) (k : Nat) (w : World) (h : Tool w B t f cwd name inn st0 o s (.slice none 0 0) []) (hn : name.size ≤ 1000) (hx : x.size ≤ 1000) (hk1 : 1 ≤ k) (hk : k < 100) :
    Calls Tryz.prog 113 #[.pointer (some ⟨t, 0, none⟩), .int .i64 st, .string x, .int .i64 (k : Int)] w (CompP B t f cwd name inn st o s (logB name x k).data.toList w) := by
  obtain ⟨Q', hQ⟩ : ∃ Q', CompP B t f cwd name inn st o s (logB name x k).data.toList w = Q' := ⟨_, rfl⟩
  rw [hQ]
  obtain ⟨i0, hi, hz0, hz1, hz2⟩ := info_parts info5
  have hdk : (Lib.decDigits k).length ≤ 100 := by
    have : (Lib.decDigits k).length ≤ k + 1 := by
      have hd : ∀ n, (Lib.decDigits n).length ≤ n + 1 := by
        intro n
        induction n using Nat.strongRecOn with
        | ind n ih =>
          rw [Lib.decDigits]
          split
          · simp
          · have := ih (n / 10) (by omega)
            rw [List.length_append]
            simp
            omega
      exact hd k
    omega
  have hsz : (logB name x k).size = name.size + 2 + x.size + 8 + (Lib.decDigits k).length + 1 := by
    unfold logB
    simp only [ByteArray.size_append]
    rfl
  have h4 := h.stat st
  obtain ⟨w1, hw1⟩ : ∃ w1, w.setCell ⟨t, 4, none⟩ (.int .i64 st) = w1 := ⟨_, rfl⟩
  rw [hw1] at h4
  have hO1 : Only (fun k => k = t) w w1 := by rw [← hw1]; exact (Only.refl (fun k => k = t) w).set (.inl rfl) 4 _
  obtain ⟨l', w', hrun, r1, r2, _⟩ := Lib.run_append_own_string (P := Tryz.prog) (w := w1.drew) w1.drew.heap.size 41 9 41 5 i0 Tryz.underlying41 Tryz.underlying9 hi hz0 hz1 hz2 (.slice none 0 0) 0 [] (World.ownsRow_nil _ _ _ _) (logB name x k) (by unfold maxLen; omega) (by omega) (Nat.le_refl _)
  rw [Nat.zero_add, List.nil_append, str_u8, ← dl] at r1
  obtain ⟨g1, g2, g3⟩ := h4.logged (W := w1.drew) rfl r1 r2 rfl rfl rfl
  obtain ⟨oa, oc, rfl, _⟩ := own_slice r1
  have p4 : w.cell? ⟨t, 4, none⟩ = some (.int .i64 st0) := cell_of h.blk 4
  have e4 := free_of h.blk 4
  have p6 : w1.cell? ⟨t, 6, none⟩ = some (.slice none 0 0) := cell_of h4.blk 6
  have p2 : w1.cell? ⟨t, 2, none⟩ = some (.string name) := cell_of h4.blk 2
  have q6 : w'.cell? ⟨t, 6, none⟩ = some (.slice none 0 0) := cell_of g1 6
  have q2 : w'.cell? ⟨t, 2, none⟩ = some (.string name) := cell_of g1 2
  have e6 := free_of g1 6
  have kne : ¬ ((k : Int) = 0) := by omega
  have kbe : ((k : Int) == 0) = false := by rw [beq_eq_false_iff_ne]; exact kne
  have HI := Lib.hid (fun w => Tryz.strconv_Itoa_small k hk w)
  have HRUN := Lib.hid hrun
  have H2 : Hid (Q' (.returned (.tuple #[])) (w'.setCell ⟨t, 6, none⟩ (.slice oa (logB name x k).data.toList.length oc))) := by
    rw [← hQ]; exact ⟨rfl, _, g2, hO1.trans g3 (fun _ h => h) (fun _ _ h => h)⟩
  have z1 : ¬ (9223372036854775807 < name.size + 2) := by omega
  have z2 : ¬ (9223372036854775807 < name.size + 2 + x.size) := by omega
  have z3 : ¬ (9223372036854775807 < name.size + 2 + x.size + 8) := by omega
  have z4 : ¬ (9223372036854775807 < name.size + 2 + x.size + 8 + (Lib.decDigits k).length) := by omega
  have z5 : ¬ (9223372036854775807 < name.size + 2 + x.size + 8 + (Lib.decDigits k).length + 1) := by omega
  have hDs : (⟨(Lib.decDigits k).toArray⟩ : ByteArray).size = (Lib.decDigits k).length := rfl
  unfold logB at HRUN H2
  generalize (⟨(Lib.decDigits k).toArray⟩ : ByteArray) = D at HRUN H2 HI hDs
  have HW1 := Lib.hid hw1
  clear hrun r1 r2 g1 g2 g3 h4 h hQ hsz hdk hw1 hO1 hn hx
  go_enter Tryz.func113, Tryz.ntmps113
  go_wp2_with fail
  rw [HW1.out]
  refine wp_region_made 18 4 37 _ (by kernel_rfl) (by kernel_rfl) (by kernel_rfl) (Nat.le_refl 37) rfl ?_
  have p6d : w1.drew.cell? ⟨t, 6, none⟩ = some (.slice none 0 0) := p6
  have p2d : w1.drew.cell? ⟨t, 2, none⟩ = some (.string name) := p2
  generalize w1.drew = wz at p6d p2d HRUN ⊢
  have r6 : ∀ b : One wz, b.v.cell? ⟨t, 6, none⟩ = some (.slice none 0 0) := fun b => by rw [b.h]; exact p6d
  have r2 : ∀ b : One wz, b.v.cell? ⟨t, 2, none⟩ = some (.string name) := fun b => by rw [b.h]; exact p2d
  have HC1 : Hid (∀ b : One wz, Calls Tryz.prog 147 #[.int .i64 k] b.v fun e w' => e = .returned (.string D) ∧ ∃ b' : One wz, w' = b'.v) := fun b => (HI.out b.v).mono fun e w' ⟨he, hw⟩ => ⟨he, b, hw⟩
  clear p6 p6d p2 p2d
  unfold isOne
  simp only [List.take_succ_cons, List.take_zero, List.drop_succ_cons, List.drop_zero]
  repeat (go_big_quiet_step (with_reducible exact HC1.out _))
  refine wpQuiet_nil ?_
  refine ⟨by kernel_rfl, .slice oa (name ++ ⟨#[58, 32]⟩ ++ x ++ ⟨#[58, 32, 101, 114, 114, 111, 114, 32]⟩ ++ D ++ ⟨#[10]⟩ : ByteArray).data.toList.length oc, w', ?_, ?_, ?_⟩
  · have hR := HRUN.out
    simp [execOp, resolve, invoke, builtin, Act.eval, hR, Result.andThen]
  · clear r6 r2 HC1
    have r6 : ∀ b : One w', b.v.cell? ⟨t, 6, none⟩ = some (.slice none 0 0) := fun b => by rw [b.h]; exact q6
    have r2 : ∀ b : One w', b.v.cell? ⟨t, 2, none⟩ = some (.string name) := fun b => by rw [b.h]; exact q2
    have HC1 : Hid (∀ b : One w', Calls Tryz.prog 147 #[.int .i64 k] b.v fun e w' => e = .returned (.string D) ∧ ∃ b' : One _, w' = b'.v) := fun b => (HI.out b.v).mono fun e w' ⟨he, hw⟩ => ⟨he, b, hw⟩
    repeat (go_big_quiet_step (with_reducible exact HC1.out _))
    exact wpQuiet_nil rfl
  · clear r6 r2 HC1
    generalize (name ++ ⟨#[58, 32]⟩ ++ x ++ ⟨#[58, 32, 101, 114, 114, 111, 114, 32]⟩ ++ D ++ ⟨#[10]⟩ : ByteArray).data.toList.length = nn at H2 ⊢
    go_wp2_with fail
    refine wpQuiet_nil ?_
    go_end0
    exact H2.out
end Go.Proofs.YtcmjpkfinbakkaaGreatDoor

namespace Go.Proofs.YtcmjpkfinbakkaaGreatDoor.Vf
set_option maxRecDepth 100000
open Go.RowKit Go.Maps Go.ChangeMaps
set_option linter.unusedVariables false

set_option maxHeartbeats 8000000 in
theorem comp0 (t : Nat) (x : ByteArray) (w : World) : Calls Tryz.prog 113 #[.pointer (some ⟨t, 0, none⟩), .int .i64 2, .string x, .int .i64 0] w fun e w' => e = .returned (.tuple #[]) ∧ w' = w := by
  go_enter Tryz.func113, Tryz.ntmps113
  go_wp2_with fail
  refine bodyPost_ret (v := .tuple #[]) ?_ rfl ?_
  · simp [results, Tryz.results113]
  · exact ⟨rfl, rfl⟩
/-- The status and the complaint of a test. -/
def stT (is : Bool) (n : Int) : Int := if n = 0 then (if is then 0 else 1) else 2
def logT (name : ByteArray) (n : Int) : Bz := if n = 0 then [] else (logB name ⟨#[]⟩ 2).data.toList
def TestP (B t : Nat) (f : Value) (cwd name : ByteArray) (inn : Value) (st : Int) (m : Bz) (W : World) (e : Ending) (w' : World) : Prop :=
  e = .returned (.tuple #[]) ∧ (∃ o' l', Tool w' B t f cwd name inn st o' [] l' m) ∧ Below B W w'
/-- The complaint's part of a test. -/
theorem comp_t (B t : Nat) (fv : Value) (cwd name : ByteArray) (inn : Value) (is : Bool) (n : Int) (hn : n = 0 ∨ n = 2) (w : World) (h : Tool w B t fv cwd name inn (if is then 0 else 1) (.slice none 0 0) [] (.slice none 0 0) []) (hnm : name.size ≤ 1000) (hB : B ≤ w.heap.size) :
    Calls Tryz.prog 113 #[.pointer (some ⟨t, 0, none⟩), .int .i64 2, .string ⟨#[]⟩, .int .i64 n] w (TestP B t fv cwd name inn (stT is n) (logT name n) w) := by
  rcases hn with rfl | rfl
  · refine (comp0 t ⟨#[]⟩ w).mono ?_
    rintro e w' ⟨rfl, h1⟩
    obtain rfl := h1.symm
    exact ⟨rfl, ⟨_, _, h⟩, Below.refl _ _⟩
  · refine (complain_any B t fv cwd name inn 2 _ _ [] ⟨#[]⟩ 2 w h hnm (by decide) (by decide) (by decide)).mono ?_
    rintro e w' ⟨rfl, l', h1, h2⟩
    exact ⟨rfl, ⟨_, _, h1⟩, h2.below (fun k e => by rw [e]; exact h.base) hB⟩
set_option maxHeartbeats 8000000 in
theorem test_any (B t f : Nat) (T : Tr) (name : ByteArray) (inn : Value) (v : Value) (is : Bool) (n : Int) (hn : n = 0 ∨ n = 2) (hnm : name.size ≤ 1000) (W : World) (hv : ∃ a k c, v = .slice a k c)
    (h : Tool W B t (.pointer (some ⟨f, 0, none⟩)) ⟨#[47]⟩ name inn 0 (.slice none 0 0) [] (.slice none 0 0) []) (hB : B ≤ W.heap.size) (HT : ∀ w', Below W.heap.size W w' → Calls Tryz.prog 112 #[.pointer (some ⟨f, 0, none⟩), .string ⟨#[47]⟩, v] w' fun e w2 => e = .returned (.tuple #[.bool is, .int .i64 n]) ∧ Below w'.heap.size w' w2) :
    Calls Tryz.prog 62 #[.pointer (some ⟨t, 0, none⟩), v] W (TestP B t (.pointer (some ⟨f, 0, none⟩)) ⟨#[47]⟩ name inn (stT is n) (logT name n) W) := by
  obtain ⟨va, vn, vc, rfl⟩ := hv
  obtain ⟨Q', hQ⟩ : ∃ Q', TestP B t (.pointer (some ⟨f, 0, none⟩)) ⟨#[47]⟩ name inn (stT is n) (logT name n) W = Q' := ⟨_, rfl⟩
  rw [hQ]
  have HQ := Lib.hid hQ
  have ht : t < W.heap.size := blk_lt h.blk
  have HCC : Hid (∀ w', Below W.heap.size W w' → w'.cell? ⟨t, 0, none⟩ = some (.pointer (some ⟨f, 0, none⟩)) ∧ w'.cell? ⟨t, 1, none⟩ = some (.string ⟨#[47]⟩)) := fun w' hb => ⟨(hb.cell (p := ⟨t, 0, none⟩) ht).trans (cell_of h.blk 0), (hb.cell (p := ⟨t, 1, none⟩) ht).trans (cell_of h.blk 1)⟩
  have HA : Hid (∀ w', Below W.heap.size W w' → Calls Tryz.prog 112 #[.pointer (some ⟨f, 0, none⟩), .string ⟨#[47]⟩, .slice va vn vc] w' fun e w2 => e = .returned (.tuple #[.bool is, .int .i64 n]) ∧ Below W.heap.size W w2) := fun w' hb => (HT w' hb).mono fun e w2 h2 => ⟨h2.1, hb.trans (h2.2.mono hb.size)⟩
  have HTL : Hid (∀ w', Below W.heap.size W w' → Tool w' B t (.pointer (some ⟨f, 0, none⟩)) ⟨#[47]⟩ name inn 0 (.slice none 0 0) [] (.slice none 0 0) []) := fun w' hb => ⟨(hb.block t ht).trans h.blk, h.base, World.ownsRow_nil _ _ _ _, World.ownsRow_nil _ _ _ _, (fun e => by cases e), (fun e => by cases e), (fun k e => by cases e)⟩
  have HBB : Hid (B ≤ W.heap.size) := hB
  have HBT : Hid (B ≤ t) := h.base
  have HN := Lib.hid hn
  clear h HT hB hQ hn ht
  go_enter Tryz.func62, Tryz.ntmps62
  obtain ⟨c0, c1⟩ := HCC.out W (Below.refl _ _)
  go_wp2_with fail
  go_region_held3 (fun w' => w'.cell? ⟨t, 0, none⟩ = some (.pointer (some ⟨f, 0, none⟩)) ∧ w'.cell? ⟨t, 1, none⟩ = some (.string ⟨#[47]⟩)) (first | exact HCC.out _ hq1 | exact HCC.out _ (Below.refl _ _).drew) (first
    | (go_at_call 112; ((with_reducible refine (HA.out _ (Below.refl _ _).drew).mono ?_)); rintro e wq1 ⟨rfl, hq1⟩))
  all_goals
    have HZ := Lib.hid hq1
    have HT1 := Lib.hid (HTL.out _ hq1)
    clear hq1
    cases is
    · have HT2 := Lib.hid (HT1.out.stat 1)
      have HB2 : Hid (Below B W (wq1.setCell ⟨t, 4, none⟩ (.int .i64 1))) := (HZ.out.mono HBB.out).setCell (p := ⟨t, 4, none⟩) HBT.out _
      have HS2 : Hid (B ≤ (wq1.setCell ⟨t, 4, none⟩ (.int .i64 1)).heap.size) := by have := HZ.out.size; have := HBB.out; show B ≤ _; simp; omega
      have c4 : wq1.cell? ⟨t, 4, none⟩ = some (.int .i64 0) := cell_of HT1.out.blk 4
      have f4 : wq1.frozen? ⟨t, 4, none⟩ = false := free_of HT1.out.blk 4
      have HCO := Lib.hid (comp_t B t _ _ name inn false n HN.out _ HT2.out hnm HS2.out)
      go_wp2_with (go_at_call 113; refine HCO.out.mono ?_; rintro e w9 ⟨rfl, h9, h9b⟩; have H9 := Lib.hid (And.intro h9 (HB2.out.trans h9b)); clear h9 h9b; simp only [])
      go_end0
      rw [← HQ.out]
      exact ⟨rfl, H9.out.1, H9.out.2⟩
    · have HS2 : Hid (B ≤ wq1.heap.size) := by have := HZ.out.size; have := HBB.out; show B ≤ _; omega
      have HCO := Lib.hid (comp_t B t _ _ name inn true n HN.out _ HT1.out hnm HS2.out)
      go_wp2_with (go_at_call 113; refine HCO.out.mono ?_; rintro e w9 ⟨rfl, h9, h9b⟩; have H9 := Lib.hid (And.intro h9 ((HZ.out.mono HBB.out).trans h9b)); clear h9 h9b; simp only [])
      go_end0
      rw [← HQ.out]
      exact ⟨rfl, H9.out.1, H9.out.2⟩
end Go.Proofs.YtcmjpkfinbakkaaGreatDoor.Vf

namespace Go.Proofs.YtcmjpkfinbakkaaGreatDoor.Vf
open Go.RowKit Go.ChangeShapes Go.WideShapes
set_option linter.unusedVariables false
set_option maxRecDepth 100000

def RunU (st : Int) (s m : Bz) (w : World) (e : Ending) (w' : World) : Prop := ∃ o' l', e = .returned (.agg #[.int .i64 st, o', l']) ∧ w'.ownsRow w.heap.size 5 1 o' s.length (u8s s) ∧ w'.ownsRow w.heap.size 5 1 l' m.length (u8s m) ∧ Below w.heap.size w w'
theorem row_43 {w2 w3 : World} {B : Nat} {v : Value} {s : Bz} {k : Nat} {cs : List Value} (h : w2.ownsRow B 5 1 v s.length (u8s s)) (hk : w2.heap[k]? = some (.cells cs.toArray 43 (0, 0))) (hw : ∀ g, g ≠ k → w3.heap[g]? = w2.heap[g]?) : w3.ownsRow B 5 1 v s.length (u8s s) := by
  refine row_only h fun g hg _ => ?_
  have hne : g ≠ k := by
    intro e
    rcases h.2 with ⟨h1, _⟩ | ⟨g', cap, cur, h1, _, h4, _⟩
    · rw [h1] at hg; cases hg
    · rw [h1] at hg
      have hgg : g' = g := by simpa [Value.ownBlock] using hg
      rw [hgg, e, hk] at h4
      injection h4 with h4
      injection h4 with _ h4 _
      exact absurd h4 (by decide)
  exact hw g hne
end Go.Proofs.YtcmjpkfinbakkaaGreatDoor.Vf
